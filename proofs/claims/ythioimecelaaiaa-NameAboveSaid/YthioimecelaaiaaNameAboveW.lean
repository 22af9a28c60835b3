/- NameAbove: the walk. No condition but that the program's names keep their words. -/
import Derived.Test.YthioimecelaaiaaNameApi
namespace Go.Proofs.Ythioimecelaaiaa
open Go.RowKit
set_option linter.unusedVariables false
set_option linter.unusedSimpArgs false
set_option maxRecDepth 100000

set_option maxHeartbeats 2000000 in
theorem above_walk (A : NameApi) (l m : Txt) (d : Int) (w : World) (hl : l.length ≤ maxLen) (hm : m.length ≤ maxLen) (hd : i64w d) :
    Calls Try.prog 5 #[tx l, tx m, .int .i64 d] w fun e w' => e = .returned (.bool true) ∧ Still w w' := by
  have HS := Lib.hid (fun W => short_any l W hl)
  have HT := Lib.hid (fun W => short_any m W hm)
  have hs : (l.take 300).length ≤ 300 := by rw [List.length_take]; omega
  have ht : (m.take 300).length ≤ 300 := by rw [List.length_take]; omega
  generalize l.take 300 = s at *
  generalize m.take 300 = t at *
  have C1 := Lib.hid (fun W => A.above s d W hs hd)
  have C2 := Lib.hid (fun W => znabove_any s d W hs)
  have C3 := Lib.hid (fun W => A.compare s t W hs ht)
  have C4 := Lib.hid (fun W => zncompare_any s t W hs ht)
  have C8 := Lib.hid (fun W => works8 A W)
  generalize abT s d = x at *
  generalize abE s d = xe at *
  generalize cpN s t = y at *
  generalize cpE s t = ye at *
  unfold tx at *
  clear hs ht hl hm hd
  go_enter Try.func5, Try.ntmps5
  go_wp2_with (first
    | (go_at_call 9; ((with_reducible refine (HS.out _).mono ?_)); rintro e w0 ⟨rfl, rfl⟩)
    | (go_at_call 9; ((with_reducible refine (HT.out _).mono ?_)); rintro e w0 ⟨rfl, rfl⟩)
    | (go_at_call 21; ((with_reducible refine (C1.out _).mono ?_)); rintro e w1 ⟨rfl, h1⟩)
    | (go_at_call 22; ((with_reducible refine (C2.out _).mono ?_)); rintro e w2 ⟨rfl, h2⟩)
    | (go_at_call 23; ((with_reducible refine (C3.out _).mono ?_)); rintro e w3 ⟨rfl, h3⟩)
    | (go_at_call 24; ((with_reducible refine (C4.out _).mono ?_)); rintro e w4 ⟨rfl, h4⟩)
    | (go_at_call 18; ((with_reducible refine (C8.out _).mono ?_)); rintro e w9 ⟨rfl, h9⟩))
  go_ret
  exact ⟨by first | rfl | simp, h1.trans (h2.trans (h3.trans (h4.trans h9)))⟩
end Go.Proofs.Ythioimecelaaiaa
