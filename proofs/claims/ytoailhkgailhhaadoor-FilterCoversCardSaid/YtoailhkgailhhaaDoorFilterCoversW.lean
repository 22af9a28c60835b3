/- FilterCovers: the walk. No condition but that the program's filters keep their words. -/
import Derived.Test.YtoailhkgailhhaaDoorFilterApi
import Derived.Test.YtoailhkgailhhaaDoorFilterMath
namespace Go.Proofs.YtoailhkgailhhaaDoor
open Go.RowKit
set_option linter.unusedVariables false
set_option linter.unusedSimpArgs false
set_option maxRecDepth 100000

set_option maxHeartbeats 2000000 in
theorem covers_walk (A : FilterApi) (l m : Txt) (w : World) (hl : l.length ≤ maxLen) (hm : m.length ≤ maxLen) :
    Calls Tryd.prog 5 #[tx l, tx m] w fun e w' => e = .returned (.bool true) ∧ Still w w' := by
  have HS := Lib.hid (fun W => short9_any l W hl)
  have HT := Lib.hid (fun W => short9_any m W hm)
  have hs : (l.take 300).length ≤ 300 := by rw [List.length_take]; omega
  have ht : (m.take 300).length ≤ 300 := by rw [List.length_take]; omega
  generalize l.take 300 = a at *
  generalize m.take 300 = b at *
  have C1 := Lib.hid (fun W => A.covers a b W hs ht)
  have C2 := Lib.hid (fun W => zfcov_any a b W hs ht)
  have C3 := Lib.hid (fun W => A.covers a a W hs hs)
  have C4 := Lib.hid (fun W => zfcheck_any a W (by omega))
  have C8 := Lib.hid (fun W => works9 A W)
  generalize cvB a b = x at *
  generalize cvE a b = xe at *
  rcases fcE_or a with h0 | h0
  · have e1 : cvE a a = 0 := cvE_iff.2 ⟨h0, h0⟩
    have e2 : cvB a a = true := by unfold cvB; rw [e1, hidB_self, cvs_self]; rfl
    rw [e1, e2] at C3
    rw [h0] at C4
    unfold tx at *
    clear hs ht hl hm h0 e1 e2
    go_enter Tryd.func5, Tryd.ntmps5
    go_wp2_with (first
      | (go_at_call 9; ((with_reducible refine (HS.out _).mono ?_)); rintro e w0 ⟨rfl, rfl⟩)
      | (go_at_call 9; ((with_reducible refine (HT.out _).mono ?_)); rintro e w0 ⟨rfl, rfl⟩)
      | (go_at_call 23; ((with_reducible refine (C1.out _).mono ?_)); rintro e w1 ⟨rfl, h1⟩)
      | (go_at_call 24; ((with_reducible refine (C2.out _).mono ?_)); rintro e w2 ⟨rfl, h2⟩)
      | (go_at_call 23; ((with_reducible refine (C3.out _).mono ?_)); rintro e w3 ⟨rfl, h3⟩)
      | (go_at_call 14; ((with_reducible refine (C4.out _).mono ?_)); rintro e w4 ⟨rfl, h4⟩)
      | (go_at_call 17; ((with_reducible refine (C8.out _).mono ?_)); rintro e w9 ⟨rfl, h9⟩))
    go_ret
    exact ⟨by first | rfl | simp, h1.trans (h2.trans (h3.trans (h4.trans h9)))⟩
  · have e1 : cvE a a = 90 := (cvE_or a a).resolve_left (fun h => by have := (cvE_iff.1 h).1; omega)
    have e2 : cvB a a = false := by unfold cvB; rw [e1]; rfl
    rw [e1, e2] at C3
    rw [h0] at C4
    unfold tx at *
    clear hs ht hl hm h0 e1 e2
    go_enter Tryd.func5, Tryd.ntmps5
    go_wp2_with (first
      | (go_at_call 9; ((with_reducible refine (HS.out _).mono ?_)); rintro e w0 ⟨rfl, rfl⟩)
      | (go_at_call 9; ((with_reducible refine (HT.out _).mono ?_)); rintro e w0 ⟨rfl, rfl⟩)
      | (go_at_call 23; ((with_reducible refine (C1.out _).mono ?_)); rintro e w1 ⟨rfl, h1⟩)
      | (go_at_call 24; ((with_reducible refine (C2.out _).mono ?_)); rintro e w2 ⟨rfl, h2⟩)
      | (go_at_call 23; ((with_reducible refine (C3.out _).mono ?_)); rintro e w3 ⟨rfl, h3⟩)
      | (go_at_call 14; ((with_reducible refine (C4.out _).mono ?_)); rintro e w4 ⟨rfl, h4⟩)
      | (go_at_call 17; ((with_reducible refine (C8.out _).mono ?_)); rintro e w9 ⟨rfl, h9⟩))
    go_ret
    exact ⟨by first | rfl | simp, h1.trans (h2.trans (h3.trans (h4.trans h9)))⟩
end Go.Proofs.YtoailhkgailhhaaDoor
