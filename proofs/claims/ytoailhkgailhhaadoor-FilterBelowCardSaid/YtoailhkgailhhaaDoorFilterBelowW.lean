/- FilterBelow: the walk. No condition but that the program's filters keep their words. -/
import Derived.Test.YtoailhkgailhhaaDoorFilterApi
import Derived.Test.YtoailhkgailhhaaDoorFilterMath
namespace Go.Proofs.YtoailhkgailhhaaDoor
open Go.RowKit
set_option linter.unusedVariables false
set_option linter.unusedSimpArgs false
set_option maxRecDepth 100000

set_option maxHeartbeats 2000000 in
theorem below_walk (A : FilterApi) (l m n : Txt) (w : World) (hl : l.length ≤ maxLen) (hm : m.length ≤ maxLen) (hn : n.length ≤ maxLen) :
    Calls Tryd.prog 7 #[tx l, tx m, tx n] w fun e w' => e = .returned (.bool true) ∧ Still w w' := by
  have HS := Lib.hid (fun W => short9_any l W hl)
  have HT := Lib.hid (fun W => short9_any m W hm)
  have HU := Lib.hid (fun W => short9_any n W hn)
  have hs : (l.take 300).length ≤ 300 := by rw [List.length_take]; omega
  have ht : (m.take 300).length ≤ 300 := by rw [List.length_take]; omega
  have hu : (n.take 300).length ≤ 300 := by rw [List.length_take]; omega
  generalize l.take 300 = a at *
  generalize m.take 300 = b at *
  generalize n.take 300 = c at *
  have C1 := Lib.hid (fun W => A.covers a b W hs ht)
  have C2 := Lib.hid (fun W => A.match_ b c W ht hu)
  have C3 := Lib.hid (fun W => A.match_ a c W hs hu)
  have C8 := Lib.hid (fun W => works9 A W)
  have hsp : (cvE a b = 0 ∧ cvB a b = true ∧ mtE b c = 0 ∧ mtB b c = true ∧ mtE a c = 0 ∧ mtB a c = true) ∨ cvE a b = 90 ∨ (cvE a b = 0 ∧ (mtE b c = 90 ∨ mtE b c = 80)) ∨ (cvE a b = 0 ∧ mtE b c = 0 ∧ cvB a b = false) ∨ (cvE a b = 0 ∧ mtE b c = 0 ∧ cvB a b = true ∧ mtB b c = false) := by
    rcases cvE_or a b with h1 | h1
    · rcases mtE_or b c with h2 | h2 | h2
      · cases h3 : cvB a b with
        | true =>
          cases h4 : mtB b c with
          | true =>
            obtain ⟨h5, h6⟩ := cov_below h3 h4
            exact .inl ⟨h1, rfl, h2.1, rfl, h5, h6⟩
          | false => exact .inr (.inr (.inr (.inr ⟨h1, h2.1, rfl, rfl⟩)))
        | false => exact .inr (.inr (.inr (.inl ⟨h1, h2.1, rfl⟩)))
      · exact .inr (.inr (.inl ⟨h1, .inl h2.1⟩))
      · exact .inr (.inr (.inl ⟨h1, .inr h2.1⟩))
    · exact .inr (.inl h1)
  generalize cvE a b = xe at *
  generalize cvB a b = x at *
  generalize mtE b c = ye at *
  generalize mtB b c = y at *
  generalize mtE a c = ze at *
  generalize mtB a c = z at *
  unfold tx at *
  clear hs ht hu hl hm hn
  rcases hsp with ⟨rfl, rfl, rfl, rfl, rfl, rfl⟩ | rfl | ⟨rfl, rfl | rfl⟩ | ⟨rfl, rfl, rfl⟩ | ⟨rfl, rfl, rfl, rfl⟩
  all_goals
    go_enter Tryd.func7, Tryd.ntmps7
    go_wp2_with (first
      | (go_at_call 17; ((with_reducible refine (C8.out _).mono ?_)); rintro e w9 ⟨rfl, h9⟩)
      | (go_at_call 9; ((with_reducible refine (HS.out _).mono ?_)); rintro e w0 ⟨rfl, rfl⟩)
      | (go_at_call 9; ((with_reducible refine (HT.out _).mono ?_)); rintro e w0 ⟨rfl, rfl⟩)
      | (go_at_call 9; ((with_reducible refine (HU.out _).mono ?_)); rintro e w0 ⟨rfl, rfl⟩)
      | (go_at_call 23; ((with_reducible refine (C1.out _).mono ?_)); rintro e w1 ⟨rfl, h1⟩)
      | (go_at_call 19; ((with_reducible refine (C2.out _).mono ?_)); rintro e w2 ⟨rfl, h2⟩)
      | (go_at_call 19; ((with_reducible refine (C3.out _).mono ?_)); rintro e w3 ⟨rfl, h3⟩))
    go_ret
    first
      | exact ⟨by first | rfl | simp, h9.trans (h1.trans (h2.trans h3))⟩
      | exact ⟨by first | rfl | simp, h9.trans (h1.trans h2)⟩
end Go.Proofs.YtoailhkgailhhaaDoor
