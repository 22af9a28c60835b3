/- FilterNames: the walk. No condition but that the program's filters keep their words. -/
import Derived.Test.YtoailhkgailhhaaDoorFilterApi
import Derived.Test.YtoailhkgailhhaaDoorFilterMath
namespace Go.Proofs.YtoailhkgailhhaaDoor
open Go.RowKit
set_option linter.unusedVariables false
set_option linter.unusedSimpArgs false
set_option maxRecDepth 100000

set_option maxHeartbeats 2000000 in
theorem names_walk (A : FilterApi) (l m : Txt) (w : World) (hl : l.length ≤ maxLen) (hm : m.length ≤ maxLen) :
    Calls Tryd.prog 6 #[tx l, tx m] w fun e w' => e = .returned (.bool true) ∧ Still w w' := by
  have HS := Lib.hid (fun W => short9_any l W hl)
  have HT := Lib.hid (fun W => short9_any m W hm)
  have hs : (l.take 300).length ≤ 300 := by rw [List.length_take]; omega
  have ht : (m.take 300).length ≤ 300 := by rw [List.length_take]; omega
  generalize l.take 300 = a at *
  generalize m.take 300 = b at *
  have C1 := Lib.hid (fun W => A.match_ a b W hs ht)
  have C2 := Lib.hid (fun W => A.match_ [35] a W (by decide) hs)
  have C3 := Lib.hid (fun W => A.match_ a a W hs hs)
  have C4 := Lib.hid (fun W => zncheck_any a W (by omega))
  have C5 := Lib.hid (fun W => zncheck_any b W (by omega))
  have C6 := Lib.hid (fun W => A.wild a W hs)
  have C8 := Lib.hid (fun W => works9 A W)
  rcases nmE_or a with ha | ha
  · rcases nmE_or b with hb | hb
    · obtain ⟨e1, e2, e3⟩ := name_match ha hb
      obtain ⟨e4, e5, _⟩ := name_match ha ha
      obtain ⟨e6, e7⟩ := hash_match ha
      obtain ⟨x, hx⟩ := head_some (nmE_iff.1 ha).1
      rw [e1, e2] at C1
      rw [e6, e7, hx] at C2
      rw [e4, e5, decide_eq_true rfl] at C3
      rw [ha] at C4
      rw [hb] at C5
      rw [e3] at C6
      have hxs : decide (some x = some (36 : UInt8)) = decide (x = 36) := by simp
      rw [hxs] at C2
      obtain ⟨s, hs2⟩ : ∃ s, s = ByteArray.mk a.toArray := ⟨_, rfl⟩
      have hs0 : 0 < s.size := by rw [hs2, tx_size]; exact get_lt hx
      have hsx : s[0]'hs0 = x := by subst hs2; exact (List.getElem?_eq_some_iff.1 hx).2
      have hs0' : (0 : Int) < (s.size : Int) := by omega
      have hsl : s.toList = a := by rw [hs2, ByteArray.toList_mk]
      unfold tx at *
      rw [← hs2] at HS C1 C2 C3 C4 C6
      clear hs ht hl hm ha hb e1 e2 e3 e4 e5 e6 e7 hx hxs hs2
      have hab : (decide (a = b) = true ∧ (a == b) = true) ∨ (decide (a = b) = false ∧ (a == b) = false) := by
        by_cases h : a = b
        · exact .inl ⟨decide_eq_true h, by simpa using h⟩
        · exact .inr ⟨decide_eq_false h, by simpa using h⟩
      have hxx : (decide (x = 36) = true ∧ x = 36) ∨ (decide (x = 36) = false ∧ x ≠ 36) := by
        by_cases h : x = 36
        · exact .inl ⟨decide_eq_true h, h⟩
        · exact .inr ⟨decide_eq_false h, h⟩
      rcases hab with ⟨g1, g2⟩ | ⟨g1, g2⟩ <;> rcases hxx with ⟨g3, g4⟩ | ⟨g3, g4⟩
      all_goals
        rw [g1] at C1
        rw [g3] at C2
        first
          | (have g5 : (x.toNat : Int) = 36 := by rw [g4]; rfl)
          | (obtain ⟨g5, g6⟩ := byte_ne g4 (v := 36) rfl)
        clear g1 g3 g4
        simp only [Bool.not_true, Bool.not_false] at C2
        go_enter Tryd.func6, Tryd.ntmps6
        go_wp2_with (first
          | (go_at_call 17; ((with_reducible refine (C8.out _).mono ?_)); rintro e w9 ⟨rfl, h9⟩)
          | (go_at_call 9; ((with_reducible refine (HS.out _).mono ?_)); rintro e w0 ⟨rfl, rfl⟩)
          | (go_at_call 9; ((with_reducible refine (HT.out _).mono ?_)); rintro e w0 ⟨rfl, rfl⟩)
          | (go_at_call 25; ((with_reducible refine (C4.out _).mono ?_)); rintro e w1 ⟨rfl, h1⟩)
          | (go_at_call 25; ((with_reducible refine (C5.out _).mono ?_)); rintro e w2 ⟨rfl, h2⟩)
          | (go_at_call 19; ((with_reducible refine (C1.out _).mono ?_)); rintro e w3 ⟨rfl, h3⟩)
          | (go_at_call 19; ((with_reducible refine (C2.out _).mono ?_)); rintro e w4 ⟨rfl, h4⟩)
          | (go_at_call 19; ((with_reducible refine (C3.out _).mono ?_)); rintro e w5 ⟨rfl, h5⟩)
          | (go_at_call 16; ((with_reducible refine (C6.out _).mono ?_)); rintro e w6 ⟨rfl, h6⟩))
        go_ret
        exact ⟨by first | rfl | (simp; done) | (simp; assumption), h9.trans (h1.trans (h2.trans (h3.trans (h4.trans (h5.trans h6)))))⟩
    · obtain ⟨e6, e7⟩ := hash_match ha
      rw [e6] at C2
      rw [ha] at C4
      rw [hb] at C5
      generalize mtB [35] a = y at *
      unfold tx at *
      clear hs ht hl hm ha hb e6 e7 C1 C3 C6
      go_enter Tryd.func6, Tryd.ntmps6
      go_wp2_with (first
        | (go_at_call 17; ((with_reducible refine (C8.out _).mono ?_)); rintro e w9 ⟨rfl, h9⟩)
        | (go_at_call 9; ((with_reducible refine (HS.out _).mono ?_)); rintro e w0 ⟨rfl, rfl⟩)
        | (go_at_call 9; ((with_reducible refine (HT.out _).mono ?_)); rintro e w0 ⟨rfl, rfl⟩)
        | (go_at_call 25; ((with_reducible refine (C5.out _).mono ?_)); rintro e w2 ⟨rfl, h2⟩)
        | (go_at_call 19; ((with_reducible refine (C2.out _).mono ?_)); rintro e w4 ⟨rfl, h4⟩)
        | (have h4' := h4; go_at_call 25; ((with_reducible refine (C4.out _).mono ?_)); rintro e w7 ⟨rfl, h7⟩)
        | (go_at_call 25; ((with_reducible refine (C4.out _).mono ?_)); rintro e w1 ⟨rfl, h1⟩))
      go_ret
      exact ⟨by first | rfl | simp, h9.trans (h1.trans (h2.trans (h4.trans h7)))⟩
  · have e6 := hash_none ha
    rw [e6] at C2
    rw [ha] at C4
    generalize mtB [35] a = y at *
    unfold tx at *
    clear hs ht hl hm ha e6 C1 C3 C6 C5
    go_enter Tryd.func6, Tryd.ntmps6
    go_wp2_with (first
      | (go_at_call 17; ((with_reducible refine (C8.out _).mono ?_)); rintro e w9 ⟨rfl, h9⟩)
      | (go_at_call 9; ((with_reducible refine (HS.out _).mono ?_)); rintro e w0 ⟨rfl, rfl⟩)
      | (go_at_call 9; ((with_reducible refine (HT.out _).mono ?_)); rintro e w0 ⟨rfl, rfl⟩)
      | (go_at_call 19; ((with_reducible refine (C2.out _).mono ?_)); rintro e w4 ⟨rfl, h4⟩)
      | (have h4' := h4; go_at_call 25; ((with_reducible refine (C4.out _).mono ?_)); rintro e w7 ⟨rfl, h7⟩)
      | (go_at_call 25; ((with_reducible refine (C4.out _).mono ?_)); rintro e w1 ⟨rfl, h1⟩))
    go_ret
    exact ⟨by first | rfl | simp, h9.trans (h1.trans (h4.trans h7))⟩
end Go.Proofs.YtoailhkgailhhaaDoor
