/- NameOrder: the walk. No condition but that the program's names keep their words. -/
import Derived.Test.YthioimecelaaiaaNameApi
namespace Go.Proofs.Ythioimecelaaiaa
open Go.RowKit
set_option linter.unusedVariables false
set_option linter.unusedSimpArgs false
set_option maxRecDepth 100000

theorem cpE_comm (a b : Txt) : cpE b a = cpE a b := by
  rcases cpE_or a b with h | h
  · rw [h]; exact cpE_iff.2 ⟨(cpE_iff.1 h).2, (cpE_iff.1 h).1⟩
  · rw [h]
    exact (cpE_or b a).resolve_left (fun h' => by have := cpE_iff.2 ⟨(cpE_iff.1 h').2, (cpE_iff.1 h').1⟩; omega)
theorem cpN_eq {a b : Txt} (h : cpE a b = 0) : cpN a b = cmpL (spl a) (spl b) := if_pos h
theorem cpN_zero {a b : Txt} (h : cpE a b = 0) : cpN a b = 0 ↔ a = b := by
  rw [cpN_eq h, cmpL_zero]
  constructor
  · intro e; rw [← jn_spl a, e, jn_spl]
  · rintro rfl; rfl

set_option maxHeartbeats 4000000 in
theorem order_walk8 (A : NameApi) (l m n : Txt) (w : World) (hl : l.length ≤ maxLen) (hm : m.length ≤ maxLen) (hn : n.length ≤ maxLen) :
    Calls Try.prog 7 #[tx l, tx m, tx n] w fun e w' => e = .returned (.bool true) ∧ Still w w' := by
  have HS := Lib.hid (fun W => short_any l W hl)
  have HT := Lib.hid (fun W => short_any m W hm)
  have HU := Lib.hid (fun W => short_any n W hn)
  have hs : (l.take 300).length ≤ 300 := by rw [List.length_take]; omega
  have ht : (m.take 300).length ≤ 300 := by rw [List.length_take]; omega
  have hu : (n.take 300).length ≤ 300 := by rw [List.length_take]; omega
  generalize l.take 300 = a at *
  generalize m.take 300 = b at *
  generalize n.take 300 = c at *
  have C1 := Lib.hid (fun W => A.compare a b W hs ht)
  have C2 := Lib.hid (fun W => A.compare b a W ht hs)
  have C3 := Lib.hid (fun W => A.compare b c W ht hu)
  have C4 := Lib.hid (fun W => A.compare a c W hs hu)
  have C8 := Lib.hid (fun W => works8 A W)
  rw [cpE_comm a b] at C2
  rcases cpE_or a b with h0 | h0
  · have hx0 := cpN_zero h0
    have hxe := cpN_eq h0
    have hy : cpN b a = - cpN a b := by rw [cpN_eq h0, cpN_eq (by rw [cpE_comm]; exact h0), cmpL_anti]
    rw [hy, h0] at C2
    rw [h0] at C1
    have hr := cmpL_range (spl a) (spl b)
    rw [← hxe] at hr
    by_cases hg : cpE b c = 0
    · obtain ⟨g1, g2⟩ := cpE_iff.1 hg
      have hh : cpE a c = 0 := cpE_iff.2 ⟨(cpE_iff.1 h0).1, g2⟩
      have hz := cmpL_range (spl b) (spl c)
      have hle := cmpL_le (spl a) (spl b) (spl c)
      rw [← hxe, ← cpN_eq hg, ← cpN_eq hh] at hle
      have hwr := cmpL_range (spl a) (spl c)
      rw [← cpN_eq hg] at hz
      rw [← cpN_eq hh] at hwr
      rw [hg] at C3
      rw [hh] at C4
      generalize cpN a b = x at *
      generalize cpN b c = z at *
      generalize cpN a c = v at *
      have hsp : (x = 1 ∧ a ≠ b) ∨ (x = -1 ∧ a ≠ b ∧ z = 1) ∨ (x = 0 ∧ a = b ∧ z = 1) ∨ (x = -1 ∧ a ≠ b ∧ z = -1 ∧ v = -1) ∨ (x = -1 ∧ a ≠ b ∧ z = 0 ∧ v = -1) ∨ (x = 0 ∧ a = b ∧ z = -1 ∧ v = -1) ∨ (x = 0 ∧ a = b ∧ z = 0 ∧ v = 0) := by
        rcases hr with rfl | rfl | rfl
        · have hab : a ≠ b := fun e => by have := hx0.2 e; omega
          rcases hz with rfl | rfl | rfl
          · have := hle (by omega) (by omega); simp [hab]; omega
          · have := hle (by omega) (by omega); simp [hab]; omega
          · simp [hab]
        · have hab : a = b := hx0.1 rfl
          rcases hz with rfl | rfl | rfl
          · have := hle (by omega) (by omega); simp [hab]; omega
          · have := hle (by omega) (by omega); simp [hab]; omega
          · simp [hab]
        · have hab : a ≠ b := fun e => by have := hx0.2 e; omega
          simp [hab]
      unfold tx at *
      clear hs ht hu hl hm hn h0 hxe hy hg hh g1 g2 hz hle hwr hr hx0
      rcases hsp with ⟨rfl, hab⟩ | ⟨rfl, hab, rfl⟩ | ⟨rfl, hab, rfl⟩ | ⟨rfl, hab, rfl, rfl⟩ | ⟨rfl, hab, rfl, rfl⟩ | ⟨rfl, hab, rfl, rfl⟩ | ⟨rfl, hab, rfl, rfl⟩
      all_goals
        first | have hb : (a == b) = false := by simpa using hab | have hb : (a == b) = true := by simpa using hab
        clear hab
        go_enter Try.func7, Try.ntmps7
        go_wp2_with (first
          | (go_at_call 18; ((with_reducible refine (C8.out _).mono ?_)); rintro e w9 ⟨rfl, h9⟩)
          | (go_at_call 9; ((with_reducible refine (HS.out _).mono ?_)); rintro e w0 ⟨rfl, rfl⟩)
          | (go_at_call 9; ((with_reducible refine (HT.out _).mono ?_)); rintro e w0 ⟨rfl, rfl⟩)
          | (go_at_call 9; ((with_reducible refine (HU.out _).mono ?_)); rintro e w0 ⟨rfl, rfl⟩)
          | (go_at_call 23; ((with_reducible refine (C1.out _).mono ?_)); rintro e w1 ⟨rfl, h1⟩)
          | (go_at_call 23; ((with_reducible refine (C2.out _).mono ?_)); rintro e w2 ⟨rfl, h2⟩)
          | (go_at_call 23; ((with_reducible refine (C3.out _).mono ?_)); rintro e w3 ⟨rfl, h3⟩)
          | (go_at_call 23; ((with_reducible refine (C4.out _).mono ?_)); rintro e w4 ⟨rfl, h4⟩))
        go_ret
        exact ⟨by first | rfl | simp [hb], h9.trans (h1.trans (h2.trans (h3.trans h4)))⟩
    · have hg80 := (cpE_or b c).resolve_left hg
      rw [hg80] at C3
      generalize cpN a b = x at *
      generalize cpN b c = z at *
      generalize cpN a c = v at *
      generalize cpE a c = ve at *
      have hsp : (x = 1 ∧ a ≠ b) ∨ (x = -1 ∧ a ≠ b) ∨ (x = 0 ∧ a = b) := by
        rcases hr with rfl | rfl | rfl
        · exact .inr (.inl ⟨rfl, fun e => by have := hx0.2 e; omega⟩)
        · exact .inr (.inr ⟨rfl, hx0.1 rfl⟩)
        · exact .inl ⟨rfl, fun e => by have := hx0.2 e; omega⟩
      unfold tx at *
      clear hs ht hu hl hm hn h0 hxe hy hg hg80 hr hx0
      rcases hsp with ⟨rfl, hab⟩ | ⟨rfl, hab⟩ | ⟨rfl, hab⟩
      all_goals
        first | have hb : (a == b) = false := by simpa using hab | have hb : (a == b) = true := by simpa using hab
        clear hab
        go_enter Try.func7, Try.ntmps7
        go_wp2_with (first
          | (go_at_call 18; ((with_reducible refine (C8.out _).mono ?_)); rintro e w9 ⟨rfl, h9⟩)
          | (go_at_call 9; ((with_reducible refine (HS.out _).mono ?_)); rintro e w0 ⟨rfl, rfl⟩)
          | (go_at_call 9; ((with_reducible refine (HT.out _).mono ?_)); rintro e w0 ⟨rfl, rfl⟩)
          | (go_at_call 9; ((with_reducible refine (HU.out _).mono ?_)); rintro e w0 ⟨rfl, rfl⟩)
          | (go_at_call 23; ((with_reducible refine (C1.out _).mono ?_)); rintro e w1 ⟨rfl, h1⟩)
          | (go_at_call 23; ((with_reducible refine (C2.out _).mono ?_)); rintro e w2 ⟨rfl, h2⟩)
          | (go_at_call 23; ((with_reducible refine (C3.out _).mono ?_)); rintro e w3 ⟨rfl, h3⟩)
          | (go_at_call 23; ((with_reducible refine (C4.out _).mono ?_)); rintro e w4 ⟨rfl, h4⟩))
        go_ret
        exact ⟨by first | rfl | simp [hb], h9.trans (h1.trans (h2.trans (h3.trans h4)))⟩
  · have e1 : cpN a b = 0 := if_neg (by omega)
    have e2 : cpN b a = 0 := if_neg (by rw [cpE_comm]; omega)
    rw [e1, h0] at C1
    rw [e2, h0] at C2
    unfold tx at *
    clear hs ht hu hl hm hn h0 e1 e2 C3 C4
    go_enter Try.func7, Try.ntmps7
    go_wp2_with (first
      | (go_at_call 18; ((with_reducible refine (C8.out _).mono ?_)); rintro e w9 ⟨rfl, h9⟩)
      | (go_at_call 9; ((with_reducible refine (HS.out _).mono ?_)); rintro e w0 ⟨rfl, rfl⟩)
      | (go_at_call 9; ((with_reducible refine (HT.out _).mono ?_)); rintro e w0 ⟨rfl, rfl⟩)
      | (go_at_call 9; ((with_reducible refine (HU.out _).mono ?_)); rintro e w0 ⟨rfl, rfl⟩)
      | (go_at_call 23; ((with_reducible refine (C1.out _).mono ?_)); rintro e w1 ⟨rfl, h1⟩)
      | (go_at_call 23; ((with_reducible refine (C2.out _).mono ?_)); rintro e w2 ⟨rfl, h2⟩))
    go_ret
    exact ⟨by first | rfl | simp, h9.trans (h1.trans h2)⟩
end Go.Proofs.Ythioimecelaaiaa
