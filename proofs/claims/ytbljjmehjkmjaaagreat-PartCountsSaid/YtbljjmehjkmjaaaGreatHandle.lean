/- Package handle and the document's answers of layer 4: what each function answers, as plain functions on numbers. No condition. -/
import Derived.Test.YtbljjmehjkmjaaaGreatBase
import Derived.OwnWalk
namespace Go.Proofs.YtbljjmehjkmjaaaGreat
open Go.RowKit
set_option linter.unusedVariables false
set_option maxRecDepth 100000

/-- A slot and a generation that may be; the handle that they make, and the error. -/
def sgOk (s g : Int) : Prop := 0 ≤ s ∧ s < 128 ∧ 0 ≤ g ∧ g < 1099511627776
instance (s g : Int) : Decidable (sgOk s g) := by unfold sgOk; infer_instance
def haOf (s g : Int) : Int := if sgOk s g then g * 128 + s + 1 else 0
def haErr (s g : Int) : Int := if sgOk s g then 0 else 2
def haV (s g : Int) : Value := .tuple #[.int .i64 (haOf s g), .int .i64 (haErr s g)]
/-- A number that is a handle; its slot, its generation, the error. -/
def haIs (h : Int) : Prop := 1 ≤ h ∧ h ≤ 140737488355328
instance (h : Int) : Decidable (haIs h) := by unfold haIs; infer_instance
def slOf (h : Int) : Int := if haIs h then (h - 1) % 128 else 0
def geOf (h : Int) : Int := if haIs h then (h - 1) / 128 else 0
def isE (h : Int) : Int := if haIs h then 0 else 2
def slV (h : Int) : Value := .tuple #[.int .i64 (slOf h), .int .i64 (isE h)]
def geV (h : Int) : Value := .tuple #[.int .i64 (geOf h), .int .i64 (isE h)]
def spV (h : Int) : Value := .tuple #[.int .i64 (slOf h), .int .i64 (geOf h), .int .i64 (isE h)]
/-- The handle of the same slot, a generation on. -/
def neOk (h : Int) : Prop := haIs h ∧ h ≤ 140737488355200
instance (h : Int) : Decidable (neOk h) := by unfold neOk; infer_instance
def neOf (h : Int) : Int := if neOk h then h + 128 else 0
def neErr (h : Int) : Int := if neOk h then 0 else 2
def neV (h : Int) : Value := .tuple #[.int .i64 (neOf h), .int .i64 (neErr h)]

def i64 (a : Int) : Prop := -9223372036854775808 ≤ a ∧ a ≤ 9223372036854775807

theorem haV_ok {s g : Int} (h : sgOk s g) : haV s g = .tuple #[.int .i64 (g * 128 + s + 1), .int .i64 0] := by simp [haV, haOf, haErr, h]
theorem haV_no {s g : Int} (h : ¬ sgOk s g) : haV s g = .tuple #[.int .i64 0, .int .i64 2] := by simp [haV, haOf, haErr, h]
theorem slV_ok {h : Int} (k : haIs h) : slV h = .tuple #[.int .i64 ((h - 1) % 128), .int .i64 0] := by simp [slV, slOf, isE, k]
theorem slV_no {h : Int} (k : ¬ haIs h) : slV h = .tuple #[.int .i64 0, .int .i64 2] := by simp [slV, slOf, isE, k]
theorem geV_ok {h : Int} (k : haIs h) : geV h = .tuple #[.int .i64 ((h - 1) / 128), .int .i64 0] := by simp [geV, geOf, isE, k]
theorem geV_no {h : Int} (k : ¬ haIs h) : geV h = .tuple #[.int .i64 0, .int .i64 2] := by simp [geV, geOf, isE, k]
theorem spV_ok {h : Int} (k : haIs h) : spV h = .tuple #[.int .i64 ((h - 1) % 128), .int .i64 ((h - 1) / 128), .int .i64 0] := by simp [spV, slOf, geOf, isE, k]
theorem spV_no {h : Int} (k : ¬ haIs h) : spV h = .tuple #[.int .i64 0, .int .i64 0, .int .i64 2] := by simp [spV, slOf, geOf, isE, k]
theorem neV_ok {h : Int} (k : neOk h) : neV h = .tuple #[.int .i64 (h + 128), .int .i64 0] := by simp [neV, neOf, neErr, k]
theorem neV_no {h : Int} (k : ¬ neOk h) : neV h = .tuple #[.int .i64 0, .int .i64 2] := by simp [neV, neOf, neErr, k]

theorem of_any (s g : Int) (w : World) : Calls Tryz.prog 90 #[.int .i64 s, .int .i64 g] w fun e w' => e = .returned (haV s g) ∧ w = w' := by
  by_cases h : sgOk s g
  · have HV := Lib.hid (haV_ok h)
    obtain ⟨h1, h2, h3, h4⟩ := h
    go_enter Tryz.func90, Tryz.ntmps90
    go_wp2
    go_ret2
    exact ⟨by rw [HV.out]; rfl, rfl⟩
  · have HV := Lib.hid (haV_no h)
    unfold sgOk at h
    go_enter Tryz.func90, Tryz.ntmps90
    go_wp2
    all_goals first | (exfalso; omega) | (go_ret2; exact ⟨by rw [HV.out]; rfl, rfl⟩)

theorem split_any (h : Int) (w : World) : Calls Tryz.prog 110 #[.int .i64 h] w fun e w' => e = .returned (spV h) ∧ w = w' := by
  by_cases k : haIs h
  · have HV := Lib.hid (spV_ok k)
    obtain ⟨h1, h2⟩ := k
    have HM := Lib.hid (Int.tmod_eq_emod_of_nonneg (a := h - 1) (b := 128) (by omega))
    have HD := Lib.hid (Int.tdiv_eq_ediv_of_nonneg (a := h - 1) (b := 128) (by omega))
    go_enter Tryz.func110, Tryz.ntmps110
    go_wp2
    go_ret3
    exact ⟨by rw [HV.out]; rfl, rfl⟩
  · have HV := Lib.hid (spV_no k)
    unfold haIs at k
    go_enter Tryz.func110, Tryz.ntmps110
    go_wp2
    all_goals first | (exfalso; omega) | (go_ret3; exact ⟨by rw [HV.out]; rfl, rfl⟩)

theorem slot_any (h : Int) (w : World) : Calls Tryz.prog 113 #[.int .i64 h] w fun e w' => e = .returned (slV h) ∧ w = w' := by
  have H := split_any h w
  unfold spV at H
  unfold slV
  generalize slOf h = a at *
  generalize geOf h = b at *
  generalize isE h = c at *
  go_enter Tryz.func113, Tryz.ntmps113
  go_wp2_with (go_at_call 110; refine H.mono ?_; rintro e w' ⟨rfl, rfl⟩)
  go_ret2
  exact ⟨rfl, rfl⟩

theorem next_is {h : Int} (k : haIs h) : haV ((h - 1) % 128) ((h - 1) / 128 + 1) = neV h := by
  obtain ⟨h1, h2⟩ := k
  by_cases k2 : neOk h
  · rw [neV_ok k2, haV_ok (by obtain ⟨_, k3⟩ := k2; refine ⟨?_, ?_, ?_, ?_⟩ <;> omega)]
    rw [show ((h - 1) / 128 + 1) * 128 + (h - 1) % 128 + 1 = h + 128 by omega]
  · rw [neV_no k2, haV_no (fun q => k2 ⟨⟨h1, h2⟩, by obtain ⟨q1, q2, q3, q4⟩ := q; omega⟩)]

theorem next_any (h : Int) (w : World) : Calls Tryz.prog 114 #[.int .i64 h] w fun e w' => e = .returned (neV h) ∧ w = w' := by
  have H := split_any h w
  by_cases k : haIs h
  · rw [spV_ok k] at H
    have H2 := of_any ((h - 1) % 128) ((h - 1) / 128 + 1) w
    rw [next_is k] at H2
    obtain ⟨h1, h2⟩ := k
    obtain ⟨a, ha⟩ : ∃ a, a = (h - 1) % 128 := ⟨_, rfl⟩
    obtain ⟨b, hb⟩ : ∃ b, b = (h - 1) / 128 := ⟨_, rfl⟩
    rw [← ha, ← hb] at H
    rw [← ha, ← hb] at H2
    unfold neV at H2 ⊢
    generalize neOf h = x at *
    generalize neErr h = y at *
    have hb1 : 0 ≤ b := by omega
    have hb2 : b ≤ 1099511627776 := by omega
    clear ha hb
    go_enter Tryz.func114, Tryz.ntmps114
    go_wp2_with (first | (go_at_call 110; refine H.mono ?_; rintro e w' ⟨rfl, rfl⟩) | (go_at_call 90; refine H2.mono ?_; rintro e w' ⟨rfl, rfl⟩))
    go_ret2
    exact ⟨rfl, rfl⟩
  · rw [spV_no k] at H
    have HV := Lib.hid (neV_no (fun q => k q.1))
    go_enter Tryz.func114, Tryz.ntmps114
    go_wp2_with (go_at_call 110; refine H.mono ?_; rintro e w' ⟨rfl, rfl⟩)
    go_ret2
    exact ⟨by rw [HV.out]; rfl, rfl⟩

theorem is_any (h : Int) (w : World) : Calls Tryz.prog 96 #[.int .i64 h] w fun e w' => e = .returned (.bool (decide (haIs h))) ∧ w = w' := by
  by_cases k : haIs h
  · rw [decide_eq_true k]
    obtain ⟨h1, h2⟩ := k
    go_enter Tryz.func96, Tryz.ntmps96
    go_wp2
    go_ret
    exact ⟨ret_bool (by simp; try omega), rfl⟩
  · rw [decide_eq_false k]
    unfold haIs at k
    go_enter Tryz.func96, Tryz.ntmps96
    go_wp2
    all_goals first | (exfalso; omega) | (go_ret; exact ⟨ret_bool (by first | rfl | (simp; omega)), rfl⟩)

theorem refOf_any (s g : Int) (w : World) : Calls Tryz.prog 97 #[.int .i64 s, .int .i64 g] w fun e w' => e = .returned (haV s g) ∧ w = w' := by
  by_cases h : sgOk s g
  · have HV := Lib.hid (haV_ok h)
    obtain ⟨h1, h2, h3, h4⟩ := h
    go_enter Tryz.func97, Tryz.ntmps97
    go_wp2
    go_ret2
    exact ⟨by rw [HV.out]; rfl, rfl⟩
  · have HV := Lib.hid (haV_no h)
    unfold sgOk at h
    go_enter Tryz.func97, Tryz.ntmps97
    go_wp2
    all_goals first | (exfalso; omega) | (exfalso; rename_i q; simp at q; omega) | (go_ret2; exact ⟨by rw [HV.out]; rfl, rfl⟩)

theorem refSlot_any (h : Int) (w : World) : Calls Tryz.prog 60 #[.int .i64 h] w fun e w' => e = .returned (slV h) ∧ w = w' := by
  have H := is_any h w
  by_cases k : haIs h
  · have HV := Lib.hid (slV_ok k)
    rw [decide_eq_true k] at H
    obtain ⟨h1, h2⟩ := k
    have HM := Lib.hid (Int.tmod_eq_emod_of_nonneg (a := h - 1) (b := 128) (by omega))
    go_enter Tryz.func60, Tryz.ntmps60
    go_wp2_with (go_at_call 96; refine H.mono ?_; rintro e w' ⟨rfl, rfl⟩)
    go_ret2
    exact ⟨by rw [HV.out]; rfl, rfl⟩
  · have HV := Lib.hid (slV_no k)
    rw [decide_eq_false k] at H
    clear k
    go_enter Tryz.func60, Tryz.ntmps60
    go_wp2_with (go_at_call 96; refine H.mono ?_; rintro e w' ⟨rfl, rfl⟩)
    go_ret2
    exact ⟨by rw [HV.out]; rfl, rfl⟩

end Go.Proofs.YtbljjmehjkmjaaaGreat