/- What was told of each place and of each handle that was read stays: plain mathematics. No condition. -/
import Derived.Test.YtbljjmehjkmjaaaPtInv
namespace Go.Proofs.Ytbljjmehjkmjaaa
open Go.RowKit
set_option linter.unusedVariables false
set_option linter.unusedSimpArgs false

/-- All places are published, and each place's and each handle's bytes are what was told. -/
structure Kp (P : PM) (M : RM) (had : List Int) (which : List Nat) (told : List (List UInt8)) : Prop where
  inv : PtInv P (M.refs ++ had)
  tail : M.tail = told.length
  ov : M.ov = true
  pub : ∀ p ∈ M.l, p.d = true
  win : ∀ (i : Nat) (p : Plc), M.l[i]? = some p → told[M.h + i]? = some (P.slt p.r).b
  len : had.length = which.length
  was : ∀ (j : Nat) (x : Int) (k : Nat), had[j]? = some x → which[j]? = some k → told[k]? = some (P.slt x).b

theorem Kp.new (n size r : Nat) : Kp (PM.new n size) (RM.new r true) [] [] [] :=
  ⟨PtInv.new n size, rfl, rfl, fun p hp => (by cases hp), fun i p hp => (by simp [RM.new] at hp), rfl, fun j x k hx => (by simp at hx)⟩

/-- A place of the window. -/
theorem Kp.place {P : PM} {M : RM} {had : List Int} {which : List Nat} {told : List (List UInt8)} (H : Kp P M had which told) {k : Nat} (h1 : M.h ≤ k) (h2 : k < M.tail) :
    M.getE (k : Int) = 0 ∧ P.err (M.getR (k : Int)) = 0 ∧ told[k]? = some (P.slt (M.getR (k : Int))).b ∧ M.getR (k : Int) ∈ M.refs := by
  have hf : M.findE (k : Int) = 0 := by unfold RM.findE; rw [if_neg (by omega), if_neg (by omega), if_neg (by omega)]
  obtain ⟨f1, f2, f3⟩ := RM.found hf
  have hd := H.pub _ (List.mem_of_getElem? f3)
  have hg : M.getE (k : Int) = 0 := by unfold RM.getE; rw [if_neg (by simp [hf]), if_pos hd]
  have hr := getR_pl hg
  have hm := get_refs (M := M) (a := (k : Int)) (.inl hg)
  refine ⟨hg, ?_, ?_, by rw [hr]; exact hm⟩
  · rw [hr]; exact H.inv.live _ (List.mem_append_left _ hm)
  · rw [hr, ← H.win _ _ f3]
    congr 1
    omega
theorem Kp.found {P : PM} {M : RM} {had : List Int} {which : List Nat} {told : List (List UInt8)} (H : Kp P M had which told) {k : Nat} (hg : M.getE (k : Int) = 0) : M.h ≤ k ∧ k < M.tail := by
  have hf : M.findE (k : Int) = 0 := by
    by_cases h : M.findE (k : Int) = 0
    · exact h
    · unfold RM.getE at hg; rw [if_pos h] at hg; exact absurd hg h
  obtain ⟨f1, f2, f3⟩ := RM.found hf
  unfold RM.tail
  omega

/-- One is read. -/
theorem Kp.read {P : PM} {M : RM} {had : List Int} {which : List Nat} {told : List (List UInt8)} (H : Kp P M had which told) {k : Nat} (hg : M.getE (k : Int) = 0) :
    Kp (ptRdP P M k) M (had ++ [M.getR k]) (which ++ [k]) told := by
  obtain ⟨h1, h2⟩ := H.found hg
  obtain ⟨_, h3, h4, h5⟩ := H.place h1 h2
  have eP : ptRdP P M k = P.keepM (M.getR k) := if_pos hg
  have hi := inv_read H.inv (k : Int)
  rw [if_pos hg] at hi
  have hk := (H.inv.keep h3).2
  have hb : ∀ y ∈ M.refs ++ had, ((P.keepM (M.getR k)).slt y).b = (P.slt y).b := fun y hy => (hk y (H.inv.live y hy)).2
  rw [eP] at hi ⊢
  refine ⟨hi, H.tail, H.ov, H.pub, fun i p hp => ?_, by simp [H.len], fun j x k' hx hk' => ?_⟩
  · rw [hb p.r (List.mem_append_left _ (List.mem_map.2 ⟨p, List.mem_of_getElem? hp, rfl⟩))]
    exact H.win i p hp
  · by_cases hj : j < had.length
    · rw [List.getElem?_append_left hj] at hx
      rw [List.getElem?_append_left (by rw [← H.len]; exact hj)] at hk'
      rw [hb x (List.mem_append_right _ (List.mem_of_getElem? hx))]
      exact H.was j x k' hx hk'
    · have hj2 : j < (had ++ [M.getR k]).length := (List.getElem?_eq_some_iff.1 hx).1
      simp at hj2
      obtain rfl : j = had.length := by omega
      rw [List.getElem?_append_right (Nat.le_refl _), Nat.sub_self] at hx
      rw [H.len, List.getElem?_append_right (Nat.le_refl _), Nat.sub_self] at hk'
      cases hx; cases hk'
      rw [hb _ (List.mem_append_left _ h5)]
      exact h4
end Go.Proofs.Ytbljjmehjkmjaaa
