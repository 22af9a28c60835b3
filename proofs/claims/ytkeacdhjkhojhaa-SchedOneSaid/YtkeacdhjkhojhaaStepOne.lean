/- A step changes one cell's number at most, and nothing of another session: plain mathematics of the machine. No condition. -/
import Derived.Test.YtkeacdhjkhojhaaFair
import Derived.Test.YtkeacdhjkhojhaaRef01
namespace Go.Proofs.Ytkeacdhjkhojhaa
open Go.RowKit
set_option linter.unusedVariables false
set_option maxRecDepth 100000

theorem stepI_one (who : Int) (st : List Cel) (s : Sess) (i : Ins) : ∃ j : Nat, ∀ t : Nat, t ≠ j → ((stepI who st s i).1[t]?).map (·.n) = (st[t]?).map (·.n) := by
  refine ⟨i.cell.toNat, fun t ht => ?_⟩
  refine stepI_cases (fun x => (x.1[t]?).map (·.n) = (st[t]?).map (·.n)) who st s i ?_ ?_ ?_ ?_ ?_ ?_ ?_ ?_ ?_ ?_ ?_ ?_ ?_ ?_
  all_goals intros
  all_goals first
    | rfl
    | (dsimp only; rw [List.getElem?_set_ne (fun e => ht e.symm)])

theorem step_one (M : Mach) (k : Int) : ∃ j : Nat, ∀ t : Nat, t ≠ j → (vs (M.step k).st)[t]? = (vs M.st)[t]? := by
  unfold Mach.step
  cases hg : M.get k with
  | none => exact ⟨0, fun _ _ => rfl⟩
  | some s =>
    by_cases hgo : s.goes = true
    · obtain ⟨j, hj⟩ := stepI_one k M.st s (insAt s.p s.pc)
      refine ⟨j, fun t ht => ?_⟩
      simp only [hgo, if_true, vs, List.getElem?_map]
      exact hj t ht
    · exact ⟨0, fun _ _ => by simp only [hgo]; rfl⟩

theorem get_other (M : Mach) (k j : Int) (h : j ≠ k) : (M.step k).get j = M.get j := by
  unfold Mach.step
  cases hg : M.get k with
  | none => rfl
  | some s =>
    obtain ⟨h0, _, _⟩ := Mach.get_some hg
    by_cases hgo : s.goes = true
    · simp only [hgo, if_true]
      unfold Mach.get
      by_cases hj : 0 ≤ j
      · rw [if_pos hj, if_pos hj]
        exact List.getElem?_set_ne (by omega)
      · rw [if_neg hj, if_neg hj]
    · simp only [hgo]; rfl

/-- How many places differ. -/
def diffs (a b : List Int) (k : Nat) : Nat := ((List.range k).filter fun t => decide (a[t]? ≠ b[t]?)).length
theorem diffs_succ (a b : List Int) (k : Nat) : diffs a b (k + 1) = diffs a b k + (if a[k]? = b[k]? then 0 else 1) := by
  unfold diffs
  rw [List.range_succ, List.filter_append, List.length_append]
  by_cases h : a[k]? = b[k]? <;> simp [h]
theorem diffs_le {a b : List Int} {j : Nat} (h : ∀ t : Nat, t ≠ j → a[t]? = b[t]?) (k : Nat) : diffs a b k ≤ (if j < k then 1 else 0) := by
  induction k with
  | zero => simp [diffs]
  | succ k ih =>
    rw [diffs_succ]
    by_cases e : k = j
    · subst e
      rw [if_neg (by omega)] at ih
      rw [show (if k < k + 1 then 1 else 0) = 1 from if_pos (by omega)]
      by_cases h2 : a[k]? = b[k]?
      · rw [if_pos h2]; omega
      · rw [if_neg h2]; omega
    · rw [if_pos (h k e)]
      by_cases hj : j < k
      · rw [if_pos hj] at ih; rw [if_pos (by omega)]; omega
      · rw [if_neg hj] at ih; rw [if_neg (by omega)]; omega
end Go.Proofs.Ytkeacdhjkhojhaa
