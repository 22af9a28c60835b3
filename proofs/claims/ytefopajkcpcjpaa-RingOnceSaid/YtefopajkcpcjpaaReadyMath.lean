/- What is ready of the plain ring. No condition. -/
import Derived.Test.YtefopajkcpcjpaaRingRefReady
namespace Go.Proofs.Ytefopajkcpcjpaa
open Go.RowKit
set_option linter.unusedVariables false

theorem tw_get {α : Type} (f : α → Bool) : ∀ (l : List α) (j : Nat), j < (l.takeWhile f).length → ∃ x, l[j]? = some x ∧ f x = true
  | [], j, h => by simp at h
  | a :: r, 0, h => by
    by_cases ha : f a = true
    · exact ⟨a, rfl, ha⟩
    · rw [List.takeWhile_cons_of_neg ha] at h; simp at h
  | a :: r, j + 1, h => by
    by_cases ha : f a = true
    · rw [List.takeWhile_cons_of_pos ha] at h
      obtain ⟨x, hx, hf⟩ := tw_get f r j (by simp at h; omega)
      exact ⟨x, by simpa using hx, hf⟩
    · rw [List.takeWhile_cons_of_neg ha] at h; simp at h
theorem tw_end {α : Type} (f : α → Bool) : ∀ (l : List α), (l.takeWhile f).length < l.length → ∃ x, l[(l.takeWhile f).length]? = some x ∧ f x = false
  | [], h => by simp at h
  | a :: r, h => by
    by_cases ha : f a = true
    · rw [List.takeWhile_cons_of_pos ha] at h ⊢
      obtain ⟨x, hx, hf⟩ := tw_end f r (by simp at h; omega)
      exact ⟨x, by simpa using hx, hf⟩
    · rw [List.takeWhile_cons_of_neg ha]
      exact ⟨a, rfl, by simpa using ha⟩

theorem RM.get_at {M : RM} {k : Nat} {p : Plc} (h1 : M.h ≤ k) (h2 : M.l[k - M.h]? = some p) : M.findE (k : Int) = 0 ∧ M.pl (k : Int) = p := by
  have hl : k - M.h < M.l.length := by
    rcases Nat.lt_or_ge (k - M.h) M.l.length with h | h
    · exact h
    · rw [List.getElem?_eq_none h] at h2; cases h2
  refine ⟨?_, ?_⟩
  · unfold RM.findE RM.tail
    rw [if_neg (by omega), if_neg (by omega), if_neg (by omega)]
  · unfold RM.pl RM.cut
    rw [show ((k : Int) - (M.h : Int)).toNat = k - M.h by omega, h2]; rfl
theorem RM.getE_at {M : RM} {k : Nat} {p : Plc} (h1 : M.h ≤ k) (h2 : M.l[k - M.h]? = some p) : M.getE (k : Int) = if p.d = true then 0 else 8 := by
  obtain ⟨a, b⟩ := RM.get_at h1 h2
  unfold RM.getE
  rw [if_neg (by rw [a]; simp), b]
theorem RM.getE_tail (M : RM) : M.getE (M.tail : Int) = 5 := by
  have : M.findE (M.tail : Int) = 5 := by
    unfold RM.findE
    rw [if_neg (by omega), if_neg (by unfold RM.tail; omega), if_pos (by omega)]
  unfold RM.getE
  rw [if_pos (by rw [this]; simp), this]

/-- What is ready from an offset on. -/
theorem RM.ready_is (M : RM) (a : Nat) (ha : a ≤ M.tail) : M.h ≤ M.ready a ∧ M.ready a ≤ M.tail ∧ (∀ k : Nat, (if a < M.h then M.h else a) ≤ k → k < M.ready a → M.getE (k : Int) = 0) ∧
    (M.getE (M.ready a : Nat) = 8 ∨ M.getE (M.ready a : Nat) = 5 ∧ M.ready a = M.tail) ∧ (if a < M.h then M.h else a) ≤ M.ready a := by
  obtain ⟨c, hc⟩ : ∃ c, c = M.cut (a : Int) := ⟨_, rfl⟩
  have hc1 : M.h + c = if a < M.h then M.h else a := by rw [hc]; unfold RM.cut; split <;> omega
  have hcl : c ≤ M.l.length := by unfold RM.tail at ha; rw [hc]; unfold RM.cut; omega
  obtain ⟨t, ht⟩ : ∃ t, t = ((M.l.drop c).takeWhile (·.d)).length := ⟨_, rfl⟩
  have htl : t ≤ M.l.length - c := by rw [ht]; have := tw_le (·.d) (M.l.drop c); rwa [List.length_drop] at this
  have hr : M.ready a = M.h + c + t := by unfold RM.ready RM.tail; rw [← hc, ← ht]; omega
  rw [← hc1, hr]
  refine ⟨by omega, by unfold RM.tail; omega, ?_, ?_, by omega⟩
  · intro k h1 h2
    obtain ⟨x, hx, hf⟩ := tw_get (·.d) (M.l.drop c) (k - M.h - c) (by rw [← ht]; omega)
    rw [List.getElem?_drop, show c + (k - M.h - c) = k - M.h by omega] at hx
    rw [RM.getE_at (by omega) hx, if_pos hf]
  · by_cases h : t < M.l.length - c
    · obtain ⟨x, hx, hf⟩ := tw_end (·.d) (M.l.drop c) (by rw [← ht, List.length_drop]; exact h)
      rw [← ht, List.getElem?_drop] at hx
      left
      rw [RM.getE_at (p := x) (by omega) (by rw [show M.h + c + t - M.h = c + t by omega]; exact hx), if_neg (by rw [hf]; simp)]
    · right
      have : M.h + c + t = M.tail := by unfold RM.tail; omega
      rw [this]
      exact ⟨RM.getE_tail M, rfl⟩
end Go.Proofs.Ytefopajkcpcjpaa
