/- The plain cursor: what layer 7 says of a window of offsets. No condition. -/
import Derived.Test.YtliaaggjefjbeaaRead
import Derived.Test.YtliaaggjefjbeaaThing
import Derived.Deep.DeepCutAuto
namespace Go.Proofs.Ytliaaggjefjbeaa
open Go.RowKit
set_option linter.unusedVariables false

/-- Is it a window? -/
def ckE (h t : Int) : Int := if h < 0 ∨ t < h ∨ 1099511627776 < t then 2 else 0
/-- May a cursor stand there? -/
def mvE (a h t : Int) : Int := if ckE h t = 0 ∧ 0 ≤ a ∧ a ≤ t then 0 else 2
def mvA (a h t : Int) : Int := if mvE a h t = 0 then (if a < h then h else a) else 0
def mvF (a h t : Int) : Int := if mvE a h t = 0 then (if a < h then a else 0) else 0
def mvT (a h t : Int) : Int := if mvE a h t = 0 then (if a < h then h else 0) else 0
def bhN (a h t : Int) : Int := if mvE a h t = 0 then t - mvA a h t else 0
def skE (a h t : Int) : Int := if ckE h t = 0 then (if a < h ∨ t < a then 61 else 0) else 2
def skA (a h t : Int) : Int := if skE a h t = 0 then a else 0
def lesser (m y : Int) : Int := if y < m then y else m
theorem lesser_lt {m y : Int} (h : y < m) : lesser m y = y := if_pos h
theorem lesser_ge {m y : Int} (h : ¬ y < m) : lesser m y = m := if_neg h
def slow : List Int → Int
  | [] => 0
  | x :: l => l.foldl lesser x
def spanV (f t : Int) : Value := .agg #[.int .i64 f, .int .i64 t]
def moveV (a h t : Int) : Value := .tuple #[.int .i64 (mvA a h t), spanV (mvF a h t) (mvT a h t), .int .i64 (mvE a h t)]

theorem ckE_no {h t : Int} (h0 : h < 0 ∨ t < h ∨ 1099511627776 < t) : ckE h t = 2 := if_pos h0
theorem ckE_ok {h t : Int} (h1 : 0 ≤ h) (h2 : h ≤ t) (h3 : t ≤ 1099511627776) : ckE h t = 0 := by unfold ckE; rw [if_neg (by omega)]
theorem ckE_ok_iff {h t : Int} : ckE h t = 0 ↔ 0 ≤ h ∧ h ≤ t ∧ t ≤ 1099511627776 := by unfold ckE; split <;> omega
theorem ckE_or (h t : Int) : ckE h t = 0 ∨ ckE h t = 2 := by unfold ckE; split <;> simp
theorem mvE_ok_iff {a h t : Int} : mvE a h t = 0 ↔ 0 ≤ h ∧ h ≤ t ∧ t ≤ 1099511627776 ∧ 0 ≤ a ∧ a ≤ t := by
  unfold mvE; simp only [ckE_ok_iff]; split <;> omega
theorem mvE_or (a h t : Int) : mvE a h t = 0 ∨ mvE a h t = 2 := by unfold mvE; split <;> simp
theorem move_no {a h t : Int} (h0 : mvE a h t ≠ 0) : mvA a h t = 0 ∧ mvF a h t = 0 ∧ mvT a h t = 0 ∧ mvE a h t = 2 ∧ bhN a h t = 0 := by
  have := mvE_or a h t
  refine ⟨if_neg h0, if_neg h0, if_neg h0, by omega, if_neg h0⟩
theorem move_at {a h t : Int} (h0 : mvE a h t = 0) (h1 : h ≤ a) : mvA a h t = a ∧ mvF a h t = 0 ∧ mvT a h t = 0 ∧ bhN a h t = t - a := by
  have e : mvA a h t = a := by unfold mvA; rw [if_pos h0, if_neg (by omega)]
  refine ⟨e, ?_, ?_, ?_⟩
  · unfold mvF; rw [if_pos h0, if_neg (by omega)]
  · unfold mvT; rw [if_pos h0, if_neg (by omega)]
  · unfold bhN; rw [if_pos h0, e]
theorem move_to {a h t : Int} (h0 : mvE a h t = 0) (h1 : a < h) : mvA a h t = h ∧ mvF a h t = a ∧ mvT a h t = h ∧ bhN a h t = t - h := by
  have e : mvA a h t = h := by unfold mvA; rw [if_pos h0, if_pos h1]
  refine ⟨e, ?_, ?_, ?_⟩
  · unfold mvF; rw [if_pos h0, if_pos h1]
  · unfold mvT; rw [if_pos h0, if_pos h1]
  · unfold bhN; rw [if_pos h0, e]
/-- What was moved is in the window, or its tail. -/
theorem moved_in {a h t : Int} (h0 : mvE a h t = 0) : h ≤ mvA a h t ∧ mvA a h t ≤ t ∧ 0 ≤ mvA a h t ∧ t ≤ 1099511627776 := by
  obtain ⟨h1, h2, h3, h4, h5⟩ := mvE_ok_iff.1 h0
  rcases Int.lt_or_le a h with h6 | h6
  · rw [(move_to h0 h6).1]; omega
  · rw [(move_at h0 h6).1]; omega
theorem slow_snoc (l : List Int) (y : Int) (h : l ≠ []) : slow (l ++ [y]) = lesser (slow l) y := by
  cases l with
  | nil => exact absurd rfl h
  | cons x r => simp [slow]
theorem slow_take {l : List Int} {k : Nat} {y : Int} (hk : l[k]? = some y) : slow (l.take (k + 1)) = if k = 0 then y else lesser (slow (l.take k)) y := by
  have e : l.take (k + 1) = l.take k ++ [y] := by
    rw [List.take_add_one, hk]; rfl
  rw [e]
  by_cases h0 : k = 0
  · subst h0; simp [slow]
  · rw [if_neg h0, slow_snoc]
    intro h
    have hl := (List.getElem?_eq_some_iff.1 hk).1
    rcases List.take_eq_nil_iff.1 h with h1 | h1
    · exact h0 h1
    · subst h1; simp at hl
theorem slow_all {l : List Int} {k : Nat} (h : l.length ≤ k) : slow (l.take k) = slow l := by rw [List.take_of_length_le h]
end Go.Proofs.Ytliaaggjefjbeaa
