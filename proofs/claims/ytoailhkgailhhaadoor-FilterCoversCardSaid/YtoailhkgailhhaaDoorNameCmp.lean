/- What Compare of the document's name does. No condition but that the texts are no longer than the statements make them. -/
import Derived.Test.YtoailhkgailhhaaDoorNameOf
namespace Go.Proofs.YtoailhkgailhhaaDoor
open Go.RowKit
set_option linter.unusedVariables false
set_option linter.unusedSimpArgs false
set_option maxRecDepth 100000

theorem cmpL_drop {X Y : List Txt} {k : Nat} {x y : Txt} (hx : X[k]? = some x) (hy : Y[k]? = some y) : cmpL (X.drop k) (Y.drop k) = if Op.bytesLess x y = true then -1 else if Op.bytesLess y x = true then 1 else cmpL (X.drop (k + 1)) (Y.drop (k + 1)) := by
  obtain ⟨h1, e1⟩ := List.getElem?_eq_some_iff.1 hx
  obtain ⟨h2, e2⟩ := List.getElem?_eq_some_iff.1 hy
  rw [List.drop_eq_getElem_cons h1, List.drop_eq_getElem_cons h2, e1, e2, cmpL]
theorem cmpL_end {X Y : List Txt} {k : Nat} (h : X.length = k ∨ Y.length = k) (h1 : k ≤ X.length) (h2 : k ≤ Y.length) : cmpL (X.drop k) (Y.drop k) = if X.length < Y.length then -1 else if Y.length < X.length then 1 else 0 := by
  cases hX : X.drop k with
  | nil =>
    have l1 : X.length ≤ k := by have := congrArg List.length hX; rw [List.length_drop] at this; simp at this; omega
    cases hY : Y.drop k with
    | nil =>
      have l2 : Y.length ≤ k := by have := congrArg List.length hY; rw [List.length_drop] at this; simp at this; omega
      rw [if_neg (by omega), if_neg (by omega)]; rfl
    | cons y r =>
      have l2 : k < Y.length := by have := congrArg List.length hY; rw [List.length_drop] at this; simp at this; omega
      rw [if_pos (by omega)]; rfl
  | cons x r =>
    have l1 : k < X.length := by have := congrArg List.length hX; rw [List.length_drop] at this; simp at this; omega
    cases hY : Y.drop k with
    | nil =>
      have l2 : Y.length ≤ k := by have := congrArg List.length hY; rw [List.length_drop] at this; simp at this; omega
      rw [if_neg (by omega), if_pos (by omega)]; rfl
    | cons y r =>
      have l2 : k < Y.length := by have := congrArg List.length hY; rw [List.length_drop] at this; simp at this; omega
      omega

end Go.Proofs.YtoailhkgailhhaaDoor