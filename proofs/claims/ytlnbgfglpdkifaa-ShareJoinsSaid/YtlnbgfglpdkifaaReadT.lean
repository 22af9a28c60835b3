/- Things that can only be read: two of them, rows of numbers. No condition. -/
import Derived.Test.YtlnbgfglpdkifaaThing
namespace Go.Proofs.Ytlnbgfglpdkifaa
open Go.RowKit
set_option linter.unusedVariables false

/-- Two things that can be read, apart or not. -/
def Thing.with_ (A B : Thing) : Thing where
  at_ w W := ∃ W1 W2, A.at_ w W1 ∧ B.at_ w W2 ∧ ∀ k, W k ↔ W1 k ∨ W2 k
  lt := by
    rintro w W ⟨W1, W2, h1, h2, hW⟩ k hk
    rcases (hW k).1 hk with h | h
    · exact A.lt h1 k h
    · exact B.lt h2 k h
  keep := by
    rintro w w' W S ⟨W1, W2, h1, h2, hW⟩ ht hs
    exact ⟨W1, W2, A.keep h1 ht (fun k hk => hs k ((hW k).2 (.inl hk))), B.keep h2 ht (fun k hk => hs k ((hW k).2 (.inr hk))), hW⟩
theorem with_at {A B : Thing} {w : World} {W1 W2 : Nat → Prop} (h1 : A.at_ w W1) (h2 : B.at_ w W2) : (A.with_ B).at_ w (fun k => W1 k ∨ W2 k) := ⟨W1, W2, h1, h2, fun _ => Iff.rfl⟩
/-- Numbers that can be read. -/
def readT (ao : Option Addr) (l : List Int) : Thing where
  at_ w W := NumsAt w ao l ∧ ∀ k, W k ↔ l ≠ [] ∧ ∃ x, ao = some x ∧ x.block = k
  lt := by
    rintro w W ⟨h, hW⟩ k hk
    obtain ⟨hl, x, hx, rfl⟩ := (hW k).1 hk
    cases l with
    | nil => exact absurd rfl hl
    | cons y l =>
      obtain ⟨b, o, e, hc⟩ := h 0 y rfl
      rw [hx] at e
      obtain rfl := Option.some.inj e
      exact cell_lt hc
  keep := by
    rintro w w' W S ⟨h, hW⟩ ht hs
    refine ⟨?_, hW⟩
    by_cases hl : l = []
    · subst hl; exact NumsAt.nil _ _
    · exact h.turned ht (fun a ha => hs _ ((hW _).2 ⟨hl, a, ha, rfl⟩))

theorem nums_lt {w : World} {ao : Option Addr} {l : List Int} (h : NumsAt w ao l) {k : Nat} (hk : l ≠ [] ∧ ∃ x, ao = some x ∧ x.block = k) : k < w.heap.size :=
  (readT ao l).lt (W := fun k => l ≠ [] ∧ ∃ x, ao = some x ∧ x.block = k) ⟨h, fun _ => Iff.rfl⟩ k hk
end Go.Proofs.Ytlnbgfglpdkifaa
