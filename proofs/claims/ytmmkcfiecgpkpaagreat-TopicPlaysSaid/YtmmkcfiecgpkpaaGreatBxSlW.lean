/- Texts that lie next to one another, laid into one: each says what it holds. No condition but what each states. -/
import Derived.Test.YtmmkcfiecgpkpaaGreatBdThing
import Derived.Test.YtmmkcfiecgpkpaaGreatBdRead

/- A slice's length and capacity; an int's bounds. No condition. -/
namespace Go.Proofs.YtmmkcfiecgpkpaaGreat
open Go.RowKit
set_option linter.unusedVariables false

/-- A slice's length and capacity. -/
structure SlW (a : Option Addr) (n c : Nat) : Prop where
  le : n ≤ c
  max : c ≤ maxLen
  none : a = none → n = 0 ∧ c = 0
theorem SlW.of_own {w : World} {B : Nat} {e : TypeId} {m n c : Nat} {a : Option Addr} {xs : List Value} (h : w.ownsRow B e m (.slice a n c) n xs) : SlW a n c := ⟨(ow_le h).1, (ow_le h).2.1, (ow_le h).2.2⟩

def i64w (a : Int) : Prop := -9223372036854775808 ≤ a ∧ a ≤ 9223372036854775807
theorem i64w_of {w : World} {a : Int} (h : okI .i64 w a) : i64w a := by
  have : (Lit.int .i64 a).wf = true := h
  simp [Lit.wf, IntKind.min, IntKind.max, IntKind.signed, IntKind.bits] at this
  exact ⟨by omega, by omega⟩
end Go.Proofs.YtmmkcfiecgpkpaaGreat
