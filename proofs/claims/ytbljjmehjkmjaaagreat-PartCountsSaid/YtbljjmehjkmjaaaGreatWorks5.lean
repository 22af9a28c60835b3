/- The chapter's example of layer 5. No condition but that the program's pool keeps its words. -/
import Derived.Test.YtbljjmehjkmjaaaGreatPoolApi
namespace Go.Proofs.YtbljjmehjkmjaaaGreat
open Go.RowKit
set_option linter.unusedVariables false
set_option maxRecDepth 100000

theorem i64_lit {a : Int} (h1 : -1000000000000000 ≤ a) (h2 : a ≤ 1000000000000000) : i64 a := ⟨by omega, by omega⟩

theorem Held.made {PT : Nat → PM → Thing} {w0 w w' : World} {n s : Nat} {e : Ending} (H : Still w0 w) (h : PNew PT w n s e w') : ∃ q, e = .returned (.tuple #[.pointer (some ⟨q, 0, none⟩), .int .i64 0]) ∧ Held w0 w' ((PT q (PM.new n s)).sep Thing.none) := by
  obtain ⟨q, he, hW⟩ := h
  exact ⟨q, he, (Held.start H).new hW⟩

end Go.Proofs.YtbljjmehjkmjaaaGreat