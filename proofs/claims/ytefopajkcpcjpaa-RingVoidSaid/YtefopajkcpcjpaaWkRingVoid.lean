/- RingVoid: the walk, over the landed ring. No condition. -/
import Derived.Test.YtefopajkcpcjpaaRingNil
namespace Go.Proofs.Ytefopajkcpcjpaa
open Go.RowKit
set_option linter.unusedVariables false

theorem walk_RingVoid (a : Int) (w : World) (_ : (Lit.int .i64 a).wf = true) :
    Calls Try.prog 8 #[.int .i64 a] w fun e w' => e = .returned (.bool true) ∧ Still w w' := rvoid_walk ring_api void_ring a w
end Go.Proofs.Ytefopajkcpcjpaa
