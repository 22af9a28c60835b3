/- RingTrims: the walk, over the landed ring. No condition. -/
import Derived.Test.YtefopajkcpcjpaaRingIs
import Derived.Test.YtefopajkcpcjpaaRingTrims
namespace Go.Proofs.Ytefopajkcpcjpaa
open Go.RowKit
set_option linter.unusedVariables false

theorem walk_RingTrims (a b : Int) (s : Sl Int) (d : Int) (w : World) (_ : (Lit.int .i64 a).wf = true) (_ : (Lit.int .i64 b).wf = true) (h1 : SlOk encI (okI .i64) 1 w s) (_ : (Lit.int .i64 d).wf = true) :
    Calls Try.prog 7 #[.int .i64 a, .int .i64 b, .slice s.a s.len s.cap, .int .i64 d] w fun e w' => e = .returned (.bool true) ∧ Still w w' := trims_walk ring_api a b s d w h1
end Go.Proofs.Ytefopajkcpcjpaa
