/- RingReady: the walk, over the landed ring. No condition. -/
import Derived.Test.YtefopajkcpcjpaaRingIs
import Derived.Test.YtefopajkcpcjpaaRingReadyW
namespace Go.Proofs.Ytefopajkcpcjpaa
open Go.RowKit
set_option linter.unusedVariables false

theorem walk_RingReady (a : Int) (s : Sl Act6) (d : Int) (w : World) (_ : (Lit.int .i64 a).wf = true) (h1 : SlOk encAct6 okAct6 2 w s) (_ : (Lit.int .i64 d).wf = true) :
    Calls Try.prog 6 #[.int .i64 a, .slice s.a s.len s.cap, .int .i64 d] w fun e w' => e = .returned (.bool true) ∧ Still w w' := ready_walk ring_api a s d w h1
end Go.Proofs.Ytefopajkcpcjpaa
