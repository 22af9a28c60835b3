/- RingOnce: the walk, over the landed ring. No condition. -/
import Derived.Test.YtefopajkcpcjpaaRingIs
import Derived.Test.YtefopajkcpcjpaaRingOnceW
namespace Go.Proofs.Ytefopajkcpcjpaa
open Go.RowKit
set_option linter.unusedVariables false

theorem walk_RingOnce (a b : Int) (s : Sl Act6) (w : World) (_ : (Lit.int .i64 a).wf = true) (_ : (Lit.int .i64 b).wf = true) (h1 : SlOk encAct6 okAct6 2 w s) :
    Calls Try.prog 5 #[.int .i64 a, .int .i64 b, .slice s.a s.len s.cap] w fun e w' => e = .returned (.bool true) ∧ Still w w' := once_walk ring_api a b s w h1
end Go.Proofs.Ytefopajkcpcjpaa
