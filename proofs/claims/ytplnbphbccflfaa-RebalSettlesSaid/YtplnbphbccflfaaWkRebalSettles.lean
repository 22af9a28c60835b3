/- RebalSettles: the walk, over the landed table. No condition. -/
import Derived.Test.YtplnbphbccflfaaBdRb
import Derived.Test.YtplnbphbccflfaaRbSettlesW
namespace Go.Proofs.Ytplnbphbccflfaa
open Go.RowKit
set_option linter.unusedVariables false

theorem walk_RebalSettles (t : Sl Act17) (n0 : Int) (s : Sl Int) (w : World) (h1 : SlOk encAct17 okAct17 3 w t) (_ : (Lit.int .i64 n0).wf = true) (h2 : SlOk encI (okI .i64) 1 w s) :
    Calls Try.prog 5 #[.slice t.a t.len t.cap, .int .i64 n0, .slice s.a s.len s.cap] w fun e w' => e = .returned (.bool true) ∧ Still w w' := rbsettles_walk rebal_api t n0 s w h1 h2
end Go.Proofs.Ytplnbphbccflfaa
