/- RouteSorts: the walk, over the landed routes. No condition. -/
import Derived.Test.YtdblhflebaffcaaRouteIs
import Derived.Test.YtdblhflebaffcaaRouteSortsW
namespace Go.Proofs.Ytdblhflebaffcaa
open Go.RowKit
set_option linter.unusedVariables false

theorem walk_RouteSorts (n : Int) (s : Sl (Sl UInt8)) (w : World) (h0 : (Lit.int .i64 n).wf = true) (h1 : SlOk encSl (SlOk encB okB 1) 1 w s) :
    Calls Try.prog 3 #[.int .i64 n, .slice s.a s.len s.cap] w fun e w' => e = .returned (.bool true) ∧ Still w w' := rsorts_walk route_api n s w (i64w_of (w := w) h0) h1
end Go.Proofs.Ytdblhflebaffcaa
