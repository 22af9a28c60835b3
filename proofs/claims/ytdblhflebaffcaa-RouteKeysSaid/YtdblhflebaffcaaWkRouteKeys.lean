/- RouteKeys: the walk, over the landed routes. No condition. -/
import Derived.Test.YtdblhflebaffcaaRouteIs
import Derived.Test.YtdblhflebaffcaaRouteKeysW
namespace Go.Proofs.Ytdblhflebaffcaa
open Go.RowKit
set_option linter.unusedVariables false

theorem walk_RouteKeys (n : Int) (s t : Sl UInt8) (w : World) (h0 : (Lit.int .i64 n).wf = true) (h1 : SlOk encB okB 1 w s) (h2 : SlOk encB okB 1 w t) :
    Calls Try.prog 4 #[.int .i64 n, .slice s.a s.len s.cap, .slice t.a t.len t.cap] w fun e w' => e = .returned (.bool true) ∧ Still w w' := rkeys_walk route_api n s t w (i64w_of (w := w) h0) h1 h2
end Go.Proofs.Ytdblhflebaffcaa
