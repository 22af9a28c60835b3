/- RouteOne: the walk, over the landed routes. No condition. -/
import Derived.Test.YtdblhflebaffcaaRouteIs
import Derived.Test.YtdblhflebaffcaaRouteSortsW
namespace Go.Proofs.Ytdblhflebaffcaa
open Go.RowKit
set_option linter.unusedVariables false

theorem walk_RouteOne (s : Sl (Sl UInt8)) (w : World) (h1 : SlOk encSl (SlOk encB okB 1) 1 w s) :
    Calls Try.prog 6 #[.slice s.a s.len s.cap] w fun e w' => e = .returned (.bool true) ∧ Still w w' := rone_walk route_api s w h1
end Go.Proofs.Ytdblhflebaffcaa
