/- RebalPlays: the walk, over the landed table. No condition. -/
import Derived.Test.YtplnbphbccflfaaBdRb
import Derived.Test.YtplnbphbccflfaaRbPlaysW
namespace Go.Proofs.Ytplnbphbccflfaa
open Go.RowKit
set_option linter.unusedVariables false

theorem walk_RebalPlays (t : Sl Act17) (s : Sl Plc) (w : World) (h1 : SlOk encAct17 okAct17 3 w t) (h2 : SlOk encPl okPl 2 w s) :
    Calls Try.prog 3 #[.slice t.a t.len t.cap, .slice s.a s.len s.cap] w fun e w' => e = .returned (.bool true) ∧ Still w w' := rbplays_walk rebal_api t s w h1 h2
end Go.Proofs.Ytplnbphbccflfaa
