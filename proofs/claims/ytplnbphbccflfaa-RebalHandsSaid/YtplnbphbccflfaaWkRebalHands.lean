/- RebalHands: the walk, over the landed table. No condition. -/
import Derived.Test.YtplnbphbccflfaaBdRb
import Derived.Test.YtplnbphbccflfaaRbHandsW
namespace Go.Proofs.Ytplnbphbccflfaa
open Go.RowKit
set_option linter.unusedVariables false

theorem walk_RebalHands (t : Sl Act17) (w : World) (h1 : SlOk encAct17 okAct17 3 w t) :
    Calls Try.prog 4 #[.slice t.a t.len t.cap] w fun e w' => e = .returned (.bool true) ∧ Still w w' := rbhands_walk rebal_api t w h1
end Go.Proofs.Ytplnbphbccflfaa
