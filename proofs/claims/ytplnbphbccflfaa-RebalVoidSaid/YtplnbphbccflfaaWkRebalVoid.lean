/- RebalVoid: the walk, over the landed table. No condition. -/
import Derived.Test.YtplnbphbccflfaaBdRb
import Derived.Test.YtplnbphbccflfaaRbNil
namespace Go.Proofs.Ytplnbphbccflfaa
open Go.RowKit
set_option linter.unusedVariables false

theorem walk_RebalVoid (a : Int) (w : World) (_ : (Lit.int .i64 a).wf = true) :
    Calls Try.prog 6 #[.int .i64 a] w fun e w' => e = .returned (.bool true) ∧ Still w w' := rbvoid_walk rebal_api void_rebal a w
end Go.Proofs.Ytplnbphbccflfaa
