/- PoolVoid: the walk, over the landed pool. No condition. -/
import Derived.Test.YtinfckoaphgmkaaPoolIs
import Derived.Test.YtinfckoaphgmkaaPoolNil
namespace Go.Proofs.Ytinfckoaphgmkaa
open Go.RowKit
set_option linter.unusedVariables false

theorem walk_PoolVoid (a : Int) (w : World) (_ : (Lit.int .i64 a).wf = true) :
    Calls Try.prog 8 #[.int .i64 a] w fun e w' => e = .returned (.bool true) ∧ Still w w' := void_walk pool_api void_api a w
end Go.Proofs.Ytinfckoaphgmkaa
