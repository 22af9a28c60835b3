/- PoolFull: the walk, over the landed pool. No condition. -/
import Derived.Test.YtinfckoaphgmkaaPoolIs
import Derived.Test.YtinfckoaphgmkaaPoolFull
namespace Go.Proofs.Ytinfckoaphgmkaa
open Go.RowKit
set_option linter.unusedVariables false

theorem walk_PoolFull (a b : Int) (w : World) (_ : (Lit.int .i64 a).wf = true) (_ : (Lit.int .i64 b).wf = true) :
    Calls Try.prog 7 #[.int .i64 a, .int .i64 b] w fun e w' => e = .returned (.bool true) ∧ Still w w' := full_walk pool_api a b w
end Go.Proofs.Ytinfckoaphgmkaa
