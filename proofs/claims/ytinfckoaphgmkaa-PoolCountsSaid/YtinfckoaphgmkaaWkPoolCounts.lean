/- PoolCounts: the walk, over the landed pool. No condition. -/
import Derived.Test.YtinfckoaphgmkaaPoolIs
import Derived.Test.YtinfckoaphgmkaaPoolCounts
namespace Go.Proofs.Ytinfckoaphgmkaa
open Go.RowKit
set_option linter.unusedVariables false

theorem walk_PoolCounts (a : Int) (s : Sl Act5) (w : World) (_ : (Lit.int .i64 a).wf = true) (h1 : SlOk encAct5 okAct5 5 w s) :
    Calls Try.prog 4 #[.int .i64 a, .slice s.a s.len s.cap] w fun e w' => e = .returned (.bool true) ∧ Still w w' := counts_walk pool_api a s w h1
end Go.Proofs.Ytinfckoaphgmkaa
