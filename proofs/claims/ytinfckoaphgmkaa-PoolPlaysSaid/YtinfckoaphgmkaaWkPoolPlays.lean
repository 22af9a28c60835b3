/- PoolPlays: the walk, over the landed pool. No condition. -/
import Derived.Test.YtinfckoaphgmkaaPoolIs
import Derived.Test.YtinfckoaphgmkaaPoolPlays
namespace Go.Proofs.Ytinfckoaphgmkaa
open Go.RowKit
set_option linter.unusedVariables false

theorem walk_PoolPlays (a b : Int) (s : Sl Act5) (w : World) (h : (Lit.int .i64 a).wf = true) (h' : (Lit.int .i64 b).wf = true) (h1 : SlOk encAct5 okAct5 5 w s) :
    Calls Try.prog 3 #[.int .i64 a, .int .i64 b, .slice s.a s.len s.cap] w fun e w' => e = .returned (.bool true) ∧ Still w w' := plays_walk pool_api a b s w h h' h1
end Go.Proofs.Ytinfckoaphgmkaa
