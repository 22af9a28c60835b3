/- PoolBytes: the walk, over the landed pool. No condition. -/
import Derived.Test.YtinfckoaphgmkaaPoolIs
import Derived.Test.YtinfckoaphgmkaaPoolBytes
namespace Go.Proofs.Ytinfckoaphgmkaa
open Go.RowKit
set_option linter.unusedVariables false

theorem walk_PoolBytes (a : Int) (s : Sl Act5) (t : Sl UInt8) (b : Int) (w : World) (_ : (Lit.int .i64 a).wf = true) (h1 : SlOk encAct5 okAct5 5 w s) (h2 : SlOk encB okB 1 w t) (_ : (Lit.int .i64 b).wf = true) :
    Calls Try.prog 6 #[.int .i64 a, .slice s.a s.len s.cap, .slice t.a t.len t.cap, .int .i64 b] w fun e w' => e = .returned (.bool true) ∧ Still w w' := bytes_walk pool_api a s t b w h1 h2
end Go.Proofs.Ytinfckoaphgmkaa
