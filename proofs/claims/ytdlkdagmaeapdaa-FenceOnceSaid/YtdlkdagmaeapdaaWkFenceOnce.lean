/- FenceOnce: the walk, over the landed track. No condition. -/
import Derived.Test.YtdlkdagmaeapdaaBdFn
import Derived.Test.YtdlkdagmaeapdaaFnOnceW
namespace Go.Proofs.Ytdlkdagmaeapdaa
open Go.RowKit
set_option linter.unusedVariables false

theorem walk_FenceOnce (a : Int) (s : Sl Act18) (w : World) (h0 : (Lit.int .i64 a).wf = true) (h1 : SlOk encAct18 okAct18 5 w s) :
    Calls Try.prog 5 #[.int .i64 a, .slice s.a s.len s.cap] w fun e w' => e = .returned (.bool true) ∧ Still w w' := fonce_walk fence_api ledger_api a s w h0 h1
end Go.Proofs.Ytdlkdagmaeapdaa
