/- FenceVoid: the walk, over the landed track. No condition. -/
import Derived.Test.YtdlkdagmaeapdaaFnIs
import Derived.Test.YtdlkdagmaeapdaaFnNil
namespace Go.Proofs.Ytdlkdagmaeapdaa
open Go.RowKit
set_option linter.unusedVariables false

theorem walk_FenceVoid (a : Int) (w : World) (_ : (Lit.int .i64 a).wf = true) :
    Calls Try.prog 7 #[.int .i64 a] w fun e w' => e = .returned (.bool true) ∧ Still w w' := fnvoid_walk fence_api void_fence a w
end Go.Proofs.Ytdlkdagmaeapdaa
