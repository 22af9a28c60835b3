/- FenceJudges: the walk, over the landed track and table; a place as an argument. No condition. -/
import Derived.Test.YtdlkdagmaeapdaaBdFn
import Derived.Test.YtdlkdagmaeapdaaFnJIs
import Derived.Test.YtdlkdagmaeapdaaFnJdgW
import Derived.Test.YtdlkdagmaeapdaaPairArg
namespace Go.Proofs.Ytdlkdagmaeapdaa
open Go.RowKit
set_option linter.unusedVariables false

theorem walk_FenceJudges (s : Sl (Sl Int)) (r : Sl Int) (x g : Int) (p : Int × Int) (w : World) (hs : SlOk encSl (SlOk encI (okI .i64) 1) 1 w s) (hr : SlOk encI (okI .i64) 1 w r) (hx : (Lit.int .i64 x).wf = true) (_ : (Lit.int .i64 g).wf = true) (_ : okPair w p) :
    Calls Try.prog 6 #[.slice s.a s.len s.cap, .slice r.a r.len r.cap, .int .i64 x, .int .i64 g, .agg (encPair p).toArray] w fun e w' => e = .returned (.bool true) ∧ Still w w' :=
  fjudges_walk fence_api rebal_api judge_api s r x g p w hs hr hx
end Go.Proofs.Ytdlkdagmaeapdaa
