/- CursorReads: the walk, over the landed cursor. No condition. -/
import Derived.Test.YtliaaggjefjbeaaCursorIs
import Derived.Test.YtliaaggjefjbeaaRingWk7
import Derived.Test.YtliaaggjefjbeaaCursorReadsW
namespace Go.Proofs.Ytliaaggjefjbeaa
open Go.RowKit
set_option linter.unusedVariables false

theorem walk_CursorReads (r0 : Int) (s : Sl Act7) (w : World) (hr0 : (Lit.int .i64 r0).wf = true) (h1 : SlOk encAct7 okAct7 2 w s) :
    Calls Try.prog 6 #[.int .i64 r0, .slice s.a s.len s.cap] w fun e w' => e = .returned (.bool true) ∧ Still w w' := reads_walk ring_api7 cursor_api r0 s w h1
end Go.Proofs.Ytliaaggjefjbeaa
