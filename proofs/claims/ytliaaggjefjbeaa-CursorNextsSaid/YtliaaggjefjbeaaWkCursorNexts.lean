/- CursorNexts: the walk, over the landed cursor. No condition. -/
import Derived.Test.YtliaaggjefjbeaaCursorIs
import Derived.Test.YtliaaggjefjbeaaRingWk7
import Derived.Test.YtliaaggjefjbeaaCursorNextsW
namespace Go.Proofs.Ytliaaggjefjbeaa
open Go.RowKit
set_option linter.unusedVariables false

theorem walk_CursorNexts (r0 : Int) (s : Sl Act7) (a : Int) (w : World) (hr0 : (Lit.int .i64 r0).wf = true) (h1 : SlOk encAct7 okAct7 2 w s) (ha : (Lit.int .i64 a).wf = true) :
    Calls Try.prog 4 #[.int .i64 r0, .slice s.a s.len s.cap, .int .i64 a] w fun e w' => e = .returned (.bool true) ∧ Still w w' := nexts_walk ring_api7 cursor_api r0 s a w h1 (i64_of7 (w := w) ha)
end Go.Proofs.Ytliaaggjefjbeaa
