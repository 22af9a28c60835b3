/- CursorFar: the walk, over the landed cursor. No condition. -/
import Derived.Test.YtliaaggjefjbeaaCursorIs
import Derived.Test.YtliaaggjefjbeaaCursorFarW
import Derived.Test.YtliaaggjefjbeaaRingApi7
namespace Go.Proofs.Ytliaaggjefjbeaa
open Go.RowKit
set_option linter.unusedVariables false

theorem walk_CursorFar (a h t m : Int) (w : World) (ha : (Lit.int .i64 a).wf = true) (hh : (Lit.int .i64 h).wf = true) (ht : (Lit.int .i64 t).wf = true) (hm : (Lit.int .i64 m).wf = true) :
    Calls Try.prog 7 #[.int .i64 a, .int .i64 h, .int .i64 t, .int .i64 m] w fun e w' => e = .returned (.bool true) ∧ Still w w' := far_walk cursor_api a h t m w (i64_of7 (w := w) ha) (i64_of7 (w := w) hh) (i64_of7 (w := w) ht)
end Go.Proofs.Ytliaaggjefjbeaa
