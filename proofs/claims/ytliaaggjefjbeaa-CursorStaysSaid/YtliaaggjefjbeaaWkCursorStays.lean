/- CursorStays: the walk, over the landed cursor. No condition. -/
import Derived.Test.YtliaaggjefjbeaaCursorIs
import Derived.Test.YtliaaggjefjbeaaCursorStaysW
import Derived.Test.YtliaaggjefjbeaaRingApi7
namespace Go.Proofs.Ytliaaggjefjbeaa
open Go.RowKit
set_option linter.unusedVariables false

theorem walk_CursorStays (a h t : Int) (w : World) (ha : (Lit.int .i64 a).wf = true) (hh : (Lit.int .i64 h).wf = true) (ht : (Lit.int .i64 t).wf = true) :
    Calls Try.prog 5 #[.int .i64 a, .int .i64 h, .int .i64 t] w fun e w' => e = .returned (.bool true) ∧ Still w w' := stays_walk cursor_api a h t w (i64_of7 (w := w) ha) (i64_of7 (w := w) hh) (i64_of7 (w := w) ht)
end Go.Proofs.Ytliaaggjefjbeaa
