/- CursorVoid: the walk, over the landed cursor. No condition. -/
import Derived.Test.YtliaaggjefjbeaaCursorIs
import Derived.Test.YtliaaggjefjbeaaCursorNil
import Derived.Test.YtliaaggjefjbeaaRingApi7
namespace Go.Proofs.Ytliaaggjefjbeaa
open Go.RowKit
set_option linter.unusedVariables false

theorem walk_CursorVoid (n : Int) (w : World) (hn : (Lit.int .i64 n).wf = true) :
    Calls Try.prog 8 #[.int .i64 n] w fun e w' => e = .returned (.bool true) ∧ Still w w' := cvoid_walk cursor_api void_cursor n w (i64_of7 (w := w) hn)
end Go.Proofs.Ytliaaggjefjbeaa
