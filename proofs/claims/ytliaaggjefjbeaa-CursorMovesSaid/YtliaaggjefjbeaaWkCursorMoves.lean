/- CursorMoves: the walk, over the landed cursor. No condition. -/
import Derived.Test.YtliaaggjefjbeaaCursorIs
import Derived.Test.YtliaaggjefjbeaaCursorMovesW
import Derived.Test.YtliaaggjefjbeaaRingApi7
namespace Go.Proofs.Ytliaaggjefjbeaa
open Go.RowKit
set_option linter.unusedVariables false

theorem walk_CursorMoves (a h t : Int) (s : Sl Int) (w : World) (ha : (Lit.int .i64 a).wf = true) (hh : (Lit.int .i64 h).wf = true) (ht : (Lit.int .i64 t).wf = true) (h1 : SlOk encI (okI .i64) 1 w s) :
    Calls Try.prog 3 #[.int .i64 a, .int .i64 h, .int .i64 t, .slice s.a s.len s.cap] w fun e w' => e = .returned (.bool true) ∧ Still w w' := moves_walk cursor_api a h t s w (i64_of7 (w := w) ha) (i64_of7 (w := w) hh) (i64_of7 (w := w) ht) h1
end Go.Proofs.Ytliaaggjefjbeaa
