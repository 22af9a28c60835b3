/- PartKeeps: the walk, over the landed partitions. No condition. -/
import Derived.Test.YtbljjmehjkmjaaaBdPart
import Derived.Test.YtbljjmehjkmjaaaPtKeepsW
namespace Go.Proofs.Ytbljjmehjkmjaaa
open Go.RowKit
set_option linter.unusedVariables false

theorem walk_PartKeeps (a b : Int) (s : Sl (Sl UInt8)) (rd : Sl Int) (w : World) (_ : (Lit.int .i64 a).wf = true) (_ : (Lit.int .i64 b).wf = true) (h1 : SlOk encSl (SlOk encB okB 1) 1 w s) (h2 : SlOk encI (okI .i64) 1 w rd) :
    Calls Try.prog 3 #[.int .i64 a, .int .i64 b, .slice s.a s.len s.cap, .slice rd.a rd.len rd.cap] w fun e w' => e = .returned (.bool true) ∧ Still w w' := keeps12_walk part_api pool_api12 a b s rd w h1 h2
end Go.Proofs.Ytbljjmehjkmjaaa
