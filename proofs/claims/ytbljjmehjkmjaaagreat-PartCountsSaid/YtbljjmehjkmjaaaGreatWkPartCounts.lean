/- PartCounts: the walk, over the landed partitions. No condition. -/
import Derived.Test.YtbljjmehjkmjaaaGreatBdPart
import Derived.Test.YtbljjmehjkmjaaaGreatPtCountsW
namespace Go.Proofs.YtbljjmehjkmjaaaGreat
open Go.RowKit
set_option linter.unusedVariables false

theorem walk_PartCounts (a b c : Int) (s : Sl Act12) (w : World) (_ : (Lit.int .i64 a).wf = true) (_ : (Lit.int .i64 b).wf = true) (_ : (Lit.int .i64 c).wf = true) (h1 : SlOk encAct12 okAct12 4 w s) :
    Calls Tryz.prog 4 #[.int .i64 a, .int .i64 b, .int .i64 c, .slice s.a s.len s.cap] w fun e w' => e = .returned (.bool true) ∧ Still w w' := counts12_walk part_api pool_api12 a b c s w h1
end Go.Proofs.YtbljjmehjkmjaaaGreat
