/- PartBlocks: the walk, over the landed partitions. No condition. -/
import Derived.Test.YtbljjmehjkmjaaaBdPart
import Derived.Test.YtbljjmehjkmjaaaPtBlocksW
namespace Go.Proofs.Ytbljjmehjkmjaaa
open Go.RowKit
set_option linter.unusedVariables false

theorem walk_PartBlocks (a b c : Int) (w : World) (_ : (Lit.int .i64 a).wf = true) (_ : (Lit.int .i64 b).wf = true) (_ : (Lit.int .i64 c).wf = true) :
    Calls Try.prog 4 #[.int .i64 a, .int .i64 b, .int .i64 c] w fun e w' => e = .returned (.bool true) ∧ Still w w' := blocks_walk part_api pool_api12 a b c w
end Go.Proofs.Ytbljjmehjkmjaaa
