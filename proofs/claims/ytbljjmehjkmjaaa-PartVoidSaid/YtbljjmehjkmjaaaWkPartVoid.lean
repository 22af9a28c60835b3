/- PartVoid: the walk, over the landed partitions. No condition. -/
import Derived.Test.YtbljjmehjkmjaaaBdPart
import Derived.Test.YtbljjmehjkmjaaaPartNil
namespace Go.Proofs.Ytbljjmehjkmjaaa
open Go.RowKit
set_option linter.unusedVariables false

theorem walk_PartVoid (a : Int) (w : World) (_ : (Lit.int .i64 a).wf = true) :
    Calls Try.prog 5 #[.int .i64 a] w fun e w' => e = .returned (.bool true) ∧ Still w w' := ptvoid_walk part_api pool_api12 void_part a w
end Go.Proofs.Ytbljjmehjkmjaaa
