/- TopicFull: the walk, over the landed sets. No condition. -/
import Derived.Test.YtmmkcfiecgpkpaaGreatBdTp
import Derived.Test.YtmmkcfiecgpkpaaGreatTpFullW
namespace Go.Proofs.YtmmkcfiecgpkpaaGreat
open Go.RowKit
set_option linter.unusedVariables false

theorem walk_TopicFull (a : Int) (w : World) (_ : (Lit.int .i64 a).wf = true) :
    Calls Tryz.prog 6 #[.int .i64 a] w fun e w' => e = .returned (.bool true) ∧ Still w w' := tpfull_walk topic_api a w
end Go.Proofs.YtmmkcfiecgpkpaaGreat
