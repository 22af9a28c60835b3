/- TopicVoid: the walk, over the landed sets. No condition. -/
import Derived.Test.YtmmkcfiecgpkpaaGreatBdTp
import Derived.Test.YtmmkcfiecgpkpaaGreatBxTpNil
namespace Go.Proofs.YtmmkcfiecgpkpaaGreat
open Go.RowKit
set_option linter.unusedVariables false

theorem walk_TopicVoid (a : Int) (w : World) (_ : (Lit.int .i64 a).wf = true) :
    Calls Tryz.prog 7 #[.int .i64 a] w fun e w' => e = .returned (.bool true) ∧ Still w w' := tpvoid_walk topic_api void_topic a w
end Go.Proofs.YtmmkcfiecgpkpaaGreat
