/- TopicFinds: the walk, over the landed sets. No condition. -/
import Derived.Test.YtmmkcfiecgpkpaaGreatBdTp
import Derived.Test.YtmmkcfiecgpkpaaGreatTpFindsW
namespace Go.Proofs.YtmmkcfiecgpkpaaGreat
open Go.RowKit
set_option linter.unusedVariables false

theorem walk_TopicFinds (s : Sl Act13) (w : World) (h1 : SlOk encAct13 okAct13 6 w s) :
    Calls Tryz.prog 5 #[.slice s.a s.len s.cap] w fun e w' => e = .returned (.bool true) ∧ Still w w' := tpfinds_walk topic_api s w h1
end Go.Proofs.YtmmkcfiecgpkpaaGreat
