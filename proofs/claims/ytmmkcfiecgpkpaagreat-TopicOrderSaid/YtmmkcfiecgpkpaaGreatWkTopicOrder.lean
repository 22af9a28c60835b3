/- TopicOrder: the walk, over the landed sets. No condition. -/
import Derived.Test.YtmmkcfiecgpkpaaGreatBdTp
import Derived.Test.YtmmkcfiecgpkpaaGreatTpOrderW
namespace Go.Proofs.YtmmkcfiecgpkpaaGreat
open Go.RowKit
set_option linter.unusedVariables false

theorem walk_TopicOrder (a b : Int) (s : Sl (Sl UInt8)) (w : World) (_ : (Lit.int .i64 a).wf = true) (_ : (Lit.int .i64 b).wf = true) (h1 : SlOk encSl (SlOk encB okB 1) 1 w s) :
    Calls Tryz.prog 4 #[.int .i64 a, .int .i64 b, .slice s.a s.len s.cap] w fun e w' => e = .returned (.bool true) ∧ Still w w' := tporder_walk topic_api part_acts a b s w h1
end Go.Proofs.YtmmkcfiecgpkpaaGreat
