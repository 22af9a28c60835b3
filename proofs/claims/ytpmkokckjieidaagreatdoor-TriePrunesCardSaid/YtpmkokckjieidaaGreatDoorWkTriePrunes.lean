/- TriePrunes: the walk, over the landed tree. No condition. -/
import Derived.Test.YtpmkokckjieidaaGreatDoorBdAll
import Derived.Test.YtpmkokckjieidaaGreatDoorTriePrunesW
namespace Go.Proofs.YtpmkokckjieidaaGreatDoor
open Go.RowKit
set_option linter.unusedVariables false

theorem walk_TriePrunes (s1 s2 : Sl Act10) (w : World) (h1 : SlOk encAct10 okAct10 3 w s1) (h2 : SlOk encAct10 okAct10 3 w s2) :
    Calls Tryz.prog 4 #[.slice s1.a s1.len s1.cap, .slice s2.a s2.len s2.cap] w fun e w' => e = .returned (.bool true) ∧ Still w w' := prunes_walk trie_api s1 s2 w h1 h2
end Go.Proofs.YtpmkokckjieidaaGreatDoor
