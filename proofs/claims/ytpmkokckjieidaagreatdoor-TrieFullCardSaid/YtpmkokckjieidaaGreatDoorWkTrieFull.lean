/- TrieFull: the walk, over the landed tree. No condition. -/
import Derived.Test.YtpmkokckjieidaaGreatDoorBdAll
import Derived.Test.YtpmkokckjieidaaGreatDoorTrieFullW
namespace Go.Proofs.YtpmkokckjieidaaGreatDoor
open Go.RowKit
set_option linter.unusedVariables false

theorem walk_TrieFull (a : Int) (w : World) (h : (Lit.int .i64 a).wf = true) :
    Calls Tryz.prog 7 #[.int .i64 a] w fun e w' => e = .returned (.bool true) ∧ Still w w' := tfull_walk trie_api a w
end Go.Proofs.YtpmkokckjieidaaGreatDoor
