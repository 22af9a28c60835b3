/- TrieVoid: the walk, over the landed tree. No condition. -/
import Derived.Test.YtpmkokckjieidaaGreatDoorBdAll
import Derived.Test.YtpmkokckjieidaaGreatDoorTreeVoid
namespace Go.Proofs.YtpmkokckjieidaaGreatDoor
open Go.RowKit
set_option linter.unusedVariables false

theorem walk_TrieVoid (a : Int) (w : World) (h : (Lit.int .i64 a).wf = true) :
    Calls Tryz.prog 8 #[.int .i64 a] w fun e w' => e = .returned (.bool true) ∧ Still w w' := tvoid_walk trie_api void_trie a w
end Go.Proofs.YtpmkokckjieidaaGreatDoor
