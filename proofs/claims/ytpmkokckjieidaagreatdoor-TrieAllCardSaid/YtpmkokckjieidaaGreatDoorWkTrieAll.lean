/- TrieAll: the walk, over the landed tree. No condition. -/
import Derived.Test.YtpmkokckjieidaaGreatDoorBdAll
import Derived.Test.YtpmkokckjieidaaGreatDoorTrieAllW
namespace Go.Proofs.YtpmkokckjieidaaGreatDoor
open Go.RowKit
set_option linter.unusedVariables false

theorem walk_TrieAll (s1 : Sl Act10) (sa : ByteArray) (w : World) (h1 : SlOk encAct10 okAct10 3 w s1) (hsa : sa.size ≤ maxLen) :
    Calls Tryz.prog 6 #[.slice s1.a s1.len s1.cap, .string sa] w fun e w' => e = .returned (.bool true) ∧ Still w w' := all_walk trie_api s1 sa w h1 hsa
end Go.Proofs.YtpmkokckjieidaaGreatDoor
