/- TrieTurns: the walk, over the landed tree. No condition. -/
import Derived.Test.YtpmkokckjieidaaGreatDoorBdAll
import Derived.Test.YtpmkokckjieidaaGreatDoorTrieTurnsW
namespace Go.Proofs.YtpmkokckjieidaaGreatDoor
open Go.RowKit
set_option linter.unusedVariables false

theorem walk_TrieTurns (s1 : Sl Act10) (x : Int) (sa : ByteArray) (w : World) (h1 : SlOk encAct10 okAct10 3 w s1) (hx : (Lit.int .i64 x).wf = true) (hsa : sa.size ≤ maxLen) :
    Calls Tryz.prog 5 #[.slice s1.a s1.len s1.cap, .int .i64 x, .string sa] w fun e w' => e = .returned (.bool true) ∧ Still w w' := turns_walk trie_api s1 x sa w h1 hsa
end Go.Proofs.YtpmkokckjieidaaGreatDoor
