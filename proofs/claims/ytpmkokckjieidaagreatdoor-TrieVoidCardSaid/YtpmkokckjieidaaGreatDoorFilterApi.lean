/- What the statements of layer 9 want of the program's calls, told of the plain filters; the statement's own helpers. The words are shown of the program in another text. No condition. -/
import Derived.Test.YtpmkokckjieidaaGreatDoorFilterCov
import Derived.Test.YtpmkokckjieidaaGreatDoorTextMore
namespace Go.Proofs.YtpmkokckjieidaaGreatDoor
open Go.RowKit
set_option linter.unusedVariables false
set_option linter.unusedSimpArgs false
set_option maxRecDepth 100000

def FlvPost (w : World) (l : Txt) (n : Nat) (e : Ending) (w' : World) : Prop := ∃ a c, e = .returned (.tuple #[.slice a n c, .int .i64 (fcE l)]) ∧ TextsAt w' a (flv l) ∧ SlW a n c ∧ Still w w'

end Go.Proofs.YtpmkokckjieidaaGreatDoor