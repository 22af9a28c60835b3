/- What the statements of layer 8 want of the program's calls, told of the plain names; the statement's own helpers. The words are shown of the program in another text. No condition. -/
import Derived.Test.YtoailhkgailhhaaDoorNameCmp
import Derived.Test.YtoailhkgailhhaaDoorTextMore
namespace Go.Proofs.YtoailhkgailhhaaDoor
open Go.RowKit
set_option linter.unusedVariables false
set_option linter.unusedSimpArgs false
set_option maxRecDepth 100000

def LevPost (w : World) (l : Txt) (n : Nat) (e : Ending) (w' : World) : Prop := ∃ a c, e = .returned (.tuple #[.slice a n c, .int .i64 (nmE l)]) ∧ TextsAt w' a (lvls l) ∧ SlW a n c ∧ Still w w'

end Go.Proofs.YtoailhkgailhhaaDoor