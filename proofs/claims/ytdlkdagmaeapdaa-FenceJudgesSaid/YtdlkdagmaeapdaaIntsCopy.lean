/- A copy of one's own of numbers: what the base's Ints does. No condition. -/
import Derived.Test.YtdlkdagmaeapdaaOwn
import Derived.Test.YtdlkdagmaeapdaaRead
import Derived.Deep.RegionHeld3
import Derived.Deep.DeepCutAuto
import Derived.Deep.CutBlock
import Derived.Deep.RegionLaw
import Derived.Maps.AppendAt
import Derived.BigQuiet
namespace Go.Proofs.Ytdlkdagmaeapdaa
open Go.RowKit
set_option linter.unusedVariables false
set_option linter.unusedSimpArgs false
set_option maxRecDepth 100000

/-- A copy of one's own of numbers. -/
def IntsPost (w : World) (l : List Int) (n : Nat) (e : Ending) (w' : World) : Prop :=
  ∃ a c, e = .returned (.slice (some a) n c) ∧ w'.ownsRow w.heap.size 3 1 (.slice (some a) n c) n (ints l) ∧ Still w w'

end Go.Proofs.Ytdlkdagmaeapdaa
