/- FilterTells: the walk, over the landed filters. No condition. -/
import Derived.Test.YtoailhkgailhhaaDoorFltAny
import Derived.Test.YtoailhkgailhhaaDoorFilterTellsW
namespace Go.Proofs.YtoailhkgailhhaaDoor
open Go.RowKit
set_option linter.unusedVariables false

theorem walk_FilterTells (a : ByteArray) (w : World) (ha : a.size ≤ maxLen) :
    Calls Tryd.prog 3 #[.string a] w fun e w' => e = .returned (.bool true) ∧ Still w w' := by
  rw [tx_of a]
  exact ftells_walk filter_api _ w ha
end Go.Proofs.YtoailhkgailhhaaDoor
