/- FilterNames: the walk, over the landed filters. No condition. -/
import Derived.Test.YtoailhkgailhhaaDoorFltAny
import Derived.Test.YtoailhkgailhhaaDoorFilterNamesW
namespace Go.Proofs.YtoailhkgailhhaaDoor
open Go.RowKit
set_option linter.unusedVariables false

theorem walk_FilterNames (a : ByteArray) (b : ByteArray) (w : World) (ha : a.size ≤ maxLen) (hb : b.size ≤ maxLen) :
    Calls Tryd.prog 6 #[.string a, .string b] w fun e w' => e = .returned (.bool true) ∧ Still w w' := by
  rw [tx_of a, tx_of b]
  exact names_walk filter_api _ _ w ha hb
end Go.Proofs.YtoailhkgailhhaaDoor
