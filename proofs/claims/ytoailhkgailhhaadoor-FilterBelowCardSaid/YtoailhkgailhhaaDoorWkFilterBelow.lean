/- FilterBelow: the walk, over the landed filters. No condition. -/
import Derived.Test.YtoailhkgailhhaaDoorFltAny
import Derived.Test.YtoailhkgailhhaaDoorFilterBelowW
namespace Go.Proofs.YtoailhkgailhhaaDoor
open Go.RowKit
set_option linter.unusedVariables false

theorem walk_FilterBelow (a : ByteArray) (b : ByteArray) (c : ByteArray) (w : World) (ha : a.size ≤ maxLen) (hb : b.size ≤ maxLen) (hc : c.size ≤ maxLen) :
    Calls Tryd.prog 7 #[.string a, .string b, .string c] w fun e w' => e = .returned (.bool true) ∧ Still w w' := by
  rw [tx_of a, tx_of b, tx_of c]
  exact below_walk filter_api _ _ _ w ha hb hc
end Go.Proofs.YtoailhkgailhhaaDoor
