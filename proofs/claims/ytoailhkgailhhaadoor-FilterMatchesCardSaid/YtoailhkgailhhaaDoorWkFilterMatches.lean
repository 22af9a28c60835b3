/- FilterMatches: the walk, over the landed filters. No condition. -/
import Derived.Test.YtoailhkgailhhaaDoorFltAny
import Derived.Test.YtoailhkgailhhaaDoorFilterMatchesW
namespace Go.Proofs.YtoailhkgailhhaaDoor
open Go.RowKit
set_option linter.unusedVariables false

theorem walk_FilterMatches (a : ByteArray) (b : ByteArray) (s : Sl ByteArray) (w : World) (ha : a.size ≤ maxLen) (hb : b.size ≤ maxLen) (h1 : SlOk encT okS 1 w s) :
    Calls Tryd.prog 4 #[.string a, .string b, .slice s.a s.len s.cap] w fun e w' => e = .returned (.bool true) ∧ Still w w' := by
  rw [tx_of a, tx_of b]
  exact matches_walk filter_api _ _ s w ha hb h1
end Go.Proofs.YtoailhkgailhhaaDoor
