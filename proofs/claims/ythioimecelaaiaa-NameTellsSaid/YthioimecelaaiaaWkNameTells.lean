/- NameTells: the walk, over the landed names. No condition. -/
import Derived.Test.YthioimecelaaiaaNameIs
import Derived.Test.YthioimecelaaiaaNameTellsW
namespace Go.Proofs.Ythioimecelaaiaa
open Go.RowKit
set_option linter.unusedVariables false

theorem walk_NameTells (a : ByteArray) (w : World) (ha : a.size ≤ maxLen) :
    Calls Try.prog 3 #[.string a] w fun e w' => e = .returned (.bool true) ∧ Still w w' := by
  rw [tx_of a]
  exact tells_walk name_api _ w ha
end Go.Proofs.Ythioimecelaaiaa
