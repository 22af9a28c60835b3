/- NameBack: the walk, over the landed names. No condition. -/
import Derived.Test.YthioimecelaaiaaNameIs
import Derived.Test.YthioimecelaaiaaNameBackW
namespace Go.Proofs.Ythioimecelaaiaa
open Go.RowKit
set_option linter.unusedVariables false

theorem walk_NameBack (a : ByteArray) (s : Sl ByteArray) (w : World) (ha : a.size ≤ maxLen) (h1 : SlOk encT okS 1 w s) :
    Calls Try.prog 6 #[.string a, .slice s.a s.len s.cap] w fun e w' => e = .returned (.bool true) ∧ Still w w' := by
  rw [tx_of a]
  exact back_walk name_api _ s w ha h1
end Go.Proofs.Ythioimecelaaiaa
