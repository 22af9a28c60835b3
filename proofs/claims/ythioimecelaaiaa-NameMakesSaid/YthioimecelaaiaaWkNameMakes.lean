/- NameMakes: the walk, over the landed names. No condition. -/
import Derived.Test.YthioimecelaaiaaNameIs
import Derived.Test.YthioimecelaaiaaNameMakesW
namespace Go.Proofs.Ythioimecelaaiaa
open Go.RowKit
set_option linter.unusedVariables false

theorem walk_NameMakes (s : Sl ByteArray) (w : World) (h1 : SlOk encT okS 1 w s) :
    Calls Try.prog 4 #[.slice s.a s.len s.cap] w fun e w' => e = .returned (.bool true) ∧ Still w w' := by
  exact makes_walk name_api s w h1
end Go.Proofs.Ythioimecelaaiaa
