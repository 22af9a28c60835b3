/- NameBegins: the walk, over the landed names. No condition. -/
import Derived.Test.YthioimecelaaiaaNameIs
import Derived.Test.YthioimecelaaiaaNameBeginsW
namespace Go.Proofs.Ythioimecelaaiaa
open Go.RowKit
set_option linter.unusedVariables false

theorem walk_NameBegins (a : ByteArray) (d : Int) (w : World) (ha : a.size ≤ maxLen) (hd : (Lit.int .i64 d).wf = true) :
    Calls Try.prog 8 #[.string a, .int .i64 d] w fun e w' => e = .returned (.bool true) ∧ Still w w' := by
  rw [tx_of a]
  exact begins_walk8 name_api _ d w ha (i64w_of (w := w) hd)
end Go.Proofs.Ythioimecelaaiaa
