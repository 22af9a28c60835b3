/- NameAbove: the walk, over the landed names. No condition. -/
import Derived.Test.YthioimecelaaiaaNameIs
import Derived.Test.YthioimecelaaiaaNameAboveW
namespace Go.Proofs.Ythioimecelaaiaa
open Go.RowKit
set_option linter.unusedVariables false

theorem walk_NameAbove (a b : ByteArray) (d : Int) (w : World) (ha : a.size ≤ maxLen) (hb : b.size ≤ maxLen) (hd : (Lit.int .i64 d).wf = true) :
    Calls Try.prog 5 #[.string a, .string b, .int .i64 d] w fun e w' => e = .returned (.bool true) ∧ Still w w' := by
  rw [tx_of a, tx_of b]
  exact above_walk name_api _ _ d w ha hb (i64w_of (w := w) hd)
end Go.Proofs.Ythioimecelaaiaa
