/- LedgerVoid: the walk, over the landed ledger. No condition. -/
import Derived.Test.YtpkodmclbobkpaaLgIs
import Derived.Test.YtpkodmclbobkpaaLgNil
namespace Go.Proofs.Ytpkodmclbobkpaa
open Go.RowKit
set_option linter.unusedVariables false

theorem walk_LedgerVoid (a : Int) (w : World) (_ : (Lit.int .i64 a).wf = true) :
    Calls Try.prog 8 #[.int .i64 a] w fun e w' => e = .returned (.bool true) ∧ Still w w' := lvoid_walk ledger_api void_ledger a w
end Go.Proofs.Ytpkodmclbobkpaa
