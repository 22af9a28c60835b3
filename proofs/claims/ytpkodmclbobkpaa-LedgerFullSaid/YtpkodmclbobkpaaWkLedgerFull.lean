/- LedgerFull: the walk, over the landed ledger. No condition. -/
import Derived.Test.YtpkodmclbobkpaaLgIs
import Derived.Test.YtpkodmclbobkpaaLgFullW
namespace Go.Proofs.Ytpkodmclbobkpaa
open Go.RowKit
set_option linter.unusedVariables false

theorem walk_LedgerFull (a : Int) (w : World) (_ : (Lit.int .i64 a).wf = true) :
    Calls Try.prog 6 #[.int .i64 a] w fun e w' => e = .returned (.bool true) ∧ Still w w' := lfull_walk ledger_api a w
end Go.Proofs.Ytpkodmclbobkpaa
