/- LedgerPlays: the walk, over the landed ledger. No condition. -/
import Derived.Test.YtpkodmclbobkpaaLgIs
import Derived.Test.YtpkodmclbobkpaaLgPlaysW
namespace Go.Proofs.Ytpkodmclbobkpaa
open Go.RowKit
set_option linter.unusedVariables false

theorem walk_LedgerPlays (a : Int) (s : Sl Act14) (w : World) (h0 : (Lit.int .i64 a).wf = true) (h1 : SlOk encAct14 okAct14 3 w s) :
    Calls Try.prog 3 #[.int .i64 a, .slice s.a s.len s.cap] w fun e w' => e = .returned (.bool true) ∧ Still w w' := lplays_walk ledger_api a s w h0 h1
end Go.Proofs.Ytpkodmclbobkpaa
