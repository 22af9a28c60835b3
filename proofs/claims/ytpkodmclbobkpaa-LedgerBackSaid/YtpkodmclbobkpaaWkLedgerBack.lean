/- LedgerBack: the walk, over the landed ledger. No condition. -/
import Derived.Test.YtpkodmclbobkpaaLgIs
import Derived.Test.YtpkodmclbobkpaaLgBackW
namespace Go.Proofs.Ytpkodmclbobkpaa
open Go.RowKit
set_option linter.unusedVariables false

theorem walk_LedgerBack (a : Int) (s : Sl Act14) (b : Int) (w : World) (_ : (Lit.int .i64 a).wf = true) (h1 : SlOk encAct14 okAct14 3 w s) (_ : (Lit.int .i64 b).wf = true) :
    Calls Try.prog 5 #[.int .i64 a, .slice s.a s.len s.cap, .int .i64 b] w fun e w' => e = .returned (.bool true) ∧ Still w w' := lback_walk ledger_api a s b w h1
end Go.Proofs.Ytpkodmclbobkpaa
