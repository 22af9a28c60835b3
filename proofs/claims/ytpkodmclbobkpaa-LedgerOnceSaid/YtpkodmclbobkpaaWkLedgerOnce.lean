/- LedgerOnce: the walk, over the landed ledger. No condition. -/
import Derived.Test.YtpkodmclbobkpaaLgIs
import Derived.Test.YtpkodmclbobkpaaLgOnceW
namespace Go.Proofs.Ytpkodmclbobkpaa
open Go.RowKit
set_option linter.unusedVariables false

theorem walk_LedgerOnce (a : Int) (s : Sl Act14) (w : World) (_ : (Lit.int .i64 a).wf = true) (h1 : SlOk encAct14 okAct14 3 w s) :
    Calls Try.prog 4 #[.int .i64 a, .slice s.a s.len s.cap] w fun e w' => e = .returned (.bool true) ∧ Still w w' := lonce_walk ledger_api a s w h1
end Go.Proofs.Ytpkodmclbobkpaa
