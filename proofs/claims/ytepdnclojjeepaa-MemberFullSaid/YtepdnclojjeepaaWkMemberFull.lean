/- MemberFull: the walk, over the landed list. No condition. -/
import Derived.Test.YtepdnclojjeepaaMbIs
import Derived.Test.YtepdnclojjeepaaMbFullW
namespace Go.Proofs.Ytepdnclojjeepaa
open Go.RowKit
set_option linter.unusedVariables false

theorem walk_MemberFull (a : Int) (b : Int) (w : World) (_ : (Lit.int .i64 a).wf = true) (_ : (Lit.int .i64 b).wf = true) :
    Calls Try.prog 7 #[.int .i64 a, .int .i64 b] w fun e w' => e = .returned (.bool true) ∧ Still w w' := mfull_walk member_api a b w
end Go.Proofs.Ytepdnclojjeepaa
