/- MemberVoid: the walk, over the landed list. No condition. -/
import Derived.Test.YtepdnclojjeepaaMbIs
import Derived.Test.YtepdnclojjeepaaMbNil
namespace Go.Proofs.Ytepdnclojjeepaa
open Go.RowKit
set_option linter.unusedVariables false

theorem walk_MemberVoid (a : Int) (w : World) (_ : (Lit.int .i64 a).wf = true) :
    Calls Try.prog 6 #[.int .i64 a] w fun e w' => e = .returned (.bool true) ∧ Still w w' := mvoid_walk member_api void_member a w
end Go.Proofs.Ytepdnclojjeepaa
