/- ShareJoins: the walk, over the landed shares. No condition. -/
import Derived.Test.YtlnbgfglpdkifaaShIs
import Derived.Test.YtlnbgfglpdkifaaShJoinsW
namespace Go.Proofs.Ytlnbgfglpdkifaa
open Go.RowKit
set_option linter.unusedVariables false

theorem walk_ShareJoins (n p i : Int) (w : World) (h0 : (Lit.int .i64 n).wf = true) (h1 : (Lit.int .i64 p).wf = true) (h2 : (Lit.int .i64 i).wf = true) :
    Calls Try.prog 6 #[.int .i64 n, .int .i64 p, .int .i64 i] w fun e w' => e = .returned (.bool true) ∧ Still w w' := shjoins_walk share_api n p i w
end Go.Proofs.Ytlnbgfglpdkifaa
