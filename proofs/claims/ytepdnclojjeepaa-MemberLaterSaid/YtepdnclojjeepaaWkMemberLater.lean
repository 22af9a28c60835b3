/- MemberLater: the walk, over the landed list. No condition. -/
import Derived.Test.YtepdnclojjeepaaMbIs
import Derived.Test.YtepdnclojjeepaaMbLaterW
namespace Go.Proofs.Ytepdnclojjeepaa
open Go.RowKit
set_option linter.unusedVariables false

theorem walk_MemberLater (s : Sl Act15) (b : Int) (w : World) (h1 : SlOk encAct15 okAct15 2 w s) (_ : (Lit.int .i64 b).wf = true) :
    Calls Try.prog 5 #[.slice s.a s.len s.cap, .int .i64 b] w fun e w' => e = .returned (.bool true) ∧ Still w w' := mlater_walk member_api s b w h1
end Go.Proofs.Ytepdnclojjeepaa
