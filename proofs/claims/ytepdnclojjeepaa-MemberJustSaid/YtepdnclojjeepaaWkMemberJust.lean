/- MemberJust: the walk, over the landed list. No condition. -/
import Derived.Test.YtepdnclojjeepaaMbIs
import Derived.Test.YtepdnclojjeepaaMbJustW
namespace Go.Proofs.Ytepdnclojjeepaa
open Go.RowKit
set_option linter.unusedVariables false

theorem walk_MemberJust (s : Sl Act15) (w : World) (h1 : SlOk encAct15 okAct15 2 w s) :
    Calls Try.prog 4 #[.slice s.a s.len s.cap] w fun e w' => e = .returned (.bool true) ∧ Still w w' := mjust_walk member_api s w h1
end Go.Proofs.Ytepdnclojjeepaa
