/- ShareAll: the walk, over the landed shares. No condition. -/
import Derived.Test.YtlnbgfglpdkifaaShIs
import Derived.Test.YtlnbgfglpdkifaaShAllW
namespace Go.Proofs.Ytlnbgfglpdkifaa
open Go.RowKit
set_option linter.unusedVariables false

theorem walk_ShareAll (s1 : Sl Int) (s2 : Sl Plc) (s3 : Sl Own) (w : World) (h1 : SlOk encI (okI .i64) 1 w s1) (h2 : SlOk encPl okPl 2 w s2) (h3 : SlOk encOw okOw 3 w s3) :
    Calls Try.prog 3 #[.slice s1.a s1.len s1.cap, .slice s2.a s2.len s2.cap, .slice s3.a s3.len s3.cap] w fun e w' => e = .returned (.bool true) ∧ Still w w' := shall_walk share_api s1 s2 s3 w h1 h2 h3
end Go.Proofs.Ytlnbgfglpdkifaa
