/- PartApart: the walk, over the landed partitions. No condition. -/
import Derived.Test.YtbljjmehjkmjaaaGreatBdPart
import Derived.Test.YtbljjmehjkmjaaaGreatPtApartW
namespace Go.Proofs.YtbljjmehjkmjaaaGreat
open Go.RowKit
set_option linter.unusedVariables false

theorem walk_PartApart (a b : Int) (s1 s2 : Sl Act12) (w : World) (_ : (Lit.int .i64 a).wf = true) (_ : (Lit.int .i64 b).wf = true) (h1 : SlOk encAct12 okAct12 4 w s1) (h2 : SlOk encAct12 okAct12 4 w s2) :
    Calls Tryz.prog 5 #[.int .i64 a, .int .i64 b, .slice s1.a s1.len s1.cap, .slice s2.a s2.len s2.cap] w fun e w' => e = .returned (.bool true) ∧ Still w w' := apart_walk part_api pool_api12 a b s1 s2 w h1 h2
end Go.Proofs.YtbljjmehjkmjaaaGreat
