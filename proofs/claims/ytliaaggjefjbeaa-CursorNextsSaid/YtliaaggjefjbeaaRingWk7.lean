/- The landed ring and its readers keep the words that the statements of layer 7 want of them. No condition. -/
import Derived.Test.YtliaaggjefjbeaaRingIs7
import Derived.Test.YtliaaggjefjbeaaCursorGo
namespace Go.Proofs.Ytliaaggjefjbeaa
open Go.RowKit
set_option linter.unusedVariables false

theorem ring_api7 : RingApi7 rT := ring7_of (fun H hM hN x _ => lost_any H hM hN x) (fun H hM hN x _ => next_any H hM hN x)
end Go.Proofs.Ytliaaggjefjbeaa
