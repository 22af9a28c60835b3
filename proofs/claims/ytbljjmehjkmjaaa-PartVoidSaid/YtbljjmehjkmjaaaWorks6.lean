/- The chapter's example of layer 6. No condition but that the program's ring keeps its words. -/
import Derived.Test.YtbljjmehjkmjaaaRingApi
namespace Go.Proofs.Ytbljjmehjkmjaaa
open Go.RowKit
set_option linter.unusedVariables false
set_option maxRecDepth 100000

end Go.Proofs.Ytbljjmehjkmjaaa