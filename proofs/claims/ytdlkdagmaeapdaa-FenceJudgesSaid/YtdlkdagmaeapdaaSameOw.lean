/- Owners in memory: what the base's SameOwners says of rows of them. No condition. -/
import Derived.Test.YtdlkdagmaeapdaaSamePl
namespace Go.Proofs.Ytdlkdagmaeapdaa
open Go.RowKit
set_option linter.unusedVariables false
set_option linter.unusedSimpArgs false
set_option maxRecDepth 100000

end Go.Proofs.Ytdlkdagmaeapdaa
