/- A store into numbers of one's own that are held. No condition. -/
import Derived.Test.YtdlkdagmaeapdaaBdRbM
import Derived.Test.YtdlkdagmaeapdaaSitRow
import Derived.Test.YtdlkdagmaeapdaaRowsT
namespace Go.Proofs.Ytdlkdagmaeapdaa
open Go.RowKit
set_option linter.unusedVariables false

end Go.Proofs.Ytdlkdagmaeapdaa
