/- A store into numbers of one's own that are held. No condition. -/
import Derived.Test.YtplnbphbccflfaaRbApi
import Derived.Test.YtplnbphbccflfaaSitRow
import Derived.Test.YtplnbphbccflfaaRowsT
namespace Go.Proofs.Ytplnbphbccflfaa
open Go.RowKit
set_option linter.unusedVariables false

end Go.Proofs.Ytplnbphbccflfaa
