/- What Covers of the document's filter does. No condition but that the texts are no longer than the statements make them. -/
import Derived.Test.YtpmkokckjieidaaGreatDoorFilterIs
namespace Go.Proofs.YtpmkokckjieidaaGreatDoor
open Go.RowKit
set_option linter.unusedVariables false
set_option linter.unusedSimpArgs false
set_option maxRecDepth 100000

end Go.Proofs.YtpmkokckjieidaaGreatDoor