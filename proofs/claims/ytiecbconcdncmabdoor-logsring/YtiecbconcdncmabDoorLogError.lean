/- The document's LogError, own and short. -/
import Derived.Test.YtiecbconcdncmabDoorValid
namespace Go.Proofs.YtiecbconcdncmabDoor
open Go.RowKit

end Go.Proofs.YtiecbconcdncmabDoor
