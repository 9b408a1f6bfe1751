/- The document's LogError, own and short. -/
import Derived.Test.YtgellgobgiolnacDoorValid
namespace Go.Proofs.YtgellgobgiolnacDoor
open Go.RowKit

end Go.Proofs.YtgellgobgiolnacDoor
