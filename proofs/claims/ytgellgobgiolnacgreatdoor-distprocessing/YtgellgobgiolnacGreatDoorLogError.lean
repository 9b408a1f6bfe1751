/- The document's LogError, own and short. -/
import Derived.Test.YtgellgobgiolnacGreatDoorValid
namespace Go.Proofs.YtgellgobgiolnacGreatDoor
open Go.RowKit

end Go.Proofs.YtgellgobgiolnacGreatDoor
