/- The document's LogError, own and short. -/
import Derived.Test.YtgellgobgiolnaaGreatDoorValid
namespace Go.Proofs.YtgellgobgiolnaaGreatDoor
open Go.RowKit

end Go.Proofs.YtgellgobgiolnaaGreatDoor
