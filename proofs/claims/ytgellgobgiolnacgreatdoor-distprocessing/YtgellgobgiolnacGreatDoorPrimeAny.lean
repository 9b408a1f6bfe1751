/- (*Wide).Prime in general. -/
import Derived.Test.YtgellgobgiolnacGreatDoorPrime
namespace Go.Proofs.YtgellgobgiolnacGreatDoor
open Go.RowKit

end Go.Proofs.YtgellgobgiolnacGreatDoor
