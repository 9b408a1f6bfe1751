/- (*Wide).Prime in general. -/
import Derived.Test.YtgellgobgiolnacDoorPrime
namespace Go.Proofs.YtgellgobgiolnacDoor
open Go.RowKit

end Go.Proofs.YtgellgobgiolnacDoor
