/- (*Wide).Prime in general. -/
import Derived.Test.YtgellgobgiolnabDoorPrime
namespace Go.Proofs.YtgellgobgiolnabDoor
open Go.RowKit

end Go.Proofs.YtgellgobgiolnabDoor
