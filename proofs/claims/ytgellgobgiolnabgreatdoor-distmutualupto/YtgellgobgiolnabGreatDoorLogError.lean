/- The document's LogError, own and short. -/
import Derived.Test.YtgellgobgiolnabGreatDoorValid
namespace Go.Proofs.YtgellgobgiolnabGreatDoor
open Go.RowKit

end Go.Proofs.YtgellgobgiolnabGreatDoor
