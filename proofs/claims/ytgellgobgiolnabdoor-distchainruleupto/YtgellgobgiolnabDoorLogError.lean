/- The document's LogError, own and short. -/
import Derived.Test.YtgellgobgiolnabDoorValid
namespace Go.Proofs.YtgellgobgiolnabDoor
open Go.RowKit

end Go.Proofs.YtgellgobgiolnabDoor
