/- The document's LogError, own and short. -/
import Derived.Test.YtkcpmfilencekabDoorValid
namespace Go.Proofs.YtkcpmfilencekabDoor
open Go.RowKit

end Go.Proofs.YtkcpmfilencekabDoor
