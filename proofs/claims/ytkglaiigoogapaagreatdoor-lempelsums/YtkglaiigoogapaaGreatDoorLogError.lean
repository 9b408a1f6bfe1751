/- The document's LogError, own and short. -/
import Derived.Test.YtkglaiigoogapaaGreatDoorValid
namespace Go.Proofs.YtkglaiigoogapaaGreatDoor
open Go.RowKit

end Go.Proofs.YtkglaiigoogapaaGreatDoor
