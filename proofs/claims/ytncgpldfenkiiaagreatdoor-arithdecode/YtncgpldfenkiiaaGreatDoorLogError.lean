/- The document's LogError, own and short. -/
import Derived.Test.YtncgpldfenkiiaaGreatDoorValid
namespace Go.Proofs.YtncgpldfenkiiaaGreatDoor
open Go.RowKit

end Go.Proofs.YtncgpldfenkiiaaGreatDoor
