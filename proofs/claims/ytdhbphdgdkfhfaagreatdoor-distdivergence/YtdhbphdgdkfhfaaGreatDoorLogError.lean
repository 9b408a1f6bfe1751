/- The document's LogError, own and short. -/
import Derived.Test.YtdhbphdgdkfhfaaGreatDoorValid
namespace Go.Proofs.YtdhbphdgdkfhfaaGreatDoor
open Go.RowKit

end Go.Proofs.YtdhbphdgdkfhfaaGreatDoor
