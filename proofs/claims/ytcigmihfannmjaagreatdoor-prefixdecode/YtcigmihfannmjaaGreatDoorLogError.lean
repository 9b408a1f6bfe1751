/- The document's LogError, own and short. -/
import Derived.Test.YtcigmihfannmjaaGreatDoorValid
namespace Go.Proofs.YtcigmihfannmjaaGreatDoor
open Go.RowKit

end Go.Proofs.YtcigmihfannmjaaGreatDoor
