/- The document's LogError, own and short. -/
import Derived.Test.YtcigmihfannmjabDoorValid
namespace Go.Proofs.YtcigmihfannmjabDoor
open Go.RowKit

end Go.Proofs.YtcigmihfannmjabDoor
