/- The document's LogError, own and short. -/
import Derived.Test.YtphecjjblnnjdaaGreatDoorValid
namespace Go.Proofs.YtphecjjblnnjdaaGreatDoor
open Go.RowKit

end Go.Proofs.YtphecjjblnnjdaaGreatDoor
