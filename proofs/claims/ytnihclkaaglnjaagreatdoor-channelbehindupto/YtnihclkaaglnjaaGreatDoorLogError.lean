/- The document's LogError, own and short. -/
import Derived.Test.YtnihclkaaglnjaaGreatDoorValid
namespace Go.Proofs.YtnihclkaaglnjaaGreatDoor
open Go.RowKit

end Go.Proofs.YtnihclkaaglnjaaGreatDoor
