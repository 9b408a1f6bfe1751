/- The document's LogError, own and short. -/
import Derived.Test.YtfnmpkkfdljgcaaGreatDoorValid
namespace Go.Proofs.YtfnmpkkfdljgcaaGreatDoor
open Go.RowKit

end Go.Proofs.YtfnmpkkfdljgcaaGreatDoor
