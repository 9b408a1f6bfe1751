/- The document's LogError, own and short. -/
import Derived.Test.YtmdimdoglpiiiaaGreatDoorValid
namespace Go.Proofs.YtmdimdoglpiiiaaGreatDoor
open Go.RowKit

end Go.Proofs.YtmdimdoglpiiiaaGreatDoor
