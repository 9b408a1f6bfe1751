/- The document's LogError, own and short. -/
import Derived.Test.YtklhfagcembigaaGreatDoorValid
namespace Go.Proofs.YtklhfagcembigaaGreatDoor
open Go.RowKit

end Go.Proofs.YtklhfagcembigaaGreatDoor
