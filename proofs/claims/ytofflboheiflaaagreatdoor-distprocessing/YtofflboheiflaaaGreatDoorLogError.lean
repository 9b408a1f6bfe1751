/- The document's LogError, own and short. -/
import Derived.Test.YtofflboheiflaaaGreatDoorValid
namespace Go.Proofs.YtofflboheiflaaaGreatDoor
open Go.RowKit

end Go.Proofs.YtofflboheiflaaaGreatDoor
