/- (*Wide).Prime in general. -/
import Derived.Test.YtofflboheiflaaaGreatDoorPrime
namespace Go.Proofs.YtofflboheiflaaaGreatDoor
open Go.RowKit

end Go.Proofs.YtofflboheiflaaaGreatDoor
