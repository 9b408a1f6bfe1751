/- (*Wide).Told, walked. -/
import Derived.Test.YtofflboheiflaaaGreatDoorWTold
import Derived.Deep.RegionLaw
namespace Go.Proofs.YtofflboheiflaaaGreatDoor
open Go.RowKit

theorem nat_not_neg (n : Nat) : ¬ ((n : Int) < 0) := by omega

end Go.Proofs.YtofflboheiflaaaGreatDoor
