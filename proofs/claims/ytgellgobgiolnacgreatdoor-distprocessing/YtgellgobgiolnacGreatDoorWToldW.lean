/- (*Wide).Told, walked. -/
import Derived.Test.YtgellgobgiolnacGreatDoorWTold
import Derived.Deep.RegionLaw
namespace Go.Proofs.YtgellgobgiolnacGreatDoor
open Go.RowKit

theorem nat_not_neg (n : Nat) : ¬ ((n : Int) < 0) := by omega

end Go.Proofs.YtgellgobgiolnacGreatDoor
