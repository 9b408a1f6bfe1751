/- (*Wide).Told, walked. -/
import Derived.Test.YtgellgobgiolnacDoorWTold
import Derived.Deep.RegionLaw
namespace Go.Proofs.YtgellgobgiolnacDoor
open Go.RowKit

theorem nat_not_neg (n : Nat) : ¬ ((n : Int) < 0) := by omega

end Go.Proofs.YtgellgobgiolnacDoor
