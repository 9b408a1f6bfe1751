/- (*Wide).Told, walked. -/
import Derived.Test.YtgellgobgiolnabDoorWTold
import Derived.Deep.RegionLaw
namespace Go.Proofs.YtgellgobgiolnabDoor
open Go.RowKit

theorem nat_not_neg (n : Nat) : ¬ ((n : Int) < 0) := by omega

end Go.Proofs.YtgellgobgiolnabDoor
