/- (*Wide).Told, walked. -/
import Derived.Test.YtgellgobgiolnaaDoorWTold
import Derived.Deep.RegionLaw
namespace Go.Proofs.YtgellgobgiolnaaDoor
open Go.RowKit

theorem nat_not_neg (n : Nat) : ¬ ((n : Int) < 0) := by omega

end Go.Proofs.YtgellgobgiolnaaDoor
