/- (*Wide).Told, walked. -/
import Derived.Test.YtdhbphdgdkfhfaaDoorWTold
import Derived.Deep.RegionLaw
namespace Go.Proofs.YtdhbphdgdkfhfaaDoor
open Go.RowKit

theorem nat_not_neg (n : Nat) : ¬ ((n : Int) < 0) := by omega

end Go.Proofs.YtdhbphdgdkfhfaaDoor
