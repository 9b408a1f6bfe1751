/- (*Wide).Told, walked. -/
import Derived.Test.YtdafknhbiffaoaaDoorWTold
import Derived.Deep.RegionLaw
namespace Go.Proofs.YtdafknhbiffaoaaDoor
open Go.RowKit

theorem nat_not_neg (n : Nat) : ¬ ((n : Int) < 0) := by omega

end Go.Proofs.YtdafknhbiffaoaaDoor
