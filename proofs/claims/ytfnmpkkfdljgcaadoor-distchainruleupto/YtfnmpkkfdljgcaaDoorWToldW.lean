/- (*Wide).Told, walked. -/
import Derived.Test.YtfnmpkkfdljgcaaDoorWTold
import Derived.Deep.RegionLaw
namespace Go.Proofs.YtfnmpkkfdljgcaaDoor
open Go.RowKit

theorem nat_not_neg (n : Nat) : ¬ ((n : Int) < 0) := by omega

end Go.Proofs.YtfnmpkkfdljgcaaDoor
