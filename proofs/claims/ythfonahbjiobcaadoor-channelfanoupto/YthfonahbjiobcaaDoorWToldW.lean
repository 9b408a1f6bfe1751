/- (*Wide).Told, walked. -/
import Derived.Test.YthfonahbjiobcaaDoorWTold
import Derived.Deep.RegionLaw
namespace Go.Proofs.YthfonahbjiobcaaDoor
open Go.RowKit

theorem nat_not_neg (n : Nat) : ¬ ((n : Int) < 0) := by omega

end Go.Proofs.YthfonahbjiobcaaDoor
