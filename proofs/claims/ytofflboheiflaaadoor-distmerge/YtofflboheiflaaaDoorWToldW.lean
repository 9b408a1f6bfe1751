/- (*Wide).Told, walked. -/
import Derived.Test.YtofflboheiflaaaDoorWTold
import Derived.Deep.RegionLaw
namespace Go.Proofs.YtofflboheiflaaaDoor
open Go.RowKit

theorem nat_not_neg (n : Nat) : ¬ ((n : Int) < 0) := by omega

end Go.Proofs.YtofflboheiflaaaDoor
