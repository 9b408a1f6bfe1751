/- (*Wide).Told, walked. -/
import Derived.Test.YtgaamcmjonngjaaDoorWTold
import Derived.Deep.RegionLaw
namespace Go.Proofs.YtgaamcmjonngjaaDoor
open Go.RowKit

theorem nat_not_neg (n : Nat) : ¬ ((n : Int) < 0) := by omega

end Go.Proofs.YtgaamcmjonngjaaDoor
