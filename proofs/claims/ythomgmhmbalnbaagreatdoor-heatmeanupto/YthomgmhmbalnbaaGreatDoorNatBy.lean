/- The program's products of numbers without a bound. -/
import Derived.Test.YthomgmhmbalnbaaGreatDoorNatMinus
namespace Go.Proofs.YthomgmhmbalnbaaGreatDoor
open Go.RowKit

end Go.Proofs.YthomgmhmbalnbaaGreatDoor
