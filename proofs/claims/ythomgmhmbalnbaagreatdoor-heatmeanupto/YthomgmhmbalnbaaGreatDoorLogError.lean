/- The document's LogError, own and short. -/
import Derived.Test.YthomgmhmbalnbaaGreatDoorValid
namespace Go.Proofs.YthomgmhmbalnbaaGreatDoor
open Go.RowKit

end Go.Proofs.YthomgmhmbalnbaaGreatDoor
