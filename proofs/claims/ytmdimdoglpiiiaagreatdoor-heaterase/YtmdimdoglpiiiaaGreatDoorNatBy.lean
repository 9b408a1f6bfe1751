/- The program's products of numbers without a bound. -/
import Derived.Test.YtmdimdoglpiiiaaGreatDoorNatMinus
namespace Go.Proofs.YtmdimdoglpiiiaaGreatDoor
open Go.RowKit

end Go.Proofs.YtmdimdoglpiiiaaGreatDoor
