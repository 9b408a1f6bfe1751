/- The program's products of numbers without a bound. -/
import Derived.Test.YtnihclkaaglnjaaGreatDoorNatMinus
namespace Go.Proofs.YtnihclkaaglnjaaGreatDoor
open Go.RowKit

end Go.Proofs.YtnihclkaaglnjaaGreatDoor
