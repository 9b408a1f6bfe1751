/- The program's products of numbers without a bound. -/
import Derived.Test.YtncgpldfenkiiaaGreatDoorNatMinus
namespace Go.Proofs.YtncgpldfenkiiaaGreatDoor
open Go.RowKit

end Go.Proofs.YtncgpldfenkiiaaGreatDoor
