/- The program's products of numbers without a bound. -/
import Derived.Test.YtjmjedpeibnnnabDoorNatMinus
namespace Go.Proofs.YtjmjedpeibnnnabDoor
open Go.RowKit

end Go.Proofs.YtjmjedpeibnnnabDoor
