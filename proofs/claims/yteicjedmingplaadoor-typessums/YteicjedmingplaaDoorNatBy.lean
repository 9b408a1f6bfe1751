/- The program's products of numbers without a bound. -/
import Derived.Test.YteicjedmingplaaDoorNatMinus
namespace Go.Proofs.YteicjedmingplaaDoor
open Go.RowKit

end Go.Proofs.YteicjedmingplaaDoor
