/- The program's products of numbers without a bound. -/
import Derived.Test.YthomgmhmbalnbaaDoorNatMinus
namespace Go.Proofs.YthomgmhmbalnbaaDoor
open Go.RowKit

end Go.Proofs.YthomgmhmbalnbaaDoor
