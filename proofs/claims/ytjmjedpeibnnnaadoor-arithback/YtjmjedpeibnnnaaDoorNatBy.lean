/- The program's products of numbers without a bound. -/
import Derived.Test.YtjmjedpeibnnnaaDoorNatMinus
namespace Go.Proofs.YtjmjedpeibnnnaaDoor
open Go.RowKit

end Go.Proofs.YtjmjedpeibnnnaaDoor
