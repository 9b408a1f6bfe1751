/- The program's products of numbers without a bound. -/
import Derived.Test.YtpdenfjncpfogaaDoorNatMinus
namespace Go.Proofs.YtpdenfjncpfogaaDoor
open Go.RowKit

end Go.Proofs.YtpdenfjncpfogaaDoor
