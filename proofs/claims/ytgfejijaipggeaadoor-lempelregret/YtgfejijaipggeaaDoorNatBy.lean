/- The program's products of numbers without a bound. -/
import Derived.Test.YtgfejijaipggeaaDoorNatMinus
namespace Go.Proofs.YtgfejijaipggeaaDoor
open Go.RowKit

end Go.Proofs.YtgfejijaipggeaaDoor
