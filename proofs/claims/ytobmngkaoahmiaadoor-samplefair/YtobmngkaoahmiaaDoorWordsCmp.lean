/- The program's Cmp of numbers without a bound. -/
import Derived.Test.YtobmngkaoahmiaaDoorWords
namespace Go.Proofs.YtobmngkaoahmiaaDoor
open Go.RowKit

end Go.Proofs.YtobmngkaoahmiaaDoor
