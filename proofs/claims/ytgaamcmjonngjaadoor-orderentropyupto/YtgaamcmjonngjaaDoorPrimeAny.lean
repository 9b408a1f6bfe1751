/- (*Wide).Prime in general. -/
import Derived.Test.YtgaamcmjonngjaaDoorPrime
namespace Go.Proofs.YtgaamcmjonngjaaDoor
open Go.RowKit

end Go.Proofs.YtgaamcmjonngjaaDoor
