/- (*Wide).Prime in general. -/
import Derived.Test.YtdafknhbiffaoaaDoorPrime
namespace Go.Proofs.YtdafknhbiffaoaaDoor
open Go.RowKit

end Go.Proofs.YtdafknhbiffaoaaDoor
