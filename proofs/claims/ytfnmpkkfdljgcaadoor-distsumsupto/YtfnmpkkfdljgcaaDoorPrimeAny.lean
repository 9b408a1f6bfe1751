/- (*Wide).Prime in general. -/
import Derived.Test.YtfnmpkkfdljgcaaDoorPrime
namespace Go.Proofs.YtfnmpkkfdljgcaaDoor
open Go.RowKit

end Go.Proofs.YtfnmpkkfdljgcaaDoor
