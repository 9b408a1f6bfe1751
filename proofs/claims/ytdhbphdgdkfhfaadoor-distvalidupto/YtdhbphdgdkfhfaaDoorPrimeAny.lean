/- (*Wide).Prime in general. -/
import Derived.Test.YtdhbphdgdkfhfaaDoorPrime
namespace Go.Proofs.YtdhbphdgdkfhfaaDoor
open Go.RowKit

end Go.Proofs.YtdhbphdgdkfhfaaDoor
