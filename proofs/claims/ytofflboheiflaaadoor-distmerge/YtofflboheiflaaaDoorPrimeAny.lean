/- (*Wide).Prime in general. -/
import Derived.Test.YtofflboheiflaaaDoorPrime
namespace Go.Proofs.YtofflboheiflaaaDoor
open Go.RowKit

end Go.Proofs.YtofflboheiflaaaDoor
