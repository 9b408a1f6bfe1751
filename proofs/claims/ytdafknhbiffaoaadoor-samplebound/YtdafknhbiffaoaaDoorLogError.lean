/- The document's LogError, own and short. -/
import Derived.Test.YtdafknhbiffaoaaDoorValid
namespace Go.Proofs.YtdafknhbiffaoaaDoor
open Go.RowKit

end Go.Proofs.YtdafknhbiffaoaaDoor
