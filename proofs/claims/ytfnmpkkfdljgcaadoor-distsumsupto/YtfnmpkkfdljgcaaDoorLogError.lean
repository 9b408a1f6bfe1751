/- The document's LogError, own and short. -/
import Derived.Test.YtfnmpkkfdljgcaaDoorValid
namespace Go.Proofs.YtfnmpkkfdljgcaaDoor
open Go.RowKit

end Go.Proofs.YtfnmpkkfdljgcaaDoor
