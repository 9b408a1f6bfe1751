/- The document's LogError, own and short. -/
import Derived.Test.YtdlbnolnkmhdcaaDoorValid
namespace Go.Proofs.YtdlbnolnkmhdcaaDoor
open Go.RowKit

end Go.Proofs.YtdlbnolnkmhdcaaDoor
