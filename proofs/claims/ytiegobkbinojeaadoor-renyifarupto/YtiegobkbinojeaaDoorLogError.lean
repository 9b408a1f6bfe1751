/- The document's LogError, own and short. -/
import Derived.Test.YtiegobkbinojeaaDoorValid
namespace Go.Proofs.YtiegobkbinojeaaDoor
open Go.RowKit

end Go.Proofs.YtiegobkbinojeaaDoor
