/- The document's LogError, own and short. -/
import Derived.Test.YtiocbnjdmceadaaDoorValid
namespace Go.Proofs.YtiocbnjdmceadaaDoor
open Go.RowKit

end Go.Proofs.YtiocbnjdmceadaaDoor
