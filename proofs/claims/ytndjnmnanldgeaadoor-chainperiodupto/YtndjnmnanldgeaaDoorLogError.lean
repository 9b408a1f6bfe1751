/- The document's LogError, own and short. -/
import Derived.Test.YtndjnmnanldgeaaDoorValid
namespace Go.Proofs.YtndjnmnanldgeaaDoor
open Go.RowKit

end Go.Proofs.YtndjnmnanldgeaaDoor
