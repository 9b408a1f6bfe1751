/- The document's LogError, own and short. -/
import Derived.Test.YteicjedmingplaaDoorValid
namespace Go.Proofs.YteicjedmingplaaDoor
open Go.RowKit

end Go.Proofs.YteicjedmingplaaDoor
