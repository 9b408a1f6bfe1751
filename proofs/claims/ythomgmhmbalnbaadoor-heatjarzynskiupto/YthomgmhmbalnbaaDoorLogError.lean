/- The document's LogError, own and short. -/
import Derived.Test.YthomgmhmbalnbaaDoorValid
namespace Go.Proofs.YthomgmhmbalnbaaDoor
open Go.RowKit

end Go.Proofs.YthomgmhmbalnbaaDoor
