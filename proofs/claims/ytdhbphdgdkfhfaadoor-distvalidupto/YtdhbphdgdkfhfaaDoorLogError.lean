/- The document's LogError, own and short. -/
import Derived.Test.YtdhbphdgdkfhfaaDoorValid
namespace Go.Proofs.YtdhbphdgdkfhfaaDoor
open Go.RowKit

end Go.Proofs.YtdhbphdgdkfhfaaDoor
