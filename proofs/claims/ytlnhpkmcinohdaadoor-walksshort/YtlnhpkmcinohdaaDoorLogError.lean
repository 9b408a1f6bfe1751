/- The document's LogError, own and short. -/
import Derived.Test.YtlnhpkmcinohdaaDoorValid
namespace Go.Proofs.YtlnhpkmcinohdaaDoor
open Go.RowKit

end Go.Proofs.YtlnhpkmcinohdaaDoor
