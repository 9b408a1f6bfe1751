/- The document's LogError, own and short. -/
import Derived.Test.YtklhfagcembigaaDoorValid
namespace Go.Proofs.YtklhfagcembigaaDoor
open Go.RowKit

end Go.Proofs.YtklhfagcembigaaDoor
