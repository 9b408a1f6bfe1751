/- The document's LogError, own and short. -/
import Derived.Test.YthfonahbjiobcaaDoorValid
namespace Go.Proofs.YthfonahbjiobcaaDoor
open Go.RowKit

end Go.Proofs.YthfonahbjiobcaaDoor
