/- The document's LogError, own and short. -/
import Derived.Test.YtpdenfjncpfogaaDoorValid
namespace Go.Proofs.YtpdenfjncpfogaaDoor
open Go.RowKit

end Go.Proofs.YtpdenfjncpfogaaDoor
