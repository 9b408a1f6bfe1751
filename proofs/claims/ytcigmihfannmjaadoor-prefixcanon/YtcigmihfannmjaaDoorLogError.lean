/- The document's LogError, own and short. -/
import Derived.Test.YtcigmihfannmjaaDoorValid
namespace Go.Proofs.YtcigmihfannmjaaDoor
open Go.RowKit

end Go.Proofs.YtcigmihfannmjaaDoor
