/- The document's LogError, own and short. -/
import Derived.Test.YtgklaadkglbclaaDoorValid
namespace Go.Proofs.YtgklaadkglbclaaDoor
open Go.RowKit

end Go.Proofs.YtgklaadkglbclaaDoor
