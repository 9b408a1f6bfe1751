/- The document's LogError, own and short. -/
import Derived.Test.YtgaamcmjonngjaaDoorValid
namespace Go.Proofs.YtgaamcmjonngjaaDoor
open Go.RowKit

end Go.Proofs.YtgaamcmjonngjaaDoor
