/- The document's LogError, own and short. -/
import Derived.Test.YtofflboheiflaaaDoorValid
namespace Go.Proofs.YtofflboheiflaaaDoor
open Go.RowKit

end Go.Proofs.YtofflboheiflaaaDoor
