/- The document's LogError, own and short. -/
import Derived.Test.YtjmjedpeibnnnaaDoorValid
namespace Go.Proofs.YtjmjedpeibnnnaaDoor
open Go.RowKit

end Go.Proofs.YtjmjedpeibnnnaaDoor
