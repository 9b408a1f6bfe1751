/- The document's LogError, own and short. -/
import Derived.Test.YtlalkiclmlkgeaaDoorValid
namespace Go.Proofs.YtlalkiclmlkgeaaDoor
open Go.RowKit

end Go.Proofs.YtlalkiclmlkgeaaDoor
