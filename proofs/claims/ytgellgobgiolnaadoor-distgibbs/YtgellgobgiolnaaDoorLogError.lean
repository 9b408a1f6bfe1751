/- The document's LogError, own and short. -/
import Derived.Test.YtgellgobgiolnaaDoorValid
namespace Go.Proofs.YtgellgobgiolnaaDoor
open Go.RowKit

end Go.Proofs.YtgellgobgiolnaaDoor
