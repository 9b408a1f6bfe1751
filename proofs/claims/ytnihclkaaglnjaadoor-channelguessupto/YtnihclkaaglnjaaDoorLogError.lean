/- The document's LogError, own and short. -/
import Derived.Test.YtnihclkaaglnjaaDoorValid
namespace Go.Proofs.YtnihclkaaglnjaaDoor
open Go.RowKit

end Go.Proofs.YtnihclkaaglnjaaDoor
