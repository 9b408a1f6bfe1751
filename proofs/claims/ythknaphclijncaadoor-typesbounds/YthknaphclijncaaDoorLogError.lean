/- The document's LogError, own and short. -/
import Derived.Test.YthknaphclijncaaDoorValid
namespace Go.Proofs.YthknaphclijncaaDoor
open Go.RowKit

end Go.Proofs.YthknaphclijncaaDoor
