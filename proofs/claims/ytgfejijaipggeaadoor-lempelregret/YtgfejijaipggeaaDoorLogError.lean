/- The document's LogError, own and short. -/
import Derived.Test.YtgfejijaipggeaaDoorValid
namespace Go.Proofs.YtgfejijaipggeaaDoor
open Go.RowKit

end Go.Proofs.YtgfejijaipggeaaDoor
