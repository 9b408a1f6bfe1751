/- The document's LogError, own and short. -/
import Derived.Test.YtdfcipdknfebpaaDoorValid
namespace Go.Proofs.YtdfcipdknfebpaaDoor
open Go.RowKit

end Go.Proofs.YtdfcipdknfebpaaDoor
