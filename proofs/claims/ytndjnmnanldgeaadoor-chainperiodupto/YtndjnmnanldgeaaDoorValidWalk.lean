/- Worlds behind each other. -/
import Derived.Test.YtndjnmnanldgeaaDoorOwn
import Derived.Test.YtndjnmnanldgeaaDoorCode
import Derived.Deep.RegionHeld3
import Derived.Deep.RegionWith
namespace Go.Proofs.YtndjnmnanldgeaaDoor
open Go.RowKit

theorem below_chain {w0 W W' : World} (h : Below w0.heap.size w0 W) (hb : Below W.heap.size W W') : Below w0.heap.size w0 W' := h.trans (hb.mono h.size)
end Go.Proofs.YtndjnmnanldgeaaDoor
