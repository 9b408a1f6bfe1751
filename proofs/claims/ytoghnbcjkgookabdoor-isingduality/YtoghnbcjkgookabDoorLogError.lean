/- The document's LogError, own and short. -/
import Derived.Test.YtoghnbcjkgookabDoorValid
namespace Go.Proofs.YtoghnbcjkgookabDoor
open Go.RowKit

end Go.Proofs.YtoghnbcjkgookabDoor
