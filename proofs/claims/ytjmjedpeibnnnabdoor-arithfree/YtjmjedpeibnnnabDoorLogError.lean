/- The document's LogError, own and short. -/
import Derived.Test.YtjmjedpeibnnnabDoorValid
namespace Go.Proofs.YtjmjedpeibnnnabDoor
open Go.RowKit

end Go.Proofs.YtjmjedpeibnnnabDoor
