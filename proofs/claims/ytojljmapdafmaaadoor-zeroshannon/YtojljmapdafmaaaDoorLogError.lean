/- The document's LogError, own and short. -/
import Derived.Test.YtojljmapdafmaaaDoorValid
namespace Go.Proofs.YtojljmapdafmaaaDoor
open Go.RowKit

end Go.Proofs.YtojljmapdafmaaaDoor
