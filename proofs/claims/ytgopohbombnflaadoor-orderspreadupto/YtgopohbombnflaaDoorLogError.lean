/- The document's LogError, own and short. -/
import Derived.Test.YtgopohbombnflaaDoorValid
namespace Go.Proofs.YtgopohbombnflaaDoor
open Go.RowKit

end Go.Proofs.YtgopohbombnflaaDoor
