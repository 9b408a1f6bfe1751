/- The document's LogError, own and short. -/
import Derived.Test.YtobmngkaoahmiaaDoorValid
namespace Go.Proofs.YtobmngkaoahmiaaDoor
open Go.RowKit

end Go.Proofs.YtobmngkaoahmiaaDoor
