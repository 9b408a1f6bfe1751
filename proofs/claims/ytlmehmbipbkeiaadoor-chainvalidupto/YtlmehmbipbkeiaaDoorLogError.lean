/- The document's LogError, own and short. -/
import Derived.Test.YtlmehmbipbkeiaaDoorValid
namespace Go.Proofs.YtlmehmbipbkeiaaDoor
open Go.RowKit

end Go.Proofs.YtlmehmbipbkeiaaDoor
