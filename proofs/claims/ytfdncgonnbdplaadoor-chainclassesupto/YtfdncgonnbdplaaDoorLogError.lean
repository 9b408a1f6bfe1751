/- The document's LogError, own and short. -/
import Derived.Test.YtfdncgonnbdplaaDoorValid
namespace Go.Proofs.YtfdncgonnbdplaaDoor
open Go.RowKit

end Go.Proofs.YtfdncgonnbdplaaDoor
