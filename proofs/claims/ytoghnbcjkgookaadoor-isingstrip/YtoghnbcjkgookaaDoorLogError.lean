/- The document's LogError, own and short. -/
import Derived.Test.YtoghnbcjkgookaaDoorValid
namespace Go.Proofs.YtoghnbcjkgookaaDoor
open Go.RowKit

end Go.Proofs.YtoghnbcjkgookaaDoor
