/- (*Wide).Prime in general. -/
import Derived.Test.YtgellgobgiolnaaDoorPrime
namespace Go.Proofs.YtgellgobgiolnaaDoor
open Go.RowKit

end Go.Proofs.YtgellgobgiolnaaDoor
