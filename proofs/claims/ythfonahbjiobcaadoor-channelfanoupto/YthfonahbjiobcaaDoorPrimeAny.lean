/- (*Wide).Prime in general. -/
import Derived.Test.YthfonahbjiobcaaDoorPrime
namespace Go.Proofs.YthfonahbjiobcaaDoor
open Go.RowKit

end Go.Proofs.YthfonahbjiobcaaDoor
