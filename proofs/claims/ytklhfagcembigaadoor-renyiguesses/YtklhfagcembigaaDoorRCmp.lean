/- The document's order of fractions. -/
import Derived.Test.YtklhfagcembigaaDoorPlus
namespace Go.Proofs.YtklhfagcembigaaDoor
open Go.RowKit

/-- The sign of a difference. -/
def sgnZ (z : Int) : Int := if z = 0 then 0 else if z < 0 then -1 else 1
/-- Which of two fractions is the less. -/
theorem sgnZ_neg (z : Int) : sgnZ z < 0 ↔ z < 0 := by
  unfold sgnZ
  split
  · omega
  · split <;> omega
end Go.Proofs.YtklhfagcembigaaDoor
