/- (*Wide).Prime. -/
import Derived.Test.YtdlbnolnkmhdcaaDoorWide
import Derived.Deep.CutBlock
namespace Go.Proofs.YtdlbnolnkmhdcaaDoor
open Go.RowKit

theorem dig_one (l : List Nat) : ∀ u ∈ digCells l, u.oneCell' = true := fun u hu => by
  unfold digCells at hu
  obtain ⟨d, _, rfl⟩ := List.mem_map.1 hu
  rfl

end Go.Proofs.YtdlbnolnkmhdcaaDoor
