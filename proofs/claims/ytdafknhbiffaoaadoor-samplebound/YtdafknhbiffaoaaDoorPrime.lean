/- (*Wide).Prime. -/
import Derived.Test.YtdafknhbiffaoaaDoorWide
import Derived.Deep.CutBlock
namespace Go.Proofs.YtdafknhbiffaoaaDoor
open Go.RowKit

theorem dig_one (l : List Nat) : ∀ u ∈ digCells l, u.oneCell' = true := fun u hu => by
  unfold digCells at hu
  obtain ⟨d, _, rfl⟩ := List.mem_map.1 hu
  rfl

end Go.Proofs.YtdafknhbiffaoaaDoor
