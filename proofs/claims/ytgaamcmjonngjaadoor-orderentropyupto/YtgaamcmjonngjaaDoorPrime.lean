/- (*Wide).Prime. -/
import Derived.Test.YtgaamcmjonngjaaDoorWide
import Derived.Deep.CutBlock
namespace Go.Proofs.YtgaamcmjonngjaaDoor
open Go.RowKit

theorem Tryd.infoRatio : (Tryd.prog.info? 65).map (fun i => (i.zero, i.size, i.bytes)) = some (some (.agg #[.bool false, .slice none 0 0, .slice none 0 0]), 3, 56) := by kernel_rfl
theorem dig_one (l : List Nat) : ∀ u ∈ digCells l, u.oneCell' = true := fun u hu => by
  unfold digCells at hu
  obtain ⟨d, _, rfl⟩ := List.mem_map.1 hu
  rfl

end Go.Proofs.YtgaamcmjonngjaaDoor
