/- The document's fractions: RatioOf, Times, Plus. -/
import Derived.Test.YtdafknhbiffaoaaDoorRatio
namespace Go.Proofs.YtdafknhbiffaoaaDoor
open Go.RowKit

/-- Two boxes and a result, three cells each, behind a call. -/
theorem nine_past {w w1 : World} {x0 x1 x2 y0 y1 y2 r0 r1 r2 : Value} {t : TypeId} (hb : Below (((w.alloc (.cells #[x0, x1, x2] t)).alloc (.cells #[y0, y1, y2] t)).alloc (.cells #[r0, r1, r2] t)).heap.size (((w.alloc (.cells #[x0, x1, x2] t)).alloc (.cells #[y0, y1, y2] t)).alloc (.cells #[r0, r1, r2] t)) w1) :
    (w1.cell? ⟨w.heap.size, 0, none⟩ = some x0 ∧ w1.cell? ⟨w.heap.size, 1, none⟩ = some x1 ∧ w1.cell? ⟨w.heap.size, 2, none⟩ = some x2) ∧ (w1.cell? ⟨w.heap.size + 1, 0, none⟩ = some y0 ∧ w1.cell? ⟨w.heap.size + 1, 1, none⟩ = some y1 ∧ w1.cell? ⟨w.heap.size + 1, 2, none⟩ = some y2) ∧ (w1.cell? ⟨w.heap.size + 1 + 1, 0, none⟩ = some r0 ∧ w1.cell? ⟨w.heap.size + 1 + 1, 1, none⟩ = some r1 ∧ w1.cell? ⟨w.heap.size + 1 + 1, 2, none⟩ = some r2) ∧ w1.frozen? ⟨w.heap.size + 1 + 1, 0, none⟩ = false ∧ w1.frozen? ⟨w.heap.size + 1 + 1, 1, none⟩ = false ∧ w1.frozen? ⟨w.heap.size + 1 + 1, 2, none⟩ = false := by
  have a : ∀ j v, #[x0, x1, x2][j]? = some v → (((w.alloc (.cells #[x0, x1, x2] t)).alloc (.cells #[y0, y1, y2] t)).alloc (.cells #[r0, r1, r2] t)).cell? ⟨w.heap.size, j, none⟩ = some v := fun j v h => by rw [World.cell?_alloc_lt _ _ ⟨w.heap.size, j, none⟩ (by simp; omega), World.cell?_alloc_lt _ _ ⟨w.heap.size, j, none⟩ (by simp), World.cell?_alloc_at _ _ _ _ rfl]; exact h
  have b : ∀ j v, #[y0, y1, y2][j]? = some v → (((w.alloc (.cells #[x0, x1, x2] t)).alloc (.cells #[y0, y1, y2] t)).alloc (.cells #[r0, r1, r2] t)).cell? ⟨w.heap.size + 1, j, none⟩ = some v := fun j v h => by rw [World.cell?_alloc_lt _ _ ⟨w.heap.size + 1, j, none⟩ (by simp), World.cell?_alloc_at _ _ _ _ (by simp)]; exact h
  have c : ∀ j v, #[r0, r1, r2][j]? = some v → (((w.alloc (.cells #[x0, x1, x2] t)).alloc (.cells #[y0, y1, y2] t)).alloc (.cells #[r0, r1, r2] t)).cell? ⟨w.heap.size + 1 + 1, j, none⟩ = some v := fun j v h => by rw [World.cell?_alloc_at _ _ _ _ (by simp)]; exact h
  exact ⟨⟨(cell_past (a 0 x0 rfl) hb).2, (cell_past (a 1 x1 rfl) hb).2, (cell_past (a 2 x2 rfl) hb).2⟩, ⟨(cell_past (b 0 y0 rfl) hb).2, (cell_past (b 1 y1 rfl) hb).2, (cell_past (b 2 y2 rfl) hb).2⟩, ⟨(cell_past (c 0 r0 rfl) hb).2, (cell_past (c 1 r1 rfl) hb).2, (cell_past (c 2 r2 rfl) hb).2⟩, (frozen_past (c 0 r0 rfl) (frozen_new (by simp)) hb).2, (frozen_past (c 1 r1 rfl) (frozen_new (by simp)) hb).2, (frozen_past (c 2 r2 rfl) (frozen_new (by simp)) hb).2⟩
theorem noInts_third3 (w : World) (X Y : Obj) (t : TypeId) : NoInts (((w.alloc X).alloc Y).alloc (.cells #[.bool false, .slice none 0 0, .slice none 0 0] t)) (w.heap.size + 1 + 1) := by
  have := noInts_new3 ((w.alloc X).alloc Y) false none 0 0 none 0 0 t
  simpa using this

end Go.Proofs.YtdafknhbiffaoaaDoor
