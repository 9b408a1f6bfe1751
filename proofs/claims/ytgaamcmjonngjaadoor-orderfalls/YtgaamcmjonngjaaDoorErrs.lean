/- What three of package api's errors are in memory. -/
import Derived.Test.YtgaamcmjonngjaaDoorProg
import Derived.WalkKit
import Derived.Below
namespace Go.Proofs.YtgaamcmjonngjaaDoor
open Go.RowKit

/-- What the three variables hold. -/
structure Errs (w : World) (a : Nat → Addr) : Prop where
  c1 : w.cell? ⟨0, 0, none⟩ = some (.iface 227 (.pointer (some (a 1))))
  c2 : w.cell? ⟨1, 0, none⟩ = some (.iface 227 (.pointer (some (a 2))))
  c6 : w.cell? ⟨2, 0, none⟩ = some (.iface 227 (.pointer (some (a 6))))
  row : ∀ i, 0 < i ∧ i < 3 → ∃ c t, w.heap[(a i).block]? = some (.cells c t (0, 0))
  ne : ∀ i j, 0 < i ∧ i < 3 → 0 < j ∧ j < 3 → i ≠ j → a i ≠ a j

theorem heap_lt {w : World} {k : Nat} {o : Obj} (h : w.heap[k]? = some o) : k < w.heap.size := by
  rcases Nat.lt_or_ge k w.heap.size with h' | h'
  · exact h'
  · simp [Array.getElem?_eq_none h'] at h

theorem cell_lt {w : World} {p : Addr} {v : Value} (h : w.cell? p = some v) : p.block < w.heap.size := by
  rcases Nat.lt_or_ge p.block w.heap.size with h' | h'
  · exact h'
  · simp [World.cell?, Array.getElem?_eq_none h'] at h

theorem Errs.below {w w' : World} {a : Nat → Addr} (h : Errs w a) (hb : Below w.heap.size w w') : Errs w' a :=
  ⟨by rw [hb.cell (cell_lt h.c1)]; exact h.c1, by rw [hb.cell (cell_lt h.c2)]; exact h.c2, by rw [hb.cell (cell_lt h.c6)]; exact h.c6, fun i hi => by
    obtain ⟨c, t, hc⟩ := h.row i hi
    exact ⟨c, t, by rw [hb.block _ (heap_lt hc)]; exact hc⟩, h.ne⟩
theorem Tryd.isComp : (Tryd.prog.info? 227).map (·.comparable) = some true := by kernel_rfl
theorem Tryd.isSize : (Tryd.prog.info? 248).map (·.size) = some 1 := by kernel_rfl
end Go.Proofs.YtgaamcmjonngjaaDoor
