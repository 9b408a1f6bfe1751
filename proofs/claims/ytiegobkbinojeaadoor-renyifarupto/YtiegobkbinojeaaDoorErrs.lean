/- What package api's errors are in memory. -/
import Derived.Test.YtiegobkbinojeaaDoorProg
import Derived.WalkKit
import Derived.Below
namespace Go.Proofs.YtiegobkbinojeaaDoor
open Go.RowKit

/-- What package api's variables hold: eight different sentinels; and errors.errorType. -/
structure Errs (w : World) (a : Nat → Addr) : Prop where
  c0 : w.cell? ⟨3, 0, none⟩ = some (.iface 149 (.pointer (some (a 0))))
  c1 : w.cell? ⟨0, 0, none⟩ = some (.iface 149 (.pointer (some (a 1))))
  c2 : w.cell? ⟨1, 0, none⟩ = some (.iface 149 (.pointer (some (a 2))))
  c3 : w.cell? ⟨4, 0, none⟩ = some (.iface 149 (.pointer (some (a 3))))
  c4 : w.cell? ⟨5, 0, none⟩ = some (.iface 149 (.pointer (some (a 4))))
  c5 : w.cell? ⟨6, 0, none⟩ = some (.iface 149 (.pointer (some (a 5))))
  c6 : w.cell? ⟨7, 0, none⟩ = some (.iface 149 (.pointer (some (a 6))))
  c7 : w.cell? ⟨2, 0, none⟩ = some (.iface 149 (.pointer (some (a 7))))
  et : w.cell? ⟨8, 0, none⟩ = some (.iface 126 (.agg #[.pointer (some ⟨9, 29, none⟩)]))
  row : ∀ i, i < 8 → ∃ c t, w.heap[(a i).block]? = some (.cells c t (0, 0))
  ne : ∀ i j, i < 8 → j < 8 → i ≠ j → a i ≠ a j

theorem heap_lt {w : World} {k : Nat} {o : Obj} (h : w.heap[k]? = some o) : k < w.heap.size := by
  rcases Nat.lt_or_ge k w.heap.size with h' | h'
  · exact h'
  · simp [Array.getElem?_eq_none h'] at h

theorem cell_lt {w : World} {p : Addr} {v : Value} (h : w.cell? p = some v) : p.block < w.heap.size := by
  rcases Nat.lt_or_ge p.block w.heap.size with h' | h'
  · exact h'
  · simp [World.cell?, Array.getElem?_eq_none h'] at h

theorem Errs.below {w w' : World} {a : Nat → Addr} (h : Errs w a) (hb : Below w.heap.size w w') : Errs w' a := by
  refine ⟨?_, ?_, ?_, ?_, ?_, ?_, ?_, ?_, ?_, ?_, h.ne⟩
  · rw [hb.cell (cell_lt h.c0)]; exact h.c0
  · rw [hb.cell (cell_lt h.c1)]; exact h.c1
  · rw [hb.cell (cell_lt h.c2)]; exact h.c2
  · rw [hb.cell (cell_lt h.c3)]; exact h.c3
  · rw [hb.cell (cell_lt h.c4)]; exact h.c4
  · rw [hb.cell (cell_lt h.c5)]; exact h.c5
  · rw [hb.cell (cell_lt h.c6)]; exact h.c6
  · rw [hb.cell (cell_lt h.c7)]; exact h.c7
  · rw [hb.cell (cell_lt h.et)]; exact h.et
  · intro i hi
    obtain ⟨c, t, hc⟩ := h.row i hi
    exact ⟨c, t, by rw [hb.block _ (heap_lt hc)]; exact hc⟩
end Go.Proofs.YtiegobkbinojeaaDoor
