/- What four of package api's errors are in memory. -/
import Derived.Test.YtdafknhbiffaoaaDoorProg
import Derived.WalkKit
import Derived.Below
namespace Go.Proofs.YtdafknhbiffaoaaDoor
open Go.RowKit

/-- What package api's variables hold: four sentinels. -/
structure Errs (w : World) (a : Nat → Addr) : Prop where
  c0 : w.cell? ⟨3, 0, none⟩ = some (.iface 136 (.pointer (some (a 0))))
  c1 : w.cell? ⟨1, 0, none⟩ = some (.iface 136 (.pointer (some (a 1))))
  c2 : w.cell? ⟨2, 0, none⟩ = some (.iface 136 (.pointer (some (a 2))))
  c5 : w.cell? ⟨0, 0, none⟩ = some (.iface 136 (.pointer (some (a 5))))

theorem heap_lt {w : World} {k : Nat} {o : Obj} (h : w.heap[k]? = some o) : k < w.heap.size := by
  rcases Nat.lt_or_ge k w.heap.size with h' | h'
  · exact h'
  · simp [Array.getElem?_eq_none h'] at h

theorem cell_lt {w : World} {p : Addr} {v : Value} (h : w.cell? p = some v) : p.block < w.heap.size := by
  rcases Nat.lt_or_ge p.block w.heap.size with h' | h'
  · exact h'
  · simp [World.cell?, Array.getElem?_eq_none h'] at h

theorem Errs.below {w w' : World} {a : Nat → Addr} (h : Errs w a) (hb : Below w.heap.size w w') : Errs w' a := by
  refine ⟨?_, ?_, ?_, ?_⟩
  · rw [hb.cell (cell_lt h.c0)]; exact h.c0
  · rw [hb.cell (cell_lt h.c1)]; exact h.c1
  · rw [hb.cell (cell_lt h.c2)]; exact h.c2
  · rw [hb.cell (cell_lt h.c5)]; exact h.c5
end Go.Proofs.YtdafknhbiffaoaaDoor
