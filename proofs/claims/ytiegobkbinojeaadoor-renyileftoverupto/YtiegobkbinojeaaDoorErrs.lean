/- What package api's two errors are in memory. -/
import Derived.Test.YtiegobkbinojeaaDoorProg
import Derived.WalkKit
import Derived.Below
namespace Go.Proofs.YtiegobkbinojeaaDoor
open Go.RowKit

/-- What the two variables hold. -/
structure Errs (w : World) (a : Nat → Addr) : Prop where
  c1 : w.cell? ⟨0, 0, none⟩ = some (.iface 149 (.pointer (some (a 1))))
  c2 : w.cell? ⟨1, 0, none⟩ = some (.iface 149 (.pointer (some (a 2))))

theorem heap_lt {w : World} {k : Nat} {o : Obj} (h : w.heap[k]? = some o) : k < w.heap.size := by
  rcases Nat.lt_or_ge k w.heap.size with h' | h'
  · exact h'
  · simp [Array.getElem?_eq_none h'] at h

theorem cell_lt {w : World} {p : Addr} {v : Value} (h : w.cell? p = some v) : p.block < w.heap.size := by
  rcases Nat.lt_or_ge p.block w.heap.size with h' | h'
  · exact h'
  · simp [World.cell?, Array.getElem?_eq_none h'] at h

theorem Errs.below {w w' : World} {a : Nat → Addr} (h : Errs w a) (hb : Below w.heap.size w w') : Errs w' a :=
  ⟨by rw [hb.cell (cell_lt h.c1)]; exact h.c1, by rw [hb.cell (cell_lt h.c2)]; exact h.c2⟩
end Go.Proofs.YtiegobkbinojeaaDoor
