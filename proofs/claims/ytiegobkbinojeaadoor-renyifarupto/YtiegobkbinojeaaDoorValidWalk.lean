/- Worlds behind each other. -/
import Derived.Test.YtiegobkbinojeaaDoorOwn
import Derived.Test.YtiegobkbinojeaaDoorCode
import Derived.Deep.RegionHeld3
import Derived.Deep.RegionWith
namespace Go.Proofs.YtiegobkbinojeaaDoor
open Go.RowKit

theorem below_chain {w0 W W' : World} (h : Below w0.heap.size w0 W) (hb : Below W.heap.size W W') : Below w0.heap.size w0 W' := h.trans (hb.mono h.size)
theorem cell_past {w w' : World} {p : Addr} {v : Value} (h : w.cell? p = some v) (hb : Below w.heap.size w w') : (∀ X, (w'.alloc X).cell? p = some v) ∧ w'.cell? p = some v := by
  have h1 : w'.cell? p = some v := by rw [hb.cell (cell_lt h)]; exact h
  exact ⟨fun X => by rw [World.cell?_alloc_lt _ _ p (cell_lt h1)]; exact h1, h1⟩
theorem frozen_past {w w' : World} {p : Addr} {v : Value} (hc : w.cell? p = some v) (h : w.frozen? p = false) (hb : Below w.heap.size w w') : (∀ X, (w'.alloc X).frozen? p = false) ∧ w'.frozen? p = false := by
  have h1 : w'.frozen? p = false := by rw [hb.frozen (cell_lt hc)]; exact h
  have hl : p.block < w'.heap.size := Nat.lt_of_lt_of_le (cell_lt hc) hb.size
  exact ⟨fun X => by rw [World.frozen?_alloc_old _ _ p (Nat.ne_of_lt hl)]; exact h1, h1⟩
end Go.Proofs.YtiegobkbinojeaaDoor
