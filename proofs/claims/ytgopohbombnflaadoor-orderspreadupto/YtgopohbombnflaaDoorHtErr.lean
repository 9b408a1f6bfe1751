/- Errors with their places, of a process: what they are in memory. -/
import Derived.Test.YtgopohbombnflaaDoorWeights
import Derived.Test.YtgopohbombnflaaDoorValidWalk
namespace Go.Proofs.YtgopohbombnflaaDoor
open Go.RowKit

/-- An error by its number and place, in memory. -/
def ErrPl (a : Nat → Addr) (w : World) (v : Value) (c : Nat × Int) : Prop :=
  (v = errV a c.1 ∧ c.2 = -1 ∧ c.1 ≤ 8) ∨ ∃ pb, v = .iface 68 (.pointer (some ⟨pb, 0, none⟩)) ∧ w.cell? ⟨pb, 0, none⟩ = some (.int .i64 c.2) ∧ w.cell? ⟨pb, 1, none⟩ = some (.iface 120 (.pointer (some (a (c.1 - 1))))) ∧ 1 ≤ c.1 ∧ c.1 ≤ 8
theorem ErrPl.later {a : Nat → Addr} {w w' : World} {v : Value} {c : Nat × Int} (h : ErrPl a w v c) (hb : Below w.heap.size w w') : ErrPl a w' v c := by
  rcases h with h | ⟨pb, h1, h2, h3, h4⟩
  · exact Or.inl h
  · exact Or.inr ⟨pb, h1, by rw [hb.cell (cell_lt h2)]; exact h2, by rw [hb.cell (cell_lt h3)]; exact h3, h4⟩
theorem ErrPl.iface {a : Nat → Addr} {w : World} {v : Value} {c : Nat × Int} (h : ErrPl a w v c) (h0 : c.1 ≠ 0) : ∃ t x, v = .iface t x := by
  rcases h with ⟨rfl, _, _⟩ | ⟨pb, rfl, _⟩
  · rw [errV_pos a h0]; exact ⟨_, _, rfl⟩
  · exact ⟨_, _, rfl⟩
theorem ErrPl.nil0 {a : Nat → Addr} {w : World} {v : Value} {c : Nat × Int} (h : ErrPl a w v c) (h0 : c.1 = 0) : v = .nilIface := by
  rcases h with ⟨rfl, _, _⟩ | ⟨pb, rfl, _, _, h1, _⟩
  · rw [h0, errV_zero]
  · omega
end Go.Proofs.YtgopohbombnflaaDoor
