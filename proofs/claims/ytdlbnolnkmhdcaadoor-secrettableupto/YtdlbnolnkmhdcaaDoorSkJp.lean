/- Joining: secret.Join, hasTwice, partAtZero, inverse; slices.Contains. -/
import Derived.Test.YtdlbnolnkmhdcaaDoorSkJm
import Derived.Test.YtdlbnolnkmhdcaaDoorSkSh
namespace Go.Proofs.YtdlbnolnkmhdcaaDoor
open Go.RowKit

/-- Is one of the first n there twice? -/
def twiB (z : Nat → Int) : Nat → Bool
  | 0 => false
  | k + 1 => twiB z k || inB z k (z k)
theorem twiB_yes {z : Nat → Int} {k n : Nat} (h : inB z k (z k) = true) (hk : k < n) : twiB z n = true := by
  induction n with
  | zero => omega
  | succ n ih =>
    rcases Nat.lt_or_ge k n with h1 | h1
    · simp [twiB, ih h1]
    · obtain rfl : k = n := by omega
      simp [twiB, h]
theorem twiB_no {z : Nat → Int} {n : Nat} (h : twiB z n = false) {i j : Nat} (hij : i < j) (hj : j < n) : z i ≠ z j := fun e => by
  rw [twiB_yes ((inB_iff z (z j) j).2 ⟨i, hij, e⟩) hj] at h; cases h
end Go.Proofs.YtdlbnolnkmhdcaaDoor
