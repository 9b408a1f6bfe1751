/- The document's digits, power, Sides, TooGreat and SignOf. -/
import Derived.Test.YtlnhpkmcinohdaaDoorBig
import Derived.Test.YtlnhpkmcinohdaaDoorValidWalk
import Derived.Laws.MathBits
namespace Go.Proofs.YtlnhpkmcinohdaaDoor
open Go.RowKit

theorem bitLen_half {n : Nat} (h : 0 < n) : bitLen n = bitLen (n / 2) + 1 := by
  rcases Nat.lt_or_ge n 2 with h1 | h1
  · obtain rfl : n = 1 := by omega
    decide
  · have := bitLen_shift n 1 (by simp; omega)
    simp at this
    omega
theorem bitLen_zero : bitLen 0 = 0 := by simp [bitLen]
theorem bitLen_million {n : Nat} (h : n ≤ 1000000) : bitLen n ≤ 20 := by
  unfold bitLen
  split
  · omega
  · rename_i h0
    have := (Nat.log2_lt h0).2 (show n < 2 ^ 20 by omega)
    omega
theorem bitLen_pos {n : Nat} (h : 0 < n) : 0 < bitLen n := by
  rw [bitLen_half h]; omega

end Go.Proofs.YtlnhpkmcinohdaaDoor
