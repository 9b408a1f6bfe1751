/- chain.closed, class. -/
import Derived.Test.YtlnhpkmcinohdaaDoorClasses
import Derived.Test.YtlnhpkmcinohdaaDoorValidWalk
namespace Go.Proofs.YtlnhpkmcinohdaaDoor
open Go.RowKit

theorem closedL_le (to : Nat → Nat → Bool) (N : Nat) : ∀ n, (closedL to N n).length ≤ n
  | 0 => by simp [closedL]
  | n + 1 => by
    have := closedL_le to N n
    rw [closedL]; split
    · simp; omega
    · omega
theorem classL_le (to : Nat → Nat → Bool) (i : Nat) : ∀ n, (classL to i n).length ≤ n
  | 0 => by simp [classL]
  | n + 1 => by
    have := classL_le to i n
    rw [classL]; split
    · simp; omega
    · omega

end Go.Proofs.YtlnhpkmcinohdaaDoor
