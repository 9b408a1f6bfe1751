/- The document's SignOf. -/
import Derived.Test.YtmdimdoglpiiiaaGreatDoorSides
namespace Go.Proofs.YtmdimdoglpiiiaaGreatDoor
open Go.RowKit

theorem pow_room (m : Nat) : 2 ^ m < 1000000 ^ (m + 1) :=
  Nat.lt_of_le_of_lt (Nat.pow_le_pow_left (show 2 ≤ 1000000 by decide) m) (Nat.pow_lt_pow_right (by decide) (Nat.lt_succ_self m))

end Go.Proofs.YtmdimdoglpiiiaaGreatDoor
