/- The document's StripBonds. -/
import Derived.Test.YtoghnbcjkgookabDoorIsPair
namespace Go.Proofs.YtoghnbcjkgookabDoor
open Go.RowKit

/-- A bond downward, and one to the next column. -/
def dnS (h c r : Nat) : Nat × Nat := (c * h + r, c * h + r + 1)
def rtS (h l c r : Nat) : Nat × Nat := (c * h + r, (c + 1) % l * h + r)
def onS (l : Nat) (ring : Bool) (c : Nat) : Bool := decide (c + 1 < l) || ring
def strB (h l : Nat) (ring : Bool) (c : Nat) : List (Nat × Nat) := allB (dnS h) (rtS h l) h (onS l ring) c

/-- What an append of a pair leaves. -/
theorem pair_own {w : World} {base : Nat} {v : Value} {E : List (Nat × Nat)} {x y : Int} {X Y : Nat} (h : w.ownsRow base 34 2 v (E.length + 1) (pairCells E ++ [.int .i64 x, .int .i64 y])) (hx : x = (X : Int)) (hy : y = (Y : Int)) : w.ownsRow base 34 2 v (E ++ [(X, Y)]).length (pairCells (E ++ [(X, Y)])) := by
  subst hx hy
  rw [pairCells_snoc, List.length_append]
  exact h

end Go.Proofs.YtoghnbcjkgookabDoor
