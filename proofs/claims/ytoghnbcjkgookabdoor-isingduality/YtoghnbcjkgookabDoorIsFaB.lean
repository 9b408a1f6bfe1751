/- The document's FaceBonds. -/
import Derived.Test.YtoghnbcjkgookabDoorIsStrB
namespace Go.Proofs.YtoghnbcjkgookabDoor
open Go.RowKit

/-- What lies in a small square's place: its number, or that of all that lies outside. -/
def sqN (h l : Nat) (c r : Int) : Nat := if c < 0 ∨ (l : Int) - 1 ≤ c ∨ r < 0 ∨ (h : Int) - 1 ≤ r then (h - 1) * (l - 1) else (c * ((h : Int) - 1) + r).toNat
def dnF (h l c r : Nat) : Nat × Nat := (sqN h l ((c : Int) - 1) r, sqN h l c r)
def rtF (h l c r : Nat) : Nat × Nat := (sqN h l c ((r : Int) - 1), sqN h l c r)
def faB (h l c : Nat) : List (Nat × Nat) := allB (dnF h l) (rtF h l) h (fun c => decide (c + 1 < l)) c

end Go.Proofs.YtoghnbcjkgookabDoor
