/- A parameter of type demonref4.System opened: its number, its slice, its bonds. -/
import Derived.Test.YtoghnbcjkgookabDoorIsSys
import Derived.Test.YtoghnbcjkgookabDoorLaid
import Derived.Test.YtoghnbcjkgookabDoorCards
import Derived.Test.YtoghnbcjkgookabDoorTie
import Derived.SevenTiedAt
import Derived.ProofKit
import Derived.OpenShut
import Derived.ChangeOld
import Derived.Lib.SmallJoins
import Derived.Deep.SlicePairs
namespace Go.Proofs.YtoghnbcjkgookabDoor
open Go.ChangeShapes Go.WideShapes Go.ChangeAt Go.RowKit Go.Joins Go.Deep

theorem Tryd.laidOutS : laidOutB Tryd.prog = true := by kernel_rfl
theorem Tryd.cellsPair : Tryd.prog.cellsOf 34 = 2 := by kernel_rfl
theorem Tryd.cellsIntS : Tryd.prog.cellsOf 3 = 1 := by kernel_rfl

/-- The two numbers of an array of two. -/
theorem open_pair {H : Type} {enc : TypeId × Value → H} {W : World} {spare : Nat → Bool} {held : Bool} {fuel : Nat} {cs : List Value} {x : DataW H × List MemPlace} (h : DataW.trod enc Tryd.prog W 0 spare held fuel 34 cs = some x) (hl : cs.length = 2) : ∃ a b : Int, cs = [.int .i64 a, .int .i64 b] := by
  obtain ⟨xs, k, hk, _, _, hxl, hf⟩ := DataW.trod_array Tryd.underlying34 h
  rw [Tryd.cellsIntS] at hf
  match xs, hxl, cs, hl with
  | [y0, y1], _, [v0, v1], _ =>
    have g0 := hf 0 (by decide)
    have g1 := hf 1 (by decide)
    simp at g0 g1
    obtain ⟨a, e0, _, _⟩ := DataW.trod_int Tryd.underlying3 g0
    obtain ⟨b, e1, _, _⟩ := DataW.trod_int Tryd.underlying3 g1
    simp at e0 e1
    exact ⟨a, b, by rw [e0, e1]⟩

end Go.Proofs.YtoghnbcjkgookabDoor
