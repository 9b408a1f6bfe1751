/- A fraction's box in the making: laid ahead of the calls that reckon what it holds, between them, or behind. -/
import Derived.Test.YtiegobkbinojeaaDoorIsRat
import Derived.Test.YtiegobkbinojeaaDoorLastOp
import Derived.Deep.CutRange
namespace Go.Proofs.YtiegobkbinojeaaDoor
open Go.RowKit

structure NBx (W0 W : World) (B : Nat) : Prop where
  box : RBox W B false none 0 0 none 0 0 0 0
  hB : W0.heap.size ≤ B
theorem NBx.later {W0 W W' : World} {B : Nat} (h : NBx W0 W B) (hb : Below W.heap.size W W') : NBx W0 W' B := ⟨h.box.later hb, h.hB⟩
theorem nbx_new {W0 W : World} (h : Below W0.heap.size W0 W) : NBx W0 (W.alloc (.cells #[.bool false, .slice none 0 0, .slice none 0 0] 50)) W.heap.size :=
  ⟨RBox.fresh (n := 0) (d := 0) (s := false) ⟨_, _, rfl, big_none _, big_none _⟩, h.size⟩
theorem nbx_of {W0 W W' : World} (h : Below W0.heap.size W0 W) (hb : Below (W.alloc (.cells #[.bool false, .slice none 0 0, .slice none 0 0] 50)).heap.size (W.alloc (.cells #[.bool false, .slice none 0 0, .slice none 0 0] 50)) W') : NBx W0 W' W.heap.size :=
  (nbx_new h).later hb
theorem set3_below {W0 W : World} {B : Nat} (h : Below W0.heap.size W0 W) (hB : W0.heap.size ≤ B) (x y z : Value) : Below W0.heap.size W0 (((W.setCell ⟨B, 0, none⟩ x).setCell ⟨B, 1, none⟩ y).setCell ⟨B, 2, none⟩ z) := ((h.setCell hB _).setCell hB _).setCell hB _
structure DBx (W0 W : World) (B : Nat) (M : Nat) (z : Int) : Prop where
  below : Below W0.heap.size W0 W
  hB : W0.heap.size ≤ B
  box : LB W B M z
theorem dbx_late {W0 W : World} {M : Nat} {z : Int} {s : Bool} {x x' : Option Addr} {l c l' c' : Nat} (h : Below W0.heap.size W0 W) (hr : LR W (.agg #[.bool s, .slice x l c, .slice x' l' c']) M z) : DBx W0 (W.alloc (.cells #[.bool s, .slice x l c, .slice x' l' c'] 50)) W.heap.size M z :=
  ⟨more_below h _, h.size, _, _, _, _, _, _, _, RBox.fresh hr⟩
theorem dbx_soon {W0 W : World} {B M : Nat} {z : Int} {s : Bool} {x x' : Option Addr} {l c l' c' : Nat} (h : Below W0.heap.size W0 W) (hr : LR W (.agg #[.bool s, .slice x l c, .slice x' l' c']) M z) (hn : NBx W0 W B) : DBx W0 (((W.setCell ⟨B, 0, none⟩ (.bool s)).setCell ⟨B, 1, none⟩ (.slice x l c)).setCell ⟨B, 2, none⟩ (.slice x' l' c')) B M z := by
  have h9 := hn.box.put hr
  exact ⟨set3_below h hn.hB _ _ _, hn.hB, ⟨s, x, l, c, x', l', c', h9⟩⟩
end Go.Proofs.YtiegobkbinojeaaDoor
