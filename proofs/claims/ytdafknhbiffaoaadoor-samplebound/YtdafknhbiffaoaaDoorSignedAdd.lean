/- The document's SignedAdd. -/
import Derived.Test.YtdafknhbiffaoaaDoorSigned
namespace Go.Proofs.YtdafknhbiffaoaaDoor
open Go.RowKit

theorem below_res {W0 w1 : World} {B : Nat} (h : Below B W0 w1) (x y : Value) : Below B W0 ((w1.setCell ⟨B, 0, none⟩ x).setCell ⟨B, 1, none⟩ y) := (h.setCell (Nat.le_refl _) _).setCell (Nat.le_refl _) _
theorem add_same {x y : Int} {s : Bool} (h1 : decide (x < 0) = s) (h2 : decide (y < 0) = s) : decide (x + y < 0) = s ∧ (x + y).natAbs = x.natAbs + y.natAbs := by
  cases s
  · have hx := of_decide_eq_false h1
    have hy := of_decide_eq_false h2
    exact ⟨decide_eq_false (by omega), by omega⟩
  · have hx := of_decide_eq_true h1
    have hy := of_decide_eq_true h2
    exact ⟨decide_eq_true (by omega), by omega⟩

end Go.Proofs.YtdafknhbiffaoaaDoor
