/- (chain.folded).takeOut. -/
import Derived.Test.YtkglaiigoogapaaGreatDoorFoldAt
import Derived.Test.YtkglaiigoogapaaGreatDoorLastOp
namespace Go.Proofs.YtkglaiigoogapaaGreatDoor
open Go.RowKit

theorem natAt_none (w : World) : NatAt w (.slice none 0 0) 0 := ⟨[], fun i hi => by simp at hi, fun i hi => by simp at hi, rfl, Or.inl ⟨_, _, rfl, rfl⟩⟩
theorem NatOf_zero (w : World) : Calls Tryz.prog 50 #[.int .u64 0] w fun e w' => e = .returned (.slice none 0 0) ∧ w' = w := by
  go_enter Tryz.func50, Tryz.ntmps50
  go_wp2_with fail
  go_ret
  exact ⟨rfl, rfl⟩
theorem NatOf_all (n : Nat) (w : World) (h : n < 18446744073709551616) : Calls Tryz.prog 50 #[.int .u64 n] w fun e w' => ∃ v, e = .returned v ∧ NatAt w' v n ∧ Below w.heap.size w w' := by
  rcases Nat.eq_zero_or_pos n with rfl | h0
  · exact (NatOf_zero w).mono fun e w' ⟨he, hw⟩ => ⟨_, he, natAt_none _, by rw [hw]; exact Below.refl _ _⟩
  · exact NatOf_any n w h0 h
theorem sumTo_le {z : Nat → Nat} {M : Nat} : ∀ {n : Nat}, (∀ i, i < n → z i ≤ M) → sumTo z n ≤ n * M
  | 0, _ => by simp [sumTo]
  | n + 1, h => by
    have h1 := sumTo_le (n := n) (fun i hi => h i (by omega))
    have h2 := h n (by omega)
    rw [sumTo, Nat.add_mul]; omega

theorem box_later {W W' : World} {bx : Nat} {x0 x1 x2 : Value} (h : W.cell? ⟨bx, 0, none⟩ = some x0 ∧ W.cell? ⟨bx, 1, none⟩ = some x1 ∧ W.cell? ⟨bx, 2, none⟩ = some x2) (hb : Below W.heap.size W W') : W'.cell? ⟨bx, 0, none⟩ = some x0 ∧ W'.cell? ⟨bx, 1, none⟩ = some x1 ∧ W'.cell? ⟨bx, 2, none⟩ = some x2 :=
  ⟨by rw [hb.cell (cell_lt h.1)]; exact h.1, by rw [hb.cell (cell_lt h.2.1)]; exact h.2.1, by rw [hb.cell (cell_lt h.2.2)]; exact h.2.2⟩
theorem box_set {W : World} {bx b k : Nat} {x0 x1 x2 z : Value} (hz : W.cell? ⟨b, k, none⟩ = some z) (hne : b < bx) (h : W.cell? ⟨bx, 0, none⟩ = some x0 ∧ W.cell? ⟨bx, 1, none⟩ = some x1 ∧ W.cell? ⟨bx, 2, none⟩ = some x2) (y : Value) : (W.setCell ⟨b, k, none⟩ y).cell? ⟨bx, 0, none⟩ = some x0 ∧ (W.setCell ⟨b, k, none⟩ y).cell? ⟨bx, 1, none⟩ = some x1 ∧ (W.setCell ⟨b, k, none⟩ y).cell? ⟨bx, 2, none⟩ = some x2 := by
  have hn : ∀ j, (⟨bx, j, none⟩ : Addr) ≠ ⟨b, k, none⟩ := fun j e => by have := congrArg Addr.block e; simp at this; omega
  refine ⟨?_, ?_, ?_⟩
  · rw [cell_put _ hz, if_neg (hn _)]; exact h.1
  · rw [cell_put _ hz, if_neg (hn _)]; exact h.2.1
  · rw [cell_put _ hz, if_neg (hn _)]; exact h.2.2
theorem NatOf_new (n : Nat) (w : World) (h : n < 18446744073709551616) : Calls Tryz.prog 50 #[.int .u64 n] w fun e w' => ∃ v, e = .returned v ∧ NatNew w.heap.size w' v n ∧ Below w.heap.size w w' := by
  rcases Nat.eq_zero_or_pos n with rfl | h0
  · exact (NatOf_zero w).mono fun e w' ⟨he, hw⟩ => ⟨_, he, ⟨natAt_none _, fun b o l c h => by cases h⟩, by rw [hw]; exact Below.refl _ _⟩
  · have hz : ((n : Int) == 0) = false := by simp; omega
    go_enter Tryz.func50, Tryz.ntmps50
    go_wp2_with fail
    go_ret
    refine ⟨_, rfl, ⟨⟨[n], (fun i hi => by simp at hi; subst hi; simpa using h), (fun i hi => by simp at hi; subst hi; simp; omega), wv_single n, Or.inr ⟨w.heap.size, 0, 1, rfl, by simp, by simp, fun i hi => ?_⟩⟩, fun b o l c hv _ => by simp at hv; omega⟩, (Below.refl _ _).alloc (Nat.le_refl _) _⟩
    have : i = 0 := by simp at hi; exact hi
    subst this
    simp

end Go.Proofs.YtkglaiigoogapaaGreatDoor
