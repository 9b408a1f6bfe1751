/- (sum).putTerms. -/
import Derived.Test.YtofflboheiflaaaDoorGList
import Derived.Test.YtofflboheiflaaaDoorSides
namespace Go.Proofs.YtofflboheiflaaaDoor
open Go.RowKit Go.Maps

theorem map_no_cell {w : World} {b nn o : Nat} {D : DataW Unit} {k : TypeId} {R : Value → Option (DataW Unit × List MemPlace)} (h : w.ownsMap Tryd.prog k R b nn D) : w.cell? ⟨b, o, none⟩ = none := by
  obtain ⟨es, clock, hm, _⟩ := h
  simp [World.cell?, hm]
theorem atL_join : ∀ (l : List (Int × Int)) (e : Int × Int) (x : Int), (∀ f ∈ l, f.1 ≠ e.1) → atL (l ++ [e]) x = atL l x + if e.1 = x then e.2 else 0
  | [], e, x, _ => by simp [atL]
  | y :: r, e, x, h => by
    have ih := atL_join r e x (fun f hf => h f (List.mem_cons_of_mem _ hf))
    simp only [List.cons_append, atL]
    by_cases hy : y.1 = x
    · rw [if_pos hy, if_pos hy, if_neg (fun he => h y (List.mem_cons_self ..) (hy.trans he.symm))]; omega
    · rw [if_neg hy, if_neg hy]; exact ih
theorem take_before {t : List (Int × Int)} (hr : Rising t) {k : Nat} (hk : k < t.length) : ∀ f ∈ t.take k, f.1 ≠ (t.getD k (0, 0)).1 := fun f hf => by
  have h := hr.sublist (List.take_sublist (k + 1) t)
  rw [take_join hk] at h
  have := (List.pairwise_append.1 h).2.2 f hf (t.getD k (0, 0)) (by simp)
  omega
theorem atL_take {t : List (Int × Int)} (hr : Rising t) {k : Nat} (hk : k < t.length) (x : Int) : atL (t.take (k + 1)) x = atL (t.take k) x + if pOf t k = x then cOf t k else 0 := by
  rw [take_join hk, atL_join _ _ _ (take_before hr hk)]
  rfl
theorem atL_take_none {t : List (Int × Int)} (hr : Rising t) {k : Nat} (hk : k < t.length) : atL (t.take k) (pOf t k) = 0 := atL_none (take_before hr hk)
theorem atL_bound {t : List (Int × Int)} {B : Int} (hB : 0 ≤ B) (h : ∀ e ∈ t, -B ≤ e.2 ∧ e.2 ≤ B) (x : Int) : -B ≤ atL t x ∧ atL t x ≤ B := by
  by_cases h0 : atL t x = 0
  · rw [h0]; omega
  · exact h _ (atL_some h0)

/-- What putTerms keeps: k terms are put. -/
structure InTerms (w wr : World) (b : Nat) (m : Int) (l0 t : List (Int × Int)) (nn0 : Nat) (l : List (Int × Int)) (k : Nat) : Prop where
  own : wr.ownsMap Tryd.prog 3 (plainElem (H := Unit) Tryd.prog 3) b (nn0 + k) (mapOf l)
  rise : Rising l
  val : ∀ x, atL l x = atL l0 x + atL (t.take k) x * m
  keys : ∀ e ∈ l, 2 ≤ e.1 ∧ e.1 ≤ 1000000
  len : l.length ≤ l0.length + k
  grow : w.grownBy wr (some b)
  box : wr.cell? ⟨w.heap.size, 1, none⟩ = some (.map (some b))

theorem InTerms.put {w wr w1 : World} {b : Nat} {m : Int} {l0 t l : List (Int × Int)} {nn0 k : Nat} {X : Obj} (h : InTerms w wr b m l0 t nn0 l k) (hb : b < w.heap.size) (ht : Rising t) (hk : k < t.length) (hp : 2 ≤ pOf t k ∧ pOf t k ≤ 1000000)
    (ho : w1.ownsMap Tryd.prog 3 (plainElem (H := Unit) Tryd.prog 3) b (nn0 + k + 1) ((mapOf l).put (.int .i64 (pOf t k)) (.lit (.int .i64 (atL l (pOf t k) + cOf t k * m))))) (hg : (wr.alloc X).grownBy w1 (some b)) :
    InTerms w w1 b m l0 t nn0 (putL l (pOf t k) (atL l (pOf t k) + cOf t k * m)) (k + 1) := by
  have hgg : w.grownBy (wr.alloc X) (some b) := ⟨h.grow.os, h.grow.tape, h.grow.output, Nat.le_trans h.grow.size (by simp), fun j hj hn => (Below.heap_alloc _ _ j (Nat.lt_of_lt_of_le hj h.grow.size)).trans (h.grow.block j hj hn)⟩
  refine ⟨by rw [put_map] at ho; rw [← Nat.add_assoc]; exact ho, rising_put h.rise _ _, fun x => ?_, fun e he => ?_, ?_, grown_two hgg hg, cell_beside hg (by rw [World.cell?_alloc_lt _ _ ⟨w.heap.size, 1, none⟩ (cell_lt h.box)]; exact h.box) (by omega)⟩
  · rw [atL_put h.rise, atL_take ht hk, Int.add_mul]
    by_cases hx : x = pOf t k
    · rw [if_pos hx, if_pos hx.symm, h.val, hx]; omega
    · rw [if_neg hx, if_neg (fun e => hx e.symm), h.val, Int.zero_mul]; omega
  · rcases mem_put.1 he with rfl | ⟨he, _⟩
    · exact hp
    · exact h.keys e he
  · have h1 := length_put l (pOf t k) (atL l (pOf t k) + cOf t k * m)
    have h2 := h.len
    omega

theorem prod_bd {x m : Int} (hx : -1099511627776 ≤ x ∧ x ≤ 1099511627776) (hm : 0 ≤ m ∧ m ≤ 1000000) : -1099511627776000000 ≤ x * m ∧ x * m ≤ 1099511627776000000 := by
  obtain ⟨a, rfl⟩ := Int.eq_ofNat_of_zero_le hm.1
  have h1 : x * (a : Int) ≤ 1099511627776 * (a : Int) := Int.mul_le_mul_of_nonneg_right hx.2 (by omega)
  have h2 : -1099511627776 * (a : Int) ≤ x * (a : Int) := Int.mul_le_mul_of_nonneg_right hx.1 (by omega)
  omega

end Go.Proofs.YtofflboheiflaaaDoor
