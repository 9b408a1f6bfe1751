/- The document's BigMul: times. -/
import Derived.Test.YtdafknhbiffaoaaDoorBig
import Derived.OwnWalk
namespace Go.Proofs.YtdafknhbiffaoaaDoor
open Go.RowKit

theorem bv_set : ∀ (l : List Nat) (j d : Nat), j < l.length → bv (l.set j d) + 1000000 ^ j * l.getD j 0 = bv l + 1000000 ^ j * d
  | [], j, d, h => by simp at h
  | e :: r, 0, d, _ => by simp [bv]; omega
  | e :: r, j + 1, d, h => by
    have := bv_set r j d (by simpa using h)
    simp only [List.set_cons_succ, bv, List.getD_cons_succ, Nat.pow_succ]
    have h1 : 1000000 ^ j * 1000000 * r.getD j 0 = 1000000 * (1000000 ^ j * r.getD j 0) := by grind
    have h2 : 1000000 ^ j * 1000000 * d = 1000000 * (1000000 ^ j * d) := by grind
    rw [h1, h2]
    omega
theorem getD_set_same {l : List Nat} {j d : Nat} (h : j < l.length) : (l.set j d).getD j 0 = d := by
  rw [List.getD_eq_getElem?_getD, List.getElem?_set_self h]; rfl
theorem getD_set_other {l : List Nat} {j i d : Nat} (h : j ≠ i) : (l.set j d).getD i 0 = l.getD i 0 := by
  rw [List.getD_eq_getElem?_getD, List.getElem?_set_ne h, ← List.getD_eq_getElem?_getD]
theorem Dig.set {l : List Nat} (h : Dig l) (j : Nat) {d : Nat} (hd : d < 1000000) : Dig (l.set j d) := fun i hi => by
  rw [List.length_set] at hi
  by_cases hj : j = i
  · subst hj; rw [getD_set_same hi]; exact hd
  · rw [getD_set_other hj]; exact h i hi
theorem digCells_set (l : List Nat) (j d : Nat) : (digCells l).set j (.int .i64 (d : Int)) = digCells (l.set j d) := by
  unfold digCells
  rw [List.map_set]
theorem digCells_length (l : List Nat) : (digCells l).length = l.length := by simp [digCells]
theorem digCells_get {l : List Nat} {j : Nat} (h : j < l.length) : (digCells l)[j]? = some (.int .i64 ((l.getD j 0 : Nat) : Int)) := by
  simp [digCells, h]
theorem digCells_zeros (n : Nat) : (madeCells (Value.int .i64 0).cells (n * 1)).toList = digCells (List.replicate n 0) := by
  rw [Nat.mul_one, show (Value.int .i64 0).cells = #[.int .i64 0] from rfl, toList_madeCells_one]
  simp [digCells]
theorem bv_replicate (n : Nat) : bv (List.replicate n 0) = 0 := by
  induction n with
  | zero => rfl
  | succ n ih => simp [List.replicate_succ, bv, ih]
theorem getD_replicate (n j : Nat) : (List.replicate n 0).getD j 0 = 0 := by
  rw [List.getD_eq_getElem?_getD]
  rcases Nat.lt_or_ge j n with h | h
  · rw [List.getElem?_replicate, if_pos h]; rfl
  · rw [List.getElem?_eq_none (by simpa using h)]; rfl

/-- One step of the inner loop. -/
theorem mul_step {l y : List Nat} {P i k c a t : Nat} (hj : i + k < l.length) (ht : t = c + l.getD (i + k) 0 + a * y.getD k 0) (h : bv l + 1000000 ^ (i + k) * c = P + 1000000 ^ i * (a * bv (y.take k))) :
    bv (l.set (i + k) (t % 1000000)) + 1000000 ^ (i + (k + 1)) * (t / 1000000) = P + 1000000 ^ i * (a * bv (y.take (k + 1))) := by
  have h1 := bv_set l (i + k) (t % 1000000) hj
  have h2 := bv_take_digit y k
  have h3 := Nat.mod_add_div t 1000000
  have h5 : 1000000 ^ (i + k) * (t % 1000000) + 1000000 ^ (i + (k + 1)) * (t / 1000000) = 1000000 ^ (i + k) * t := by
    rw [← Nat.add_assoc, Nat.pow_succ, Nat.mul_assoc, ← Nat.mul_add, h3]
  rw [h2, ht] at *
  have h4 : 1000000 ^ (i + k) = 1000000 ^ i * 1000000 ^ k := Nat.pow_add _ _ _
  have h6 : 1000000 ^ (i + k) * (c + l.getD (i + k) 0 + a * y.getD k 0) = 1000000 ^ (i + k) * c + 1000000 ^ (i + k) * l.getD (i + k) 0 + 1000000 ^ i * (a * (1000000 ^ k * y.getD k 0)) := by
    rw [h4]; grind
  have h7 : P + 1000000 ^ i * (a * (bv (y.take k) + 1000000 ^ k * y.getD k 0)) = P + 1000000 ^ i * (a * bv (y.take k)) + 1000000 ^ i * (a * (1000000 ^ k * y.getD k 0)) := by grind
  rw [h7]
  omega
/-- The inner loop's end. -/
theorem mul_row {l x y : List Nat} {i c : Nat} (hj : i + y.length < l.length) (h0 : l.getD (i + y.length) 0 = 0) (h : bv l + 1000000 ^ (i + y.length) * c = bv (x.take i) * bv y + 1000000 ^ i * (x.getD i 0 * bv (y.take y.length))) :
    bv (l.set (i + y.length) c) = bv (x.take (i + 1)) * bv y := by
  have h1 := bv_set l (i + y.length) c hj
  rw [h0, Nat.mul_zero, Nat.add_zero] at h1
  rw [List.take_length] at h
  rw [h1, h, bv_take_digit x i]
  grind

theorem mul_small {a b : Nat} (ha : a < 1000000) (hb : b < 1000000) : a * b ≤ 999998000001 := by
  have := Nat.mul_le_mul (show a ≤ 999999 by omega) (show b ≤ 999999 by omega)
  omega

end Go.Proofs.YtdafknhbiffaoaaDoor
