/- Digits to the base of a million: plain lists and numbers. -/
namespace Go.Proofs.YtiegobkbinojeaaDoor

def bv : List Nat → Nat
  | [] => 0
  | d :: r => d + 1000000 * bv r
def Dig (l : List Nat) : Prop := ∀ i, i < l.length → l.getD i 0 < 1000000
def NoTail (l : List Nat) : Prop := ∀ i, i + 1 = l.length → l.getD i 0 ≠ 0

theorem bv_append (l r : List Nat) : bv (l ++ r) = bv l + 1000000 ^ l.length * bv r := by
  induction l with
  | nil => simp [bv]
  | cons d l ih =>
    simp only [List.cons_append, bv, ih, List.length_cons, Nat.pow_succ]
    rw [Nat.mul_add, Nat.mul_comm (1000000 ^ l.length) 1000000, Nat.mul_assoc]
    omega
theorem bv_single (d : Nat) : bv [d] = d := by simp [bv]
theorem take_succ_getD (l : List Nat) (k : Nat) (h : k < l.length) : l.take (k + 1) = l.take k ++ [l.getD k 0] := by
  rw [List.take_succ_eq_append_getElem h, List.getD_eq_getElem?_getD, List.getElem?_eq_getElem h]
  rfl
theorem bv_take_succ (l : List Nat) (k : Nat) (h : k < l.length) : bv (l.take (k + 1)) = bv (l.take k) + 1000000 ^ k * l.getD k 0 := by
  rw [take_succ_getD l k h, bv_append, bv_single, List.length_take, Nat.min_eq_left (by omega)]
theorem bv_take_ge (l : List Nat) (k : Nat) (h : l.length ≤ k) : bv (l.take k) = bv l := by rw [List.take_of_length_le h]
theorem bv_zeros (l : List Nat) (k : Nat) (hk : k ≤ l.length) (h : ∀ i, k ≤ i → i < l.length → l.getD i 0 = 0) : bv (l.take k) = bv l := by
  obtain ⟨m, hm⟩ : ∃ m, l.length = k + m := ⟨l.length - k, by omega⟩
  have aux : ∀ j, j ≤ m → bv (l.take (k + j)) = bv (l.take k) := by
    intro j
    induction j with
    | zero => intro _; rfl
    | succ j ih =>
      intro hj
      rw [← Nat.add_assoc, bv_take_succ l (k + j) (by omega), h (k + j) (by omega) (by omega), Nat.mul_zero, Nat.add_zero, ih (by omega)]
  rw [← aux m (Nat.le_refl _), ← hm, List.take_length]
theorem bv_lt : ∀ l : List Nat, Dig l → bv l < 1000000 ^ l.length
  | [], _ => by simp [bv]
  | d :: r, h => by
    have h0 : d < 1000000 := by simpa using h 0 (by simp)
    have hr : Dig r := fun i hi => by simpa using h (i + 1) (by simpa using hi)
    have := bv_lt r hr
    simp only [bv, List.length_cons, Nat.pow_succ]
    omega
theorem NoTail.take_le {l : List Nat} (h : NoTail l) (hp : 0 < l.length) : 1000000 ^ (l.length - 1) ≤ bv l := by
  have h1 := bv_take_succ l (l.length - 1) (by omega)
  have h2 : l.getD (l.length - 1) 0 ≠ 0 := h (l.length - 1) (by omega)
  rw [show l.length - 1 + 1 = l.length by omega, List.take_length] at h1
  rw [h1]
  have h3 : 1000000 ^ (l.length - 1) * 1 ≤ 1000000 ^ (l.length - 1) * l.getD (l.length - 1) 0 := Nat.mul_le_mul_left _ (by omega)
  omega
theorem len_le_of_lt {l : List Nat} {k : Nat} (h : NoTail l) (hb : bv l < 1000000 ^ k) : l.length ≤ k := by
  rcases Nat.lt_or_ge k l.length with h' | h'
  · have h1 := h.take_le (by omega)
    have h2 : 1000000 ^ k ≤ 1000000 ^ (l.length - 1) := Nat.pow_le_pow_right (by decide) (by omega)
    omega
  · exact h'
theorem bv_lt_of_len {a b : List Nat} (ha : Dig a) (hb : NoTail b) (h : a.length < b.length) : bv a < bv b := by
  have h1 := bv_lt a ha
  have h2 := hb.take_le (by omega)
  have h3 : 1000000 ^ a.length ≤ 1000000 ^ (b.length - 1) := Nat.pow_le_pow_right (by decide) (by omega)
  omega
/-- Of two of one length, the highest place at which they differ decides. -/
theorem bv_lt_of_place {a b : List Nat} (ha : Dig a) (k : Nat) (hk : k < a.length) (hl : a.length = b.length) (hs : ∀ i, k < i → i < a.length → a.getD i 0 = b.getD i 0) (hd : a.getD k 0 < b.getD k 0) : bv a < bv b := by
  obtain ⟨m, hm⟩ : ∃ m, a.length = k + 1 + m := ⟨a.length - (k + 1), by omega⟩
  have ht : bv (a.take k) < 1000000 ^ k := by
    have : Dig (a.take k) := fun i hi => by
      have hi' : i < k := by simp at hi; omega
      rw [List.getD_eq_getElem?_getD, List.getElem?_take_of_lt hi', ← List.getD_eq_getElem?_getD]
      exact ha i (by omega)
    have h := bv_lt _ this
    rwa [List.length_take, Nat.min_eq_left (by omega)] at h
  have base : bv (a.take (k + 1)) < bv (b.take (k + 1)) := by
    rw [bv_take_succ a k hk, bv_take_succ b k (by omega)]
    have : 1000000 ^ k * (a.getD k 0 + 1) ≤ 1000000 ^ k * b.getD k 0 := Nat.mul_le_mul_left _ hd
    rw [Nat.mul_add, Nat.mul_one] at this
    omega
  have aux : ∀ j, j ≤ m → bv (a.take (k + 1 + j)) < bv (b.take (k + 1 + j)) := by
    intro j
    induction j with
    | zero => intro _; exact base
    | succ j ih =>
      intro hj
      rw [← Nat.add_assoc, bv_take_succ a _ (by omega), bv_take_succ b _ (by omega), hs (k + 1 + j) (by omega) (by omega)]
      have := ih (by omega)
      omega
  have := aux m (Nat.le_refl _)
  rwa [← hm, List.take_length, hl, List.take_length] at this
theorem list_ext_getD {a b : List Nat} (hl : a.length = b.length) (h : ∀ i, i < a.length → a.getD i 0 = b.getD i 0) : a = b := by
  refine List.ext_getElem hl fun i h1 h2 => ?_
  have := h i h1
  rw [List.getD_eq_getElem?_getD, List.getD_eq_getElem?_getD, List.getElem?_eq_getElem h1, List.getElem?_eq_getElem h2] at this
  simpa using this
theorem getD_append_left {l r : List Nat} {i : Nat} (h : i < l.length) : (l ++ r).getD i 0 = l.getD i 0 := by
  rw [List.getD_eq_getElem?_getD, List.getElem?_append_left h, ← List.getD_eq_getElem?_getD]
theorem getD_append_last {l : List Nat} {d : Nat} : (l ++ [d]).getD l.length 0 = d := by
  rw [List.getD_eq_getElem?_getD, List.getElem?_append_right (Nat.le_refl _)]
  simp
theorem Dig.push {l : List Nat} {d : Nat} (h : Dig l) (hd : d < 1000000) : Dig (l ++ [d]) := fun i hi => by
  rcases Nat.lt_or_ge i l.length with h' | h'
  · rw [getD_append_left h']; exact h i h'
  · have : i = l.length := by simp at hi; omega
    subst this
    rw [getD_append_last]; exact hd
theorem Dig.take {l : List Nat} (h : Dig l) (k : Nat) : Dig (l.take k) := fun i hi => by
  have hi' : i < k ∧ i < l.length := by simp at hi; omega
  rw [List.getD_eq_getElem?_getD, List.getElem?_take_of_lt hi'.1, ← List.getD_eq_getElem?_getD]
  exact h i hi'.2
theorem getD_take {l : List Nat} {k i : Nat} (h : i < k) : (l.take k).getD i 0 = l.getD i 0 := by
  rw [List.getD_eq_getElem?_getD, List.getElem?_take_of_lt h, ← List.getD_eq_getElem?_getD]
end Go.Proofs.YtiegobkbinojeaaDoor
