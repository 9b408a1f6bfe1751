/- Words of 64 bits: plain lists and numbers. -/
namespace Go.Proofs.YtlnhpkmcinohdaaDoor

def wv : List Nat → Nat
  | [] => 0
  | d :: r => d + 18446744073709551616 * wv r
def Wrd (l : List Nat) : Prop := ∀ i, i < l.length → l.getD i 0 < 18446744073709551616
def NoEnd (l : List Nat) : Prop := ∀ i, i + 1 = l.length → l.getD i 0 ≠ 0

theorem wv_append (l r : List Nat) : wv (l ++ r) = wv l + 18446744073709551616 ^ l.length * wv r := by
  induction l with
  | nil => simp [wv]
  | cons d l ih =>
    simp only [List.cons_append, wv, ih, List.length_cons, Nat.pow_succ]
    rw [Nat.mul_add, Nat.mul_comm (18446744073709551616 ^ l.length) 18446744073709551616, Nat.mul_assoc]
    omega
theorem wv_single (d : Nat) : wv [d] = d := by simp [wv]
theorem wtake_succ_getD (l : List Nat) (k : Nat) (h : k < l.length) : l.take (k + 1) = l.take k ++ [l.getD k 0] := by
  rw [List.take_succ_eq_append_getElem h, List.getD_eq_getElem?_getD, List.getElem?_eq_getElem h]
  rfl
theorem wv_take_succ (l : List Nat) (k : Nat) (h : k < l.length) : wv (l.take (k + 1)) = wv (l.take k) + 18446744073709551616 ^ k * l.getD k 0 := by
  rw [wtake_succ_getD l k h, wv_append, wv_single, List.length_take, Nat.min_eq_left (by omega)]
theorem wv_take_ge (l : List Nat) (k : Nat) (h : l.length ≤ k) : wv (l.take k) = wv l := by rw [List.take_of_length_le h]
theorem wv_zeros (l : List Nat) (k : Nat) (hk : k ≤ l.length) (h : ∀ i, k ≤ i → i < l.length → l.getD i 0 = 0) : wv (l.take k) = wv l := by
  obtain ⟨m, hm⟩ : ∃ m, l.length = k + m := ⟨l.length - k, by omega⟩
  have aux : ∀ j, j ≤ m → wv (l.take (k + j)) = wv (l.take k) := by
    intro j
    induction j with
    | zero => intro _; rfl
    | succ j ih =>
      intro hj
      rw [← Nat.add_assoc, wv_take_succ l (k + j) (by omega), h (k + j) (by omega) (by omega), Nat.mul_zero, Nat.add_zero, ih (by omega)]
  rw [← aux m (Nat.le_refl _), ← hm, List.take_length]
theorem wv_lt : ∀ l : List Nat, Wrd l → wv l < 18446744073709551616 ^ l.length
  | [], _ => by simp [wv]
  | d :: r, h => by
    have h0 : d < 18446744073709551616 := by simpa using h 0 (by simp)
    have hr : Wrd r := fun i hi => by simpa using h (i + 1) (by simpa using hi)
    have := wv_lt r hr
    simp only [wv, List.length_cons, Nat.pow_succ]
    omega
theorem NoEnd.take_le {l : List Nat} (h : NoEnd l) (hp : 0 < l.length) : 18446744073709551616 ^ (l.length - 1) ≤ wv l := by
  have h1 := wv_take_succ l (l.length - 1) (by omega)
  have h2 : l.getD (l.length - 1) 0 ≠ 0 := h (l.length - 1) (by omega)
  rw [show l.length - 1 + 1 = l.length by omega, List.take_length] at h1
  rw [h1]
  have h3 : 18446744073709551616 ^ (l.length - 1) * 1 ≤ 18446744073709551616 ^ (l.length - 1) * l.getD (l.length - 1) 0 := Nat.mul_le_mul_left _ (by omega)
  omega
theorem wlen_le_of_lt {l : List Nat} {k : Nat} (h : NoEnd l) (hb : wv l < 18446744073709551616 ^ k) : l.length ≤ k := by
  rcases Nat.lt_or_ge k l.length with h' | h'
  · have h1 := h.take_le (by omega)
    have h2 : 18446744073709551616 ^ k ≤ 18446744073709551616 ^ (l.length - 1) := Nat.pow_le_pow_right (by decide) (by omega)
    omega
  · exact h'
theorem wv_lt_of_len {a b : List Nat} (ha : Wrd a) (hb : NoEnd b) (h : a.length < b.length) : wv a < wv b := by
  have h1 := wv_lt a ha
  have h2 := hb.take_le (by omega)
  have h3 : 18446744073709551616 ^ a.length ≤ 18446744073709551616 ^ (b.length - 1) := Nat.pow_le_pow_right (by decide) (by omega)
  omega
/-- Of two of one length, the highest place at which they differ decides. -/
theorem wv_lt_of_place {a b : List Nat} (ha : Wrd a) (k : Nat) (hk : k < a.length) (hl : a.length = b.length) (hs : ∀ i, k < i → i < a.length → a.getD i 0 = b.getD i 0) (hd : a.getD k 0 < b.getD k 0) : wv a < wv b := by
  obtain ⟨m, hm⟩ : ∃ m, a.length = k + 1 + m := ⟨a.length - (k + 1), by omega⟩
  have ht : wv (a.take k) < 18446744073709551616 ^ k := by
    have : Wrd (a.take k) := fun i hi => by
      have hi' : i < k := by simp at hi; omega
      rw [List.getD_eq_getElem?_getD, List.getElem?_take_of_lt hi', ← List.getD_eq_getElem?_getD]
      exact ha i (by omega)
    have h := wv_lt _ this
    rwa [List.length_take, Nat.min_eq_left (by omega)] at h
  have base : wv (a.take (k + 1)) < wv (b.take (k + 1)) := by
    rw [wv_take_succ a k hk, wv_take_succ b k (by omega)]
    have : 18446744073709551616 ^ k * (a.getD k 0 + 1) ≤ 18446744073709551616 ^ k * b.getD k 0 := Nat.mul_le_mul_left _ hd
    rw [Nat.mul_add, Nat.mul_one] at this
    omega
  have aux : ∀ j, j ≤ m → wv (a.take (k + 1 + j)) < wv (b.take (k + 1 + j)) := by
    intro j
    induction j with
    | zero => intro _; exact base
    | succ j ih =>
      intro hj
      rw [← Nat.add_assoc, wv_take_succ a _ (by omega), wv_take_succ b _ (by omega), hs (k + 1 + j) (by omega) (by omega)]
      have := ih (by omega)
      omega
  have := aux m (Nat.le_refl _)
  rwa [← hm, List.take_length, hl, List.take_length] at this
theorem wlist_ext_getD {a b : List Nat} (hl : a.length = b.length) (h : ∀ i, i < a.length → a.getD i 0 = b.getD i 0) : a = b := by
  refine List.ext_getElem hl fun i h1 h2 => ?_
  have := h i h1
  rw [List.getD_eq_getElem?_getD, List.getD_eq_getElem?_getD, List.getElem?_eq_getElem h1, List.getElem?_eq_getElem h2] at this
  simpa using this
theorem wgetD_append_left {l r : List Nat} {i : Nat} (h : i < l.length) : (l ++ r).getD i 0 = l.getD i 0 := by
  rw [List.getD_eq_getElem?_getD, List.getElem?_append_left h, ← List.getD_eq_getElem?_getD]
theorem wgetD_append_last {l : List Nat} {d : Nat} : (l ++ [d]).getD l.length 0 = d := by
  rw [List.getD_eq_getElem?_getD, List.getElem?_append_right (Nat.le_refl _)]
  simp
theorem Wrd.push {l : List Nat} {d : Nat} (h : Wrd l) (hd : d < 18446744073709551616) : Wrd (l ++ [d]) := fun i hi => by
  rcases Nat.lt_or_ge i l.length with h' | h'
  · rw [wgetD_append_left h']; exact h i h'
  · have : i = l.length := by simp at hi; omega
    subst this
    rw [wgetD_append_last]; exact hd
theorem Wrd.take {l : List Nat} (h : Wrd l) (k : Nat) : Wrd (l.take k) := fun i hi => by
  have hi' : i < k ∧ i < l.length := by simp at hi; omega
  rw [List.getD_eq_getElem?_getD, List.getElem?_take_of_lt hi'.1, ← List.getD_eq_getElem?_getD]
  exact h i hi'.2
theorem wgetD_take {l : List Nat} {k i : Nat} (h : i < k) : (l.take k).getD i 0 = l.getD i 0 := by
  rw [List.getD_eq_getElem?_getD, List.getElem?_take_of_lt h, ← List.getD_eq_getElem?_getD]
end Go.Proofs.YtlnhpkmcinohdaaDoor
