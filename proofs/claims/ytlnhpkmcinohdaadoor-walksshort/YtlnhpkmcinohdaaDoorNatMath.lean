/- Sums, differences and products of words; a quotient bit by bit; a fraction put together out of quotients: plain lists and numbers. -/
import Derived.Test.YtlnhpkmcinohdaaDoorWordMath
namespace Go.Proofs.YtlnhpkmcinohdaaDoor

theorem wv_take_next (l : List Nat) (k : Nat) : wv (l.take (k + 1)) = wv (l.take k) + 18446744073709551616 ^ k * l.getD k 0 := by
  rcases Nat.lt_or_ge k l.length with h | h
  · exact wv_take_succ l k h
  · rw [List.take_of_length_le (by omega), List.take_of_length_le h, List.getD_eq_getElem?_getD, List.getElem?_eq_none h]; simp

/-- A sum, word by word. -/
theorem plus_step {l x y : List Nat} {k c t : Nat} (hl : l.length = k) (ht : t = x.getD k 0 + y.getD k 0 + c) (h : wv l + 18446744073709551616 ^ k * c = wv (x.take k) + wv (y.take k)) :
    wv (l ++ [t % 18446744073709551616]) + 18446744073709551616 ^ (k + 1) * (t / 18446744073709551616) = wv (x.take (k + 1)) + wv (y.take (k + 1)) := by
  rw [wv_append, wv_single, hl, Nat.pow_succ, Nat.add_assoc, Nat.mul_assoc, ← Nat.mul_add, Nat.mod_add_div, wv_take_next x k, wv_take_next y k, ht, Nat.mul_add, Nat.mul_add]
  omega

/-- A word put at a place. -/
theorem wv_set : ∀ (l : List Nat) (j d : Nat), j < l.length → wv (l.set j d) + 18446744073709551616 ^ j * l.getD j 0 = wv l + 18446744073709551616 ^ j * d
  | [], j, d, h => by simp at h
  | a :: r, 0, d, h => by simp [wv]; omega
  | a :: r, j + 1, d, h => by
    have := wv_set r j d (by simpa using h)
    simp only [List.set_cons_succ, wv, List.getD_cons_succ, Nat.pow_succ]
    have e1 : 18446744073709551616 ^ j * 18446744073709551616 * r.getD j 0 = 18446744073709551616 * (18446744073709551616 ^ j * r.getD j 0) := by grind
    have e2 : 18446744073709551616 ^ j * 18446744073709551616 * d = 18446744073709551616 * (18446744073709551616 ^ j * d) := by grind
    rw [e1, e2]
    omega
theorem getD_set (l : List Nat) (j d i : Nat) (hj : j < l.length) : (l.set j d).getD i 0 = if i = j then d else l.getD i 0 := by
  rw [List.getD_eq_getElem?_getD, List.getD_eq_getElem?_getD, List.getElem?_set]
  by_cases h : j = i
  · subst h; simp [hj]
  · simp [h, show ¬ i = j from fun e => h e.symm]
theorem Wrd.set {l : List Nat} (h : Wrd l) (j d : Nat) (hj : j < l.length) (hd : d < 18446744073709551616) : Wrd (l.set j d) := fun i hi => by
  rw [getD_set l j d i hj]
  split
  · exact hd
  · exact h i (by simpa using hi)

/-- A difference, word by word: of words from the left, at which a word is put. -/
theorem minus_step {l x y : List Nat} {k c : Nat} (hl : l.length = k) (hc : c ≤ 1) (hx : x.getD k 0 < 18446744073709551616) (hy : y.getD k 0 < 18446744073709551616) (h : wv l + wv (y.take k) = wv (x.take k) + 18446744073709551616 ^ k * c) :
    wv (l ++ [(x.getD k 0 + 18446744073709551616 + 18446744073709551616 - y.getD k 0 - c) % 18446744073709551616]) + wv (y.take (k + 1)) = wv (x.take (k + 1)) + 18446744073709551616 ^ (k + 1) * (if x.getD k 0 < y.getD k 0 + c then 1 else 0) := by
  rw [wv_append, wv_single, hl, wv_take_next x k, wv_take_next y k, Nat.pow_succ]
  generalize x.getD k 0 = p at *
  generalize y.getD k 0 = q at *
  generalize 18446744073709551616 ^ k = B at *
  have key : (p + 18446744073709551616 + 18446744073709551616 - q - c) % 18446744073709551616 + q + c = p + 18446744073709551616 * (if p < q + c then 1 else 0) := by split <;> omega
  have k2 := congrArg (B * ·) key
  simp only [Nat.mul_add] at k2
  rw [Nat.mul_assoc]
  omega

/-- Noughts at the end are taken away. -/
theorem wv_drop_nought {l : List Nat} {k : Nat} (hl : l.length = k + 1) (h : l.getD k 0 = 0) : wv (l.take k) = wv l := by
  have := wv_take_next l k
  rw [h, Nat.mul_zero, Nat.add_zero, List.take_of_length_le (by omega)] at this
  exact this.symm

/-- A product, word by word: one word of the one times one of the other, put to what lies there. -/
theorem by_parts {p q o c : Nat} (hp : p < 18446744073709551616) (hq : q < 18446744073709551616) (ho : o < 18446744073709551616) (hc : c < 18446744073709551616) :
    ((p * q % 18446744073709551616 + o) % 18446744073709551616 + c) % 18446744073709551616 + 18446744073709551616 * (p * q / 18446744073709551616 + (p * q % 18446744073709551616 + o) / 18446744073709551616 + ((p * q % 18446744073709551616 + o) % 18446744073709551616 + c) / 18446744073709551616) = p * q + o + c ∧
    p * q / 18446744073709551616 + (p * q % 18446744073709551616 + o) / 18446744073709551616 + ((p * q % 18446744073709551616 + o) % 18446744073709551616 + c) / 18446744073709551616 < 18446744073709551616 := by
  have h := Nat.mul_le_mul (show p ≤ 18446744073709551615 by omega) (show q ≤ 18446744073709551615 by omega)
  generalize p * q = z at *
  omega
theorem by_step {l x : List Nat} {P q i k c lo hi o : Nat} (hl : i + k < l.length) (ho : o = l.getD (i + k) 0) (hs : lo + 18446744073709551616 * hi = x.getD k 0 * q + o + c)
    (h : wv l + 18446744073709551616 ^ (i + k) * c = P + 18446744073709551616 ^ i * (wv (x.take k) * q)) :
    wv (l.set (i + k) lo) + 18446744073709551616 ^ (i + (k + 1)) * hi = P + 18446744073709551616 ^ i * (wv (x.take (k + 1)) * q) := by
  have h1 := wv_set l (i + k) lo hl
  rw [← ho] at h1
  rw [wv_take_next x k]
  have e1 : 18446744073709551616 ^ (i + (k + 1)) * hi = 18446744073709551616 ^ (i + k) * (18446744073709551616 * hi) := by rw [← Nat.add_assoc, Nat.pow_succ, Nat.mul_assoc]
  have e2 : 18446744073709551616 ^ i * ((wv (x.take k) + 18446744073709551616 ^ k * x.getD k 0) * q) = 18446744073709551616 ^ i * (wv (x.take k) * q) + 18446744073709551616 ^ (i + k) * (x.getD k 0 * q) := by rw [Nat.pow_add]; grind
  have e3 := congrArg (18446744073709551616 ^ (i + k) * ·) hs
  simp only [Nat.mul_add] at e3
  rw [e1, e2]
  omega
theorem by_row {l x y : List Nat} {i c : Nat} (hl : i + x.length < l.length) (ho : l.getD (i + x.length) 0 = 0)
    (h : wv l + 18446744073709551616 ^ (i + x.length) * c = wv x * wv (y.take i) + 18446744073709551616 ^ i * (wv x * y.getD i 0)) :
    wv (l.set (i + x.length) c) = wv x * wv (y.take (i + 1)) := by
  have h1 := wv_set l (i + x.length) c hl
  rw [ho] at h1
  rw [wv_take_next y i]
  have e2 : wv x * (wv (y.take i) + 18446744073709551616 ^ i * y.getD i 0) = wv x * wv (y.take i) + 18446744073709551616 ^ i * (wv x * y.getD i 0) := by grind
  omega
theorem noEnd_by {x y l : List Nat} (hx : NoEnd x) (hy : NoEnd y) (hx0 : 0 < x.length) (hy0 : 0 < y.length) (h : wv l = wv x * wv y) : 18446744073709551616 ^ (x.length + y.length - 2) ≤ wv l := by
  have h1 := hx.take_le hx0
  have h2 := hy.take_le hy0
  have h3 := Nat.mul_le_mul h1 h2
  rw [← Nat.pow_add, show x.length - 1 + (y.length - 1) = x.length + y.length - 2 by omega] at h3
  rw [h]; exact h3

/-- A bit more of a quotient. -/
theorem or_bit {T j : Nat} (h : 2 ^ (j + 1) ∣ T) : T ||| 2 ^ j = T + 2 ^ j := by
  obtain ⟨c, rfl⟩ := h
  have := Nat.two_pow_add_eq_or_of_lt (b := 2 ^ j) (i := j + 1) (Nat.pow_lt_pow_right (by decide) (by omega)) c
  rw [this]
theorem over_step {a b cur T j : Nat} (h1 : cur + T * b = a) (h2 : cur < b * 2 ^ (j + 1)) (h3 : 2 ^ (j + 1) ∣ T) :
    (b * 2 ^ j ≤ cur → (cur - b * 2 ^ j) + (T + 2 ^ j) * b = a ∧ cur - b * 2 ^ j < b * 2 ^ j ∧ 2 ^ j ∣ T + 2 ^ j) ∧ (¬ b * 2 ^ j ≤ cur → cur < b * 2 ^ j ∧ 2 ^ j ∣ T) := by
  rw [Nat.pow_succ] at h2 h3
  refine ⟨fun h => ⟨?_, by rw [← Nat.mul_assoc] at h2; omega, Nat.dvd_add (Nat.dvd_trans (Nat.dvd_mul_right _ 2) h3) (Nat.dvd_refl _)⟩, fun h => ⟨by omega, Nat.dvd_trans (Nat.dvd_mul_right _ 2) h3⟩⟩
  rw [Nat.add_mul, Nat.mul_comm (2 ^ j) b]
  omega
theorem over_end {a b cur T : Nat} (h1 : cur + T * b = a) (h2 : cur < b) : T = a / b ∧ cur = a % b := by
  subst h1
  have hb : 0 < b := by omega
  constructor
  · rw [Nat.add_mul_div_right _ _ hb, Nat.div_eq_of_lt h2]; omega
  · rw [Nat.add_mul_mod_self_right, Nat.mod_eq_of_lt h2]

/-- What is left of a fraction, and what is put together: the two together are the fraction. -/
structure Cont (N D num den p0 q0 p1 q1 : Nat) : Prop where
  up : N = p1 * num + p0 * den
  dn : D = q1 * num + q0 * den
  det : p1 * q0 = p0 * q1 + 1 ∨ p0 * q1 = p1 * q0 + 1
  len : (p0 = 0 ∧ q0 = 1 ∧ p1 = 1 ∧ q1 = 0 ∧ num = N ∧ den = D) ∨ (den < num ∧ 1 ≤ q1 ∧ (1 ≤ p1 ∨ (p1 = 0 ∧ p0 = 1)))
theorem cont_start (N D : Nat) : Cont N D N D 0 1 1 0 := ⟨by simp, by simp, Or.inl (by simp), Or.inl ⟨rfl, rfl, rfl, rfl, rfl, rfl⟩⟩
theorem cont_step {N D num den p0 q0 p1 q1 : Nat} (h : Cont N D num den p0 q0 p1 q1) (hd : 0 < den) :
    Cont N D den (num % den) p1 q1 (num / den * p1 + p0) (num / den * q1 + q0) := by
  have hm := Nat.div_add_mod num den
  have hlt := Nat.mod_lt num hd
  obtain ⟨h1, h2, h3, h4⟩ := h
  generalize num / den = t at *
  generalize num % den = r at *
  refine ⟨?_, ?_, ?_, Or.inr ⟨hlt, ?_⟩⟩
  · rw [h1, ← hm]; grind
  · rw [h2, ← hm]; grind
  · rcases h3 with h3 | h3
    · right; grind
    · left; grind
  · rcases h4 with ⟨rfl, rfl, rfl, rfl, _, _⟩ | ⟨h5, h6, h7⟩
    · refine ⟨by omega, ?_⟩
      rcases Nat.eq_zero_or_pos t with h0 | h0
      · right; subst h0; simp
      · left; omega
    · have ht : 1 ≤ t := by
        rcases Nat.eq_zero_or_pos t with h0 | h0
        · subst h0; omega
        · exact h0
      refine ⟨by have := Nat.mul_le_mul ht h6; omega, ?_⟩
      left
      rcases h7 with h7 | ⟨rfl, rfl⟩
      · have := Nat.mul_le_mul ht h7; omega
      · omega
/-- At the end it is in its lowest terms. -/
theorem cont_end {N D num p0 q0 p1 q1 : Nat} (hD : 0 < D) (h : Cont N D num 0 p0 q0 p1 q1) : p1 = N / Nat.gcd N D ∧ q1 = D / Nat.gcd N D ∧ 0 < q1 := by
  obtain ⟨h1, h2, h3, h4⟩ := h
  rw [Nat.mul_zero, Nat.add_zero] at h1 h2
  have hco : Nat.gcd p1 q1 = 1 := by
    apply Nat.eq_one_of_dvd_one
    have d1 := Nat.gcd_dvd_left p1 q1
    have d2 := Nat.gcd_dvd_right p1 q1
    rcases h3 with h3 | h3
    · have e : 1 = p1 * q0 - p0 * q1 := by omega
      rw [e]
      exact Nat.dvd_sub (Nat.dvd_mul_right_of_dvd d1 _) (Nat.dvd_mul_left_of_dvd d2 _)
    · have e : 1 = p0 * q1 - p1 * q0 := by omega
      rw [e]
      exact Nat.dvd_sub (Nat.dvd_mul_left_of_dvd d2 _) (Nat.dvd_mul_right_of_dvd d1 _)
  have hnum : 0 < num := by
    rcases Nat.eq_zero_or_pos num with h0 | h0
    · subst h0; simp at h2; omega
    · exact h0
  have hg : Nat.gcd N D = num := by rw [h1, h2, Nat.gcd_mul_right, hco, Nat.one_mul]
  rw [hg]
  refine ⟨by rw [h1, Nat.mul_div_cancel _ hnum], by rw [h2, Nat.mul_div_cancel _ hnum], ?_⟩
  rcases Nat.eq_zero_or_pos q1 with h0 | h0
  · subst h0; simp at h2; omega
  · exact h0
/-- What is put together never shrinks: if it is too great on the way, it is at the end. -/
theorem cont_great {N D M : Nat} (hM : 1 ≤ M) : ∀ {den num p0 q0 p1 q1 : Nat}, Cont N D num den p0 q0 p1 q1 → 0 < D → (M < p1 ∨ M < q1) → M < N / Nat.gcd N D ∨ M < D / Nat.gcd N D := by
  intro den
  induction den using Nat.strongRecOn with
  | _ den ih =>
    intro num p0 q0 p1 q1 h hD hg
    rcases Nat.eq_zero_or_pos den with h0 | h0
    · subst h0
      obtain ⟨e1, e2, _⟩ := cont_end hD h
      rw [← e1, ← e2]; exact hg
    · have hs := cont_step h h0
      refine ih _ (Nat.mod_lt _ h0) hs hD ?_
      rcases h.len with ⟨rfl, rfl, rfl, rfl, _, _⟩ | ⟨h5, h6, h7⟩
      · omega
      · have ht : 1 ≤ num / den := (Nat.one_le_div_iff h0).2 (by omega)
        rcases hg with hg | hg
        · left; have := Nat.mul_le_mul ht (Nat.le_refl p1); omega
        · right; have := Nat.mul_le_mul ht (Nat.le_refl q1); omega
/-- A quotient that is too great alone. -/
theorem cont_times {N D M num den p0 q0 p1 q1 : Nat} (hM : 1 ≤ M) (h : Cont N D num den p0 q0 p1 q1) (hd : 0 < den) (hD : 0 < D) (ht : M < num / den) : M < N / Nat.gcd N D ∨ M < D / Nat.gcd N D := by
  refine cont_great hM (cont_step h hd) hD ?_
  rcases h.len with ⟨rfl, rfl, rfl, rfl, _, _⟩ | ⟨h5, h6, h7⟩
  · left; omega
  · right; have := Nat.mul_le_mul (Nat.le_refl (num / den)) h6; omega
end Go.Proofs.YtlnhpkmcinohdaaDoor
