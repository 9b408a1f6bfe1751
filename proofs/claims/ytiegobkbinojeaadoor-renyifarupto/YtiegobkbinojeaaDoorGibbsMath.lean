/- GIBBS' inequality of whole numbers: products of powers, where the sums are given. -/
import Derived.Test.YtiegobkbinojeaaDoorInts
namespace Go.Proofs.YtiegobkbinojeaaDoor
def sumA (f : Nat → Nat) : Nat → Nat
  | 0 => 0
  | n + 1 => sumA f n + f n
def prodA (f : Nat → Nat) : Nat → Nat
  | 0 => 1
  | n + 1 => prodA f n * f n
theorem sq_ge (x y : Int) : 0 ≤ (x - y) * (x - y) := by
  rcases Int.le_total x y with h | h
  · have := Int.mul_nonneg (Int.sub_nonneg.2 h) (Int.sub_nonneg.2 h)
    grind
  · exact Int.mul_nonneg (Int.sub_nonneg.2 h) (Int.sub_nonneg.2 h)
theorem sq_gt {x y : Int} (hne : x ≠ y) : 0 < (x - y) * (x - y) := by
  rcases Int.lt_or_gt_of_ne hne with h | h
  · have := Int.mul_pos (Int.sub_pos.2 h) (Int.sub_pos.2 h)
    grind
  · exact Int.mul_pos (Int.sub_pos.2 h) (Int.sub_pos.2 h)
/-- BERNOULLI's inequality of two numbers. -/
theorem bern {u v : Int} (hu : 0 ≤ u) (hv : 0 ≤ v) : ∀ n : Nat, ((n : Int) + 1) * u ^ n * v ≤ v ^ (n + 1) + n * u ^ (n + 1)
  | 0 => by simp [Int.pow_succ]
  | n + 1 => by
    have h := Int.mul_le_mul_of_nonneg_right (bern hu hv n) hv
    have hp := Int.mul_nonneg (Int.pow_nonneg hu : 0 ≤ u ^ n) (Int.mul_nonneg (by omega : 0 ≤ (n : Int) + 1) (sq_ge v u))
    have e1 : u ^ (n + 1 + 1) = u ^ n * u * u := by rw [Int.pow_succ, Int.pow_succ]
    have e2 : v ^ (n + 1 + 1) = v ^ (n + 1) * v := by rw [Int.pow_succ]
    have e3 : u ^ (n + 1) = u ^ n * u := by rw [Int.pow_succ]
    rw [e1, e2, e3]
    rw [e3] at h
    generalize u ^ n = U at *
    generalize v ^ (n + 1) = V at *
    push_cast
    grind
theorem bern_lt {u v : Int} (hu : 0 < u) (hv : 0 ≤ v) (hne : u ≠ v) (n : Nat) : ((n : Int) + 1 + 1) * u ^ (n + 1) * v < v ^ (n + 1 + 1) + (n + 1) * u ^ (n + 1 + 1) := by
  have h := Int.mul_le_mul_of_nonneg_right (bern (Int.le_of_lt hu) hv n) hv
  have hp := Int.mul_pos (Int.pow_pos hu : 0 < u ^ n) (Int.mul_pos (by omega : 0 < (n : Int) + 1) (sq_gt (Ne.symm hne)))
  have e1 : u ^ (n + 1 + 1) = u ^ n * u * u := by rw [Int.pow_succ, Int.pow_succ]
  have e2 : v ^ (n + 1 + 1) = v ^ (n + 1) * v := by rw [Int.pow_succ]
  have e3 : u ^ (n + 1) = u ^ n * u := by rw [Int.pow_succ]
  rw [e1, e2, e3]
  rw [e3] at h
  generalize u ^ n = U at *
  generalize v ^ (n + 1) = V at *
  grind

/-- A number more: the power of the mean. -/
theorem step_le (n S Y : Nat) (hn : 0 < n) : S ^ n * (n + 1) ^ (n + 1) * Y ≤ (S + Y) ^ (n + 1) * n ^ n := by
  have h := bern (u := ((S * (n + 1) : Nat) : Int)) (v := (((S + Y) * n : Nat) : Int)) (by omega) (by omega) n
  have h1 : (S * (n + 1)) ^ n * ((n + 1) * n * Y) ≤ ((S + Y) * n) ^ (n + 1) := by
    refine Int.ofNat_le.1 ?_
    have e : ((S * (n + 1) : Nat) : Int) ^ (n + 1) = ((S * (n + 1) : Nat) : Int) ^ n * ((S : Int) * (n + 1)) := by rw [Int.pow_succ]; simp
    rw [e] at h
    rw [Int.natCast_mul, Int.natCast_pow, Int.natCast_pow]
    generalize ((S * (n + 1) : Nat) : Int) ^ n = U at *
    generalize (((S + Y) * n : Nat) : Int) ^ (n + 1) = V at *
    push_cast at h ⊢
    grind
  rw [Nat.mul_pow, Nat.mul_pow, Nat.pow_succ n n] at h1
  rw [Nat.pow_succ (n + 1) n]
  refine Nat.le_of_mul_le_mul_right ?_ hn
  generalize S ^ n = a at *
  generalize (n + 1) ^ n = b at *
  generalize n ^ n = c at *
  generalize (S + Y) ^ (n + 1) = d at *
  grind
theorem step_lt (n S Y : Nat) (hS : 0 < S) (hne : S ≠ (n + 1) * Y) : S ^ (n + 1) * (n + 1 + 1) ^ (n + 1 + 1) * Y < (S + Y) ^ (n + 1 + 1) * (n + 1) ^ (n + 1) := by
  have h := bern_lt (u := ((S * (n + 1 + 1) : Nat) : Int)) (v := (((S + Y) * (n + 1) : Nat) : Int)) (by have := Nat.mul_pos hS (by omega : 0 < n + 1 + 1); omega) (by omega) (fun e => hne (by
    have e := Int.ofNat_inj.1 e
    grind)) n
  have h1 : (S * (n + 1 + 1)) ^ (n + 1) * ((n + 1 + 1) * (n + 1) * Y) < ((S + Y) * (n + 1)) ^ (n + 1 + 1) := by
    refine Int.ofNat_lt.1 ?_
    have e : ((S * (n + 1 + 1) : Nat) : Int) ^ (n + 1 + 1) = ((S * (n + 1 + 1) : Nat) : Int) ^ (n + 1) * ((S : Int) * (n + 1 + 1)) := by rw [Int.pow_succ]; simp
    rw [e] at h
    rw [Int.natCast_mul, Int.natCast_pow, Int.natCast_pow]
    generalize ((S * (n + 1 + 1) : Nat) : Int) ^ (n + 1) = U at *
    generalize (((S + Y) * (n + 1) : Nat) : Int) ^ (n + 1 + 1) = V at *
    push_cast at h ⊢
    grind
  rw [Nat.mul_pow, Nat.mul_pow, Nat.pow_succ (n + 1) (n + 1)] at h1
  rw [Nat.pow_succ (n + 1 + 1) (n + 1)]
  refine Nat.lt_of_mul_lt_mul_right (a := n + 1) ?_
  generalize S ^ (n + 1) = a at *
  generalize (n + 1 + 1) ^ (n + 1) = b at *
  generalize (n + 1) ^ (n + 1) = c at *
  generalize (S + Y) ^ (n + 1 + 1) = d at *
  grind
theorem self_pos (n : Nat) : 0 < n ^ n := by
  rcases Nat.eq_zero_or_pos n with h | h
  · subst h; decide
  · exact Nat.pow_pos h
/-- A copies of X and a of Y: their product is at most the power of their mean. -/
theorem two_le (A X Y : Nat) : ∀ a : Nat, (A + a) ^ (A + a) * (X ^ A * Y ^ a) ≤ (A * X + a * Y) ^ (A + a)
  | 0 => by simp [Nat.mul_pow]
  | a + 1 => by
    have ih := two_le A X Y a
    rcases Nat.eq_zero_or_pos (A + a) with h0 | h0
    · obtain rfl : A = 0 := by omega
      obtain rfl : a = 0 := by omega
      simp
    · have h := step_le (A + a) (A * X + a * Y) Y h0
      have e1 : A * X + (a + 1) * Y = A * X + a * Y + Y := by grind
      rw [e1, ← Nat.add_assoc, Nat.pow_succ Y a]
      refine Nat.le_of_mul_le_mul_right (c := (A + a) ^ (A + a)) ?_ (self_pos _)
      refine Nat.le_trans ?_ h
      have h2 := Nat.mul_le_mul_right ((A + a + 1) ^ (A + a + 1) * Y) ih
      generalize (A + a + 1) ^ (A + a + 1) = p at *
      generalize (A + a) ^ (A + a) = r at *
      generalize (A * X + a * Y) ^ (A + a) = t at *
      generalize X ^ A = x at *
      generalize Y ^ a = y at *
      grind
theorem two_lt (A X Y : Nat) (hA : 0 < A) (hne : X ≠ Y) : ∀ a : Nat, (A + (a + 1)) ^ (A + (a + 1)) * (X ^ A * Y ^ (a + 1)) < (A * X + (a + 1) * Y) ^ (A + (a + 1)) := fun a => by
  rcases Nat.eq_zero_or_pos Y with hy | hy
  · subst hy
    have : 0 < A * X := Nat.mul_pos hA (by omega)
    simp only [Nat.pow_succ, Nat.mul_zero, Nat.add_zero]
    exact Nat.pow_pos this
  rcases Nat.eq_zero_or_pos X with hx | hx
  · subst hx
    rw [Nat.zero_pow hA]
    have : 0 < (a + 1) * Y := Nat.mul_pos (by omega) hy
    simp only [Nat.mul_zero, Nat.zero_mul, Nat.zero_add]
    exact Nat.pow_pos this
  induction a with
  | zero =>
    obtain ⟨n, rfl⟩ : ∃ n, A = n + 1 := ⟨A - 1, by omega⟩
    have h := step_lt n ((n + 1) * X) Y (Nat.mul_pos hA hx) (fun e => hne (Nat.eq_of_mul_eq_mul_left hA e))
    have e1 : (n + 1) * X + (0 + 1) * Y = (n + 1) * X + Y := by omega
    rw [e1, Nat.zero_add]
    refine Nat.lt_of_mul_lt_mul_right (a := (n + 1) ^ (n + 1)) ?_
    refine Nat.lt_of_le_of_lt ?_ h
    rw [Nat.mul_pow, Nat.pow_one]
    generalize (n + 1) ^ (n + 1) = r at *
    generalize (n + 1 + 1) ^ (n + 1 + 1) = p at *
    generalize X ^ (n + 1) = x at *
    grind
  | succ a ih =>
    have h := step_le (A + (a + 1)) (A * X + (a + 1) * Y) Y (by omega)
    have e1 : A * X + (a + 1 + 1) * Y = A * X + (a + 1) * Y + Y := by grind
    rw [e1, ← Nat.add_assoc A (a + 1) 1, Nat.pow_succ Y (a + 1)]
    refine Nat.lt_of_mul_lt_mul_right (a := (A + (a + 1)) ^ (A + (a + 1))) ?_
    refine Nat.lt_of_lt_of_le ?_ h
    have h2 := Nat.mul_lt_mul_of_pos_right ih (Nat.mul_pos (self_pos (A + (a + 1) + 1)) hy)
    generalize (A + (a + 1) + 1) ^ (A + (a + 1) + 1) = p at *
    generalize (A + (a + 1)) ^ (A + (a + 1)) = r at *
    generalize (A * X + (a + 1) * Y) ^ (A + (a + 1)) = t at *
    generalize X ^ A = x at *
    generalize Y ^ (a + 1) = y at *
    grind

/-- Two terms of the logarithms' sum. -/
theorem sum2_le (A a B b : Nat) : (A + a) ^ (A + a) * (B ^ A * b ^ a) ≤ (B + b) ^ (A + a) * (A ^ A * a ^ a) := by
  rcases Nat.eq_zero_or_pos A with hA | hA
  · subst hA
    have := Nat.pow_le_pow_left (show b ≤ B + b by omega) a
    simp only [Nat.zero_add, Nat.pow_zero, Nat.one_mul]
    rw [Nat.mul_comm]
    exact Nat.mul_le_mul_right _ this
  rcases Nat.eq_zero_or_pos a with ha | ha
  · subst ha
    have := Nat.pow_le_pow_left (show B ≤ B + b by omega) A
    simp only [Nat.add_zero, Nat.pow_zero, Nat.mul_one]
    rw [Nat.mul_comm]
    exact Nat.mul_le_mul_right _ this
  have h := two_le A (B * a) (b * A) a
  have e1 : A * (B * a) + a * (b * A) = (A * a) * (B + b) := by grind
  rw [e1, Nat.mul_pow, Nat.mul_pow, Nat.mul_pow (A * a), Nat.mul_pow A a] at h
  have e2 : A ^ (A + a) = A ^ A * A ^ a := Nat.pow_add ..
  have e3 : a ^ (A + a) = a ^ A * a ^ a := Nat.pow_add ..
  rw [e2, e3] at h
  refine Nat.le_of_mul_le_mul_right (c := A ^ a * a ^ A) ?_ (Nat.mul_pos (Nat.pow_pos hA) (Nat.pow_pos ha))
  generalize A ^ a = t1 at *
  generalize a ^ A = t2 at *
  generalize (A + a) ^ (A + a) = t3 at *
  generalize (B + b) ^ (A + a) = t4 at *
  generalize A ^ A = t5 at *
  generalize a ^ a = t6 at *
  generalize B ^ A = t7 at *
  generalize b ^ a = t8 at *
  grind
theorem sum2_lt {A a B b : Nat} (hA : 0 < A) (hne : B * a ≠ b * A) : (A + a) ^ (A + a) * (B ^ A * b ^ a) < (B + b) ^ (A + a) * (A ^ A * a ^ a) := by
  rcases Nat.eq_zero_or_pos a with ha | ha
  · subst ha
    have hb : 0 < b := Nat.pos_of_ne_zero fun e => hne (by subst e; simp)
    have := Nat.pow_lt_pow_left (show B < B + b by omega) (Nat.pos_iff_ne_zero.1 hA)
    simp only [Nat.add_zero, Nat.pow_zero, Nat.mul_one]
    rw [Nat.mul_comm]
    exact Nat.mul_lt_mul_of_pos_right this (Nat.pow_pos hA)
  obtain ⟨c, rfl⟩ : ∃ c, a = c + 1 := ⟨a - 1, by omega⟩
  have h := two_lt A (B * (c + 1)) (b * A) hA hne c
  have e1 : A * (B * (c + 1)) + (c + 1) * (b * A) = (A * (c + 1)) * (B + b) := by grind
  rw [e1, Nat.mul_pow, Nat.mul_pow, Nat.mul_pow (A * (c + 1)), Nat.mul_pow A (c + 1)] at h
  have e2 : A ^ (A + (c + 1)) = A ^ A * A ^ (c + 1) := Nat.pow_add ..
  have e3 : (c + 1) ^ (A + (c + 1)) = (c + 1) ^ A * (c + 1) ^ (c + 1) := Nat.pow_add ..
  rw [e2, e3] at h
  refine Nat.lt_of_mul_lt_mul_right (a := A ^ (c + 1) * (c + 1) ^ A) ?_
  generalize A ^ (c + 1) = t1 at *
  generalize (c + 1) ^ A = t2 at *
  generalize (A + (c + 1)) ^ (A + (c + 1)) = t3 at *
  generalize (B + b) ^ (A + (c + 1)) = t4 at *
  generalize A ^ A = t5 at *
  generalize (c + 1) ^ (c + 1) = t6 at *
  generalize B ^ A = t7 at *
  generalize b ^ (c + 1) = t8 at *
  grind
theorem prod_pos {f : Nat → Nat} : ∀ {n : Nat}, (∀ i, i < n → 0 < f i) → 0 < prodA f n
  | 0, _ => by simp [prodA]
  | n + 1, h => Nat.mul_pos (prod_pos fun i hi => h i (by omega)) (h n (by omega))
theorem sum_zero {f : Nat → Nat} : ∀ {n : Nat}, sumA f n = 0 → ∀ i, i < n → f i = 0
  | 0, _, i, hi => by omega
  | n + 1, h, i, hi => by
    simp only [sumA] at h
    rcases Nat.lt_or_ge i n with h1 | h1
    · exact sum_zero (n := n) (by omega) i h1
    · obtain rfl : i = n := by omega
      omega
/-- The sum of logarithms (GIBBS). -/
theorem sums_le (a b : Nat → Nat) : ∀ n : Nat, sumA a n ^ sumA a n * prodA (fun i => b i ^ a i) n ≤ sumA b n ^ sumA a n * prodA (fun i => a i ^ a i) n
  | 0 => by simp [sumA, prodA]
  | n + 1 => by
    have ih := sums_le a b n
    have h2 := sum2_le (sumA a n) (a n) (sumA b n) (b n)
    simp only [sumA, prodA]
    refine Nat.le_of_mul_le_mul_right (c := sumA a n ^ sumA a n) ?_ (self_pos _)
    have h3 := Nat.mul_le_mul_right ((sumA a n + a n) ^ (sumA a n + a n) * b n ^ a n) ih
    have h4 := Nat.mul_le_mul_right (prodA (fun i => a i ^ a i) n) h2
    generalize (sumA a n + a n) ^ (sumA a n + a n) = t1 at *
    generalize (sumA b n + b n) ^ (sumA a n + a n) = t2 at *
    generalize sumA a n ^ sumA a n = t3 at *
    generalize sumA b n ^ sumA a n = t4 at *
    generalize prodA (fun i => a i ^ a i) n = t5 at *
    generalize prodA (fun i => b i ^ a i) n = t6 at *
    generalize b n ^ a n = t7 at *
    generalize a n ^ a n = t8 at *
    grind
theorem sums_eq {a b : Nat → Nat} : ∀ {n : Nat}, (∀ i, i < n → 0 < a i → 0 < b i) → sumA a n ^ sumA a n * prodA (fun i => b i ^ a i) n = sumA b n ^ sumA a n * prodA (fun i => a i ^ a i) n → ∀ i, i < n → a i * sumA b n = b i * sumA a n
  | 0, _, _, i, hi => by omega
  | n + 1, hs, h, i, hi => by
    have ih := sums_le a b n
    have h2 := sum2_le (sumA a n) (a n) (sumA b n) (b n)
    have hb : 0 < b n ^ a n := by
      rcases Nat.eq_zero_or_pos (a n) with h0 | h0
      · rw [h0]; simp
      · exact Nat.pow_pos (hs n (by omega) h0)
    have hR : 0 < prodA (fun i => a i ^ a i) n := prod_pos fun i _ => self_pos _
    have hA' := self_pos (sumA a n + a n)
    have hA0 := self_pos (sumA a n)
    have hall : sumA a n ^ sumA a n * prodA (fun i => b i ^ a i) n = sumA b n ^ sumA a n * prodA (fun i => a i ^ a i) n ∧ (sumA a n + a n) ^ (sumA a n + a n) * (sumA b n ^ sumA a n * b n ^ a n) = (sumA b n + b n) ^ (sumA a n + a n) * (sumA a n ^ sumA a n * a n ^ a n) := by
      simp only [sumA, prodA] at h
      have h3 := Nat.mul_le_mul_right ((sumA a n + a n) ^ (sumA a n + a n) * b n ^ a n) ih
      have h4 := Nat.mul_le_mul_right (prodA (fun i => a i ^ a i) n) h2
      have h5 := congrArg (· * sumA a n ^ sumA a n) h
      have hp := Nat.mul_pos hA' hb
      generalize (sumA a n + a n) ^ (sumA a n + a n) = t1 at *
      generalize (sumA b n + b n) ^ (sumA a n + a n) = t2 at *
      generalize sumA a n ^ sumA a n = t3 at *
      generalize sumA b n ^ sumA a n = t4 at *
      generalize prodA (fun i => a i ^ a i) n = t5 at *
      generalize prodA (fun i => b i ^ a i) n = t6 at *
      generalize b n ^ a n = t7 at *
      generalize a n ^ a n = t8 at *
      have e1 : t3 * t6 * (t1 * t7) = t4 * t5 * (t1 * t7) := by grind
      have e2 : t1 * (t4 * t7) * t5 = t2 * (t3 * t8) * t5 := by grind
      exact ⟨Nat.eq_of_mul_eq_mul_right hp e1, Nat.eq_of_mul_eq_mul_right hR e2⟩
    have hI := sums_eq (n := n) (fun i hi => hs i (by omega)) hall.1
    simp only [sumA]
    rcases Nat.eq_zero_or_pos (sumA a n) with h0 | h0
    · have hz := sum_zero h0
      have h6 := hall.2
      rw [h0] at h6 ⊢
      simp only [Nat.zero_add, Nat.pow_zero, Nat.one_mul] at h6 ⊢
      have h7 : b n ^ a n = (sumA b n + b n) ^ a n := by
        rw [Nat.mul_comm] at h6
        exact Nat.eq_of_mul_eq_mul_right (self_pos _) h6
      have h8 : a n = 0 ∨ sumA b n = 0 := by
        rcases Nat.eq_zero_or_pos (a n) with h1 | h1
        · exact Or.inl h1
        · refine Or.inr ?_
          rcases Nat.eq_zero_or_pos (sumA b n) with h9 | h9
          · exact h9
          · have := Nat.pow_lt_pow_left (show b n < sumA b n + b n by omega) (Nat.pos_iff_ne_zero.1 h1)
            omega
      rcases Nat.lt_or_ge i n with h1 | h1
      · rw [hz i h1]
        rcases h8 with h8 | h8
        · rw [h8]; simp
        · rw [sum_zero h8 i h1]; simp
      · obtain rfl : i = n := by omega
        rcases h8 with h8 | h8
        · rw [h8]; simp
        · rw [h8, Nat.zero_add, Nat.mul_comm]
    · have he : sumA b n * a n = b n * sumA a n := by
        rcases Nat.decEq (sumA b n * a n) (b n * sumA a n) with h1 | h1
        · have := sum2_lt h0 h1
          omega
        · exact h1
      rcases Nat.lt_or_ge i n with h1 | h1
      · have hi1 := hI i h1
        have h9 : a i * b n = b i * a n := by
          refine Nat.eq_of_mul_eq_mul_right h0 ?_
          grind
        grind
      · obtain rfl : i = n := by omega
        grind
end Go.Proofs.YtiegobkbinojeaaDoor
