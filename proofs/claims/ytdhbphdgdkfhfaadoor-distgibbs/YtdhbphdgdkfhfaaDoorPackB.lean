/- GIBBS' inequality of whole numbers: products of powers, where the sums are given. -/
import Derived.Test.YtdhbphdgdkfhfaaDoorInts
import Derived.Test.YtdhbphdgdkfhfaaDoorPackA
import Derived.Test.YtdhbphdgdkfhfaaDoorPutEnt
import Derived.Test.YtdhbphdgdkfhfaaDoorValidWalk
import Derived.Deep.QuietTactic
import Derived.BigQuiet
import Derived.Test.YtdhbphdgdkfhfaaDoorWeights
import Derived.Test.YtdhbphdgdkfhfaaDoorBig
import Derived.Test.YtdhbphdgdkfhfaaDoorCode
namespace Go.Proofs.YtdhbphdgdkfhfaaDoor
def sumA (f : Nat → Nat) : Nat → Nat
  | 0 => 0
  | n + 1 => sumA f n + f n
def prodA (f : Nat → Nat) : Nat → Nat
  | 0 => 1
  | n + 1 => prodA f n * f n
theorem sq_ge (x y : Int) : 0 ≤ (x - y) * (x - y) := by
  rcases Int.le_total x y with h | h
  · have := Int.mul_nonneg (Int.sub_nonneg.2 h) (Int.sub_nonneg.2 h)
    grind
  · exact Int.mul_nonneg (Int.sub_nonneg.2 h) (Int.sub_nonneg.2 h)
theorem sq_gt {x y : Int} (hne : x ≠ y) : 0 < (x - y) * (x - y) := by
  rcases Int.lt_or_gt_of_ne hne with h | h
  · have := Int.mul_pos (Int.sub_pos.2 h) (Int.sub_pos.2 h)
    grind
  · exact Int.mul_pos (Int.sub_pos.2 h) (Int.sub_pos.2 h)
/-- BERNOULLI's inequality of two numbers. -/
theorem bern {u v : Int} (hu : 0 ≤ u) (hv : 0 ≤ v) : ∀ n : Nat, ((n : Int) + 1) * u ^ n * v ≤ v ^ (n + 1) + n * u ^ (n + 1)
  | 0 => by simp [Int.pow_succ]
  | n + 1 => by
    have h := Int.mul_le_mul_of_nonneg_right (bern hu hv n) hv
    have hp := Int.mul_nonneg (Int.pow_nonneg hu : 0 ≤ u ^ n) (Int.mul_nonneg (by omega : 0 ≤ (n : Int) + 1) (sq_ge v u))
    have e1 : u ^ (n + 1 + 1) = u ^ n * u * u := by rw [Int.pow_succ, Int.pow_succ]
    have e2 : v ^ (n + 1 + 1) = v ^ (n + 1) * v := by rw [Int.pow_succ]
    have e3 : u ^ (n + 1) = u ^ n * u := by rw [Int.pow_succ]
    rw [e1, e2, e3]
    rw [e3] at h
    generalize u ^ n = U at *
    generalize v ^ (n + 1) = V at *
    push_cast
    grind
theorem bern_lt {u v : Int} (hu : 0 < u) (hv : 0 ≤ v) (hne : u ≠ v) (n : Nat) : ((n : Int) + 1 + 1) * u ^ (n + 1) * v < v ^ (n + 1 + 1) + (n + 1) * u ^ (n + 1 + 1) := by
  have h := Int.mul_le_mul_of_nonneg_right (bern (Int.le_of_lt hu) hv n) hv
  have hp := Int.mul_pos (Int.pow_pos hu : 0 < u ^ n) (Int.mul_pos (by omega : 0 < (n : Int) + 1) (sq_gt (Ne.symm hne)))
  have e1 : u ^ (n + 1 + 1) = u ^ n * u * u := by rw [Int.pow_succ, Int.pow_succ]
  have e2 : v ^ (n + 1 + 1) = v ^ (n + 1) * v := by rw [Int.pow_succ]
  have e3 : u ^ (n + 1) = u ^ n * u := by rw [Int.pow_succ]
  rw [e1, e2, e3]
  rw [e3] at h
  generalize u ^ n = U at *
  generalize v ^ (n + 1) = V at *
  grind

/-- A number more: the power of the mean. -/
theorem step_le (n S Y : Nat) (hn : 0 < n) : S ^ n * (n + 1) ^ (n + 1) * Y ≤ (S + Y) ^ (n + 1) * n ^ n := by
  have h := bern (u := ((S * (n + 1) : Nat) : Int)) (v := (((S + Y) * n : Nat) : Int)) (by omega) (by omega) n
  have h1 : (S * (n + 1)) ^ n * ((n + 1) * n * Y) ≤ ((S + Y) * n) ^ (n + 1) := by
    refine Int.ofNat_le.1 ?_
    have e : ((S * (n + 1) : Nat) : Int) ^ (n + 1) = ((S * (n + 1) : Nat) : Int) ^ n * ((S : Int) * (n + 1)) := by rw [Int.pow_succ]; simp
    rw [e] at h
    rw [Int.natCast_mul, Int.natCast_pow, Int.natCast_pow]
    generalize ((S * (n + 1) : Nat) : Int) ^ n = U at *
    generalize (((S + Y) * n : Nat) : Int) ^ (n + 1) = V at *
    push_cast at h ⊢
    grind
  rw [Nat.mul_pow, Nat.mul_pow, Nat.pow_succ n n] at h1
  rw [Nat.pow_succ (n + 1) n]
  refine Nat.le_of_mul_le_mul_right ?_ hn
  generalize S ^ n = a at *
  generalize (n + 1) ^ n = b at *
  generalize n ^ n = c at *
  generalize (S + Y) ^ (n + 1) = d at *
  grind
theorem step_lt (n S Y : Nat) (hS : 0 < S) (hne : S ≠ (n + 1) * Y) : S ^ (n + 1) * (n + 1 + 1) ^ (n + 1 + 1) * Y < (S + Y) ^ (n + 1 + 1) * (n + 1) ^ (n + 1) := by
  have h := bern_lt (u := ((S * (n + 1 + 1) : Nat) : Int)) (v := (((S + Y) * (n + 1) : Nat) : Int)) (by have := Nat.mul_pos hS (by omega : 0 < n + 1 + 1); omega) (by omega) (fun e => hne (by
    have e := Int.ofNat_inj.1 e
    grind)) n
  have h1 : (S * (n + 1 + 1)) ^ (n + 1) * ((n + 1 + 1) * (n + 1) * Y) < ((S + Y) * (n + 1)) ^ (n + 1 + 1) := by
    refine Int.ofNat_lt.1 ?_
    have e : ((S * (n + 1 + 1) : Nat) : Int) ^ (n + 1 + 1) = ((S * (n + 1 + 1) : Nat) : Int) ^ (n + 1) * ((S : Int) * (n + 1 + 1)) := by rw [Int.pow_succ]; simp
    rw [e] at h
    rw [Int.natCast_mul, Int.natCast_pow, Int.natCast_pow]
    generalize ((S * (n + 1 + 1) : Nat) : Int) ^ (n + 1) = U at *
    generalize (((S + Y) * (n + 1) : Nat) : Int) ^ (n + 1 + 1) = V at *
    push_cast at h ⊢
    grind
  rw [Nat.mul_pow, Nat.mul_pow, Nat.pow_succ (n + 1) (n + 1)] at h1
  rw [Nat.pow_succ (n + 1 + 1) (n + 1)]
  refine Nat.lt_of_mul_lt_mul_right (a := n + 1) ?_
  generalize S ^ (n + 1) = a at *
  generalize (n + 1 + 1) ^ (n + 1) = b at *
  generalize (n + 1) ^ (n + 1) = c at *
  generalize (S + Y) ^ (n + 1 + 1) = d at *
  grind
theorem self_pos (n : Nat) : 0 < n ^ n := by
  rcases Nat.eq_zero_or_pos n with h | h
  · subst h; decide
  · exact Nat.pow_pos h
/-- A copies of X and a of Y: their product is at most the power of their mean. -/
theorem two_le (A X Y : Nat) : ∀ a : Nat, (A + a) ^ (A + a) * (X ^ A * Y ^ a) ≤ (A * X + a * Y) ^ (A + a)
  | 0 => by simp [Nat.mul_pow]
  | a + 1 => by
    have ih := two_le A X Y a
    rcases Nat.eq_zero_or_pos (A + a) with h0 | h0
    · obtain rfl : A = 0 := by omega
      obtain rfl : a = 0 := by omega
      simp
    · have h := step_le (A + a) (A * X + a * Y) Y h0
      have e1 : A * X + (a + 1) * Y = A * X + a * Y + Y := by grind
      rw [e1, ← Nat.add_assoc, Nat.pow_succ Y a]
      refine Nat.le_of_mul_le_mul_right (c := (A + a) ^ (A + a)) ?_ (self_pos _)
      refine Nat.le_trans ?_ h
      have h2 := Nat.mul_le_mul_right ((A + a + 1) ^ (A + a + 1) * Y) ih
      generalize (A + a + 1) ^ (A + a + 1) = p at *
      generalize (A + a) ^ (A + a) = r at *
      generalize (A * X + a * Y) ^ (A + a) = t at *
      generalize X ^ A = x at *
      generalize Y ^ a = y at *
      grind
theorem two_lt (A X Y : Nat) (hA : 0 < A) (hne : X ≠ Y) : ∀ a : Nat, (A + (a + 1)) ^ (A + (a + 1)) * (X ^ A * Y ^ (a + 1)) < (A * X + (a + 1) * Y) ^ (A + (a + 1)) := fun a => by
  rcases Nat.eq_zero_or_pos Y with hy | hy
  · subst hy
    have : 0 < A * X := Nat.mul_pos hA (by omega)
    simp only [Nat.pow_succ, Nat.mul_zero, Nat.add_zero]
    exact Nat.pow_pos this
  rcases Nat.eq_zero_or_pos X with hx | hx
  · subst hx
    rw [Nat.zero_pow hA]
    have : 0 < (a + 1) * Y := Nat.mul_pos (by omega) hy
    simp only [Nat.mul_zero, Nat.zero_mul, Nat.zero_add]
    exact Nat.pow_pos this
  induction a with
  | zero =>
    obtain ⟨n, rfl⟩ : ∃ n, A = n + 1 := ⟨A - 1, by omega⟩
    have h := step_lt n ((n + 1) * X) Y (Nat.mul_pos hA hx) (fun e => hne (Nat.eq_of_mul_eq_mul_left hA e))
    have e1 : (n + 1) * X + (0 + 1) * Y = (n + 1) * X + Y := by omega
    rw [e1, Nat.zero_add]
    refine Nat.lt_of_mul_lt_mul_right (a := (n + 1) ^ (n + 1)) ?_
    refine Nat.lt_of_le_of_lt ?_ h
    rw [Nat.mul_pow, Nat.pow_one]
    generalize (n + 1) ^ (n + 1) = r at *
    generalize (n + 1 + 1) ^ (n + 1 + 1) = p at *
    generalize X ^ (n + 1) = x at *
    grind
  | succ a ih =>
    have h := step_le (A + (a + 1)) (A * X + (a + 1) * Y) Y (by omega)
    have e1 : A * X + (a + 1 + 1) * Y = A * X + (a + 1) * Y + Y := by grind
    rw [e1, ← Nat.add_assoc A (a + 1) 1, Nat.pow_succ Y (a + 1)]
    refine Nat.lt_of_mul_lt_mul_right (a := (A + (a + 1)) ^ (A + (a + 1))) ?_
    refine Nat.lt_of_lt_of_le ?_ h
    have h2 := Nat.mul_lt_mul_of_pos_right ih (Nat.mul_pos (self_pos (A + (a + 1) + 1)) hy)
    generalize (A + (a + 1) + 1) ^ (A + (a + 1) + 1) = p at *
    generalize (A + (a + 1)) ^ (A + (a + 1)) = r at *
    generalize (A * X + (a + 1) * Y) ^ (A + (a + 1)) = t at *
    generalize X ^ A = x at *
    generalize Y ^ (a + 1) = y at *
    grind

/-- Two terms of the logarithms' sum. -/
theorem sum2_le (A a B b : Nat) : (A + a) ^ (A + a) * (B ^ A * b ^ a) ≤ (B + b) ^ (A + a) * (A ^ A * a ^ a) := by
  rcases Nat.eq_zero_or_pos A with hA | hA
  · subst hA
    have := Nat.pow_le_pow_left (show b ≤ B + b by omega) a
    simp only [Nat.zero_add, Nat.pow_zero, Nat.one_mul]
    rw [Nat.mul_comm]
    exact Nat.mul_le_mul_right _ this
  rcases Nat.eq_zero_or_pos a with ha | ha
  · subst ha
    have := Nat.pow_le_pow_left (show B ≤ B + b by omega) A
    simp only [Nat.add_zero, Nat.pow_zero, Nat.mul_one]
    rw [Nat.mul_comm]
    exact Nat.mul_le_mul_right _ this
  have h := two_le A (B * a) (b * A) a
  have e1 : A * (B * a) + a * (b * A) = (A * a) * (B + b) := by grind
  rw [e1, Nat.mul_pow, Nat.mul_pow, Nat.mul_pow (A * a), Nat.mul_pow A a] at h
  have e2 : A ^ (A + a) = A ^ A * A ^ a := Nat.pow_add ..
  have e3 : a ^ (A + a) = a ^ A * a ^ a := Nat.pow_add ..
  rw [e2, e3] at h
  refine Nat.le_of_mul_le_mul_right (c := A ^ a * a ^ A) ?_ (Nat.mul_pos (Nat.pow_pos hA) (Nat.pow_pos ha))
  generalize A ^ a = t1 at *
  generalize a ^ A = t2 at *
  generalize (A + a) ^ (A + a) = t3 at *
  generalize (B + b) ^ (A + a) = t4 at *
  generalize A ^ A = t5 at *
  generalize a ^ a = t6 at *
  generalize B ^ A = t7 at *
  generalize b ^ a = t8 at *
  grind
theorem sum2_lt {A a B b : Nat} (hA : 0 < A) (hne : B * a ≠ b * A) : (A + a) ^ (A + a) * (B ^ A * b ^ a) < (B + b) ^ (A + a) * (A ^ A * a ^ a) := by
  rcases Nat.eq_zero_or_pos a with ha | ha
  · subst ha
    have hb : 0 < b := Nat.pos_of_ne_zero fun e => hne (by subst e; simp)
    have := Nat.pow_lt_pow_left (show B < B + b by omega) (Nat.pos_iff_ne_zero.1 hA)
    simp only [Nat.add_zero, Nat.pow_zero, Nat.mul_one]
    rw [Nat.mul_comm]
    exact Nat.mul_lt_mul_of_pos_right this (Nat.pow_pos hA)
  obtain ⟨c, rfl⟩ : ∃ c, a = c + 1 := ⟨a - 1, by omega⟩
  have h := two_lt A (B * (c + 1)) (b * A) hA hne c
  have e1 : A * (B * (c + 1)) + (c + 1) * (b * A) = (A * (c + 1)) * (B + b) := by grind
  rw [e1, Nat.mul_pow, Nat.mul_pow, Nat.mul_pow (A * (c + 1)), Nat.mul_pow A (c + 1)] at h
  have e2 : A ^ (A + (c + 1)) = A ^ A * A ^ (c + 1) := Nat.pow_add ..
  have e3 : (c + 1) ^ (A + (c + 1)) = (c + 1) ^ A * (c + 1) ^ (c + 1) := Nat.pow_add ..
  rw [e2, e3] at h
  refine Nat.lt_of_mul_lt_mul_right (a := A ^ (c + 1) * (c + 1) ^ A) ?_
  generalize A ^ (c + 1) = t1 at *
  generalize (c + 1) ^ A = t2 at *
  generalize (A + (c + 1)) ^ (A + (c + 1)) = t3 at *
  generalize (B + b) ^ (A + (c + 1)) = t4 at *
  generalize A ^ A = t5 at *
  generalize (c + 1) ^ (c + 1) = t6 at *
  generalize B ^ A = t7 at *
  generalize b ^ (c + 1) = t8 at *
  grind
theorem prod_pos {f : Nat → Nat} : ∀ {n : Nat}, (∀ i, i < n → 0 < f i) → 0 < prodA f n
  | 0, _ => by simp [prodA]
  | n + 1, h => Nat.mul_pos (prod_pos fun i hi => h i (by omega)) (h n (by omega))
theorem sum_zero {f : Nat → Nat} : ∀ {n : Nat}, sumA f n = 0 → ∀ i, i < n → f i = 0
  | 0, _, i, hi => by omega
  | n + 1, h, i, hi => by
    simp only [sumA] at h
    rcases Nat.lt_or_ge i n with h1 | h1
    · exact sum_zero (n := n) (by omega) i h1
    · obtain rfl : i = n := by omega
      omega
/-- The sum of logarithms (GIBBS). -/
theorem sums_le (a b : Nat → Nat) : ∀ n : Nat, sumA a n ^ sumA a n * prodA (fun i => b i ^ a i) n ≤ sumA b n ^ sumA a n * prodA (fun i => a i ^ a i) n
  | 0 => by simp [sumA, prodA]
  | n + 1 => by
    have ih := sums_le a b n
    have h2 := sum2_le (sumA a n) (a n) (sumA b n) (b n)
    simp only [sumA, prodA]
    refine Nat.le_of_mul_le_mul_right (c := sumA a n ^ sumA a n) ?_ (self_pos _)
    have h3 := Nat.mul_le_mul_right ((sumA a n + a n) ^ (sumA a n + a n) * b n ^ a n) ih
    have h4 := Nat.mul_le_mul_right (prodA (fun i => a i ^ a i) n) h2
    generalize (sumA a n + a n) ^ (sumA a n + a n) = t1 at *
    generalize (sumA b n + b n) ^ (sumA a n + a n) = t2 at *
    generalize sumA a n ^ sumA a n = t3 at *
    generalize sumA b n ^ sumA a n = t4 at *
    generalize prodA (fun i => a i ^ a i) n = t5 at *
    generalize prodA (fun i => b i ^ a i) n = t6 at *
    generalize b n ^ a n = t7 at *
    generalize a n ^ a n = t8 at *
    grind
theorem sums_eq {a b : Nat → Nat} : ∀ {n : Nat}, (∀ i, i < n → 0 < a i → 0 < b i) → sumA a n ^ sumA a n * prodA (fun i => b i ^ a i) n = sumA b n ^ sumA a n * prodA (fun i => a i ^ a i) n → ∀ i, i < n → a i * sumA b n = b i * sumA a n
  | 0, _, _, i, hi => by omega
  | n + 1, hs, h, i, hi => by
    have ih := sums_le a b n
    have h2 := sum2_le (sumA a n) (a n) (sumA b n) (b n)
    have hb : 0 < b n ^ a n := by
      rcases Nat.eq_zero_or_pos (a n) with h0 | h0
      · rw [h0]; simp
      · exact Nat.pow_pos (hs n (by omega) h0)
    have hR : 0 < prodA (fun i => a i ^ a i) n := prod_pos fun i _ => self_pos _
    have hA' := self_pos (sumA a n + a n)
    have hA0 := self_pos (sumA a n)
    have hall : sumA a n ^ sumA a n * prodA (fun i => b i ^ a i) n = sumA b n ^ sumA a n * prodA (fun i => a i ^ a i) n ∧ (sumA a n + a n) ^ (sumA a n + a n) * (sumA b n ^ sumA a n * b n ^ a n) = (sumA b n + b n) ^ (sumA a n + a n) * (sumA a n ^ sumA a n * a n ^ a n) := by
      simp only [sumA, prodA] at h
      have h3 := Nat.mul_le_mul_right ((sumA a n + a n) ^ (sumA a n + a n) * b n ^ a n) ih
      have h4 := Nat.mul_le_mul_right (prodA (fun i => a i ^ a i) n) h2
      have h5 := congrArg (· * sumA a n ^ sumA a n) h
      have hp := Nat.mul_pos hA' hb
      generalize (sumA a n + a n) ^ (sumA a n + a n) = t1 at *
      generalize (sumA b n + b n) ^ (sumA a n + a n) = t2 at *
      generalize sumA a n ^ sumA a n = t3 at *
      generalize sumA b n ^ sumA a n = t4 at *
      generalize prodA (fun i => a i ^ a i) n = t5 at *
      generalize prodA (fun i => b i ^ a i) n = t6 at *
      generalize b n ^ a n = t7 at *
      generalize a n ^ a n = t8 at *
      have e1 : t3 * t6 * (t1 * t7) = t4 * t5 * (t1 * t7) := by grind
      have e2 : t1 * (t4 * t7) * t5 = t2 * (t3 * t8) * t5 := by grind
      exact ⟨Nat.eq_of_mul_eq_mul_right hp e1, Nat.eq_of_mul_eq_mul_right hR e2⟩
    have hI := sums_eq (n := n) (fun i hi => hs i (by omega)) hall.1
    simp only [sumA]
    rcases Nat.eq_zero_or_pos (sumA a n) with h0 | h0
    · have hz := sum_zero h0
      have h6 := hall.2
      rw [h0] at h6 ⊢
      simp only [Nat.zero_add, Nat.pow_zero, Nat.one_mul] at h6 ⊢
      have h7 : b n ^ a n = (sumA b n + b n) ^ a n := by
        rw [Nat.mul_comm] at h6
        exact Nat.eq_of_mul_eq_mul_right (self_pos _) h6
      have h8 : a n = 0 ∨ sumA b n = 0 := by
        rcases Nat.eq_zero_or_pos (a n) with h1 | h1
        · exact Or.inl h1
        · refine Or.inr ?_
          rcases Nat.eq_zero_or_pos (sumA b n) with h9 | h9
          · exact h9
          · have := Nat.pow_lt_pow_left (show b n < sumA b n + b n by omega) (Nat.pos_iff_ne_zero.1 h1)
            omega
      rcases Nat.lt_or_ge i n with h1 | h1
      · rw [hz i h1]
        rcases h8 with h8 | h8
        · rw [h8]; simp
        · rw [sum_zero h8 i h1]; simp
      · obtain rfl : i = n := by omega
        rcases h8 with h8 | h8
        · rw [h8]; simp
        · rw [h8, Nat.zero_add, Nat.mul_comm]
    · have he : sumA b n * a n = b n * sumA a n := by
        rcases Nat.decEq (sumA b n * a n) (b n * sumA a n) with h1 | h1
        · have := sum2_lt h0 h1
          omega
        · exact h1
      rcases Nat.lt_or_ge i n with h1 | h1
      · have hi1 := hI i h1
        have h9 : a i * b n = b i * a n := by
          refine Nat.eq_of_mul_eq_mul_right h0 ?_
          grind
        grind
      · obtain rfl : i = n := by omega
        grind
end Go.Proofs.YtdhbphdgdkfhfaaDoor

/- A logarithm that is told of a sum: it is in form; its sign. -/
namespace Go.Proofs.YtdhbphdgdkfhfaaDoor
open Go.RowKit

theorem over_by {D : Nat} {l : List (Int × Int)} (hD : 0 < D) (hr : Rising l) : gList D (l.map Prod.snd) ∣ D ∧ 0 < gList D (l.map Prod.snd) ∧ (∀ x, atL l x = ((gList D (l.map Prod.snd) : Nat) : Int) * atL (overL (gList D (l.map Prod.snd)) l) x) ∧ Canon (D / gList D (l.map Prod.snd)) (overL (gList D (l.map Prod.snd)) l) := over_canon hD hr (gcdL_list hr)
/-- It speaks of primes alone, and in bounds. -/
structure Prim (f : Int → Int) : Prop where
  le : ∀ x, -1000000000 ≤ f x ∧ f x ≤ 1000000000
  pr : ∀ x, f x ≠ 0 → 2 ≤ x ∧ x ≤ 4096 ∧ Pr x.toNat
theorem rising_count {hi : Int} : ∀ (l : List (Int × Int)) (lo : Int), lo ≤ hi → Rising l → (∀ e ∈ l, lo < e.1 ∧ e.1 ≤ hi) → (l.length : Int) + lo ≤ hi
  | [], lo, h, _, _ => by simpa using h
  | e :: r, lo, _, hr, he => by
    have h1 := he e (by simp)
    have h2 := rising_count r e.1 h1.2 (List.pairwise_cons.1 hr).2 (fun f hf => ⟨(List.pairwise_cons.1 hr).1 f hf, (he f (by simp [hf])).2⟩)
    simp only [List.length_cons]
    omega
theorem LogBy.ok {base M : Nat} {f : Int → Int} {w : World} {dn : Int} {v : Value} (h : LogBy base M f w dn v) (hM : 1 ≤ M) (hM6 : M ≤ 1000000) (hf : Prim f) :
    ∃ (t : List (Int × Int)) (d G : Nat), dn = (d : Int) ∧ ListAt w v t ∧ t.length ≤ 4096 ∧ M = G * d ∧ 0 < G ∧ (∀ x, f x = (G : Int) * atL t x) ∧ OkLog d t.length (pOf t) (cOf t) := by
  obtain ⟨l, r, a, _, rfl, o⟩ := h.list
  obtain ⟨g1, g2, g3, g4⟩ := over_by hM r
  have hv : ∀ x, f x = ((gList M (l.map Prod.snd) : Nat) : Int) * atL (overL (gList M (l.map Prod.snd)) l) x := fun x => by rw [← a]; exact g3 x
  have hle := Nat.div_le_self M (gList M (l.map Prod.snd))
  have hone := g4.one
  have hpos := g4.pos
  have hsup : ∀ e ∈ overL (gList M (l.map Prod.snd)) l, 2 ≤ e.1 ∧ e.1 ≤ 4096 ∧ Pr e.1.toNat := fun e he => by
    have h1 := hv e.1
    rw [atL_mem g4.rise he] at h1
    have hne : f e.1 ≠ 0 := by
      rw [h1]
      exact Int.mul_ne_zero (by omega) (g4.nz e he)
    exact hf.pr e.1 hne
  have hcount := rising_count (hi := 4096) _ 1 (by omega) g4.rise (fun e he => by have := hsup e he; omega)
  refine ⟨_, M / gList M (l.map Prod.snd), gList M (l.map Prod.snd), rfl, o, by omega, (Nat.mul_div_cancel' g1).symm, g2, hv, okLog_list g4.rise (fun e he => ?_) (by omega) (by omega) ?_⟩
  · have h1 := hv e.1
    rw [atL_mem g4.rise he] at h1
    have hnz := g4.nz e he
    have hb := hf.le e.1
    obtain ⟨p1, p2, p3⟩ := hsup e he
    have habs : e.2.natAbs ≤ (f e.1).natAbs := by
      rw [h1, Int.natAbs_mul, Int.natAbs_natCast]
      exact Nat.le_mul_of_pos_left _ g2
    exact ⟨by omega, hnz, by omega, by omega, p1, p3⟩
  · rw [gcdTo_list _ _ _ (Nat.le_refl _), List.take_length, Int.natAbs_natCast]
    exact hone
/-- Its sides are as the sides of the sum. -/
theorem by_sides {d G U D : Nat} {t : List (Int × Int)} {f : Int → Int} (hok : OkLog d t.length (pOf t) (cOf t)) (hv : ∀ x, f x = (G : Int) * atL t x) (hU : 0 < U) (hD : 0 < D) (hm : ∀ q : Nat, Pr q → f (q : Int) = (mult q U : Int) - (mult q D : Int)) :
    sideUp (pOf t) (cOf t) 1 t.length ^ G * D = sideDown (pOf t) (cOf t) 1 t.length ^ G * U ∧ 0 < sideUp (pOf t) (cOf t) 1 t.length ∧ 0 < sideDown (pOf t) (cOf t) 1 t.length := by
  have h2 : Pr 2 := ⟨by omega, fun d hd hdd => by have := Nat.mul_le_mul hd hd; omega⟩
  obtain ⟨_, a1, a2⟩ := hok.side 1 h2
  refine ⟨eq_of_mult _ _ (Nat.mul_pos (Nat.pow_pos a1) hD) (Nat.mul_pos (Nat.pow_pos a2) hU) (fun q hq => ?_), a1, a2⟩
  have e1 := (hok.side 1 hq).1
  have e2 := hm q hq
  rw [hv] at e2
  rw [mult_mul hq _ _ (Nat.pow_pos a1) hD, mult_mul hq _ _ (Nat.pow_pos a2) hU, mult_power hq a1, mult_power hq a2]
  generalize mult q (sideUp (pOf t) (cOf t) 1 t.length) = A at *
  generalize mult q (sideDown (pOf t) (cOf t) 1 t.length) = B at *
  generalize mult q U = u at *
  generalize mult q D = e at *
  generalize atL t (q : Int) = z at *
  apply Int.ofNat_inj.1
  simp only [Int.natCast_add, Int.natCast_mul]
  have h3 : (A : Int) = B + z := by omega
  rw [h3]
  grind
theorem pow_order {a b G : Nat} (hG : 0 < G) : (a ^ G < b ^ G → a < b) ∧ (a ^ G = b ^ G → a = b) := by
  have h1 : a ^ G < b ^ G → a < b := fun h => by
    rcases Nat.lt_or_ge a b with h1 | h1
    · exact h1
    · have := Nat.pow_le_pow_left h1 G
      omega
  refine ⟨h1, fun h => ?_⟩
  rcases Nat.lt_or_ge a b with h2 | h2
  · have := Nat.pow_lt_pow_left h2 (Nat.pos_iff_ne_zero.1 hG)
    omega
  · rcases Nat.lt_or_ge b a with h3 | h3
    · have := Nat.pow_lt_pow_left h3 (Nat.pos_iff_ne_zero.1 hG)
      omega
    · omega
theorem by_cmp {su sd G U D : Nat} (h : su ^ G * D = sd ^ G * U) (hG : 0 < G) (h1 : 0 < su) (h2 : 0 < sd) (hU : 0 < U) : (D < U → cmpOf su sd = 1) ∧ (U = D → cmpOf su sd = 0) ∧ (U < D → cmpOf su sd = -1) := by
  obtain ⟨o1, o2, o3⟩ := sides_order h (Nat.pow_pos h1) (Nat.pow_pos h2)
  unfold cmpOf
  refine ⟨fun hl => ?_, fun he => ?_, fun hl => ?_⟩
  · have := (pow_order hG).1 (o2 hl)
    grind
  · have := (pow_order hG).2 (o3 he hU)
    grind
  · have := (pow_order hG).1 (o1 hl)
    grind
theorem listAt_log {W : World} {v : Value} {t : List (Int × Int)} (h : ListAt W v t) : LogAt W v t.length (pOf t) (cOf t) := by
  obtain ⟨ad, cap, rfl, hl⟩ := log_of_own h
  exact hl
/-- logs.Sign of what is told of a sum. -/
theorem Sign_by {base M : Nat} {f : Int → Int} {dn : Int} {v : Value} {U D : Nat} (a : Nat → Addr) (w : World) (hE : Errs w a) (h : LogBy base M f w dn v) (hM : 1 ≤ M) (hM6 : M ≤ 1000000) (hf : Prim f) (hU : 0 < U) (hD : 0 < D) (hm : ∀ q : Nat, Pr q → f (q : Int) = (mult q U : Int) - (mult q D : Int)) :
    Calls Tryd.prog 16 #[.agg #[.int .i64 dn, v]] w fun e w' => ((∃ z, e = .returned (.tuple #[.int .i64 z, .nilIface]) ∧ (D < U → z = 1) ∧ (U = D → z = 0) ∧ (U < D → z = -1)) ∨ e = .returned (.tuple #[.int .i64 0, powErr true false a])) ∧ Below w.heap.size w w' := by
  obtain ⟨t, d, G, rfl, hl, hn, _, hG, hv, hok⟩ := h.ok hM hM6 hf
  obtain ⟨s1, s2, s3⟩ := by_sides hok hv hU hD hm
  have hc := by_cmp s1 hG s2 s3 hU
  have hlog : LogAt w v t.length (pOf t) (cOf t) := listAt_log hl
  by_cases hfit : cost (pOf t) (cOf t) t.length ≤ 40000
  · refine (Sign_log d v t.length (pOf t) (cOf t) a true true (by simpa using hok) (by simpa using hfit) w hE hlog (by omega)).mono ?_
    rintro e w' ⟨rfl, hb⟩
    exact ⟨Or.inl ⟨_, rfl, hc⟩, hb⟩
  · refine (Sign_log d v t.length (pOf t) (cOf t) a true false (by simpa using hok) (by simpa using hfit) w hE hlog (by omega)).mono ?_
    rintro e w' ⟨rfl, hb⟩
    exact ⟨Or.inr rfl, hb⟩
end Go.Proofs.YtdhbphdgdkfhfaaDoor

/- dist.Entropy at any weights. -/
namespace Go.Proofs.YtdhbphdgdkfhfaaDoor
open Go.RowKit Go.Maps

theorem new_one {w w1 : World} {x : Value} {t : TypeId} (hb : Below (w.alloc (.cells #[x] t)).heap.size (w.alloc (.cells #[x] t)) w1) : w1.cell? ⟨w.heap.size, 0, none⟩ = some x := by
  have c0 : (w.alloc (.cells #[x] t)).cell? ⟨w.heap.size, 0, none⟩ = some x := by rw [World.cell?_alloc_at _ _ _ _ rfl]; rfl
  exact (cell_past c0 hb).2

set_option maxRecDepth 100000 in
theorem Entropy_parts (den : Int) (mb B b o cap n : Nat) (z : Nat → Int) (w : World) (hown : w.ownsMap Tryd.prog 3 (plainElem (H := Unit) Tryd.prog 3) mb 0 (mapOf [])) (hB : w.cell? ⟨B, 0, none⟩ = some (.slice (some ⟨b, o, none⟩) n cap)) (h : RowAt w b o n z) (hz : ∀ i, i < n → 0 ≤ z i) (hs : sumN z n ≤ 4096) (hn : n ≤ 256) :
    Calls Tryd.prog 34 #[putV den mb, .pointer (some ⟨B, 0, none⟩)] w fun e w' => e = .returned (.tuple #[]) ∧ ∃ l nn, Puts w w' mb (fun x => sumN (entV z (sumN z n).toNat x) n) (2 * n) [] 0 l nn := by
  have hp := putEntropy_some den mb 0 b o cap n z [] w hown List.Pairwise.nil (fun e he => by cases he) (fun x => by simp [atL]) (by omega) h hz hs hn
  clear hown h hz hs
  unfold putV at hp ⊢
  go_enter Tryd.func34, Tryd.ntmps34
  go_wp2_with fail
  refine hp.mono ?_
  clear hp
  rintro e w1 ⟨rfl, l, nn, hpt⟩
  have HP := Hid.mk' hpt
  clear hpt
  go_wp2_with fail
  go_end0
  exact ⟨rfl, l, nn, HP.out⟩

theorem ent_bound {z : Nat → Int} {n N : Nat} (hz : ∀ i, i < n → 0 ≤ z i ∧ z i ≤ 4096) (hN : N ≤ 4096) (hn : n ≤ 256) (x : Int) : -1000000000 ≤ sumN (entV z N x) n ∧ sumN (entV z N x) n ≤ 1000000000 := by
  have h3 := sumN_bound (f := entV z N x) (B := 200000) (n := n) (fun i hi => entV_le x (hz i hi) hN)
  have : (n : Int) * 200000 ≤ 51200000 := by omega
  omega

set_option maxRecDepth 100000 in
set_option maxHeartbeats 1000000 in
theorem Entropy_ok (a : Nat → Addr) (b o cap n N : Nat) (z : Nat → Int) (w : World) (hE : Errs w a) (h : RowAt w b o n z) (h0 : weightsErr z n = 0) (hN : sumN z n = N) (hz : ∀ i, i < n → 0 ≤ z i) (hn : n ≤ 16) (hN1 : 1 ≤ N) (hN6 : N ≤ 4096) (h0n : 0 < n) :
    Calls Tryd.prog 18 #[.slice (some ⟨b, o, none⟩) n cap] w fun e w' => ∃ dn v, e = .returned (.tuple #[.agg #[.int .i64 dn, v], .nilIface]) ∧ LogBy w.heap.size N (fun x => sumN (entV z N x) n) w' dn v ∧ Below w.heap.size w w' := by
  have hzi : ∀ i, i < n → 0 ≤ z i ∧ z i ≤ 4096 := fun i hi => ⟨hz i hi, by have := sumN_ge hz hi; omega⟩
  have hle : ∀ k, k ≤ n → 0 ≤ sumN z k ∧ sumN z k ≤ 4096 := fun k hk => ⟨sumN_nonneg (fun i hi => hz i (by omega)), by have := sumN_mono hz hk; omega⟩
  obtain ⟨W0, hW0⟩ : ∃ W0, W0 = (w.alloc (.cells #[.slice (some ⟨b, o, none⟩) n cap] 22)).alloc (.cells #[.int .i64 0, .slice none 0 0] 39) := ⟨_, rfl⟩
  have hb0 : Below w.heap.size w W0 := by rw [hW0]; exact below_chain (new_below _ _) (new_below _ _)
  have hbox : W0.cell? ⟨w.heap.size, 0, none⟩ = some (.slice (some ⟨b, o, none⟩) n cap) := by rw [hW0]; exact new_one (new_below _ _)
  have hres : ∀ W, Below W0.heap.size W0 W → W.cell? ⟨w.heap.size + 1, 0, none⟩ = some (.int .i64 0) ∧ W.cell? ⟨w.heap.size + 1, 1, none⟩ = some (.slice none 0 0) ∧ W.frozen? ⟨w.heap.size + 1, 0, none⟩ = false ∧ W.frozen? ⟨w.heap.size + 1, 1, none⟩ = false := fun W hb => by
    rw [hW0] at hb
    have := res_past hb
    simpa using this
  have hv := Valid_weights a (.slice (some ⟨b, o, none⟩) n cap) n z W0 (hE.below hb0) (Or.inr ⟨b, o, cap, rfl, h0n, h.later hb0⟩) (by omega)
  rw [h0] at hv
  have ht := total_some b o cap n z W0 (h.later hb0) (fun k hk => by have := hle k hk; omega) (fun i hi => by have := hzi i hi; omega) (by omega)
  rw [hN] at ht
  have hso := sumOver_any 34 #[.pointer (some ⟨w.heap.size, 0, none⟩)] N (2 * n) (fun x => sumN (entV z N x) n) W0 (enters_of Tryd.func34 (by kernel_rfl) rfl) hN1 hN6 (by omega) (fun x => ent_bound hzi hN6 (by omega) x)
    (fun W mb hb ho => by
      have := Entropy_parts N mb w.heap.size b o cap n z W ho (cell_past hbox hb).2 ((h.later hb0).later hb) hz (by omega) (by omega)
      rw [hN, Int.toNat_natCast] at this
      exact this)
  have HB0 := Hid.mk' hb0
  have HRES := Hid.mk' hres
  have HW0 := Hid.mk' hW0
  have hlt : w.heap.size + 1 < W0.heap.size := by rw [hW0]; simp
  have HLT := Hid.mk' hlt
  clear hE h hb0 hres hW0 hzi hle hz hN h0 hlt
  go_enter Tryd.func18, Tryd.ntmps18
  go_upto_region 1 with fail
  rw [← HW0.out]
  go_wp2_with fail
  refine hv.mono ?_
  clear hv
  rintro e w1 ⟨rfl, hw1⟩
  rw [hw1]
  clear hw1
  rw [errV_zero]
  go_wp2_with (first
    | (go_at_call 26; refine ht.mono ?_; rintro e w2 ⟨rfl, hw2⟩; rw [hw2]; clear hw2)
    | (go_at_call 27; refine hso.mono ?_; rintro e w3 ⟨dn, v, rfl, hlb, hb3⟩; obtain ⟨c0, c1, q0, q1⟩ := HRES.out w3 hb3; have HBW := Hid.mk' (below_chain HB0.out hb3); have HLB := Hid.mk' hlb; obtain ⟨ad, n', c', rfl⟩ := hlb.form; clear hlb))
  refine bodyPost_ret (v := .tuple #[.agg #[.int .i64 dn, .slice ad n' c'], .nilIface]) (by simp [results, Tryd.results18, go_sem, c0, c1]) rfl ⟨_, .slice ad n' c', rfl, (HLB.out.set HLT.out _ _).lower (by have := HLT.out; omega), ?_⟩
  exact (HBW.out.setCell (by simp) _).setCell (by simp) _

set_option maxRecDepth 100000 in
set_option maxHeartbeats 1000000 in
theorem Entropy_bad (a : Nat → Addr) (v : Value) (n : Nat) (z : Nat → Int) (w : World) (hE : Errs w a) (h : NumsAt w v n z) (hn : n ≤ 400) (h0 : weightsErr z n ≠ 0) :
    Calls Tryd.prog 18 #[v] w fun e w' => e = .returned (.tuple #[.agg #[.int .i64 0, .slice none 0 0], errV a (weightsErr z n)]) ∧ Below w.heap.size w w' := by
  obtain ⟨ad, cap, rfl⟩ := h.form
  obtain ⟨W0, hW0⟩ : ∃ W0, W0 = (w.alloc (.cells #[.slice ad n cap] 22)).alloc (.cells #[.int .i64 0, .slice none 0 0] 39) := ⟨_, rfl⟩
  have hb0 : Below w.heap.size w W0 := by rw [hW0]; exact below_chain (new_below _ _) (new_below _ _)
  have hbox : W0.cell? ⟨w.heap.size, 0, none⟩ = some (.slice ad n cap) := by rw [hW0]; exact new_one (new_below _ _)
  have hres : W0.cell? ⟨w.heap.size + 1, 0, none⟩ = some (.int .i64 0) ∧ W0.cell? ⟨w.heap.size + 1, 1, none⟩ = some (.slice none 0 0) ∧ W0.frozen? ⟨w.heap.size + 1, 0, none⟩ = false ∧ W0.frozen? ⟨w.heap.size + 1, 1, none⟩ = false := by
    rw [hW0]
    simp
  have hv := Valid_weights a (.slice ad n cap) n z W0 (hE.below hb0) (h.later hb0) (by omega)
  rw [errV_pos a h0] at hv ⊢
  generalize a (weightsErr z n - 1) = ea at hv ⊢
  obtain ⟨c0, c1, q0, q1⟩ := hres
  have HB0 := Hid.mk' hb0
  have HW0 := Hid.mk' hW0
  clear hE h hb0 hW0 h0
  go_enter Tryd.func18, Tryd.ntmps18
  go_upto_region 1 with fail
  rw [← HW0.out]
  go_wp2_with (go_at_call 8; refine hv.mono ?_; rintro e w1 ⟨rfl, hw1⟩; rw [hw1]; clear hw1)
  refine bodyPost_ret (v := .tuple #[.agg #[.int .i64 0, .slice none 0 0], .iface 155 (.pointer (some ea))]) (by simp [results, Tryd.results18, go_sem, c0, c1]) rfl ⟨rfl, ?_⟩
  exact (HB0.out.setCell (by simp) _).setCell (by simp) _
end Go.Proofs.YtdhbphdgdkfhfaaDoor

/- Two lists of weights: the program's and the document's errors. -/
namespace Go.Proofs.YtdhbphdgdkfhfaaDoor
open Go.RowKit

def twoErr (p : Nat → Int) (n : Nat) (q : Nat → Int) (m : Nat) : Nat := if weightsErr p n ≠ 0 then weightsErr p n else if weightsErr q m ≠ 0 then weightsErr q m else if n ≠ m then 3 else 0

set_option maxRecDepth 100000 in
set_option maxHeartbeats 1000000 in
theorem TwoError_any (v u : Value) (n m : Nat) (p q : Nat → Int) (w : World) (h : NumsAt w v n p) (k : NumsAt w u m q) (hn : n ≤ 1000000) (hm : m ≤ 1000000) :
    Calls Tryd.prog 14 #[v, u] w fun e w' => e = .returned (.int .i64 (twoErr p n q m : Int)) ∧ w' = w := by
  have h1 := WeightsError_any v n p w h hn
  have h2 := WeightsError_any u m q w k hm
  obtain ⟨ad, cap, rfl⟩ := h.form
  obtain ⟨ad', cap', rfl⟩ := k.form
  clear h k
  have HT : Hid (twoErr p n q m = if weightsErr p n ≠ 0 then weightsErr p n else if weightsErr q m ≠ 0 then weightsErr q m else if n ≠ m then 3 else 0) := rfl
  generalize twoErr p n q m = r at HT ⊢
  generalize weightsErr p n = c at h1 HT
  generalize weightsErr q m = d at h2 HT
  by_cases hc : c = 0
  · subst hc
    by_cases hd : d = 0
    · subst hd
      by_cases hnm : n = m
      · subst hnm
        have HR : Hid (r = 0) := by show _ = _; rw [HT.out]; simp
        clear HT
        go_enter Tryd.func14, Tryd.ntmps14
        go_wp2_with fail
        refine h1.mono ?_
        rintro e w1 ⟨rfl, hw1⟩
        rw [hw1]
        clear hw1 h1
        go_wp2_with fail
        refine h2.mono ?_
        rintro e w1 ⟨rfl, hw1⟩
        rw [hw1]
        clear hw1 h2
        go_wp2_with fail
        go_ret
        exact ⟨by rw [HR.out]; rfl, rfl⟩
      · have HR : Hid (r = 3) := by show _ = _; rw [HT.out]; simp [hnm]
        have hb : ((n : Int) == (m : Int)) = false := by simp; omega
        clear HT
        go_enter Tryd.func14, Tryd.ntmps14
        go_wp2_with fail
        refine h1.mono ?_
        rintro e w1 ⟨rfl, hw1⟩
        rw [hw1]
        clear hw1 h1
        go_wp2_with fail
        refine h2.mono ?_
        rintro e w1 ⟨rfl, hw1⟩
        rw [hw1]
        clear hw1 h2
        go_wp2_with fail
        go_ret
        exact ⟨by rw [HR.out]; rfl, rfl⟩
    · have HR : Hid (r = d) := by show _ = _; rw [HT.out]; simp [hd]
      have hb : ((d : Int) == 0) = false := by simpa using hd
      clear HT
      go_enter Tryd.func14, Tryd.ntmps14
      go_wp2_with fail
      refine h1.mono ?_
      rintro e w1 ⟨rfl, hw1⟩
      rw [hw1]
      clear hw1 h1
      go_wp2_with fail
      refine h2.mono ?_
      rintro e w1 ⟨rfl, hw1⟩
      rw [hw1]
      clear hw1 h2
      go_wp2_with fail
      go_ret
      exact ⟨by rw [HR.out]; rfl, rfl⟩
  · have HR : Hid (r = c) := by show _ = _; rw [HT.out]; simp [hc]
    have hb : ((c : Int) == 0) = false := by simpa using hc
    clear HT
    go_enter Tryd.func14, Tryd.ntmps14
    go_wp2_with (go_at_call 10; refine h1.mono ?_; rintro e w1 ⟨rfl, hw1⟩; rw [hw1]; clear hw1)
    go_ret
    exact ⟨by rw [HR.out]; rfl, rfl⟩

set_option maxRecDepth 100000 in
set_option maxHeartbeats 1000000 in
theorem checkPair_any (a : Nat → Addr) (v u : Value) (n m : Nat) (p q : Nat → Int) (w : World) (hE : Errs w a) (h : NumsAt w v n p) (k : NumsAt w u m q) (hn : n ≤ 1000000) (hm : m ≤ 1000000) :
    Calls Tryd.prog 25 #[v, u] w fun e w' => e = .returned (errV a (twoErr p n q m)) ∧ w' = w := by
  have h1 := Valid_weights a v n p w hE h hn
  have h2 := Valid_weights a u m q w hE k hm
  obtain ⟨ad, cap, rfl⟩ := h.form
  obtain ⟨ad', cap', rfl⟩ := k.form
  have e2 := hE.c2
  clear h k hE
  have HT : Hid (twoErr p n q m = if weightsErr p n ≠ 0 then weightsErr p n else if weightsErr q m ≠ 0 then weightsErr q m else if n ≠ m then 3 else 0) := rfl
  generalize twoErr p n q m = r at HT ⊢
  generalize weightsErr p n = c at h1 HT
  generalize weightsErr q m = d at h2 HT
  by_cases hc : c = 0
  · subst hc
    rw [errV_zero] at h1
    by_cases hd : d = 0
    · subst hd
      rw [errV_zero] at h2
      by_cases hnm : n = m
      · subst hnm
        have HR : Hid (r = 0) := by show _ = _; rw [HT.out]; simp
        clear HT
        go_enter Tryd.func25, Tryd.ntmps25
        go_wp2_with fail
        refine h1.mono ?_
        rintro e w1 ⟨rfl, hw1⟩
        rw [hw1]
        clear hw1 h1
        go_wp2_with fail
        refine h2.mono ?_
        rintro e w1 ⟨rfl, hw1⟩
        rw [hw1]
        clear hw1 h2
        go_wp2_with fail
        go_ret
        exact ⟨by rw [HR.out]; rfl, rfl⟩
      · have HR : Hid (r = 3) := by show _ = _; rw [HT.out]; simp [hnm]
        have hb : ((n : Int) == (m : Int)) = false := by simp; omega
        clear HT
        go_enter Tryd.func25, Tryd.ntmps25
        go_wp2_with fail
        refine h1.mono ?_
        rintro e w1 ⟨rfl, hw1⟩
        rw [hw1]
        clear hw1 h1
        go_wp2_with fail
        refine h2.mono ?_
        rintro e w1 ⟨rfl, hw1⟩
        rw [hw1]
        clear hw1 h2
        go_wp2_with fail
        go_ret
        exact ⟨by rw [HR.out]; rfl, rfl⟩
    · have HR : Hid (r = d) := by show _ = _; rw [HT.out]; simp [hd]
      have HD := Hid.mk' (errV_pos a hd)
      rw [HD.out] at h2
      clear HT
      go_enter Tryd.func25, Tryd.ntmps25
      go_wp2_with fail
      refine h1.mono ?_
      rintro e w1 ⟨rfl, hw1⟩
      rw [hw1]
      clear hw1 h1
      go_wp2_with fail
      refine h2.mono ?_
      rintro e w1 ⟨rfl, hw1⟩
      rw [hw1]
      clear hw1 h2
      go_wp2_with fail
      go_ret
      exact ⟨by rw [HR.out, HD.out]; rfl, rfl⟩
  · have HR : Hid (r = c) := by show _ = _; rw [HT.out]; simp [hc]
    have HD := Hid.mk' (errV_pos a hc)
    rw [HD.out] at h1
    clear HT
    go_enter Tryd.func25, Tryd.ntmps25
    go_wp2_with (go_at_call 8; refine h1.mono ?_; rintro e w1 ⟨rfl, hw1⟩; rw [hw1]; clear hw1)
    go_ret
    exact ⟨by rw [HR.out, HD.out]; rfl, rfl⟩
theorem twoErr_ok {p q : Nat → Int} {n m : Nat} (h : twoErr p n q m = 0) : n = m ∧ n ≤ 16 ∧ OkW p n ∧ OkW q m := by
  unfold twoErr at h
  by_cases h1 : weightsErr p n = 0
  · by_cases h2 : weightsErr q m = 0
    · by_cases h3 : n = m
      · refine ⟨h3, ?_⟩
        unfold weightsErr at h1 h2
        by_cases h16 : 16 < n
        · rw [if_pos h16] at h1; cases h1
        · rw [if_neg h16] at h1
          rw [← h3, if_neg h16] at h2
          rw [← h3]
          exact ⟨by omega, listErr_ok h1, listErr_ok h2⟩
      · simp [h1, h2, h3] at h
    · simp [h1, h2] at h
  · simp [h1] at h
end Go.Proofs.YtdhbphdgdkfhfaaDoor

/- Cells beside a map. -/
namespace Go.Proofs.YtdhbphdgdkfhfaaDoor
open Go.RowKit Go.Maps

/-- A cell beside a map's block. -/
theorem cell_side {w w' : World} {mb nn B o : Nat} {v : Value} {D : DataW Unit} {k : TypeId} {R : Value → Option (DataW Unit × List MemPlace)} (hm : w.ownsMap Tryd.prog k R mb nn D) (hg : w.grownBy w' (some mb)) (hc : w.cell? ⟨B, o, none⟩ = some v) : w'.cell? ⟨B, o, none⟩ = some v := by
  refine cell_beside hg hc ?_
  rintro rfl
  rw [map_no_cell hm] at hc
  cases hc

end Go.Proofs.YtdhbphdgdkfhfaaDoor

/- dist.Divergence. -/
namespace Go.Proofs.YtdhbphdgdkfhfaaDoor
open Go.RowKit Go.Maps

/-- What the i-th place puts. -/
def divV (p q : Nat → Int) (P Q : Nat) (x : Int) (i : Nat) : Int := p i * multI x (p i).toNat + -(p i) * multI x P + -(p i) * multI x (q i).toNat + p i * multI x Q
theorem divV_le {p q : Nat → Int} {P Q i : Nat} (x : Int) (hp : 0 ≤ p i ∧ p i ≤ 4096) (hq : 0 ≤ q i ∧ q i ≤ 4096) (hP : P ≤ 4096) (hQ : Q ≤ 4096) : -400000 ≤ divV p q P Q x i ∧ divV p q P Q x i ≤ 400000 := by
  unfold divV
  have h1 := mul_weight (t := p i) (by omega) (multI_small x (n := (p i).toNat) (by omega))
  have h2 := mul_weight (t := -(p i)) (by omega) (multI_small x (n := P) (by omega))
  have h3 := mul_weight (t := -(p i)) (by omega) (multI_small x (n := (q i).toNat) (by omega))
  have h4 := mul_weight (t := p i) (by omega) (multI_small x (n := Q) (by omega))
  omega
set_option maxRecDepth 100000 in
set_option maxHeartbeats 4000000 in
theorem Divergence_parts (den : Int) (mb Bp BP Bq BQ b o cap b' o' cap' n P Q : Nat) (p q : Nat → Int) (w : World) (hown : w.ownsMap Tryd.prog 3 (plainElem (H := Unit) Tryd.prog 3) mb 0 (mapOf []))
    (cp : w.cell? ⟨Bp, 0, none⟩ = some (.slice (some ⟨b, o, none⟩) n cap)) (cP : w.cell? ⟨BP, 0, none⟩ = some (.int .i64 P)) (cq : w.cell? ⟨Bq, 0, none⟩ = some (.slice (some ⟨b', o', none⟩) n cap')) (cQ : w.cell? ⟨BQ, 0, none⟩ = some (.int .i64 Q))
    (h : RowAt w b o n p) (k : RowAt w b' o' n q) (hp : ∀ i, i < n → 0 ≤ p i ∧ p i ≤ 4096) (hq : ∀ i, i < n → 0 ≤ q i ∧ q i ≤ 4096) (hpq : ∀ i, i < n → 0 < p i → 0 < q i) (hP : 1 ≤ P ∧ P ≤ 4096) (hQ : 1 ≤ Q ∧ Q ≤ 4096) (hn : n ≤ 16) :
    Calls Tryd.prog 28 #[putV den mb, .pointer (some ⟨Bp, 0, none⟩), .pointer (some ⟨BP, 0, none⟩), .pointer (some ⟨Bq, 0, none⟩), .pointer (some ⟨BQ, 0, none⟩)] w fun e w' => e = .returned (.tuple #[]) ∧ ∃ l nn, Puts w w' mb (fun x => sumN (divV p q P Q x) n) (4 * n) [] 0 l nn := by
  have HP0 : Hid (Puts w w mb (fun x => sumN (divV p q P Q x) 0) (4 * 0) [] 0 [] 0) := ⟨hown, List.Pairwise.nil, (fun x => by simp [sumN]), (fun e he => by cases he), by omega, by simp, grown_refl _ _⟩
  have HROW := Hid.mk' (fun (wr : World) (hg : w.grownBy wr (some mb)) => And.intro (h.beside hown hg) (And.intro (k.beside hown hg) (And.intro (cell_side hown hg cP) (And.intro (cell_side hown hg cq) (cell_side hown hg cQ)))))
  have HPI := Hid.mk' hp
  have HQI := Hid.mk' hq
  have HPQ := Hid.mk' hpq
  clear hown h k hp hq hpq cP cq cQ
  unfold putV
  go_enter Tryd.func28, Tryd.ntmps28
  go_wp2_with fail
  go_loopw [6, 7, 10] (fun _ _ i wr => ∃ (k nn : Nat) (l : List (Int × Int)), k ≤ n ∧ i = .int .i64 k ∧ Hid (Puts w wr mb (fun x => sumN (divV p q P Q x) k) (4 * k) [] 0 l nn)) (fun _ _ i _ => n - (intOf i).toNat)
  case atStart => exact ⟨0, 0, [], Nat.zero_le _, rfl, HP0⟩
  case round =>
    clear HP0 cp
    obtain ⟨k, nn, l, hk, rfl, HP⟩ := hrel
    rcases Nat.lt_or_ge k n with h1 | h1
    · have hc := (HROW.out _ HP.out.grow).1 k h1
      have hkn : (k : Int) < (n : Int) := by omega
      have hpk := HPI.out k h1
      have hqk := HQI.out k h1
      have hpqk := HPQ.out k h1
      have HV : Hid (∀ x, sumN (divV p q P Q x) (k + 1) = sumN (divV p q P Q x) k + (p k * multI x (p k).toNat + (-(p k) * multI x P + (-(p k) * multI x (q k).toNat + p k * multI x Q)))) := fun x => by
        show sumN (divV p q P Q x) k + divV p q P Q x k = _
        unfold divV
        omega
      have HBD : Hid (∀ x, -100000000 ≤ atL l x ∧ atL l x ≤ 100000000) := fun x => by
        rw [HP.out.val]
        have h3 := sumN_bound (f := divV p q P Q x) (B := 400000) (n := k) (fun i hi => divV_le x (HPI.out i (by omega)) (HQI.out i (by omega)) hP.2 hQ.2)
        have : (k : Int) * 400000 ≤ 6400000 := by omega
        simp only [atL]
        omega
      have hcq := (HROW.out _ HP.out.grow).2.1 k h1
      obtain ⟨y, hy⟩ := Int.eq_ofNat_of_zero_le hpk.1
      obtain ⟨u, hu⟩ := Int.eq_ofNat_of_zero_le hqk.1
      rw [hy] at hc hpk HV hpqk
      rw [hu] at hqk HV hpqk hcq
      simp only [Int.toNat_natCast] at HV
      have HCQ : Hid (∀ W, w.grownBy W (some mb) → W.cell? ⟨b', o' + k, none⟩ = some (.int .i64 (u : Int))) := fun W hg => by rw [← hu]; exact (HROW.out W hg).2.1 k h1
      have hy6 : y ≤ 4096 := by have := hpk.2; omega
      have hu6 : u ≤ 4096 := by have := hqk.2; omega
      have hyu : y ≠ 0 → 1 ≤ u := fun h => by have := hpqk (by omega); omega
      have hnn1 : nn ≤ 10000 := by have := HP.out.cnt; omega
      have MW := Hid.mk' (fun (x : Int) (m : Nat) (hm : m ≤ 4096) => mul_weight (t := (y : Int)) (by omega) (multI_small x (n := m) (by omega)))
      have MN := Hid.mk' (fun (x : Int) (m : Nat) (hm : m ≤ 4096) => mul_weight (t := -(y : Int)) (by omega) (multI_small x (n := m) (by omega)))
      clear hy hu hpk hqk hpqk hcq
      have HP1 := Hid.mk' (Put_by den (y : Int) mb y nn l wr HP.out.own HP.out.rise HP.out.keys (fun x => by have := HBD.out x; omega) (by omega) (fun h => by omega) (by omega) (by omega))
      go_wp2_with fail
      refine HP1.out.mono ?_
      clear HP1 hc
      rintro e w2 ⟨rfl, l2, nn2, hp2⟩
      have hg2 := grown_two HP.out.grow hp2.grow
      have cP2 := (HROW.out _ hg2).2.2.1
      have B2 : Hid (∀ x, -100100000 ≤ atL l2 x ∧ atL l2 x ≤ 100100000) := fun x => by rw [hp2.val]; have h2 := HBD.out x; have h3 := MW.out x y hy6; omega
      have hn2 : nn2 ≤ 10020 := by have := hp2.cnt; omega
      have HP2 := Hid.mk' (Put_by den (-(y : Int)) mb P nn2 l2 w2 hp2.own hp2.rise hp2.keys (fun x => by have := B2.out x; omega) (by omega) (fun _ => hP.1) (by omega) (by omega))
      have HQ2 := Hid.mk' (HP.out.trans hp2)
      clear hp2 hg2
      go_wp2_with fail
      refine HP2.out.mono ?_
      clear HP2 cP2
      rintro e w3 ⟨rfl, l3, nn3, hp3⟩
      have hg3 := grown_two HQ2.out.grow hp3.grow
      have cq3 := (HROW.out _ hg3).2.2.2.1
      have cu3 := HCQ.out _ hg3
      have B3 : Hid (∀ x, -100200000 ≤ atL l3 x ∧ atL l3 x ≤ 100200000) := fun x => by rw [hp3.val]; have h2 := B2.out x; have h3 := MN.out x P hP.2; omega
      have hn3 : nn3 ≤ 10040 := by have := hp3.cnt; omega
      have HP3 := Hid.mk' (Put_by den (-(y : Int)) mb u nn3 l3 w3 hp3.own hp3.rise hp3.keys (fun x => by have := B3.out x; omega) (by omega) (fun h => hyu (by omega)) (by omega) (by omega))
      have HQ3 := Hid.mk' (HQ2.out.trans hp3)
      clear hp3 hg3 HQ2
      go_wp2_with fail
      refine HP3.out.mono ?_
      clear HP3 cq3 cu3
      rintro e w4 ⟨rfl, l4, nn4, hp4⟩
      have hg4 := grown_two HQ3.out.grow hp4.grow
      have cQ4 := (HROW.out _ hg4).2.2.2.2
      have B4 : Hid (∀ x, -100300000 ≤ atL l4 x ∧ atL l4 x ≤ 100300000) := fun x => by rw [hp4.val]; have h2 := B3.out x; have h3 := MN.out x u hu6; omega
      have hn4 : nn4 ≤ 10060 := by have := hp4.cnt; omega
      have HP4 := Hid.mk' (Put_by den (y : Int) mb Q nn4 l4 w4 hp4.own hp4.rise hp4.keys (fun x => by have := B4.out x; omega) (by omega) (fun _ => hQ.1) (by omega) (by omega))
      have HQ4 := Hid.mk' (HQ3.out.trans hp4)
      clear hp4 hg4 HQ3
      go_wp2_with fail
      refine HP4.out.mono ?_
      clear HP4 cQ4
      rintro e w5 ⟨rfl, l5, nn5, hp5⟩
      have HQ5 := Hid.mk' ((HQ4.out.trans hp5).congr (d := 4 * (k + 1)) (by omega) (g := fun x => sumN (divV p q P Q x) (k + 1)) (fun x => by rw [HV.out x]; omega))
      clear hp5 HQ4
      go_wp2_with fail
      exact ⟨⟨k + 1, nn5, l5, h1, by go_num, HQ5⟩, by simp [intOf]; omega⟩
    · obtain rfl : k = n := by omega
      go_wp2_with fail
      go_end0
      exact ⟨rfl, l, nn, HP.out⟩
end Go.Proofs.YtdhbphdgdkfhfaaDoor

/- The sides of a divergence. -/
namespace Go.Proofs.YtdhbphdgdkfhfaaDoor
open Go.RowKit

theorem mult_prod {x : Nat} (hx : Pr x) {a b : Nat → Nat} : ∀ {n : Nat}, (∀ i, i < n → 0 < a i → 0 < b i) → mult x (prodA (fun i => b i ^ a i) n) = sumA (fun i => a i * mult x (b i)) n ∧ 0 < prodA (fun i => b i ^ a i) n
  | 0, _ => ⟨by simp only [prodA, sumA]; exact mult_one hx.1, by simp [prodA]⟩
  | n + 1, h => by
    obtain ⟨h1, h2⟩ := mult_prod hx (n := n) (fun i hi => h i (by omega))
    have h3 : mult x (b n ^ a n) = a n * mult x (b n) ∧ 0 < b n ^ a n := by
      rcases Nat.eq_zero_or_pos (a n) with h0 | h0
      · rw [h0, Nat.pow_zero, Nat.zero_mul]
        exact ⟨mult_one hx.1, by omega⟩
      · exact ⟨mult_power hx (h n (by omega) h0) _, Nat.pow_pos (h n (by omega) h0)⟩
    simp only [prodA, sumA]
    exact ⟨by rw [mult_mul hx _ _ h2 h3.2, h1, h3.1], Nat.mul_pos h2 h3.2⟩
theorem sumA_nat {z : Nat → Int} {a : Nat → Nat} : ∀ {n : Nat}, (∀ i, i < n → z i = (a i : Int)) → sumN z n = (sumA a n : Int)
  | 0, _ => rfl
  | n + 1, h => by
    simp only [sumN, sumA]
    rw [sumA_nat (n := n) (fun i hi => h i (by omega)), h n (by omega)]
    simp
/-- A divergence's multiplicity of a prime. -/
theorem div_mult {x : Nat} (hx : Pr x) {p q : Nat → Int} {a b : Nat → Nat} {P Q : Nat} : ∀ {n : Nat}, (∀ i, i < n → p i = (a i : Int)) → (∀ i, i < n → q i = (b i : Int)) →
    sumN (divV p q P Q (x : Int)) n = (sumA (fun i => a i * mult x (a i)) n : Int) + (sumA a n : Int) * (mult x Q : Int) - (sumA (fun i => a i * mult x (b i)) n : Int) - (sumA a n : Int) * (mult x P : Int)
  | 0, _, _ => by simp [sumN, sumA]
  | n + 1, hp, hq => by
    have ih := div_mult hx (P := P) (Q := Q) (n := n) (fun i hi => hp i (by omega)) (fun i hi => hq i (by omega))
    have e : ∀ m, multI (x : Int) m = (mult x m : Int) := fun m => by rw [multI_pr (by simpa using hx)]; simp
    simp only [sumN, sumA]
    rw [ih]
    unfold divV
    rw [hp n (by omega), hq n (by omega)]
    simp only [Int.toNat_natCast, e]
    simp only [Int.natCast_add, Int.natCast_mul]
    grind
def upD (a : Nat → Nat) (Q n : Nat) : Nat := Q ^ sumA a n * prodA (fun i => a i ^ a i) n
def downD (a b : Nat → Nat) (P n : Nat) : Nat := P ^ sumA a n * prodA (fun i => b i ^ a i) n
theorem div_sides {a b : Nat → Nat} {p q : Nat → Int} {P Q n : Nat} (hp : ∀ i, i < n → p i = (a i : Int)) (hq : ∀ i, i < n → q i = (b i : Int)) (hP : 0 < P) (hQ : 0 < Q) (hz : ∀ i, i < n → 0 < a i → 0 < b i) :
    0 < upD a Q n ∧ 0 < downD a b P n ∧ ∀ x : Nat, Pr x → sumN (divV p q P Q (x : Int)) n = (mult x (upD a Q n) : Int) - (mult x (downD a b P n) : Int) := by
  have h2 : Pr 2 := ⟨by omega, fun d hd hdd => by have := Nat.mul_le_mul hd hd; omega⟩
  have ha : ∀ i, i < n → 0 < a i → 0 < a i := fun _ _ h => h
  have u2 := (mult_prod h2 (b := a) ha).2
  have d2 := (mult_prod h2 hz).2
  refine ⟨Nat.mul_pos (Nat.pow_pos hQ) u2, Nat.mul_pos (Nat.pow_pos hP) d2, fun x hx => ?_⟩
  rw [div_mult hx hp hq]
  unfold upD downD
  rw [mult_mul hx _ _ (Nat.pow_pos hQ) u2, mult_mul hx _ _ (Nat.pow_pos hP) d2, mult_power hx hQ, mult_power hx hP, (mult_prod hx (b := a) ha).1, (mult_prod hx hz).1]
  simp only [Int.natCast_add, Int.natCast_mul]
  omega
/-- A divergence speaks of primes. -/
theorem div_prim {p q : Nat → Int} {P Q n : Nat} (hp : ∀ i, i < n → 0 ≤ p i ∧ p i ≤ 4096) (hq : ∀ i, i < n → 0 ≤ q i ∧ q i ≤ 4096) (hn : n ≤ 16) (hP : 1 ≤ P ∧ P ≤ 4096) (hQ : 1 ≤ Q ∧ Q ≤ 4096) (hz : ∀ i, i < n → 0 < p i → 0 < q i) : Prim fun x => sumN (divV p q P Q x) n := by
  refine ⟨fun x => ?_, fun x hx => ?_⟩
  · have h1 := sumN_bound (f := divV p q P Q x) (B := 400000) (n := n) (fun i hi => divV_le x (hp i hi) (hq i hi) hP.2 hQ.2)
    have : (n : Int) * 400000 ≤ 6400000 := by omega
    omega
  · have aux : ∀ k, k ≤ n → sumN (divV p q P Q x) k ≠ 0 → 2 ≤ x ∧ x ≤ 4096 ∧ Pr x.toNat := by
      intro k
      induction k with
      | zero => intro _ h; exact absurd rfl h
      | succ k ih =>
        intro hk h
        by_cases h0 : sumN (divV p q P Q x) k = 0
        · have h1 : divV p q P Q x k ≠ 0 := fun e => h (by simp only [sumN]; rw [h0, e]; rfl)
          have hpk := hp k (by omega)
          have hqk := hq k (by omega)
          have hp0 : 0 < p k := by
            rcases Int.lt_or_le 0 (p k) with h2 | h2
            · exact h2
            · refine absurd ?_ h1
              unfold divV
              rw [show p k = 0 by omega]
              simp
          have hq0 := hz k (by omega) hp0
          have hs : ∀ m : Nat, 0 < m → m ≤ 4096 → multI x m ≠ 0 → 2 ≤ x ∧ x ≤ 4096 ∧ Pr x.toNat := fun m h3 h4 h5 => by
            obtain ⟨a1, a2, a3⟩ := multI_support h3 h5
            exact ⟨a2, by omega, a1⟩
          by_cases e1 : multI x (p k).toNat = 0
          · by_cases e2 : multI x P = 0
            · by_cases e3 : multI x (q k).toNat = 0
              · by_cases e4 : multI x Q = 0
                · refine absurd ?_ h1
                  unfold divV
                  rw [e1, e2, e3, e4]
                  simp
                · exact hs Q (by omega) (by omega) e4
              · exact hs _ (by omega) (by omega) e3
            · exact hs P (by omega) (by omega) e2
          · exact hs _ (by omega) (by omega) e1
        · exact ih (by omega) h0
    exact aux n (Nat.le_refl _) hx
/-- GIBBS. -/
theorem gibbs {a b : Nat → Nat} {P Q n : Nat} (hP : P = sumA a n) (hQ : Q = sumA b n) (hz : ∀ i, i < n → 0 < a i → 0 < b i) : downD a b P n ≤ upD a Q n ∧ (upD a Q n = downD a b P n → ∀ i, i < n → a i * Q = b i * P) ∧ ((∀ i, i < n → a i * Q = b i * P) → 0 < P → 0 < Q → upD a Q n = downD a b P n) := by
  unfold downD upD
  rw [hP, hQ]
  refine ⟨sums_le a b n, fun h => sums_eq hz h.symm, fun h hP hQ => ?_⟩
  have aux : ∀ k, k ≤ n → sumA b n ^ sumA a k * prodA (fun i => a i ^ a i) k = sumA a n ^ sumA a k * prodA (fun i => b i ^ a i) k := by
    intro k
    induction k with
    | zero => intro _; simp [sumA, prodA]
    | succ k ih =>
      intro hk
      have i1 := ih (by omega)
      have h1 := congrArg (fun y => y ^ a k) (h k (by omega))
      simp only [Nat.mul_pow] at h1
      simp only [sumA, prodA]
      rw [Nat.pow_add, Nat.pow_add]
      generalize sumA b n ^ sumA a k = t1 at *
      generalize sumA a n ^ sumA a k = t2 at *
      generalize prodA (fun i => a i ^ a i) k = t3 at *
      generalize prodA (fun i => b i ^ a i) k = t4 at *
      generalize sumA b n ^ a k = t5 at *
      generalize sumA a n ^ a k = t6 at *
      generalize a k ^ a k = t7 at *
      generalize b k ^ a k = t8 at *
      have e : t1 * t5 * (t3 * t7) = (t1 * t3) * (t7 * t5) := by grind
      rw [e, i1, h1]
      grind
  exact aux n (Nat.le_refl _)
end Go.Proofs.YtdhbphdgdkfhfaaDoor

/- dist.Divergence at right pairs. -/
namespace Go.Proofs.YtdhbphdgdkfhfaaDoor
open Go.RowKit Go.Maps

/-- Is a chance of q 0 where p's is not? -/
def zeroB (p q : Nat → Int) : Nat → Bool
  | 0 => false
  | k + 1 => zeroB p q k || (decide (0 < p k) && decide (q k = 0))
theorem zeroB_iff (p q : Nat → Int) : ∀ n, zeroB p q n = true ↔ ∃ i, i < n ∧ 0 < p i ∧ q i = 0
  | 0 => by simp [zeroB]
  | n + 1 => by
    have ih := zeroB_iff p q n
    simp only [zeroB, Bool.or_eq_true, Bool.and_eq_true, decide_eq_true_eq, ih]
    constructor
    · rintro (⟨i, h1, h2⟩ | h)
      · exact ⟨i, by omega, h2⟩
      · exact ⟨n, by omega, h⟩
    · rintro ⟨i, h1, h2⟩
      rcases Nat.lt_or_ge i n with h | h
      · exact Or.inl ⟨i, h, h2⟩
      · obtain rfl : i = n := by omega
        exact Or.inr h2
/-- Two numbers in boxes. -/
structure TwoNums (W0 W : World) (B1 B2 : Nat) (x y : Int) : Prop where
  below : Below W0.heap.size W0 W
  c1 : W.cell? ⟨B1, 0, none⟩ = some (.int .i64 x)
  c2 : W.cell? ⟨B2, 0, none⟩ = some (.int .i64 y)

theorem twoNums_a (W0 : World) (x y : Int) (t : TypeId) : TwoNums W0 ((W0.alloc (.cells #[.int .i64 x] t)).alloc (.cells #[.int .i64 y] t)).drew W0.heap.size (W0.heap.size + 1) x y :=
  ⟨(below_chain (new_below _ _) (new_below _ _)).drew, new_one (new_below _ _).drew, by
    show ((W0.alloc (.cells #[.int .i64 x] t)).alloc (.cells #[.int .i64 y] t)).cell? _ = _
    rw [World.cell?_alloc_at _ _ _ _ (by simp)]; rfl⟩
theorem twoNums_b (W0 : World) (x y : Int) (t : TypeId) : TwoNums W0 ((W0.alloc (.cells #[.int .i64 y] t)).alloc (.cells #[.int .i64 x] t)).drew (W0.heap.size + 1) W0.heap.size x y :=
  ⟨(below_chain (new_below _ _) (new_below _ _)).drew, by
    show ((W0.alloc (.cells #[.int .i64 y] t)).alloc (.cells #[.int .i64 x] t)).cell? _ = _
    rw [World.cell?_alloc_at _ _ _ _ (by simp)]; rfl, new_one (new_below _ _).drew⟩

set_option maxRecDepth 100000 in
set_option maxHeartbeats 4000000 in
theorem Divergence_right (a : Nat → Addr) (b o cap b' o' cap' n P Q : Nat) (p q : Nat → Int) (w : World) (hE : Errs w a) (h : RowAt w b o n p) (k : RowAt w b' o' n q) (h0 : twoErr p n q n = 0) (hP : sumN p n = P) (hQ : sumN q n = Q) :
    Calls Tryd.prog 15 #[.slice (some ⟨b, o, none⟩) n cap, .slice (some ⟨b', o', none⟩) n cap'] w fun e w' => ((zeroB p q n = true ∧ e = .returned (.tuple #[.agg #[.int .i64 0, .slice none 0 0], errV a 4])) ∨ (zeroB p q n = false ∧ ∃ dn v, e = .returned (.tuple #[.agg #[.int .i64 dn, v], .nilIface]) ∧ LogBy w.heap.size P (fun x => sumN (divV p q P Q x) n) w' dn v)) ∧ Below w.heap.size w w' := by
  obtain ⟨_, hn, hok1, hok2⟩ := twoErr_ok h0
  have h0n := hok1.posN
  have hP1 : 1 ≤ P ∧ P ≤ 4096 := by have := hok1.pos; have := hok1.le; omega
  have hQ1 : 1 ≤ Q ∧ Q ≤ 4096 := by have := hok2.pos; have := hok2.le; omega
  obtain ⟨W0, hW0⟩ : ∃ W0, W0 = ((w.alloc (.cells #[.slice (some ⟨b, o, none⟩) n cap] 22)).alloc (.cells #[.slice (some ⟨b', o', none⟩) n cap'] 22)).alloc (.cells #[.int .i64 0, .slice none 0 0] 39) := ⟨_, rfl⟩
  have hb0 : Below w.heap.size w W0 := by rw [hW0]; exact below_chain (below_chain (new_below _ _) (new_below _ _)) (new_below _ _)
  have hz0 : W0.heap.size = w.heap.size + 1 + 1 + 1 := by rw [hW0]; simp
  have hbox : ∀ W, Below W0.heap.size W0 W → W.cell? ⟨w.heap.size, 0, none⟩ = some (.slice (some ⟨b, o, none⟩) n cap) ∧ W.cell? ⟨w.heap.size + 1, 0, none⟩ = some (.slice (some ⟨b', o', none⟩) n cap') := fun W hb => by
    refine ⟨(cell_past ?_ hb).2, (cell_past ?_ hb).2⟩
    · rw [hW0]; exact new_one (below_chain (new_below _ _) (new_below _ _))
    · rw [hW0]
      have := new_one (w := w.alloc (.cells #[.slice (some ⟨b, o, none⟩) n cap] 22)) (x := .slice (some ⟨b', o', none⟩) n cap') (t := 22) (new_below _ (.cells #[.int .i64 0, .slice none 0 0] 39))
      rw [World.size_alloc] at this
      exact this
  have hres : ∀ W, Below W0.heap.size W0 W → W.cell? ⟨w.heap.size + 1 + 1, 0, none⟩ = some (.int .i64 0) ∧ W.cell? ⟨w.heap.size + 1 + 1, 1, none⟩ = some (.slice none 0 0) ∧ W.frozen? ⟨w.heap.size + 1 + 1, 0, none⟩ = false ∧ W.frozen? ⟨w.heap.size + 1 + 1, 1, none⟩ = false := fun W hb => by
    rw [hW0] at hb
    have := res_past hb
    simpa using this
  have hcp := checkPair_any a (.slice (some ⟨b, o, none⟩) n cap) (.slice (some ⟨b', o', none⟩) n cap') n n p q W0 (hE.below hb0) (Or.inr ⟨b, o, cap, rfl, h0n, h.later hb0⟩) (Or.inr ⟨b', o', cap', rfl, h0n, k.later hb0⟩) (by omega) (by omega)
  rw [h0, errV_zero] at hcp
  have HR : Hid (∀ W, Below W0.heap.size W0 W → RowAt W b o n p ∧ RowAt W b' o' n q) := fun W hb => ⟨(h.later hb0).later hb, (k.later hb0).later hb⟩
  have HTP : Hid (∀ W, Below W0.heap.size W0 W → Calls Tryd.prog 26 #[.slice (some ⟨b, o, none⟩) n cap] W fun e w' => e = .returned (.int .i64 P) ∧ w' = W) := fun W hb => by
    have := total_some b o cap n p W (HR.out W hb).1 (fun k hk => by have := hok1.part hk; omega) (fun i hi => by have := hok1.lt hi; omega) (by omega)
    rw [hP] at this
    exact this
  have HTQ : Hid (∀ W, Below W0.heap.size W0 W → Calls Tryd.prog 26 #[.slice (some ⟨b', o', none⟩) n cap'] W fun e w' => e = .returned (.int .i64 Q) ∧ w' = W) := fun W hb => by
    have := total_some b' o' cap' n q W (HR.out W hb).2 (fun k hk => by have := hok2.part hk; omega) (fun i hi => by have := hok2.lt hi; omega) (by omega)
    rw [hQ] at this
    exact this
  have HSO : Hid (∀ (W : World) (B1 B2 : Nat), TwoNums W0 W B1 B2 P Q → zeroB p q n = false → Calls Tryd.prog 27 #[.int .i64 P, .func (.func 28) #[] #[.pointer (some ⟨w.heap.size, 0, none⟩), .pointer (some ⟨B1, 0, none⟩), .pointer (some ⟨w.heap.size + 1, 0, none⟩), .pointer (some ⟨B2, 0, none⟩)]] W fun e w' => ∃ dn v, e = .returned (.tuple #[.agg #[.int .i64 dn, v], .nilIface]) ∧ LogBy W.heap.size P (fun x => sumN (divV p q P Q x) n) w' dn v ∧ Below W.heap.size W w') := fun W B1 B2 ht hzb =>
    sumOver_any 28 _ P (4 * n) (fun x => sumN (divV p q P Q x) n) W (enters_of Tryd.func28 (by kernel_rfl) rfl) hP1.1 hP1.2 (by omega) (fun x => by
      have h3 := sumN_bound (f := divV p q P Q x) (B := 400000) (n := n) (fun i hi => divV_le x (hok1.lt hi) (hok2.lt hi) hP1.2 hQ1.2)
      have : (n : Int) * 400000 ≤ 6400000 := by omega
      omega)
      (fun W' mb hb ho => Divergence_parts P mb w.heap.size B1 (w.heap.size + 1) B2 b o cap b' o' cap' n P Q p q W' ho (hbox W' (below_chain ht.below hb)).1 (cell_past ht.c1 hb).2 (hbox W' (below_chain ht.below hb)).2 (cell_past ht.c2 hb).2 (HR.out W' (below_chain ht.below hb)).1 (HR.out W' (below_chain ht.below hb)).2 (fun i hi => hok1.lt hi) (fun i hi => hok2.lt hi)
        (fun i hi h1 => by
          have h2 := (hok2.lt hi).1
          rcases Int.lt_or_le 0 (q i) with h3 | h3
          · exact h3
          · have : zeroB p q n = true := (zeroB_iff p q n).2 ⟨i, hi, h1, by omega⟩
            rw [hzb] at this; cases this) hP1 hQ1 hn)
  have HQN : Hid (∀ i, i < n → 0 ≤ q i) := hok2.nn
  have HE3 : Hid (∀ W, Below W0.heap.size W0 W → Errs W a) := fun W hb => (hE.below hb0).below hb
  have HLG : Hid (2 < w.heap.size) := cell_lt hE.c3
  have HB0 := Hid.mk' hb0
  have HBOX := Hid.mk' hbox
  have HRES := Hid.mk' hres
  have HW0 := Hid.mk' hW0
  have HZ0 := Hid.mk' hz0
  clear hE h k hb0 hbox hres hW0 hz0 hok1 hok2 h0 hP hQ
  obtain ⟨cp0, cq0⟩ := HBOX.out W0 (Below.refl _ _)
  go_enter Tryd.func15, Tryd.ntmps15
  go_upto_region 1 with fail
  rw [← HW0.out]
  go_wp2_with (go_at_call 25; refine hcp.mono ?_; rintro e w1 ⟨rfl, hw1⟩; rw [hw1]; clear hw1)
  clear hcp
  go_loopw [7, 8, 20] (fun _ _ i wr => ∃ k : Nat, k ≤ n ∧ i = .int .i64 k ∧ wr = W0 ∧ Hid (zeroB p q k = false)) (fun _ _ i _ => n - (intOf i).toNat)
  case atStart => exact ⟨0, Nat.zero_le _, rfl, rfl, rfl⟩
  case round =>
    obtain ⟨k, hk, rfl, hwr, HZB⟩ := hrel
    rw [hwr]
    clear hwr
    rcases Nat.lt_or_ge k n with h1 | h1
    · have hcP := (HR.out W0 (Below.refl _ _)).1 k h1
      have hcQ := (HR.out W0 (Below.refl _ _)).2 k h1
      have hkn : (k : Int) < (n : Int) := by omega
      have HZ1 : Hid (zeroB p q (k + 1) = (decide (0 < p k) && decide (q k = 0))) := by show (zeroB p q k || _) = _; rw [HZB.out, Bool.false_or]
      have HZT : Hid (0 < p k → q k = 0 → zeroB p q n = true) := fun h2 h3 => (zeroB_iff p q n).2 ⟨k, h1, h2, h3⟩
      obtain ⟨x, hx⟩ : ∃ x, x = p k := ⟨_, rfl⟩
      obtain ⟨y, hy⟩ : ∃ y, y = q k := ⟨_, rfl⟩
      rw [← hx] at hcP HZ1 HZT
      rw [← hy] at hcQ HZ1 HZT
      clear hx hy
      rcases Int.lt_or_le 0 x with hx | hx
      · have hxd : decide (0 < x) = true := decide_eq_true hx
        by_cases hy : y = 0
        · subst hy
          have HZF : Hid (zeroB p q n = true) := HZT.out hx rfl
          clear HZT HZ1
          have e3 := (HE3.out W0 (Below.refl _ _)).c3
          have e3s : (W0.setCell ⟨w.heap.size + 1 + 1, 0, none⟩ (.int .i64 0)).cell? ⟨2, 0, none⟩ = some (.iface 155 (.pointer (some (a 3)))) := by
            rw [World.cell?_setCell_far _ _ _ _ (by show w.heap.size + 1 + 1 ≠ 2; have := HLG.out; omega)]
            exact e3
          obtain ⟨c0, c1, q0, q1⟩ := HRES.out W0 (Below.refl _ _)
          go_wp2_with fail
          go_region
          all_goals
            go_wp2_with fail
            refine bodyPost_ret (v := .tuple #[.agg #[.int .i64 0, .slice none 0 0], .iface 155 (.pointer (some (a 3)))]) (by simp [results, Tryd.results15, go_sem, c0, c1]) rfl ⟨Or.inl ⟨HZF.out, rfl⟩, ?_⟩
            first
              | exact ((HB0.out.setCell (by show w.heap.size ≤ w.heap.size + 1 + 1; omega) _).setCell (by show w.heap.size ≤ w.heap.size + 1 + 1; omega) _).drew
              | exact HB0.out.drew
        · have hyb : (y == 0) = false := by simpa using hy
          have HZ2 : Hid (zeroB p q (k + 1) = false) := by show _ = _; rw [HZ1.out, hxd]; simpa using hy
          go_wp2_with fail
          exact ⟨⟨k + 1, h1, by go_num, trivial, HZ2⟩, by simp [intOf]; omega⟩
      · have hxd : decide (0 < x) = false := decide_eq_false (by omega)
        have HZ2 : Hid (zeroB p q (k + 1) = false) := by show _ = _; rw [HZ1.out, hxd]; rfl
        go_wp2_with fail
        exact ⟨⟨k + 1, h1, by go_num, trivial, HZ2⟩, by simp [intOf]; omega⟩
    · obtain rfl : k = n := by omega
      have hcur0 : Below W0.heap.size W0 W0 := Below.refl _ _
      go_wp2_with fail
      go_cut [9, 10] from 37 (fun s t wx => ∃ B1 B2 : Nat, s = .pointer (some ⟨B1, 0, none⟩) ∧ t = .pointer (some ⟨B2, 0, none⟩) ∧ Hid (TwoNums W0 wx B1 B2 P Q))
      case first =>
        clear cp0 cq0
        go_region_held3 (fun W => W.cell? ⟨w.heap.size, 0, none⟩ = some (.slice (some ⟨b, o, none⟩) k cap) ∧ W.cell? ⟨w.heap.size + 1, 0, none⟩ = some (.slice (some ⟨b', o', none⟩) k cap'))
          ((refine HBOX.out _ ?_; (first | exact hcur0 | exact hcur0.drew | exact (more_below hcur0 _).drew | exact (more_below (more_below hcur0 _) _).drew | exact more_below hcur0.drew _ | exact more_below (more_below hcur0.drew _) _ | exact more_below (more_below hcur0 _).drew _ | exact more_below hcur0 _ | exact more_below (more_below hcur0 _) _)))
          (first
            | (go_at_call_of 26 b; refine (HTP.out _ ?_).mono ?_; (first | exact hcur0 | exact hcur0.drew | exact (more_below hcur0 _).drew | exact (more_below (more_below hcur0 _) _).drew | exact more_below hcur0.drew _ | exact more_below (more_below hcur0.drew _) _ | exact more_below (more_below hcur0 _).drew _ | exact more_below hcur0 _ | exact more_below (more_below hcur0 _) _); rintro e w5 ⟨rfl, hw5⟩; rw [hw5]; clear hw5)
            | (go_at_call_of 26 b'; refine (HTQ.out _ ?_).mono ?_; (first | exact hcur0 | exact hcur0.drew | exact (more_below hcur0 _).drew | exact (more_below (more_below hcur0 _) _).drew | exact more_below hcur0.drew _ | exact more_below (more_below hcur0.drew _) _ | exact more_below (more_below hcur0 _).drew _ | exact more_below hcur0 _ | exact more_below (more_below hcur0 _) _); rintro e w5 ⟨rfl, hw5⟩; rw [hw5]; clear hw5))
        all_goals
          go_wp2_with fail
          go_meet
          first | exact ⟨_, _, rfl, rfl, twoNums_a _ _ _ _⟩ | exact ⟨_, _, rfl, rfl, twoNums_b _ _ _ _⟩
      case rest =>
      obtain ⟨B1, B2, rfl, rfl, HTN⟩ := hcut
      have hso := HSO.out wc B1 B2 HTN.out HZB.out
      have cB := HTN.out.c1
      go_wp2_with fail
      refine hso.mono ?_
      clear hso cB
      rintro e w6 ⟨dn, v, rfl, hlb, hb6⟩
      have hbw := below_chain HTN.out.below hb6
      obtain ⟨c0, c1, q0, q1⟩ := HRES.out w6 hbw
      have HBW := Hid.mk' (below_chain HB0.out hbw)
      have HLT : Hid (w.heap.size + 1 + 1 < wc.heap.size) := by have h2 := HZ0.out; have h3 := HTN.out.below.size; show _ < _; omega
      have HLB := Hid.mk' hlb
      obtain ⟨ad, n', c', rfl⟩ := hlb.form
      clear hlb hb6 hbw
      go_wp2_with fail
      refine bodyPost_ret (v := .tuple #[.agg #[.int .i64 dn, .slice ad n' c'], .nilIface]) (by simp [results, Tryd.results15, go_sem, c0, c1]) rfl ⟨Or.inr ⟨HZB.out, _, .slice ad n' c', rfl, (HLB.out.set HLT.out _ _).lower (by have := HLT.out; omega)⟩, ?_⟩
      exact (HBW.out.setCell (by show w.heap.size ≤ w.heap.size + 1 + 1; omega) _).setCell (by show w.heap.size ≤ w.heap.size + 1 + 1; omega) _

set_option maxRecDepth 100000 in
set_option maxHeartbeats 1000000 in
theorem Divergence_bad (a : Nat → Addr) (v u : Value) (n m : Nat) (p q : Nat → Int) (w : World) (hE : Errs w a) (h : NumsAt w v n p) (k : NumsAt w u m q) (hn : n ≤ 400) (hm : m ≤ 400) (h0 : twoErr p n q m ≠ 0) :
    Calls Tryd.prog 15 #[v, u] w fun e w' => e = .returned (.tuple #[.agg #[.int .i64 0, .slice none 0 0], errV a (twoErr p n q m)]) ∧ Below w.heap.size w w' := by
  obtain ⟨ad, cap, rfl⟩ := h.form
  obtain ⟨ad', cap', rfl⟩ := k.form
  obtain ⟨W0, hW0⟩ : ∃ W0, W0 = ((w.alloc (.cells #[.slice ad n cap] 22)).alloc (.cells #[.slice ad' m cap'] 22)).alloc (.cells #[.int .i64 0, .slice none 0 0] 39) := ⟨_, rfl⟩
  have hb0 : Below w.heap.size w W0 := by rw [hW0]; exact below_chain (below_chain (new_below _ _) (new_below _ _)) (new_below _ _)
  have hbox : W0.cell? ⟨w.heap.size, 0, none⟩ = some (.slice ad n cap) := by rw [hW0]; exact new_one (below_chain (new_below _ _) (new_below _ _))
  have hbox2 : W0.cell? ⟨w.heap.size + 1, 0, none⟩ = some (.slice ad' m cap') := by
    rw [hW0]
    have := new_one (w := w.alloc (.cells #[.slice ad n cap] 22)) (x := .slice ad' m cap') (t := 22) (new_below _ (.cells #[.int .i64 0, .slice none 0 0] 39))
    rw [World.size_alloc] at this
    exact this
  have hres : W0.cell? ⟨w.heap.size + 1 + 1, 0, none⟩ = some (.int .i64 0) ∧ W0.cell? ⟨w.heap.size + 1 + 1, 1, none⟩ = some (.slice none 0 0) ∧ W0.frozen? ⟨w.heap.size + 1 + 1, 0, none⟩ = false ∧ W0.frozen? ⟨w.heap.size + 1 + 1, 1, none⟩ = false := by
    rw [hW0]
    have := res_past (w := (w.alloc (.cells #[.slice ad n cap] 22)).alloc (.cells #[.slice ad' m cap'] 22)) (x := .int .i64 0) (y := .slice none 0 0) (t := 39) (Below.refl _ _)
    simpa using this
  have hcp := checkPair_any a (.slice ad n cap) (.slice ad' m cap') n m p q W0 (hE.below hb0) (h.later hb0) (k.later hb0) (by omega) (by omega)
  rw [errV_pos a h0] at hcp ⊢
  generalize a (twoErr p n q m - 1) = ea at hcp ⊢
  obtain ⟨c0, c1, q0, q1⟩ := hres
  have HB0 := Hid.mk' hb0
  have HW0 := Hid.mk' hW0
  clear hE h k hb0 hW0 h0
  go_enter Tryd.func15, Tryd.ntmps15
  go_upto_region 1 with fail
  rw [← HW0.out]
  go_wp2_with (go_at_call 25; refine hcp.mono ?_; rintro e w1 ⟨rfl, hw1⟩; rw [hw1]; clear hw1)
  refine bodyPost_ret (v := .tuple #[.agg #[.int .i64 0, .slice none 0 0], .iface 155 (.pointer (some ea))]) (by simp [results, Tryd.results15, go_sem, c0, c1]) rfl ⟨rfl, ?_⟩
  exact (HB0.out.setCell (by show w.heap.size ≤ w.heap.size + 1 + 1; omega) _).setCell (by show w.heap.size ≤ w.heap.size + 1 + 1; omega) _
end Go.Proofs.YtdhbphdgdkfhfaaDoor

/- whole.Lowest at any fraction. -/
namespace Go.Proofs.YtdhbphdgdkfhfaaDoor
open Go.RowKit

theorem quo_nat30 {a b : Nat} (h : a ≤ 1073741824) : wrap64 ((a : Int) / (b : Int)) = ((a / b : Nat) : Int) := by
  have h0 : (a : Int) / (b : Int) = ((a / b : Nat) : Int) := by simp
  have h1 : a / b ≤ a := Nat.div_le_self _ _
  rw [h0]
  generalize a / b = q at h1
  rw [w64 _ (by omega)]

set_option maxRecDepth 10000 in
set_option maxHeartbeats 1000000 in
theorem lowest_any (n : Int) (d : Nat) (w : World) (h1 : -1073741824 ≤ n) (h2 : n ≤ 1073741824) (hd0 : 1 ≤ d) (hd1 : d ≤ 1073741824) (g : Nat) (hg : g = Nat.gcd n.natAbs d) : Calls Tryd.prog 33 #[.int .i64 n, .int .i64 d] w fun e w' => e = .returned (.agg #[.int .i64 (n.tdiv (g : Int)), .int .i64 ((d / g : Nat) : Int)]) ∧ Below w.heap.size w w' := by
  have hB0 : Below w.heap.size w (w.alloc (.cells #[.int .i64 0, .int .i64 0] 45)) := (Below.refl _ _).alloc (Nat.le_refl _) _
  have hgc := GCD_any n d (w.alloc (.cells #[.int .i64 0, .int .i64 0] 45)) (by omega) (by omega) (by omega) (by omega)
  have hgi : Int.gcd n (d : Int) = g := by rw [hg]; simp [Int.gcd]
  rw [hgi] at hgc
  have hgp : 0 < g := by rw [hg]; exact Nat.gcd_pos_of_pos_right _ hd0
  have hgz : ¬ g = 0 := by omega
  have hgl : g ≤ d := by rw [hg]; exact Nat.gcd_le_right _ (by omega)
  have HB := Hid.mk' hB0
  clear hB0 hgi hg
  go_enter Tryd.func33, Tryd.ntmps33
  go_wp2_with fail
  refine hgc.mono ?_
  clear hgc
  rintro e w1 ⟨rfl, m, rfl⟩
  go_wp2_with fail
  go_region
  go_wp2_with fail
  refine bodyPost_ret (v := .agg #[.int .i64 (n.tdiv (g : Int)), .int .i64 (wrap64 ((d : Int) / (g : Int)))]) (by simp [results, Tryd.results33, go_sem]) rfl ⟨by rw [quo_nat30 hd1], ?_⟩
  exact ((below_drewN HB.out _).setCell (by simp) _).setCell (by simp) _
end Go.Proofs.YtdhbphdgdkfhfaaDoor

/- dist.Variation. -/
namespace Go.Proofs.YtdhbphdgdkfhfaaDoor
open Go.RowKit

/-- How far two are at a place, over both sums. -/
def apV (p q : Nat → Int) (P Q : Nat) (i : Nat) : Int := ((p i * Q - q i * P).natAbs : Int)
theorem mul_le6 {x : Int} {Q : Nat} (hx : 0 ≤ x ∧ x ≤ 4096) (hQ : Q ≤ 4096) : 0 ≤ x * (Q : Int) ∧ x * (Q : Int) ≤ 16777216 := by
  obtain ⟨y, rfl⟩ := Int.eq_ofNat_of_zero_le hx.1
  have h1 : y * Q ≤ 4096 * 4096 := Nat.mul_le_mul (by omega) hQ
  have h2 : (y : Int) * (Q : Int) = ((y * Q : Nat) : Int) := by simp
  rw [h2]
  generalize y * Q = z at h1
  omega
theorem apV_le {p q : Nat → Int} {P Q i : Nat} (hp : 0 ≤ p i ∧ p i ≤ 4096) (hq : 0 ≤ q i ∧ q i ≤ 4096) (hP : P ≤ 4096) (hQ : Q ≤ 4096) : 0 ≤ apV p q P Q i ∧ apV p q P Q i ≤ 16777216 := by
  unfold apV
  have h1 := mul_le6 hp hQ
  have h2 := mul_le6 hq hP
  generalize p i * (Q : Int) = a at *
  generalize q i * (P : Int) = b at *
  omega

set_option maxRecDepth 100000 in
set_option maxHeartbeats 4000000 in
theorem Variation_right (a : Nat → Addr) (b o cap b' o' cap' n P Q g : Nat) (p q : Nat → Int) (w : World) (hE : Errs w a) (h : RowAt w b o n p) (k : RowAt w b' o' n q) (h0 : twoErr p n q n = 0) (hP : sumN p n = P) (hQ : sumN q n = Q) (hg : g = Nat.gcd (sumN (apV p q P Q) n).natAbs (2 * P * Q)) :
    Calls Tryd.prog 17 #[.slice (some ⟨b, o, none⟩) n cap, .slice (some ⟨b', o', none⟩) n cap'] w fun e w' => e = .returned (.tuple #[.agg #[.int .i64 ((sumN (apV p q P Q) n).tdiv (g : Int)), .int .i64 ((2 * P * Q / g : Nat) : Int)], .nilIface]) ∧ Below w.heap.size w w' := by
  obtain ⟨_, hn, hok1, hok2⟩ := twoErr_ok h0
  have h0n := hok1.posN
  have hP1 : 1 ≤ P ∧ P ≤ 4096 := by have := hok1.pos; have := hok1.le; omega
  have hQ1 : 1 ≤ Q ∧ Q ≤ 4096 := by have := hok2.pos; have := hok2.le; omega
  obtain ⟨D, hD⟩ : ∃ D, D = 2 * P * Q := ⟨_, rfl⟩
  have hD1 : 1 ≤ D ∧ D ≤ 33554432 := by
    rw [hD]
    refine ⟨Nat.mul_pos (by omega) (by omega), ?_⟩
    have : 2 * P * Q ≤ 8192 * 4096 := Nat.mul_le_mul (by omega) hQ1.2
    omega
  have hDw : wrap64 (2 * (P : Int) * (Q : Int)) = (D : Int) := by
    rw [show 2 * (P : Int) * (Q : Int) = ((2 * P * Q : Nat) : Int) by simp, ← hD, w64 _ (by omega)]
  rw [← hD] at hg ⊢
  obtain ⟨W0, hW0⟩ : ∃ W0, W0 = w.alloc (.cells #[.int .i64 0, .int .i64 0] 45) := ⟨_, rfl⟩
  have hb0 : Below w.heap.size w W0 := by rw [hW0]; exact new_below _ _
  have hres : ∀ W, Below W0.heap.size W0 W → W.cell? ⟨w.heap.size, 0, none⟩ = some (.int .i64 0) ∧ W.cell? ⟨w.heap.size, 1, none⟩ = some (.int .i64 0) ∧ W.frozen? ⟨w.heap.size, 0, none⟩ = false ∧ W.frozen? ⟨w.heap.size, 1, none⟩ = false := fun W hb => by
    rw [hW0] at hb
    exact res_past hb
  have hcp := checkPair_any a (.slice (some ⟨b, o, none⟩) n cap) (.slice (some ⟨b', o', none⟩) n cap') n n p q W0 (hE.below hb0) (Or.inr ⟨b, o, cap, rfl, h0n, h.later hb0⟩) (Or.inr ⟨b', o', cap', rfl, h0n, k.later hb0⟩) (by omega) (by omega)
  rw [h0, errV_zero] at hcp
  have HR : Hid (RowAt W0 b o n p ∧ RowAt W0 b' o' n q) := ⟨h.later hb0, k.later hb0⟩
  have htp := total_some b o cap n p W0 HR.out.1 (fun k hk => by have := hok1.part hk; omega) (fun i hi => by have := hok1.lt hi; omega) (by omega)
  have htq := total_some b' o' cap' n q W0 HR.out.2 (fun k hk => by have := hok2.part hk; omega) (fun i hi => by have := hok2.lt hi; omega) (by omega)
  rw [hP] at htp
  rw [hQ] at htq
  have HPI : Hid (∀ i, i < n → 0 ≤ p i ∧ p i ≤ 4096) := fun i hi => hok1.lt hi
  have HQI : Hid (∀ i, i < n → 0 ≤ q i ∧ q i ≤ 4096) := fun i hi => hok2.lt hi
  have HSB : Hid (∀ k, k ≤ n → 0 ≤ sumN (apV p q P Q) k ∧ sumN (apV p q P Q) k ≤ 268435456) := fun k hk => by
    have h1 := sumN_nonneg (z := apV p q P Q) (n := k) (fun i hi => (apV_le (HPI.out i (by omega)) (HQI.out i (by omega)) hP1.2 hQ1.2).1)
    have h2 := sumN_bound (f := apV p q P Q) (B := 16777216) (n := k) (fun i hi => by have := apV_le (HPI.out i (by omega)) (HQI.out i (by omega)) hP1.2 hQ1.2; omega)
    have : (k : Int) * 16777216 ≤ 268435456 := by omega
    omega
  have hDu : D ≤ 1073741824 := Nat.le_trans hD1.2 (by decide)
  have hSn := HSB.out n (Nat.le_refl _)
  have HLO : Hid (∀ W : World, Calls Tryd.prog 33 #[.int .i64 (sumN (apV p q P Q) n), .int .i64 D] W fun e w' => e = .returned (.agg #[.int .i64 ((sumN (apV p q P Q) n).tdiv (g : Int)), .int .i64 ((D / g : Nat) : Int)]) ∧ Below W.heap.size W w') := fun W => lowest_any _ D W (Int.le_trans (by decide) hSn.1) (Int.le_trans hSn.2 (by decide)) hD1.1 hDu g hg
  clear hSn hDu
  have HB0 := Hid.mk' hb0
  have HRES := Hid.mk' hres
  have HW0 := Hid.mk' hW0
  have HDW := Hid.mk' hDw
  clear hE h k hb0 hres hW0 hok1 hok2 h0 hP hQ hD hg hDw
  go_enter Tryd.func17, Tryd.ntmps17
  go_upto_region 1 with fail
  rw [← HW0.out]
  go_wp2_with (first
    | (go_at_call 25; refine hcp.mono ?_; rintro e w1 ⟨rfl, hw1⟩; rw [hw1]; clear hw1)
    | (go_at_call_of 26 b; refine htp.mono ?_; rintro e w1 ⟨rfl, hw1⟩; rw [hw1]; clear hw1)
    | (go_at_call_of 26 b'; refine htq.mono ?_; rintro e w1 ⟨rfl, hw1⟩; rw [hw1]; clear hw1))
  clear hcp htp htq
  go_loopw [9, 10, 24] (fun s _ i wr => ∃ k : Nat, k ≤ n ∧ s = .int .i64 (sumN (apV p q P Q) k) ∧ i = .int .i64 k ∧ Hid (Below W0.heap.size W0 wr)) (fun _ _ i _ => n - (intOf i).toNat)
  case atStart => exact ⟨0, Nat.zero_le _, rfl, rfl, Hid.mk' (Below.refl _ _)⟩
  case round =>
    obtain ⟨k, hk, rfl, rfl, HW⟩ := hrel
    rcases Nat.lt_or_ge k n with h1 | h1
    · have hcP := (HR.out.1.later HW.out) k h1
      have hcQ := (HR.out.2.later HW.out) k h1
      have hkn : (k : Int) < (n : Int) := by omega
      have hk0 : (0 : Int) ≤ (k : Int) := by omega
      have HV : Hid (sumN (apV p q P Q) (k + 1) = sumN (apV p q P Q) k + ((p k * Q - q k * P).natAbs : Int)) := rfl
      have hs1 := HSB.out k hk
      have hx := mul_le6 (HPI.out k h1) hQ1.2
      have hy := mul_le6 (HQI.out k h1) hP1.2
      have hxw := w64 (p k * (Q : Int)) (by omega)
      have hyw := w64 (q k * (P : Int)) (by omega)
      generalize p k = x at *
      generalize q k = y at *
      obtain ⟨A, hA⟩ : ∃ A, A = x * (Q : Int) := ⟨_, rfl⟩
      obtain ⟨B, hB⟩ : ∃ B, B = y * (P : Int) := ⟨_, rfl⟩
      rw [← hA] at hx hxw HV
      rw [← hB] at hy hyw HV
      have hxm : wrap64 (x * (Q : Int)) = A := by rw [← hA]; exact hxw
      have hym : wrap64 (y * (P : Int)) = B := by rw [← hB]; exact hyw
      generalize sumN (apV p q P Q) k = S at *
      have hsz := fun W => size_any (A - B) W (by omega) (by omega)
      have hdf : wrap64 (A - B) = A - B := w64 _ (by omega)
      clear hA hB hxw hyw
      go_wp2_with fail
      go_quiet ((first | (go_at_call 32; exact (hsz _).mono fun _ _ h => ⟨h.1, _, h.2⟩)))
      go_wp2_with fail
      exact ⟨⟨k + 1, by omega, by rw [HV.out], by go_num, below_drewN HW.out _⟩, by simp [intOf]; omega⟩
    · obtain rfl : k = n := by omega
      obtain ⟨c0, c1, q0, q1⟩ := HRES.out wr HW.out
      have hlo := HLO.out wr
      have HBW := Hid.mk' (below_chain HB0.out HW.out)
      clear HLO HRES
      go_wp2_with fail
      rw [HDW.out]
      refine hlo.mono ?_
      clear hlo
      rintro e w2 ⟨rfl, hb2⟩
      have d0 := (cell_past c0 hb2).2
      have d1 := (cell_past c1 hb2).2
      have e0 := (frozen_past c0 q0 hb2).2
      have e1 := (frozen_past c1 q1 hb2).2
      have HB2 := Hid.mk' (below_chain HBW.out hb2)
      clear c0 c1 q0 q1 hb2
      go_wp2_with fail
      refine bodyPost_ret (v := .tuple #[.agg #[.int .i64 ((sumN (apV p q P Q) k).tdiv (g : Int)), .int .i64 ((D / g : Nat) : Int)], .nilIface]) (by simp [results, Tryd.results17, go_sem, d0, d1]) rfl ⟨rfl, ?_⟩
      exact (HB2.out.setCell (Nat.le_refl _) _).setCell (Nat.le_refl _) _

set_option maxRecDepth 100000 in
set_option maxHeartbeats 1000000 in
theorem Variation_bad (a : Nat → Addr) (v u : Value) (n m : Nat) (p q : Nat → Int) (w : World) (hE : Errs w a) (h : NumsAt w v n p) (k : NumsAt w u m q) (hn : n ≤ 400) (hm : m ≤ 400) (h0 : twoErr p n q m ≠ 0) :
    Calls Tryd.prog 17 #[v, u] w fun e w' => e = .returned (.tuple #[.agg #[.int .i64 0, .int .i64 0], errV a (twoErr p n q m)]) ∧ Below w.heap.size w w' := by
  obtain ⟨ad, cap, rfl⟩ := h.form
  obtain ⟨ad', cap', rfl⟩ := k.form
  obtain ⟨W0, hW0⟩ : ∃ W0, W0 = w.alloc (.cells #[.int .i64 0, .int .i64 0] 45) := ⟨_, rfl⟩
  have hb0 : Below w.heap.size w W0 := by rw [hW0]; exact new_below _ _
  have hres : W0.cell? ⟨w.heap.size, 0, none⟩ = some (.int .i64 0) ∧ W0.cell? ⟨w.heap.size, 1, none⟩ = some (.int .i64 0) ∧ W0.frozen? ⟨w.heap.size, 0, none⟩ = false ∧ W0.frozen? ⟨w.heap.size, 1, none⟩ = false := by
    rw [hW0]
    exact res_past (Below.refl _ _)
  have hcp := checkPair_any a (.slice ad n cap) (.slice ad' m cap') n m p q W0 (hE.below hb0) (h.later hb0) (k.later hb0) (by omega) (by omega)
  rw [errV_pos a h0] at hcp ⊢
  generalize a (twoErr p n q m - 1) = ea at hcp ⊢
  obtain ⟨c0, c1, q0, q1⟩ := hres
  have HB0 := Hid.mk' hb0
  have HW0 := Hid.mk' hW0
  clear hE h k hb0 hW0 h0
  go_enter Tryd.func17, Tryd.ntmps17
  go_upto_region 1 with fail
  rw [← HW0.out]
  go_wp2_with (go_at_call 25; refine hcp.mono ?_; rintro e w1 ⟨rfl, hw1⟩; rw [hw1]; clear hw1)
  refine bodyPost_ret (v := .tuple #[.agg #[.int .i64 0, .int .i64 0], .iface 155 (.pointer (some ea))]) (by simp [results, Tryd.results17, go_sem, c0, c1]) rfl ⟨rfl, ?_⟩
  exact (HB0.out.setCell (Nat.le_refl _) _).setCell (Nat.le_refl _) _
end Go.Proofs.YtdhbphdgdkfhfaaDoor

/- The law's closed fact: of a fair coin the entropy is 1. -/
namespace Go.Proofs.YtdhbphdgdkfhfaaDoor
open Go.RowKit Go.Maps

theorem pr_two' : Pr 2 := (isPr_iff 2).1 (by decide)
theorem coin_val (x : Int) : sumN (entV (fun _ => 3) 6 x) 2 = atL [((2 : Int), (6 : Int))] x := by
  have h := multI_step x (n := 6) (d := 2) (by decide) pr_two' (by decide)
  have e : 6 / 2 = 3 := by decide
  rw [e] at h
  show 0 + (3 * multI x 6 - 3 * multI x (3 : Int).toNat) + (3 * multI x 6 - 3 * multI x (3 : Int).toNat) = if (2 : Int) = x then 6 else 0
  have e3 : (3 : Int).toNat = 3 := rfl
  rw [e3, h]
  rw [show ((2 : Nat) : Int) = 2 from rfl]
  by_cases hx : x = 2
  · subst hx; simp; omega
  · rw [if_neg hx, if_neg (fun e => hx e.symm)]; omega
theorem coin_list {base : Nat} {w : World} {dn : Int} {v : Value} (h : LogBy base 6 (fun x => sumN (entV (fun _ => 3) 6 x) 2) w dn v) : dn = 1 ∧ OwnAt w v 1 (fun _ => 2) (fun _ => 1) := by
  obtain ⟨l, hr, hv, _, hd, hl⟩ := h.list
  have he : ∀ x, atL l x = atL [((2 : Int), (6 : Int))] x := fun x => by rw [hv, coin_val]
  have hr' : Rising [((2 : Int), (6 : Int))] := List.pairwise_singleton _ _
  rw [gList_same hr hr' he, over_same hr hr' he] at hl
  rw [gList_same hr hr' he] at hd
  have e1 : overL (gList 6 (List.map Prod.snd [((2 : Int), (6 : Int))])) [((2 : Int), (6 : Int))] = [(2, 1)] := by decide
  rw [e1] at hl
  refine ⟨by rw [hd]; decide, ?_⟩
  rcases hl with ⟨_, h0⟩ | ⟨g, cap, h1, h2⟩
  · cases h0
  · refine Or.inr ⟨g, cap, h1, fun k hk => ?_⟩
    obtain rfl : k = 0 := by omega
    exact h2 0 (by decide)

set_option maxRecDepth 100000 in
set_option maxHeartbeats 1000000 in
theorem coin_any (a : Nat → Addr) (w : World) (hE : Errs w a) : Calls Tryd.prog 5 #[] w fun e w' => e = .returned (.bool true) ∧ Below w.heap.size w w' := by
  have hb0 : Below w.heap.size w (w.alloc (.cells #[.int .i64 3, .int .i64 3] 3)) := new_below _ _
  have hent := Entropy_ok a w.heap.size 0 2 2 6 (fun _ => 3) (w.alloc (.cells #[.int .i64 3, .int .i64 3] 3)) (hE.below hb0) (fun i hi => by
    rcases (show i = 0 ∨ i = 1 by omega) with rfl | rfl
    · simp
    · simp) (by decide) (by decide) (fun i _ => by decide) (by decide) (by decide) (by decide) (by decide)
  have HB0 := Hid.mk' hb0
  clear hE hb0
  go_enter Tryd.func5, Tryd.ntmps5
  go_wp2_with fail
  refine hent.mono ?_
  clear hent
  rintro e w1 ⟨dn, v, rfl, hlb, hb1⟩
  obtain ⟨rfl, hown⟩ := coin_list hlb
  obtain ⟨ad, m, cap, rfl⟩ := own_form hown
  have hbW : Below w1.heap.size w1 ((w1.alloc (.cells #[.int .i64 1, .slice ad m cap] 39)).alloc (.cells #[.int .i64 2, .int .i64 1] 52)) := below_chain (new_below _ _) (new_below _ _)
  have hS := same_own 1 (.slice ad m cap) (.slice (some ⟨w1.heap.size + 1, 0, none⟩) 1 1) 1 (fun _ => 2) (fun _ => 1) ((w1.alloc (.cells #[.int .i64 1, .slice ad m cap] 39)).alloc (.cells #[.int .i64 2, .int .i64 1] 52)) (OwnAt.later hown hbW)
    (Or.inr ⟨w1.heap.size + 1, 1, rfl, fun k hk => by
      obtain rfl : k = 0 := by omega
      exact ⟨by simp, by simp⟩⟩) (by decide)
  have HB := Hid.mk' (below_chain (below_chain HB0.out hb1) hbW)
  clear hlb hown hb1 hbW HB0
  go_wp2_with fail
  refine hS.mono ?_
  clear hS
  rintro e w2 ⟨rfl, hb2⟩
  go_wp2_with fail
  go_ret
  exact ⟨rfl, below_chain HB.out hb2⟩
end Go.Proofs.YtdhbphdgdkfhfaaDoor

/- The law's copies of lists. -/
namespace Go.Proofs.YtdhbphdgdkfhfaaDoor
open Go.RowKit

theorem append_zeroI (w : World) (ty : TypeId) (ad : Option Addr) (cap : Nat) : (Builtin.append_ #[22, 22] ty #[.slice none 0 0, .slice ad 0 cap]).run Tryd.prog w = .ok (.slice none 0 0) w := by
  obtain ⟨i, hi, hi2⟩ := Option.map_eq_some_iff.1 Tryd.infoInt
  refine run_append_nothing w _ _ ty 3 i Tryd.underlying22 hi none 0 0 (Nat.le_refl _) _ ?_
  cases ad with
  | none => exact Src.ofNil w Tryd.underlying22 cap
  | some a => exact Src.ofSlice w Tryd.underlying22 a 0 cap [] (by simp) (fun j u h => by simp at h) (fun u h => by simp at h)
theorem wpList_append_zeroI {w : World} {ops : Array Oper} {rest : List Oper} {o : Oper} {a : Act} {Q : Exit → Act → World → Prop} (hgd : o.guard = none) (s x : Operand)
    (ho : o.op = .call { callee := .builtin .append, args := #[s, x], argTypes := #[22, 22] })
    (ad : Option Addr) (cap : Nat) (hs : a.eval s = .slice none 0 0) (hx : a.eval x = .slice ad 0 cap)
    (h : wpList Tryd.prog ops Q rest (a.put o.dst (.slice none 0 0)) w) : wpList Tryd.prog ops Q (o :: rest) a w := by
  refine wpList_plain hgd fun K hK => ?_
  have hrun := append_zeroI w o.type ad cap
  unfold Oper.wp
  simp [execOp, ho, resolve, invoke, builtin, hs, hx, hrun, Result.andThen]
  exact hK _ _ h

theorem numsAt_own {w : World} {base : Nat} {v : Value} {n : Nat} {z : Nat → Int} (h : w.ownsRow base 3 1 v n (numCells z n)) : NumsAt w v n z := by
  rcases h.2 with ⟨hv, h0⟩ | ⟨g, cap, cur, hv, _⟩
  · exact Or.inl ⟨none, 0, hv, h0⟩
  · rcases Nat.eq_zero_or_pos n with h0 | h0
    · exact Or.inl ⟨_, _, by rw [hv, h0], h0⟩
    · subst hv
      exact Or.inr ⟨g, 0, cap, rfl, h0, rowAt_of_row h⟩
set_option maxRecDepth 100000 in
set_option maxHeartbeats 1000000 in
theorem ints_row (v : Value) (n : Nat) (z : Nat → Int) (w : World) (h : NumsAt w v n z) (hn : n ≤ 100000) :
    Calls Tryd.prog 9 #[v] w fun e w' => ∃ v', e = .returned v' ∧ w'.ownsRow w.heap.size 3 1 v' n (numCells z n) ∧ Below w.heap.size w w' := by
  rcases h with ⟨ad, cap, rfl, rfl⟩ | ⟨b, o, cap, rfl, h0, hr⟩
  · go_enter Tryd.func9, Tryd.ntmps9
    go_wp2_with (at_builtin; go_must (refine wpList_append_zeroI rfl _ _ rfl ad cap rfl rfl ?_))
    go_ret
    exact ⟨_, rfl, ⟨rfl, Or.inl ⟨rfl, rfl⟩⟩, Below.refl _ _⟩
  · obtain ⟨i, hi, hi2⟩ := Option.map_eq_some_iff.1 Tryd.infoInt
    obtain ⟨hz, hsz, hby⟩ : i.zero = some (.int .i64 0) ∧ i.size = 1 ∧ i.bytes = 8 := by simpa using hi2
    have HR := Hid.mk' hr
    have HI : Hid (Tryd.prog.info? 3 = some i) := hi
    have HZ : Hid (i.zero = some (.int .i64 0)) := hz
    have HS : Hid (i.size = 1) := hsz
    have HY : Hid (i.bytes = 8) := hby
    have HC : Hid (∀ u, u ∈ numCells z n → u.oneCell' = true) := fun u hu => by obtain ⟨x, rfl⟩ := numCells_ints z n u hu; rfl
    have HL : Hid ((numCells z n).length = n * 1) := by show _ = _; rw [numCells_length, Nat.mul_one]
    clear hr hi2 hi hz hsz hby
    go_enter Tryd.func9, Tryd.ntmps9
    go_wp2_with (at_builtin; go_must (refine wpList_append_lies _ rfl _ _ _ rfl w.heap.size 3 i _ 1 8 Tryd.underlying22 HI.out HZ.out HS.out HY.out rfl (by omega) (.slice none 0 0) 0 [] rfl ⟨rfl, Or.inl ⟨rfl, rfl⟩⟩ ⟨b, o, none⟩ n cap (numCells z n) rfl HL.out (fun j u hu => numCells_news HR.out j u hu) HC.out h0 (by unfold maxLen; omega) (by omega) (by simp) _ rfl ?_; intro g cap' w1 hown hgrow hat hlt; have HOWN := Hid.mk' hown; have HG := Hid.mk' hgrow; clear hown hgrow hat))
    go_ret
    exact ⟨_, rfl, by simpa using HOWN.out, (Below.refl _ _).grown HG.out (Nat.le_refl _) (fun k hk => by cases hk)⟩
theorem ints_any (v : Value) (n : Nat) (z : Nat → Int) (w : World) (h : NumsAt w v n z) (hn : n ≤ 100000) :
    Calls Tryd.prog 9 #[v] w fun e w' => ∃ v', e = .returned v' ∧ NumsAt w' v' n z ∧ Below w.heap.size w w' := by
  refine (ints_row v n z w h hn).mono ?_
  rintro e w' ⟨v', rfl, h1, h2⟩
  exact ⟨v', rfl, numsAt_own h1, h2⟩
end Go.Proofs.YtdhbphdgdkfhfaaDoor

/- coded of an error by its number. -/
namespace Go.Proofs.YtdhbphdgdkfhfaaDoor
open Go.RowKit

theorem coded_errV (a : Nat → Addr) (c : Nat) (hc : c ≤ 8) (w : World) (h : Errs w a) :
    Calls Tryd.prog 7 #[errV a c, .int .i64 (c : Int)] w fun e w' => e = .returned (.bool true) ∧ Below w.heap.size w w' := by
  by_cases h0 : c = 0
  · subst h0
    rw [errV_zero]
    refine (coded_nil 0 w).mono ?_
    rintro e w' ⟨rfl, rfl⟩
    exact ⟨rfl, Below.refl _ _⟩
  · rw [errV_pos a h0]
    have h1 := coded_err a (c - 1) (by omega) (c : Int) w h
    have e : decide ((c : Int) = ((c - 1 : Nat) : Int) + 1) = true := decide_eq_true (by omega)
    rw [e] at h1
    exact h1
end Go.Proofs.YtdhbphdgdkfhfaaDoor

/- The law DistGibbs. -/
namespace Go.Proofs.YtdhbphdgdkfhfaaDoor
open Go.RowKit

theorem twoErr_le3 (p q : Nat → Int) (n m : Nat) : twoErr p n q m ≤ 3 := by
  have h1 := weightsErr_le p n
  have h2 := weightsErr_le q m
  unfold twoErr
  repeat (split; omega)
  omega
theorem apV_zero {p q : Nat → Int} {P Q n : Nat} : sumN (apV p q P Q) n = 0 ↔ ∀ i, i < n → p i * (Q : Int) = q i * (P : Int) := by
  have e := sumA_nat (z := apV p q P Q) (a := fun i => (p i * Q - q i * P).natAbs) (n := n) (fun i _ => rfl)
  constructor
  · intro h i hi
    have h1 : sumA (fun i => (p i * Q - q i * P).natAbs) n = 0 := by omega
    have := sum_zero h1 i hi
    omega
  · intro h
    have aux : ∀ k, k ≤ n → sumN (apV p q P Q) k = 0 := by
      intro k
      induction k with
      | zero => intro _; rfl
      | succ k ih =>
        intro hk
        show sumN (apV p q P Q) k + apV p q P Q k = 0
        rw [ih (by omega)]
        unfold apV
        rw [h k (by omega)]
        simp
    exact aux n (Nat.le_refl _)
theorem lowN_zero (M : Nat) (z : Int) : z.tdiv ((Nat.gcd z.natAbs M : Nat) : Int) = 0 ↔ z = 0 := by
  constructor
  · intro h
    have hg : ((Nat.gcd z.natAbs M : Nat) : Int) ∣ z := Int.ofNat_dvd_left.2 (Nat.gcd_dvd_left _ _)
    have := Int.mul_tdiv_cancel' hg
    rw [h] at this
    omega
  · intro h
    subst h
    simp
/-- What the sign and how far apart they are have in common. -/
theorem gibbs_two {p q : Nat → Int} {P Q n : Nat} (hp : ∀ i, i < n → 0 ≤ p i) (hq : ∀ i, i < n → 0 ≤ q i) (hP : sumN p n = P) (hQ : sumN q n = Q) (hP0 : 0 < P) (hQ0 : 0 < Q) (hz : ∀ i, i < n → 0 < p i → 0 < q i) :
    ∃ U D : Nat, 0 < U ∧ 0 < D ∧ (∀ x : Nat, Pr x → sumN (divV p q P Q (x : Int)) n = (mult x U : Int) - (mult x D : Int)) ∧ D ≤ U ∧ (U = D ↔ sumN (apV p q P Q) n = 0) := by
  have e1 : ∀ i, i < n → p i = ((fun i => (p i).toNat) i : Int) := fun i hi => by have := hp i hi; dsimp only; omega
  have e2 : ∀ i, i < n → q i = ((fun i => (q i).toNat) i : Int) := fun i hi => by have := hq i hi; dsimp only; omega
  have s1 := sumA_nat e1
  have s2 := sumA_nat e2
  have hz' : ∀ i, i < n → 0 < (fun i => (p i).toNat) i → 0 < (fun i => (q i).toNat) i := fun i hi h => by
    have := hz i hi (by dsimp only at h; omega)
    dsimp only
    omega
  obtain ⟨u, d, hm⟩ := div_sides (P := P) (Q := Q) e1 e2 hP0 hQ0 hz'
  obtain ⟨g1, g2, g3⟩ := gibbs (a := fun i => (p i).toNat) (b := fun i => (q i).toNat) (P := P) (Q := Q) (n := n) (by omega) (by omega) hz'
  refine ⟨_, _, u, d, hm, g1, ?_⟩
  rw [apV_zero]
  have hc : (∀ i, i < n → (p i).toNat * Q = (q i).toNat * P) ↔ ∀ i, i < n → p i * (Q : Int) = q i * (P : Int) := by
    constructor
    · intro h i hi
      have h1 := congrArg (fun x : Nat => (x : Int)) (h i hi)
      simp only [Int.natCast_mul] at h1
      have h2 := e1 i hi
      have h3 := e2 i hi
      dsimp only at h2 h3
      rw [← h2, ← h3] at h1
      exact h1
    · intro h i hi
      have h1 := h i hi
      have h2 := e1 i hi
      have h3 := e2 i hi
      dsimp only at h2 h3
      rw [h2, h3] at h1
      exact Int.ofNat_inj.1 (by simpa using h1)
  exact ⟨fun h => hc.1 (g2 h), fun h => g3 (hc.2 h) hP0 hQ0⟩

set_option maxRecDepth 100000 in
set_option maxHeartbeats 2000000 in
theorem DistGibbs_long (a : Nat → Addr) (ad ad' : Option Addr) (n cap m cap' : Nat) (w : World) (hE : Errs w a) (hn : ¬ (n ≤ 16 ∧ m ≤ 16)) (hm : n ≤ maxLen) (hm' : m ≤ maxLen) :
    Calls Tryd.prog 4 #[.slice ad n cap, .slice ad' m cap'] w fun e w' => e = .returned (.bool true) ∧ Below w.heap.size w w' := by
  have hC := coin_any a w hE
  unfold maxLen at hm hm'
  clear hE
  by_cases h1 : n ≤ 16
  · have h2 : ¬ m ≤ 16 := fun h => hn ⟨h1, h⟩
    clear hn
    have hd : decide (16 < (n : Int)) = false := decide_eq_false (by omega)
    have hd' : (16 : Int) < (m : Int) := by omega
    go_enter Tryd.func4, Tryd.ntmps4
    go_wp2_with (go_at_call 5; refine hC.mono ?_; rintro e w1 ⟨rfl, hb1⟩; have HB1 := Hid.mk' hb1; clear hb1)
    go_ret
    exact ⟨rfl, HB1.out⟩
  · clear hn
    have hd' : (16 : Int) < (n : Int) := by omega
    go_enter Tryd.func4, Tryd.ntmps4
    go_wp2_with (go_at_call 5; refine hC.mono ?_; rintro e w1 ⟨rfl, hb1⟩; have HB1 := Hid.mk' hb1; clear hb1)
    go_ret
    exact ⟨rfl, HB1.out⟩

set_option maxRecDepth 100000 in
set_option maxHeartbeats 2000000 in
theorem DistGibbs_bad (a : Nat → Addr) (ad ad' : Option Addr) (n cap m cap' : Nat) (p q : Nat → Int) (w : World) (hE : Errs w a) (h : NumsAt w (.slice ad n cap) n p) (k : NumsAt w (.slice ad' m cap') m q) (hn : n ≤ 16) (hm : m ≤ 16) (h0 : twoErr p n q m ≠ 0) :
    Calls Tryd.prog 4 #[.slice ad n cap, .slice ad' m cap'] w fun e w' => e = .returned (.bool true) ∧ Below w.heap.size w w' := by
  have hC := coin_any a w hE
  have HWE : Hid (∀ W, Below w.heap.size w W → Calls Tryd.prog 14 #[.slice ad n cap, .slice ad' m cap'] W fun e w' => e = .returned (.int .i64 (twoErr p n q m : Int)) ∧ w' = W) := fun W hb => TwoError_any _ _ n m p q W (h.later hb) (k.later hb) (by omega) (by omega)
  have hd : decide (16 < (n : Int)) = false := decide_eq_false (by omega)
  have hd' : decide (16 < (m : Int)) = false := decide_eq_false (by omega)
  generalize twoErr p n q m = c at *
  clear hE h k
  have hcb : (0 : Int) < (c : Int) := by omega
  go_enter Tryd.func4, Tryd.ntmps4
  go_wp2_with (first
    | (go_at_call 5; refine hC.mono ?_; rintro e w1 ⟨rfl, hb1⟩; have HB1 := Hid.mk' hb1; clear hb1)
    | (go_at_call 14; refine (HWE.out w1 HB1.out).mono ?_; rintro e w2 ⟨rfl, hw2⟩; rw [hw2]; clear hw2))
  go_ret
  exact ⟨rfl, HB1.out⟩

set_option maxRecDepth 100000 in
set_option maxHeartbeats 4000000 in
theorem DistGibbs_ok (a : Nat → Addr) (b o n cap b' o' cap' P Q : Nat) (p q : Nat → Int) (w : World) (hE : Errs w a) (h : RowAt w b o n p) (k : RowAt w b' o' n q) (h0 : twoErr p n q n = 0) (hP : sumN p n = P) (hQ : sumN q n = Q) :
    Calls Tryd.prog 4 #[.slice (some ⟨b, o, none⟩) n cap, .slice (some ⟨b', o', none⟩) n cap'] w fun e w' => e = .returned (.bool true) ∧ Below w.heap.size w w' := by
  have hC := coin_any a w hE
  obtain ⟨_, hn, hok1, hok2⟩ := twoErr_ok h0
  have h0n := hok1.posN
  have hP1 : 1 ≤ P ∧ P ≤ 4096 := by have := hok1.pos; have := hok1.le; omega
  have hQ1 : 1 ≤ Q ∧ Q ≤ 4096 := by have := hok2.pos; have := hok2.le; omega
  have HN : Hid (∀ W, Below w.heap.size w W → NumsAt W (.slice (some ⟨b, o, none⟩) n cap) n p) := fun W hb => Or.inr ⟨b, o, cap, rfl, h0n, h.later hb⟩
  have HK : Hid (∀ W, Below w.heap.size w W → NumsAt W (.slice (some ⟨b', o', none⟩) n cap') n q) := fun W hb => Or.inr ⟨b', o', cap', rfl, h0n, k.later hb⟩
  have HWE : Hid (∀ W, Below w.heap.size w W → Calls Tryd.prog 14 #[.slice (some ⟨b, o, none⟩) n cap, .slice (some ⟨b', o', none⟩) n cap'] W fun e w' => e = .returned (.int .i64 0) ∧ w' = W) := fun W hb => by
    have := TwoError_any _ _ n n p q W (HN.out W hb) (HK.out W hb) (by omega) (by omega)
    rw [h0] at this
    exact this
  have HDI : Hid (∀ (W : World) (v u : Value), Below w.heap.size w W → NumsAt W v n p → NumsAt W u n q → Calls Tryd.prog 15 #[v, u] W fun e w' => ((zeroB p q n = true ∧ e = .returned (.tuple #[.agg #[.int .i64 0, .slice none 0 0], errV a 4])) ∨ (zeroB p q n = false ∧ ∃ dn v, e = .returned (.tuple #[.agg #[.int .i64 dn, v], .nilIface]) ∧ LogBy W.heap.size P (fun x => sumN (divV p q P Q x) n) w' dn v)) ∧ Below W.heap.size W w') := fun W v u hb hv hu => by
    rcases hv with ⟨_, _, _, h4⟩ | ⟨b1, o1, c1, rfl, _, hr1⟩
    · omega
    rcases hu with ⟨_, _, _, h4⟩ | ⟨b2, o2, c2, rfl, _, hr2⟩
    · omega
    exact Divergence_right a b1 o1 c1 b2 o2 c2 n P Q p q W (hE.below hb) hr1 hr2 h0 hP hQ
  have hd : decide (16 < (n : Int)) = false := decide_eq_false (by omega)
  have HE : Hid (∀ W, Below w.heap.size w W → Errs W a) := fun W hb => hE.below hb
  by_cases hzb : zeroB p q n = true
  · have HDI' : Hid (∀ (W : World) (v u : Value), Below w.heap.size w W → NumsAt W v n p → NumsAt W u n q → Calls Tryd.prog 15 #[v, u] W fun e w' => e = .returned (.tuple #[.agg #[.int .i64 0, .slice none 0 0], .iface 155 (.pointer (some (a 3)))]) ∧ Below W.heap.size W w') := fun W v u hb hv hu => (HDI.out W v u hb hv hu).mono (fun e w' hx => by
      obtain ⟨h1 | h1, h2⟩ := hx
      · exact ⟨h1.2, h2⟩
      · rw [hzb] at h1; cases h1.1)
    have HCD : Hid (∀ W, Below w.heap.size w W → Calls Tryd.prog 7 #[.iface 155 (.pointer (some (a 3))), .int .i64 4] W fun e w' => e = .returned (.bool true) ∧ Below W.heap.size W w') := fun W hb => coded_errV a 4 (by omega) W (HE.out W hb)
    generalize a 3 = ea at HDI' HCD
    clear hE h k h0 hok1 hok2 hP hQ HDI HE hzb
    go_enter Tryd.func4, Tryd.ntmps4
    go_wp2_with (first
      | (go_at_call 5; refine hC.mono ?_; rintro e w1 ⟨rfl, hb1⟩; have HB1 := Hid.mk' hb1; clear hb1)
      | (go_at_call 14; refine (HWE.out w1 HB1.out).mono ?_; rintro e w2 ⟨rfl, hw2⟩; rw [hw2]; clear hw2)
      | (go_at_call_of 9 cap; refine (ints_any _ n p _ (HN.out _ HB1.out) (by omega)).mono ?_; rintro e w3 ⟨v3, rfl, hv3, hb3⟩; obtain ⟨ad3, cap3, rfl⟩ := hv3.form; have HV3 := Hid.mk' hv3; have HB3 := Hid.mk' hb3; clear hv3 hb3)
      | (go_at_call_of 9 cap'; refine (ints_any _ n q w3 (HK.out _ (below_chain HB1.out HB3.out)) (by omega)).mono ?_; rintro e w4 ⟨v4, rfl, hv4, hb4⟩; obtain ⟨ad4, cap4, rfl⟩ := hv4.form; have HV4 := Hid.mk' hv4; have HB4 := Hid.mk' hb4; clear hv4 hb4)
      | (go_at_call 15; refine (HDI'.out w4 _ _ (below_chain (below_chain HB1.out HB3.out) HB4.out) (HV3.out.later HB4.out) HV4.out).mono ?_; rintro e w5 ⟨rfl, hb5⟩; have HBY := Hid.mk' (more_below (below_chain (below_chain (below_chain HB1.out HB3.out) HB4.out) hb5) (.cells #[.int .i64 0, .slice none 0 0] 39)); clear hb5)
      | (go_at_call 7; refine (HCD.out _ HBY.out).mono ?_; rintro e w6 ⟨rfl, hb6⟩; have HB6 := Hid.mk' (below_chain HBY.out hb6); clear hb6))
    go_ret
    exact ⟨rfl, HB6.out⟩
  · have hzf : zeroB p q n = false := by simpa using hzb
    have hzz : ∀ i, i < n → 0 < p i → 0 < q i := fun i hi h1 => by
      have h2 := hok2.lt hi
      rcases Int.lt_or_le 0 (q i) with h3 | h3
      · exact h3
      · exact absurd ((zeroB_iff p q n).2 ⟨i, hi, h1, by omega⟩) hzb
    have hprim := div_prim (p := p) (q := q) (P := P) (Q := Q) (n := n) (fun i hi => hok1.lt hi) (fun i hi => hok2.lt hi) hn hP1 hQ1 hzz
    obtain ⟨U, D, hU, hD, hm, hDU, hUD⟩ := gibbs_two (p := p) (q := q) (P := P) (Q := Q) (n := n) (fun i hi => (hok1.lt hi).1) (fun i hi => (hok2.lt hi).1) hP hQ hP1.1 hQ1.1 hzz
    obtain ⟨y, d, hyz, HVA⟩ : ∃ (y : Int) (d : Nat), (y = 0 ↔ U = D) ∧ Hid (∀ (W : World) (v u : Value), Below w.heap.size w W → NumsAt W v n p → NumsAt W u n q → Calls Tryd.prog 17 #[v, u] W fun e w' => e = .returned (.tuple #[.agg #[.int .i64 y, .int .i64 d], .nilIface]) ∧ Below W.heap.size W w') := by
      refine ⟨(sumN (apV p q P Q) n).tdiv ((Nat.gcd (sumN (apV p q P Q) n).natAbs (2 * P * Q) : Nat) : Int), 2 * P * Q / Nat.gcd (sumN (apV p q P Q) n).natAbs (2 * P * Q), ?_, fun W v u hb hv hu => ?_⟩
      rotate_left
      · rcases hv with ⟨_, _, _, h4⟩ | ⟨b1, o1, c1, rfl, _, hr1⟩
        · omega
        rcases hu with ⟨_, _, _, h4⟩ | ⟨b2, o2, c2, rfl, _, hr2⟩
        · omega
        exact Variation_right a b1 o1 c1 b2 o2 c2 n P Q _ p q W (hE.below hb) hr1 hr2 h0 hP hQ rfl
      · rw [lowN_zero (2 * P * Q), hUD]
    obtain ⟨z, hz⟩ : ∃ z : Int, (z = 0 ∧ y = 0) ∨ (z = 1 ∧ y ≠ 0) := by
      by_cases hy : y = 0
      · exact ⟨0, Or.inl ⟨rfl, hy⟩⟩
      · exact ⟨1, Or.inr ⟨rfl, hy⟩⟩
    have HSG : Hid (∀ (W : World) (dn : Int) (v : Value) (base : Nat), Below w.heap.size w W → LogBy base P (fun x => sumN (divV p q P Q x) n) W dn v → Calls Tryd.prog 16 #[.agg #[.int .i64 dn, v]] W fun e w' => (e = .returned (.tuple #[.int .i64 z, .nilIface]) ∨ e = .returned (.tuple #[.int .i64 0, .iface 155 (.pointer (some (a 1)))])) ∧ Below W.heap.size W w') := fun W dn v base hb hl => by
      refine (Sign_by a W (hE.below hb) hl hP1.1 (by omega) hprim hU hD hm).mono ?_
      rintro e w' ⟨⟨z', rfl, k1, k2, k3⟩ | rfl, hb'⟩
      · refine ⟨Or.inl ?_, hb'⟩
        have : z' = z := by
          rcases hz with ⟨rfl, h2⟩ | ⟨rfl, h2⟩
          · exact k2 (hyz.1 h2)
          · refine k1 ?_
            have : U ≠ D := fun e => h2 (hyz.2 e)
            omega
        rw [this]
      · exact ⟨Or.inr rfl, hb'⟩
    have HDI' : Hid (∀ (W : World) (v u : Value), Below w.heap.size w W → NumsAt W v n p → NumsAt W u n q → Calls Tryd.prog 15 #[v, u] W fun e w' => ∃ dn v, e = .returned (.tuple #[.agg #[.int .i64 dn, v], .nilIface]) ∧ LogBy W.heap.size P (fun x => sumN (divV p q P Q x) n) w' dn v ∧ Below W.heap.size W w') := fun W v u hb hv hu => (HDI.out W v u hb hv hu).mono (fun e w' hx => by
      obtain ⟨h1 | ⟨_, dn, v, rfl, h3⟩, h2⟩ := hx
      · rw [hzf] at h1; cases h1.1
      · exact ⟨dn, v, rfl, h3, h2⟩)
    have HCD : Hid (∀ W, Below w.heap.size w W → Calls Tryd.prog 7 #[.iface 155 (.pointer (some (a 1))), .int .i64 2] W fun e w' => e = .returned (.bool true) ∧ Below W.heap.size W w') := fun W hb => coded_errV a 2 (by omega) W (HE.out W hb)
    generalize a 1 = ea at HSG HCD
    have HZ := Hid.mk' hz
    clear hE h k h0 hok1 hok2 hP hQ HDI HE hzb hzf hzz hprim hm hDU hUD hyz hU hD hz
    go_enter Tryd.func4, Tryd.ntmps4
    go_wp2_with fail
    refine hC.mono ?_
    clear hC
    rintro e w1 ⟨rfl, hb1⟩
    have HB1 := Hid.mk' hb1
    clear hb1
    go_wp2_with fail
    refine (HWE.out w1 HB1.out).mono ?_
    rintro e w2 ⟨rfl, hw2⟩
    rw [hw2]
    clear hw2
    go_wp2_with fail
    refine (ints_any _ n p _ (HN.out _ HB1.out) (by omega)).mono ?_
    rintro e w3 ⟨v3, rfl, hv3, hb3⟩
    obtain ⟨ad3, cap3, rfl⟩ := hv3.form
    go_wp2_with fail
    refine (ints_any _ n q w3 (HK.out _ (below_chain HB1.out hb3)) (by omega)).mono ?_
    rintro e w4 ⟨v4, rfl, hv4, hb4⟩
    obtain ⟨ad4, cap4, rfl⟩ := hv4.form
    have HB4 := Hid.mk' (below_chain (below_chain HB1.out hb3) hb4)
    have hdi := HDI'.out w4 _ _ HB4.out (hv3.later hb4) hv4
    clear hv3 hv4 hb3 hb4 HDI'
    go_wp2_with fail
    refine hdi.mono ?_
    clear hdi
    rintro e w5 ⟨dn5, v5, rfl, hl5, hb5⟩
    obtain ⟨ad5, n5, cap5, rfl⟩ := hl5.form
    have HB5 := Hid.mk' (more_below (below_chain HB4.out hb5) (.cells #[.int .i64 dn5, .slice ad5 n5 cap5] 39))
    have hsg := HSG.out (w5.alloc (.cells #[.int .i64 dn5, .slice ad5 n5 cap5] 39)) dn5 _ _ HB5.out (hl5.later (new_below _ _))
    clear hl5 hb5 HSG
    go_wp2_with fail
    refine hsg.mono ?_
    clear hsg
    rintro e w6 ⟨rfl | rfl, hb6⟩
    · have HB6 := Hid.mk' (below_chain HB5.out hb6)
      clear hb6
      go_wp2_with fail
      refine (ints_any _ n p _ (HN.out _ HB6.out) (by omega)).mono ?_
      rintro e w7 ⟨v7, rfl, hv7, hb7⟩
      obtain ⟨ad7, cap7, rfl⟩ := hv7.form
      go_wp2_with fail
      refine (ints_any _ n q w7 (HK.out _ (below_chain HB6.out hb7)) (by omega)).mono ?_
      rintro e w8 ⟨v8, rfl, hv8, hb8⟩
      obtain ⟨ad8, cap8, rfl⟩ := hv8.form
      have HB8 := Hid.mk' (below_chain (below_chain HB6.out hb7) hb8)
      have hva := HVA.out w8 _ _ HB8.out (hv7.later hb8) hv8
      clear hv7 hv8 hb7 hb8 HVA
      go_wp2_with fail
      refine hva.mono ?_
      clear hva
      rintro e w9 ⟨rfl, hb9⟩
      have HB9 := Hid.mk' (more_below (below_chain HB8.out hb9) (.cells #[.int .i64 y, .int .i64 d] 45))
      clear hb9
      rcases HZ.out with ⟨rfl, rfl⟩ | ⟨rfl, hy⟩
      · go_wp2_with fail
        go_ret
        exact ⟨rfl, HB9.out⟩
      · have hyb : (y == 0) = false := by simpa using hy
        go_wp2_with fail
        go_ret
        exact ⟨rfl, HB9.out⟩
    · have HB6 := Hid.mk' (below_chain HB5.out hb6)
      clear hb6
      go_wp2_with fail
      refine (HCD.out w6 HB6.out).mono ?_
      rintro e w7 ⟨rfl, hb7⟩
      have HB7 := Hid.mk' (below_chain HB6.out hb7)
      clear hb7
      go_wp2_with fail
      go_ret
      exact ⟨rfl, HB7.out⟩

theorem DistGibbs_all (a : Nat → Addr) (ad : Option Addr) (n cap : Nat) (p : Nat → Int) (ad' : Option Addr) (m cap' : Nat) (q : Nat → Int) (w : World) (hE : Errs w a) (h : NumsAt w (.slice ad n cap) n p) (hm : n ≤ maxLen) (k : NumsAt w (.slice ad' m cap') m q) (hm' : m ≤ maxLen) :
    Calls Tryd.prog 4 #[.slice ad n cap, .slice ad' m cap'] w fun e w' => e = .returned (.bool true) ∧ Below w.heap.size w w' := by
  by_cases hn : n ≤ 16 ∧ m ≤ 16
  · by_cases h0 : twoErr p n q m = 0
    · obtain ⟨rfl, h16, hok1, hok2⟩ := twoErr_ok h0
      have hp := hok1.posN
      obtain ⟨P, hP⟩ := Int.eq_ofNat_of_zero_le (Int.le_of_lt hok1.pos)
      obtain ⟨Q, hQ⟩ := Int.eq_ofNat_of_zero_le (Int.le_of_lt hok2.pos)
      rcases h with ⟨_, _, _, h4⟩ | ⟨b, o, c1, hv, _, hr⟩
      · omega
      rcases k with ⟨_, _, _, h4⟩ | ⟨b', o', c2, hu, _, kr⟩
      · omega
      simp only [Value.slice.injEq, true_and] at hv hu
      obtain ⟨rfl, rfl⟩ := hv
      obtain ⟨rfl, rfl⟩ := hu
      exact DistGibbs_ok a b o n cap b' o' cap' P Q p q w hE hr kr h0 hP hQ
    · exact DistGibbs_bad a ad ad' n cap m cap' p q w hE h k hn.1 hn.2 h0
  · exact DistGibbs_long a ad ad' n cap m cap' w hE hn hm hm'
end Go.Proofs.YtdhbphdgdkfhfaaDoor
