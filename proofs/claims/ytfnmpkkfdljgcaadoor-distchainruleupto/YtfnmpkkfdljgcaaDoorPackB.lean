/- GIBBS' inequality of whole numbers: products of powers, where the sums are given. -/
import Derived.Test.YtfnmpkkfdljgcaaDoorInts
import Derived.Test.YtfnmpkkfdljgcaaDoorPackA
import Derived.Test.YtfnmpkkfdljgcaaDoorWeights
import Derived.Test.YtfnmpkkfdljgcaaDoorBig
import Derived.Shelf.SlGeneric
import Derived.Shelf.Spec.SlicesGrow
import Derived.Ground.Names8Prog
import Derived.Test.YtfnmpkkfdljgcaaDoorProg
import Derived.BigQuiet
import Derived.Deep.Onto
import Derived.Test.YtfnmpkkfdljgcaaDoorPlus
import Derived.Test.YtfnmpkkfdljgcaaDoorWideMath
import Derived.Test.YtfnmpkkfdljgcaaDoorWLog
import Derived.Test.YtfnmpkkfdljgcaaDoorWTold
import Derived.Test.YtfnmpkkfdljgcaaDoorPutEnt
import Derived.Test.YtfnmpkkfdljgcaaDoorWToldW
namespace Go.Proofs.YtfnmpkkfdljgcaaDoor
def sumA (f : Nat → Nat) : Nat → Nat
  | 0 => 0
  | n + 1 => sumA f n + f n
def prodA (f : Nat → Nat) : Nat → Nat
  | 0 => 1
  | n + 1 => prodA f n * f n
theorem sq_ge (x y : Int) : 0 ≤ (x - y) * (x - y) := by
  rcases Int.le_total x y with h | h
  · have := Int.mul_nonneg (Int.sub_nonneg.2 h) (Int.sub_nonneg.2 h)
    grind
  · exact Int.mul_nonneg (Int.sub_nonneg.2 h) (Int.sub_nonneg.2 h)
theorem sq_gt {x y : Int} (hne : x ≠ y) : 0 < (x - y) * (x - y) := by
  rcases Int.lt_or_gt_of_ne hne with h | h
  · have := Int.mul_pos (Int.sub_pos.2 h) (Int.sub_pos.2 h)
    grind
  · exact Int.mul_pos (Int.sub_pos.2 h) (Int.sub_pos.2 h)
/-- BERNOULLI's inequality of two numbers. -/
theorem bern {u v : Int} (hu : 0 ≤ u) (hv : 0 ≤ v) : ∀ n : Nat, ((n : Int) + 1) * u ^ n * v ≤ v ^ (n + 1) + n * u ^ (n + 1)
  | 0 => by simp [Int.pow_succ]
  | n + 1 => by
    have h := Int.mul_le_mul_of_nonneg_right (bern hu hv n) hv
    have hp := Int.mul_nonneg (Int.pow_nonneg hu : 0 ≤ u ^ n) (Int.mul_nonneg (by omega : 0 ≤ (n : Int) + 1) (sq_ge v u))
    have e1 : u ^ (n + 1 + 1) = u ^ n * u * u := by rw [Int.pow_succ, Int.pow_succ]
    have e2 : v ^ (n + 1 + 1) = v ^ (n + 1) * v := by rw [Int.pow_succ]
    have e3 : u ^ (n + 1) = u ^ n * u := by rw [Int.pow_succ]
    rw [e1, e2, e3]
    rw [e3] at h
    generalize u ^ n = U at *
    generalize v ^ (n + 1) = V at *
    push_cast
    grind
theorem bern_lt {u v : Int} (hu : 0 < u) (hv : 0 ≤ v) (hne : u ≠ v) (n : Nat) : ((n : Int) + 1 + 1) * u ^ (n + 1) * v < v ^ (n + 1 + 1) + (n + 1) * u ^ (n + 1 + 1) := by
  have h := Int.mul_le_mul_of_nonneg_right (bern (Int.le_of_lt hu) hv n) hv
  have hp := Int.mul_pos (Int.pow_pos hu : 0 < u ^ n) (Int.mul_pos (by omega : 0 < (n : Int) + 1) (sq_gt (Ne.symm hne)))
  have e1 : u ^ (n + 1 + 1) = u ^ n * u * u := by rw [Int.pow_succ, Int.pow_succ]
  have e2 : v ^ (n + 1 + 1) = v ^ (n + 1) * v := by rw [Int.pow_succ]
  have e3 : u ^ (n + 1) = u ^ n * u := by rw [Int.pow_succ]
  rw [e1, e2, e3]
  rw [e3] at h
  generalize u ^ n = U at *
  generalize v ^ (n + 1) = V at *
  grind

/-- A number more: the power of the mean. -/
theorem step_le (n S Y : Nat) (hn : 0 < n) : S ^ n * (n + 1) ^ (n + 1) * Y ≤ (S + Y) ^ (n + 1) * n ^ n := by
  have h := bern (u := ((S * (n + 1) : Nat) : Int)) (v := (((S + Y) * n : Nat) : Int)) (by omega) (by omega) n
  have h1 : (S * (n + 1)) ^ n * ((n + 1) * n * Y) ≤ ((S + Y) * n) ^ (n + 1) := by
    refine Int.ofNat_le.1 ?_
    have e : ((S * (n + 1) : Nat) : Int) ^ (n + 1) = ((S * (n + 1) : Nat) : Int) ^ n * ((S : Int) * (n + 1)) := by rw [Int.pow_succ]; simp
    rw [e] at h
    rw [Int.natCast_mul, Int.natCast_pow, Int.natCast_pow]
    generalize ((S * (n + 1) : Nat) : Int) ^ n = U at *
    generalize (((S + Y) * n : Nat) : Int) ^ (n + 1) = V at *
    push_cast at h ⊢
    grind
  rw [Nat.mul_pow, Nat.mul_pow, Nat.pow_succ n n] at h1
  rw [Nat.pow_succ (n + 1) n]
  refine Nat.le_of_mul_le_mul_right ?_ hn
  generalize S ^ n = a at *
  generalize (n + 1) ^ n = b at *
  generalize n ^ n = c at *
  generalize (S + Y) ^ (n + 1) = d at *
  grind
theorem step_lt (n S Y : Nat) (hS : 0 < S) (hne : S ≠ (n + 1) * Y) : S ^ (n + 1) * (n + 1 + 1) ^ (n + 1 + 1) * Y < (S + Y) ^ (n + 1 + 1) * (n + 1) ^ (n + 1) := by
  have h := bern_lt (u := ((S * (n + 1 + 1) : Nat) : Int)) (v := (((S + Y) * (n + 1) : Nat) : Int)) (by have := Nat.mul_pos hS (by omega : 0 < n + 1 + 1); omega) (by omega) (fun e => hne (by
    have e := Int.ofNat_inj.1 e
    grind)) n
  have h1 : (S * (n + 1 + 1)) ^ (n + 1) * ((n + 1 + 1) * (n + 1) * Y) < ((S + Y) * (n + 1)) ^ (n + 1 + 1) := by
    refine Int.ofNat_lt.1 ?_
    have e : ((S * (n + 1 + 1) : Nat) : Int) ^ (n + 1 + 1) = ((S * (n + 1 + 1) : Nat) : Int) ^ (n + 1) * ((S : Int) * (n + 1 + 1)) := by rw [Int.pow_succ]; simp
    rw [e] at h
    rw [Int.natCast_mul, Int.natCast_pow, Int.natCast_pow]
    generalize ((S * (n + 1 + 1) : Nat) : Int) ^ (n + 1) = U at *
    generalize (((S + Y) * (n + 1) : Nat) : Int) ^ (n + 1 + 1) = V at *
    push_cast at h ⊢
    grind
  rw [Nat.mul_pow, Nat.mul_pow, Nat.pow_succ (n + 1) (n + 1)] at h1
  rw [Nat.pow_succ (n + 1 + 1) (n + 1)]
  refine Nat.lt_of_mul_lt_mul_right (a := n + 1) ?_
  generalize S ^ (n + 1) = a at *
  generalize (n + 1 + 1) ^ (n + 1) = b at *
  generalize (n + 1) ^ (n + 1) = c at *
  generalize (S + Y) ^ (n + 1 + 1) = d at *
  grind
theorem self_pos (n : Nat) : 0 < n ^ n := by
  rcases Nat.eq_zero_or_pos n with h | h
  · subst h; decide
  · exact Nat.pow_pos h
/-- A copies of X and a of Y: their product is at most the power of their mean. -/
theorem two_le (A X Y : Nat) : ∀ a : Nat, (A + a) ^ (A + a) * (X ^ A * Y ^ a) ≤ (A * X + a * Y) ^ (A + a)
  | 0 => by simp [Nat.mul_pow]
  | a + 1 => by
    have ih := two_le A X Y a
    rcases Nat.eq_zero_or_pos (A + a) with h0 | h0
    · obtain rfl : A = 0 := by omega
      obtain rfl : a = 0 := by omega
      simp
    · have h := step_le (A + a) (A * X + a * Y) Y h0
      have e1 : A * X + (a + 1) * Y = A * X + a * Y + Y := by grind
      rw [e1, ← Nat.add_assoc, Nat.pow_succ Y a]
      refine Nat.le_of_mul_le_mul_right (c := (A + a) ^ (A + a)) ?_ (self_pos _)
      refine Nat.le_trans ?_ h
      have h2 := Nat.mul_le_mul_right ((A + a + 1) ^ (A + a + 1) * Y) ih
      generalize (A + a + 1) ^ (A + a + 1) = p at *
      generalize (A + a) ^ (A + a) = r at *
      generalize (A * X + a * Y) ^ (A + a) = t at *
      generalize X ^ A = x at *
      generalize Y ^ a = y at *
      grind
theorem two_lt (A X Y : Nat) (hA : 0 < A) (hne : X ≠ Y) : ∀ a : Nat, (A + (a + 1)) ^ (A + (a + 1)) * (X ^ A * Y ^ (a + 1)) < (A * X + (a + 1) * Y) ^ (A + (a + 1)) := fun a => by
  rcases Nat.eq_zero_or_pos Y with hy | hy
  · subst hy
    have : 0 < A * X := Nat.mul_pos hA (by omega)
    simp only [Nat.pow_succ, Nat.mul_zero, Nat.add_zero]
    exact Nat.pow_pos this
  rcases Nat.eq_zero_or_pos X with hx | hx
  · subst hx
    rw [Nat.zero_pow hA]
    have : 0 < (a + 1) * Y := Nat.mul_pos (by omega) hy
    simp only [Nat.mul_zero, Nat.zero_mul, Nat.zero_add]
    exact Nat.pow_pos this
  induction a with
  | zero =>
    obtain ⟨n, rfl⟩ : ∃ n, A = n + 1 := ⟨A - 1, by omega⟩
    have h := step_lt n ((n + 1) * X) Y (Nat.mul_pos hA hx) (fun e => hne (Nat.eq_of_mul_eq_mul_left hA e))
    have e1 : (n + 1) * X + (0 + 1) * Y = (n + 1) * X + Y := by omega
    rw [e1, Nat.zero_add]
    refine Nat.lt_of_mul_lt_mul_right (a := (n + 1) ^ (n + 1)) ?_
    refine Nat.lt_of_le_of_lt ?_ h
    rw [Nat.mul_pow, Nat.pow_one]
    generalize (n + 1) ^ (n + 1) = r at *
    generalize (n + 1 + 1) ^ (n + 1 + 1) = p at *
    generalize X ^ (n + 1) = x at *
    grind
  | succ a ih =>
    have h := step_le (A + (a + 1)) (A * X + (a + 1) * Y) Y (by omega)
    have e1 : A * X + (a + 1 + 1) * Y = A * X + (a + 1) * Y + Y := by grind
    rw [e1, ← Nat.add_assoc A (a + 1) 1, Nat.pow_succ Y (a + 1)]
    refine Nat.lt_of_mul_lt_mul_right (a := (A + (a + 1)) ^ (A + (a + 1))) ?_
    refine Nat.lt_of_lt_of_le ?_ h
    have h2 := Nat.mul_lt_mul_of_pos_right ih (Nat.mul_pos (self_pos (A + (a + 1) + 1)) hy)
    generalize (A + (a + 1) + 1) ^ (A + (a + 1) + 1) = p at *
    generalize (A + (a + 1)) ^ (A + (a + 1)) = r at *
    generalize (A * X + (a + 1) * Y) ^ (A + (a + 1)) = t at *
    generalize X ^ A = x at *
    generalize Y ^ (a + 1) = y at *
    grind

/-- Two terms of the logarithms' sum. -/
theorem sum2_le (A a B b : Nat) : (A + a) ^ (A + a) * (B ^ A * b ^ a) ≤ (B + b) ^ (A + a) * (A ^ A * a ^ a) := by
  rcases Nat.eq_zero_or_pos A with hA | hA
  · subst hA
    have := Nat.pow_le_pow_left (show b ≤ B + b by omega) a
    simp only [Nat.zero_add, Nat.pow_zero, Nat.one_mul]
    rw [Nat.mul_comm]
    exact Nat.mul_le_mul_right _ this
  rcases Nat.eq_zero_or_pos a with ha | ha
  · subst ha
    have := Nat.pow_le_pow_left (show B ≤ B + b by omega) A
    simp only [Nat.add_zero, Nat.pow_zero, Nat.mul_one]
    rw [Nat.mul_comm]
    exact Nat.mul_le_mul_right _ this
  have h := two_le A (B * a) (b * A) a
  have e1 : A * (B * a) + a * (b * A) = (A * a) * (B + b) := by grind
  rw [e1, Nat.mul_pow, Nat.mul_pow, Nat.mul_pow (A * a), Nat.mul_pow A a] at h
  have e2 : A ^ (A + a) = A ^ A * A ^ a := Nat.pow_add ..
  have e3 : a ^ (A + a) = a ^ A * a ^ a := Nat.pow_add ..
  rw [e2, e3] at h
  refine Nat.le_of_mul_le_mul_right (c := A ^ a * a ^ A) ?_ (Nat.mul_pos (Nat.pow_pos hA) (Nat.pow_pos ha))
  generalize A ^ a = t1 at *
  generalize a ^ A = t2 at *
  generalize (A + a) ^ (A + a) = t3 at *
  generalize (B + b) ^ (A + a) = t4 at *
  generalize A ^ A = t5 at *
  generalize a ^ a = t6 at *
  generalize B ^ A = t7 at *
  generalize b ^ a = t8 at *
  grind
theorem sum2_lt {A a B b : Nat} (hA : 0 < A) (hne : B * a ≠ b * A) : (A + a) ^ (A + a) * (B ^ A * b ^ a) < (B + b) ^ (A + a) * (A ^ A * a ^ a) := by
  rcases Nat.eq_zero_or_pos a with ha | ha
  · subst ha
    have hb : 0 < b := Nat.pos_of_ne_zero fun e => hne (by subst e; simp)
    have := Nat.pow_lt_pow_left (show B < B + b by omega) (Nat.pos_iff_ne_zero.1 hA)
    simp only [Nat.add_zero, Nat.pow_zero, Nat.mul_one]
    rw [Nat.mul_comm]
    exact Nat.mul_lt_mul_of_pos_right this (Nat.pow_pos hA)
  obtain ⟨c, rfl⟩ : ∃ c, a = c + 1 := ⟨a - 1, by omega⟩
  have h := two_lt A (B * (c + 1)) (b * A) hA hne c
  have e1 : A * (B * (c + 1)) + (c + 1) * (b * A) = (A * (c + 1)) * (B + b) := by grind
  rw [e1, Nat.mul_pow, Nat.mul_pow, Nat.mul_pow (A * (c + 1)), Nat.mul_pow A (c + 1)] at h
  have e2 : A ^ (A + (c + 1)) = A ^ A * A ^ (c + 1) := Nat.pow_add ..
  have e3 : (c + 1) ^ (A + (c + 1)) = (c + 1) ^ A * (c + 1) ^ (c + 1) := Nat.pow_add ..
  rw [e2, e3] at h
  refine Nat.lt_of_mul_lt_mul_right (a := A ^ (c + 1) * (c + 1) ^ A) ?_
  generalize A ^ (c + 1) = t1 at *
  generalize (c + 1) ^ A = t2 at *
  generalize (A + (c + 1)) ^ (A + (c + 1)) = t3 at *
  generalize (B + b) ^ (A + (c + 1)) = t4 at *
  generalize A ^ A = t5 at *
  generalize (c + 1) ^ (c + 1) = t6 at *
  generalize B ^ A = t7 at *
  generalize b ^ (c + 1) = t8 at *
  grind
theorem prod_pos {f : Nat → Nat} : ∀ {n : Nat}, (∀ i, i < n → 0 < f i) → 0 < prodA f n
  | 0, _ => by simp [prodA]
  | n + 1, h => Nat.mul_pos (prod_pos fun i hi => h i (by omega)) (h n (by omega))
theorem sum_zero {f : Nat → Nat} : ∀ {n : Nat}, sumA f n = 0 → ∀ i, i < n → f i = 0
  | 0, _, i, hi => by omega
  | n + 1, h, i, hi => by
    simp only [sumA] at h
    rcases Nat.lt_or_ge i n with h1 | h1
    · exact sum_zero (n := n) (by omega) i h1
    · obtain rfl : i = n := by omega
      omega
/-- The sum of logarithms (GIBBS). -/
theorem sums_le (a b : Nat → Nat) : ∀ n : Nat, sumA a n ^ sumA a n * prodA (fun i => b i ^ a i) n ≤ sumA b n ^ sumA a n * prodA (fun i => a i ^ a i) n
  | 0 => by simp [sumA, prodA]
  | n + 1 => by
    have ih := sums_le a b n
    have h2 := sum2_le (sumA a n) (a n) (sumA b n) (b n)
    simp only [sumA, prodA]
    refine Nat.le_of_mul_le_mul_right (c := sumA a n ^ sumA a n) ?_ (self_pos _)
    have h3 := Nat.mul_le_mul_right ((sumA a n + a n) ^ (sumA a n + a n) * b n ^ a n) ih
    have h4 := Nat.mul_le_mul_right (prodA (fun i => a i ^ a i) n) h2
    generalize (sumA a n + a n) ^ (sumA a n + a n) = t1 at *
    generalize (sumA b n + b n) ^ (sumA a n + a n) = t2 at *
    generalize sumA a n ^ sumA a n = t3 at *
    generalize sumA b n ^ sumA a n = t4 at *
    generalize prodA (fun i => a i ^ a i) n = t5 at *
    generalize prodA (fun i => b i ^ a i) n = t6 at *
    generalize b n ^ a n = t7 at *
    generalize a n ^ a n = t8 at *
    grind
theorem sums_eq {a b : Nat → Nat} : ∀ {n : Nat}, (∀ i, i < n → 0 < a i → 0 < b i) → sumA a n ^ sumA a n * prodA (fun i => b i ^ a i) n = sumA b n ^ sumA a n * prodA (fun i => a i ^ a i) n → ∀ i, i < n → a i * sumA b n = b i * sumA a n
  | 0, _, _, i, hi => by omega
  | n + 1, hs, h, i, hi => by
    have ih := sums_le a b n
    have h2 := sum2_le (sumA a n) (a n) (sumA b n) (b n)
    have hb : 0 < b n ^ a n := by
      rcases Nat.eq_zero_or_pos (a n) with h0 | h0
      · rw [h0]; simp
      · exact Nat.pow_pos (hs n (by omega) h0)
    have hR : 0 < prodA (fun i => a i ^ a i) n := prod_pos fun i _ => self_pos _
    have hA' := self_pos (sumA a n + a n)
    have hA0 := self_pos (sumA a n)
    have hall : sumA a n ^ sumA a n * prodA (fun i => b i ^ a i) n = sumA b n ^ sumA a n * prodA (fun i => a i ^ a i) n ∧ (sumA a n + a n) ^ (sumA a n + a n) * (sumA b n ^ sumA a n * b n ^ a n) = (sumA b n + b n) ^ (sumA a n + a n) * (sumA a n ^ sumA a n * a n ^ a n) := by
      simp only [sumA, prodA] at h
      have h3 := Nat.mul_le_mul_right ((sumA a n + a n) ^ (sumA a n + a n) * b n ^ a n) ih
      have h4 := Nat.mul_le_mul_right (prodA (fun i => a i ^ a i) n) h2
      have h5 := congrArg (· * sumA a n ^ sumA a n) h
      have hp := Nat.mul_pos hA' hb
      generalize (sumA a n + a n) ^ (sumA a n + a n) = t1 at *
      generalize (sumA b n + b n) ^ (sumA a n + a n) = t2 at *
      generalize sumA a n ^ sumA a n = t3 at *
      generalize sumA b n ^ sumA a n = t4 at *
      generalize prodA (fun i => a i ^ a i) n = t5 at *
      generalize prodA (fun i => b i ^ a i) n = t6 at *
      generalize b n ^ a n = t7 at *
      generalize a n ^ a n = t8 at *
      have e1 : t3 * t6 * (t1 * t7) = t4 * t5 * (t1 * t7) := by grind
      have e2 : t1 * (t4 * t7) * t5 = t2 * (t3 * t8) * t5 := by grind
      exact ⟨Nat.eq_of_mul_eq_mul_right hp e1, Nat.eq_of_mul_eq_mul_right hR e2⟩
    have hI := sums_eq (n := n) (fun i hi => hs i (by omega)) hall.1
    simp only [sumA]
    rcases Nat.eq_zero_or_pos (sumA a n) with h0 | h0
    · have hz := sum_zero h0
      have h6 := hall.2
      rw [h0] at h6 ⊢
      simp only [Nat.zero_add, Nat.pow_zero, Nat.one_mul] at h6 ⊢
      have h7 : b n ^ a n = (sumA b n + b n) ^ a n := by
        rw [Nat.mul_comm] at h6
        exact Nat.eq_of_mul_eq_mul_right (self_pos _) h6
      have h8 : a n = 0 ∨ sumA b n = 0 := by
        rcases Nat.eq_zero_or_pos (a n) with h1 | h1
        · exact Or.inl h1
        · refine Or.inr ?_
          rcases Nat.eq_zero_or_pos (sumA b n) with h9 | h9
          · exact h9
          · have := Nat.pow_lt_pow_left (show b n < sumA b n + b n by omega) (Nat.pos_iff_ne_zero.1 h1)
            omega
      rcases Nat.lt_or_ge i n with h1 | h1
      · rw [hz i h1]
        rcases h8 with h8 | h8
        · rw [h8]; simp
        · rw [sum_zero h8 i h1]; simp
      · obtain rfl : i = n := by omega
        rcases h8 with h8 | h8
        · rw [h8]; simp
        · rw [h8, Nat.zero_add, Nat.mul_comm]
    · have he : sumA b n * a n = b n * sumA a n := by
        rcases Nat.decEq (sumA b n * a n) (b n * sumA a n) with h1 | h1
        · have := sum2_lt h0 h1
          omega
        · exact h1
      rcases Nat.lt_or_ge i n with h1 | h1
      · have hi1 := hI i h1
        have h9 : a i * b n = b i * a n := by
          refine Nat.eq_of_mul_eq_mul_right h0 ?_
          grind
        grind
      · obtain rfl : i = n := by omega
        grind
end Go.Proofs.YtfnmpkkfdljgcaaDoor

/- A logarithm that is told of a sum: it is in form; its sign. -/
namespace Go.Proofs.YtfnmpkkfdljgcaaDoor
open Go.RowKit

theorem over_by {D : Nat} {l : List (Int × Int)} (hD : 0 < D) (hr : Rising l) : gList D (l.map Prod.snd) ∣ D ∧ 0 < gList D (l.map Prod.snd) ∧ (∀ x, atL l x = ((gList D (l.map Prod.snd) : Nat) : Int) * atL (overL (gList D (l.map Prod.snd)) l) x) ∧ Canon (D / gList D (l.map Prod.snd)) (overL (gList D (l.map Prod.snd)) l) := over_canon hD hr (gcdL_list hr)
/-- It speaks of primes alone, and in bounds. -/
structure Prim (f : Int → Int) : Prop where
  le : ∀ x, -1000000000 ≤ f x ∧ f x ≤ 1000000000
  pr : ∀ x, f x ≠ 0 → 2 ≤ x ∧ x ≤ 4096 ∧ Pr x.toNat
theorem rising_count {hi : Int} : ∀ (l : List (Int × Int)) (lo : Int), lo ≤ hi → Rising l → (∀ e ∈ l, lo < e.1 ∧ e.1 ≤ hi) → (l.length : Int) + lo ≤ hi
  | [], lo, h, _, _ => by simpa using h
  | e :: r, lo, _, hr, he => by
    have h1 := he e (by simp)
    have h2 := rising_count r e.1 h1.2 (List.pairwise_cons.1 hr).2 (fun f hf => ⟨(List.pairwise_cons.1 hr).1 f hf, (he f (by simp [hf])).2⟩)
    simp only [List.length_cons]
    omega
theorem LogBy.ok {base M : Nat} {f : Int → Int} {w : World} {dn : Int} {v : Value} (h : LogBy base M f w dn v) (hM : 1 ≤ M) (hM6 : M ≤ 1000000) (hf : Prim f) :
    ∃ (t : List (Int × Int)) (d G : Nat), dn = (d : Int) ∧ ListAt w v t ∧ t.length ≤ 4096 ∧ M = G * d ∧ 0 < G ∧ (∀ x, f x = (G : Int) * atL t x) ∧ OkLog d t.length (pOf t) (cOf t) := by
  obtain ⟨l, r, a, _, rfl, o⟩ := h.list
  obtain ⟨g1, g2, g3, g4⟩ := over_by hM r
  have hv : ∀ x, f x = ((gList M (l.map Prod.snd) : Nat) : Int) * atL (overL (gList M (l.map Prod.snd)) l) x := fun x => by rw [← a]; exact g3 x
  have hle := Nat.div_le_self M (gList M (l.map Prod.snd))
  have hone := g4.one
  have hpos := g4.pos
  have hsup : ∀ e ∈ overL (gList M (l.map Prod.snd)) l, 2 ≤ e.1 ∧ e.1 ≤ 4096 ∧ Pr e.1.toNat := fun e he => by
    have h1 := hv e.1
    rw [atL_mem g4.rise he] at h1
    have hne : f e.1 ≠ 0 := by
      rw [h1]
      exact Int.mul_ne_zero (by omega) (g4.nz e he)
    exact hf.pr e.1 hne
  have hcount := rising_count (hi := 4096) _ 1 (by omega) g4.rise (fun e he => by have := hsup e he; omega)
  refine ⟨_, M / gList M (l.map Prod.snd), gList M (l.map Prod.snd), rfl, o, by omega, (Nat.mul_div_cancel' g1).symm, g2, hv, okLog_list g4.rise (fun e he => ?_) (by omega) (by omega) ?_⟩
  · have h1 := hv e.1
    rw [atL_mem g4.rise he] at h1
    have hnz := g4.nz e he
    have hb := hf.le e.1
    obtain ⟨p1, p2, p3⟩ := hsup e he
    have habs : e.2.natAbs ≤ (f e.1).natAbs := by
      rw [h1, Int.natAbs_mul, Int.natAbs_natCast]
      exact Nat.le_mul_of_pos_left _ g2
    exact ⟨by omega, hnz, by omega, by omega, p1, p3⟩
  · rw [gcdTo_list _ _ _ (Nat.le_refl _), List.take_length, Int.natAbs_natCast]
    exact hone
/-- Its sides are as the sides of the sum. -/
theorem by_sides {d G U D : Nat} {t : List (Int × Int)} {f : Int → Int} (hok : OkLog d t.length (pOf t) (cOf t)) (hv : ∀ x, f x = (G : Int) * atL t x) (hU : 0 < U) (hD : 0 < D) (hm : ∀ q : Nat, Pr q → f (q : Int) = (mult q U : Int) - (mult q D : Int)) :
    sideUp (pOf t) (cOf t) 1 t.length ^ G * D = sideDown (pOf t) (cOf t) 1 t.length ^ G * U ∧ 0 < sideUp (pOf t) (cOf t) 1 t.length ∧ 0 < sideDown (pOf t) (cOf t) 1 t.length := by
  have h2 : Pr 2 := ⟨by omega, fun d hd hdd => by have := Nat.mul_le_mul hd hd; omega⟩
  obtain ⟨_, a1, a2⟩ := hok.side 1 h2
  refine ⟨eq_of_mult _ _ (Nat.mul_pos (Nat.pow_pos a1) hD) (Nat.mul_pos (Nat.pow_pos a2) hU) (fun q hq => ?_), a1, a2⟩
  have e1 := (hok.side 1 hq).1
  have e2 := hm q hq
  rw [hv] at e2
  rw [mult_mul hq _ _ (Nat.pow_pos a1) hD, mult_mul hq _ _ (Nat.pow_pos a2) hU, mult_power hq a1, mult_power hq a2]
  generalize mult q (sideUp (pOf t) (cOf t) 1 t.length) = A at *
  generalize mult q (sideDown (pOf t) (cOf t) 1 t.length) = B at *
  generalize mult q U = u at *
  generalize mult q D = e at *
  generalize atL t (q : Int) = z at *
  apply Int.ofNat_inj.1
  simp only [Int.natCast_add, Int.natCast_mul]
  have h3 : (A : Int) = B + z := by omega
  rw [h3]
  grind
theorem pow_order {a b G : Nat} (hG : 0 < G) : (a ^ G < b ^ G → a < b) ∧ (a ^ G = b ^ G → a = b) := by
  have h1 : a ^ G < b ^ G → a < b := fun h => by
    rcases Nat.lt_or_ge a b with h1 | h1
    · exact h1
    · have := Nat.pow_le_pow_left h1 G
      omega
  refine ⟨h1, fun h => ?_⟩
  rcases Nat.lt_or_ge a b with h2 | h2
  · have := Nat.pow_lt_pow_left h2 (Nat.pos_iff_ne_zero.1 hG)
    omega
  · rcases Nat.lt_or_ge b a with h3 | h3
    · have := Nat.pow_lt_pow_left h3 (Nat.pos_iff_ne_zero.1 hG)
      omega
    · omega
theorem by_cmp {su sd G U D : Nat} (h : su ^ G * D = sd ^ G * U) (hG : 0 < G) (h1 : 0 < su) (h2 : 0 < sd) (hU : 0 < U) : (D < U → cmpOf su sd = 1) ∧ (U = D → cmpOf su sd = 0) ∧ (U < D → cmpOf su sd = -1) := by
  obtain ⟨o1, o2, o3⟩ := sides_order h (Nat.pow_pos h1) (Nat.pow_pos h2)
  unfold cmpOf
  refine ⟨fun hl => ?_, fun he => ?_, fun hl => ?_⟩
  · have := (pow_order hG).1 (o2 hl)
    grind
  · have := (pow_order hG).2 (o3 he hU)
    grind
  · have := (pow_order hG).1 (o1 hl)
    grind
theorem listAt_log {W : World} {v : Value} {t : List (Int × Int)} (h : ListAt W v t) : LogAt W v t.length (pOf t) (cOf t) := by
  obtain ⟨ad, cap, rfl, hl⟩ := log_of_own h
  exact hl
/-- logs.Sign of what is told of a sum. -/
theorem Sign_by {base M : Nat} {f : Int → Int} {dn : Int} {v : Value} {U D : Nat} (a : Nat → Addr) (w : World) (hE : Errs w a) (h : LogBy base M f w dn v) (hM : 1 ≤ M) (hM6 : M ≤ 1000000) (hf : Prim f) (hU : 0 < U) (hD : 0 < D) (hm : ∀ q : Nat, Pr q → f (q : Int) = (mult q U : Int) - (mult q D : Int)) :
    Calls Tryd.prog 23 #[.agg #[.int .i64 dn, v]] w fun e w' => ((∃ z, e = .returned (.tuple #[.int .i64 z, .nilIface]) ∧ (D < U → z = 1) ∧ (U = D → z = 0) ∧ (U < D → z = -1)) ∨ e = .returned (.tuple #[.int .i64 0, powErr true false a])) ∧ Below w.heap.size w w' := by
  obtain ⟨t, d, G, rfl, hl, hn, _, hG, hv, hok⟩ := h.ok hM hM6 hf
  obtain ⟨s1, s2, s3⟩ := by_sides hok hv hU hD hm
  have hc := by_cmp s1 hG s2 s3 hU
  have hlog : LogAt w v t.length (pOf t) (cOf t) := listAt_log hl
  by_cases hfit : cost (pOf t) (cOf t) t.length ≤ 40000
  · refine (Sign_log d v t.length (pOf t) (cOf t) a true true (by simpa using hok) (by simpa using hfit) w hE hlog (by omega)).mono ?_
    rintro e w' ⟨rfl, hb⟩
    exact ⟨Or.inl ⟨_, rfl, hc⟩, hb⟩
  · refine (Sign_log d v t.length (pOf t) (cOf t) a true false (by simpa using hok) (by simpa using hfit) w hE hlog (by omega)).mono ?_
    rintro e w' ⟨rfl, hb⟩
    exact ⟨Or.inr rfl, hb⟩
end Go.Proofs.YtfnmpkkfdljgcaaDoor

/- GIBBS' inequality of tables. -/
namespace Go.Proofs.YtfnmpkkfdljgcaaDoor

theorem prod_le {f g : Nat → Nat} : ∀ {n : Nat}, (∀ i, i < n → f i ≤ g i) → prodA f n ≤ prodA g n
  | 0, _ => Nat.le_refl _
  | n + 1, h => Nat.mul_le_mul (prod_le fun i hi => h i (by omega)) (h n (by omega))
theorem prod_mul (f g : Nat → Nat) : ∀ n, prodA (fun i => f i * g i) n = prodA f n * prodA g n
  | 0 => rfl
  | n + 1 => by
    simp only [prodA]
    rw [prod_mul f g n]
    grind
theorem prod_congr {f g : Nat → Nat} : ∀ {n : Nat}, (∀ i, i < n → f i = g i) → prodA f n = prodA g n
  | 0, _ => rfl
  | n + 1, h => by
    simp only [prodA]
    rw [prod_congr (n := n) (fun i hi => h i (by omega)), h n (by omega)]
theorem sumA_congr {f g : Nat → Nat} : ∀ {n : Nat}, (∀ i, i < n → f i = g i) → sumA f n = sumA g n
  | 0, _ => rfl
  | n + 1, h => by
    simp only [sumA]
    rw [sumA_congr (n := n) (fun i hi => h i (by omega)), h n (by omega)]
theorem sumA_ge (f : Nat → Nat) : ∀ {n i : Nat}, i < n → f i ≤ sumA f n
  | 0, _, h => by omega
  | n + 1, i, h => by
    simp only [sumA]
    rcases Nat.lt_or_ge i n with h1 | h1
    · have := sumA_ge f h1
      omega
    · obtain rfl : i = n := by omega
      omega
theorem sumA_mul (k : Nat) (f : Nat → Nat) : ∀ n, sumA (fun i => k * f i) n = k * sumA f n
  | 0 => rfl
  | n + 1 => by
    simp only [sumA]
    rw [sumA_mul k f n]
    grind
theorem sumA_add (f g : Nat → Nat) : ∀ n, sumA (fun i => f i + g i) n = sumA f n + sumA g n
  | 0 => rfl
  | n + 1 => by
    simp only [sumA]
    rw [sumA_add f g n]
    omega
theorem sumA_swap (F : Nat → Nat → Nat) (C : Nat) : ∀ R, sumA (fun i => sumA (fun j => F i j) C) R = sumA (fun j => sumA (fun i => F i j) R) C
  | 0 => by
    simp only [sumA]
    have : ∀ n, sumA (fun _ => 0) n = 0 := by
      intro n
      induction n with
      | zero => rfl
      | succ n ih => simp only [sumA]; omega
    rw [this]
  | R + 1 => by
    simp only [sumA]
    rw [sumA_swap F C R, ← sumA_add]
/-- The sum of logarithms, of tables. -/
theorem sums2_le (a b : Nat → Nat → Nat) (C R : Nat) :
    sumA (fun i => sumA (a i) C) R ^ sumA (fun i => sumA (a i) C) R * prodA (fun i => prodA (fun j => b i j ^ a i j) C) R ≤ sumA (fun i => sumA (b i) C) R ^ sumA (fun i => sumA (a i) C) R * prodA (fun i => prodA (fun j => a i j ^ a i j) C) R := by
  have h1 := prod_le (n := R) (fun i _ => sums_le (a i) (b i) C)
  rw [prod_mul, prod_mul] at h1
  have h2 := sums_le (fun i => sumA (a i) C) (fun i => sumA (b i) C) R
  have hX : 0 < prodA (fun i => sumA (a i) C ^ sumA (a i) C) R := prod_pos fun i _ => self_pos _
  refine Nat.le_of_mul_le_mul_right (c := prodA (fun i => sumA (a i) C ^ sumA (a i) C) R) ?_ hX
  have h3 := Nat.mul_le_mul_left (sumA (fun i => sumA (a i) C) R ^ sumA (fun i => sumA (a i) C) R) h1
  have h4 := Nat.mul_le_mul_right (prodA (fun i => prodA (fun j => a i j ^ a i j) C) R) h2
  generalize sumA (fun i => sumA (a i) C) R ^ sumA (fun i => sumA (a i) C) R = A at *
  generalize sumA (fun i => sumA (b i) C) R ^ sumA (fun i => sumA (a i) C) R = B at *
  generalize prodA (fun i => sumA (a i) C ^ sumA (a i) C) R = X at *
  generalize prodA (fun i => sumA (b i) C ^ sumA (a i) C) R = Y at *
  generalize prodA (fun i => prodA (fun j => b i j ^ a i j) C) R = L at *
  generalize prodA (fun i => prodA (fun j => a i j ^ a i j) C) R = Q at *
  grind
/-- What rows and columns tell of each other is not below 0. -/
theorem told_le (a : Nat → Nat → Nat) (C R N : Nat) (hN : N = sumA (fun i => sumA (a i) C) R) (hN0 : 0 < N) :
    prodA (fun i => prodA (fun j => (sumA (a i) C * sumA (fun k => a k j) R) ^ a i j) C) R ≤ N ^ N * prodA (fun i => prodA (fun j => a i j ^ a i j) C) R := by
  have h := sums2_le a (fun i j => sumA (a i) C * sumA (fun k => a k j) R) C R
  have e1 : sumA (fun j => sumA (fun k => a k j) R) C = N := by rw [hN, sumA_swap]
  have e2 : sumA (fun i => sumA (fun j => sumA (a i) C * sumA (fun k => a k j) R) C) R = N * N := by
    have : sumA (fun i => sumA (fun j => sumA (a i) C * sumA (fun k => a k j) R) C) R = sumA (fun i => N * sumA (a i) C) R := sumA_congr fun i _ => by rw [sumA_mul, e1, Nat.mul_comm]
    rw [this, sumA_mul, ← hN]
  rw [e2, ← hN, Nat.mul_pow] at h
  refine Nat.le_of_mul_le_mul_left (c := N ^ N) ?_ (Nat.pow_pos hN0)
  generalize prodA (fun i => prodA (fun j => (sumA (a i) C * sumA (fun k => a k j) R) ^ a i j) C) R = L at *
  generalize prodA (fun i => prodA (fun j => a i j ^ a i j) C) R = Q at *
  generalize N ^ N = Z at *
  grind
end Go.Proofs.YtfnmpkkfdljgcaaDoor

/- The law's copies of lists. -/
namespace Go.Proofs.YtfnmpkkfdljgcaaDoor
open Go.RowKit

theorem append_zeroI (w : World) (ty : TypeId) (ad : Option Addr) (cap : Nat) : (Builtin.append_ #[26, 26] ty #[.slice none 0 0, .slice ad 0 cap]).run Tryd.prog w = .ok (.slice none 0 0) w := by
  obtain ⟨i, hi, hi2⟩ := Option.map_eq_some_iff.1 Tryd.infoInt
  refine run_append_nothing w _ _ ty 3 i Tryd.underlying26 hi none 0 0 (Nat.le_refl _) _ ?_
  cases ad with
  | none => exact Src.ofNil w Tryd.underlying26 cap
  | some a => exact Src.ofSlice w Tryd.underlying26 a 0 cap [] (by simp) (fun j u h => by simp at h) (fun u h => by simp at h)
theorem wpList_append_zeroI {w : World} {ops : Array Oper} {rest : List Oper} {o : Oper} {a : Act} {Q : Exit → Act → World → Prop} (hgd : o.guard = none) (s x : Operand)
    (ho : o.op = .call { callee := .builtin .append, args := #[s, x], argTypes := #[26, 26] })
    (ad : Option Addr) (cap : Nat) (hs : a.eval s = .slice none 0 0) (hx : a.eval x = .slice ad 0 cap)
    (h : wpList Tryd.prog ops Q rest (a.put o.dst (.slice none 0 0)) w) : wpList Tryd.prog ops Q (o :: rest) a w := by
  refine wpList_plain hgd fun K hK => ?_
  have hrun := append_zeroI w o.type ad cap
  unfold Oper.wp
  simp [execOp, ho, resolve, invoke, builtin, hs, hx, hrun, Result.andThen]
  exact hK _ _ h

theorem numsAt_own {w : World} {base : Nat} {v : Value} {n : Nat} {z : Nat → Int} (h : w.ownsRow base 3 1 v n (numCells z n)) : NumsAt w v n z := by
  rcases h.2 with ⟨hv, h0⟩ | ⟨g, cap, cur, hv, _⟩
  · exact Or.inl ⟨none, 0, hv, h0⟩
  · rcases Nat.eq_zero_or_pos n with h0 | h0
    · exact Or.inl ⟨_, _, by rw [hv, h0], h0⟩
    · subst hv
      exact Or.inr ⟨g, 0, cap, rfl, h0, rowAt_of_row h⟩
set_option maxRecDepth 100000 in
set_option maxHeartbeats 1000000 in
theorem ints_row (v : Value) (n : Nat) (z : Nat → Int) (w : World) (h : NumsAt w v n z) (hn : n ≤ 100000) :
    Calls Tryd.prog 28 #[v] w fun e w' => ∃ v', e = .returned v' ∧ w'.ownsRow w.heap.size 3 1 v' n (numCells z n) ∧ Below w.heap.size w w' := by
  rcases h with ⟨ad, cap, rfl, rfl⟩ | ⟨b, o, cap, rfl, h0, hr⟩
  · go_enter Tryd.func28, Tryd.ntmps28
    go_wp2_with (at_builtin; go_must (refine wpList_append_zeroI rfl _ _ rfl ad cap rfl rfl ?_))
    go_ret
    exact ⟨_, rfl, ⟨rfl, Or.inl ⟨rfl, rfl⟩⟩, Below.refl _ _⟩
  · obtain ⟨i, hi, hi2⟩ := Option.map_eq_some_iff.1 Tryd.infoInt
    obtain ⟨hz, hsz, hby⟩ : i.zero = some (.int .i64 0) ∧ i.size = 1 ∧ i.bytes = 8 := by simpa using hi2
    have HR := Hid.mk' hr
    have HI : Hid (Tryd.prog.info? 3 = some i) := hi
    have HZ : Hid (i.zero = some (.int .i64 0)) := hz
    have HS : Hid (i.size = 1) := hsz
    have HY : Hid (i.bytes = 8) := hby
    have HC : Hid (∀ u, u ∈ numCells z n → u.oneCell' = true) := fun u hu => by obtain ⟨x, rfl⟩ := numCells_ints z n u hu; rfl
    have HL : Hid ((numCells z n).length = n * 1) := by show _ = _; rw [numCells_length, Nat.mul_one]
    clear hr hi2 hi hz hsz hby
    go_enter Tryd.func28, Tryd.ntmps28
    go_wp2_with (at_builtin; go_must (refine wpList_append_lies _ rfl _ _ _ rfl w.heap.size 3 i _ 1 8 Tryd.underlying26 HI.out HZ.out HS.out HY.out rfl (by omega) (.slice none 0 0) 0 [] rfl ⟨rfl, Or.inl ⟨rfl, rfl⟩⟩ ⟨b, o, none⟩ n cap (numCells z n) rfl HL.out (fun j u hu => numCells_news HR.out j u hu) HC.out h0 (by unfold maxLen; omega) (by omega) (by simp) _ rfl ?_; intro g cap' w1 hown hgrow hat hlt; have HOWN := Hid.mk' hown; have HG := Hid.mk' hgrow; clear hown hgrow hat))
    go_ret
    exact ⟨_, rfl, by simpa using HOWN.out, (Below.refl _ _).grown HG.out (Nat.le_refl _) (fun k hk => by cases hk)⟩
theorem ints_any (v : Value) (n : Nat) (z : Nat → Int) (w : World) (h : NumsAt w v n z) (hn : n ≤ 100000) :
    Calls Tryd.prog 28 #[v] w fun e w' => ∃ v', e = .returned v' ∧ NumsAt w' v' n z ∧ Below w.heap.size w w' := by
  refine (ints_row v n z w h hn).mono ?_
  rintro e w' ⟨v', rfl, h1, h2⟩
  exact ⟨v', rfl, numsAt_own h1, h2⟩
end Go.Proofs.YtfnmpkkfdljgcaaDoor

/- The library contracts of slices.Grow laid at the numbers of this translation. -/
namespace Go.Proofs
open Go.Shelf
def Tryd.growA_ren : Go.Shelf.Ren := ⟨fun | 4 => 74 | n => n, fun | 22 => 26 | 25 => 3 | 3 => 3 | 4 => 4 | 9 => 9 | 20 => 20 | 0 => 0 | n => n, fun | n => n⟩
theorem Tryd.growA : Go.Proofs.Lays8.n4 Tryd.prog Tryd.growA_ren := {
  mixed := by kernel_rfl
  f4 := ⟨Tryd.f74.name, by decide, Tryd.func74.trans (congrArg some (by kernel_rfl))⟩
  t0 := Tryd.underlying0
  a0 := Tryd.isAgg0
  z0 := Tryd.sizeOf0
  v0 := Tryd.zeroValue0
  t3 := Tryd.underlying3
  a3 := Tryd.isAgg3
  z3 := Tryd.sizeOf3
  v3 := Tryd.zeroValue3
  t4 := Tryd.underlying4
  a4 := Tryd.isAgg4
  z4 := Tryd.sizeOf4
  v4 := Tryd.zeroValue4
  t9 := Tryd.underlying9
  a9 := Tryd.isAgg9
  z9 := Tryd.sizeOf9
  v9 := Tryd.zeroValue9
  t20 := Tryd.underlying20
  a20 := Tryd.isAgg20
  z20 := Tryd.sizeOf20
  v20 := Tryd.zeroValue20
  t22 := Tryd.underlying26
  a22 := Tryd.isAgg26
  z22 := Tryd.sizeOf26
  v22 := Tryd.zeroValue26 }
end Go.Proofs

/- Tables in memory; all of a table's weights as one list. -/
namespace Go.Proofs.YtfnmpkkfdljgcaaDoor
open Go.RowKit

def TabAt (w : World) (v : Value) (R : Nat) (vs : Nat → Value) (ns : Nat → Nat) (zs : Nat → Nat → Int) : Prop := (∃ ad cap, v = .slice ad 0 cap ∧ R = 0) ∨ ∃ b o cap, v = .slice (some ⟨b, o, none⟩) R cap ∧ 0 < R ∧ ∀ i, i < R → w.cell? ⟨b, o + i, none⟩ = some (vs i) ∧ NumsAt w (vs i) (ns i) (zs i)
theorem TabAt.later {w w' : World} {v : Value} {R : Nat} {vs : Nat → Value} {ns : Nat → Nat} {zs : Nat → Nat → Int} (h : TabAt w v R vs ns zs) (hb : Below w.heap.size w w') : TabAt w' v R vs ns zs := by
  rcases h with h | ⟨b, o, cap, hv, hn, hr⟩
  · exact Or.inl h
  · exact Or.inr ⟨b, o, cap, hv, hn, fun i hi => ⟨by rw [hb.cell (cell_lt (hr i hi).1)]; exact (hr i hi).1, (hr i hi).2.later hb⟩⟩
theorem TabAt.form {w : World} {v : Value} {R : Nat} {vs : Nat → Value} {ns : Nat → Nat} {zs : Nat → Nat → Int} (h : TabAt w v R vs ns zs) : ∃ ad cap, v = .slice ad R cap := by
  rcases h with ⟨ad, cap, rfl, rfl⟩ | ⟨b, o, cap, rfl, _⟩
  · exact ⟨_, _, rfl⟩
  · exact ⟨_, _, rfl⟩
def rowL (z : Nat → Int) (n : Nat) : List Int := (List.range n).map z
/-- All weights of the first k rows. -/
def flatL (ns : Nat → Nat) (zs : Nat → Nat → Int) : Nat → List Int
  | 0 => []
  | k + 1 => flatL ns zs k ++ rowL (zs k) (ns k)
def cellL (l : List Int) : List Value := l.map fun x => .int .i64 x
theorem cellL_length (l : List Int) : (cellL l).length = l.length := by simp [cellL]
theorem cellL_append (l r : List Int) : cellL (l ++ r) = cellL l ++ cellL r := by simp [cellL]
theorem rowL_length (z : Nat → Int) (n : Nat) : (rowL z n).length = n := by simp [rowL]
theorem cellL_row (z : Nat → Int) : ∀ n, cellL (rowL z n) = numCells z n
  | 0 => rfl
  | n + 1 => by
    have ih := cellL_row z n
    unfold cellL rowL at ih ⊢
    rw [List.range_succ, List.map_append, List.map_append, ih]
    rfl
def sumT (ns : Nat → Nat) : Nat → Nat
  | 0 => 0
  | k + 1 => sumT ns k + ns k
theorem flatL_length (ns : Nat → Nat) (zs : Nat → Nat → Int) : ∀ k, (flatL ns zs k).length = sumT ns k
  | 0 => rfl
  | k + 1 => by
    show (flatL ns zs k ++ rowL (zs k) (ns k)).length = sumT ns k + ns k
    rw [List.length_append, flatL_length ns zs k, rowL_length]
theorem sumT_mono (ns : Nat → Nat) {k n : Nat} (h : k ≤ n) : sumT ns k ≤ sumT ns n := by
  induction n with
  | zero => obtain rfl : k = 0 := by omega
            exact Nat.le_refl _
  | succ n ih =>
    rcases Nat.lt_or_ge k (n + 1) with h' | h'
    · have := ih (by omega); show sumT ns k ≤ sumT ns n + ns n; omega
    · obtain rfl : k = n + 1 := by omega
      exact Nat.le_refl _
/-- A list as a row of numbers. -/
def atF (l : List Int) (i : Nat) : Int := l.getD i 0
theorem numCells_list : ∀ l : List Int, numCells (atF l) l.length = cellL l := fun l => by
  rw [← cellL_row]
  congr 1
  refine List.ext_getElem (by simp [rowL]) (fun i h1 h2 => ?_)
  simp [rowL, atF, List.getD, List.getElem?_eq_getElem h2]
theorem numsAt_row {w : World} {base : Nat} {v : Value} {l : List Int} (h : w.ownsRow base 3 1 v l.length (cellL l)) : NumsAt w v l.length (atF l) := by
  rcases h.2 with ⟨hv, h0⟩ | ⟨g, cap, cur, hv, _⟩
  · exact Or.inl ⟨none, 0, hv, h0⟩
  · rcases Nat.eq_zero_or_pos l.length with h0 | h0
    · exact Or.inl ⟨_, _, by rw [hv, h0], h0⟩
    · refine Or.inr ⟨g, 0, cap, hv, h0, ?_⟩
      subst hv
      rw [← numCells_list] at h
      exact rowAt_of_row h

theorem append_nothing (w : World) (ty : TypeId) (ao : Option Addr) (l c : Nat) (hl : l ≤ c) (ad : Option Addr) (cap : Nat) : (Builtin.append_ #[26, 26] ty #[.slice ao l c, .slice ad 0 cap]).run Tryd.prog w = .ok (.slice ao l c) w := by
  obtain ⟨i, hi, hi2⟩ := Option.map_eq_some_iff.1 Tryd.infoInt
  refine run_append_nothing w _ _ ty 3 i Tryd.underlying26 hi ao l c hl _ ?_
  cases ad with
  | none => exact Src.ofNil w Tryd.underlying26 cap
  | some a => exact Src.ofSlice w Tryd.underlying26 a 0 cap [] (by simp) (fun j u h => by simp at h) (fun u h => by simp at h)
theorem wpList_append_nothing {w : World} {ops : Array Oper} {rest : List Oper} {o : Oper} {a : Act} {Q : Exit → Act → World → Prop} (hgd : o.guard = none) (s x : Operand)
    (ho : o.op = .call { callee := .builtin .append, args := #[s, x], argTypes := #[26, 26] })
    (ao : Option Addr) (l c : Nat) (hl : l ≤ c) (ad : Option Addr) (cap : Nat) (hs : a.eval s = .slice ao l c) (hx : a.eval x = .slice ad 0 cap)
    (h : wpList Tryd.prog ops Q rest (a.put o.dst (.slice ao l c)) w) : wpList Tryd.prog ops Q (o :: rest) a w := by
  refine wpList_plain hgd fun K hK => ?_
  have hrun := append_nothing w o.type ao l c hl ad cap
  unfold Oper.wp
  simp [execOp, ho, resolve, invoke, builtin, hs, hx, hrun, Result.andThen]
  exact hK _ _ h
theorem row_shape {w : World} {base : Nat} {t : TypeId} {v : Value} {n : Nat} {xs : List Value} (h : w.ownsRow base t 1 v n xs) : ∃ ao c, v = .slice ao n c ∧ n ≤ c := by
  rcases h.2 with ⟨rfl, rfl⟩ | ⟨g, cap, cur, rfl, _, _, hc, _⟩
  · exact ⟨none, 0, rfl, Nat.le_refl _⟩
  · exact ⟨_, _, rfl, hc⟩
theorem below_grow {w wr w3 : World} {v : Value} {e : TypeId} {size n : Nat} {xs : List Value} (hB : Below w.heap.size w wr) (hR : wr.ownsRow w.heap.size e size v n xs) (hg : wr.grownBy w3 v.ownBlock) : Below w.heap.size w w3 :=
  hB.grown hg hB.size (fun k e => (hR.lt k e).1)

set_option maxRecDepth 100000 in
set_option maxHeartbeats 2000000 in
theorem Flat_any (v : Value) (R : Nat) (vs : Nat → Value) (ns : Nat → Nat) (zs : Nat → Nat → Int) (w : World) (h : TabAt w v R vs ns zs) (hR : R ≤ 1000) (hs : sumT ns R ≤ 2000000) :
    Calls Tryd.prog 24 #[v] w fun e w' => ∃ v', e = .returned v' ∧ w'.ownsRow w.heap.size 3 1 v' (flatL ns zs R).length (cellL (flatL ns zs R)) ∧ Below w.heap.size w w' := by
  rcases h with ⟨ad, cap, rfl, rfl⟩ | ⟨b, o, cap, rfl, h0, hr⟩
  · go_enter Tryd.func24, Tryd.ntmps24
    go_wp2_with fail
    refine wp_loop_rounds 1 ?_
    rw [rounds_succ]
    go_wp2_with fail
    go_ret
    exact ⟨_, rfl, ⟨rfl, Or.inl ⟨rfl, rfl⟩⟩, Below.refl _ _⟩
  · obtain ⟨i0, hi, hz0, hz1, hz2⟩ := info_parts Tryd.infoInt
    have HINF : Hid (Tryd.prog.info? 3 = some i0 ∧ i0.zero = some (.int .i64 0) ∧ i0.size = 1 ∧ i0.bytes = 8) := ⟨hi, hz0, hz1, hz2⟩
    have HR := Hid.mk' hr
    clear hi hz0 hz1 hz2 hr
    go_enter Tryd.func24, Tryd.ntmps24
    go_wp2_with fail
    go_loopw [3, 4] (fun u i wr => ∃ k : Nat, k ≤ R ∧ i = .int .i64 k ∧ Hid (wr.ownsRow w.heap.size 3 1 u (flatL ns zs k).length (cellL (flatL ns zs k))) ∧ Hid (Below w.heap.size w wr)) (fun _ i _ => R - (intOf i).toNat)
    case atStart => exact ⟨0, Nat.zero_le _, rfl, ⟨rfl, Or.inl ⟨rfl, rfl⟩⟩, Below.refl _ _⟩
    case round =>
      obtain ⟨k, hk, rfl, HO, HB⟩ := hrel
      rcases Nat.lt_or_ge k R with h1 | h1
      · have hc := (HR.out k h1).1
        have hc' : wr.cell? ⟨b, o + k, none⟩ = some (vs k) := by rw [HB.out.cell (cell_lt hc)]; exact hc
        have hkn : (k : Int) < (R : Int) := by omega
        have hm1 := sumT_mono ns (Nat.le_of_lt h1)
        have hm2 : sumT ns k + ns k ≤ sumT ns R := sumT_mono ns h1
        have hfb : (flatL ns zs k).length ≤ 2000000 ∧ (flatL ns zs k).length + ns k ≤ 2000000 := by rw [flatL_length]; omega
        clear hm1 hm2
        rcases (HR.out k h1).2.later HB.out with ⟨ad1, cap1, hv1, hn1⟩ | ⟨b1, o1, cap1, hv1, hn1, hr1⟩
        · rw [hv1] at hc'
          obtain ⟨ao, cc, hu, hlc⟩ := row_shape HO.out
          have HU := Hid.mk' hu
          rw [hu] at HO ⊢
          have HE : Hid (flatL ns zs (k + 1) = flatL ns zs k) := by show flatL ns zs k ++ rowL (zs k) (ns k) = _; rw [hn1]; simp [rowL]
          clear hc hu
          go_wp2_with (at_builtin; go_must (refine wpList_append_nothing rfl _ _ rfl ao _ cc hlc ad1 cap1 rfl rfl ?_))
          exact ⟨⟨k + 1, h1, by go_num, by rw [HE.out]; exact HO, HB⟩, by simp [intOf]; omega⟩
        · rw [hv1] at hc'
          have HR1 := Hid.mk' hr1
          have HC : Hid (∀ u, u ∈ numCells (zs k) (ns k) → u.oneCell' = true) := fun u hu => by obtain ⟨x, rfl⟩ := numCells_ints (zs k) (ns k) u hu; rfl
          have HL : Hid ((numCells (zs k) (ns k)).length = ns k * 1) := by show _ = _; rw [numCells_length, Nat.mul_one]
          have HE : Hid (cellL (flatL ns zs (k + 1)) = cellL (flatL ns zs k) ++ numCells (zs k) (ns k) ∧ (flatL ns zs (k + 1)).length = (flatL ns zs k).length + ns k) := by
            refine ⟨?_, ?_⟩
            · show cellL (flatL ns zs k ++ rowL (zs k) (ns k)) = _
              rw [cellL_append, cellL_row]
            · show (flatL ns zs k ++ rowL (zs k) (ns k)).length = _
              rw [List.length_append, rowL_length]
          have hzB := HB.out.size
          clear hc hr1
          go_wp2_with (at_builtin; go_must (refine wpList_append_lies _ rfl _ _ _ rfl w.heap.size 3 i0 _ 1 8 Tryd.underlying26 HINF.out.1 HINF.out.2.1 HINF.out.2.2.1 HINF.out.2.2.2 rfl (by omega) u3 _ _ rfl HO.out ⟨b1, o1, none⟩ (ns k) cap1 (numCells (zs k) (ns k)) rfl HL.out (fun j u hu => numCells_news HR1.out j u hu) HC.out hn1 (by unfold maxLen; omega) (by omega) (by omega) _ rfl ?_; intro g' cap2 w3 hown3 hgrow3 hat3 hlt3; have HO3 := Hid.mk' hown3; have HG3 := Hid.mk' hgrow3; clear hown3 hgrow3 hat3))
          refine ⟨⟨k + 1, h1, by go_num, ?_, below_grow HB.out HO.out HG3.out⟩, by simp [intOf]; omega⟩
          rw [HE.out.1, HE.out.2]
          exact HO3
      · obtain rfl : k = R := by omega
        go_wp2_with fail
        go_ret
        exact ⟨_, rfl, HO.out, HB.out⟩

set_option maxRecDepth 100000 in
set_option maxHeartbeats 1000000 in
theorem few_any (v : Value) (R : Nat) (vs : Nat → Value) (ns : Nat → Nat) (zs : Nat → Nat → Int) (w : World) (h : TabAt w v R vs ns zs) (hm : R ≤ maxLen) (hs : sumT ns R ≤ 2000000) (r : Bool) (hr : r = true ↔ R ≤ 40 ∧ sumT ns R ≤ 400) :
    Calls Tryd.prog 7 #[v] w fun e w' => e = .returned (.bool r) ∧ Below w.heap.size w w' := by
  unfold maxLen at hm
  by_cases hR : R ≤ 40
  · have hF := Flat_any v R vs ns zs w h (by omega) hs
    obtain ⟨ad, cap, rfl⟩ := h.form
    have HRR : Hid (r = decide ((sumT ns R : Int) ≤ 400)) := by
      by_cases hh : sumT ns R ≤ 400
      · rw [hr.2 ⟨hR, hh⟩, decide_eq_true (by omega)]; exact rfl
      · have : r = false := by cases r with | false => rfl | true => exact absurd (hr.1 rfl).2 hh
        rw [this, decide_eq_false (by omega)]; exact rfl
    have HFL := Hid.mk' (flatL_length ns zs R)
    clear h hr
    go_enter Tryd.func7, Tryd.ntmps7
    go_wp2_with (go_at_call 24; refine hF.mono ?_; rintro e w1 ⟨v1, rfl, hrow, hb1⟩; obtain ⟨ao, cc, hu, hlc⟩ := row_shape hrow; rw [HFL.out] at hu; subst hu; have HB1 := Hid.mk' hb1; clear hrow hb1 hlc)
    go_ret
    exact ⟨by rw [HRR.out]; rfl, HB1.out⟩
  · have hrf : r = false := by cases r with | false => rfl | true => exact absurd (hr.1 rfl).1 hR
    subst hrf
    obtain ⟨ad, cap, rfl⟩ := h.form
    have hd : decide ((R : Int) ≤ 40) = false := decide_eq_false (by omega)
    clear h hr
    go_enter Tryd.func7, Tryd.ntmps7
    go_wp2_with fail
    go_ret
    exact ⟨rfl, Below.refl _ _⟩

/-- Is a row longer than 16? Is one not as long as the first? -/
def longB (ns : Nat → Nat) : Nat → Bool
  | 0 => false
  | k + 1 => longB ns k || decide (16 < ns k)
def unevenB (ns : Nat → Nat) : Nat → Bool
  | 0 => false
  | k + 1 => unevenB ns k || !decide (ns k = ns 0)
theorem longB_mono {ns : Nat → Nat} {k n : Nat} (hk : k < n) (h : 16 < ns k) : longB ns n = true := by
  induction n with
  | zero => omega
  | succ n ih =>
    show (longB ns n || decide (16 < ns n)) = true
    rcases Nat.lt_or_ge k n with h' | h'
    · rw [ih h']; rfl
    · obtain rfl : k = n := by omega
      rw [decide_eq_true h, Bool.or_true]
theorem unevenB_mono {ns : Nat → Nat} {k n : Nat} (hk : k < n) (h : ns k ≠ ns 0) : unevenB ns n = true := by
  induction n with
  | zero => omega
  | succ n ih =>
    show (unevenB ns n || !decide (ns n = ns 0)) = true
    rcases Nat.lt_or_ge k n with h' | h'
    · rw [ih h']; rfl
    · obtain rfl : k = n := by omega
      rw [decide_eq_false h]; simp
/-- The number of a table's error, as the document says it. -/
def tabErr (R : Nat) (ns : Nat → Nat) (zs : Nat → Nat → Int) : Nat := if 16 < R then 2 else if longB ns R = true then 2 else if unevenB ns R = true then 3 else listErr (atF (flatL ns zs R)) (flatL ns zs R).length
end Go.Proofs.YtfnmpkkfdljgcaaDoor

/- The document's TableError; the law's copies of tables. -/
namespace Go.Proofs.YtfnmpkkfdljgcaaDoor
open Go.RowKit

theorem tabErr_many {R : Nat} {ns : Nat → Nat} {zs : Nat → Nat → Int} (h : 16 < R) : tabErr R ns zs = 2 := by unfold tabErr; exact if_pos h
theorem tabErr_long {R : Nat} {ns : Nat → Nat} {zs : Nat → Nat → Int} (h : ¬ 16 < R) (hl : longB ns R = true) : tabErr R ns zs = 2 := by unfold tabErr; rw [if_neg h, if_pos hl]
theorem tabErr_uneven {R : Nat} {ns : Nat → Nat} {zs : Nat → Nat → Int} (h : ¬ 16 < R) (hl : longB ns R = false) (hu : unevenB ns R = true) : tabErr R ns zs = 3 := by unfold tabErr; rw [if_neg h, if_neg (by rw [hl]; simp), if_pos hu]
theorem tabErr_even {R : Nat} {ns : Nat → Nat} {zs : Nat → Nat → Int} (h : ¬ 16 < R) (hl : longB ns R = false) (hu : unevenB ns R = false) : tabErr R ns zs = listErr (atF (flatL ns zs R)) (flatL ns zs R).length := by unfold tabErr; rw [if_neg h, if_neg (by rw [hl]; simp), if_neg (by rw [hu]; simp)]
theorem not_long {ns : Nat → Nat} : ∀ {n : Nat}, longB ns n = false → ∀ i, i < n → ns i ≤ 16
  | n, h, i, hi => by
    rcases Nat.lt_or_ge 16 (ns i) with h' | h'
    · rw [longB_mono hi h'] at h; cases h
    · exact h'
theorem sumT_le {ns : Nat → Nat} {B : Nat} : ∀ {n : Nat}, (∀ i, i < n → ns i ≤ B) → sumT ns n ≤ n * B
  | 0, _ => Nat.zero_le _
  | n + 1, h => by
    have h1 := sumT_le (ns := ns) (B := B) (n := n) (fun i hi => h i (by omega))
    have h2 := h n (by omega)
    show sumT ns n + ns n ≤ (n + 1) * B
    rw [Nat.add_mul]; omega
theorem sumT_small {ns : Nat → Nat} {R : Nat} (hR : ¬ 16 < R) (hl : longB ns R = false) : sumT ns R ≤ 256 := by
  have h1 := sumT_le (ns := ns) (B := 16) (not_long hl)
  have h2 : R * 16 ≤ 16 * 16 := Nat.mul_le_mul_right _ (by omega)
  omega

set_option maxRecDepth 100000 in
set_option maxHeartbeats 2000000 in
theorem TableError_any (v : Value) (R : Nat) (vs : Nat → Value) (ns : Nat → Nat) (zs : Nat → Nat → Int) (w : World) (h : TabAt w v R vs ns zs) (hR : R ≤ 40) (hs : sumT ns R ≤ 400) :
    Calls Tryd.prog 8 #[v] w fun e w' => e = .returned (.int .i64 (tabErr R ns zs : Int)) ∧ Below w.heap.size w w' := by
  by_cases hR16 : 16 < R
  · obtain ⟨ad, cap, rfl⟩ := h.form
    have HE := Hid.mk' (tabErr_many (ns := ns) (zs := zs) hR16)
    clear h
    go_enter Tryd.func8, Tryd.ntmps8
    go_wp2_with fail
    go_ret
    exact ⟨by rw [HE.out]; rfl, Below.refl _ _⟩
  · have HFL : Hid (∀ W, Below w.heap.size w W → Calls Tryd.prog 24 #[v] W fun e w' => ∃ v', e = .returned v' ∧ w'.ownsRow W.heap.size 3 1 v' (flatL ns zs R).length (cellL (flatL ns zs R)) ∧ Below W.heap.size W w') := fun W hb => Flat_any v R vs ns zs W (h.later hb) (by omega) (by omega)
    have HLE : Hid ((flatL ns zs R).length ≤ 400) := by show _ ≤ _; rw [flatL_length]; exact hs
    rcases h with ⟨ad, cap, rfl, rfl⟩ | ⟨b, o, cap, rfl, h0, hr⟩
    · have HE : Hid (tabErr 0 ns zs = listErr (atF (flatL ns zs 0)) (flatL ns zs 0).length) := tabErr_even (by omega) rfl rfl
      go_enter Tryd.func8, Tryd.ntmps8
      go_wp2_with fail
      refine wp_loop_rounds 1 ?_
      rw [rounds_succ]
      go_wp2_with fail
      refine (HFL.out w (Below.refl _ _)).mono ?_
      rintro e w1 ⟨v1, rfl, hrow, hb1⟩
      have hle := listError_any v1 _ _ w1 (numsAt_row hrow) (by have := HLE.out; omega)
      obtain ⟨ao, cc, hu, hlc⟩ := row_shape hrow
      have HB1 := Hid.mk' hb1
      rw [hu] at hle ⊢
      clear hrow hb1 hlc hu
      go_wp2_with (go_at_call 25; refine hle.mono ?_; rintro e w2 ⟨rfl, hw2⟩; rw [hw2]; clear hw2)
      go_ret
      exact ⟨by rw [HE.out]; rfl, HB1.out⟩
    · have HR := Hid.mk' (fun (W : World) (hb : Below w.heap.size w W) (i : Nat) (hi : i < R) => (show W.cell? ⟨b, o + i, none⟩ = some (vs i) by rw [hb.cell (cell_lt (hr i hi).1)]; exact (hr i hi).1))
      have HF : Hid (∀ i, i < R → ∃ ad cap, vs i = .slice ad (ns i) cap) := fun i hi => (hr i hi).2.form
      obtain ⟨ad0, cap0, hv0⟩ := HF.out 0 h0
      have HC0 : Hid (∀ W, Below w.heap.size w W → W.cell? ⟨b, o, none⟩ = some (.slice ad0 (ns 0) cap0)) := fun W hb => by have := HR.out W hb 0 h0; rw [hv0, Nat.add_zero] at this; exact this
      have HN : Hid (∀ i, i < R → ns i ≤ 400) := fun i hi => by have h2 : sumT ns i + ns i ≤ sumT ns R := sumT_mono ns hi; omega
      have HTB : Hid (longB ns R = false → unevenB ns R = true → tabErr R ns zs = 3) := fun h1 h2 => tabErr_uneven hR16 h1 h2
      have HTE : Hid (longB ns R = false → unevenB ns R = false → tabErr R ns zs = listErr (atF (flatL ns zs R)) (flatL ns zs R).length) := fun h1 h2 => tabErr_even hR16 h1 h2
      have HTL : Hid (∀ k, k < R → 16 < ns k → tabErr R ns zs = 2) := fun k hk hl => tabErr_long hR16 (longB_mono hk hl)
      clear hr hv0
      go_enter Tryd.func8, Tryd.ntmps8
      go_wp2_with fail
      go_loopw [3, 4] (fun u i wr => ∃ (k : Nat) (ub : Bool), k ≤ R ∧ u = .bool ub ∧ i = .int .i64 k ∧ Hid (longB ns k = false ∧ unevenB ns k = ub) ∧ Hid (Below w.heap.size w wr)) (fun _ i _ => R - (intOf i).toNat)
      case atStart => exact ⟨0, false, Nat.zero_le _, rfl, rfl, ⟨rfl, rfl⟩, Below.refl _ _⟩
      case round =>
        obtain ⟨k, ub, hk, rfl, rfl, HL, HB⟩ := hrel
        rcases Nat.lt_or_ge k R with h1 | h1
        · obtain ⟨ad1, cap1, hv1⟩ := HF.out k h1
          have hc := HR.out wr HB.out k h1
          rw [hv1] at hc
          have hc0 := HC0.out wr HB.out
          have hc0d := HC0.out wr.drew HB.out.drew
          have hkn : (k : Int) < (R : Int) := by omega
          have hnk := HN.out k h1
          have hn0 := HN.out 0 h0
          have HTK := Hid.mk' (HTL.out k h1)
          have HLK : Hid (longB ns (k + 1) = decide (16 < ns k)) := by show (longB ns k || _) = _; rw [HL.out.1, Bool.false_or]
          have HUK : Hid (unevenB ns (k + 1) = (ub || !decide (ns k = ns 0))) := by show (unevenB ns k || _) = _; rw [HL.out.2]
          generalize ns k = nk at *
          generalize ns 0 = n0 at *
          clear hv1
          rcases Nat.lt_or_ge 16 nk with hl | hl
          · have hlI : (16 : Int) < (nk : Int) := by omega
            go_wp2_with fail
            go_ret
            exact ⟨by rw [HTK.out hl]; rfl, HB.out⟩
          · have hlI : (nk : Int) ≤ 16 := by omega
            have HL1 : Hid (longB ns (k + 1) = false) := by show _ = _; rw [HLK.out]; exact decide_eq_false (by omega)
            cases ub with
            | true =>
              have HU1 : Hid (unevenB ns (k + 1) = true) := by show _ = _; rw [HUK.out]; rfl
              go_wp2_with fail
              go_region
              all_goals
                go_wp2_with fail
                exact ⟨⟨k + 1, true, h1, rfl, by go_num, ⟨HL1.out, HU1.out⟩, HB.out.drew⟩, by simp [intOf]; omega⟩
            | false =>
              by_cases he : nk = n0
              · subst he
                have HU1 : Hid (unevenB ns (k + 1) = false) := by show _ = _; rw [HUK.out]; simp
                go_wp2_with fail
                go_region
                all_goals
                  go_wp2_with fail
                  exact ⟨⟨k + 1, false, h1, rfl, by go_num, ⟨HL1.out, HU1.out⟩, HB.out.drew⟩, by simp [intOf]; omega⟩
              · have HU1 : Hid (unevenB ns (k + 1) = true) := by show _ = _; rw [HUK.out, decide_eq_false he]; rfl
                have heb : ((nk : Int) != (n0 : Int)) = true := by simp; omega
                go_wp2_with fail
                go_region
                all_goals
                  go_wp2_with fail
                  exact ⟨⟨k + 1, true, h1, rfl, by go_num, ⟨HL1.out, HU1.out⟩, HB.out.drew⟩, by simp [intOf]; omega⟩
        · obtain rfl : k = R := by omega
          cases ub with
          | true =>
            go_wp2_with fail
            go_ret
            exact ⟨by rw [HTB.out HL.out.1 HL.out.2]; rfl, HB.out⟩
          | false =>
            have HE := Hid.mk' (HTE.out HL.out.1 HL.out.2)
            go_wp2_with fail
            refine (HFL.out wr HB.out).mono ?_
            rintro e w1 ⟨v1, rfl, hrow, hb1⟩
            have hle := listError_any v1 _ _ w1 (numsAt_row hrow) (by have := HLE.out; omega)
            obtain ⟨ao, cc, hu, hlc⟩ := row_shape hrow
            have HB1 := Hid.mk' (HB.out.trans (hb1.mono HB.out.size))
            rw [hu] at hle ⊢
            clear hrow hb1 hlc hu
            go_wp2_with (go_at_call 25; refine hle.mono ?_; rintro e w2 ⟨rfl, hw2⟩; rw [hw2]; clear hw2)
            go_ret
            exact ⟨by rw [HE.out]; rfl, HB1.out⟩
end Go.Proofs.YtfnmpkkfdljgcaaDoor

/- The law's copies of tables; the program's list of a table's weights. -/
namespace Go.Proofs.YtfnmpkkfdljgcaaDoor
open Go.RowKit

theorem Tryd.infoInts : (Tryd.prog.info? 26).map (fun i => (i.zero, i.size, i.bytes)) = some (some (.slice none 0 0), 1, 24) := by kernel_rfl
def rowV (vs : Nat → Value) (k : Nat) : List Value := (List.range k).map vs
theorem rowV_length (vs : Nat → Value) (k : Nat) : (rowV vs k).length = k := by simp [rowV]
theorem rowV_push (vs : Nat → Value) (k : Nat) (v : Value) : rowV vs k ++ [v] = rowV (fun i => if i = k then v else vs i) (k + 1) := by
  unfold rowV
  rw [List.range_succ, List.map_append]
  congr 1
  · refine List.map_congr_left (fun i hi => ?_)
    have := List.mem_range.1 hi
    rw [if_neg (by omega)]
  · simp
theorem tabAt_of_row {w : World} {base : Nat} {t : TypeId} {v : Value} {R : Nat} {vs : Nat → Value} {ns : Nat → Nat} {zs : Nat → Nat → Int} (h : w.ownsRow base t 1 v R (rowV vs R)) (hn : ∀ i, i < R → NumsAt w (vs i) (ns i) (zs i)) : TabAt w v R vs ns zs := by
  rcases h.2 with ⟨hv, h0⟩ | ⟨g, cap, cur, hv, _, hh, _, _, hs, ht⟩
  · exact Or.inl ⟨none, 0, hv, h0⟩
  · rcases Nat.eq_zero_or_pos R with h0 | h0
    · exact Or.inl ⟨_, _, by rw [hv, h0], h0⟩
    · refine Or.inr ⟨g, 0, cap, hv, h0, fun i hi => ⟨?_, hn i hi⟩⟩
      have h1 : (rowV vs R)[i]? = some (vs i) := by simp [rowV, hi]
      rw [← h1, ← ht, List.getElem?_take_of_lt (by omega)]
      simp [World.cell?, hh]
theorem own_past {w w' : World} {base : Nat} {t : TypeId} {sz : Nat} {v : Value} {n : Nat} {xs : List Value} (h : w.ownsRow base t sz v n xs) (hb : Below w.heap.size w w') : w'.ownsRow base t sz v n xs := by
  obtain ⟨hl, hr⟩ := h
  refine ⟨hl, ?_⟩
  rcases hr with hr | ⟨g, cap, cur, hv, hb1, hh, rest⟩
  · exact Or.inl hr
  · exact Or.inr ⟨g, cap, cur, hv, hb1, by rw [hb.block g (heap_lt hh)]; exact hh, rest⟩
/-- A row of another kind beside the one that is grown. -/
theorem own_beside {w w' : World} {b1 b2 : Nat} {t1 t2 : TypeId} {v u : Value} {n m s1 s2 : Nat} {xs ys : List Value} (h : w.ownsRow b1 t1 s1 v n xs) (k : w.ownsRow b2 t2 s2 u m ys) (ht : t1 ≠ t2) (hg : w.grownBy w' u.ownBlock) : w'.ownsRow b1 t1 s1 v n xs := by
  obtain ⟨hl, hr⟩ := h
  refine ⟨hl, ?_⟩
  rcases hr with hr | ⟨g, cap, cur, hv, hb1, hh, rest⟩
  · exact Or.inl hr
  · refine Or.inr ⟨g, cap, cur, hv, hb1, ?_, rest⟩
    rw [hg.block g (heap_lt hh) (fun e => ?_)]
    · exact hh
    · rcases k.2 with ⟨rfl, _⟩ | ⟨g', cap', cur', rfl, _, hh', _⟩
      · cases e
      · obtain rfl : g = g' := by simpa [Value.ownBlock] using e
        rw [hh] at hh'
        simp at hh'
        exact ht hh'.2
set_option maxRecDepth 100000 in
set_option maxHeartbeats 2000000 in
theorem lists_any (v : Value) (R : Nat) (vs : Nat → Value) (ns : Nat → Nat) (zs : Nat → Nat → Int) (w : World) (h : TabAt w v R vs ns zs) (hR : R ≤ 40) (hs : sumT ns R ≤ 400) :
    Calls Tryd.prog 10 #[v] w fun e w' => ∃ v' vs', e = .returned v' ∧ TabAt w' v' R vs' ns zs ∧ Below w.heap.size w w' := by
  rcases h with ⟨ad, cap, rfl, rfl⟩ | ⟨b, o, cap, rfl, h0, hr⟩
  · go_enter Tryd.func10, Tryd.ntmps10
    go_wp2_with fail
    refine wp_loop_rounds 1 ?_
    rw [rounds_succ]
    go_wp2_with fail
    go_ret
    exact ⟨_, vs, rfl, Or.inl ⟨_, _, rfl, rfl⟩, Below.refl _ _⟩
  · obtain ⟨i0, hi, hz0, hz1, hz2⟩ := info_parts Tryd.infoInts
    have HINF : Hid (Tryd.prog.info? 26 = some i0 ∧ i0.zero = some (.slice none 0 0) ∧ i0.size = 1 ∧ i0.bytes = 24) := ⟨hi, hz0, hz1, hz2⟩
    have HR := Hid.mk' hr
    have HN : Hid (∀ i, i < R → ns i ≤ 400) := fun i hi => by have h2 : sumT ns i + ns i ≤ sumT ns R := sumT_mono ns hi; omega
    clear hi hz0 hz1 hz2 hr
    go_enter Tryd.func10, Tryd.ntmps10
    go_wp2_with fail
    go_loopw [3, 4] (fun u i wr => ∃ (k : Nat) (us : Nat → Value), k ≤ R ∧ i = .int .i64 k ∧ Hid (wr.ownsRow w.heap.size 26 1 u k (rowV us k)) ∧ Hid (∀ i, i < k → wr.ownsRow w.heap.size 3 1 (us i) (ns i) (numCells (zs i) (ns i))) ∧ Hid (Below w.heap.size w wr)) (fun _ i _ => R - (intOf i).toNat)
    case atStart => exact ⟨0, vs, Nat.zero_le _, rfl, ⟨rfl, Or.inl ⟨rfl, rfl⟩⟩, (fun i hi => by omega), Below.refl _ _⟩
    case round =>
      obtain ⟨k, us, hk, rfl, HO, HNA, HB⟩ := hrel
      rcases Nat.lt_or_ge k R with h1 | h1
      · have hc := (HR.out k h1).1
        have hc' : wr.cell? ⟨b, o + k, none⟩ = some (vs k) := by rw [HB.out.cell (cell_lt hc)]; exact hc
        have hnums := (HR.out k h1).2.later HB.out
        have hints := ints_row (vs k) (ns k) (zs k) wr hnums (by have := HN.out k h1; omega)
        obtain ⟨ad1, cap1, hv1⟩ := hnums.form
        rw [hv1] at hc' hints
        have hkn : (k : Int) < (R : Int) := by omega
        clear hc hnums hv1
        go_wp2_with fail
        refine hints.mono ?_
        clear hints hc'
        rintro e w4 ⟨v4, rfl, hv4, hb4⟩
        have HO4 := Hid.mk' (own_past HO.out hb4)
        have HB4 := Hid.mk' (HB.out.trans (hb4.mono HB.out.size))
        have HA4 : Hid (∀ i, i < k → w4.ownsRow w.heap.size 3 1 (us i) (ns i) (numCells (zs i) (ns i))) := fun i hi => own_past (HNA.out i hi) hb4
        have HV4 : Hid (w4.ownsRow w.heap.size 3 1 v4 (ns k) (numCells (zs k) (ns k))) := hv4.mono HB.out.size
        obtain ⟨ad4, cap4, rfl, _⟩ := row_shape hv4
        have hz4 := HB4.out.size
        clear hv4 hb4
        go_wp2_with (at_builtin; go_must (refine wpList_append_lies _ rfl _ _ _ rfl w.heap.size 26 i0 _ 1 24 Tryd.underlying22 HINF.out.1 HINF.out.2.1 HINF.out.2.2.1 HINF.out.2.2.2 rfl (by omega) u3 _ _ rfl (HO4.out.alloc _) ⟨w4.heap.size, 0, none⟩ 1 1 [.slice ad4 (ns k) cap4] rfl rfl (one_new _ _ _) (by simp [Value.oneCell']) (by omega) (by unfold maxLen; omega) (by omega) (by simp; omega) _ rfl ?_; intro g' cap2 w5 hown5 hgrow5 hat5 hlt5; have HO5 := Hid.mk' hown5; have HG5 := Hid.mk' hgrow5; clear hown5 hgrow5 hat5))
        refine ⟨⟨k + 1, fun i => if i = k then .slice ad4 (ns k) cap4 else us i, h1, by go_num, ?_, fun i hi => ?_, below_push HB4.out HO4.out HG5.out⟩, by simp [intOf]; omega⟩
        · rw [← rowV_push]
          exact HO5
        · show World.ownsRow _ _ _ _ _ _ _
          dsimp only
          by_cases hik : i = k
          · subst hik
            rw [if_pos rfl]
            exact own_beside (own_past HV4.out ((Below.refl _ _).alloc (Nat.le_refl _) _)) (HO4.out.alloc _) (by decide) HG5.out
          · rw [if_neg hik]
            exact own_beside (own_past (HA4.out i (by omega)) ((Below.refl _ _).alloc (Nat.le_refl _) _)) (HO4.out.alloc _) (by decide) HG5.out
      · obtain rfl : k = R := by omega
        go_wp2_with fail
        go_ret
        exact ⟨_, us, rfl, tabAt_of_row HO.out (fun i hi => numsAt_own (HNA.out i hi)), HB.out⟩

theorem grow_none (n : Nat) (w : World) (h0 : 0 < n) (hn : n ≤ 1000) :
    Calls Tryd.prog 74 #[.slice none 0 0, .int .i64 n] w fun e w' => ∃ v, e = .returned v ∧ w'.ownsRow w.heap.size 3 1 v 0 [] ∧ Below w.heap.size w w' := by
  obtain ⟨i0, hi, hz0, hz1, hz2⟩ := info_parts Tryd.infoInt
  refine (Any8.slices_Grow_grow (ρ := Tryd.growA_ren) Tryd.growA i0 (.int .i64 0) hi hz0 (by rw [hz1]; decide) none 0 0 n [] w (Nat.le_refl _) (by omega) (by rw [hz2]; omega) (by omega) (by simp) (fun _ => rfl) (fun a ha => by cases ha)).mono ?_
  rintro e w' ⟨rfl, hw⟩
  have hge := grownCap_ge w (0 + n) 0 (Tryd.growA_ren.t 25)
  have hle := grownCap_le_maxLen w (0 + n) 0 (Tryd.growA_ren.t 25) (by unfold maxLen; omega)
  generalize grownCap w (0 + n) 0 (Tryd.growA_ren.t 25) = gc at hge hle hw ⊢
  obtain ⟨cur, hcs, hw2⟩ : ∃ cur : Array Value, cur.size = gc * 1 ∧ w' = w.drew.alloc (.cells cur 3) := ⟨_, by simp [Builtin.zeroCells, Value.cells]; omega, hw⟩
  rw [hw2]
  refine ⟨_, rfl, ⟨rfl, Or.inr ⟨w.heap.size, gc, cur, rfl, Nat.le_refl _, ?_, Nat.zero_le _, hle, hcs, by simp⟩⟩, (Below.refl _ _).drew.alloc (by simp) _⟩
  show (w.heap.push (Obj.cells cur 3))[w.heap.size]? = some _
  simp
end Go.Proofs.YtfnmpkkfdljgcaaDoor

/- dist.cells and dist.Table. -/
namespace Go.Proofs.YtfnmpkkfdljgcaaDoor
open Go.RowKit

set_option maxRecDepth 100000 in
set_option maxHeartbeats 2000000 in
theorem Concat_some (b o cap R : Nat) (vs : Nat → Value) (ns : Nat → Nat) (zs : Nat → Nat → Int) (w : World) (h0 : 0 < R) (hr : ∀ i, i < R → w.cell? ⟨b, o + i, none⟩ = some (vs i) ∧ NumsAt w (vs i) (ns i) (zs i)) (hR : R ≤ 1000) (hs : sumT ns R ≤ 1000) :
    Calls Tryd.prog 54 #[.slice (some ⟨b, o, none⟩) R cap] w fun e w' => ∃ v', e = .returned v' ∧ w'.ownsRow w.heap.size 3 1 v' (flatL ns zs R).length (cellL (flatL ns zs R)) ∧ Below w.heap.size w w' := by
  obtain ⟨i0, hi, hz0, hz1, hz2⟩ := info_parts Tryd.infoInt
  have HINF : Hid (Tryd.prog.info? 3 = some i0 ∧ i0.zero = some (.int .i64 0) ∧ i0.size = 1 ∧ i0.bytes = 8) := ⟨hi, hz0, hz1, hz2⟩
  have HR := Hid.mk' hr
  have HG : Hid (Calls Tryd.prog 74 #[.slice none 0 0, .int .i64 (sumT ns R : Int)] w fun e w' => ∃ v, e = .returned v ∧ w'.ownsRow w.heap.size 3 1 v 0 [] ∧ Below w.heap.size w w') := by
    rcases Nat.eq_zero_or_pos (sumT ns R) with h1 | h1
    · rw [h1]
      refine (Any8.slices_Grow_room (ρ := Tryd.growA_ren) Tryd.growA none 0 0 0 w (Nat.le_refl _) (by omega) (by omega) (Nat.le_refl _)).mono ?_
      rintro e w' ⟨rfl, rfl⟩
      exact ⟨_, rfl, ⟨rfl, Or.inl ⟨rfl, rfl⟩⟩, Below.refl _ _⟩
    · exact grow_none (sumT ns R) w h1 (by omega)
  clear hi hz0 hz1 hz2 hr
  go_enter Tryd.func54, Tryd.ntmps54
  go_wp2_with fail
  go_loopw [3, 5, 11] (fun s _ i wr => ∃ k : Nat, k ≤ R ∧ s = .int .i64 (sumT ns k : Int) ∧ i = .int .i64 k ∧ wr = w) (fun _ _ i _ => R - (intOf i).toNat)
  case atStart => exact ⟨0, Nat.zero_le _, rfl, rfl, rfl⟩
  case round =>
    obtain ⟨k, hk, rfl, rfl, hwr⟩ := hrel
    rw [hwr]
    clear hwr
    rcases Nat.lt_or_ge k R with h1 | h1
    · have hc := (HR.out k h1).1
      obtain ⟨ad1, cap1, hv1⟩ := (HR.out k h1).2.form
      rw [hv1] at hc
      have hkn : (k : Int) < (R : Int) := by omega
      have hm : sumT ns k + ns k ≤ sumT ns R := sumT_mono ns h1
      have HE : Hid (sumT ns (k + 1) = sumT ns k + ns k) := rfl
      clear hv1
      generalize sumT ns k = sk at *
      generalize ns k = nk at *
      go_wp2_with fail
      exact ⟨⟨k + 1, h1, by rw [HE.out]; go_num, by go_num, trivial⟩, by simp [intOf]; omega⟩
    · obtain rfl : k = R := by omega
      go_wp2_with fail
      refine HG.out.mono ?_
      rintro e w1 ⟨v1, rfl, hown1, hb1⟩
      have HO1 := Hid.mk' hown1
      have HB1 := Hid.mk' hb1
      clear hown1 hb1
      go_wp2_with fail
      go_loopw [6, 8, 27] (fun u _ i wr => ∃ j : Nat, j ≤ k ∧ i = .int .i64 j ∧ Hid (wr.ownsRow w.heap.size 3 1 u (flatL ns zs j).length (cellL (flatL ns zs j))) ∧ Hid (Below w.heap.size w wr)) (fun _ _ i _ => k - (intOf i).toNat)
      case atStart => exact ⟨0, Nat.zero_le _, rfl, HO1, HB1⟩
      case round =>
        obtain ⟨j, hj, rfl, HO, HB⟩ := hrel
        rcases Nat.lt_or_ge j k with h2 | h2
        · have hc := (HR.out j h2).1
          have hc' : wr.cell? ⟨b, o + j, none⟩ = some (vs j) := by rw [HB.out.cell (cell_lt hc)]; exact hc
          have hkn : (j : Int) < (k : Int) := by omega
          have hm1 := sumT_mono ns (Nat.le_of_lt h2)
          have hm2 : sumT ns j + ns j ≤ sumT ns k := sumT_mono ns h2
          have hfb : (flatL ns zs j).length ≤ 1000 ∧ (flatL ns zs j).length + ns j ≤ 1000 := by rw [flatL_length]; omega
          clear hm1 hm2
          rcases (HR.out j h2).2.later HB.out with ⟨ad1, cap1, hv1, hn1⟩ | ⟨b1, o1, cap1, hv1, hn1, hr1⟩
          · rw [hv1] at hc'
            obtain ⟨ao, cc, hu, hlc⟩ := row_shape HO.out
            rw [hu] at HO ⊢
            have HE : Hid (flatL ns zs (j + 1) = flatL ns zs j) := by show flatL ns zs j ++ rowL (zs j) (ns j) = _; rw [hn1]; simp [rowL]
            clear hc hu
            go_wp2_with (at_builtin; go_must (refine wpList_append_nothing rfl _ _ rfl ao _ cc hlc ad1 cap1 rfl rfl ?_))
            exact ⟨⟨j + 1, h2, by go_num, by rw [HE.out]; exact HO, HB⟩, by simp [intOf]; omega⟩
          · rw [hv1] at hc'
            have HR1 := Hid.mk' hr1
            have HC : Hid (∀ u, u ∈ numCells (zs j) (ns j) → u.oneCell' = true) := fun u hu => by obtain ⟨x, rfl⟩ := numCells_ints (zs j) (ns j) u hu; rfl
            have HL : Hid ((numCells (zs j) (ns j)).length = ns j * 1) := by show _ = _; rw [numCells_length, Nat.mul_one]
            have HE : Hid (cellL (flatL ns zs (j + 1)) = cellL (flatL ns zs j) ++ numCells (zs j) (ns j) ∧ (flatL ns zs (j + 1)).length = (flatL ns zs j).length + ns j) := by
              refine ⟨?_, ?_⟩
              · show cellL (flatL ns zs j ++ rowL (zs j) (ns j)) = _
                rw [cellL_append, cellL_row]
              · show (flatL ns zs j ++ rowL (zs j) (ns j)).length = _
                rw [List.length_append, rowL_length]
            have hzB := HB.out.size
            clear hc hr1
            go_wp2_with (at_builtin; go_must (refine wpList_append_lies _ rfl _ _ _ rfl w.heap.size 3 i0 _ 1 8 Tryd.underlying26 HINF.out.1 HINF.out.2.1 HINF.out.2.2.1 HINF.out.2.2.2 rfl (by omega) u6 _ _ rfl HO.out ⟨b1, o1, none⟩ (ns j) cap1 (numCells (zs j) (ns j)) rfl HL.out (fun j u hu => numCells_news HR1.out j u hu) HC.out hn1 (by unfold maxLen; omega) (by omega) (by omega) _ rfl ?_; intro g' cap2 w3 hown3 hgrow3 hat3 hlt3; have HO3 := Hid.mk' hown3; have HG3 := Hid.mk' hgrow3; clear hown3 hgrow3 hat3))
            refine ⟨⟨j + 1, h2, by go_num, ?_, below_grow HB.out HO.out HG3.out⟩, by simp [intOf]; omega⟩
            rw [HE.out.1, HE.out.2]
            exact HO3
        · obtain rfl : j = k := by omega
          go_wp2_with fail
          go_ret
          exact ⟨_, rfl, HO.out, HB.out⟩
set_option maxRecDepth 100000 in
set_option maxHeartbeats 2000000 in
theorem cells_any (v : Value) (R : Nat) (vs : Nat → Value) (ns : Nat → Nat) (zs : Nat → Nat → Int) (w : World) (h : TabAt w v R vs ns zs) (hR : R ≤ 1000) (hs : sumT ns R ≤ 1000) :
    Calls Tryd.prog 37 #[v] w fun e w' => ∃ v', e = .returned v' ∧ w'.ownsRow w.heap.size 3 1 v' (flatL ns zs R).length (cellL (flatL ns zs R)) ∧ Below w.heap.size w w' := by
  have hC : Calls Tryd.prog 54 #[v] w fun e w' => ∃ v', e = .returned v' ∧ w'.ownsRow w.heap.size 3 1 v' (flatL ns zs R).length (cellL (flatL ns zs R)) ∧ Below w.heap.size w w' := by
    rcases h with ⟨ad, cap, rfl, rfl⟩ | ⟨b, o, cap, rfl, h0, hr⟩
    · have hG := Any8.slices_Grow_room (ρ := Tryd.growA_ren) Tryd.growA none 0 0 0 w (Nat.le_refl _) (by omega) (by omega) (Nat.le_refl _)
      have hG' : Calls Tryd.prog 74 #[.slice none 0 0, .int .i64 0] w fun e w' => e = .returned (.slice none 0 0) ∧ w' = w := hG
      clear hG
      go_enter Tryd.func54, Tryd.ntmps54
      go_wp2_with fail
      refine wp_loop_rounds 1 ?_
      rw [rounds_succ]
      go_wp2_with fail
      refine hG'.mono ?_
      rintro e w1 ⟨rfl, hw1⟩
      rw [hw1]
      clear hw1
      go_wp2_with fail
      refine wp_loop_rounds 1 ?_
      rw [rounds_succ]
      go_wp2_with fail
      go_ret
      exact ⟨_, rfl, ⟨rfl, Or.inl ⟨rfl, rfl⟩⟩, Below.refl _ _⟩
    · exact Concat_some b o cap R vs ns zs w h0 hr hR hs
  obtain ⟨ad, cap, rfl⟩ := h.form
  clear h
  go_enter Tryd.func37, Tryd.ntmps37
  go_wp2_with fail
  refine hC.mono ?_
  clear hC
  rintro e w1 ⟨v1, rfl, hrow, hb1⟩
  have HO := Hid.mk' hrow
  have HB := Hid.mk' hb1
  clear hrow hb1
  go_wp2_with fail
  go_ret
  exact ⟨_, rfl, HO.out, HB.out⟩

set_option maxRecDepth 100000 in
set_option maxHeartbeats 2000000 in
theorem Table_any (a : Nat → Addr) (v : Value) (R : Nat) (vs : Nat → Value) (ns : Nat → Nat) (zs : Nat → Nat → Int) (w : World) (hE : Errs w a) (h : TabAt w v R vs ns zs) (hR : R ≤ 40) (hs : sumT ns R ≤ 400) :
    Calls Tryd.prog 26 #[v] w fun e w' => e = .returned (errV a (tabErr R ns zs)) ∧ Below w.heap.size w w' := by
  have e1 := hE.c1
  have e2 := hE.c2
  by_cases hR16 : 16 < R
  · obtain ⟨ad, cap, rfl⟩ := h.form
    have HE := Hid.mk' (tabErr_many (ns := ns) (zs := zs) hR16)
    clear h hE
    go_enter Tryd.func26, Tryd.ntmps26
    go_wp2_with fail
    go_ret
    exact ⟨by rw [HE.out]; rfl, Below.refl _ _⟩
  · have hcl := cells_any v R vs ns zs w h (by omega) (by omega)
    have HLE : Hid ((flatL ns zs R).length ≤ 400) := by show _ ≤ _; rw [flatL_length]; exact hs
    have HEE := Hid.mk' hE
    rcases h with ⟨ad, cap, rfl, rfl⟩ | ⟨b, o, cap, rfl, h0, hr⟩
    · have HE : Hid (tabErr 0 ns zs = listErr (atF (flatL ns zs 0)) (flatL ns zs 0).length) := tabErr_even (by omega) rfl rfl
      clear hE
      go_enter Tryd.func26, Tryd.ntmps26
      go_wp2_with fail
      refine wp_loop_rounds 1 ?_
      rw [rounds_succ]
      go_wp2_with fail
      refine wp_loop_rounds 1 ?_
      rw [rounds_succ]
      go_wp2_with fail
      refine hcl.mono ?_
      clear hcl
      rintro e w1 ⟨v1, rfl, hrow, hb1⟩
      have hcw := checkWeights_any a v1 _ _ w1 (HEE.out.below hb1) (numsAt_row hrow) (by have := HLE.out; omega)
      obtain ⟨ao, cc, hu, hlc⟩ := row_shape hrow
      have HB1 := Hid.mk' hb1
      rw [hu] at hcw ⊢
      clear hrow hb1 hlc hu
      go_wp2_with (go_at_call 50; refine hcw.mono ?_; rintro e w2 ⟨rfl, hw2⟩; rw [hw2]; clear hw2)
      go_ret
      exact ⟨by rw [HE.out]; rfl, HB1.out⟩
    · have HR := Hid.mk' (fun (i : Nat) (hi : i < R) => (hr i hi).1)
      have HF : Hid (∀ i, i < R → ∃ ad cap, vs i = .slice ad (ns i) cap) := fun i hi => (hr i hi).2.form
      obtain ⟨ad0, cap0, hv0⟩ := HF.out 0 h0
      have hc0 : w.cell? ⟨b, o, none⟩ = some (.slice ad0 (ns 0) cap0) := by have := HR.out 0 h0; rw [hv0, Nat.add_zero] at this; exact this
      have HN : Hid (∀ i, i < R → ns i ≤ 400) := fun i hi => by have h2 : sumT ns i + ns i ≤ sumT ns R := sumT_mono ns hi; omega
      have HTB : Hid (longB ns R = false → unevenB ns R = true → tabErr R ns zs = 3) := fun h1 h2 => tabErr_uneven hR16 h1 h2
      have HTE : Hid (longB ns R = false → unevenB ns R = false → tabErr R ns zs = listErr (atF (flatL ns zs R)) (flatL ns zs R).length) := fun h1 h2 => tabErr_even hR16 h1 h2
      have HTL : Hid (∀ k, k < R → 16 < ns k → tabErr R ns zs = 2) := fun k hk hl => tabErr_long hR16 (longB_mono hk hl)
      have hn0 := HN.out 0 h0
      clear hr hv0 hE
      go_enter Tryd.func26, Tryd.ntmps26
      go_wp2_with fail
      go_loopw [4, 13] (fun _ i wr => ∃ k : Nat, k ≤ R ∧ i = .int .i64 k ∧ wr = w ∧ Hid (longB ns k = false)) (fun _ i _ => R - (intOf i).toNat)
      case atStart => exact ⟨0, Nat.zero_le _, rfl, rfl, rfl⟩
      case round =>
        obtain ⟨k, hk, rfl, hwr, HL⟩ := hrel
        rw [hwr]
        clear hwr
        rcases Nat.lt_or_ge k R with h1 | h1
        · obtain ⟨ad1, cap1, hv1⟩ := HF.out k h1
          have hc := HR.out k h1
          rw [hv1] at hc
          have hkn : (k : Int) < (R : Int) := by omega
          have hnk := HN.out k h1
          have HTK := Hid.mk' (HTL.out k h1)
          have HLK : Hid (longB ns (k + 1) = decide (16 < ns k)) := by show (longB ns k || _) = _; rw [HL.out, Bool.false_or]
          clear hv1
          generalize ns k = nk at hc hnk HTK HLK
          rcases Nat.lt_or_ge 16 nk with hl | hl
          · have hlI : (16 : Int) < (nk : Int) := by omega
            go_wp2_with fail
            go_ret
            exact ⟨by rw [HTK.out hl]; rfl, Below.refl _ _⟩
          · have hlI : (nk : Int) ≤ 16 := by omega
            have HL1 : Hid (longB ns (k + 1) = false) := by show _ = _; rw [HLK.out]; exact decide_eq_false (by omega)
            go_wp2_with fail
            exact ⟨⟨k + 1, h1, by go_num, trivial, HL1⟩, by simp [intOf]; omega⟩
        · obtain rfl : k = R := by omega
          go_wp2_with fail
          go_loopw [6, 24] (fun _ i wr => ∃ j : Nat, j ≤ k ∧ i = .int .i64 j ∧ wr = w ∧ Hid (unevenB ns j = false)) (fun _ i _ => k - (intOf i).toNat)
          case atStart => exact ⟨0, Nat.zero_le _, rfl, rfl, rfl⟩
          case round =>
            obtain ⟨j, hj, rfl, hwr, HU⟩ := hrel
            rw [hwr]
            clear hwr
            rcases Nat.lt_or_ge j k with h2 | h2
            · obtain ⟨ad1, cap1, hv1⟩ := HF.out j h2
              have hc := HR.out j h2
              rw [hv1] at hc
              have hkn : (j : Int) < (k : Int) := by omega
              have hnk := HN.out j h2
              have HUK : Hid (unevenB ns (j + 1) = !decide (ns j = ns 0)) := by show (unevenB ns j || _) = _; rw [HU.out, Bool.false_or]
              have HTU : Hid (ns j ≠ ns 0 → tabErr k ns zs = 3) := fun hne => HTB.out HL.out (unevenB_mono h2 hne)
              clear hv1
              generalize ns j = nk at hc hnk HUK HTU
              generalize ns 0 = n0 at hc0 hn0 HUK HTU
              by_cases he : nk = n0
              · subst he
                have HU1 : Hid (unevenB ns (j + 1) = false) := by show _ = _; rw [HUK.out]; simp
                go_wp2_with fail
                exact ⟨⟨j + 1, h2, by go_num, trivial, HU1⟩, by simp [intOf]; omega⟩
              · have heb : ((nk : Int) == (n0 : Int)) = false := by simp; omega
                have HT3 := Hid.mk' (HTU.out he)
                go_wp2_with fail
                go_ret
                exact ⟨by rw [HT3.out]; rfl, Below.refl _ _⟩
            · obtain rfl : j = k := by omega
              have HE := Hid.mk' (HTE.out HL.out HU.out)
              go_wp2_with fail
              refine hcl.mono ?_
              clear hcl
              rintro e w1 ⟨v1, rfl, hrow, hb1⟩
              have hcw := checkWeights_any a v1 _ _ w1 (HEE.out.below hb1) (numsAt_row hrow) (by have := HLE.out; omega)
              obtain ⟨ao, cc, hu, hlc⟩ := row_shape hrow
              have HB1 := Hid.mk' hb1
              rw [hu] at hcw ⊢
              clear hrow hb1 hlc hu
              go_wp2_with (go_at_call 50; refine hcw.mono ?_; rintro e w2 ⟨rfl, hw2⟩; rw [hw2]; clear hw2)
              go_ret
              exact ⟨by rw [HE.out]; rfl, HB1.out⟩
end Go.Proofs.YtfnmpkkfdljgcaaDoor

/- The document's differences. -/
namespace Go.Proofs.YtfnmpkkfdljgcaaDoor
open Go.RowKit

/-- What is less than nothing by a part of M. -/
theorem low_minus {M : Nat} (hM : 0 < M) (z : Int) : (0 * (lowD M z : Int) + -lowN M z * (1 : Nat)).tdiv ((Nat.gcd (0 * (lowD M z : Int) + -lowN M z * (1 : Nat)).natAbs (1 * lowD M z) : Nat) : Int) = lowN M (-z) ∧ 1 * lowD M z / Nat.gcd (0 * (lowD M z : Int) + -lowN M z * (1 : Nat)).natAbs (1 * lowD M z) = lowD M (-z) := by
  refine low_same hM (by have := lowD_pos hM z; omega) ?_
  have h1 := low_cross hM z
  rw [Nat.one_mul]
  generalize lowN M z = a at *
  generalize (lowD M z : Int) = c at *
  simp only [Int.zero_mul, Int.zero_add, Int.natCast_one, Int.mul_one]
  rw [Int.neg_mul, h1, Int.neg_mul]
/-- A part of a part: n of M times x of n is x of M. -/
theorem low_times {M n : Nat} (hM : 0 < M) (hn : 0 < n) (x : Int) : (lowN M n * lowN n x).tdiv ((Nat.gcd (lowN M n * lowN n x).natAbs (lowD M n * lowD n x) : Nat) : Int) = lowN M x ∧ lowD M n * lowD n x / Nat.gcd (lowN M n * lowN n x).natAbs (lowD M n * lowD n x) = lowD M x := by
  refine low_same hM (Nat.mul_pos (lowD_pos hM n) (lowD_pos hn x)) ?_
  have h1 := low_cross hM (n : Int)
  have h2 := low_cross hn x
  rw [Int.natCast_mul]
  generalize lowN M n = a at *
  generalize lowN n x = b at *
  generalize (lowD M n : Int) = c at *
  generalize (lowD n x : Int) = e at *
  calc a * b * (M : Int) = (a * (M : Int)) * b := by rw [Int.mul_assoc, Int.mul_comm b, ← Int.mul_assoc]
    _ = (b * (n : Int)) * c := by rw [h1, Int.mul_comm (n : Int) c, Int.mul_assoc, Int.mul_comm c, Int.mul_comm (n : Int) b]
    _ = x * (c * e) := by rw [h2, Int.mul_assoc, Int.mul_comm e c]
theorem low_self {M : Nat} (hM : 0 < M) : lowN M M = 1 ∧ lowD M M = 1 := by
  have h := low_same (M := M) (d := 1) (z := (M : Int)) (n := 1) hM (by decide) (by simp)
  simpa using And.intro h.1.symm h.2.symm
end Go.Proofs.YtfnmpkkfdljgcaaDoor

/- The document's Entropy of a Wide, and EntropyOf. -/
namespace Go.Proofs.YtfnmpkkfdljgcaaDoor
open Go.RowKit

/-- A fraction in a box. -/
structure RBox (W0 W : World) (B : Nat) (n : Int) (d : Nat) : Prop where
  below : Below W0.heap.size W0 W
  hB : W0.heap.size ≤ B
  box : ∃ s ad l cap ad' l' cap', W.cell? ⟨B, 0, none⟩ = some (.bool s) ∧ W.cell? ⟨B, 1, none⟩ = some (.slice ad l cap) ∧ W.cell? ⟨B, 2, none⟩ = some (.slice ad' l' cap') ∧ RatioAt W (.agg #[.bool s, .slice ad l cap, .slice ad' l' cap']) n d
theorem rBox_soon {W0 W : World} {B : Nat} {n : Int} {d : Nat} {s : Bool} {ad ad' : Option Addr} {l cap l' cap' : Nat} (h : Below W0.heap.size W0 W) (hr : RatioAt W (.agg #[.bool s, .slice ad l cap, .slice ad' l' cap']) n d) (hn : NewBox3 W0 W B) : RBox W0 (((W.setCell ⟨B, 0, none⟩ (.bool s)).setCell ⟨B, 1, none⟩ (.slice ad l cap)).setCell ⟨B, 2, none⟩ (.slice ad' l' cap')) B n d := by
  refine ⟨below_set3 h hn.hB _ _ _, hn.hB, s, ad, l, cap, ad', l', cap', ?_, ?_, ?_, ?_⟩
  · rw [World.cell?_setCell_other _ _ _ _ (by simp), World.cell?_setCell_other _ _ _ _ (by simp)]; exact World.cell?_setCell_same _ _ _ hn.c0
  · rw [World.cell?_setCell_other _ _ _ _ (by simp)]; exact World.cell?_setCell_same _ _ _ (by rw [World.cell?_setCell_other _ _ _ _ (by simp)]; exact hn.c1)
  · exact World.cell?_setCell_same _ _ _ (by rw [World.cell?_setCell_other _ _ _ _ (by simp), World.cell?_setCell_other _ _ _ _ (by simp)]; exact hn.c2)
  · obtain ⟨u, q, hv, hu, hq⟩ := hr
    have hv' := hv
    simp only [Value.agg.injEq, Array.mk.injEq, List.cons.injEq, and_true] at hv'
    obtain ⟨_, rfl, rfl⟩ := hv'
    exact ⟨_, _, hv, hu.set3 hn.no hn.c0 hn.c1, hq.set3 hn.no hn.c0 hn.c1⟩
theorem low_lt {M : Nat} (hM : 0 < M) {z : Int} (hM6 : M ≤ 4096) (hz : -1000000 ≤ z ∧ z ≤ 1000000) : (lowN M z).natAbs < 1000000 ^ 3 ∧ lowD M z < 1000000 ^ 3 := by
  have p3 : (1000000 : Nat) ^ 3 = 1000000000000000000 := by decide
  have h1 := lowN_le hM z
  have h2 := lowD_le M z
  rw [p3]
  omega
end Go.Proofs.YtfnmpkkfdljgcaaDoor

/- The document's Entropy of a Wide. -/
namespace Go.Proofs.YtfnmpkkfdljgcaaDoor
open Go.RowKit

theorem RowAt.kept {w w' : World} {b o n : Nat} {z : Nat → Int} (h : RowAt w b o n z) (hk : IntsKept w w') : RowAt w' b o n z := fun i hi => hk _ _ (h i hi)

end Go.Proofs.YtfnmpkkfdljgcaaDoor

/- dist.Entropy at any weights. -/
namespace Go.Proofs.YtfnmpkkfdljgcaaDoor
open Go.RowKit Go.Maps

theorem new_one {w w1 : World} {x : Value} {t : TypeId} (hb : Below (w.alloc (.cells #[x] t)).heap.size (w.alloc (.cells #[x] t)) w1) : w1.cell? ⟨w.heap.size, 0, none⟩ = some x := by
  have c0 : (w.alloc (.cells #[x] t)).cell? ⟨w.heap.size, 0, none⟩ = some x := by rw [World.cell?_alloc_at _ _ _ _ rfl]; rfl
  exact (cell_past c0 hb).2

set_option maxRecDepth 100000 in
theorem Entropy_parts (den : Int) (mb B b o cap n : Nat) (z : Nat → Int) (w : World) (hown : w.ownsMap Tryd.prog 3 (plainElem (H := Unit) Tryd.prog 3) mb 0 (mapOf [])) (hB : w.cell? ⟨B, 0, none⟩ = some (.slice (some ⟨b, o, none⟩) n cap)) (h : RowAt w b o n z) (hz : ∀ i, i < n → 0 ≤ z i) (hs : sumN z n ≤ 4096) (hn : n ≤ 256) :
    Calls Tryd.prog 35 #[putV den mb, .pointer (some ⟨B, 0, none⟩)] w fun e w' => e = .returned (.tuple #[]) ∧ ∃ l nn, Puts w w' mb (fun x => sumN (entV z (sumN z n).toNat x) n) (2 * n) [] 0 l nn := by
  have hp := putEntropy_some den mb 0 b o cap n z [] w hown List.Pairwise.nil (fun e he => by cases he) (fun x => by simp [atL]) (by omega) h hz hs hn
  clear hown h hz hs
  unfold putV at hp ⊢
  go_enter Tryd.func35, Tryd.ntmps35
  go_wp2_with fail
  refine hp.mono ?_
  clear hp
  rintro e w1 ⟨rfl, l, nn, hpt⟩
  have HP := Hid.mk' hpt
  clear hpt
  go_wp2_with fail
  go_end0
  exact ⟨rfl, l, nn, HP.out⟩

theorem ent_bound {z : Nat → Int} {n N : Nat} (hz : ∀ i, i < n → 0 ≤ z i ∧ z i ≤ 4096) (hN : N ≤ 4096) (hn : n ≤ 256) (x : Int) : -1000000000 ≤ sumN (entV z N x) n ∧ sumN (entV z N x) n ≤ 1000000000 := by
  have h3 := sumN_bound (f := entV z N x) (B := 200000) (n := n) (fun i hi => entV_le x (hz i hi) hN)
  have : (n : Int) * 200000 ≤ 51200000 := by omega
  omega

set_option maxRecDepth 100000 in
set_option maxHeartbeats 1000000 in
theorem Entropy_ok (a : Nat → Addr) (b o cap n N : Nat) (z : Nat → Int) (w : World) (hE : Errs w a) (h : RowAt w b o n z) (h0 : weightsErr z n = 0) (hN : sumN z n = N) (hz : ∀ i, i < n → 0 ≤ z i) (hn : n ≤ 16) (hN1 : 1 ≤ N) (hN6 : N ≤ 4096) (h0n : 0 < n) :
    Calls Tryd.prog 16 #[.slice (some ⟨b, o, none⟩) n cap] w fun e w' => ∃ dn v, e = .returned (.tuple #[.agg #[.int .i64 dn, v], .nilIface]) ∧ LogBy w.heap.size N (fun x => sumN (entV z N x) n) w' dn v ∧ Below w.heap.size w w' := by
  have hzi : ∀ i, i < n → 0 ≤ z i ∧ z i ≤ 4096 := fun i hi => ⟨hz i hi, by have := sumN_ge hz hi; omega⟩
  have hle : ∀ k, k ≤ n → 0 ≤ sumN z k ∧ sumN z k ≤ 4096 := fun k hk => ⟨sumN_nonneg (fun i hi => hz i (by omega)), by have := sumN_mono hz hk; omega⟩
  obtain ⟨W0, hW0⟩ : ∃ W0, W0 = (w.alloc (.cells #[.slice (some ⟨b, o, none⟩) n cap] 26)).alloc (.cells #[.int .i64 0, .slice none 0 0] 37) := ⟨_, rfl⟩
  have hb0 : Below w.heap.size w W0 := by rw [hW0]; exact below_chain (new_below _ _) (new_below _ _)
  have hbox : W0.cell? ⟨w.heap.size, 0, none⟩ = some (.slice (some ⟨b, o, none⟩) n cap) := by rw [hW0]; exact new_one (new_below _ _)
  have hres : ∀ W, Below W0.heap.size W0 W → W.cell? ⟨w.heap.size + 1, 0, none⟩ = some (.int .i64 0) ∧ W.cell? ⟨w.heap.size + 1, 1, none⟩ = some (.slice none 0 0) ∧ W.frozen? ⟨w.heap.size + 1, 0, none⟩ = false ∧ W.frozen? ⟨w.heap.size + 1, 1, none⟩ = false := fun W hb => by
    rw [hW0] at hb
    have := res_past hb
    simpa using this
  have hv := Valid_weights a (.slice (some ⟨b, o, none⟩) n cap) n z W0 (hE.below hb0) (Or.inr ⟨b, o, cap, rfl, h0n, h.later hb0⟩) (by omega)
  rw [h0] at hv
  have ht := total_some b o cap n z W0 (h.later hb0) (fun k hk => by have := hle k hk; omega) (fun i hi => by have := hzi i hi; omega) (by omega)
  rw [hN] at ht
  have hso := sumOver_any 35 #[.pointer (some ⟨w.heap.size, 0, none⟩)] N (2 * n) (fun x => sumN (entV z N x) n) W0 (enters_of Tryd.func35 (by kernel_rfl) rfl) hN1 hN6 (by omega) (fun x => ent_bound hzi hN6 (by omega) x)
    (fun W mb hb ho => by
      have := Entropy_parts N mb w.heap.size b o cap n z W ho (cell_past hbox hb).2 ((h.later hb0).later hb) hz (by omega) (by omega)
      rw [hN, Int.toNat_natCast] at this
      exact this)
  have HB0 := Hid.mk' hb0
  have HRES := Hid.mk' hres
  have HW0 := Hid.mk' hW0
  have hlt : w.heap.size + 1 < W0.heap.size := by rw [hW0]; simp
  have HLT := Hid.mk' hlt
  clear hE h hb0 hres hW0 hzi hle hz hN h0 hlt
  go_enter Tryd.func16, Tryd.ntmps16
  go_upto_region 1 with fail
  rw [← HW0.out]
  go_wp2_with fail
  refine hv.mono ?_
  clear hv
  rintro e w1 ⟨rfl, hw1⟩
  rw [hw1]
  clear hw1
  rw [errV_zero]
  go_wp2_with (first
    | (go_at_call 34; refine ht.mono ?_; rintro e w2 ⟨rfl, hw2⟩; rw [hw2]; clear hw2)
    | (go_at_call 33; refine hso.mono ?_; rintro e w3 ⟨dn, v, rfl, hlb, hb3⟩; obtain ⟨c0, c1, q0, q1⟩ := HRES.out w3 hb3; have HBW := Hid.mk' (below_chain HB0.out hb3); have HLB := Hid.mk' hlb; obtain ⟨ad, n', c', rfl⟩ := hlb.form; clear hlb))
  refine bodyPost_ret (v := .tuple #[.agg #[.int .i64 dn, .slice ad n' c'], .nilIface]) (by simp [results, Tryd.results16, go_sem, c0, c1]) rfl ⟨_, .slice ad n' c', rfl, (HLB.out.set HLT.out _ _).lower (by have := HLT.out; omega), ?_⟩
  exact (HBW.out.setCell (by simp) _).setCell (by simp) _

set_option maxRecDepth 100000 in
set_option maxHeartbeats 1000000 in
theorem Entropy_bad (a : Nat → Addr) (v : Value) (n : Nat) (z : Nat → Int) (w : World) (hE : Errs w a) (h : NumsAt w v n z) (hn : n ≤ 400) (h0 : weightsErr z n ≠ 0) :
    Calls Tryd.prog 16 #[v] w fun e w' => e = .returned (.tuple #[.agg #[.int .i64 0, .slice none 0 0], errV a (weightsErr z n)]) ∧ Below w.heap.size w w' := by
  obtain ⟨ad, cap, rfl⟩ := h.form
  obtain ⟨W0, hW0⟩ : ∃ W0, W0 = (w.alloc (.cells #[.slice ad n cap] 26)).alloc (.cells #[.int .i64 0, .slice none 0 0] 37) := ⟨_, rfl⟩
  have hb0 : Below w.heap.size w W0 := by rw [hW0]; exact below_chain (new_below _ _) (new_below _ _)
  have hbox : W0.cell? ⟨w.heap.size, 0, none⟩ = some (.slice ad n cap) := by rw [hW0]; exact new_one (new_below _ _)
  have hres : W0.cell? ⟨w.heap.size + 1, 0, none⟩ = some (.int .i64 0) ∧ W0.cell? ⟨w.heap.size + 1, 1, none⟩ = some (.slice none 0 0) ∧ W0.frozen? ⟨w.heap.size + 1, 0, none⟩ = false ∧ W0.frozen? ⟨w.heap.size + 1, 1, none⟩ = false := by
    rw [hW0]
    simp
  have hv := Valid_weights a (.slice ad n cap) n z W0 (hE.below hb0) (h.later hb0) (by omega)
  rw [errV_pos a h0] at hv ⊢
  generalize a (weightsErr z n - 1) = ea at hv ⊢
  obtain ⟨c0, c1, q0, q1⟩ := hres
  have HB0 := Hid.mk' hb0
  have HW0 := Hid.mk' hW0
  clear hE h hb0 hW0 h0
  go_enter Tryd.func16, Tryd.ntmps16
  go_upto_region 1 with fail
  rw [← HW0.out]
  go_wp2_with (go_at_call 32; refine hv.mono ?_; rintro e w1 ⟨rfl, hw1⟩; rw [hw1]; clear hw1)
  refine bodyPost_ret (v := .tuple #[.agg #[.int .i64 0, .slice none 0 0], .iface 156 (.pointer (some ea))]) (by simp [results, Tryd.results16, go_sem, c0, c1]) rfl ⟨rfl, ?_⟩
  exact (HB0.out.setCell (by simp) _).setCell (by simp) _
end Go.Proofs.YtfnmpkkfdljgcaaDoor

/- The document's Told of a sum that has a form; EntropyOf. -/
namespace Go.Proofs.YtfnmpkkfdljgcaaDoor
open Go.RowKit

theorem row_form {w : World} {base : Nat} {t : TypeId} {sz : Nat} {v : Value} {n : Nat} {xs : List Value} (h : w.ownsRow base t sz v n xs) : ∃ ad cap, v = .slice ad n cap := by
  rcases h.2 with ⟨rfl, h0⟩ | ⟨gg, cap', cur', rfl, _⟩
  · exact ⟨none, 0, by rw [h0]⟩
  · exact ⟨_, _, rfl⟩
end Go.Proofs.YtfnmpkkfdljgcaaDoor

/- The law's closed fact: of a fair coin the entropy is 1. -/
namespace Go.Proofs.YtfnmpkkfdljgcaaDoor
open Go.RowKit Go.Maps

theorem pr_two' : Pr 2 := (isPr_iff 2).1 (by decide)
theorem coin_val (x : Int) : sumN (entV (fun _ => 3) 6 x) 2 = atL [((2 : Int), (6 : Int))] x := by
  have h := multI_step x (n := 6) (d := 2) (by decide) pr_two' (by decide)
  have e : 6 / 2 = 3 := by decide
  rw [e] at h
  show 0 + (3 * multI x 6 - 3 * multI x (3 : Int).toNat) + (3 * multI x 6 - 3 * multI x (3 : Int).toNat) = if (2 : Int) = x then 6 else 0
  have e3 : (3 : Int).toNat = 3 := rfl
  rw [e3, h]
  rw [show ((2 : Nat) : Int) = 2 from rfl]
  by_cases hx : x = 2
  · subst hx; simp; omega
  · rw [if_neg hx, if_neg (fun e => hx e.symm)]; omega
theorem coin_list {base : Nat} {w : World} {dn : Int} {v : Value} (h : LogBy base 6 (fun x => sumN (entV (fun _ => 3) 6 x) 2) w dn v) : dn = 1 ∧ OwnAt w v 1 (fun _ => 2) (fun _ => 1) := by
  obtain ⟨l, hr, hv, _, hd, hl⟩ := h.list
  have he : ∀ x, atL l x = atL [((2 : Int), (6 : Int))] x := fun x => by rw [hv, coin_val]
  have hr' : Rising [((2 : Int), (6 : Int))] := List.pairwise_singleton _ _
  rw [gList_same hr hr' he, over_same hr hr' he] at hl
  rw [gList_same hr hr' he] at hd
  have e1 : overL (gList 6 (List.map Prod.snd [((2 : Int), (6 : Int))])) [((2 : Int), (6 : Int))] = [(2, 1)] := by decide
  rw [e1] at hl
  refine ⟨by rw [hd]; decide, ?_⟩
  rcases hl with ⟨_, h0⟩ | ⟨g, cap, h1, h2⟩
  · cases h0
  · refine Or.inr ⟨g, cap, h1, fun k hk => ?_⟩
    obtain rfl : k = 0 := by omega
    exact h2 0 (by decide)

set_option maxRecDepth 100000 in
set_option maxHeartbeats 1000000 in
theorem coin_any (a : Nat → Addr) (w : World) (hE : Errs w a) : Calls Tryd.prog 6 #[] w fun e w' => e = .returned (.bool true) ∧ Below w.heap.size w w' := by
  have hb0 : Below w.heap.size w (w.alloc (.cells #[.int .i64 3, .int .i64 3] 3)) := new_below _ _
  have hent := Entropy_ok a w.heap.size 0 2 2 6 (fun _ => 3) (w.alloc (.cells #[.int .i64 3, .int .i64 3] 3)) (hE.below hb0) (fun i hi => by
    rcases (show i = 0 ∨ i = 1 by omega) with rfl | rfl
    · simp
    · simp) (by decide) (by decide) (fun i _ => by decide) (by decide) (by decide) (by decide) (by decide)
  have HB0 := Hid.mk' hb0
  clear hE hb0
  go_enter Tryd.func6, Tryd.ntmps6
  go_wp2_with fail
  refine hent.mono ?_
  clear hent
  rintro e w1 ⟨dn, v, rfl, hlb, hb1⟩
  obtain ⟨rfl, hown⟩ := coin_list hlb
  obtain ⟨ad, m, cap, rfl⟩ := own_form hown
  have hbW : Below w1.heap.size w1 ((w1.alloc (.cells #[.int .i64 1, .slice ad m cap] 37)).alloc (.cells #[.int .i64 2, .int .i64 1] 47)) := below_chain (new_below _ _) (new_below _ _)
  have hS := same_own 1 (.slice ad m cap) (.slice (some ⟨w1.heap.size + 1, 0, none⟩) 1 1) 1 (fun _ => 2) (fun _ => 1) ((w1.alloc (.cells #[.int .i64 1, .slice ad m cap] 37)).alloc (.cells #[.int .i64 2, .int .i64 1] 47)) (OwnAt.later hown hbW)
    (Or.inr ⟨w1.heap.size + 1, 1, rfl, fun k hk => by
      obtain rfl : k = 0 := by omega
      exact ⟨by simp, by simp⟩⟩) (by decide)
  have HB := Hid.mk' (below_chain (below_chain HB0.out hb1) hbW)
  clear hlb hown hb1 hbW HB0
  go_wp2_with fail
  refine hS.mono ?_
  clear hS
  rintro e w2 ⟨rfl, hb2⟩
  go_wp2_with fail
  go_ret
  exact ⟨rfl, below_chain HB.out hb2⟩
end Go.Proofs.YtfnmpkkfdljgcaaDoor

/- isLog at errors. -/
namespace Go.Proofs.YtfnmpkkfdljgcaaDoor
open Go.RowKit

/-- A result's box behind calls. -/
theorem box_past2 {w w1 : World} {x y : Value} {t : TypeId} (hb : Below (w.alloc (.cells #[x, y] t)).heap.size (w.alloc (.cells #[x, y] t)) w1) : w1.cell? ⟨w.heap.size, 0, none⟩ = some x ∧ w1.cell? ⟨w.heap.size, 1, none⟩ = some y ∧ w1.frozen? ⟨w.heap.size, 0, none⟩ = false ∧ w1.frozen? ⟨w.heap.size, 1, none⟩ = false := res_past hb

end Go.Proofs.YtfnmpkkfdljgcaaDoor

/- dist.Joint; the law DistJoint. -/
namespace Go.Proofs.YtfnmpkkfdljgcaaDoor
open Go.RowKit Go.Maps

theorem tabErr_ok {R : Nat} {ns : Nat → Nat} {zs : Nat → Nat → Int} (h : tabErr R ns zs = 0) : R ≤ 16 ∧ longB ns R = false ∧ unevenB ns R = false ∧ OkW (atF (flatL ns zs R)) (flatL ns zs R).length ∧ (flatL ns zs R).length ≤ 256 := by
  unfold tabErr at h
  by_cases h1 : 16 < R
  · rw [if_pos h1] at h; cases h
  rw [if_neg h1] at h
  cases h2 : longB ns R with
  | true => rw [h2, if_pos rfl] at h; cases h
  | false =>
    rw [h2, if_neg (by simp)] at h
    cases h3 : unevenB ns R with
    | true => rw [h3, if_pos rfl] at h; cases h
    | false =>
      rw [h3, if_neg (by simp)] at h
      exact ⟨by omega, rfl, rfl, listErr_ok h, by rw [flatL_length]; exact sumT_small h1 h2⟩
theorem tabErr_le (R : Nat) (ns : Nat → Nat) (zs : Nat → Nat → Int) : tabErr R ns zs ≤ 3 := by
  unfold tabErr listErr
  repeat (split; omega)
  omega
theorem row_some {w : World} {base : Nat} {v : Value} {n : Nat} {l : List Int} (h : w.ownsRow base 3 1 v n (cellL l)) (hl : l.length = n) (h0 : 0 < n) : ∃ g cap, v = .slice (some ⟨g, 0, none⟩) n cap ∧ RowAt w g 0 n (atF l) := by
  subst hl
  rcases numsAt_row h with ⟨_, _, _, h1⟩ | ⟨b, o, cap, hv, _, hr⟩
  · omega
  · rcases h.2 with ⟨hv', _⟩ | ⟨g, cap', cur, hv', _⟩
    · rw [hv] at hv'; simp at hv'
    · rw [hv] at hv'
      simp only [Value.slice.injEq, Option.some.injEq, Addr.mk.injEq, and_true, true_and] at hv'
      obtain ⟨⟨rfl, rfl⟩, rfl⟩ := hv'
      exact ⟨b, cap, hv, hr⟩

set_option maxRecDepth 100000 in
theorem Joint_parts (den : Int) (mb B b o cap n : Nat) (z : Nat → Int) (w : World) (hown : w.ownsMap Tryd.prog 3 (plainElem (H := Unit) Tryd.prog 3) mb 0 (mapOf [])) (hB : w.cell? ⟨B, 0, none⟩ = some (.slice (some ⟨b, o, none⟩) n cap)) (h : RowAt w b o n z) (hz : ∀ i, i < n → 0 ≤ z i) (hs : sumN z n ≤ 4096) (hn : n ≤ 256) :
    Calls Tryd.prog 38 #[putV den mb, .pointer (some ⟨B, 0, none⟩)] w fun e w' => e = .returned (.tuple #[]) ∧ ∃ l nn, Puts w w' mb (fun x => sumN (entV z (sumN z n).toNat x) n) (2 * n) [] 0 l nn := by
  have hp := putEntropy_some den mb 0 b o cap n z [] w hown List.Pairwise.nil (fun e he => by cases he) (fun x => by simp [atL]) (by omega) h hz hs hn
  clear hown h hz hs
  unfold putV at hp ⊢
  go_enter Tryd.func38, Tryd.ntmps38
  go_wp2_with fail
  refine hp.mono ?_
  clear hp
  rintro e w1 ⟨rfl, l, nn, hpt⟩
  have HP := Hid.mk' hpt
  clear hpt
  go_wp2_with fail
  go_end0
  exact ⟨rfl, l, nn, HP.out⟩

set_option maxRecDepth 100000 in
set_option maxHeartbeats 2000000 in
theorem Joint_ok (a : Nat → Addr) (v : Value) (R n N : Nat) (vs : Nat → Value) (ns : Nat → Nat) (zs : Nat → Nat → Int) (L : List Int) (w : World) (hE : Errs w a) (h : TabAt w v R vs ns zs) (hR : R ≤ 40) (hs : sumT ns R ≤ 400) (h0 : tabErr R ns zs = 0) (hL : L = flatL ns zs R) (hn : L.length = n) (hN : sumN (atF L) n = N) :
    Calls Tryd.prog 17 #[v] w fun e w' => ∃ dn v', e = .returned (.tuple #[.agg #[.int .i64 dn, v'], .nilIface]) ∧ LogBy w.heap.size N (fun x => sumN (entV (atF L) N x) n) w' dn v' ∧ Below w.heap.size w w' := by
  obtain ⟨_, _, _, hok, hn256⟩ := tabErr_ok h0
  rw [← hL, hn] at hok hn256
  have hp := hok.posN
  have hN1 : 1 ≤ N ∧ N ≤ 4096 := by have := hok.pos; have := hok.le; omega
  obtain ⟨ad, cap, rfl⟩ := h.form
  obtain ⟨W0, hW0⟩ : ∃ W0, W0 = w.alloc (.cells #[.int .i64 0, .slice none 0 0] 37) := ⟨_, rfl⟩
  have hb0 : Below w.heap.size w W0 := by rw [hW0]; exact new_below _ _
  have hz0 : W0.heap.size = w.heap.size + 1 := by rw [hW0]; simp
  have hres : ∀ W, Below W0.heap.size W0 W → W.cell? ⟨w.heap.size, 0, none⟩ = some (.int .i64 0) ∧ W.cell? ⟨w.heap.size, 1, none⟩ = some (.slice none 0 0) ∧ W.frozen? ⟨w.heap.size, 0, none⟩ = false ∧ W.frozen? ⟨w.heap.size, 1, none⟩ = false := fun W hb => by
    rw [hW0] at hb
    exact res_past hb
  have ht := Table_any a _ R vs ns zs W0 (hE.below hb0) (h.later hb0) hR hs
  rw [h0, errV_zero] at ht
  have HCL : Hid (∀ W, Below W0.heap.size W0 W → Calls Tryd.prog 37 #[.slice ad R cap] W fun e w' => ∃ v', e = .returned v' ∧ w'.ownsRow W.heap.size 3 1 v' (flatL ns zs R).length (cellL (flatL ns zs R)) ∧ Below W.heap.size W w') := fun W hb => cells_any _ R vs ns zs W ((h.later hb0).later hb) (by omega) (by omega)
  rw [← hL, hn] at HCL
  have HOK := Hid.mk' hok
  have HNL := Hid.mk' hn
  have HNN := Hid.mk' hN
  have HB0 := Hid.mk' hb0
  have HRES := Hid.mk' hres
  have HW0 := Hid.mk' hW0
  have HZ0 := Hid.mk' hz0
  clear hE h hb0 hres hW0 hz0 h0 hok hL hn hN hs
  go_enter Tryd.func17, Tryd.ntmps17
  go_upto_region 1 with fail
  rw [← HW0.out]
  go_wp2_with fail
  refine ht.mono ?_
  clear ht
  rintro e w1 ⟨rfl, hb1⟩
  have HB1 := Hid.mk' hb1
  clear hb1
  go_wp2_with fail
  refine (HCL.out w1 HB1.out).mono ?_
  clear HCL
  rintro e w2 ⟨v2, rfl, hrow, hb2⟩
  obtain ⟨g, cp, rfl, hr2⟩ := row_some hrow HNL.out hp
  obtain ⟨W2, hW2⟩ : ∃ W2, W2 = w2.alloc (.cells #[.slice (some ⟨g, 0, none⟩) n cp] 26) := ⟨_, rfl⟩
  have hbA : Below w2.heap.size w2 W2 := by rw [hW2]; exact new_below _ _
  have hbx : W2.cell? ⟨w2.heap.size, 0, none⟩ = some (.slice (some ⟨g, 0, none⟩) n cp) := by rw [hW2]; simp
  have hr3 := hr2.later hbA
  have HB2 := Hid.mk' (below_chain (below_chain HB1.out hb2) hbA)
  have htt := total_some g 0 cp n (atF L) W2 hr3 (fun k hk => by have := HOK.out.part hk; omega) (fun i hi => by have := HOK.out.lt hi; omega) (by omega)
  rw [HNN.out] at htt
  have hso := sumOver_any 38 #[.pointer (some ⟨w2.heap.size, 0, none⟩)] N (2 * n) (fun x => sumN (entV (atF L) N x) n) W2 (enters_of Tryd.func38 (by kernel_rfl) rfl) hN1.1 hN1.2 (by omega) (fun x => ent_bound (fun i hi => HOK.out.lt hi) hN1.2 hn256 x)
    (fun W mb hb ho => by
      have := Joint_parts N mb w2.heap.size g 0 cp n (atF L) W ho (cell_past hbx hb).2 (hr3.later hb) HOK.out.nn (by rw [HNN.out]; omega) hn256
      rw [HNN.out, Int.toNat_natCast] at this
      exact this)
  have HW2 := Hid.mk' hW2
  clear hrow hb2 hr2 hbA hr3 hW2
  go_upto_region 5 with fail
  rw [← HW2.out]
  go_wp2_with (first
    | (go_at_call 34; refine htt.mono ?_; rintro e w3 ⟨rfl, hw3⟩; rw [hw3]; clear hw3)
    | (go_at_call 33; refine hso.mono ?_; rintro e w4 ⟨dn, v4, rfl, hlb, hb4⟩; obtain ⟨c0, c1, q0, q1⟩ := HRES.out w4 (below_chain HB2.out hb4); have HBW := Hid.mk' (below_chain HB0.out (below_chain HB2.out hb4)); have HLB := Hid.mk' hlb; obtain ⟨ad4, n4, c4, rfl⟩ := hlb.form; clear hlb))
  have HLT : Hid (w.heap.size < W2.heap.size) := by have h1 := HZ0.out; have h2 := HB2.out.size; show _ < _; omega
  refine bodyPost_ret (v := .tuple #[.agg #[.int .i64 dn, .slice ad4 n4 c4], .nilIface]) (by simp [results, Tryd.results17, go_sem, c0, c1]) rfl ⟨_, .slice ad4 n4 c4, rfl, (HLB.out.set HLT.out _ _).lower (Nat.le_of_lt HLT.out), ?_⟩
  exact (HBW.out.setCell (by simp) _).setCell (by simp) _

set_option maxRecDepth 100000 in
set_option maxHeartbeats 1000000 in
theorem Joint_bad (a : Nat → Addr) (v : Value) (R : Nat) (vs : Nat → Value) (ns : Nat → Nat) (zs : Nat → Nat → Int) (w : World) (hE : Errs w a) (h : TabAt w v R vs ns zs) (hR : R ≤ 40) (hs : sumT ns R ≤ 400) (h0 : tabErr R ns zs ≠ 0) :
    Calls Tryd.prog 17 #[v] w fun e w' => e = .returned (.tuple #[.agg #[.int .i64 0, .slice none 0 0], errV a (tabErr R ns zs)]) ∧ Below w.heap.size w w' := by
  obtain ⟨ad, cap, rfl⟩ := h.form
  obtain ⟨W0, hW0⟩ : ∃ W0, W0 = w.alloc (.cells #[.int .i64 0, .slice none 0 0] 37) := ⟨_, rfl⟩
  have hb0 : Below w.heap.size w W0 := by rw [hW0]; exact new_below _ _
  have hres : ∀ W, Below W0.heap.size W0 W → W.cell? ⟨w.heap.size, 0, none⟩ = some (.int .i64 0) ∧ W.cell? ⟨w.heap.size, 1, none⟩ = some (.slice none 0 0) ∧ W.frozen? ⟨w.heap.size, 0, none⟩ = false ∧ W.frozen? ⟨w.heap.size, 1, none⟩ = false := fun W hb => by
    rw [hW0] at hb
    exact res_past hb
  have ht := Table_any a _ R vs ns zs W0 (hE.below hb0) (h.later hb0) hR hs
  rw [errV_pos a h0] at ht ⊢
  generalize a (tabErr R ns zs - 1) = ea at ht ⊢
  have HB0 := Hid.mk' hb0
  have HRES := Hid.mk' hres
  have HW0 := Hid.mk' hW0
  clear hE h hb0 hres hW0 h0
  go_enter Tryd.func17, Tryd.ntmps17
  go_upto_region 1 with fail
  rw [← HW0.out]
  go_wp2_with (go_at_call 26; refine ht.mono ?_; rintro e w1 ⟨rfl, hb1⟩; obtain ⟨c0, c1, q0, q1⟩ := HRES.out w1 hb1; have HB1 := Hid.mk' (below_chain HB0.out hb1); clear hb1)
  refine bodyPost_ret (v := .tuple #[.agg #[.int .i64 0, .slice none 0 0], .iface 156 (.pointer (some ea))]) (by simp [results, Tryd.results17, go_sem, c0, c1]) rfl ⟨rfl, ?_⟩
  exact (HB1.out.setCell (by simp) _).setCell (by simp) _
end Go.Proofs.YtfnmpkkfdljgcaaDoor

/- Right tables: rows, columns, all. -/
namespace Go.Proofs.YtfnmpkkfdljgcaaDoor

def lsum : List Int → Int
  | [] => 0
  | x :: r => x + lsum r
theorem lsum_append : ∀ l r : List Int, lsum (l ++ r) = lsum l + lsum r
  | [], r => by simp [lsum]
  | x :: l, r => by simp only [List.cons_append, lsum, lsum_append l r]; omega
theorem lsum_row (z : Nat → Int) : ∀ n, lsum (rowL z n) = sumN z n
  | 0 => rfl
  | n + 1 => by
    have ih := lsum_row z n
    unfold rowL at ih ⊢
    rw [List.range_succ, List.map_append, lsum_append, ih]
    simp [lsum, sumN]
theorem rowL_atF (l : List Int) : rowL (atF l) l.length = l := by
  refine List.ext_getElem (by simp [rowL]) (fun i h1 h2 => ?_)
  simp [rowL, atF, List.getD, List.getElem?_eq_getElem h2]
theorem sumN_list (l : List Int) : sumN (atF l) l.length = lsum l := by rw [← lsum_row, rowL_atF]
/-- A function's sum over a list, as over its places. -/
theorem sumN_map (g : Int → Int) (l : List Int) : sumN (fun i => g (atF l i)) l.length = lsum (l.map g) := by
  have h : rowL (fun i => g (atF l i)) l.length = l.map g := by
    refine List.ext_getElem (by simp [rowL]) (fun i h1 h2 => ?_)
    have h3 : i < l.length := by simpa using h2
    simp [rowL, atF, List.getD, List.getElem?_eq_getElem h3]
  rw [← lsum_row, h]
theorem lsum_flat (g : Int → Int) (ns : Nat → Nat) (zs : Nat → Nat → Int) : ∀ k, lsum ((flatL ns zs k).map g) = sumN (fun i => sumN (fun j => g (zs i j)) (ns i)) k
  | 0 => rfl
  | k + 1 => by
    show lsum ((flatL ns zs k ++ rowL (zs k) (ns k)).map g) = _
    rw [List.map_append, lsum_append, lsum_flat g ns zs k]
    have : (rowL (zs k) (ns k)).map g = rowL (fun j => g (zs k j)) (ns k) := by simp [rowL]
    rw [this, lsum_row]
    rfl
theorem mem_flat {ns : Nat → Nat} {zs : Nat → Nat → Int} : ∀ {k i j : Nat}, i < k → j < ns i → zs i j ∈ flatL ns zs k
  | k + 1, i, j, hi, hj => by
    show zs i j ∈ flatL ns zs k ++ rowL (zs k) (ns k)
    rw [List.mem_append]
    rcases Nat.lt_or_ge i k with h | h
    · exact Or.inl (mem_flat h hj)
    · obtain rfl : i = k := by omega
      exact Or.inr (List.mem_map.2 ⟨j, List.mem_range.2 hj, rfl⟩)
/-- A right table. -/
structure OkT (R : Nat) (ns : Nat → Nat) (zs : Nat → Nat → Int) (N : Nat) : Prop where
  r0 : 0 < R
  r16 : R ≤ 16
  c0 : 0 < ns 0
  c16 : ns 0 ≤ 16
  even : ∀ i, i < R → ns i = ns 0
  nn : ∀ i, i < R → ∀ j, j < ns i → 0 ≤ zs i j
  tot : sumN (fun i => sumN (zs i) (ns i)) R = N
  n1 : 1 ≤ N
  n6 : N ≤ 4096
theorem not_uneven {ns : Nat → Nat} {n i : Nat} (h : unevenB ns n = false) (hi : i < n) : ns i = ns 0 := by
  by_cases h' : ns i = ns 0
  · exact h'
  · rw [unevenB_mono hi h'] at h; cases h
theorem okT_of {R : Nat} {ns : Nat → Nat} {zs : Nat → Nat → Int} (h1 : R ≤ 16) (h2 : longB ns R = false) (h3 : unevenB ns R = false) (h4 : OkW (atF (flatL ns zs R)) (flatL ns zs R).length) : ∃ N, OkT R ns zs N ∧ sumN (atF (flatL ns zs R)) (flatL ns zs R).length = N := by
  obtain ⟨N, hN⟩ := Int.eq_ofNat_of_zero_le (Int.le_of_lt h4.pos)
  have hp := h4.posN
  rw [flatL_length] at hp
  have hr0 : 0 < R := Nat.pos_of_ne_zero (fun e => by subst e; simp [sumT] at hp)
  have hc0 : 0 < ns 0 := Nat.pos_of_ne_zero (fun e => by
    have := sumT_le (ns := ns) (B := 0) (n := R) (fun i hi => by have := not_uneven h3 hi; omega)
    omega)
  have h5 := h4.pos
  have h6 := h4.le
  have hsum : sumN (atF (flatL ns zs R)) (flatL ns zs R).length = sumN (fun i => sumN (zs i) (ns i)) R := by
    rw [sumN_list]
    have := lsum_flat id ns zs R
    simpa using this
  refine ⟨N, ⟨hr0, h1, hc0, not_long h2 0 hr0, fun i hi => not_uneven h3 hi, fun i hi j hj => ?_, by rw [← hsum]; exact hN, by omega, by omega⟩, hN⟩
  obtain ⟨q, hq⟩ := List.getElem?_of_mem (mem_flat (zs := zs) hi hj)
  have hql : q < (flatL ns zs R).length := by
    rcases Nat.lt_or_ge q (flatL ns zs R).length with h' | h'
    · exact h'
    · rw [List.getElem?_eq_none h'] at hq; cases hq
  have := h4.nn q hql
  unfold atF at this
  rw [List.getD_eq_getElem?_getD, hq] at this
  exact this
theorem OkT.row {R : Nat} {ns : Nat → Nat} {zs : Nat → Nat → Int} {N : Nat} (h : OkT R ns zs N) {i : Nat} (hi : i < R) : 0 ≤ sumN (zs i) (ns i) ∧ sumN (zs i) (ns i) ≤ N := by
  have h1 := sumN_nonneg (h.nn i hi)
  have h2 := sumN_ge (z := fun i => sumN (zs i) (ns i)) (n := R) (fun k hk => sumN_nonneg (h.nn k hk)) hi
  rw [h.tot] at h2
  exact ⟨h1, h2⟩
theorem OkT.cell {R : Nat} {ns : Nat → Nat} {zs : Nat → Nat → Int} {N : Nat} (h : OkT R ns zs N) {i j : Nat} (hi : i < R) (hj : j < ns i) : 0 ≤ zs i j ∧ zs i j ≤ 4096 := by
  have h1 := h.nn i hi j hj
  have h2 := sumN_ge (h.nn i hi) hj
  have h3 := (h.row hi).2
  have h4 := h.n6
  exact ⟨h1, by omega⟩
theorem OkT.part {R : Nat} {ns : Nat → Nat} {zs : Nat → Nat → Int} {N : Nat} (h : OkT R ns zs N) {i k : Nat} (hi : i < R) (hk : k ≤ ns i) : 0 ≤ sumN (zs i) k ∧ sumN (zs i) k ≤ 4096 := by
  have h1 := sumN_nonneg (z := zs i) (n := k) (fun j hj => h.nn i hi j (by omega))
  have h2 := sumN_mono (h.nn i hi) hk
  have h3 := (h.row hi).2
  have h4 := h.n6
  exact ⟨h1, by omega⟩
def colV (zs : Nat → Nat → Int) (k j : Nat) : Int := sumN (fun i => zs i j) k
theorem OkT.col {R : Nat} {ns : Nat → Nat} {zs : Nat → Nat → Int} {N : Nat} (h : OkT R ns zs N) {k j : Nat} (hk : k ≤ R) (hj : j < ns 0) : 0 ≤ colV zs k j ∧ colV zs k j ≤ 4096 := by
  have h1 : 0 ≤ colV zs k j := sumN_nonneg (fun i hi => h.nn i (by omega) j (by rw [h.even i (by omega)]; exact hj))
  have h2 : colV zs k j ≤ sumN (fun i => sumN (zs i) (ns i)) k := sumN_le (fun i hi => sumN_ge (h.nn i (by omega)) (by rw [h.even i (by omega)]; exact hj))
  have h3 := sumN_mono (z := fun i => sumN (zs i) (ns i)) (k := k) (n := R) (fun i hi => sumN_nonneg (h.nn i hi)) hk
  have h4 := h.tot
  have h5 := h.n6
  exact ⟨h1, by omega⟩
end Go.Proofs.YtfnmpkkfdljgcaaDoor

/- A row of numbers that is made and filled. -/
namespace Go.Proofs.YtfnmpkkfdljgcaaDoor
open Go.RowKit

/-- The row that is filled. -/
structure Fills (w wr : World) (g T : Nat) (f : Nat → Int) : Prop where
  row : RowAt wr g 0 T f
  fz : ∀ i, i < T → wr.frozen? ⟨g, 0 + i, none⟩ = false
  below : Below w.heap.size w wr
  hg : w.heap.size ≤ g
theorem Fills.set {w wr : World} {g T : Nat} {f : Nat → Int} (h : Fills w wr g T f) {j : Nat} (hj : j < T) (x : Int) {f' : Nat → Int} (hf : ∀ i, i < T → f' i = if i = j then x else f i) : Fills w (wr.setCell ⟨g, j, none⟩ (.int .i64 x)) g T f' := by
  refine ⟨fun i hi => ?_, fun i hi => ?_, h.below.setCell h.hg _, h.hg⟩
  · rw [hf i hi]
    by_cases hij : i = j
    · subst hij
      rw [if_pos rfl, Nat.zero_add]
      exact World.cell?_setCell_same _ _ _ (by have := h.row i hi; rwa [Nat.zero_add] at this)
    · rw [if_neg hij, World.cell?_setCell_other _ _ _ _ (fun e => hij (by have := congrArg Addr.off e; simp at this; omega))]
      exact h.row i hi
  · rw [World.frozen?_setCell]
    exact h.fz i hi
theorem Fills.drew {w wr : World} {g T : Nat} {f : Nat → Int} (h : Fills w wr g T f) : Fills w wr.drew g T f := ⟨h.row, h.fz, h.below.drew, h.hg⟩
theorem fills_made {w w2 : World} {g n : Nat} {t : TypeId} {xs : List Value} (h : w2.ownsRow w.heap.size t 1 (.slice (some ⟨g, 0, none⟩) n n) n xs) (hx : ∀ i, i < n → xs[i]? = some (.int .i64 0)) (hg : w.grownBy w2 none) : Fills w w2 g n (fun _ => 0) := by
  obtain ⟨hl, hr⟩ := h
  rcases hr with ⟨hx, _⟩ | ⟨g', cap', cur, hv, hb, hh, _, _, hs, ht⟩
  · cases hx
  · obtain ⟨rfl, rfl⟩ : g = g' ∧ n = cap' := by simpa using hv
    refine ⟨fun i hi => ?_, fun i hi => ?_, (Below.refl _ _).grown hg (Nat.le_refl _) (fun k hk => by cases hk), hb⟩
    · rw [← hx i hi, ← ht, List.getElem?_take_of_lt (by omega)]
      simp [World.cell?, hh]
    · simp [World.frozen?, hh]
theorem made_zero (n i : Nat) (hi : i < n) : (madeCells (Value.int IntKind.i64 0).cells (n * 1)).toList[i]? = some (.int .i64 0) := by
  simp [madeCells, hi, Nat.mod_one, Value.cells]
end Go.Proofs.YtfnmpkkfdljgcaaDoor
