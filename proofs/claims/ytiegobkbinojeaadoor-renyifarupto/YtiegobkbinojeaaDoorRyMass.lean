/- MASSEY's bound, in whole numbers: 4 times (guesses less 1) has a logarithm of the entropy at least, where that is 2 at least. -/
import Derived.Test.YtiegobkbinojeaaDoorGibbsMath
namespace Go.Proofs.YtiegobkbinojeaaDoor

theorem prodA_mulR (f g : Nat → Nat) : ∀ n, prodA (fun i => f i * g i) n = prodA f n * prodA g n
  | 0 => rfl
  | n + 1 => by
    show prodA (fun i => f i * g i) n * (f n * g n) = prodA f n * f n * (prodA g n * g n)
    rw [prodA_mulR f g n]
    generalize prodA f n = x
    generalize prodA g n = y
    grind
theorem prodA_powR (a : Nat) (e : Nat → Nat) : ∀ n, prodA (fun i => a ^ e i) n = a ^ sumA e n
  | 0 => rfl
  | n + 1 => by
    show prodA (fun i => a ^ e i) n * a ^ e n = a ^ (sumA e n + e n)
    rw [prodA_powR a e n, Nat.pow_add]
theorem prodA_congrR {f g : Nat → Nat} : ∀ {n : Nat}, (∀ i, i < n → f i = g i) → prodA f n = prodA g n
  | 0, _ => rfl
  | n + 1, h => by
    show prodA f n * f n = prodA g n * g n
    rw [prodA_congrR (fun i hi => h i (by omega)), h n (by omega)]
theorem sumA_congrR {f g : Nat → Nat} : ∀ {n : Nat}, (∀ i, i < n → f i = g i) → sumA f n = sumA g n
  | 0, _ => rfl
  | n + 1, h => by
    show sumA f n + f n = sumA g n + g n
    rw [sumA_congrR (fun i hi => h i (by omega)), h n (by omega)]
theorem sumA_plusR (f g : Nat → Nat) : ∀ n, sumA (fun i => f i + g i) n = sumA f n + sumA g n
  | 0 => rfl
  | n + 1 => by
    show sumA (fun i => f i + g i) n + (f n + g n) = sumA f n + f n + (sumA g n + g n)
    rw [sumA_plusR f g n]; omega
theorem sumA_timesR (k : Nat) (f : Nat → Nat) : ∀ n, sumA (fun i => k * f i) n = k * sumA f n
  | 0 => rfl
  | n + 1 => by
    show sumA (fun i => k * f i) n + k * f n = k * (sumA f n + f n)
    rw [sumA_timesR k f n, Nat.mul_add]
/-- A geometric sum. -/
theorem geo_sum (A S n : Nat) : ∀ m, m ≤ n → sumA (fun i => S * (A ^ i * (A + S) ^ (n - 1 - i))) m + A ^ m * (A + S) ^ (n - m) = (A + S) ^ n
  | 0, _ => by simp [sumA]
  | m + 1, h => by
    have ih := geo_sum A S n m (by omega)
    show sumA (fun i => S * (A ^ i * (A + S) ^ (n - 1 - i))) m + S * (A ^ m * (A + S) ^ (n - 1 - m)) + A ^ (m + 1) * (A + S) ^ (n - (m + 1)) = _
    have e : n - m = (n - 1 - m) + 1 := by omega
    have e2 : n - (m + 1) = n - 1 - m := by omega
    rw [← ih, e, e2, Nat.pow_succ, Nat.pow_succ]
    generalize sumA (fun i => S * (A ^ i * (A + S) ^ (n - 1 - i))) m = x
    generalize (A + S) ^ (n - 1 - m) = y
    generalize A ^ m = z
    grind
theorem massey_geo (w : Nat → Nat) (n A S : Nat) (hS : S = sumA w n) (hA : A = sumA (fun i => i * w i) n) (hS0 : 0 < S) :
    S ^ S * (S ^ S * A ^ A) ≤ (A + S) ^ (A + S) * prodA (fun i => w i ^ w i) n := by
  obtain ⟨T, hT⟩ : ∃ T, T = A + S := ⟨_, rfl⟩
  obtain ⟨b, hb⟩ : ∃ b : Nat → Nat, b = fun i => S * (A ^ i * (A + S) ^ (n - 1 - i)) := ⟨_, rfl⟩
  have h1 := sums_le w b n
  have h2 : sumA b n ≤ T ^ n := by
    have := geo_sum A S n n (Nat.le_refl _)
    rw [hb, hT]; omega
  obtain ⟨E, hE⟩ : ∃ E, E = sumA (fun i => (n - 1 - i) * w i) n := ⟨_, rfl⟩
  have h3 : prodA (fun i => b i ^ w i) n = S ^ S * (A ^ A * T ^ E) := by
    have e : prodA (fun i => b i ^ w i) n = prodA (fun i => S ^ w i * (A ^ (i * w i) * T ^ ((n - 1 - i) * w i))) n := prodA_congrR fun i _ => by
      rw [hb]
      show (S * (A ^ i * (A + S) ^ (n - 1 - i))) ^ w i = _
      rw [Nat.mul_pow, Nat.mul_pow, ← Nat.pow_mul, ← Nat.pow_mul, ← hT]
    rw [e, prodA_mulR, prodA_mulR, prodA_powR, prodA_powR, prodA_powR, ← hS, ← hA, ← hE]
  have h4 : E + T = n * S := by
    rw [hE, hT, hA, hS]
    have e1 : sumA (fun i => (n - 1 - i) * w i) n + (sumA (fun i => i * w i) n + sumA w n) = sumA (fun i => n * w i) n := by
      rw [← sumA_plusR, ← sumA_plusR]
      refine sumA_congrR fun i hi => ?_
      obtain ⟨d, rfl⟩ : ∃ d, n = i + 1 + d := ⟨n - (i + 1), by omega⟩
      have : i + 1 + d - 1 - i = d := by omega
      rw [this]; grind
    rw [e1, sumA_timesR]
  rw [h3, ← hS] at h1
  have hT0 : 0 < T ^ E := Nat.pow_pos (by omega)
  have h5 : S ^ S * (S ^ S * (A ^ A * T ^ E)) ≤ (T ^ n) ^ S * prodA (fun i => w i ^ w i) n := Nat.le_trans h1 (Nat.mul_le_mul_right _ (Nat.pow_le_pow_left h2 S))
  rw [← Nat.pow_mul, ← h4, Nat.pow_add] at h5
  rw [← hT]
  refine Nat.le_of_mul_le_mul_right (c := T ^ E) ?_ hT0
  generalize prodA (fun i => w i ^ w i) n = W at *
  generalize T ^ E = t1 at *
  generalize T ^ T = t2 at *
  generalize S ^ S = t3 at *
  generalize A ^ A = t4 at *
  have e1 : t3 * (t3 * t4) * t1 = t3 * (t3 * (t4 * t1)) := by grind
  have e2 : t2 * W * t1 = t1 * t2 * W := by grind
  rw [e1, e2]; exact h5
/-- Where there is as much ahead as behind. -/
theorem half_chord (A S : Nat) (h : S ≤ A) : (A + S) ^ (A + S) ≤ 4 ^ S * A ^ (A + S) := by
  rcases Nat.eq_zero_or_pos S with rfl | hS
  · simp
  have h1 := sum2_le (A - S) (2 * S) (2 * (A - S)) (2 * S)
  have e1 : A - S + 2 * S = A + S := by omega
  have e2 : 2 * (A - S) + 2 * S = 2 * A := by omega
  rw [e1, e2, Nat.mul_pow 2 (A - S) (A - S), Nat.mul_pow 2 A] at h1
  have p1 : 0 < (A - S) ^ (A - S) := self_pos _
  have p2 : 0 < (2 * S) ^ (2 * S) := self_pos _
  have p3 : 0 < 2 ^ (A - S) := Nat.pow_pos (by omega)
  have e3 : (2 : Nat) ^ (A + S) = 2 ^ (A - S) * 4 ^ S := by
    rw [show (4 : Nat) = 2 ^ 2 from rfl, ← Nat.pow_mul, ← Nat.pow_add]
    congr 1; omega
  rw [e3] at h1
  generalize (A - S) ^ (A - S) = x at *
  generalize (2 * S) ^ (2 * S) = y at *
  generalize (2 : Nat) ^ (A - S) = z at *
  generalize (A + S) ^ (A + S) = u at *
  generalize A ^ (A + S) = v at *
  generalize 4 ^ S = f at *
  refine Nat.le_of_mul_le_mul_right (c := z * (x * y)) ?_ (Nat.mul_pos p3 (Nat.mul_pos p1 p2))
  have e5 : u * (z * (x * y)) = u * (z * x * y) := by grind
  have e6 : f * v * (z * (x * y)) = z * f * v * (x * y) := by grind
  rw [e5, e6]; exact h1
theorem massey_le (w : Nat → Nat) (n A S : Nat) (hS : S = sumA w n) (hA : A = sumA (fun i => i * w i) n) (hS0 : 0 < S) (h : S ≤ A) :
    S ^ S * S ^ S ≤ (4 * A) ^ S * prodA (fun i => w i ^ w i) n := by
  have h1 := massey_geo w n A S hS hA hS0
  have h2 := half_chord A S h
  have hp : 0 < A ^ A := self_pos _
  refine Nat.le_of_mul_le_mul_right (c := A ^ A) ?_ hp
  have h3 : S ^ S * (S ^ S * A ^ A) ≤ 4 ^ S * A ^ (A + S) * prodA (fun i => w i ^ w i) n := Nat.le_trans h1 (Nat.mul_le_mul_right _ h2)
  rw [Nat.pow_add] at h3
  rw [Nat.mul_pow]
  generalize prodA (fun i => w i ^ w i) n = W at *
  generalize A ^ A = x at *
  generalize A ^ S = y at *
  generalize S ^ S = z at *
  generalize 4 ^ S = f at *
  have e1 : z * z * x = z * (z * x) := by grind
  have e2 : f * y * W * x = f * (x * y) * W := by grind
  rw [e1, e2]; exact h3
theorem massey_lt (w : Nat → Nat) (n A S : Nat) (hS : S = sumA w n) (hA : A = sumA (fun i => i * w i) n) (hS0 : 0 < S) (hW : 0 < prodA (fun i => w i ^ w i) n) (h : A < S) :
    S ^ S < 4 ^ S * prodA (fun i => w i ^ w i) n := by
  have h1 := massey_geo w n A S hS hA hS0
  have h2 := sum2_le A S 1 1
  simp only [Nat.one_pow, Nat.mul_one] at h2
  have hp : 0 < A ^ A := self_pos _
  have hq : 0 < S ^ S := self_pos _
  have h3 : S ^ S * (S ^ S * A ^ A) ≤ (1 + 1) ^ (A + S) * (A ^ A * S ^ S) * prodA (fun i => w i ^ w i) n := Nat.le_trans h1 (Nat.mul_le_mul_right _ h2)
  have h4 : (1 + 1) ^ (A + S) < 4 ^ S := by
    rw [show (4 : Nat) = 2 ^ 2 from rfl, ← Nat.pow_mul]
    exact Nat.pow_lt_pow_right (by omega) (by omega)
  have h5 : S ^ S ≤ (1 + 1) ^ (A + S) * prodA (fun i => w i ^ w i) n := by
    refine Nat.le_of_mul_le_mul_right (c := S ^ S * A ^ A) ?_ (Nat.mul_pos hq hp)
    generalize prodA (fun i => w i ^ w i) n = W at *
    generalize A ^ A = x at *
    generalize S ^ S = z at *
    generalize (1 + 1) ^ (A + S) = f at *
    have e2 : f * W * (z * x) = f * (x * z) * W := by grind
    rw [e2]; exact h3
  exact Nat.lt_of_le_of_lt h5 (Nat.mul_lt_mul_of_pos_right h4 hW)
end Go.Proofs.YtiegobkbinojeaaDoor
