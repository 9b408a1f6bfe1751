/- Types: how many there are, all of them in order, and how many rows each one has. -/
import Derived.WalkKit
namespace Go.Proofs.YteicjedmingplaaDoor

/-- As the program's choose goes: each step's product is divided at once. -/
def chF (n : Nat) : Nat → Nat
  | 0 => 1
  | i + 1 => chF n i * (n - i) / (i + 1)
def facT : Nat → Nat
  | 0 => 1
  | i + 1 => facT i * (i + 1)
theorem facT_pos : ∀ n, 0 < facT n
  | 0 => Nat.one_pos
  | n + 1 => Nat.mul_pos (facT_pos n) (Nat.succ_pos _)
theorem chF_small : ∀ n, n < 26 → ∀ i, i < 26 → chF n i ≤ 10000000 := by decide +kernel
theorem chF_fac : ∀ n, n < 21 → ∀ k, k < n + 1 → chF n k * facT k * facT (n - k) = facT n := by decide +kernel

/-- How many types there are of n symbols out of k + 1. -/
def cntS (f : Nat → Nat) : Nat → Nat
  | 0 => 0
  | i + 1 => cntS f i + f i
def cntT : Nat → Nat → Nat
  | 0, _ => 1
  | k + 1, n => cntS (fun i => cntT k (n - i)) (n + 1)
theorem cntS_congr {f g : Nat → Nat} : ∀ {n : Nat}, (∀ i, i < n → f i = g i) → cntS f n = cntS g n
  | 0, _ => rfl
  | n + 1, h => by
    show cntS f n + f n = cntS g n + g n
    rw [cntS_congr (fun i hi => h i (by omega)), h n (by omega)]
theorem chF_sum : ∀ k, k < 5 → ∀ n, n < 21 → cntS (fun i => chF (n - i + k) k) (n + 1) = chF (n + (k + 1)) (k + 1) := by decide +kernel
theorem cntT_chF : ∀ k, k < 6 → ∀ n, n < 21 → cntT k n = chF (n + k) k
  | 0, _, _, _ => rfl
  | k + 1, hk, n, hn => by
    rw [← chF_sum k (by omega) n hn]
    exact cntS_congr fun i _ => cntT_chF k (by omega) (n - i) (by omega)
theorem cntT_small {k n : Nat} (hk : k < 6) (hn : n < 21) : cntT k n ≤ 10000000 := by
  rw [cntT_chF k hk n hn]; exact chF_small _ (by omega) _ (by omega)
theorem cntS_le (f : Nat → Nat) {i n : Nat} (h : i ≤ n) : cntS f i ≤ cntS f n := by
  induction n with
  | zero => rw [Nat.le_zero.1 h]; exact Nat.le_refl _
  | succ n ih =>
    rcases Nat.lt_or_ge i (n + 1) with h1 | h1
    · exact Nat.le_trans (ih (by omega)) (Nat.le_add_right _ _)
    · rw [show i = n + 1 by omega]; exact Nat.le_refl _

/-- The types of n symbols out of k + 1, in order. -/
def typS (f : Nat → List (List Int)) : Nat → List (List Int)
  | 0 => []
  | i + 1 => typS f i ++ (f i).map fun r => (i : Int) :: r
def typT : Nat → Nat → List (List Int)
  | 0, n => [[(n : Int)]]
  | k + 1, n => typS (fun i => typT k (n - i)) (n + 1)
theorem typS_length (f : Nat → List (List Int)) : ∀ n, (typS f n).length = cntS (fun i => (f i).length) n
  | 0 => rfl
  | n + 1 => by simp [typS, cntS, typS_length f n]
theorem typT_length : ∀ k n, (typT k n).length = cntT k n
  | 0, _ => rfl
  | k + 1, n => by
    show (typS _ (n + 1)).length = cntS _ (n + 1)
    rw [typS_length]
    exact cntS_congr fun i _ => typT_length k (n - i)
theorem typS_mem {f : Nat → List (List Int)} {r : List Int} : ∀ {n : Nat}, r ∈ typS f n → ∃ i s, i < n ∧ s ∈ f i ∧ r = (i : Int) :: s
  | 0, h => by simp [typS] at h
  | n + 1, h => by
    rcases List.mem_append.1 h with h | h
    · obtain ⟨i, s, hi, hs, e⟩ := typS_mem h
      exact ⟨i, s, by omega, hs, e⟩
    · obtain ⟨s, hs, e⟩ := List.mem_map.1 h
      exact ⟨n, s, by omega, hs, e.symm⟩
theorem typT_width : ∀ k n r, r ∈ typT k n → r.length = k + 1
  | 0, n, r, h => by rw [List.mem_singleton.1 h]; rfl
  | k + 1, n, r, h => by
    obtain ⟨i, s, _, hs, rfl⟩ := typS_mem h
    simp [typT_width k _ s hs]

/-- How many rows a type has, as the program reckons. -/
def sumU (t : Nat → Nat) : Nat → Nat
  | 0 => 0
  | i + 1 => sumU t i + t i
def rowU (t : Nat → Nat) : Nat → Nat
  | 0 => 1
  | i + 1 => rowU t i * chF (sumU t (i + 1)) (t i)
def denU (t : Nat → Nat) : Nat → Nat
  | 0 => 1
  | i + 1 => denU t i * facT (t i)
theorem denU_pos (t : Nat → Nat) : ∀ k, 0 < denU t k
  | 0 => Nat.one_pos
  | k + 1 => Nat.mul_pos (denU_pos t k) (facT_pos _)
theorem sumU_le (t : Nat → Nat) {i n : Nat} (h : i ≤ n) : sumU t i ≤ sumU t n := by
  induction n with
  | zero => rw [Nat.le_zero.1 h]; exact Nat.le_refl _
  | succ n ih =>
    rcases Nat.lt_or_ge i (n + 1) with h1 | h1
    · exact Nat.le_trans (ih (by omega)) (Nat.le_add_right _ _)
    · rw [show i = n + 1 by omega]; exact Nat.le_refl _
theorem rowU_fac (t : Nat → Nat) : ∀ k, sumU t k < 21 → rowU t k * denU t k = facT (sumU t k)
  | 0, _ => rfl
  | k + 1, h => by
    have e : sumU t (k + 1) = sumU t k + t k := rfl
    have h1 := rowU_fac t k (by omega)
    have h2 := chF_fac (sumU t (k + 1)) h (t k) (by omega)
    rw [show sumU t (k + 1) - t k = sumU t k by omega] at h2
    show rowU t k * chF (sumU t (k + 1)) (t k) * (denU t k * facT (t k)) = _
    rw [← h2, ← h1]
    generalize chF (sumU t (k + 1)) (t k) = x
    generalize facT (t k) = y
    rw [Nat.mul_assoc, Nat.mul_comm (rowU t k), ← Nat.mul_assoc x, Nat.mul_comm x, Nat.mul_assoc, Nat.mul_assoc, Nat.mul_assoc]
    rw [Nat.mul_comm (denU t k) (x * (y * rowU t k))]
    simp only [Nat.mul_comm, Nat.mul_left_comm]
theorem facT_mono : ∀ {a b : Nat}, a ≤ b → facT a ≤ facT b
  | a, 0, h => by rw [Nat.le_zero.1 h]; exact Nat.le_refl _
  | a, b + 1, h => by
    rcases Nat.lt_or_ge a (b + 1) with h1 | h1
    · exact Nat.le_trans (facT_mono (show a ≤ b by omega)) (Nat.le_mul_of_pos_right _ (Nat.succ_pos _))
    · rw [show a = b + 1 by omega]; exact Nat.le_refl _
theorem facT_20 : facT 20 = 2432902008176640000 := by decide +kernel
theorem rowU_le (t : Nat → Nat) {k : Nat} (h : sumU t k < 21) : rowU t k ≤ 2432902008176640000 := by
  have h1 := rowU_fac t k h
  have h2 := facT_mono (show sumU t k ≤ 20 by omega)
  rw [facT_20, ← h1] at h2
  exact Nat.le_trans (Nat.le_mul_of_pos_right _ (denU_pos t k)) h2
theorem chF_pos : ∀ n, n < 21 → ∀ k, k < n + 1 → 0 < chF n k := by decide +kernel
theorem rowU_pos (t : Nat → Nat) : ∀ k, sumU t k < 21 → 0 < rowU t k
  | 0, _ => Nat.one_pos
  | k + 1, h => by
    have e : sumU t (k + 1) = sumU t k + t k := rfl
    exact Nat.mul_pos (rowU_pos t k (by omega)) (chF_pos _ h _ (by omega))
end Go.Proofs.YteicjedmingplaaDoor
