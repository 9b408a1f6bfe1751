/- GIBBS' inequality of tables. -/
import Derived.Test.YtofflboheiflaaaGreatDoorGibbsMath
namespace Go.Proofs.YtofflboheiflaaaGreatDoor

theorem prod_le {f g : Nat → Nat} : ∀ {n : Nat}, (∀ i, i < n → f i ≤ g i) → prodA f n ≤ prodA g n
  | 0, _ => Nat.le_refl _
  | n + 1, h => Nat.mul_le_mul (prod_le fun i hi => h i (by omega)) (h n (by omega))
theorem prod_mul (f g : Nat → Nat) : ∀ n, prodA (fun i => f i * g i) n = prodA f n * prodA g n
  | 0 => rfl
  | n + 1 => by
    simp only [prodA]
    rw [prod_mul f g n]
    grind
theorem prod_congr {f g : Nat → Nat} : ∀ {n : Nat}, (∀ i, i < n → f i = g i) → prodA f n = prodA g n
  | 0, _ => rfl
  | n + 1, h => by
    simp only [prodA]
    rw [prod_congr (n := n) (fun i hi => h i (by omega)), h n (by omega)]
theorem sumA_congr {f g : Nat → Nat} : ∀ {n : Nat}, (∀ i, i < n → f i = g i) → sumA f n = sumA g n
  | 0, _ => rfl
  | n + 1, h => by
    simp only [sumA]
    rw [sumA_congr (n := n) (fun i hi => h i (by omega)), h n (by omega)]
theorem sumA_ge (f : Nat → Nat) : ∀ {n i : Nat}, i < n → f i ≤ sumA f n
  | 0, _, h => by omega
  | n + 1, i, h => by
    simp only [sumA]
    rcases Nat.lt_or_ge i n with h1 | h1
    · have := sumA_ge f h1
      omega
    · obtain rfl : i = n := by omega
      omega
theorem sumA_mul (k : Nat) (f : Nat → Nat) : ∀ n, sumA (fun i => k * f i) n = k * sumA f n
  | 0 => rfl
  | n + 1 => by
    simp only [sumA]
    rw [sumA_mul k f n]
    grind
theorem sumA_add (f g : Nat → Nat) : ∀ n, sumA (fun i => f i + g i) n = sumA f n + sumA g n
  | 0 => rfl
  | n + 1 => by
    simp only [sumA]
    rw [sumA_add f g n]
    omega
theorem sumA_swap (F : Nat → Nat → Nat) (C : Nat) : ∀ R, sumA (fun i => sumA (fun j => F i j) C) R = sumA (fun j => sumA (fun i => F i j) R) C
  | 0 => by
    simp only [sumA]
    have : ∀ n, sumA (fun _ => 0) n = 0 := by
      intro n
      induction n with
      | zero => rfl
      | succ n ih => simp only [sumA]; omega
    rw [this]
  | R + 1 => by
    simp only [sumA]
    rw [sumA_swap F C R, ← sumA_add]
/-- The sum of logarithms, of tables. -/
theorem sums2_le (a b : Nat → Nat → Nat) (C R : Nat) :
    sumA (fun i => sumA (a i) C) R ^ sumA (fun i => sumA (a i) C) R * prodA (fun i => prodA (fun j => b i j ^ a i j) C) R ≤ sumA (fun i => sumA (b i) C) R ^ sumA (fun i => sumA (a i) C) R * prodA (fun i => prodA (fun j => a i j ^ a i j) C) R := by
  have h1 := prod_le (n := R) (fun i _ => sums_le (a i) (b i) C)
  rw [prod_mul, prod_mul] at h1
  have h2 := sums_le (fun i => sumA (a i) C) (fun i => sumA (b i) C) R
  have hX : 0 < prodA (fun i => sumA (a i) C ^ sumA (a i) C) R := prod_pos fun i _ => self_pos _
  refine Nat.le_of_mul_le_mul_right (c := prodA (fun i => sumA (a i) C ^ sumA (a i) C) R) ?_ hX
  have h3 := Nat.mul_le_mul_left (sumA (fun i => sumA (a i) C) R ^ sumA (fun i => sumA (a i) C) R) h1
  have h4 := Nat.mul_le_mul_right (prodA (fun i => prodA (fun j => a i j ^ a i j) C) R) h2
  generalize sumA (fun i => sumA (a i) C) R ^ sumA (fun i => sumA (a i) C) R = A at *
  generalize sumA (fun i => sumA (b i) C) R ^ sumA (fun i => sumA (a i) C) R = B at *
  generalize prodA (fun i => sumA (a i) C ^ sumA (a i) C) R = X at *
  generalize prodA (fun i => sumA (b i) C ^ sumA (a i) C) R = Y at *
  generalize prodA (fun i => prodA (fun j => b i j ^ a i j) C) R = L at *
  generalize prodA (fun i => prodA (fun j => a i j ^ a i j) C) R = Q at *
  grind
/-- What rows and columns tell of each other is not below 0. -/
theorem told_le (a : Nat → Nat → Nat) (C R N : Nat) (hN : N = sumA (fun i => sumA (a i) C) R) (hN0 : 0 < N) :
    prodA (fun i => prodA (fun j => (sumA (a i) C * sumA (fun k => a k j) R) ^ a i j) C) R ≤ N ^ N * prodA (fun i => prodA (fun j => a i j ^ a i j) C) R := by
  have h := sums2_le a (fun i j => sumA (a i) C * sumA (fun k => a k j) R) C R
  have e1 : sumA (fun j => sumA (fun k => a k j) R) C = N := by rw [hN, sumA_swap]
  have e2 : sumA (fun i => sumA (fun j => sumA (a i) C * sumA (fun k => a k j) R) C) R = N * N := by
    have : sumA (fun i => sumA (fun j => sumA (a i) C * sumA (fun k => a k j) R) C) R = sumA (fun i => N * sumA (a i) C) R := sumA_congr fun i _ => by rw [sumA_mul, e1, Nat.mul_comm]
    rw [this, sumA_mul, ← hN]
  rw [e2, ← hN, Nat.mul_pow] at h
  refine Nat.le_of_mul_le_mul_left (c := N ^ N) ?_ (Nat.pow_pos hN0)
  generalize prodA (fun i => prodA (fun j => (sumA (a i) C * sumA (fun k => a k j) R) ^ a i j) C) R = L at *
  generalize prodA (fun i => prodA (fun j => a i j ^ a i j) C) R = Q at *
  generalize N ^ N = Z at *
  grind
end Go.Proofs.YtofflboheiflaaaGreatDoor
