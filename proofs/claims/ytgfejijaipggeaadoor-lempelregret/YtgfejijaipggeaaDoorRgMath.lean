/- The chance of bits rests on how many there are of each; how near it comes to the best coin's. -/
import Derived.Test.YtgfejijaipggeaaDoorLrMath
import Derived.Test.YtgfejijaipggeaaDoorWideMath
namespace Go.Proofs.YtgfejijaipggeaaDoor

def ktP : Nat → Nat
  | 0 => 1
  | j + 1 => ktP j * (2 * j + 1)
theorem lnN_kt {t : ByteArray} : ∀ {n : Nat}, (∀ i, i < n → bitAt t i = some 0 ∨ bitAt t i = some 1) → lnN t n = ktP (cntB t 0 n) * ktP (cntB t 1 n)
  | 0, _ => rfl
  | i + 1, h => by
    have ih := lnN_kt (t := t) (n := i) (fun j hj => h j (by omega))
    rcases h i (by omega) with hb | hb
    · rw [lnN_step hb, cntB_same hb, cntB_other hb (by decide), ih]
      show _ = ktP (cntB t 0 i) * (2 * cntB t 0 i + 1) * _
      rw [Nat.mul_right_comm]
    · rw [lnN_step hb, cntB_same hb, cntB_other hb (by decide), ih]
      show _ = _ * (ktP (cntB t 1 i) * (2 * cntB t 1 i + 1))
      rw [Nat.mul_assoc]
/-- The best coin's chance, over a power of n. -/
def bsN (n o : Nat) : Nat → Nat
  | 0 => 1
  | i + 1 => bsN n o i * (if i < o then o else n - o)
theorem bsN_le {n o : Nat} (ho : o ≤ n) : ∀ i, bsN n o i ≤ n ^ i
  | 0 => Nat.le_refl _
  | i + 1 => by
    rw [Nat.pow_succ]
    exact Nat.mul_le_mul (bsN_le ho i) (by split <;> omega)
set_option maxRecDepth 100000 in
theorem regret_tab : ∀ n, n < 17 → ∀ k, k < n + 1 → 0 < n → bsN n k n * bsN n k n * (lnD n * lnD n) ≤ ktP (n - k) * ktP k * (ktP (n - k) * ktP k) * (4 * n) * (n ^ n * n ^ n) := by decide +kernel
theorem told_tab : ∀ n, n < 17 → lnD n ≤ 4611686018427387904 := by decide +kernel
theorem pow16 {n i : Nat} (hn : n ≤ 16) (hi : i ≤ 17) : n ^ i < 1000000 ^ 12 :=
  Nat.lt_of_le_of_lt (Nat.pow_le_pow_left hn i) (Nat.lt_of_le_of_lt (Nat.pow_le_pow_right (by decide) hi) (by decide))
/-- Two fractions in lowest terms, the one not below the other. -/
theorem low_ge {M1 M2 : Nat} {z1 z2 : Int} (h1 : 0 < M1) (h2 : 0 < M2) (h : z2 * (M1 : Int) ≤ z1 * (M2 : Int)) : 0 ≤ lowN M1 z1 * (lowD M2 z2 : Int) - lowN M2 z2 * (lowD M1 z1 : Int) := by
  have e1 := low_cross h1 z1
  have e2 := low_cross h2 z2
  have p1 : (0 : Int) < (M1 : Int) := by omega
  have p2 : (0 : Int) < (M2 : Int) := by omega
  have q1 : (0 : Int) ≤ (lowD M1 z1 : Int) := by omega
  have q2 : (0 : Int) ≤ (lowD M2 z2 : Int) := by omega
  generalize lowN M1 z1 = a at *
  generalize lowN M2 z2 = c at *
  generalize (lowD M1 z1 : Int) = b at *
  generalize (lowD M2 z2 : Int) = d at *
  generalize (M1 : Int) = m at *
  generalize (M2 : Int) = k at *
  have h3 : (c * b) * (m * k) ≤ (a * d) * (m * k) := by
    have e3 : (c * b) * (m * k) = (z2 * m) * (d * b) := by
      calc (c * b) * (m * k) = (c * k) * (b * m) := by grind
        _ = (z2 * d) * (b * m) := by rw [e2]
        _ = (z2 * m) * (d * b) := by grind
    have e4 : (a * d) * (m * k) = (z1 * k) * (d * b) := by
      calc (a * d) * (m * k) = (a * m) * (d * k) := by grind
        _ = (z1 * b) * (d * k) := by rw [e1]
        _ = (z1 * k) * (d * b) := by grind
    rw [e3, e4]
    exact Int.mul_le_mul_of_nonneg_right h (Int.mul_nonneg q2 q1)
  have h4 := Int.le_of_mul_le_mul_right h3 (Int.mul_pos p1 p2)
  omega
end Go.Proofs.YtgfejijaipggeaaDoor
