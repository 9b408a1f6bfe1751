/- The chance by Krichevsky and Trofimov: its two numbers. -/
import Derived.Test.YtkglaiigoogapaaGreatDoorReadMath
namespace Go.Proofs.YtkglaiigoogapaaGreatDoor

/-- How often a bit stands among the first ones. -/
def cntB (t : ByteArray) (b : Nat) : Nat → Nat
  | 0 => 0
  | i + 1 => cntB t b i + (if bitAt t i = some b then 1 else 0)
def lnN (t : ByteArray) : Nat → Nat
  | 0 => 1
  | i + 1 => lnN t i * (2 * cntB t ((bitAt t i).getD 0) i + 1)
def lnD : Nat → Nat
  | 0 => 1
  | i + 1 => lnD i * (2 * i + 2)
theorem cntB_le (t : ByteArray) (b : Nat) : ∀ i, cntB t b i ≤ i
  | 0 => Nat.le_refl _
  | i + 1 => by
    have h := cntB_le t b i
    show cntB t b i + (if bitAt t i = some b then 1 else 0) ≤ i + 1
    split <;> omega
theorem cntB_same {t : ByteArray} {b i : Nat} (h : bitAt t i = some b) : cntB t b (i + 1) = cntB t b i + 1 := by
  show cntB t b i + (if bitAt t i = some b then 1 else 0) = _
  rw [if_pos h]
theorem cntB_other {t : ByteArray} {b c i : Nat} (h : bitAt t i = some b) (hc : ¬ b = c) : cntB t c (i + 1) = cntB t c i := by
  show cntB t c i + (if bitAt t i = some c then 1 else 0) = _
  rw [if_neg (by rw [h]; intro e; exact hc (Option.some.inj e))]; rfl
theorem cntB_both {t : ByteArray} : ∀ {n : Nat}, (∀ i, i < n → bitAt t i = some 0 ∨ bitAt t i = some 1) → cntB t 0 n + cntB t 1 n = n
  | 0, _ => rfl
  | i + 1, h => by
    have ih := cntB_both (t := t) (n := i) (fun j hj => h j (by omega))
    rcases h i (by omega) with hb | hb
    · rw [cntB_same hb, cntB_other hb (by decide)]; omega
    · rw [cntB_same hb, cntB_other hb (by decide)]; omega
theorem lnN_step {t : ByteArray} {b i : Nat} (h : bitAt t i = some b) : lnN t (i + 1) = lnN t i * (2 * cntB t b i + 1) := by
  show lnN t i * (2 * cntB t ((bitAt t i).getD 0) i + 1) = _
  rw [h]; rfl
theorem lnD_pos : ∀ i, 0 < lnD i
  | 0 => by decide
  | i + 1 => Nat.mul_pos (lnD_pos i) (by omega)
theorem lnN_le (t : ByteArray) : ∀ i, lnN t i ≤ lnD i
  | 0 => Nat.le_refl _
  | i + 1 => by
    have h := cntB_le t ((bitAt t i).getD 0) i
    exact Nat.mul_le_mul (lnN_le t i) (by omega)
theorem lnD_pow : ∀ i, i ≤ 25 → lnD i ≤ 50 ^ i
  | 0, _ => Nat.le_refl _
  | i + 1, h => by
    rw [Nat.pow_succ]
    exact Nat.mul_le_mul (lnD_pow i (by omega)) (by omega)
theorem lnD_small {i : Nat} (h : i ≤ 25) : lnD i < 1000000 ^ 20 ∧ lnD i < 18446744073709551616 ^ 4 := by
  have h1 := lnD_pow i h
  have h2 : 50 ^ i ≤ 50 ^ 25 := Nat.pow_le_pow_right (by decide) h
  have h3 : 50 ^ 25 < 1000000 ^ 20 := by decide
  have h4 : 50 ^ 25 < 18446744073709551616 ^ 4 := by decide
  exact ⟨by omega, by omega⟩
end Go.Proofs.YtkglaiigoogapaaGreatDoor
