/- The document's digits, power, Sides, TooGreat and SignOf. -/
import Derived.Test.YtklhfagcembigaaGreatDoorBigMul
import Derived.Test.YtklhfagcembigaaGreatDoorValidWalk
import Derived.Laws.MathBits
namespace Go.Proofs.YtklhfagcembigaaGreatDoor
open Go.RowKit

theorem bitLen_half {n : Nat} (h : 0 < n) : bitLen n = bitLen (n / 2) + 1 := by
  rcases Nat.lt_or_ge n 2 with h1 | h1
  · obtain rfl : n = 1 := by omega
    decide
  · have := bitLen_shift n 1 (by simp; omega)
    simp at this
    omega
theorem bitLen_zero : bitLen 0 = 0 := by simp [bitLen]
theorem bitLen_million {n : Nat} (h : n ≤ 1000000) : bitLen n ≤ 20 := by
  unfold bitLen
  split
  · omega
  · rename_i h0
    have := (Nat.log2_lt h0).2 (show n < 2 ^ 20 by omega)
    omega
theorem bitLen_pos {n : Nat} (h : 0 < n) : 0 < bitLen n := by
  rw [bitLen_half h]; omega

theorem pow_half (n k : Nat) (h : ¬ k % 2 = 1) : n ^ (k / 2) * n ^ (k / 2) = n ^ k := by
  rw [← Nat.pow_add]; congr 1; omega
theorem pow_half_odd (n k : Nat) (h : k % 2 = 1) : n ^ (k / 2) * n ^ (k / 2) * n = n ^ k := by
  rw [← Nat.pow_add, ← Nat.pow_succ]; congr 1; omega

/-- Sizes times bits, of the first k terms. -/
def cost (p c : Nat → Int) : Nat → Nat
  | 0 => 0
  | k + 1 => cost p c k + (c k).natAbs * bitLen (p k).toNat
def Bounded (n : Nat) (p c : Nat → Int) : Prop := ∀ i, i < n → 2 ≤ p i ∧ p i ≤ 1000000 ∧ -1099511627776 ≤ c i ∧ c i ≤ 1099511627776 ∧ c i ≠ 0
theorem OkTo.bounded {n : Nat} {p c : Nat → Int} (h : OkTo p c n) : Bounded n p c := fun i hi => ⟨(h i hi).2.2.2.2.2.1, (h i hi).2.1, (h i hi).2.2.2.1, (h i hi).2.2.2.2.1, (h i hi).2.2.1⟩
theorem LogAt.cellsAt {w : World} {ad : Option Addr} {n cap : Nat} {p c : Nat → Int} (h : LogAt w (.slice ad n cap) n p c) {k : Nat} (hk : k < n) : ∃ b o, ad = some ⟨b, o, none⟩ ∧ w.cell? ⟨b, o + k * 2, none⟩ = some (.int .i64 (p k)) ∧ w.cell? ⟨b, o + k * 2 + 1, none⟩ = some (.int .i64 (c k)) := by
  rcases h with ⟨_, _, _, rfl⟩ | ⟨b, o, _, h1, _, h3⟩
  · omega
  · simp only [Value.slice.injEq] at h1
    exact ⟨b, o, h1.1, h3 k hk⟩
theorem cost_mono (p c : Nat → Int) {j k : Nat} (h : j ≤ k) : cost p c j ≤ cost p c k := by
  induction k with
  | zero => obtain rfl : j = 0 := by omega
            exact Nat.le_refl _
  | succ k ih =>
    rcases Nat.lt_or_ge k j with h' | h'
    · obtain rfl : j = k + 1 := by omega
      exact Nat.le_refl _
    · have := ih h'
      show _ ≤ cost p c k + _
      omega

theorem quo_nat (left b : Nat) (hl : left ≤ 40000) : wrap64 ((left : Int) / (b : Int)) = ((left / b : Nat) : Int) := by
  have h0 : (left : Int) / (b : Int) = ((left / b : Nat) : Int) := by simp
  have h1 : left / b ≤ left := Nat.div_le_self _ _
  rw [h0]
  generalize left / b = q at h1
  rw [w64 _ (by omega)]
theorem too_more {left b m : Nat} {x : Int} (hx : x = (m : Int)) (hb : 0 < b) (hl : left ≤ 40000) (h : left < m * b) : wrap64 ((left : Int) / (b : Int)) < x := by
  rw [quo_nat left b hl, hx]
  have := (Nat.div_lt_iff_lt_mul hb).2 h
  omega
theorem too_less {left b m : Nat} {x : Int} (hx : x = (m : Int)) (hb : 0 < b) (hl : left ≤ 40000) (h : m * b ≤ left) : x ≤ wrap64 ((left : Int) / (b : Int)) := by
  rw [quo_nat left b hl, hx]
  have := (Nat.le_div_iff_mul_le hb).2 h
  omega
theorem too_prod {b m : Nat} {x : Int} (hx : x = (m : Int)) : x * (b : Int) = ((m * b : Nat) : Int) := by rw [hx]; simp

/-- The products of powers. -/
def sideUp (p c : Nat → Int) (t : Nat) : Nat → Nat
  | 0 => 1
  | k + 1 => if 0 < c k then sideUp p c t k * (p k).toNat ^ ((c k).natAbs * t) else sideUp p c t k
def sideDown (p c : Nat → Int) (t : Nat) : Nat → Nat
  | 0 => 1
  | k + 1 => if 0 < c k then sideDown p c t k else sideDown p c t k * (p k).toNat ^ ((c k).natAbs * t)
theorem sideUp_pos {p c : Nat → Int} {t k : Nat} (h : 0 < c k) : sideUp p c t (k + 1) = sideUp p c t k * (p k).toNat ^ ((c k).natAbs * t) := by
  show (if _ then _ else _) = _
  rw [if_pos h]
theorem sideUp_neg {p c : Nat → Int} {t k : Nat} (h : ¬ 0 < c k) : sideUp p c t (k + 1) = sideUp p c t k := by
  show (if _ then _ else _) = _
  rw [if_neg h]
theorem sideDown_pos {p c : Nat → Int} {t k : Nat} (h : 0 < c k) : sideDown p c t (k + 1) = sideDown p c t k := by
  show (if _ then _ else _) = _
  rw [if_pos h]
theorem sideDown_neg {p c : Nat → Int} {t k : Nat} (h : ¬ 0 < c k) : sideDown p c t (k + 1) = sideDown p c t k * (p k).toNat ^ ((c k).natAbs * t) := by
  show (if _ then _ else _) = _
  rw [if_neg h]
theorem pow_bits (q m t : Nat) : q ^ (m * t) ≤ 2 ^ (t * (m * bitLen q)) := by
  have h1 : q ≤ 2 ^ bitLen q := Nat.le_of_lt (bitLen_spec q).1
  have h2 := Nat.pow_le_pow_left h1 (m * t)
  rw [← Nat.pow_mul] at h2
  rw [show t * (m * bitLen q) = bitLen q * (m * t) by grind]
  exact h2
theorem sides_le (p c : Nat → Int) (t : Nat) : ∀ k, sideUp p c t k ≤ 2 ^ (t * cost p c k) ∧ sideDown p c t k ≤ 2 ^ (t * cost p c k)
  | 0 => by simp [sideUp, sideDown, cost]
  | k + 1 => by
    have ih := sides_le p c t k
    have hp := pow_bits (p k).toNat (c k).natAbs t
    have e : 2 ^ (t * cost p c (k + 1)) = 2 ^ (t * cost p c k) * 2 ^ (t * ((c k).natAbs * bitLen (p k).toNat)) := by
      rw [← Nat.pow_add]; congr 1; show t * (cost p c k + _) = _; rw [Nat.mul_add]
    rw [e]
    have h1 : 1 ≤ 2 ^ (t * ((c k).natAbs * bitLen (p k).toNat)) := Nat.one_le_two_pow
    by_cases hc : 0 < c k
    · rw [sideUp_pos hc, sideDown_pos hc]
      exact ⟨Nat.mul_le_mul ih.1 hp, by have := Nat.mul_le_mul ih.2 h1; rwa [Nat.mul_one] at this⟩
    · rw [sideUp_neg hc, sideDown_neg hc]
      exact ⟨by have := Nat.mul_le_mul ih.1 h1; rwa [Nat.mul_one] at this, Nat.mul_le_mul ih.2 hp⟩
theorem cost_lt {p c : Nat → Int} {t k n E : Nat} (hk : k ≤ n) (h : 2 ^ (t * cost p c n) < 1000000 ^ E) : 2 ^ (t * cost p c k) < 1000000 ^ E :=
  Nat.lt_of_le_of_lt (Nat.pow_le_pow_right (by decide) (Nat.mul_le_mul_left _ (cost_mono p c hk))) h
theorem term_lt {p c : Nat → Int} {t k n E : Nat} (hk : k < n) (h : 2 ^ (t * cost p c n) < 1000000 ^ E) : (p k).toNat ^ ((c k).natAbs * t) < 1000000 ^ E := by
  refine Nat.lt_of_le_of_lt (Nat.le_trans (pow_bits _ _ _) ?_) (cost_lt (show k + 1 ≤ n by omega) h)
  refine Nat.pow_le_pow_right (by decide) (Nat.mul_le_mul_left _ ?_)
  show _ ≤ cost p c k + _
  omega
theorem size_le_cost {p c : Nat → Int} {k n : Nat} (hk : k < n) (hb : Bounded n p c) : (c k).natAbs ≤ cost p c n := by
  have h1 := cost_mono p c (show k + 1 ≤ n by omega)
  have h2 : 0 < bitLen (p k).toNat := bitLen_pos (by have := (hb k hk).1; omega)
  have h3 : (c k).natAbs * 1 ≤ (c k).natAbs * bitLen (p k).toNat := Nat.mul_le_mul_left _ h2
  have h4 : cost p c (k + 1) = cost p c k + (c k).natAbs * bitLen (p k).toNat := rfl
  omega

end Go.Proofs.YtklhfagcembigaaGreatDoor
