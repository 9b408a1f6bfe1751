/- Where a number lies in the parts of the weights, symbol by symbol. -/
import Derived.Test.YtncgpldfenkiiaaGreatDoorMsgP
import Derived.Test.YtncgpldfenkiiaaGreatDoorWideMath
namespace Go.Proofs.YtncgpldfenkiiaaGreatDoor

/-- The symbol whose part holds a over d. -/
def symOf (z : Nat → Int) (n S a d : Nat) : Nat := fstB (fun s => decide (((a * S / d : Nat) : Int) < sumN z (s + 1))) n
def decAD (z : Nat → Int) (n S a0 d0 : Nat) : Nat → Nat × Nat
  | 0 => (a0, d0)
  | k + 1 => ((decAD z n S a0 d0 k).1 * S - (sumN z (symOf z n S (decAD z n S a0 d0 k).1 (decAD z n S a0 d0 k).2)).toNat * (decAD z n S a0 d0 k).2, (decAD z n S a0 d0 k).2 * (z (symOf z n S (decAD z n S a0 d0 k).1 (decAD z n S a0 d0 k).2)).toNat)
structure SymIs (z : Nat → Int) (n S a d s : Nat) : Prop where
  lt : s < n
  lo : sumN z s ≤ ((a * S / d : Nat) : Int)
  hi : ((a * S / d : Nat) : Int) < sumN z (s + 1)
  no : ∀ i, i < s → ¬ ((a * S / d : Nat) : Int) < sumN z (i + 1)
  pos : 0 < z s
  le : (sumN z s).toNat * d ≤ a * S
  less : a * S - (sumN z s).toNat * d < d * (z s).toNat
  small : (z s).toNat ≤ S ∧ (sumN z s).toNat ≤ S
theorem sym_is {z : Nat → Int} {n S a d : Nat} (hz : OkW z n) (hS : sumN z n = (S : Int)) (hd : 0 < d) (ha : a < d) : SymIs z n S a d (symOf z n S a d) := by
  have hp : a * S / d < S := (Nat.div_lt_iff_lt_mul hd).2 (by rw [Nat.mul_comm S d]; exact Nat.mul_lt_mul_of_pos_right ha (by have := hz.pos; rw [hS] at this; omega))
  have hn := hz.posN
  have hlt : symOf z n S a d < n := by
    refine Classical.byContradiction fun h => ?_
    have e : symOf z n S a d = n := Nat.le_antisymm (fstB_le _ _) (by omega)
    have h1 := fstB_none e (n - 1) (by omega)
    have h2 : ¬ ((a * S / d : Nat) : Int) < sumN z (n - 1 + 1) := of_decide_eq_false h1
    rw [Nat.sub_add_cancel hn, hS] at h2
    omega
  obtain ⟨h1, h2⟩ := fstB_is hlt
  generalize hs : symOf z n S a d = s at *
  have e : fstB (fun s => decide (((a * S / d : Nat) : Int) < sumN z (s + 1))) n = s := hs
  rw [e] at h1 h2
  have hhi : ((a * S / d : Nat) : Int) < sumN z (s + 1) := of_decide_eq_true h1
  have hno : ∀ i, i < s → ¬ ((a * S / d : Nat) : Int) < sumN z (i + 1) := fun i hi => of_decide_eq_false (h2 i hi)
  have hlo : sumN z s ≤ ((a * S / d : Nat) : Int) := by
    rcases Nat.eq_zero_or_pos s with h0 | h0
    · rw [h0]; exact Int.natCast_nonneg _
    · have := hno (s - 1) (by omega)
      rw [Nat.sub_add_cancel h0] at this
      omega
  have hex : sumN z (s + 1) = sumN z s + z s := rfl
  have hn0 := hz.part (k := s) (by omega)
  have hzs := hz.lt hlt
  have hm1 := sumN_mono hz.nn (k := s + 1) (n := n) (by omega)
  rw [hS] at hm1
  have hB : (sumN z s).toNat ≤ a * S / d := by omega
  have hBZ : a * S / d < (sumN z s).toNat + (z s).toNat := by omega
  have hle : (sumN z s).toNat * d ≤ a * S := (Nat.le_div_iff_mul_le hd).1 hB
  have hls : a * S < ((sumN z s).toNat + (z s).toNat) * d := (Nat.div_lt_iff_lt_mul hd).1 hBZ
  refine ⟨hlt, hlo, hhi, hno, by omega, hle, ?_, by omega, by omega⟩
  rw [Nat.add_mul] at hls
  rw [Nat.mul_comm d]
  omega
theorem dec_ok {z : Nat → Int} {n S a0 d0 : Nat} (hz : OkW z n) (hS : sumN z n = (S : Int)) (hd : 0 < d0) (ha : a0 < d0) : ∀ k, (decAD z n S a0 d0 k).1 < (decAD z n S a0 d0 k).2 ∧ 0 < (decAD z n S a0 d0 k).2 ∧ (decAD z n S a0 d0 k).2 ≤ d0 * 4096 ^ k
  | 0 => ⟨ha, hd, by show d0 ≤ d0 * 4096 ^ 0; omega⟩
  | k + 1 => by
    obtain ⟨h1, h2, h3⟩ := dec_ok hz hS hd ha k
    have hs := sym_is hz hS h2 h1
    have hZ : (z (symOf z n S (decAD z n S a0 d0 k).1 (decAD z n S a0 d0 k).2)).toNat ≤ 4096 := by
      have := hz.lt hs.lt; omega
    have hpz := hs.pos
    refine ⟨hs.less, Nat.mul_pos h2 (by omega), ?_⟩
    show _ * _ ≤ _
    rw [Nat.pow_succ, ← Nat.mul_assoc]
    exact Nat.mul_le_mul h3 hZ
/-- The steps in lowest terms. -/
theorem low_less {D S : Nat} (hD : 0 < D) (hS : 0 < S) (a b : Int) : (lowN D a * (lowD S b : Int) + -lowN S b * (lowD D a : Int)).tdiv ((Nat.gcd (lowN D a * (lowD S b : Int) + -lowN S b * (lowD D a : Int)).natAbs (lowD D a * lowD S b) : Nat) : Int) = lowN (D * S) (a * S - b * D) ∧ lowD D a * lowD S b / Nat.gcd (lowN D a * (lowD S b : Int) + -lowN S b * (lowD D a : Int)).natAbs (lowD D a * lowD S b) = lowD (D * S) (a * S - b * D) := by
  refine low_same (Nat.mul_pos hD hS) (Nat.mul_pos (lowD_pos hD a) (lowD_pos hS b)) ?_
  have h1 := low_cross hD a
  have h2 := low_cross hS b
  rw [Int.natCast_mul, Int.natCast_mul]
  generalize lowN D a = p at *
  generalize lowN S b = q at *
  generalize (lowD D a : Int) = c at *
  generalize (lowD S b : Int) = e at *
  generalize (D : Int) = m at *
  generalize (S : Int) = s at *
  calc (p * e + -q * c) * (m * s) = (p * m) * (e * s) - (q * s) * (c * m) := by grind
    _ = (a * c) * (e * s) - (b * e) * (c * m) := by rw [h1, h2]
    _ = (a * s - b * m) * (c * e) := by grind
theorem low_quot {D S Z : Nat} (hD : 0 < D) (hS : 0 < S) (hZ : 0 < Z) (x : Int) {m : Nat} (hm : lowN S (Z : Int) = (m : Int)) : (lowN (D * S) x * (lowD S (Z : Int) : Int)).tdiv ((Nat.gcd (lowN (D * S) x * (lowD S (Z : Int) : Int)).natAbs (lowD (D * S) x * m) : Nat) : Int) = lowN (D * Z) x ∧ lowD (D * S) x * m / Nat.gcd (lowN (D * S) x * (lowD S (Z : Int) : Int)).natAbs (lowD (D * S) x * m) = lowD (D * Z) x := by
  have h1 := low_cross (Nat.mul_pos hD hS) x
  have h2 := low_cross hS (Z : Int)
  rw [hm] at h2
  have hm0 : 0 < m := by
    rcases Nat.eq_zero_or_pos m with h0 | h0
    · rw [h0] at h2
      have h3 := lowD_pos hS (Z : Int)
      have h4 : (0 : Int) < (Z : Int) * (lowD S (Z : Int) : Int) := Int.mul_pos (by omega) (by omega)
      rw [← h2] at h4
      simp at h4
    · exact h0
  refine low_same (Nat.mul_pos hD hZ) (Nat.mul_pos (lowD_pos (Nat.mul_pos hD hS) x) hm0) ?_
  have hs0 : (S : Int) ≠ 0 := by omega
  rw [Int.natCast_mul] at h1 ⊢
  rw [Int.natCast_mul]
  generalize lowN (D * S) x = p at *
  generalize (lowD (D * S) x : Int) = c at *
  generalize (lowD S (Z : Int) : Int) = e at *
  generalize (D : Int) = d at *
  generalize (S : Int) = s at *
  generalize (Z : Int) = y at *
  generalize (m : Int) = q at *
  refine Int.eq_of_mul_eq_mul_right hs0 ?_
  calc p * e * (d * y) * s = (p * (d * s)) * (e * y) := by grind
    _ = (x * c) * (y * e) := by rw [h1]; grind
    _ = (x * c) * (q * s) := by rw [h2]
    _ = x * (c * q) * s := by grind
/-- Which of two is the less, by their parts. -/
theorem low_order {D S : Nat} (hD : 0 < D) (hS : 0 < S) (a b : Int) : lowN D a * (lowD S b : Int) - lowN S b * (lowD D a : Int) < 0 ↔ a * S < b * D := by
  have h1 := low_cross hD a
  have h2 := low_cross hS b
  have h3 := lowD_pos hD a
  have h4 := lowD_pos hS b
  generalize lowN D a = p at *
  generalize lowN S b = q at *
  generalize lowD D a = c at *
  generalize lowD S b = e at *
  have e1 : (p * (e : Int) - q * (c : Int)) * ((D : Int) * (S : Int)) = (a * (S : Int) - b * (D : Int)) * ((c : Int) * (e : Int)) := by
    calc (p * (e : Int) - q * (c : Int)) * ((D : Int) * (S : Int)) = (p * (D : Int)) * ((e : Int) * (S : Int)) - (q * (S : Int)) * ((c : Int) * (D : Int)) := by grind
      _ = (a * (c : Int)) * ((e : Int) * (S : Int)) - (b * (e : Int)) * ((c : Int) * (D : Int)) := by rw [h1, h2]
      _ = _ := by grind
  have hDS : (0 : Int) < (D : Int) * (S : Int) := Int.mul_pos (by omega) (by omega)
  have hce : (0 : Int) < (c : Int) * (e : Int) := Int.mul_pos (by omega) (by omega)
  constructor
  · intro h
    refine Classical.byContradiction fun hn => ?_
    have h5 : (p * (e : Int) - q * (c : Int)) * ((D : Int) * (S : Int)) < 0 := Int.mul_neg_of_neg_of_pos h hDS
    have h6 : 0 ≤ (a * (S : Int) - b * (D : Int)) * ((c : Int) * (e : Int)) := Int.mul_nonneg (by omega) (by omega)
    omega
  · intro h
    refine Classical.byContradiction fun hn => ?_
    have h5 : 0 ≤ (p * (e : Int) - q * (c : Int)) * ((D : Int) * (S : Int)) := Int.mul_nonneg (by omega) (by omega)
    have h6 : (a * (S : Int) - b * (D : Int)) * ((c : Int) * (e : Int)) < 0 := Int.mul_neg_of_neg_of_pos (by omega) hce
    omega
end Go.Proofs.YtncgpldfenkiiaaGreatDoor
