/- The document's Cmp of two fractions, by what they say. -/
import Derived.Test.YtiegobkbinojeaaDoorIsRat
namespace Go.Proofs.YtiegobkbinojeaaDoor
open Go.RowKit

/-- The sign of a difference of two fractions. -/
theorem sgn_sameR {x y p q : Int} (hp : 0 < p) (hq : 0 < q) (h : x * p = y * q) : sgnZ x = sgnZ y := by
  unfold sgnZ
  rcases Int.lt_trichotomy x 0 with h1 | h1 | h1
  · have h2 : x * p < 0 := Int.mul_neg_of_neg_of_pos h1 hp
    rw [h] at h2
    have h3 : y < 0 := by
      rcases Int.lt_or_le y 0 with h4 | h4
      · exact h4
      · have := Int.mul_nonneg h4 (Int.le_of_lt hq); omega
    rw [if_neg (by omega), if_pos h1, if_neg (by omega), if_pos h3]
  · subst h1
    rw [Int.zero_mul] at h
    have h3 : y = 0 := by
      rcases Int.mul_eq_zero.1 h.symm with h4 | h4
      · exact h4
      · omega
    rw [if_pos rfl, if_pos h3]
  · have h2 : 0 < x * p := Int.mul_pos h1 hp
    rw [h] at h2
    have h3 : 0 < y := by
      rcases Int.lt_or_le 0 y with h4 | h4
      · exact h4
      · have := Int.mul_nonneg (show 0 ≤ -y by omega) (Int.le_of_lt hq); rw [Int.neg_mul] at this; omega
    rw [if_neg (by omega), if_neg (by omega), if_neg (by omega), if_neg (by omega)]
theorem RCmp_toR (u v : Value) (M1 M2 : Nat) (z1 z2 : Int) (w : World) (hu : LR w u M1 z1) (hv : LR w v M2 z2) (h1 : Sml M1 z1) (h2 : Sml M2 z2) :
    Calls Tryd.prog 24 #[u, v] w fun e w' => e = .returned (.int .i64 (sgnZ (z1 * (M2 : Int) - z2 * (M1 : Int)))) ∧ Below w.heap.size w w' := by
  have h9 := RCmp_any u v _ _ _ _ 60 w hu hv (Nat.lt_of_le_of_lt (lowN_le h1.1 _) h1.2.2) (Nat.lt_of_le_of_lt (lowN_le h2.1 _) h2.2.2) (Nat.lt_of_le_of_lt (lowD_le _ _) h1.2.1) (Nat.lt_of_le_of_lt (lowD_le _ _) h2.2.1) (by decide)
  have c1 := low_cross h1.1 z1
  have c2 := low_cross h2.1 z2
  have p1 := lowD_pos h1.1 z1
  have p2 := lowD_pos h2.1 z2
  have m1 := h1.1
  have m2 := h2.1
  have hs : sgnZ (lowN M1 z1 * (lowD M2 z2 : Int) - lowN M2 z2 * (lowD M1 z1 : Int)) = sgnZ (z1 * (M2 : Int) - z2 * (M1 : Int)) := by
    refine sgn_sameR (p := (M1 : Int) * (M2 : Int)) (q := (lowD M1 z1 : Int) * (lowD M2 z2 : Int)) (Int.mul_pos (by omega) (by omega)) (Int.mul_pos (by omega) (by omega)) ?_
    generalize lowN M1 z1 = a1 at *
    generalize lowN M2 z2 = a2 at *
    generalize (lowD M1 z1 : Int) = b1 at *
    generalize (lowD M2 z2 : Int) = b2 at *
    generalize (M1 : Int) = N1 at *
    generalize (M2 : Int) = N2 at *
    calc (a1 * b2 - a2 * b1) * (N1 * N2) = (a1 * N1) * b2 * N2 - (a2 * N2) * b1 * N1 := by grind
      _ = (z1 * b1) * b2 * N2 - (z2 * b2) * b1 * N1 := by rw [c1, c2]
      _ = (z1 * N2 - z2 * N1) * (b1 * b2) := by grind
  rw [hs] at h9
  exact h9
theorem sgnZ_posR (z : Int) : 0 < sgnZ z ↔ 0 < z := by
  unfold sgnZ
  split
  · omega
  · split <;> omega
end Go.Proofs.YtiegobkbinojeaaDoor
