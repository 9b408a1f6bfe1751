/- Fractions of the document by their value: sums, differences, products, whatever the numbers that say it. -/
import Derived.Test.YtklhfagcembigaaDoorIvD
import Derived.Test.YtklhfagcembigaaDoorMinus
import Derived.Test.YtklhfagcembigaaDoorRCmp
import Derived.Test.YtklhfagcembigaaDoorIsBits
namespace Go.Proofs.YtklhfagcembigaaDoor
open Go.RowKit

/-- A fraction z over M, in its lowest terms. -/
def LR (w : World) (v : Value) (M : Nat) (z : Int) : Prop := RatioAt w v (lowN M z) (lowD M z)
theorem LR.later {w w' : World} {v : Value} {M : Nat} {z : Int} (h : LR w v M z) (hb : Below w.heap.size w w') : LR w' v M z := RatioAt.later h hb
theorem LR.same {w : World} {v : Value} {M d : Nat} {z n : Int} (h : LR w v d n) (hM : 0 < M) (hd : 0 < d) (he : n * (M : Int) = z * (d : Int)) : LR w v M z := by
  have h1 := low_same hM hd he
  unfold LR lowN lowD lowG at h
  rw [h1.1, h1.2] at h
  exact h
/-- What is small enough to be reckoned with. -/
def Sml (M : Nat) (z : Int) : Prop := 0 < M ∧ M < 1000000 ^ 60 ∧ z.natAbs < 1000000 ^ 60
theorem cancel_mul {a b c : Int} (h : c ≠ 0) (e : a * c = b * c) : a = b := Int.eq_of_mul_eq_mul_right h e
theorem RPlus_to (u v : Value) (M1 M2 M : Nat) (z1 z2 z : Int) (w : World) (hu : LR w u M1 z1) (hv : LR w v M2 z2) (h1 : Sml M1 z1) (h2 : Sml M2 z2) (hM : 0 < M) (he : (z1 * (M2 : Int) + z2 * (M1 : Int)) * (M : Int) = z * ((M1 : Int) * (M2 : Int))) :
    Calls Tryd.prog 16 #[u, v] w fun e w' => ∃ r, e = .returned r ∧ LR w' r M z ∧ Below w.heap.size w w' := by
  refine (Plus_ratio u v _ _ _ _ 60 w hu hv (lowD_pos h1.1 _) (lowD_pos h2.1 _) (Nat.lt_of_le_of_lt (lowN_le h1.1 _) h1.2.2) (Nat.lt_of_le_of_lt (lowN_le h2.1 _) h2.2.2) (Nat.lt_of_le_of_lt (lowD_le _ _) h1.2.1) (Nat.lt_of_le_of_lt (lowD_le _ _) h2.2.1) (by decide)).mono ?_
  rintro e w' ⟨r, rfl, hr, hb⟩
  refine ⟨r, rfl, LR.same (d := lowD M1 z1 * lowD M2 z2) (n := lowN M1 z1 * lowD M2 z2 + lowN M2 z2 * lowD M1 z1) hr hM (Nat.mul_pos (lowD_pos h1.1 _) (lowD_pos h2.1 _)) ?_, hb⟩
  have c1 := low_cross h1.1 z1
  have c2 := low_cross h2.1 z2
  have m1 : (M1 : Int) * (M2 : Int) ≠ 0 := Int.mul_ne_zero (by have := h1.1; omega) (by have := h2.1; omega)
  rw [Int.natCast_mul]
  generalize lowN M1 z1 = a1 at *
  generalize lowN M2 z2 = a2 at *
  generalize (lowD M1 z1 : Int) = b1 at *
  generalize (lowD M2 z2 : Int) = b2 at *
  generalize (M1 : Int) = N1 at *
  generalize (M2 : Int) = N2 at *
  generalize (M : Int) = N at *
  refine cancel_mul m1 ?_
  calc (a1 * b2 + a2 * b1) * N * (N1 * N2) = ((a1 * N1) * b2 * N2 + (a2 * N2) * b1 * N1) * N := by grind
    _ = ((z1 * b1) * b2 * N2 + (z2 * b2) * b1 * N1) * N := by rw [c1, c2]
    _ = (z1 * N2 + z2 * N1) * N * (b1 * b2) := by grind
    _ = z * (N1 * N2) * (b1 * b2) := by rw [he]
    _ = z * (b1 * b2) * (N1 * N2) := by grind
theorem RatioOf_to (n : Int) (d M : Nat) (z : Int) (w : World) (h0 : -4611686018427387904 ≤ n) (h1 : n ≤ 4611686018427387904) (hd : 0 < d) (hd1 : d ≤ 4611686018427387904) (hM : 0 < M) (he : n * (M : Int) = z * (d : Int)) :
    Calls Tryd.prog 15 #[.int .i64 n, .int .i64 d] w fun e w' => ∃ r, e = .returned r ∧ LR w' r M z ∧ Below w.heap.size w w' := by
  refine (RatioOf_any n d w h0 h1 hd hd1).mono ?_
  rintro e w' ⟨r, rfl, hr, hb⟩
  exact ⟨r, rfl, LR.same (d := d) (n := n) hr hM hd he, hb⟩
/-- A variable that holds such a fraction. -/
def LB (w : World) (b : Nat) (M : Nat) (z : Int) : Prop := ∃ s x l c x' l' c', RBox w b s x l c x' l' c' (lowN M z) (lowD M z)
theorem LB.later {w w' : World} {b M : Nat} {z : Int} (h : LB w b M z) (hb : Below w.heap.size w w') : LB w' b M z := by
  obtain ⟨s, x, l, c, x', l', c', h⟩ := h
  exact ⟨s, x, l, c, x', l', c', h.later hb⟩
theorem LR.sl {w : World} {v : Value} {M : Nat} {z : Int} (h : LR w v M z) : ∃ s ad l cap ad' l' cap', v = .agg #[.bool s, .slice ad l cap, .slice ad' l' cap'] := RatioAt.sl h

end Go.Proofs.YtklhfagcembigaaDoor
