/- Fractions of the document by their value: sums, differences, products, whatever the numbers that say it. -/
import Derived.Test.YtiegobkbinojeaaDoorIvD
import Derived.Test.YtiegobkbinojeaaDoorMinus
import Derived.Test.YtiegobkbinojeaaDoorRCmp
import Derived.Test.YtiegobkbinojeaaDoorIsBits
namespace Go.Proofs.YtiegobkbinojeaaDoor
open Go.RowKit

/-- A fraction z over M, in its lowest terms. -/
def LR (w : World) (v : Value) (M : Nat) (z : Int) : Prop := RatioAt w v (lowN M z) (lowD M z)
theorem LR.later {w w' : World} {v : Value} {M : Nat} {z : Int} (h : LR w v M z) (hb : Below w.heap.size w w') : LR w' v M z := RatioAt.later h hb
theorem LR.same {w : World} {v : Value} {M d : Nat} {z n : Int} (h : LR w v d n) (hM : 0 < M) (hd : 0 < d) (he : n * (M : Int) = z * (d : Int)) : LR w v M z := by
  have h1 := low_same hM hd he
  unfold LR lowN lowD lowG at h
  rw [h1.1, h1.2] at h
  exact h
/-- What is small enough to be reckoned with. -/
def Sml (M : Nat) (z : Int) : Prop := 0 < M ∧ M < 1000000 ^ 60 ∧ z.natAbs < 1000000 ^ 60
theorem cancel_mul {a b c : Int} (h : c ≠ 0) (e : a * c = b * c) : a = b := Int.eq_of_mul_eq_mul_right h e
theorem RTimes_to (u v : Value) (M1 M2 M : Nat) (z1 z2 z : Int) (w : World) (hu : LR w u M1 z1) (hv : LR w v M2 z2) (h1 : Sml M1 z1) (h2 : Sml M2 z2) (hM : 0 < M) (he : z1 * z2 * (M : Int) = z * ((M1 : Int) * (M2 : Int))) :
    Calls Tryd.prog 21 #[u, v] w fun e w' => ∃ r, e = .returned r ∧ LR w' r M z ∧ Below w.heap.size w w' := by
  refine (Times_ratio u v _ _ _ _ 60 w hu hv (lowD_pos h1.1 _) (lowD_pos h2.1 _) (Nat.lt_of_le_of_lt (lowN_le h1.1 _) h1.2.2) (Nat.lt_of_le_of_lt (lowN_le h2.1 _) h2.2.2) (Nat.lt_of_le_of_lt (lowD_le _ _) h1.2.1) (Nat.lt_of_le_of_lt (lowD_le _ _) h2.2.1) (by decide)).mono ?_
  rintro e w' ⟨r, rfl, hr, hb⟩
  refine ⟨r, rfl, LR.same (d := lowD M1 z1 * lowD M2 z2) (n := lowN M1 z1 * lowN M2 z2) hr hM (Nat.mul_pos (lowD_pos h1.1 _) (lowD_pos h2.1 _)) ?_, hb⟩
  have c1 := low_cross h1.1 z1
  have c2 := low_cross h2.1 z2
  have m1 : (M1 : Int) * (M2 : Int) ≠ 0 := Int.mul_ne_zero (by have := h1.1; omega) (by have := h2.1; omega)
  rw [Int.natCast_mul]
  generalize lowN M1 z1 = a1 at *
  generalize lowN M2 z2 = a2 at *
  generalize (lowD M1 z1 : Int) = b1 at *
  generalize (lowD M2 z2 : Int) = b2 at *
  generalize (M1 : Int) = N1 at *
  generalize (M2 : Int) = N2 at *
  generalize (M : Int) = N at *
  refine cancel_mul m1 ?_
  calc a1 * a2 * N * (N1 * N2) = (a1 * N1) * (a2 * N2) * N := by grind
    _ = (z1 * b1) * (z2 * b2) * N := by rw [c1, c2]
    _ = z1 * z2 * N * (b1 * b2) := by grind
    _ = z * (N1 * N2) * (b1 * b2) := by rw [he]
    _ = z * (b1 * b2) * (N1 * N2) := by grind
theorem RPlus_to (u v : Value) (M1 M2 M : Nat) (z1 z2 z : Int) (w : World) (hu : LR w u M1 z1) (hv : LR w v M2 z2) (h1 : Sml M1 z1) (h2 : Sml M2 z2) (hM : 0 < M) (he : (z1 * (M2 : Int) + z2 * (M1 : Int)) * (M : Int) = z * ((M1 : Int) * (M2 : Int))) :
    Calls Tryd.prog 39 #[u, v] w fun e w' => ∃ r, e = .returned r ∧ LR w' r M z ∧ Below w.heap.size w w' := by
  refine (Plus_ratio u v _ _ _ _ 60 w hu hv (lowD_pos h1.1 _) (lowD_pos h2.1 _) (Nat.lt_of_le_of_lt (lowN_le h1.1 _) h1.2.2) (Nat.lt_of_le_of_lt (lowN_le h2.1 _) h2.2.2) (Nat.lt_of_le_of_lt (lowD_le _ _) h1.2.1) (Nat.lt_of_le_of_lt (lowD_le _ _) h2.2.1) (by decide)).mono ?_
  rintro e w' ⟨r, rfl, hr, hb⟩
  refine ⟨r, rfl, LR.same (d := lowD M1 z1 * lowD M2 z2) (n := lowN M1 z1 * lowD M2 z2 + lowN M2 z2 * lowD M1 z1) hr hM (Nat.mul_pos (lowD_pos h1.1 _) (lowD_pos h2.1 _)) ?_, hb⟩
  have c1 := low_cross h1.1 z1
  have c2 := low_cross h2.1 z2
  have m1 : (M1 : Int) * (M2 : Int) ≠ 0 := Int.mul_ne_zero (by have := h1.1; omega) (by have := h2.1; omega)
  rw [Int.natCast_mul]
  generalize lowN M1 z1 = a1 at *
  generalize lowN M2 z2 = a2 at *
  generalize (lowD M1 z1 : Int) = b1 at *
  generalize (lowD M2 z2 : Int) = b2 at *
  generalize (M1 : Int) = N1 at *
  generalize (M2 : Int) = N2 at *
  generalize (M : Int) = N at *
  refine cancel_mul m1 ?_
  calc (a1 * b2 + a2 * b1) * N * (N1 * N2) = ((a1 * N1) * b2 * N2 + (a2 * N2) * b1 * N1) * N := by grind
    _ = ((z1 * b1) * b2 * N2 + (z2 * b2) * b1 * N1) * N := by rw [c1, c2]
    _ = (z1 * N2 + z2 * N1) * N * (b1 * b2) := by grind
    _ = z * (N1 * N2) * (b1 * b2) := by rw [he]
    _ = z * (b1 * b2) * (N1 * N2) := by grind
theorem RMinus_to (u v : Value) (M1 M2 M : Nat) (z1 z2 z : Int) (w : World) (hu : LR w u M1 z1) (hv : LR w v M2 z2) (h1 : Sml M1 z1) (h2 : Sml M2 z2) (hM : 0 < M) (he : (z1 * (M2 : Int) + -z2 * (M1 : Int)) * (M : Int) = z * ((M1 : Int) * (M2 : Int))) :
    Calls Tryd.prog 37 #[u, v] w fun e w' => ∃ r, e = .returned r ∧ LR w' r M z ∧ Below w.heap.size w w' := by
  refine (Minus_ratio u v _ _ _ _ 60 w hu hv (lowD_pos h1.1 _) (lowD_pos h2.1 _) (Nat.lt_of_le_of_lt (lowN_le h1.1 _) h1.2.2) (Nat.lt_of_le_of_lt (lowN_le h2.1 _) h2.2.2) (Nat.lt_of_le_of_lt (lowD_le _ _) h1.2.1) (Nat.lt_of_le_of_lt (lowD_le _ _) h2.2.1) (by decide)).mono ?_
  rintro e w' ⟨r, rfl, hr, hb⟩
  refine ⟨r, rfl, LR.same (d := lowD M1 z1 * lowD M2 z2) (n := lowN M1 z1 * lowD M2 z2 + -lowN M2 z2 * lowD M1 z1) hr hM (Nat.mul_pos (lowD_pos h1.1 _) (lowD_pos h2.1 _)) ?_, hb⟩
  have c1 := low_cross h1.1 z1
  have c2 := low_cross h2.1 z2
  have m1 : (M1 : Int) * (M2 : Int) ≠ 0 := Int.mul_ne_zero (by have := h1.1; omega) (by have := h2.1; omega)
  rw [Int.natCast_mul]
  generalize lowN M1 z1 = a1 at *
  generalize lowN M2 z2 = a2 at *
  generalize (lowD M1 z1 : Int) = b1 at *
  generalize (lowD M2 z2 : Int) = b2 at *
  generalize (M1 : Int) = N1 at *
  generalize (M2 : Int) = N2 at *
  generalize (M : Int) = N at *
  refine cancel_mul m1 ?_
  calc (a1 * b2 + -a2 * b1) * N * (N1 * N2) = ((a1 * N1) * b2 * N2 - (a2 * N2) * b1 * N1) * N := by grind
    _ = ((z1 * b1) * b2 * N2 - (z2 * b2) * b1 * N1) * N := by rw [c1, c2]
    _ = (z1 * N2 + -z2 * N1) * N * (b1 * b2) := by grind
    _ = z * (N1 * N2) * (b1 * b2) := by rw [he]
    _ = z * (b1 * b2) * (N1 * N2) := by grind
theorem RatioOf_to (n : Int) (d M : Nat) (z : Int) (w : World) (h0 : -4611686018427387904 ≤ n) (h1 : n ≤ 4611686018427387904) (hd : 0 < d) (hd1 : d ≤ 4611686018427387904) (hM : 0 < M) (he : n * (M : Int) = z * (d : Int)) :
    Calls Tryd.prog 22 #[.int .i64 n, .int .i64 d] w fun e w' => ∃ r, e = .returned r ∧ LR w' r M z ∧ Below w.heap.size w w' := by
  refine (RatioOf_any n d w h0 h1 hd hd1).mono ?_
  rintro e w' ⟨r, rfl, hr, hb⟩
  exact ⟨r, rfl, LR.same (d := d) (n := n) hr hM hd he, hb⟩
theorem RCmp_same (u v : Value) (M1 M2 : Nat) (z1 z2 : Int) (w : World) (hu : LR w u M1 z1) (hv : LR w v M2 z2) (h1 : Sml M1 z1) (h2 : Sml M2 z2) (he : z1 * (M2 : Int) = z2 * (M1 : Int)) :
    Calls Tryd.prog 24 #[u, v] w fun e w' => e = .returned (.int .i64 0) ∧ Below w.heap.size w w' := by
  have hv2 : LR w v M1 z1 := hv.same h1.1 h2.1 he.symm
  have h9 := RCmp_any u v _ _ _ _ 60 w hu hv2 (Nat.lt_of_le_of_lt (lowN_le h1.1 _) h1.2.2) (Nat.lt_of_le_of_lt (lowN_le h1.1 _) h1.2.2) (Nat.lt_of_le_of_lt (lowD_le _ _) h1.2.1) (Nat.lt_of_le_of_lt (lowD_le _ _) h1.2.1) (by decide)
  rw [Int.sub_self] at h9
  exact h9

/-- A variable that holds such a fraction. -/
def LB (w : World) (b : Nat) (M : Nat) (z : Int) : Prop := ∃ s x l c x' l' c', RBox w b s x l c x' l' c' (lowN M z) (lowD M z)
theorem LB.later {w w' : World} {b M : Nat} {z : Int} (h : LB w b M z) (hb : Below w.heap.size w w') : LB w' b M z := by
  obtain ⟨s, x, l, c, x', l', c', h⟩ := h
  exact ⟨s, x, l, c, x', l', c', h.later hb⟩
theorem LR.sl {w : World} {v : Value} {M : Nat} {z : Int} (h : LR w v M z) : ∃ s ad l cap ad' l' cap', v = .agg #[.bool s, .slice ad l cap, .slice ad' l' cap'] := RatioAt.sl h

set_option maxRecDepth 100000 in
set_option maxHeartbeats 4000000 in
theorem OfFrac_to (p : Int) (q : Nat) (M : Nat) (z : Int) (w : World) (hp0 : -4611686018427387904 ≤ p) (hp1 : p ≤ 4611686018427387904) (hq0 : 0 < q) (hq1 : q ≤ 4611686018427387904) (hM : 0 < M) (he : p * (M : Int) = z * (q : Int)) :
    Calls Tryd.prog 23 #[.agg #[.int .i64 p, .int .i64 (q : Int)]] w fun e w' => ∃ r, e = .returned r ∧ LR w' r M z ∧ Below w.heap.size w w' := by
  obtain ⟨W0, hW0⟩ : ∃ W0, W0 = (w.alloc (.cells #[.int .i64 p, .int .i64 (q : Int)] 43)).alloc (.cells #[.bool false, .slice none 0 0, .slice none 0 0] 50) := ⟨_, rfl⟩
  have hb0 : Below w.heap.size w W0 := by rw [hW0]; exact ((Below.refl _ _).alloc (Nat.le_refl _) _).alloc (by simp) _
  have hro := RatioOf_to p q M z W0 hp0 hp1 hq0 hq1 hM he
  have HR0 : Hid (∀ W, Below W0.heap.size W0 W → RBox W (w.heap.size + 1) false none 0 0 none 0 0 0 0) := fun W hb => by
    have h : RBox W0 (w.heap.size + 1) false none 0 0 none 0 0 0 0 := by
      have := RBox.fresh (w := w.alloc (.cells #[.int .i64 p, .int .i64 (q : Int)] 43)) (n := 0) (d := 0) (s := false) ⟨_, _, rfl, big_none _, big_none _⟩
      rw [World.size_alloc] at this
      rw [hW0]; exact this
    exact h.later hb
  have z0 : W0.cell? ⟨w.heap.size, 0, none⟩ = some (.int .i64 p) := by rw [hW0, World.cell?_alloc_lt _ _ ⟨w.heap.size, 0, none⟩ (by simp), World.cell?_alloc_at _ _ _ _ rfl]; rfl
  have z1 : W0.cell? ⟨w.heap.size, 1, none⟩ = some (.int .i64 (q : Int)) := by rw [hW0, World.cell?_alloc_lt _ _ ⟨w.heap.size, 1, none⟩ (by simp), World.cell?_alloc_at _ _ _ _ rfl]; rfl
  have HB0 := Hid.mk' hb0
  have HW0 := Hid.mk' hW0
  clear hb0 hW0 hq0 hp1 hq1 hp0 he
  go_enter Tryd.func23, Tryd.ntmps23
  go_upto_region 1 with fail
  rw [← HW0.out]
  go_wp2_with fail
  refine hro.mono ?_
  clear hro
  rintro e w1 ⟨r, rfl, hr, hb1⟩
  obtain ⟨s1, x1, l1, c1, x1', l1', c1', rfl⟩ := hr.sl
  have hR := HR0.out _ hb1
  have y0 := hR.c0
  have y1 := hR.c1
  have y2 := hR.c2
  have f0 := hR.fz 0 (by decide)
  have f1 := hR.fz 1 (by decide)
  have f2 := hR.fz 2 (by decide)
  obtain ⟨⟨g0, g1⟩, ⟨g2, g3⟩, g4⟩ := put_three' (.bool s1) (.slice x1 l1 c1) (.slice x1' l1' c1') y0 y1 y2
  have HP := Hid.mk' (hR.put hr)
  have HBF := Hid.mk' (below_chain HB0.out hb1)
  clear hR hr hb1
  unfold put3 at HP
  go_wp2_with fail
  refine bodyPost_ret (v := .agg #[.bool s1, .slice x1 l1 c1, .slice x1' l1' c1']) (by simp [results, Tryd.results23, go_sem, HP.out.c0, HP.out.c1, HP.out.c2]) rfl ⟨_, rfl, HP.out.rat, ?_⟩
  exact (((HBF.out.setCell (Nat.le_succ _) _).setCell (Nat.le_succ _) _).setCell (Nat.le_succ _) _)
end Go.Proofs.YtiegobkbinojeaaDoor
