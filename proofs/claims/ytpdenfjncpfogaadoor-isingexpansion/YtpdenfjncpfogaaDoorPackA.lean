/- The document's Plus. -/
import Derived.Test.YtpdenfjncpfogaaDoorRatioOps
import Derived.Deep.CutRange
import Derived.Test.YtpdenfjncpfogaaDoorWideMath
import Derived.Test.YtpdenfjncpfogaaDoorCutP
import Derived.Test.YtpdenfjncpfogaaDoorIsBits
import Derived.Test.YtpdenfjncpfogaaDoorInts
import Derived.Test.YtpdenfjncpfogaaDoorIsMath
namespace Go.Proofs.YtpdenfjncpfogaaDoor
open Go.RowKit

theorem new_below (w : World) (X : Obj) : Below w.heap.size w (w.alloc X) := (Below.refl _ _).alloc (Nat.le_refl _) _
theorem more_below {w W : World} (h : Below w.heap.size w W) (X : Obj) : Below w.heap.size w (W.alloc X) := h.alloc h.size X
theorem setB_below {W0 W : World} {B : Nat} (h : Below W0.heap.size W0 W) (hB : W0.heap.size ≤ B) (x y : Value) : Below W0.heap.size W0 ((W.setCell ⟨B, 0, none⟩ x).setCell ⟨B, 1, none⟩ y) := (h.setCell hB _).setCell hB _
/-- The box of a number with a sign, in the making. -/
structure NewBox (W0 W : World) (B : Nat) : Prop where
  c0 : W.cell? ⟨B, 0, none⟩ = some (.bool false)
  c1 : W.cell? ⟨B, 1, none⟩ = some (.slice none 0 0)
  f0 : W.frozen? ⟨B, 0, none⟩ = false
  f1 : W.frozen? ⟨B, 1, none⟩ = false
  no : NoInts W B
  hB : W0.heap.size ≤ B
theorem NewBox.later {W0 W W' : World} {B : Nat} (h : NewBox W0 W B) (hb : Below W.heap.size W W') : NewBox W0 W' B :=
  ⟨(cell_past h.c0 hb).2, (cell_past h.c1 hb).2, (frozen_past h.c0 h.f0 hb).2, (frozen_past h.c1 h.f1 hb).2, h.no.later (cell_lt h.c0) hb, h.hB⟩
theorem newBox_of {W0 W W' : World} (h : Below W0.heap.size W0 W) (hb : Below (W.alloc (.cells #[.bool false, .slice none 0 0] 29)).heap.size (W.alloc (.cells #[.bool false, .slice none 0 0] 29)) W') : NewBox W0 W' W.heap.size := by
  obtain ⟨c0, c1, f0, f1⟩ := res_past hb
  exact ⟨c0, c1, f0, f1, (noInts_new2 W false none 0 0 _).later (by simp) hb, h.size⟩
/-- The sum's box. -/
structure SignBox (W0 W : World) (B : Nat) (z : Int) : Prop where
  below : Below W0.heap.size W0 W
  box : ∃ u, W.cell? ⟨B, 0, none⟩ = some (.bool (decide (z < 0))) ∧ W.cell? ⟨B, 1, none⟩ = some u ∧ BigAt W u z.natAbs
  hB : W0.heap.size ≤ B
theorem signBox_late {W0 W : World} {z : Int} {ad : Option Addr} {l cap : Nat} (h : Below W0.heap.size W0 W) (hu : BigAt W (.slice ad l cap) z.natAbs) : SignBox W0 (W.alloc (.cells #[.bool (decide (z < 0)), .slice ad l cap] 29)) W.heap.size z :=
  ⟨more_below h _, ⟨.slice ad l cap, by rw [World.cell?_alloc_at _ _ _ _ rfl]; rfl, by rw [World.cell?_alloc_at _ _ _ _ rfl]; rfl, hu.later (new_below _ _)⟩, h.size⟩
theorem signBox_soon {W0 W : World} {B : Nat} {z : Int} {ad : Option Addr} {l cap : Nat} (h : Below W0.heap.size W0 W) (hu : BigAt W (.slice ad l cap) z.natAbs) (hn : NewBox W0 W B) : SignBox W0 ((W.setCell ⟨B, 0, none⟩ (.bool (decide (z < 0)))).setCell ⟨B, 1, none⟩ (.slice ad l cap)) B z :=
  ⟨setB_below h hn.hB _ _, ⟨.slice ad l cap, by rw [World.cell?_setCell_other _ _ _ _ (by simp)]; exact World.cell?_setCell_same _ _ _ hn.c0, World.cell?_setCell_same _ _ _ (by rw [World.cell?_setCell_other _ _ _ _ (by simp)]; exact hn.c1), hu.set2 hn.no hn.c0 hn.c1⟩, hn.hB⟩

set_option maxRecDepth 10000 in
set_option maxHeartbeats 4000000 in
/-- Plus: the sum, in its lowest terms. -/
theorem Plus_ratio (v1 v2 : Value) (n1 n2 : Int) (d1 d2 k : Nat) (w : World) (h1 : RatioAt w v1 n1 d1) (h2 : RatioAt w v2 n2 d2) (hd1 : 0 < d1) (hd2 : 0 < d2) (hn1 : n1.natAbs < 1000000 ^ k) (hn2 : n2.natAbs < 1000000 ^ k) (hk1 : d1 < 1000000 ^ k) (hk2 : d2 < 1000000 ^ k) (hk : k + k + 1 + 1 ≤ 1000000) :
    Calls Tryd.prog 21 #[v1, v2] w fun e w' => ∃ r, e = .returned r ∧ RatioAt w' r ((n1 * d2 + n2 * d1).tdiv ((Nat.gcd (n1 * d2 + n2 * d1).natAbs (d1 * d2) : Nat) : Int)) (d1 * d2 / Nat.gcd (n1 * d2 + n2 * d1).natAbs (d1 * d2)) ∧ Below w.heap.size w w' := by
  obtain ⟨u1, q1, rfl, hu1, hq1⟩ := h1
  obtain ⟨u2, q2, rfl, hu2, hq2⟩ := h2
  obtain ⟨ad1, l1, cap1, rfl, _⟩ := hu1.len
  obtain ⟨bd1, m1, bap1, rfl, _⟩ := hq1.len
  obtain ⟨ad2, l2, cap2, rfl, _⟩ := hu2.len
  obtain ⟨bd2, m2, bap2, rfl, _⟩ := hq2.len
  obtain ⟨s1, hs1⟩ : ∃ s, decide (n1 < 0) = s := ⟨_, rfl⟩
  obtain ⟨s2, hs2⟩ : ∃ s, decide (n2 < 0) = s := ⟨_, rfl⟩
  rw [hs1, hs2]
  have hB0 : Below w.heap.size w (((w.alloc (.cells #[.bool s1, .slice ad1 l1 cap1, .slice bd1 m1 bap1] 31)).alloc (.cells #[.bool s2, .slice ad2 l2 cap2, .slice bd2 m2 bap2] 31)).alloc (.cells #[.bool false, .slice none 0 0, .slice none 0 0] 31)) := (((Below.refl _ _).alloc (Nat.le_refl _) _).alloc (by simp) _).alloc (by simp; omega) _
  have hN := noInts_third3 w (.cells #[.bool s1, .slice ad1 l1 cap1, .slice bd1 m1 bap1] 31) (.cells #[.bool s2, .slice ad2 l2 cap2, .slice bd2 m2 bap2] 31) 31
  have hNP := fun (w1 : World) => nine_past (w := w) (w1 := w1) (x0 := .bool s1) (x1 := .slice ad1 l1 cap1) (x2 := .slice bd1 m1 bap1) (y0 := .bool s2) (y1 := .slice ad2 l2 cap2) (y2 := .slice bd2 m2 bap2) (r0 := .bool false) (r1 := .slice none 0 0) (r2 := .slice none 0 0) (t := 31)
  have hz0 : w.heap.size + 1 + 1 + 1 = (((w.alloc (.cells #[.bool s1, .slice ad1 l1 cap1, .slice bd1 m1 bap1] 31)).alloc (.cells #[.bool s2, .slice ad2 l2 cap2, .slice bd2 m2 bap2] 31)).alloc (.cells #[.bool false, .slice none 0 0, .slice none 0 0] 31)).heap.size := by simp
  generalize hW : (((w.alloc (.cells #[.bool s1, .slice ad1 l1 cap1, .slice bd1 m1 bap1] 31)).alloc (.cells #[.bool s2, .slice ad2 l2 cap2, .slice bd2 m2 bap2] 31)).alloc (.cells #[.bool false, .slice none 0 0, .slice none 0 0] 31)) = W0 at hB0 hN hNP hz0
  have hKS : ∀ W, Below W0.heap.size W0 W → (W.cell? ⟨w.heap.size, 0, none⟩ = some (.bool s1) ∧ W.cell? ⟨w.heap.size, 1, none⟩ = some (.slice ad1 l1 cap1) ∧ W.cell? ⟨w.heap.size, 2, none⟩ = some (.slice bd1 m1 bap1)) ∧ (W.cell? ⟨w.heap.size + 1, 0, none⟩ = some (.bool s2) ∧ W.cell? ⟨w.heap.size + 1, 1, none⟩ = some (.slice ad2 l2 cap2) ∧ W.cell? ⟨w.heap.size + 1, 2, none⟩ = some (.slice bd2 m2 bap2)) := fun W hb => by
    obtain ⟨a, b, _⟩ := hNP W hb
    exact ⟨a, b⟩
  have HS1 : Hid (∀ W, Below W0.heap.size W0 W → SignedAt W (.agg #[.bool s1, .slice ad1 l1 cap1]) n1) := fun W hb => ⟨_, by rw [hs1], (hu1.later hB0).later hb⟩
  have HS2 : Hid (∀ W, Below W0.heap.size W0 W → SignedAt W (.agg #[.bool s2, .slice ad2 l2 cap2]) n2) := fun W hb => ⟨_, by rw [hs2], (hu2.later hB0).later hb⟩
  have HD1 : Hid (∀ W, Below W0.heap.size W0 W → BigAt W (.slice bd1 m1 bap1) d1) := fun W hb => (hq1.later hB0).later hb
  have HD2 : Hid (∀ W, Below W0.heap.size W0 W → BigAt W (.slice bd2 m2 bap2) d2) := fun W hb => (hq2.later hB0).later hb
  have HKS := Hid.mk' hKS
  have HW := Hid.mk' hW
  have HNP := Hid.mk' hNP
  have HN := Hid.mk' hN
  have HB := Hid.mk' hB0
  have hm1 : (n1 * (d2 : Int)).natAbs < 1000000 ^ (k + k) := by rw [Int.natAbs_mul, Int.natAbs_natCast, Nat.pow_add]; exact Nat.mul_lt_mul'' hn1 hk2
  have hm2 : (n2 * (d1 : Int)).natAbs < 1000000 ^ (k + k) := by rw [Int.natAbs_mul, Int.natAbs_natCast, Nat.pow_add]; exact Nat.mul_lt_mul'' hn2 hk1
  have hsm : (n1 * (d2 : Int) + n2 * (d1 : Int)).natAbs < 1000000 ^ (k + k + 1) := by
    have h3 := Int.natAbs_add_le (n1 * (d2 : Int)) (n2 * (d1 : Int))
    have h4 : 1000000 ^ (k + k) * 2 ≤ 1000000 ^ (k + k + 1) := by rw [Nat.pow_succ]; exact Nat.mul_le_mul_left _ (by decide)
    omega
  have hdd : d1 * d2 < 1000000 ^ (k + k + 1) := Nat.lt_trans (by rw [Nat.pow_add]; exact Nat.mul_lt_mul'' hk1 hk2) (Nat.pow_lt_pow_right (by decide) (by omega))
  have HM := Hid.mk' (And.intro hm1 (And.intro hm2 (And.intro hsm hdd)))
  have HBD : Hid (n1.natAbs < 1000000 ^ k ∧ (d2 : Int).natAbs < 1000000 ^ k ∧ n2.natAbs < 1000000 ^ k ∧ (d1 : Int).natAbs < 1000000 ^ k) := ⟨hn1, by rw [Int.natAbs_natCast]; exact hk2, hn2, by rw [Int.natAbs_natCast]; exact hk1⟩
  have HDK := Hid.mk' (And.intro hk1 hk2)
  have hcur0 : Below W0.heap.size W0 W0 := Below.refl _ _
  have hcur : Below W0.heap.size W0 W0.drew := (Below.refl _ _).drew
  have hcurA : ∀ X, Below W0.heap.size W0 (W0.alloc X).drew := fun X => (new_below _ _).drew
  have hdn1 : ¬ (d1 : Int) < 0 := by omega
  have hdn2 : ¬ (d2 : Int) < 0 := by omega
  have HDE : Hid (decide ((d1 : Int) < 0) = false ∧ decide ((d2 : Int) < 0) = false) := ⟨decide_eq_false hdn1, decide_eq_false hdn2⟩
  clear hs1 hs2 hu1 hu2 hq1 hq2 hB0 hN hNP hW hKS hn1 hn2 hk1 hk2 hm1 hm2 hsm hdd hdn1 hdn2
  generalize hz : n1 * (d2 : Int) + n2 * (d1 : Int) = z at HM ⊢
  have HZ := Hid.mk' hz
  clear hz
  go_enter Tryd.func21, Tryd.ntmps21
  go_wp2_with fail
  rw [HW.out]
  go_cut [5] from 6 (fun s wx => ∃ Bs : Nat, s = .pointer (some ⟨Bs, 0, none⟩) ∧ Hid (SignBox W0 wx Bs z))
  case first =>
    go_region_held3 (fun W => (W.cell? ⟨w.heap.size, 0, none⟩ = some (.bool s1) ∧ W.cell? ⟨w.heap.size, 1, none⟩ = some (.slice ad1 l1 cap1) ∧ W.cell? ⟨w.heap.size, 2, none⟩ = some (.slice bd1 m1 bap1)) ∧ (W.cell? ⟨w.heap.size + 1, 0, none⟩ = some (.bool s2) ∧ W.cell? ⟨w.heap.size + 1, 1, none⟩ = some (.slice ad2 l2 cap2) ∧ W.cell? ⟨w.heap.size + 1, 2, none⟩ = some (.slice bd2 m2 bap2)))
      (first | exact HKS.out _ hcur0 | exact HKS.out _ hcur | exact HKS.out _ (hcurA _) | (refine HKS.out _ ?_; assumption) | (refine HKS.out _ (more_below ?_ _); assumption) | (refine HKS.out _ (setB_below ?_ NB.hB _ _); assumption))
      (first
        | (go_at_call 42; refine (SignedAdd_any _ _ (n1 * (d2 : Int)) (n2 * (d1 : Int)) (k + k) _ (HX2.out _ ?_) (HX4.out _ ?_) HM.out.1 HM.out.2.1 (by omega)).mono ?_; (first | exact h24 | exact more_below h24 _); (first | exact Below.refl _ _ | exact new_below _ _); rintro e w5 ⟨sv5, rfl, ⟨x5, rfl, hx5⟩, hb5⟩; rw [HZ.out] at hx5 ⊢; obtain ⟨ad7, l7, cap7, rfl, _⟩ := hx5.len; (first | (have hbw5 := below_chain hbw4 hb5; try have NB := NB.later hb5) | (have hbw5 := below_chain (more_below hbw4 _) hb5; have NB := newBox_of hbw4 hb5)); (try (have y0 := NB.c0; have y1 := NB.c1; have y2 := NB.f0; have y3 := NB.f1)); have HX5 := Hid.mk' hx5; clear hx5 hb5)
        | (go_at_call 27; refine (SignedMul_any _ _ n2 (d1 : Int) k _ (HS2.out _ ?_) (HX3.out _ ?_) HBD.out.2.2.1 HBD.out.2.2.2 (by omega)).mono ?_; (first | exact hbw3 | exact more_below hbw3 _); (first | exact Below.refl _ _ | exact new_below _ _); rintro e w4 ⟨sv4, rfl, ⟨x4, rfl, hx4⟩, hb4⟩; obtain ⟨sg4, hsg4⟩ : ∃ sg, decide (n2 * (d1 : Int) < 0) = sg := ⟨_, rfl⟩; rw [hsg4]; obtain ⟨ad6, l6, cap6, rfl, _⟩ := hx4.len; (first | (have hbw4 := below_chain hbw3 hb4; have h24 := below_chain h23 hb4; try have NB := NB.later hb4) | (have hbw4 := below_chain (more_below hbw3 _) hb4; have h24 := below_chain (more_below h23 _) hb4; have NB := newBox_of hbw3 hb4)); have HX4 : Hid (∀ W, Below w4.heap.size w4 W → SignedAt W (.agg #[.bool sg4, .slice ad6 l6 cap6]) (n2 * (d1 : Int))) := (fun W hb => ⟨_, by rw [hsg4], hx4.later hb⟩); clear hx4 hb4 hsg4)
        | (go_at_call 28; refine (wide_any (.slice bd1 m1 bap1) d1 _ (HD1.out _ ?_)).mono ?_; (first | exact hbw2 | exact more_below hbw2 _); rintro e w3 ⟨sv3, rfl, ⟨x3, rfl, hx3⟩, hb3⟩; rw [HDE.out.1]; obtain ⟨ad5, l5, cap5, rfl, _⟩ := hx3.len; (first | (have hbw3 := below_chain hbw2 hb3; have h23 := below_chain (Below.refl _ w2) hb3; try have NB := NB.later hb3) | (have hbw3 := below_chain (more_below hbw2 _) hb3; have h23 := below_chain (new_below w2 _) hb3; have NB := newBox_of hbw2 hb3)); have HX3 : Hid (∀ W, Below w3.heap.size w3 W → SignedAt W (.agg #[.bool false, .slice ad5 l5 cap5]) (d1 : Int)) := (fun W hb => ⟨_, by rw [HDE.out.1], hx3.later hb⟩); clear hx3 hb3)
        | (go_at_call 27; refine (SignedMul_any _ _ n1 (d2 : Int) k _ (HS1.out _ ?_) (HX1.out _ ?_) HBD.out.1 HBD.out.2.1 (by omega)).mono ?_; (first | exact hbw1 | exact more_below hbw1 _); (first | exact Below.refl _ _ | exact new_below _ _); rintro e w2 ⟨sv2, rfl, ⟨x2, rfl, hx2⟩, hb2⟩; obtain ⟨sg2, hsg2⟩ : ∃ sg, decide (n1 * (d2 : Int) < 0) = sg := ⟨_, rfl⟩; rw [hsg2]; obtain ⟨ad4, l4, cap4, rfl, _⟩ := hx2.len; (first | (have hbw2 := below_chain hbw1 hb2; try have NB := NB.later hb2) | (have hbw2 := below_chain (more_below hbw1 _) hb2; have NB := newBox_of hbw1 hb2)); have HX2 : Hid (∀ W, Below w2.heap.size w2 W → SignedAt W (.agg #[.bool sg2, .slice ad4 l4 cap4]) (n1 * (d2 : Int))) := (fun W hb => ⟨_, by rw [hsg2], hx2.later hb⟩); clear hx2 hb2 hsg2)
        | (go_at_call 28; refine (wide_any (.slice bd2 m2 bap2) d2 _ (HD2.out _ ?_)).mono ?_; (first | exact hcur | exact hcurA _); rintro e w1 ⟨sv1, rfl, ⟨x1, rfl, hx1⟩, hb1⟩; rw [HDE.out.2]; obtain ⟨ad3, l3, cap3, rfl, _⟩ := hx1.len; (first | have hbw1 := below_chain hcur hb1 | (have hbw1 := below_chain (hcurA _) hb1; have NB := newBox_of hcur0 (below_chain ((Below.refl _ _).drew) hb1))); have HX1 : Hid (∀ W, Below w1.heap.size w1 W → SignedAt W (.agg #[.bool false, .slice ad3 l3 cap3]) (d2 : Int)) := (fun W hb => ⟨_, by rw [HDE.out.2], hx1.later hb⟩); clear hx1 hb1))
    all_goals
      go_wp2_with fail
      go_meet
      first | exact ⟨_, rfl, signBox_late hbw5 HX5.out⟩ | exact ⟨_, rfl, signBox_soon hbw5 HX5.out NB⟩
  case rest =>
  obtain ⟨Bs, rfl, HSB⟩ := hcut
  obtain ⟨u, x0, x1, hu⟩ := HSB.out.box
  obtain ⟨ad, l, cap, rfl, _⟩ := hu.len
  obtain ⟨sg, hsg⟩ : ∃ sg, decide (z < 0) = sg := ⟨_, rfl⟩
  rw [hsg] at x0
  have hBs := HSB.out.hB
  have hSc : ∀ W, Below wc.heap.size wc W → W.cell? ⟨Bs, 0, none⟩ = some (.bool sg) ∧ W.cell? ⟨Bs, 1, none⟩ = some (.slice ad l cap) ∧ W.cell? ⟨w.heap.size, 2, none⟩ = some (.slice bd1 m1 bap1) ∧ W.cell? ⟨w.heap.size + 1, 2, none⟩ = some (.slice bd2 m2 bap2) := fun W hb => by
    have h1 := HKS.out _ (below_chain HSB.out.below hb)
    exact ⟨(cell_past x0 hb).2, (cell_past x1 hb).2, h1.1.2.2, h1.2.2.2⟩
  have HSC := Hid.mk' hSc
  have hmul := BigMul_any _ _ d1 d2 k wc.drew (HD1.out _ HSB.out.below.drew) (HD2.out _ HSB.out.below.drew) HDK.out.1 HDK.out.2 (by omega)
  have HMUL := Hid.mk' hmul
  have HU := Hid.mk' hu
  have HSG := Hid.mk' hsg
  have hc0 : Below wc.heap.size wc wc := Below.refl _ _
  have hc1 : Below wc.heap.size wc wc.drew := (Below.refl _ _).drew
  have HBC := Hid.mk' HSB.out.below
  have hsetS : ∀ (W : World) (x y q : Value), Below wc.heap.size wc W → Bs ≠ w.heap.size + 1 + 1 → (((W.setCell ⟨w.heap.size + 1 + 1, 0, none⟩ x).setCell ⟨w.heap.size + 1 + 1, 1, none⟩ y).setCell ⟨w.heap.size + 1 + 1, 2, none⟩ q).cell? ⟨Bs, 0, none⟩ = some (.bool sg) ∧ (((W.setCell ⟨w.heap.size + 1 + 1, 0, none⟩ x).setCell ⟨w.heap.size + 1 + 1, 1, none⟩ y).setCell ⟨w.heap.size + 1 + 1, 2, none⟩ q).cell? ⟨Bs, 1, none⟩ = some (.slice ad l cap) ∧ (((W.setCell ⟨w.heap.size + 1 + 1, 0, none⟩ x).setCell ⟨w.heap.size + 1 + 1, 1, none⟩ y).setCell ⟨w.heap.size + 1 + 1, 2, none⟩ q).cell? ⟨w.heap.size, 2, none⟩ = some (.slice bd1 m1 bap1) ∧ (((W.setCell ⟨w.heap.size + 1 + 1, 0, none⟩ x).setCell ⟨w.heap.size + 1 + 1, 1, none⟩ y).setCell ⟨w.heap.size + 1 + 1, 2, none⟩ q).cell? ⟨w.heap.size + 1, 2, none⟩ = some (.slice bd2 m2 bap2) := fun W x y q hb hne => by
    obtain ⟨e0, e1, e2, e3⟩ := HSC.out W hb
    refine ⟨?_, ?_, ?_, ?_⟩
    · rw [World.cell?_setCell_far _ _ _ _ (fun e => hne e.symm), World.cell?_setCell_far _ _ _ _ (fun e => hne e.symm), World.cell?_setCell_far _ _ _ _ (fun e => hne e.symm)]; exact e0
    · rw [World.cell?_setCell_far _ _ _ _ (fun e => hne e.symm), World.cell?_setCell_far _ _ _ _ (fun e => hne e.symm), World.cell?_setCell_far _ _ _ _ (fun e => hne e.symm)]; exact e1
    · rw [World.cell?_setCell_far _ _ _ _ (by show w.heap.size + 1 + 1 ≠ w.heap.size; omega), World.cell?_setCell_far _ _ _ _ (by show w.heap.size + 1 + 1 ≠ w.heap.size; omega), World.cell?_setCell_far _ _ _ _ (by show w.heap.size + 1 + 1 ≠ w.heap.size; omega)]; exact e2
    · rw [World.cell?_setCell_far _ _ _ _ (by show w.heap.size + 1 + 1 ≠ w.heap.size + 1; omega), World.cell?_setCell_far _ _ _ _ (by show w.heap.size + 1 + 1 ≠ w.heap.size + 1; omega), World.cell?_setCell_far _ _ _ _ (by show w.heap.size + 1 + 1 ≠ w.heap.size + 1; omega)]; exact e3
  have HSS := Hid.mk' hsetS
  have hne : Bs ≠ w.heap.size + 1 + 1 := by omega
  clear hu hsg hSc hmul hsetS x0 x1
  go_wp2_with fail
  go_region_held3 (fun W => W.cell? ⟨Bs, 0, none⟩ = some (.bool sg) ∧ W.cell? ⟨Bs, 1, none⟩ = some (.slice ad l cap) ∧ W.cell? ⟨w.heap.size, 2, none⟩ = some (.slice bd1 m1 bap1) ∧ W.cell? ⟨w.heap.size + 1, 2, none⟩ = some (.slice bd2 m2 bap2))
    (first | exact HSC.out _ hc0 | exact HSC.out _ hc1 | exact HSC.out _ hc2 | exact HSC.out _ hc3 | exact HSS.out _ _ _ _ hc3 hne)
    (first
      | (go_at_call 30; refine (Lowest_any _ z (d1 * d2) (k + k + 1) w6 HRA.out (Nat.mul_pos hd1 hd2) HM.out.2.2.1 HM.out.2.2.2 hk).mono ?_; rintro e w7 ⟨rv, rfl, ⟨ur, qr, rfl, hur, hqr⟩, hb7⟩; obtain ⟨ad8, l8, cap8, rfl, _⟩ := hur.len; obtain ⟨ad9, l9, cap9, rfl, _⟩ := hqr.len; have hc3 := below_chain hc2 hb7; have hbw7 := below_chain HBC.out hc3; obtain ⟨_, _, ⟨c0, c1, c2⟩, f0, f1, f2⟩ := HNP.out w7 hbw7; have HUR := Hid.mk' hur; have HQR := Hid.mk' hqr; have HBW7 := Hid.mk' hbw7; clear hur hqr hb7 hbw7)
      | (go_at_call 31; refine HMUL.out.mono ?_; rintro e w6 ⟨qv, rfl, hqv, hb6⟩; obtain ⟨bd6, m6, bap6, rfl, _⟩ := hqv.len; have hc2 := below_chain hc1 hb6; have HRA : Hid (RatioAt w6 (.agg #[.bool sg, .slice ad l cap, .slice bd6 m6 bap6]) z (d1 * d2)) := ⟨_, _, by rw [HSG.out], HU.out.later hc2, hqv⟩; clear hqv hb6))
  go_wp2_with fail
  refine bodyPost_ret (v := .agg #[.bool (decide (z.tdiv ((Nat.gcd z.natAbs (d1 * d2) : Nat) : Int) < 0)), .slice ad8 l8 cap8, .slice ad9 l9 cap9]) (by simp [results, Tryd.results21, go_sem, c0, c1, c2]) rfl ⟨_, rfl, ⟨_, _, rfl, HUR.out.set3 (HN.out.later (by omega) HBW7.out) c0 c1, HQR.out.set3 (HN.out.later (by omega) HBW7.out) c0 c1⟩, below_set3 (below_chain HB.out HBW7.out) (by omega) _ _ _⟩
end Go.Proofs.YtpdenfjncpfogaaDoor

/- The document's interval of a message. -/
namespace Go.Proofs.YtpdenfjncpfogaaDoor
open Go.RowKit

theorem RatioAt.sl {w : World} {v : Value} {n : Int} {d : Nat} (h : RatioAt w v n d) : ∃ s ad l cap ad' l' cap', v = .agg #[.bool s, .slice ad l cap, .slice ad' l' cap'] := by
  obtain ⟨u, q, rfl, h1, h2⟩ := h
  obtain ⟨ad, l, cap, rfl, _⟩ := h1.len
  obtain ⟨ad', l', cap', rfl, _⟩ := h2.len
  exact ⟨_, _, _, _, _, _, _, rfl⟩
theorem IntsAt.setA {w : World} {u y : Value} {l : List Nat} {p : Addr} {v : Value} (h : IntsAt w u l) (hc : w.cell? p = some v) (hv : ∀ x, v ≠ .int .i64 x) : IntsAt (w.setCell p y) u l := by
  rcases h with h | ⟨b, o, cap, h1, h2, h3, h4⟩
  · exact Or.inl h
  · refine Or.inr ⟨b, o, cap, h1, h2, h3, fun i hi => ?_⟩
    rw [World.cell?_setCell_other _ _ _ _ (fun e => ?_)]
    · exact h4 i hi
    · have := h4 i hi
      rw [← e, hc] at this
      exact hv _ (Option.some.inj this)
theorem BigAt.setA {w : World} {u y : Value} {n : Nat} {p : Addr} {v : Value} (h : BigAt w u n) (hc : w.cell? p = some v) (hv : ∀ x, v ≠ .int .i64 x) : BigAt (w.setCell p y) u n := by
  obtain ⟨l, h1, h2, h3, h4⟩ := h
  exact ⟨l, h1, h2, h3, h4.setA hc hv⟩
theorem RatioAt.setA {w : World} {u y : Value} {n : Int} {d : Nat} {p : Addr} {v : Value} (h : RatioAt w u n d) (hc : w.cell? p = some v) (hv : ∀ x, v ≠ .int .i64 x) : RatioAt (w.setCell p y) u n d := by
  obtain ⟨a, b, h1, h2, h3⟩ := h
  exact ⟨a, b, h1, h2.setA hc hv, h3.setA hc hv⟩
def put3 (w : World) (b : Nat) (x y z : Value) : World := ((w.setCell ⟨b, 0, none⟩ x).setCell ⟨b, 1, none⟩ y).setCell ⟨b, 2, none⟩ z
/-- A variable that holds a fraction of the document. -/
structure RBox (w : World) (b : Nat) (s : Bool) (x : Option Addr) (l c : Nat) (x' : Option Addr) (l' c' : Nat) (n : Int) (d : Nat) : Prop where
  c0 : w.cell? ⟨b, 0, none⟩ = some (.bool s)
  c1 : w.cell? ⟨b, 1, none⟩ = some (.slice x l c)
  c2 : w.cell? ⟨b, 2, none⟩ = some (.slice x' l' c')
  rat : RatioAt w (.agg #[.bool s, .slice x l c, .slice x' l' c']) n d
  fz : ∀ j, j < 3 → w.frozen? ⟨b, j, none⟩ = false
theorem RBox.later {w w' : World} {b : Nat} {s : Bool} {x : Option Addr} {l c : Nat} {x' : Option Addr} {l' c' : Nat} {n : Int} {d : Nat} (h : RBox w b s x l c x' l' c' n d) (hb : Below w.heap.size w w') : RBox w' b s x l c x' l' c' n d :=
  ⟨by rw [hb.cell (cell_lt h.c0)]; exact h.c0, by rw [hb.cell (cell_lt h.c1)]; exact h.c1, by rw [hb.cell (cell_lt h.c2)]; exact h.c2, h.rat.later hb, fun j hj => by rw [hb.frozen (show b < w.heap.size from cell_lt h.c0)]; exact h.fz j hj⟩
theorem RatioAt.put3 {w : World} {b : Nat} {s : Bool} {x : Option Addr} {l c : Nat} {x' : Option Addr} {l' c' : Nat} {n m : Int} {d e : Nat} {v : Value} (h : RBox w b s x l c x' l' c' n d) (hr : RatioAt w v m e) (y0 y1 y2 : Value) : RatioAt (put3 w b y0 y1 y2) v m e := by
  obtain ⟨⟨g0, g1⟩, _, _⟩ := put_three' y0 y1 y2 h.c0 h.c1 h.c2
  unfold Go.Proofs.YtpdenfjncpfogaaDoor.put3
  exact ((hr.setA h.c0 (by simp)).setA g0 (by simp)).setA g1 (by simp)
theorem RBox.put {w : World} {b : Nat} {s t : Bool} {x y : Option Addr} {l c m q : Nat} {x' y' : Option Addr} {l' c' m' q' : Nat} {n n2 : Int} {d d2 : Nat} (h : RBox w b s x l c x' l' c' n d) (hr : RatioAt w (.agg #[.bool t, .slice y m q, .slice y' m' q']) n2 d2) : RBox (put3 w b (.bool t) (.slice y m q) (.slice y' m' q')) b t y m q y' m' q' n2 d2 := by
  obtain ⟨_, ⟨g2, g3⟩, g4⟩ := put_three' (.bool t) (.slice y m q) (.slice y' m' q') h.c0 h.c1 h.c2
  exact ⟨g2, g3, g4, hr.put3 h _ _ _, fun j hj => by unfold Go.Proofs.YtpdenfjncpfogaaDoor.put3; rw [World.frozen?_setCell, World.frozen?_setCell, World.frozen?_setCell]; exact h.fz j hj⟩
theorem RBox.aside {w : World} {b b2 : Nat} {s s2 : Bool} {x x2 : Option Addr} {l c l2 c2 : Nat} {x' x2' : Option Addr} {l' c' l2' c2' : Nat} {n n2 : Int} {d d2 : Nat} (h : RBox w b s x l c x' l' c' n d) (h2 : RBox w b2 s2 x2 l2 c2 x2' l2' c2' n2 d2) (hne : b2 ≠ b) (y0 y1 y2 : Value) : RBox (put3 w b2 y0 y1 y2) b s x l c x' l' c' n d := by
  have hcell : ∀ j, (put3 w b2 y0 y1 y2).cell? ⟨b, j, none⟩ = w.cell? ⟨b, j, none⟩ := fun j => by
    unfold Go.Proofs.YtpdenfjncpfogaaDoor.put3
    rw [World.cell?_setCell_other _ _ _ _ (fun e => hne (congrArg Addr.block e)), World.cell?_setCell_other _ _ _ _ (fun e => hne (congrArg Addr.block e)), World.cell?_setCell_other _ _ _ _ (fun e => hne (congrArg Addr.block e))]
  exact ⟨by rw [hcell]; exact h.c0, by rw [hcell]; exact h.c1, by rw [hcell]; exact h.c2, h.rat.put3 h2 _ _ _, fun j hj => by unfold Go.Proofs.YtpdenfjncpfogaaDoor.put3; rw [World.frozen?_setCell, World.frozen?_setCell, World.frozen?_setCell]; exact h.fz j hj⟩
theorem big_none (w : World) : BigAt w (.slice none 0 0) 0 := ⟨[], fun i hi => by simp at hi, fun i hi => by simp at hi, rfl, Or.inl ⟨_, _, rfl, rfl⟩⟩
theorem RBox.fresh {w : World} {s : Bool} {x : Option Addr} {l c : Nat} {x' : Option Addr} {l' c' : Nat} {n : Int} {d : Nat} (hr : RatioAt w (.agg #[.bool s, .slice x l c, .slice x' l' c']) n d) : RBox (w.alloc (.cells #[.bool s, .slice x l c, .slice x' l' c'] 31)) w.heap.size s x l c x' l' c' n d :=
  ⟨by simp, by simp, by simp, hr.later ((Below.refl _ _).alloc (Nat.le_refl _) _), fun j hj => by rcases (show j = 0 ∨ j = 1 ∨ j = 2 by omega) with rfl | rfl | rfl <;> simp⟩

/-- The steps, in lowest terms. -/
theorem low_step {M S : Nat} (hM : 0 < M) (hS : 0 < S) (W A : Int) : (lowN M W * lowN S A).tdiv ((Nat.gcd (lowN M W * lowN S A).natAbs (lowD M W * lowD S A) : Nat) : Int) = lowN (M * S) (W * A) ∧ lowD M W * lowD S A / Nat.gcd (lowN M W * lowN S A).natAbs (lowD M W * lowD S A) = lowD (M * S) (W * A) := by
  refine low_same (Nat.mul_pos hM hS) (Nat.mul_pos (lowD_pos hM W) (lowD_pos hS A)) ?_
  have h1 := low_cross hM W
  have h2 := low_cross hS A
  rw [Int.natCast_mul, Int.natCast_mul]
  generalize lowN M W = a at *
  generalize lowN S A = b at *
  generalize (lowD M W : Int) = c at *
  generalize (lowD S A : Int) = e at *
  generalize (M : Int) = m at *
  generalize (S : Int) = s at *
  calc a * b * (m * s) = (a * m) * (b * s) := by grind
    _ = (W * c) * (A * e) := by rw [h1, h2]
    _ = W * A * (c * e) := by grind
theorem low_add {M S : Nat} (hM : 0 < M) (hS : 0 < S) (L X : Int) : (lowN M L * (lowD (M * S) X : Int) + lowN (M * S) X * (lowD M L : Int)).tdiv ((Nat.gcd (lowN M L * (lowD (M * S) X : Int) + lowN (M * S) X * (lowD M L : Int)).natAbs (lowD M L * lowD (M * S) X) : Nat) : Int) = lowN (M * S) (L * S + X) ∧ lowD M L * lowD (M * S) X / Nat.gcd (lowN M L * (lowD (M * S) X : Int) + lowN (M * S) X * (lowD M L : Int)).natAbs (lowD M L * lowD (M * S) X) = lowD (M * S) (L * S + X) := by
  refine low_same (Nat.mul_pos hM hS) (Nat.mul_pos (lowD_pos hM L) (lowD_pos (Nat.mul_pos hM hS) X)) ?_
  have h1 := low_cross hM L
  have h2 := low_cross (Nat.mul_pos hM hS) X
  rw [Int.natCast_mul] at h2
  rw [Int.natCast_mul, Int.natCast_mul]
  generalize lowN M L = a at *
  generalize lowN (M * S) X = b at *
  generalize (lowD M L : Int) = c at *
  generalize (lowD (M * S) X : Int) = e at *
  generalize (M : Int) = m at *
  generalize (S : Int) = s at *
  calc (a * e + b * c) * (m * s) = (a * m) * (e * s) + (b * (m * s)) * c := by grind
    _ = (L * c) * (e * s) + (X * e) * c := by rw [h1, h2]
    _ = (L * s + X) * (c * e) := by grind
theorem low_room {M : Nat} (hM : 0 < M) {x : Nat} (hx : x ≤ M) (hR : M < 1000000 ^ 20) : (lowN M (x : Int)).natAbs < 1000000 ^ 20 ∧ lowD M (x : Int) < 1000000 ^ 20 := by
  have h1 := lowN_le hM (x : Int)
  have h2 := lowD_le M (x : Int)
  rw [Int.natAbs_natCast] at h1
  exact ⟨by omega, by omega⟩
theorem pow_small {S j : Nat} (hS : S ≤ 4096) (hj : j ≤ 25) : S ^ j < 1000000 ^ 20 :=
  Nat.lt_of_le_of_lt (Nat.pow_le_pow_left hS j) (Nat.lt_of_le_of_lt (Nat.pow_le_pow_right (by decide) hj) (by decide))

end Go.Proofs.YtpdenfjncpfogaaDoor

/- The document's differences. -/
namespace Go.Proofs.YtpdenfjncpfogaaDoor
open Go.RowKit

set_option maxRecDepth 10000 in
set_option maxHeartbeats 4000000 in
/-- Minus: the difference, in its lowest terms. -/
theorem Minus_ratio (v1 v2 : Value) (n1 n2 : Int) (d1 d2 k : Nat) (w : World) (h1 : RatioAt w v1 n1 d1) (h2 : RatioAt w v2 n2 d2) (hd1 : 0 < d1) (hd2 : 0 < d2) (hn1 : n1.natAbs < 1000000 ^ k) (hn2 : n2.natAbs < 1000000 ^ k) (hk1 : d1 < 1000000 ^ k) (hk2 : d2 < 1000000 ^ k) (hk : k + k + 1 + 1 ≤ 1000000) :
    Calls Tryd.prog 19 #[v1, v2] w fun e w' => ∃ r, e = .returned r ∧ RatioAt w' r ((n1 * d2 + -n2 * d1).tdiv ((Nat.gcd (n1 * d2 + -n2 * d1).natAbs (d1 * d2) : Nat) : Int)) (d1 * d2 / Nat.gcd (n1 * d2 + -n2 * d1).natAbs (d1 * d2)) ∧ Below w.heap.size w w' := by
  obtain ⟨u1, q1, rfl, hu1, hq1⟩ := h1
  obtain ⟨u2, q2, rfl, hu2, hq2⟩ := h2
  obtain ⟨ad1, l1, cap1, rfl, _⟩ := hu1.len
  obtain ⟨bd1, m1, bap1, rfl, _⟩ := hq1.len
  obtain ⟨ad2, l2, cap2, rfl, _⟩ := hu2.len
  obtain ⟨bd2, m2, bap2, rfl, _⟩ := hq2.len
  obtain ⟨s1, hs1⟩ : ∃ s, decide (n1 < 0) = s := ⟨_, rfl⟩
  obtain ⟨s2, hs2⟩ : ∃ s, decide (n2 < 0) = s := ⟨_, rfl⟩
  rw [hs1, hs2]
  have hB0 : Below w.heap.size w (((w.alloc (.cells #[.bool s1, .slice ad1 l1 cap1, .slice bd1 m1 bap1] 31)).alloc (.cells #[.bool s2, .slice ad2 l2 cap2, .slice bd2 m2 bap2] 31)).alloc (.cells #[.bool false, .slice none 0 0, .slice none 0 0] 31)) := (((Below.refl _ _).alloc (Nat.le_refl _) _).alloc (by simp) _).alloc (by simp; omega) _
  have hN := noInts_third3 w (.cells #[.bool s1, .slice ad1 l1 cap1, .slice bd1 m1 bap1] 31) (.cells #[.bool s2, .slice ad2 l2 cap2, .slice bd2 m2 bap2] 31) 31
  have hNP := fun (w1 : World) => nine_past (w := w) (w1 := w1) (x0 := .bool s1) (x1 := .slice ad1 l1 cap1) (x2 := .slice bd1 m1 bap1) (y0 := .bool s2) (y1 := .slice ad2 l2 cap2) (y2 := .slice bd2 m2 bap2) (r0 := .bool false) (r1 := .slice none 0 0) (r2 := .slice none 0 0) (t := 31)
  have hz0 : w.heap.size + 1 + 1 + 1 = (((w.alloc (.cells #[.bool s1, .slice ad1 l1 cap1, .slice bd1 m1 bap1] 31)).alloc (.cells #[.bool s2, .slice ad2 l2 cap2, .slice bd2 m2 bap2] 31)).alloc (.cells #[.bool false, .slice none 0 0, .slice none 0 0] 31)).heap.size := by simp
  generalize hW : (((w.alloc (.cells #[.bool s1, .slice ad1 l1 cap1, .slice bd1 m1 bap1] 31)).alloc (.cells #[.bool s2, .slice ad2 l2 cap2, .slice bd2 m2 bap2] 31)).alloc (.cells #[.bool false, .slice none 0 0, .slice none 0 0] 31)) = W0 at hB0 hN hNP hz0
  have hKS : ∀ W, Below (w.heap.size + 1 + 1) W0 W → (W.cell? ⟨w.heap.size, 0, none⟩ = some (.bool s1) ∧ W.cell? ⟨w.heap.size, 1, none⟩ = some (.slice ad1 l1 cap1) ∧ W.cell? ⟨w.heap.size, 2, none⟩ = some (.slice bd1 m1 bap1)) ∧ (W.cell? ⟨w.heap.size + 1, 0, none⟩ = some (.bool s2) ∧ W.cell? ⟨w.heap.size + 1, 1, none⟩ = some (.slice ad2 l2 cap2) ∧ W.cell? ⟨w.heap.size + 1, 2, none⟩ = some (.slice bd2 m2 bap2)) := fun W hb => by
    obtain ⟨⟨a0, a1, a2⟩, ⟨b0, b1, b2⟩, _⟩ := hNP W0 (Below.refl _ _)
    have ha : ∀ j v, W0.cell? ⟨w.heap.size, j, none⟩ = some v → W.cell? ⟨w.heap.size, j, none⟩ = some v := fun j v h => by rw [hb.cell (p := ⟨w.heap.size, j, none⟩) (by show w.heap.size < _; omega)]; exact h
    have hb' : ∀ j v, W0.cell? ⟨w.heap.size + 1, j, none⟩ = some v → W.cell? ⟨w.heap.size + 1, j, none⟩ = some v := fun j v h => by rw [hb.cell (p := ⟨w.heap.size + 1, j, none⟩) (by show w.heap.size + 1 < _; omega)]; exact h
    exact ⟨⟨ha 0 _ a0, ha 1 _ a1, ha 2 _ a2⟩, ⟨hb' 0 _ b0, hb' 1 _ b1, hb' 2 _ b2⟩⟩
  have HS2 := Hid.mk' (show SignedAt W0.drew (.agg #[.bool s2, .slice ad2 l2 cap2]) n2 from ⟨_, by rw [hs2], (hu2.later hB0).later ((Below.refl _ _).drew)⟩)
  have HD2 := Hid.mk' ((hq2.later hB0).later ((Below.refl _ _).drew))
  have HR1 := Hid.mk' (show RatioAt W0.drew (.agg #[.bool s1, .slice ad1 l1 cap1, .slice bd1 m1 bap1]) n1 d1 from ⟨_, _, by rw [hs1], (hu1.later hB0).later ((Below.refl _ _).drew), (hq1.later hB0).later ((Below.refl _ _).drew)⟩)
  have hback := SignedBack_any _ n2 W0.drew HS2.out
  have HBACK := Hid.mk' hback
  have HKS := Hid.mk' hKS
  have HW := Hid.mk' hW
  have HNP := Hid.mk' hNP
  have HN := Hid.mk' hN
  have HB := Hid.mk' hB0
  have HBD : Hid (n1.natAbs < 1000000 ^ k ∧ (-n2).natAbs < 1000000 ^ k ∧ d1 < 1000000 ^ k ∧ d2 < 1000000 ^ k) := ⟨hn1, by rw [Int.natAbs_neg]; exact hn2, hk1, hk2⟩
  have hcur0 : Below (w.heap.size + 1 + 1) W0 W0 := Below.refl _ _
  have hcur : Below (w.heap.size + 1 + 1) W0 W0.drew := (Below.refl _ _).drew
  obtain ⟨zz, hzz⟩ : ∃ zz, zz = n1 * (d2 : Int) + -n2 * (d1 : Int) := ⟨_, rfl⟩
  rw [← hzz]
  have HZZ := Hid.mk' hzz
  clear hs1 hs2 hu1 hu2 hq1 hq2 hB0 hN hNP hW hKS hback hn1 hn2 hk1 hk2 hzz
  go_enter Tryd.func19, Tryd.ntmps19
  go_wp2_with fail
  rw [HW.out]
  go_region_held3 (fun W => (W.cell? ⟨w.heap.size, 0, none⟩ = some (.bool s1) ∧ W.cell? ⟨w.heap.size, 1, none⟩ = some (.slice ad1 l1 cap1) ∧ W.cell? ⟨w.heap.size, 2, none⟩ = some (.slice bd1 m1 bap1)) ∧ (W.cell? ⟨w.heap.size + 1, 0, none⟩ = some (.bool s2) ∧ W.cell? ⟨w.heap.size + 1, 1, none⟩ = some (.slice ad2 l2 cap2) ∧ W.cell? ⟨w.heap.size + 1, 2, none⟩ = some (.slice bd2 m2 bap2)))
    (first | exact HKS.out _ hcur0 | exact HKS.out _ hcur | exact HKS.out _ hc1 | exact HKS.out _ hc3 | exact HKS.out _ (below_set3 hc3 (Nat.le_refl _) _ _ _))
    (first
      | (go_at_call 29; refine HBACK.out.mono ?_; rintro e w1 ⟨sv, rfl, ⟨us, rfl, hus⟩, hb1⟩; obtain ⟨sg, hsg⟩ : ∃ sg, decide (-n2 < 0) = sg := ⟨_, rfl⟩; rw [hsg]; obtain ⟨ad3, l3, cap3, rfl, _⟩ := hus.len; have hbw1 := below_chain ((Below.refl _ _).drew) hb1; have hc1 : Below (w.heap.size + 1 + 1) W0 w1 := hbw1.mono (by omega); have HRA : Hid (RatioAt w1 (.agg #[.bool sg, .slice ad3 l3 cap3, .slice bd2 m2 bap2]) (-n2) d2) := ⟨_, _, by rw [hsg], hus, HD2.out.later hb1⟩; have HRB := Hid.mk' (HR1.out.later hb1); have HBW1 := Hid.mk' hbw1; clear hus hb1 hbw1 hsg)
      | (go_at_call 21; refine (Plus_ratio _ _ n1 (-n2) d1 d2 k w1 HRB.out HRA.out hd1 hd2 HBD.out.1 HBD.out.2.1 HBD.out.2.2.1 HBD.out.2.2.2 hk).mono ?_; rintro e w3 ⟨rv, rfl, hrv, hb3⟩; rw [← HZZ.out] at hrv; obtain ⟨ur, qr, rfl, hur, hqr⟩ := hrv; obtain ⟨ad5, l5, cap5, rfl, _⟩ := hur.len; obtain ⟨ad6, l6, cap6, rfl, _⟩ := hqr.len; have hbw3 := below_chain HBW1.out hb3; have hc3 : Below (w.heap.size + 1 + 1) W0 w3 := hbw3.mono (by omega); obtain ⟨_, _, ⟨c0, c1, c2⟩, f0, f1, f2⟩ := HNP.out w3 hbw3; have HUR := Hid.mk' hur; have HQR := Hid.mk' hqr; have HBW3 := Hid.mk' hbw3; clear hur hqr hb3 hbw3))
  go_wp2_with fail
  refine bodyPost_ret (v := .agg #[.bool (decide (zz.tdiv ((Nat.gcd zz.natAbs (d1 * d2) : Nat) : Int) < 0)), .slice ad5 l5 cap5, .slice ad6 l6 cap6]) (by simp [results, Tryd.results19, go_sem, c0, c1, c2]) rfl ⟨_, rfl, ⟨_, _, rfl, HUR.out.set3 (HN.out.later (by omega) HBW3.out) c0 c1, HQR.out.set3 (HN.out.later (by omega) HBW3.out) c0 c1⟩, below_set3 (below_chain HB.out HBW3.out) (by omega) _ _ _⟩

/-- What is less than nothing by a part of M. -/
theorem low_minus {M : Nat} (hM : 0 < M) (z : Int) : (0 * (lowD M z : Int) + -lowN M z * (1 : Nat)).tdiv ((Nat.gcd (0 * (lowD M z : Int) + -lowN M z * (1 : Nat)).natAbs (1 * lowD M z) : Nat) : Int) = lowN M (-z) ∧ 1 * lowD M z / Nat.gcd (0 * (lowD M z : Int) + -lowN M z * (1 : Nat)).natAbs (1 * lowD M z) = lowD M (-z) := by
  refine low_same hM (by have := lowD_pos hM z; omega) ?_
  have h1 := low_cross hM z
  rw [Nat.one_mul]
  generalize lowN M z = a at *
  generalize (lowD M z : Int) = c at *
  simp only [Int.zero_mul, Int.zero_add, Int.natCast_one, Int.mul_one]
  rw [Int.neg_mul, h1, Int.neg_mul]
/-- A part of a part: n of M times x of n is x of M. -/
theorem low_times {M n : Nat} (hM : 0 < M) (hn : 0 < n) (x : Int) : (lowN M n * lowN n x).tdiv ((Nat.gcd (lowN M n * lowN n x).natAbs (lowD M n * lowD n x) : Nat) : Int) = lowN M x ∧ lowD M n * lowD n x / Nat.gcd (lowN M n * lowN n x).natAbs (lowD M n * lowD n x) = lowD M x := by
  refine low_same hM (Nat.mul_pos (lowD_pos hM n) (lowD_pos hn x)) ?_
  have h1 := low_cross hM (n : Int)
  have h2 := low_cross hn x
  rw [Int.natCast_mul]
  generalize lowN M n = a at *
  generalize lowN n x = b at *
  generalize (lowD M n : Int) = c at *
  generalize (lowD n x : Int) = e at *
  calc a * b * (M : Int) = (a * (M : Int)) * b := by rw [Int.mul_assoc, Int.mul_comm b, ← Int.mul_assoc]
    _ = (b * (n : Int)) * c := by rw [h1, Int.mul_comm (n : Int) c, Int.mul_assoc, Int.mul_comm c, Int.mul_comm (n : Int) b]
    _ = x * (c * e) := by rw [h2, Int.mul_assoc, Int.mul_comm e c]
theorem low_self {M : Nat} (hM : 0 < M) : lowN M M = 1 ∧ lowD M M = 1 := by
  have h := low_same (M := M) (d := 1) (z := (M : Int)) (n := 1) hM (by decide) (by simp)
  simpa using And.intro h.1.symm h.2.symm
end Go.Proofs.YtpdenfjncpfogaaDoor

/- The document's order of fractions. -/
namespace Go.Proofs.YtpdenfjncpfogaaDoor
open Go.RowKit

/-- The sign of a difference. -/
def sgnZ (z : Int) : Int := if z = 0 then 0 else if z < 0 then -1 else 1
set_option maxRecDepth 100000 in
set_option maxHeartbeats 4000000 in
theorem SignedCmp_any (v1 v2 : Value) (x y : Int) (k : Nat) (w : World) (h1 : SignedAt w v1 x) (h2 : SignedAt w v2 y) (hx : x.natAbs < 1000000 ^ k) (hy : y.natAbs < 1000000 ^ k) (hk : k ≤ 1000000) :
    Calls Tryd.prog 43 #[v1, v2] w fun e w' => e = .returned (.int .i64 (sgnZ (x - y))) ∧ Below w.heap.size w w' := by
  obtain ⟨u1, rfl, hu1⟩ := h1
  obtain ⟨u2, rfl, hu2⟩ := h2
  obtain ⟨ad1, l1, cap1, rfl, _⟩ := hu1.len
  obtain ⟨ad2, l2, cap2, rfl, _⟩ := hu2.len
  obtain ⟨s1, hs1⟩ : ∃ s, decide (x < 0) = s := ⟨_, rfl⟩
  obtain ⟨s2, hs2⟩ : ∃ s, decide (y < 0) = s := ⟨_, rfl⟩
  rw [hs1, hs2]
  obtain ⟨W0, hW0⟩ : ∃ W0, (w.alloc (.cells #[.bool s1, .slice ad1 l1 cap1] 29)).alloc (.cells #[.bool s2, .slice ad2 l2 cap2] 29) = W0 := ⟨_, rfl⟩
  have hB0 : Below w.heap.size w W0 := by rw [← hW0]; exact below_chain (new_below _ _) (new_below _ _)
  have HKS : Hid (∀ W, Below W0.heap.size W0 W → (W.cell? ⟨w.heap.size, 0, none⟩ = some (.bool s1) ∧ W.cell? ⟨w.heap.size, 1, none⟩ = some (.slice ad1 l1 cap1)) ∧ (W.cell? ⟨w.heap.size + 1, 0, none⟩ = some (.bool s2) ∧ W.cell? ⟨w.heap.size + 1, 1, none⟩ = some (.slice ad2 l2 cap2))) := fun W hb => by
    have a : ∀ j v, (#[Value.bool s1, .slice ad1 l1 cap1] : Array Value)[j]? = some v → W0.cell? ⟨w.heap.size, j, none⟩ = some v := fun j v h => by rw [← hW0, World.cell?_alloc_lt _ _ ⟨w.heap.size, j, none⟩ (by simp), World.cell?_alloc_at _ _ _ _ rfl]; exact h
    have b : ∀ j v, (#[Value.bool s2, .slice ad2 l2 cap2] : Array Value)[j]? = some v → W0.cell? ⟨w.heap.size + 1, j, none⟩ = some v := fun j v h => by rw [← hW0, World.cell?_alloc_at _ _ _ _ (by simp)]; exact h
    exact ⟨⟨by rw [hb.cell (cell_lt (a 0 _ rfl))]; exact a 0 _ rfl, by rw [hb.cell (cell_lt (a 1 _ rfl))]; exact a 1 _ rfl⟩, by rw [hb.cell (cell_lt (b 0 _ rfl))]; exact b 0 _ rfl, by rw [hb.cell (cell_lt (b 1 _ rfl))]; exact b 1 _ rfl⟩
  have HS1 : Hid (∀ W, Below W0.heap.size W0 W → SignedAt W (.agg #[.bool s1, .slice ad1 l1 cap1]) x) := fun W hb => ⟨_, by rw [hs1], (hu1.later hB0).later hb⟩
  have HS2 : Hid (∀ W, Below W0.heap.size W0 W → SignedAt W (.agg #[.bool s2, .slice ad2 l2 cap2]) y) := fun W hb => ⟨_, by rw [hs2], (hu2.later hB0).later hb⟩
  have HW := Hid.mk' hW0
  have HB := Hid.mk' hB0
  have hcur0 : Below W0.heap.size W0 W0 := Below.refl _ _
  have hcur : Below W0.heap.size W0 W0.drew := (Below.refl _ _).drew
  have hcurA : ∀ X, Below W0.heap.size W0 (W0.alloc X).drew := fun X => (new_below _ _).drew
  have HHY : Hid ((-y).natAbs < 1000000 ^ k) := by show _ < _; rw [Int.natAbs_neg]; exact hy
  clear hs1 hs2 hu1 hu2 hB0 hW0
  generalize hz : x + -y = z at *
  have HZ := Hid.mk' hz
  have HZ2 : Hid (sgnZ (x - y) = sgnZ z) := by show _ = _; rw [← hz, Int.sub_eq_add_neg]
  clear hz
  go_enter Tryd.func43, Tryd.ntmps43
  go_wp2_with fail
  rw [HW.out]
  go_cut [5] from 6 (fun s wx => ∃ Bs : Nat, s = .pointer (some ⟨Bs, 0, none⟩) ∧ Hid (SignBox W0 wx Bs z))
  case first =>
    go_region_held3 (fun W => (W.cell? ⟨w.heap.size, 0, none⟩ = some (.bool s1) ∧ W.cell? ⟨w.heap.size, 1, none⟩ = some (.slice ad1 l1 cap1)) ∧ (W.cell? ⟨w.heap.size + 1, 0, none⟩ = some (.bool s2) ∧ W.cell? ⟨w.heap.size + 1, 1, none⟩ = some (.slice ad2 l2 cap2)))
      (first | exact HKS.out _ hcur0 | exact HKS.out _ hcur | exact HKS.out _ (hcurA _) | (refine HKS.out _ ?_; assumption) | (refine HKS.out _ (more_below ?_ _); assumption) | (refine HKS.out _ (setB_below ?_ NB.hB _ _); assumption))
      (first
        | (go_at_call 42; refine (SignedAdd_any _ _ x (-y) k _ (HS1.out _ ?_) (HX1.out _ ?_) hx HHY.out hk).mono ?_; (first | exact hbw1 | exact more_below hbw1 _); (first | exact Below.refl _ _ | exact new_below _ _); rintro e w5 ⟨sv5, rfl, ⟨x5, rfl, hx5⟩, hb5⟩; rw [HZ.out] at hx5 ⊢; obtain ⟨ad7, l7, cap7, rfl, _⟩ := hx5.len; (first | (have hbw5 := below_chain hbw1 hb5; try have NB := NB.later hb5) | (have hbw5 := below_chain (more_below hbw1 _) hb5; have NB := newBox_of hbw1 hb5)); (try (have y0 := NB.c0; have y1 := NB.c1; have y2 := NB.f0; have y3 := NB.f1)); have HX5 := Hid.mk' hx5; clear hx5 hb5)
        | (go_at_call 29; refine (SignedBack_any _ y _ (HS2.out _ ?_)).mono ?_; (first | exact hcur | exact hcurA _); rintro e w1 ⟨sv1, rfl, ⟨x1, rfl, hx1⟩, hb1⟩; obtain ⟨sg1, hsg1⟩ : ∃ sg, decide (-y < 0) = sg := ⟨_, rfl⟩; rw [hsg1]; obtain ⟨ad3, l3, cap3, rfl, _⟩ := hx1.len; (first | have hbw1 := below_chain hcur hb1 | (have hbw1 := below_chain (hcurA _) hb1; have NB := newBox_of hcur0 (below_chain ((Below.refl _ _).drew) hb1))); have HX1 : Hid (∀ W, Below w1.heap.size w1 W → SignedAt W (.agg #[.bool sg1, .slice ad3 l3 cap3]) (-y)) := (fun W hb => ⟨_, by rw [hsg1], hx1.later hb⟩); clear hx1 hb1 hsg1))
    all_goals
      go_wp2_with fail
      go_meet
      first | exact ⟨_, rfl, signBox_late hbw5 HX5.out⟩ | exact ⟨_, rfl, signBox_soon hbw5 HX5.out NB⟩
  case rest =>
  obtain ⟨Bs, rfl, HSB⟩ := hcut
  obtain ⟨u, x0, x1, hu⟩ := HSB.out.box
  obtain ⟨ad, l, cap, rfl, hlz⟩ := hu.len
  have HBF := Hid.mk' (below_chain HB.out HSB.out.below)
  by_cases hz0 : z = 0
  · have hl0 : l = 0 := hlz.2 (by rw [hz0]; rfl)
    subst hl0
    have HE : Hid (sgnZ z = 0) := if_pos hz0
    clear hlz hz0 hu
    go_wp2_with fail
    go_ret
    exact ⟨by rw [HZ2.out, HE.out]; rfl, HBF.out⟩
  · have hl0 : ((l : Int) == 0) = false := by
      have : l ≠ 0 := fun h => hz0 (Int.natAbs_eq_zero.1 (hlz.1 h))
      simp; exact this
    obtain ⟨sg, hsg⟩ : ∃ sg, decide (z < 0) = sg := ⟨_, rfl⟩
    rw [hsg] at x0
    have HE : Hid (sgnZ z = if sg = true then -1 else 1) := by
      show (if z = 0 then 0 else if z < 0 then -1 else 1) = _
      rw [if_neg hz0, ← hsg]
      by_cases h : z < 0
      · rw [if_pos h, decide_eq_true h, if_pos rfl]
      · rw [if_neg h, decide_eq_false h]; rfl
    clear hlz hz0 hu hsg
    cases sg with
    | true =>
      go_wp2_with fail
      go_ret
      exact ⟨by rw [HZ2.out, HE.out]; rfl, HBF.out⟩
    | false =>
      go_wp2_with fail
      go_ret
      exact ⟨by rw [HZ2.out, HE.out]; rfl, HBF.out⟩
set_option maxRecDepth 100000 in
set_option maxHeartbeats 4000000 in
theorem RCmp_any (v1 v2 : Value) (n1 n2 : Int) (d1 d2 k : Nat) (w : World) (h1 : RatioAt w v1 n1 d1) (h2 : RatioAt w v2 n2 d2) (hn1 : n1.natAbs < 1000000 ^ k) (hn2 : n2.natAbs < 1000000 ^ k) (hk1 : d1 < 1000000 ^ k) (hk2 : d2 < 1000000 ^ k) (hk : k + k ≤ 1000000) :
    Calls Tryd.prog 24 #[v1, v2] w fun e w' => e = .returned (.int .i64 (sgnZ (n1 * d2 - n2 * d1))) ∧ Below w.heap.size w w' := by
  obtain ⟨u1, q1, rfl, hu1, hq1⟩ := h1
  obtain ⟨u2, q2, rfl, hu2, hq2⟩ := h2
  obtain ⟨ad1, l1, cap1, rfl, _⟩ := hu1.len
  obtain ⟨bd1, m1, bap1, rfl, _⟩ := hq1.len
  obtain ⟨ad2, l2, cap2, rfl, _⟩ := hu2.len
  obtain ⟨bd2, m2, bap2, rfl, _⟩ := hq2.len
  obtain ⟨s1, hs1⟩ : ∃ s, decide (n1 < 0) = s := ⟨_, rfl⟩
  obtain ⟨s2, hs2⟩ : ∃ s, decide (n2 < 0) = s := ⟨_, rfl⟩
  rw [hs1, hs2]
  obtain ⟨W0, hW0⟩ : ∃ W0, (w.alloc (.cells #[.bool s1, .slice ad1 l1 cap1, .slice bd1 m1 bap1] 31)).alloc (.cells #[.bool s2, .slice ad2 l2 cap2, .slice bd2 m2 bap2] 31) = W0 := ⟨_, rfl⟩
  have hB0 : Below w.heap.size w W0 := by rw [← hW0]; exact below_chain (new_below _ _) (new_below _ _)
  have HKS : Hid (∀ W, Below W0.heap.size W0 W → (W.cell? ⟨w.heap.size, 0, none⟩ = some (.bool s1) ∧ W.cell? ⟨w.heap.size, 1, none⟩ = some (.slice ad1 l1 cap1) ∧ W.cell? ⟨w.heap.size, 2, none⟩ = some (.slice bd1 m1 bap1)) ∧ (W.cell? ⟨w.heap.size + 1, 0, none⟩ = some (.bool s2) ∧ W.cell? ⟨w.heap.size + 1, 1, none⟩ = some (.slice ad2 l2 cap2) ∧ W.cell? ⟨w.heap.size + 1, 2, none⟩ = some (.slice bd2 m2 bap2))) := fun W hb => by
    have a : ∀ j v, (#[Value.bool s1, .slice ad1 l1 cap1, .slice bd1 m1 bap1] : Array Value)[j]? = some v → W0.cell? ⟨w.heap.size, j, none⟩ = some v := fun j v h => by rw [← hW0, World.cell?_alloc_lt _ _ ⟨w.heap.size, j, none⟩ (by simp), World.cell?_alloc_at _ _ _ _ rfl]; exact h
    have b : ∀ j v, (#[Value.bool s2, .slice ad2 l2 cap2, .slice bd2 m2 bap2] : Array Value)[j]? = some v → W0.cell? ⟨w.heap.size + 1, j, none⟩ = some v := fun j v h => by rw [← hW0, World.cell?_alloc_at _ _ _ _ (by simp)]; exact h
    exact ⟨⟨by rw [hb.cell (cell_lt (a 0 _ rfl))]; exact a 0 _ rfl, by rw [hb.cell (cell_lt (a 1 _ rfl))]; exact a 1 _ rfl, by rw [hb.cell (cell_lt (a 2 _ rfl))]; exact a 2 _ rfl⟩, by rw [hb.cell (cell_lt (b 0 _ rfl))]; exact b 0 _ rfl, by rw [hb.cell (cell_lt (b 1 _ rfl))]; exact b 1 _ rfl, by rw [hb.cell (cell_lt (b 2 _ rfl))]; exact b 2 _ rfl⟩
  have HS1 : Hid (∀ W, Below W0.heap.size W0 W → SignedAt W (.agg #[.bool s1, .slice ad1 l1 cap1]) n1) := fun W hb => ⟨_, by rw [hs1], (hu1.later hB0).later hb⟩
  have HS2 : Hid (∀ W, Below W0.heap.size W0 W → SignedAt W (.agg #[.bool s2, .slice ad2 l2 cap2]) n2) := fun W hb => ⟨_, by rw [hs2], (hu2.later hB0).later hb⟩
  have HD1 : Hid (∀ W, Below W0.heap.size W0 W → BigAt W (.slice bd1 m1 bap1) d1) := fun W hb => (hq1.later hB0).later hb
  have HD2 : Hid (∀ W, Below W0.heap.size W0 W → BigAt W (.slice bd2 m2 bap2) d2) := fun W hb => (hq2.later hB0).later hb
  have hm1 : (n1 * (d2 : Int)).natAbs < 1000000 ^ (k + k) := by rw [Int.natAbs_mul, Int.natAbs_natCast, Nat.pow_add]; exact Nat.mul_lt_mul'' hn1 hk2
  have hm2 : (n2 * (d1 : Int)).natAbs < 1000000 ^ (k + k) := by rw [Int.natAbs_mul, Int.natAbs_natCast, Nat.pow_add]; exact Nat.mul_lt_mul'' hn2 hk1
  have HM := Hid.mk' (And.intro hm1 hm2)
  have HBD : Hid (n1.natAbs < 1000000 ^ k ∧ (d2 : Int).natAbs < 1000000 ^ k ∧ n2.natAbs < 1000000 ^ k ∧ (d1 : Int).natAbs < 1000000 ^ k) := ⟨hn1, by rw [Int.natAbs_natCast]; exact hk2, hn2, by rw [Int.natAbs_natCast]; exact hk1⟩
  have HW := Hid.mk' hW0
  have HB := Hid.mk' hB0
  have hcur0 : Below W0.heap.size W0 W0 := Below.refl _ _
  have hcur : Below W0.heap.size W0 W0.drew := (Below.refl _ _).drew
  have hdn1 : ¬ (d1 : Int) < 0 := by omega
  have hdn2 : ¬ (d2 : Int) < 0 := by omega
  have HDE : Hid (decide ((d1 : Int) < 0) = false ∧ decide ((d2 : Int) < 0) = false) := ⟨decide_eq_false hdn1, decide_eq_false hdn2⟩
  clear hs1 hs2 hu1 hu2 hq1 hq2 hB0 hW0 hn1 hn2 hk1 hk2 hm1 hm2 hdn1 hdn2
  go_enter Tryd.func24, Tryd.ntmps24
  go_wp2_with fail
  rw [HW.out]
  go_region_held3 (fun W => (W.cell? ⟨w.heap.size, 0, none⟩ = some (.bool s1) ∧ W.cell? ⟨w.heap.size, 1, none⟩ = some (.slice ad1 l1 cap1) ∧ W.cell? ⟨w.heap.size, 2, none⟩ = some (.slice bd1 m1 bap1)) ∧ (W.cell? ⟨w.heap.size + 1, 0, none⟩ = some (.bool s2) ∧ W.cell? ⟨w.heap.size + 1, 1, none⟩ = some (.slice ad2 l2 cap2) ∧ W.cell? ⟨w.heap.size + 1, 2, none⟩ = some (.slice bd2 m2 bap2)))
    (first | exact HKS.out _ hcur0 | exact HKS.out _ hcur | (refine HKS.out _ ?_; assumption))
    (first
      | (go_at_call 43; refine (SignedCmp_any _ _ (n1 * (d2 : Int)) (n2 * (d1 : Int)) (k + k) _ (HX2.out _ h24) (HX4.out _ (Below.refl _ _)) HM.out.1 HM.out.2 hk).mono ?_; rintro e w5 ⟨rfl, hb5⟩; have hbw5 := below_chain hbw4 hb5; clear hb5)
      | (go_at_call 27; refine (SignedMul_any _ _ n2 (d1 : Int) k _ (HS2.out _ hbw3) (HX3.out _ (Below.refl _ _)) HBD.out.2.2.1 HBD.out.2.2.2 (by omega)).mono ?_; rintro e w4 ⟨sv4, rfl, ⟨x4, rfl, hx4⟩, hb4⟩; obtain ⟨sg4, hsg4⟩ : ∃ sg, decide (n2 * (d1 : Int) < 0) = sg := ⟨_, rfl⟩; rw [hsg4]; obtain ⟨ad6, l6, cap6, rfl, _⟩ := hx4.len; have hbw4 := below_chain hbw3 hb4; have h24 := below_chain h23 hb4; have HX4 : Hid (∀ W, Below w4.heap.size w4 W → SignedAt W (.agg #[.bool sg4, .slice ad6 l6 cap6]) (n2 * (d1 : Int))) := (fun W hb => ⟨_, by rw [hsg4], hx4.later hb⟩); clear hx4 hb4 hsg4)
      | (go_at_call 28; refine (wide_any (.slice bd1 m1 bap1) d1 _ (HD1.out _ hbw2)).mono ?_; rintro e w3 ⟨sv3, rfl, ⟨x3, rfl, hx3⟩, hb3⟩; rw [HDE.out.1]; obtain ⟨ad5, l5, cap5, rfl, _⟩ := hx3.len; have hbw3 := below_chain hbw2 hb3; have h23 := below_chain (Below.refl _ w2) hb3; have HX3 : Hid (∀ W, Below w3.heap.size w3 W → SignedAt W (.agg #[.bool false, .slice ad5 l5 cap5]) (d1 : Int)) := (fun W hb => ⟨_, by rw [HDE.out.1], hx3.later hb⟩); clear hx3 hb3)
      | (go_at_call 27; refine (SignedMul_any _ _ n1 (d2 : Int) k _ (HS1.out _ hbw1) (HX1.out _ (Below.refl _ _)) HBD.out.1 HBD.out.2.1 (by omega)).mono ?_; rintro e w2 ⟨sv2, rfl, ⟨x2, rfl, hx2⟩, hb2⟩; obtain ⟨sg2, hsg2⟩ : ∃ sg, decide (n1 * (d2 : Int) < 0) = sg := ⟨_, rfl⟩; rw [hsg2]; obtain ⟨ad4, l4, cap4, rfl, _⟩ := hx2.len; have hbw2 := below_chain hbw1 hb2; have HX2 : Hid (∀ W, Below w2.heap.size w2 W → SignedAt W (.agg #[.bool sg2, .slice ad4 l4 cap4]) (n1 * (d2 : Int))) := (fun W hb => ⟨_, by rw [hsg2], hx2.later hb⟩); clear hx2 hb2 hsg2)
      | (go_at_call 28; refine (wide_any (.slice bd2 m2 bap2) d2 _ (HD2.out _ hcur)).mono ?_; rintro e w1 ⟨sv1, rfl, ⟨x1, rfl, hx1⟩, hb1⟩; rw [HDE.out.2]; obtain ⟨ad3, l3, cap3, rfl, _⟩ := hx1.len; have hbw1 := below_chain hcur hb1; have HX1 : Hid (∀ W, Below w1.heap.size w1 W → SignedAt W (.agg #[.bool false, .slice ad3 l3 cap3]) (d2 : Int)) := (fun W hb => ⟨_, by rw [HDE.out.2], hx1.later hb⟩); clear hx1 hb1))
  go_wp2_with fail
  go_ret
  exact ⟨rfl, below_chain HB.out hbw5⟩
/-- Which of two fractions is the less. -/
theorem sgnZ_neg (z : Int) : sgnZ z < 0 ↔ z < 0 := by
  unfold sgnZ
  split
  · omega
  · split <;> omega
end Go.Proofs.YtpdenfjncpfogaaDoor

/- Fractions of the document by their value: sums, differences, products, whatever the numbers that say it. -/
namespace Go.Proofs.YtpdenfjncpfogaaDoor
open Go.RowKit

/-- A fraction z over M, in its lowest terms. -/
def LR (w : World) (v : Value) (M : Nat) (z : Int) : Prop := RatioAt w v (lowN M z) (lowD M z)
theorem LR.later {w w' : World} {v : Value} {M : Nat} {z : Int} (h : LR w v M z) (hb : Below w.heap.size w w') : LR w' v M z := RatioAt.later h hb
theorem LR.same {w : World} {v : Value} {M d : Nat} {z n : Int} (h : LR w v d n) (hM : 0 < M) (hd : 0 < d) (he : n * (M : Int) = z * (d : Int)) : LR w v M z := by
  have h1 := low_same hM hd he
  unfold LR lowN lowD lowG at h
  rw [h1.1, h1.2] at h
  exact h
/-- What is small enough to be reckoned with. -/
def Sml (M : Nat) (z : Int) : Prop := 0 < M ∧ M < 1000000 ^ 60 ∧ z.natAbs < 1000000 ^ 60
theorem cancel_mul {a b c : Int} (h : c ≠ 0) (e : a * c = b * c) : a = b := Int.eq_of_mul_eq_mul_right h e
theorem RTimes_to (u v : Value) (M1 M2 M : Nat) (z1 z2 z : Int) (w : World) (hu : LR w u M1 z1) (hv : LR w v M2 z2) (h1 : Sml M1 z1) (h2 : Sml M2 z2) (hM : 0 < M) (he : z1 * z2 * (M : Int) = z * ((M1 : Int) * (M2 : Int))) :
    Calls Tryd.prog 22 #[u, v] w fun e w' => ∃ r, e = .returned r ∧ LR w' r M z ∧ Below w.heap.size w w' := by
  refine (Times_ratio u v _ _ _ _ 60 w hu hv (lowD_pos h1.1 _) (lowD_pos h2.1 _) (Nat.lt_of_le_of_lt (lowN_le h1.1 _) h1.2.2) (Nat.lt_of_le_of_lt (lowN_le h2.1 _) h2.2.2) (Nat.lt_of_le_of_lt (lowD_le _ _) h1.2.1) (Nat.lt_of_le_of_lt (lowD_le _ _) h2.2.1) (by decide)).mono ?_
  rintro e w' ⟨r, rfl, hr, hb⟩
  refine ⟨r, rfl, LR.same (d := lowD M1 z1 * lowD M2 z2) (n := lowN M1 z1 * lowN M2 z2) hr hM (Nat.mul_pos (lowD_pos h1.1 _) (lowD_pos h2.1 _)) ?_, hb⟩
  have c1 := low_cross h1.1 z1
  have c2 := low_cross h2.1 z2
  have m1 : (M1 : Int) * (M2 : Int) ≠ 0 := Int.mul_ne_zero (by have := h1.1; omega) (by have := h2.1; omega)
  rw [Int.natCast_mul]
  generalize lowN M1 z1 = a1 at *
  generalize lowN M2 z2 = a2 at *
  generalize (lowD M1 z1 : Int) = b1 at *
  generalize (lowD M2 z2 : Int) = b2 at *
  generalize (M1 : Int) = N1 at *
  generalize (M2 : Int) = N2 at *
  generalize (M : Int) = N at *
  refine cancel_mul m1 ?_
  calc a1 * a2 * N * (N1 * N2) = (a1 * N1) * (a2 * N2) * N := by grind
    _ = (z1 * b1) * (z2 * b2) * N := by rw [c1, c2]
    _ = z1 * z2 * N * (b1 * b2) := by grind
    _ = z * (N1 * N2) * (b1 * b2) := by rw [he]
    _ = z * (b1 * b2) * (N1 * N2) := by grind
theorem RPlus_to (u v : Value) (M1 M2 M : Nat) (z1 z2 z : Int) (w : World) (hu : LR w u M1 z1) (hv : LR w v M2 z2) (h1 : Sml M1 z1) (h2 : Sml M2 z2) (hM : 0 < M) (he : (z1 * (M2 : Int) + z2 * (M1 : Int)) * (M : Int) = z * ((M1 : Int) * (M2 : Int))) :
    Calls Tryd.prog 21 #[u, v] w fun e w' => ∃ r, e = .returned r ∧ LR w' r M z ∧ Below w.heap.size w w' := by
  refine (Plus_ratio u v _ _ _ _ 60 w hu hv (lowD_pos h1.1 _) (lowD_pos h2.1 _) (Nat.lt_of_le_of_lt (lowN_le h1.1 _) h1.2.2) (Nat.lt_of_le_of_lt (lowN_le h2.1 _) h2.2.2) (Nat.lt_of_le_of_lt (lowD_le _ _) h1.2.1) (Nat.lt_of_le_of_lt (lowD_le _ _) h2.2.1) (by decide)).mono ?_
  rintro e w' ⟨r, rfl, hr, hb⟩
  refine ⟨r, rfl, LR.same (d := lowD M1 z1 * lowD M2 z2) (n := lowN M1 z1 * lowD M2 z2 + lowN M2 z2 * lowD M1 z1) hr hM (Nat.mul_pos (lowD_pos h1.1 _) (lowD_pos h2.1 _)) ?_, hb⟩
  have c1 := low_cross h1.1 z1
  have c2 := low_cross h2.1 z2
  have m1 : (M1 : Int) * (M2 : Int) ≠ 0 := Int.mul_ne_zero (by have := h1.1; omega) (by have := h2.1; omega)
  rw [Int.natCast_mul]
  generalize lowN M1 z1 = a1 at *
  generalize lowN M2 z2 = a2 at *
  generalize (lowD M1 z1 : Int) = b1 at *
  generalize (lowD M2 z2 : Int) = b2 at *
  generalize (M1 : Int) = N1 at *
  generalize (M2 : Int) = N2 at *
  generalize (M : Int) = N at *
  refine cancel_mul m1 ?_
  calc (a1 * b2 + a2 * b1) * N * (N1 * N2) = ((a1 * N1) * b2 * N2 + (a2 * N2) * b1 * N1) * N := by grind
    _ = ((z1 * b1) * b2 * N2 + (z2 * b2) * b1 * N1) * N := by rw [c1, c2]
    _ = (z1 * N2 + z2 * N1) * N * (b1 * b2) := by grind
    _ = z * (N1 * N2) * (b1 * b2) := by rw [he]
    _ = z * (b1 * b2) * (N1 * N2) := by grind
theorem RMinus_to (u v : Value) (M1 M2 M : Nat) (z1 z2 z : Int) (w : World) (hu : LR w u M1 z1) (hv : LR w v M2 z2) (h1 : Sml M1 z1) (h2 : Sml M2 z2) (hM : 0 < M) (he : (z1 * (M2 : Int) + -z2 * (M1 : Int)) * (M : Int) = z * ((M1 : Int) * (M2 : Int))) :
    Calls Tryd.prog 19 #[u, v] w fun e w' => ∃ r, e = .returned r ∧ LR w' r M z ∧ Below w.heap.size w w' := by
  refine (Minus_ratio u v _ _ _ _ 60 w hu hv (lowD_pos h1.1 _) (lowD_pos h2.1 _) (Nat.lt_of_le_of_lt (lowN_le h1.1 _) h1.2.2) (Nat.lt_of_le_of_lt (lowN_le h2.1 _) h2.2.2) (Nat.lt_of_le_of_lt (lowD_le _ _) h1.2.1) (Nat.lt_of_le_of_lt (lowD_le _ _) h2.2.1) (by decide)).mono ?_
  rintro e w' ⟨r, rfl, hr, hb⟩
  refine ⟨r, rfl, LR.same (d := lowD M1 z1 * lowD M2 z2) (n := lowN M1 z1 * lowD M2 z2 + -lowN M2 z2 * lowD M1 z1) hr hM (Nat.mul_pos (lowD_pos h1.1 _) (lowD_pos h2.1 _)) ?_, hb⟩
  have c1 := low_cross h1.1 z1
  have c2 := low_cross h2.1 z2
  have m1 : (M1 : Int) * (M2 : Int) ≠ 0 := Int.mul_ne_zero (by have := h1.1; omega) (by have := h2.1; omega)
  rw [Int.natCast_mul]
  generalize lowN M1 z1 = a1 at *
  generalize lowN M2 z2 = a2 at *
  generalize (lowD M1 z1 : Int) = b1 at *
  generalize (lowD M2 z2 : Int) = b2 at *
  generalize (M1 : Int) = N1 at *
  generalize (M2 : Int) = N2 at *
  generalize (M : Int) = N at *
  refine cancel_mul m1 ?_
  calc (a1 * b2 + -a2 * b1) * N * (N1 * N2) = ((a1 * N1) * b2 * N2 - (a2 * N2) * b1 * N1) * N := by grind
    _ = ((z1 * b1) * b2 * N2 - (z2 * b2) * b1 * N1) * N := by rw [c1, c2]
    _ = (z1 * N2 + -z2 * N1) * N * (b1 * b2) := by grind
    _ = z * (N1 * N2) * (b1 * b2) := by rw [he]
    _ = z * (b1 * b2) * (N1 * N2) := by grind
theorem RatioOf_to (n : Int) (d M : Nat) (z : Int) (w : World) (h0 : -4611686018427387904 ≤ n) (h1 : n ≤ 4611686018427387904) (hd : 0 < d) (hd1 : d ≤ 4611686018427387904) (hM : 0 < M) (he : n * (M : Int) = z * (d : Int)) :
    Calls Tryd.prog 20 #[.int .i64 n, .int .i64 d] w fun e w' => ∃ r, e = .returned r ∧ LR w' r M z ∧ Below w.heap.size w w' := by
  refine (RatioOf_any n d w h0 h1 hd hd1).mono ?_
  rintro e w' ⟨r, rfl, hr, hb⟩
  exact ⟨r, rfl, LR.same (d := d) (n := n) hr hM hd he, hb⟩
theorem RCmp_same (u v : Value) (M1 M2 : Nat) (z1 z2 : Int) (w : World) (hu : LR w u M1 z1) (hv : LR w v M2 z2) (h1 : Sml M1 z1) (h2 : Sml M2 z2) (he : z1 * (M2 : Int) = z2 * (M1 : Int)) :
    Calls Tryd.prog 24 #[u, v] w fun e w' => e = .returned (.int .i64 0) ∧ Below w.heap.size w w' := by
  have hv2 : LR w v M1 z1 := hv.same h1.1 h2.1 he.symm
  have h9 := RCmp_any u v _ _ _ _ 60 w hu hv2 (Nat.lt_of_le_of_lt (lowN_le h1.1 _) h1.2.2) (Nat.lt_of_le_of_lt (lowN_le h1.1 _) h1.2.2) (Nat.lt_of_le_of_lt (lowD_le _ _) h1.2.1) (Nat.lt_of_le_of_lt (lowD_le _ _) h1.2.1) (by decide)
  rw [Int.sub_self] at h9
  exact h9

/-- A variable that holds such a fraction. -/
def LB (w : World) (b : Nat) (M : Nat) (z : Int) : Prop := ∃ s x l c x' l' c', RBox w b s x l c x' l' c' (lowN M z) (lowD M z)
theorem LB.later {w w' : World} {b M : Nat} {z : Int} (h : LB w b M z) (hb : Below w.heap.size w w') : LB w' b M z := by
  obtain ⟨s, x, l, c, x', l', c', h⟩ := h
  exact ⟨s, x, l, c, x', l', c', h.later hb⟩
theorem LR.sl {w : World} {v : Value} {M : Nat} {z : Int} (h : LR w v M z) : ∃ s ad l cap ad' l' cap', v = .agg #[.bool s, .slice ad l cap, .slice ad' l' cap'] := RatioAt.sl h

set_option maxRecDepth 100000 in
set_option maxHeartbeats 4000000 in
theorem OfFrac_to (p : Int) (q : Nat) (M : Nat) (z : Int) (w : World) (hp0 : -4611686018427387904 ≤ p) (hp1 : p ≤ 4611686018427387904) (hq0 : 0 < q) (hq1 : q ≤ 4611686018427387904) (hM : 0 < M) (he : p * (M : Int) = z * (q : Int)) :
    Calls Tryd.prog 7 #[.agg #[.int .i64 p, .int .i64 (q : Int)]] w fun e w' => ∃ r, e = .returned r ∧ LR w' r M z ∧ Below w.heap.size w w' := by
  obtain ⟨W0, hW0⟩ : ∃ W0, W0 = (w.alloc (.cells #[.int .i64 p, .int .i64 (q : Int)] 24)).alloc (.cells #[.bool false, .slice none 0 0, .slice none 0 0] 31) := ⟨_, rfl⟩
  have hb0 : Below w.heap.size w W0 := by rw [hW0]; exact ((Below.refl _ _).alloc (Nat.le_refl _) _).alloc (by simp) _
  have hro := RatioOf_to p q M z W0 hp0 hp1 hq0 hq1 hM he
  have HR0 : Hid (∀ W, Below W0.heap.size W0 W → RBox W (w.heap.size + 1) false none 0 0 none 0 0 0 0) := fun W hb => by
    have h : RBox W0 (w.heap.size + 1) false none 0 0 none 0 0 0 0 := by
      have := RBox.fresh (w := w.alloc (.cells #[.int .i64 p, .int .i64 (q : Int)] 24)) (n := 0) (d := 0) (s := false) ⟨_, _, rfl, big_none _, big_none _⟩
      rw [World.size_alloc] at this
      rw [hW0]; exact this
    exact h.later hb
  have z0 : W0.cell? ⟨w.heap.size, 0, none⟩ = some (.int .i64 p) := by rw [hW0, World.cell?_alloc_lt _ _ ⟨w.heap.size, 0, none⟩ (by simp), World.cell?_alloc_at _ _ _ _ rfl]; rfl
  have z1 : W0.cell? ⟨w.heap.size, 1, none⟩ = some (.int .i64 (q : Int)) := by rw [hW0, World.cell?_alloc_lt _ _ ⟨w.heap.size, 1, none⟩ (by simp), World.cell?_alloc_at _ _ _ _ rfl]; rfl
  have HB0 := Hid.mk' hb0
  have HW0 := Hid.mk' hW0
  clear hb0 hW0 hq0 hp1 hq1 hp0 he
  go_enter Tryd.func7, Tryd.ntmps7
  go_upto_region 1 with fail
  rw [← HW0.out]
  go_wp2_with fail
  refine hro.mono ?_
  clear hro
  rintro e w1 ⟨r, rfl, hr, hb1⟩
  obtain ⟨s1, x1, l1, c1, x1', l1', c1', rfl⟩ := hr.sl
  have hR := HR0.out _ hb1
  have y0 := hR.c0
  have y1 := hR.c1
  have y2 := hR.c2
  have f0 := hR.fz 0 (by decide)
  have f1 := hR.fz 1 (by decide)
  have f2 := hR.fz 2 (by decide)
  obtain ⟨⟨g0, g1⟩, ⟨g2, g3⟩, g4⟩ := put_three' (.bool s1) (.slice x1 l1 c1) (.slice x1' l1' c1') y0 y1 y2
  have HP := Hid.mk' (hR.put hr)
  have HBF := Hid.mk' (below_chain HB0.out hb1)
  clear hR hr hb1
  unfold put3 at HP
  go_wp2_with fail
  refine bodyPost_ret (v := .agg #[.bool s1, .slice x1 l1 c1, .slice x1' l1' c1']) (by simp [results, Tryd.results7, go_sem, HP.out.c0, HP.out.c1, HP.out.c2]) rfl ⟨_, rfl, HP.out.rat, ?_⟩
  exact (((HBF.out.setCell (Nat.le_succ _) _).setCell (Nat.le_succ _) _).setCell (Nat.le_succ _) _)
end Go.Proofs.YtpdenfjncpfogaaDoor

/- The document's PowerOf and WorthOf. -/
namespace Go.Proofs.YtpdenfjncpfogaaDoor
open Go.RowKit

theorem Sml.of {M : Nat} {z : Int} (h0 : 0 < M) (h1 : M < 1000000 ^ 60) (h2 : z.natAbs < 1000000 ^ 60) : Sml M z := ⟨h0, h1, h2⟩
theorem pow_sml {d n : Nat} {a : Int} (hd : 0 < d) (hd1 : d ≤ 1000) (ha : a.natAbs ≤ 2000) (hn : n ≤ 31) : Sml (d ^ n) (a ^ n) := by
  have h1 : d ^ n ≤ 1000 ^ n := Nat.pow_le_pow_left hd1 n
  have h2 : 1000 ^ n ≤ 1000 ^ 31 := Nat.pow_le_pow_right (by decide) hn
  have h3 : 1000 ^ 31 < 1000000 ^ 60 := by decide
  have h4 : (a ^ n).natAbs = a.natAbs ^ n := Int.natAbs_pow a n
  have h5 : a.natAbs ^ n ≤ 2000 ^ n := Nat.pow_le_pow_left ha n
  have h6 : 2000 ^ n ≤ 2000 ^ 31 := Nat.pow_le_pow_right (by decide) hn
  have h7 : 2000 ^ 31 < 1000000 ^ 60 := by decide
  refine ⟨Nat.pow_pos hd, Nat.lt_of_le_of_lt (Nat.le_trans h1 h2) h3, ?_⟩
  rw [h4]
  exact Nat.lt_of_le_of_lt (Nat.le_trans h5 h6) h7

set_option maxRecDepth 100000 in
set_option maxHeartbeats 8000000 in
theorem PowerOf_any (v : Value) (d n : Nat) (a : Int) (w : World) (hv : LR w v d a) (hd : 0 < d) (hd1 : d ≤ 1000) (ha : a.natAbs ≤ 2000) (hn : n ≤ 30) :
    Calls Tryd.prog 23 #[v, .int .i64 n] w fun e w' => ∃ r, e = .returned r ∧ LR w' r (d ^ n) (a ^ n) ∧ Below w.heap.size w w' := by
  obtain ⟨sv, xv, lv, cv, xv', lv', cv', rfl⟩ := hv.sl
  obtain ⟨W0, hW0⟩ : ∃ W0, W0 = (w.alloc (.cells #[.bool sv, .slice xv lv cv, .slice xv' lv' cv'] 31)).alloc (.cells #[.bool false, .slice none 0 0, .slice none 0 0] 31) := ⟨_, rfl⟩
  have hb0 : Below w.heap.size w W0 := by rw [hW0]; exact ((Below.refl _ _).alloc (Nat.le_refl _) _).alloc (by simp) _
  have HVB : Hid (∀ W, Below W0.heap.size W0 W → RBox W w.heap.size sv xv lv cv xv' lv' cv' (lowN d a) (lowD d a)) := fun W hb => by
    have h1 := RBox.fresh (w := w) hv
    have h2 := h1.later ((Below.refl _ _).alloc (Nat.le_refl _) (.cells #[.bool false, .slice none 0 0, .slice none 0 0] 31))
    rw [← hW0] at h2
    exact h2.later hb
  have HRB : Hid (∀ W, Below W0.heap.size W0 W → RBox W (w.heap.size + 1) false none 0 0 none 0 0 0 0) := fun W hb => by
    have h : RBox W0 (w.heap.size + 1) false none 0 0 none 0 0 0 0 := by
      have := RBox.fresh (w := w.alloc (.cells #[.bool sv, .slice xv lv cv, .slice xv' lv' cv'] 31)) (n := 0) (d := 0) (s := false) ⟨_, _, rfl, big_none _, big_none _⟩
      rw [World.size_alloc] at this
      rw [hW0]; exact this
    exact h.later hb
  have hsz : w.heap.size + 1 < W0.heap.size := by rw [hW0]; simp
  have HSZ := Hid.mk' hsz
  have HRO := Hid.mk' (RatioOf_to 1 1 1 1 W0 (by decide) (by decide) (by decide) (by decide) (by decide) rfl)
  have HW0 := Hid.mk' hW0
  have HB0 := Hid.mk' hb0
  have HSM := Hid.mk' (fun (i : Nat) (hi : i ≤ 31) => pow_sml (n := i) hd hd1 ha hi)
  have HXS : Hid (Sml d a) := by have := HSM.out 1 (by decide); rw [Nat.pow_one, Int.pow_one] at this; exact this
  have hnI : (n : Int) ≤ 30 := by omega
  clear hv hb0 hW0 hsz ha hd1
  go_enter Tryd.func23, Tryd.ntmps23
  go_upto_region 1 with fail
  rw [← HW0.out]
  go_wp2_with fail
  refine HRO.out.mono ?_
  rintro e w1 ⟨r1, rfl, hr1, hb1⟩
  obtain ⟨s1, x1, l1, c1, x1', l1', c1', rfl⟩ := hr1.sl
  have HL1 : Hid (LB (w1.alloc (.cells #[.bool s1, .slice x1 l1 c1, .slice x1' l1' c1'] 31)) w1.heap.size (d ^ 0) (a ^ 0)) := ⟨_, _, _, _, _, _, _, RBox.fresh (hr1.same (Nat.pow_pos hd) (by decide) (by simp))⟩
  have HB1 := Hid.mk' hb1
  have HX1 : Hid (Below w1.heap.size w1 (w1.alloc (.cells #[.bool s1, .slice x1 l1 c1, .slice x1' l1' c1'] 31))) := (Below.refl _ _).alloc (Nat.le_refl _) _
  clear hr1 hb1 HRO
  go_wp2_with fail
  generalize w1.alloc (.cells #[.bool s1, .slice x1 l1 c1, .slice x1' l1' c1'] 31) = W2 at HL1 HX1 ⊢
  go_loopw [6] (fun iv wr => ∃ i : Nat, i ≤ n ∧ iv = .int .i64 i ∧ Hid (LB wr w1.heap.size (d ^ i) (a ^ i)) ∧ Hid (Below w1.heap.size w1 wr)) (fun iv _ => n - (intOf iv).toNat)
  case atStart => exact ⟨0, Nat.zero_le _, rfl, HL1, HX1⟩
  case round =>
    clear HL1 HX1
    obtain ⟨i, hi, rfl, HL, HX⟩ := hrel
    have hi0 : (0 : Int) ≤ (i : Int) := by omega
    obtain ⟨s, x, l, c, x', l', c', hR⟩ := HL.out
    rcases Nat.lt_or_ge i n with h1 | h1
    · have hiI : (i : Int) < (n : Int) := by omega
      have hV := HVB.out wr (below_chain HB1.out HX.out)
      have v0 := hV.c0
      have v1 := hV.c1
      have v2 := hV.c2
      have y0 := hR.c0
      have y1 := hR.c1
      have y2 := hR.c2
      have HTI := Hid.mk' (RTimes_to (.agg #[.bool s, .slice x l c, .slice x' l' c']) (.agg #[.bool sv, .slice xv lv cv, .slice xv' lv' cv']) (d ^ i) d (d ^ (i + 1)) (a ^ i) a (a ^ (i + 1)) wr hR.rat hV.rat (HSM.out i (by omega)) HXS.out (Nat.pow_pos hd) (by rw [Int.pow_succ, Nat.pow_succ, Int.natCast_mul]))
      have HRR := Hid.mk' hR
      clear hR hV
      go_wp2_with fail
      refine HTI.out.mono ?_
      rintro e w5 ⟨r5, rfl, hr5, hb5⟩
      obtain ⟨s5, x5, l5, c5, x5', l5', c5', rfl⟩ := hr5.sl
      have hR5 := HRR.out.later hb5
      clear y0 y1 y2 v0 v1 v2
      have y0 := hR5.c0
      have y1 := hR5.c1
      have y2 := hR5.c2
      have f0 := hR5.fz 0 (by decide)
      have f1 := hR5.fz 1 (by decide)
      have f2 := hR5.fz 2 (by decide)
      obtain ⟨⟨g0, g1⟩, ⟨g2, g3⟩, g4⟩ := put_three' (.bool s5) (.slice x5 l5 c5) (.slice x5' l5' c5') y0 y1 y2
      have HP := Hid.mk' (hR5.put hr5)
      have HBF := Hid.mk' (HX.out.trans (hb5.mono HX.out.size))
      clear hR5 hr5 hb5 HTI HRR
      unfold put3 at HP
      go_wp2_with fail
      refine ⟨⟨i + 1, h1, by go_num, ⟨_, _, _, _, _, _, _, HP.out⟩, ((HBF.out.setCell (Nat.le_refl _) _).setCell (Nat.le_refl _) _).setCell (Nat.le_refl _) _⟩, by simp [intOf]; omega⟩
    · obtain rfl : i = n := by omega
      have hiI : ¬ ((i : Int) < (i : Int)) := by omega
      have y0 := hR.c0
      have y1 := hR.c1
      have y2 := hR.c2
      have hB := HRB.out wr (below_chain HB1.out HX.out)
      have z0 := hB.c0
      have z1 := hB.c1
      have z2 := hB.c2
      have f0 := hB.fz 0 (by decide)
      have f1 := hB.fz 1 (by decide)
      have f2 := hB.fz 2 (by decide)
      obtain ⟨⟨g0, g1⟩, ⟨g2, g3⟩, g4⟩ := put_three' (.bool s) (.slice x l c) (.slice x' l' c') z0 z1 z2
      have HP := Hid.mk' (hB.put hR.rat)
      have HBF := Hid.mk' (below_chain HB0.out (below_chain HB1.out HX.out))
      clear hB hR
      unfold put3 at HP
      go_wp2_with fail
      refine bodyPost_ret (v := .agg #[.bool s, .slice x l c, .slice x' l' c']) (by simp [results, Tryd.results23, go_sem, HP.out.c0, HP.out.c1, HP.out.c2]) rfl ⟨_, rfl, HP.out.rat, ?_⟩
      exact (((HBF.out.setCell (Nat.le_succ _) _).setCell (Nat.le_succ _) _).setCell (Nat.le_succ _) _)

/-- By HORNER: what the last j counts are worth, over d to the power of j. -/
def hoN (c : Nat → Nat) (a : Int) (d n : Nat) : Nat → Int
  | 0 => 0
  | j + 1 => hoN c a d n j * a + (c (n - 1 - j) : Int) * ((d ^ (j + 1) : Nat) : Int)
theorem hoN_le {c : Nat → Nat} {a : Int} {d n C : Nat} (hc : ∀ i, c i ≤ C) (ha : a.natAbs ≤ 1000) (hd : d ≤ 1000) : ∀ j, (hoN c a d n j).natAbs ≤ j * C * 1000 ^ j
  | 0 => by simp [hoN]
  | j + 1 => by
    have ih := hoN_le (n := n) hc ha hd j
    have h1 : (hoN c a d n j * a + (c (n - 1 - j) : Int) * ((d ^ (j + 1) : Nat) : Int)).natAbs ≤ (hoN c a d n j).natAbs * a.natAbs + c (n - 1 - j) * d ^ (j + 1) := by
      refine Nat.le_trans (Int.natAbs_add_le _ _) ?_
      rw [Int.natAbs_mul, Int.natAbs_mul, Int.natAbs_natCast, Int.natAbs_natCast]
      exact Nat.le_refl _
    have h2 : (hoN c a d n j).natAbs * a.natAbs ≤ j * C * 1000 ^ j * 1000 := Nat.mul_le_mul ih ha
    have h3 : c (n - 1 - j) * d ^ (j + 1) ≤ C * 1000 ^ (j + 1) := Nat.mul_le_mul (hc _) (Nat.pow_le_pow_left hd _)
    show (hoN c a d n j * a + (c (n - 1 - j) : Int) * ((d ^ (j + 1) : Nat) : Int)).natAbs ≤ (j + 1) * C * 1000 ^ (j + 1)
    have h4 : j * C * 1000 ^ j * 1000 = j * C * 1000 ^ (j + 1) := by rw [Nat.pow_succ, ← Nat.mul_assoc]
    have h5 : (j + 1) * C * 1000 ^ (j + 1) = j * C * 1000 ^ (j + 1) + C * 1000 ^ (j + 1) := by rw [Nat.succ_mul, Nat.add_mul]
    omega
theorem hoN_sml {c : Nat → Nat} {a : Int} {d n : Nat} (hc : ∀ i, c i ≤ 1099511627776) (ha : a.natAbs ≤ 1000) (hd0 : 0 < d) (hd : d ≤ 1000) {j : Nat} (hj : j ≤ 31) : Sml (d ^ j) (hoN c a d n j) ∧ Sml (d ^ (j + 1)) (hoN c a d n j * a) := by
  have h1 := hoN_le (n := n) hc ha hd j
  have h2 : j * 1099511627776 * 1000 ^ j ≤ 31 * 1099511627776 * 1000 ^ 31 := Nat.mul_le_mul (Nat.mul_le_mul_right _ hj) (Nat.pow_le_pow_right (by decide) hj)
  have h3 : 31 * 1099511627776 * 1000 ^ 31 * 1000 < 1000000 ^ 60 := by decide
  have h4 : 31 * 1099511627776 * 1000 ^ 31 ≤ 31 * 1099511627776 * 1000 ^ 31 * 1000 := Nat.le_mul_of_pos_right _ (by decide)
  have p1 := pow_sml (n := j) (a := 0) hd0 hd (by decide) (by omega)
  have p2 : d ^ (j + 1) < 1000000 ^ 60 := by
    have q1 : d ^ (j + 1) ≤ 1000 ^ (j + 1) := Nat.pow_le_pow_left hd _
    have q2 : 1000 ^ (j + 1) ≤ 1000 ^ 32 := Nat.pow_le_pow_right (by decide) (by omega)
    have q3 : 1000 ^ 32 < 1000000 ^ 60 := by decide
    exact Nat.lt_of_le_of_lt (Nat.le_trans q1 q2) q3
  refine ⟨⟨p1.1, p1.2.1, Nat.lt_of_le_of_lt (Nat.le_trans h1 (Nat.le_trans h2 h4)) h3⟩, ⟨Nat.pow_pos hd0, p2, ?_⟩⟩
  rw [Int.natAbs_mul]
  exact Nat.lt_of_le_of_lt (Nat.mul_le_mul (Nat.le_trans h1 h2) ha) h3
end Go.Proofs.YtpdenfjncpfogaaDoor

/- The document's WorthOf. -/
namespace Go.Proofs.YtpdenfjncpfogaaDoor
open Go.RowKit

set_option maxRecDepth 100000 in
set_option maxHeartbeats 8000000 in
theorem WorthOf_any (v u : Value) (d n : Nat) (a : Int) (c : Nat → Nat) (wy : Bool) (w : World) (hu : NumsAt w u n (fun i => ((c i : Nat) : Int))) (hv : LR w v d a) (hd : 0 < d) (hd1 : d ≤ 1000) (ha : a.natAbs ≤ 1000) (hn : n ≤ 31) (hc : ∀ i, c i ≤ 1048576) :
    Calls Tryd.prog 10 #[u, v, .bool wy] w fun e w' => ∃ r, e = .returned r ∧ LR w' r (d ^ n) (hoN (fun i => if wy then c i * i else c i) a d n n) ∧ Below w.heap.size w w' := by
  obtain ⟨sv, xv, lv, cv, xv', lv', cv', rfl⟩ := hv.sl
  obtain ⟨ua, uc, hue⟩ := hu.form
  subst hue
  obtain ⟨W0, hW0⟩ : ∃ W0, W0 = (w.alloc (.cells #[.bool sv, .slice xv lv cv, .slice xv' lv' cv'] 31)).alloc (.cells #[.bool false, .slice none 0 0, .slice none 0 0] 31) := ⟨_, rfl⟩
  have hb0 : Below w.heap.size w W0 := by rw [hW0]; exact ((Below.refl _ _).alloc (Nat.le_refl _) _).alloc (by simp) _
  have HVB : Hid (∀ W, Below W0.heap.size W0 W → RBox W w.heap.size sv xv lv cv xv' lv' cv' (lowN d a) (lowD d a)) := fun W hb => by
    have h1 := RBox.fresh (w := w) hv
    have h2 := h1.later ((Below.refl _ _).alloc (Nat.le_refl _) (.cells #[.bool false, .slice none 0 0, .slice none 0 0] 31))
    rw [← hW0] at h2
    exact h2.later hb
  have HRB : Hid (∀ W, Below W0.heap.size W0 W → RBox W (w.heap.size + 1) false none 0 0 none 0 0 0 0) := fun W hb => by
    have h : RBox W0 (w.heap.size + 1) false none 0 0 none 0 0 0 0 := by
      have := RBox.fresh (w := w.alloc (.cells #[.bool sv, .slice xv lv cv, .slice xv' lv' cv'] 31)) (n := 0) (d := 0) (s := false) ⟨_, _, rfl, big_none _, big_none _⟩
      rw [World.size_alloc] at this
      rw [hW0]; exact this
    exact h.later hb
  have HNU : Hid (∀ W, Below W0.heap.size W0 W → NumsAt W (.slice ua n uc) n (fun i => ((c i : Nat) : Int))) := fun W hb => hu.later (below_chain hb0 hb)
  have HRO := Hid.mk' (RatioOf_to 0 1 1 0 W0 (by decide) (by decide) (by decide) (by decide) (by decide) rfl)
  have HW0 := Hid.mk' hW0
  have HB0 := Hid.mk' hb0
  obtain ⟨g, hgd⟩ : ∃ g : Nat → Nat, g = fun i => if wy then c i * i else c i := ⟨_, rfl⟩
  have HGD : Hid (∀ i, g i = if wy then c i * i else c i) := fun i => by rw [hgd]
  have HGL : Hid (∀ i, i ≤ 31 → g i ≤ 1099511627776) := fun i hi => by
    rw [hgd]
    have := hc i
    show (if wy then c i * i else c i) ≤ _
    split
    · exact Nat.le_trans (Nat.mul_le_mul this hi) (by decide)
    · omega
  rw [← hgd]
  clear hgd
  obtain ⟨g', hg'⟩ : ∃ g' : Nat → Nat, g' = fun i => if i ≤ 31 then g i else 0 := ⟨_, rfl⟩
  have HEQ : Hid (∀ j, hoN g a d n j = hoN g' a d n j) := fun j => by
    induction j with
    | zero => rfl
    | succ j ih =>
      show hoN g a d n j * a + _ = hoN g' a d n j * a + _
      rw [ih]
      congr 3
      rw [hg']
      show g (n - 1 - j) = if n - 1 - j ≤ 31 then g (n - 1 - j) else 0
      rw [if_pos (by omega)]
  have HSM : Hid (∀ j, j ≤ 31 → Sml (d ^ j) (hoN g a d n j) ∧ Sml (d ^ (j + 1)) (hoN g a d n j * a)) := fun j hj => by
    rw [HEQ.out j]
    exact hoN_sml (fun i => by
      rw [hg']
      show (if i ≤ 31 then g i else 0) ≤ _
      split
      · rename_i h9; exact HGL.out i h9
      · decide) ha hd hd1 hj
  have HXS : Hid (Sml d a) := by have := pow_sml (n := 1) (a := a) hd hd1 (by omega) (by decide); rw [Nat.pow_one, Int.pow_one] at this; exact this
  have HHN : Hid (∀ j, hoN g a d n (j + 1) = hoN g a d n j * a + (g (n - 1 - j) : Int) * ((d ^ (j + 1) : Nat) : Int)) := fun j => rfl
  have hnI : (n : Int) ≤ 31 := by omega
  have hn0 : (0 : Int) ≤ (n : Int) := by omega
  have HC := Hid.mk' hc
  clear hv hu hb0 hW0 ha hd1 hc hg'
  go_enter Tryd.func10, Tryd.ntmps10
  go_upto_region 1 with fail
  rw [← HW0.out]
  go_wp2_with fail
  refine HRO.out.mono ?_
  rintro e w1 ⟨r1, rfl, hr1, hb1⟩
  obtain ⟨s1, x1, l1, c1, x1', l1', c1', rfl⟩ := hr1.sl
  have HL1 : Hid (LB (w1.alloc (.cells #[.bool s1, .slice x1 l1 c1, .slice x1' l1' c1'] 31)) w1.heap.size (d ^ 0) (hoN g a d n 0)) := ⟨_, _, _, _, _, _, _, RBox.fresh (hr1.same (Nat.pow_pos hd) (by decide) (by simp [hoN]))⟩
  have HB1 := Hid.mk' hb1
  have HX1 : Hid (Below w1.heap.size w1 (w1.alloc (.cells #[.bool s1, .slice x1 l1 c1, .slice x1' l1' c1'] 31))) := (Below.refl _ _).alloc (Nat.le_refl _) _
  clear hr1 hb1 HRO
  go_wp2_with fail
  generalize w1.alloc (.cells #[.bool s1, .slice x1 l1 c1, .slice x1' l1' c1'] 31) = W2 at HL1 HX1 ⊢
  go_loopw [8] (fun iv wr => ∃ j : Nat, j ≤ n ∧ iv = .int .i64 ((n : Int) - 1 - (j : Int)) ∧ Hid (LB wr w1.heap.size (d ^ j) (hoN g a d n j)) ∧ Hid (Below w1.heap.size w1 wr)) (fun iv _ => ((intOf iv) + 1).toNat)
  case atStart => exact ⟨0, Nat.zero_le _, by simp, HL1, HX1⟩
  case round =>
    clear HL1 HX1
    obtain ⟨j, hj, rfl, HL, HX⟩ := hrel
    obtain ⟨s, x, l, c5, x', l', c5', hR⟩ := HL.out
    rcases Nat.lt_or_ge j n with h1 | h1
    · obtain ⟨i, hi⟩ : ∃ i : Nat, i = n - 1 - j := ⟨_, rfl⟩
      have hiI : (n : Int) - 1 - (j : Int) = (i : Int) := by omega
      have hin : i < n := by omega
      have hinI : (i : Int) < (n : Int) := by omega
      have hi0 : (0 : Int) ≤ (i : Int) := by omega
      rw [hiI]
      have hV := HVB.out wr (below_chain HB1.out HX.out)
      have v0 := hV.c0
      have v1 := hV.c1
      have v2 := hV.c2
      have y0 := hR.c0
      have y1 := hR.c1
      have y2 := hR.c2
      obtain ⟨ub, uo, hua, hcell⟩ : ∃ ub uo, ua = some ⟨ub, uo, none⟩ ∧ wr.cell? ⟨ub, uo + i, none⟩ = some (.int .i64 ((c i : Nat) : Int)) := by
        rcases HNU.out wr (below_chain HB1.out HX.out) with ⟨_, _, _, h0⟩ | ⟨b, o, cap, hv9, _, hr9⟩
        · omega
        · simp only [Value.slice.injEq] at hv9
          exact ⟨b, o, hv9.1, hr9 i hin⟩
      subst hua
      have hci := HC.out i
      have hciI : ((c i : Nat) : Int) ≤ 1048576 := by omega
      have hci0 : (0 : Int) ≤ ((c i : Nat) : Int) := by omega
      have HGI := Hid.mk' (HGD.out i)
      have hgl := HGL.out i (by omega)
      have HTI := Hid.mk' (RTimes_to (.agg #[.bool s, .slice x l c5, .slice x' l' c5']) (.agg #[.bool sv, .slice xv lv cv, .slice xv' lv' cv']) (d ^ j) d (d ^ (j + 1)) (hoN g a d n j) a (hoN g a d n j * a) wr hR.rat hV.rat (HSM.out j (by omega)).1 HXS.out (Nat.pow_pos hd) (by rw [Nat.pow_succ, Int.natCast_mul]))
      have HRO2 : Hid (∀ W, Calls Tryd.prog 20 #[.int .i64 ((g i : Nat) : Int), .int .i64 1] W fun e w' => ∃ r, e = .returned r ∧ LR w' r 1 ((g i : Nat) : Int) ∧ Below W.heap.size W w') := fun W => RatioOf_to (g i) 1 1 (g i) W (by omega) (by omega) (by decide) (by decide) (by decide) rfl
      have HSI : Hid (Sml 1 ((g i : Nat) : Int)) := ⟨by decide, by decide, by rw [Int.natAbs_natCast]; exact Nat.lt_of_le_of_lt hgl (by decide)⟩
      have HPL : Hid (∀ W u1 u2, LR W u1 (d ^ (j + 1)) (hoN g a d n j * a) → LR W u2 1 ((g i : Nat) : Int) → Calls Tryd.prog 21 #[u1, u2] W fun e w' => ∃ r, e = .returned r ∧ LR w' r (d ^ (j + 1)) (hoN g a d n (j + 1)) ∧ Below W.heap.size W w') := fun W u1 u2 h9 h8 => RPlus_to u1 u2 (d ^ (j + 1)) 1 (d ^ (j + 1)) (hoN g a d n j * a) ((g i : Nat) : Int) _ W h9 h8 (HSM.out j (by omega)).2 HSI.out (Nat.pow_pos hd) (by rw [HHN.out j, ← hi]; simp)
      have HRR := Hid.mk' hR
      clear hR hV hi
      cases wy with
      | true =>
        have hgi : ((g i : Nat) : Int) = ((c i : Nat) : Int) * (i : Int) := by have := HGI.out; rw [if_pos rfl] at this; rw [this, Int.natCast_mul]
        have hpb : ((c i : Nat) : Int) * (i : Int) ≤ 1099511627776 := by rw [← hgi]; omega
        have hpb0 : (0 : Int) ≤ ((c i : Nat) : Int) * (i : Int) := Int.mul_nonneg hci0 hi0
        obtain ⟨G, hG⟩ : ∃ G : Nat, G = g i := ⟨_, rfl⟩
        rw [← hG] at hgi hgl HRO2 HPL
        have hGE : ((c i : Nat) : Int) * (i : Int) = (G : Int) := hgi.symm
        clear hgi hG hpb hpb0 HGI
        have hGI : (G : Int) ≤ 1099511627776 := by omega
        generalize c i = ci at *
        go_wp2_with fail
        refine HTI.out.mono ?_
        rintro e w4 ⟨r4, rfl, hr4, hb4⟩
        have HR4 := Hid.mk' hr4
        have HY4 := Hid.mk' (HX.out.trans (hb4.mono HX.out.size))
        have HRR4 := Hid.mk' (HRR.out.later hb4)
        obtain ⟨s4, x4, l4, c4, x4', l4', c4', rfl⟩ := hr4.sl
        clear hr4 hb4 HTI HRR y0 y1 y2 v0 v1 v2 hcell
        go_wp2_with fail
        refine (HRO2.out _).mono ?_
        rintro e w5 ⟨r5, rfl, hr5, hb5⟩
        have HPC := Hid.mk' (HPL.out w5 _ _ (HR4.out.later hb5) hr5)
        have HY5 := Hid.mk' (HY4.out.trans (hb5.mono HY4.out.size))
        have HRR5 := Hid.mk' (HRR4.out.later hb5)
        obtain ⟨s5, x5, l5, c5, x5', l5', c5', rfl⟩ := hr5.sl
        clear hr5 hb5 HR4 HY4 HRR4 HRO2 HPL
        go_wp2_with fail
        refine HPC.out.mono ?_
        rintro e w6 ⟨r6, rfl, hr6, hb6⟩
        obtain ⟨s6, x6, l6, c6, x6', l6', c6', rfl⟩ := hr6.sl
        have hR6 := HRR5.out.later hb6
        have y0 := hR6.c0
        have y1 := hR6.c1
        have y2 := hR6.c2
        have f0 := hR6.fz 0 (by decide)
        have f1 := hR6.fz 1 (by decide)
        have f2 := hR6.fz 2 (by decide)
        obtain ⟨⟨g0, g1⟩, ⟨g2, g3⟩, g4⟩ := put_three' (.bool s6) (.slice x6 l6 c6) (.slice x6' l6' c6') y0 y1 y2
        have HP := Hid.mk' (hR6.put hr6)
        have HBF := Hid.mk' (HY5.out.trans (hb6.mono HY5.out.size))
        clear hR6 hr6 hb6 HPC HRR5 HY5
        unfold put3 at HP
        go_wp2_with fail
        refine ⟨⟨j + 1, h1, by go_num, ⟨_, _, _, _, _, _, _, HP.out⟩, ((HBF.out.setCell (Nat.le_refl _) _).setCell (Nat.le_refl _) _).setCell (Nat.le_refl _) _⟩, by simp [intOf] <;> omega⟩
      | false =>
        have hgi : g i = c i := by have := HGI.out; rwa [if_neg (by decide)] at this
        rw [hgi] at HRO2 HPL
        clear hgi hgl HGI
        generalize c i = ci at *
        go_wp2_with fail
        refine HTI.out.mono ?_
        rintro e w4 ⟨r4, rfl, hr4, hb4⟩
        have HR4 := Hid.mk' hr4
        have HY4 := Hid.mk' (HX.out.trans (hb4.mono HX.out.size))
        have HRR4 := Hid.mk' (HRR.out.later hb4)
        obtain ⟨s4, x4, l4, c4, x4', l4', c4', rfl⟩ := hr4.sl
        clear hr4 hb4 HTI HRR y0 y1 y2 v0 v1 v2 hcell
        go_wp2_with fail
        refine (HRO2.out _).mono ?_
        rintro e w5 ⟨r5, rfl, hr5, hb5⟩
        have HPC := Hid.mk' (HPL.out w5 _ _ (HR4.out.later hb5) hr5)
        have HY5 := Hid.mk' (HY4.out.trans (hb5.mono HY4.out.size))
        have HRR5 := Hid.mk' (HRR4.out.later hb5)
        obtain ⟨s5, x5, l5, c5, x5', l5', c5', rfl⟩ := hr5.sl
        clear hr5 hb5 HR4 HY4 HRR4 HRO2 HPL
        go_wp2_with fail
        refine HPC.out.mono ?_
        rintro e w6 ⟨r6, rfl, hr6, hb6⟩
        obtain ⟨s6, x6, l6, c6, x6', l6', c6', rfl⟩ := hr6.sl
        have hR6 := HRR5.out.later hb6
        have y0 := hR6.c0
        have y1 := hR6.c1
        have y2 := hR6.c2
        have f0 := hR6.fz 0 (by decide)
        have f1 := hR6.fz 1 (by decide)
        have f2 := hR6.fz 2 (by decide)
        obtain ⟨⟨g0, g1⟩, ⟨g2, g3⟩, g4⟩ := put_three' (.bool s6) (.slice x6 l6 c6) (.slice x6' l6' c6') y0 y1 y2
        have HP := Hid.mk' (hR6.put hr6)
        have HBF := Hid.mk' (HY5.out.trans (hb6.mono HY5.out.size))
        clear hR6 hr6 hb6 HPC HRR5 HY5
        unfold put3 at HP
        go_wp2_with fail
        refine ⟨⟨j + 1, h1, by go_num, ⟨_, _, _, _, _, _, _, HP.out⟩, ((HBF.out.setCell (Nat.le_refl _) _).setCell (Nat.le_refl _) _).setCell (Nat.le_refl _) _⟩, by simp [intOf] <;> omega⟩
    · obtain rfl : j = n := by omega
      have hiI : ¬ ((0 : Int) ≤ (j : Int) - 1 - (j : Int)) := by omega
      have hjj : (j : Int) - 1 - (j : Int) = -1 := by omega
      rw [hjj]
      have y0 := hR.c0
      have y1 := hR.c1
      have y2 := hR.c2
      have hB := HRB.out wr (below_chain HB1.out HX.out)
      have z0 := hB.c0
      have z1 := hB.c1
      have z2 := hB.c2
      have f0 := hB.fz 0 (by decide)
      have f1 := hB.fz 1 (by decide)
      have f2 := hB.fz 2 (by decide)
      obtain ⟨⟨g0, g1⟩, ⟨g2, g3⟩, g4⟩ := put_three' (.bool s) (.slice x l c5) (.slice x' l' c5') z0 z1 z2
      have HP := Hid.mk' (hB.put hR.rat)
      have HBF := Hid.mk' (below_chain HB0.out (below_chain HB1.out HX.out))
      clear hB hR
      unfold put3 at HP
      go_wp2_with fail
      refine bodyPost_ret (v := .agg #[.bool s, .slice x l c5, .slice x' l' c5']) (by simp [results, Tryd.results10, go_sem, HP.out.c0, HP.out.c1, HP.out.c2]) rfl ⟨_, rfl, HP.out.rat, ?_⟩
      exact (((HBF.out.setCell (Nat.le_succ _) _).setCell (Nat.le_succ _) _).setCell (Nat.le_succ _) _)
end Go.Proofs.YtpdenfjncpfogaaDoor

/- VAN DER WAERDEN's expansion: a sum over states is a sum over even sets of bonds. -/
namespace Go.Proofs.YtpdenfjncpfogaaDoor

/-- Sums of numbers of any sign. -/
def sI (f : Nat → Int) : Nat → Int
  | 0 => 0
  | n + 1 => sI f n + f n
theorem sI_congr {f g : Nat → Int} : ∀ {n : Nat}, (∀ i, i < n → f i = g i) → sI f n = sI g n
  | 0, _ => rfl
  | n + 1, h => by
    show sI f n + f n = sI g n + g n
    rw [sI_congr (fun i hi => h i (by omega)), h n (by omega)]
theorem sI_add (f g : Nat → Int) : ∀ n, sI (fun i => f i + g i) n = sI f n + sI g n
  | 0 => rfl
  | n + 1 => by
    show sI _ n + (f n + g n) = (sI f n + f n) + (sI g n + g n)
    rw [sI_add f g n]
    omega
theorem sI_mul (c : Int) (f : Nat → Int) : ∀ n, sI (fun i => c * f i) n = c * sI f n
  | 0 => by simp [sI]
  | n + 1 => by
    show sI _ n + c * f n = c * (sI f n + f n)
    rw [sI_mul c f n, Int.mul_add]
theorem sI_zero : ∀ n, sI (fun _ => 0) n = 0
  | 0 => rfl
  | n + 1 => by show sI _ n + 0 = 0; rw [sI_zero n]; rfl
theorem sI_split (f : Nat → Int) (a : Nat) : ∀ b, sI f (a + b) = sI f a + sI (fun i => f (a + i)) b
  | 0 => by simp [sI]
  | b + 1 => by
    show sI f (a + b) + f (a + b) = sI f a + (sI _ b + f (a + b))
    rw [sI_split f a b]
    omega
theorem sI_first (f : Nat → Int) (n : Nat) : sI f (n + 1) = f 0 + sI (fun k => f (k + 1)) n := by
  have h := sI_split f 1 n
  rw [Nat.add_comm 1 n] at h
  rw [h]
  show (0 + f 0) + _ = _
  rw [Int.zero_add]
  congr 1
  exact sI_congr fun i _ => by rw [Nat.add_comm]

/-- The sign of a state at a set of spins. -/
def chi (o s : Nat) : Nat → Int
  | 0 => 1
  | i + 1 => chi o s i * (if o.testBit i && s.testBit i then -1 else 1)
theorem chi_xor (o e s : Nat) : ∀ n, chi (o ^^^ e) s n = chi o s n * chi e s n
  | 0 => rfl
  | n + 1 => by
    show chi (o ^^^ e) s n * _ = (chi o s n * _) * (chi e s n * _)
    rw [chi_xor o e s n, Nat.testBit_xor]
    cases o.testBit n <;> cases e.testBit n <;> cases s.testBit n <;> simp <;> grind
theorem chi_none (s : Nat) : ∀ n, chi 0 s n = 1
  | 0 => rfl
  | n + 1 => by
    show chi 0 s n * _ = 1
    rw [chi_none s n]
    simp
theorem chi_pow (a s : Nat) : ∀ n, chi (2 ^ a) s n = if a < n then (if s.testBit a then -1 else 1) else 1
  | 0 => rfl
  | n + 1 => by
    show chi (2 ^ a) s n * _ = _
    rw [chi_pow a s n, Nat.testBit_two_pow]
    by_cases h1 : a < n
    · have h2 : ¬ a = n := by omega
      rw [if_pos h1, if_pos (show a < n + 1 by omega)]
      simp [h2]
    · rw [if_neg h1]
      by_cases h2 : a = n
      · subst h2
        rw [if_pos (show a < a + 1 by omega)]
        simp
      · rw [if_neg (show ¬ a < n + 1 by omega)]
        simp [h2]
theorem chi_low (o : Nat) {s t : Nat} : ∀ n, (∀ i, i < n → s.testBit i = t.testBit i) → chi o s n = chi o t n
  | 0, _ => rfl
  | n + 1, h => by
    show chi o s n * _ = chi o t n * _
    rw [chi_low o n (fun i hi => h i (by omega)), h n (by omega)]
/-- All signs together. -/
def smN (o : Nat) : Nat → Int
  | 0 => 1
  | n + 1 => if o.testBit n then 0 else 2 * smN o n
theorem chi_sum (o : Nat) : ∀ n, sI (fun s => chi o s n) (2 ^ n) = smN o n
  | 0 => rfl
  | n + 1 => by
    rw [Nat.pow_succ, Nat.mul_two, sI_split]
    have e1 : sI (fun s => chi o s (n + 1)) (2 ^ n) = smN o n := by
      rw [← chi_sum o n]
      refine sI_congr fun s hs => ?_
      show chi o s n * _ = _
      rw [Nat.testBit_lt_two_pow hs]
      simp
    have e2 : sI (fun i => chi o (2 ^ n + i) (n + 1)) (2 ^ n) = (if o.testBit n then -1 else 1) * smN o n := by
      rw [← chi_sum o n, ← sI_mul]
      refine sI_congr fun s hs => ?_
      show chi o (2 ^ n + s) n * _ = _
      have e3 : (2 ^ n + s).testBit n = true := by
        have := Nat.testBit_two_pow_add_eq s n
        rw [this, Nat.testBit_lt_two_pow hs]
        rfl
      rw [e3, chi_low o n (t := s) (fun i hi => Nat.testBit_two_pow_add_gt hi s), Int.mul_comm]
      simp
    rw [e1, e2, smN]
    split <;> omega
theorem smN_zero : ∀ n, smN 0 n = 2 ^ n
  | 0 => rfl
  | n + 1 => by rw [smN, if_neg (by simp), smN_zero n, Int.pow_succ, Int.mul_comm]
theorem smN_none (o : Nat) : ∀ n, o < 2 ^ n → o ≠ 0 → smN o n = 0
  | 0, h, h0 => by omega
  | n + 1, h, h0 => by
    rw [smN]
    split
    · rfl
    · rename_i hb
      have hlt : o < 2 ^ n := by
        rcases Nat.lt_or_ge o (2 ^ n) with h1 | h1
        · exact h1
        · exfalso
          apply hb
          have h2 : o / 2 ^ n = 1 := by
            have h3 : o / 2 ^ n < 2 := Nat.div_lt_of_lt_mul (by rw [← Nat.pow_succ]; exact h)
            have h4 : 1 ≤ o / 2 ^ n := (Nat.le_div_iff_mul_le (Nat.two_pow_pos n)).2 (by omega)
            omega
          rw [Nat.testBit_eq_decide_div_mod_eq, h2]
          rfl
      rw [smN_none o n hlt h0]
      rfl

/-- The product over bonds, and its expansion. -/
def prI (S D : Int) (n s : Nat) : List Nat → Int
  | [] => 1
  | e :: l => (S + D * chi e s n) * prI S D n s l
def psi (S D : Int) : List Nat → Nat → Int
  | [], o => if o = 0 then 1 else 0
  | e :: l, o => S * psi S D l o + D * psi S D l (o ^^^ e)
theorem pr_psi (S D : Int) (n : Nat) : ∀ (l : List Nat) (o : Nat), o < 2 ^ n → (∀ e, e ∈ l → e < 2 ^ n) → sI (fun s => chi o s n * prI S D n s l) (2 ^ n) = 2 ^ n * psi S D l o
  | [], o, ho, _ => by
    have e1 : sI (fun s => chi o s n * prI S D n s []) (2 ^ n) = smN o n := by
      rw [← chi_sum o n]
      exact sI_congr fun s _ => by show chi o s n * 1 = _; rw [Int.mul_one]
    rw [e1, psi]
    by_cases h : o = 0
    · subst h; rw [if_pos rfl, smN_zero, Int.mul_one]
    · rw [if_neg h, smN_none o n ho h, Int.mul_zero]
  | e :: l, o, ho, hl => by
    have he := hl e List.mem_cons_self
    have h1 := pr_psi S D n l o ho (fun x hx => hl x (List.mem_cons_of_mem _ hx))
    have h2 := pr_psi S D n l (o ^^^ e) (Nat.xor_lt_two_pow ho he) (fun x hx => hl x (List.mem_cons_of_mem _ hx))
    have e1 : sI (fun s => chi o s n * prI S D n s (e :: l)) (2 ^ n) = sI (fun s => S * (chi o s n * prI S D n s l) + D * (chi (o ^^^ e) s n * prI S D n s l)) (2 ^ n) := sI_congr fun s _ => by
      show chi o s n * ((S + D * chi e s n) * prI S D n s l) = _
      rw [chi_xor]
      grind
    rw [e1, sI_add, sI_mul, sI_mul, h1, h2, psi]
    grind
/-- The expansion by how many bonds there are. -/
theorem psi_sum (S D : Int) : ∀ (l : List Nat) (o : Nat), psi S D l o = sI (fun k => (subN l o k : Int) * D ^ k * S ^ (l.length - k)) (l.length + 1)
  | [], o => by
    show (if o = 0 then (1 : Int) else 0) = 0 + ((if o = 0 ∧ 0 = 0 then 1 else 0 : Nat) : Int) * D ^ 0 * S ^ (0 - 0)
    by_cases h : o = 0
    · simp [h]
    · simp [h]
  | e :: l, o => by
    have h1 := psi_sum S D l o
    have h2 := psi_sum S D l (o ^^^ e)
    have e1 : sI (fun k => (subN (e :: l) o k : Int) * D ^ k * S ^ ((e :: l).length - k)) ((e :: l).length + 1) = sI (fun k => (subN l o k : Int) * D ^ k * S ^ (l.length + 1 - k)) (l.length + 1 + 1) + sI (fun k => D * ((subN l (o ^^^ e) k : Int) * D ^ k * S ^ (l.length - k))) (l.length + 1) := by
      show sI _ (l.length + 1 + 1) = _
      rw [sI_first, sI_first (fun k => (subN l o k : Int) * D ^ k * S ^ (l.length + 1 - k)), Int.add_assoc, ← sI_add]
      congr 1
      refine sI_congr fun k _ => ?_
      show ((subN l o (k + 1) + subN l (o ^^^ e) k : Nat) : Int) * D ^ (k + 1) * S ^ (l.length + 1 - (k + 1)) = _
      rw [show l.length + 1 - (k + 1) = l.length - k by omega, Int.natCast_add, Int.pow_succ]
      grind
    have e2 : sI (fun k => (subN l o k : Int) * D ^ k * S ^ (l.length + 1 - k)) (l.length + 1 + 1) = S * sI (fun k => (subN l o k : Int) * D ^ k * S ^ (l.length - k)) (l.length + 1) := by
      show sI _ (l.length + 1) + (subN l o (l.length + 1) : Int) * D ^ (l.length + 1) * S ^ (l.length + 1 - (l.length + 1)) = _
      rw [subN_many l o (l.length + 1) (Nat.lt_succ_self _), ← sI_mul]
      have e3 : sI (fun k => (subN l o k : Int) * D ^ k * S ^ (l.length + 1 - k)) (l.length + 1) = sI (fun k => S * ((subN l o k : Int) * D ^ k * S ^ (l.length - k))) (l.length + 1) := sI_congr fun k hk => by
        rw [show l.length + 1 - k = l.length - k + 1 by omega, Int.pow_succ]
        grind
      rw [e3]
      simp
    rw [e1, e2, sI_mul, ← h1, ← h2]
    rfl
/-- Sums over states by how many bonds are unlike. -/
theorem sI_count (f : Nat → Nat) (g : Nat → Int) (m : Nat) : ∀ T, (∀ s, s < T → f s ≤ m) → sI (fun s => g (f s)) T = sI (fun k => (cntK f k T : Int) * g k) (m + 1)
  | 0, _ => by
    have : sI (fun k => (cntK f k 0 : Int) * g k) (m + 1) = sI (fun _ => 0) (m + 1) := sI_congr fun k _ => by show ((0 : Nat) : Int) * g k = 0; simp
    rw [this, sI_zero]
    rfl
  | T + 1, h => by
    have e1 : sI (fun k => (cntK f k (T + 1) : Int) * g k) (m + 1) = sI (fun k => (cntK f k T : Int) * g k + (if f T = k then g (f T) else 0)) (m + 1) := sI_congr fun k _ => by
      show ((cntK f k T + (if f T = k then 1 else 0) : Nat) : Int) * g k = _
      by_cases e : f T = k
      · rw [if_pos e, if_pos e, Int.natCast_add, e]
        grind
      · rw [if_neg e, if_neg e]
        simp
    have e2 : ∀ (x : Int) (c n : Nat), sI (fun k => if c = k then x else 0) n = if c < n then x else 0 := fun x c n => by
      induction n with
      | zero => rfl
      | succ n ih =>
        show sI _ n + (if c = n then x else 0) = _
        rw [ih]
        by_cases h1 : c < n
        · rw [if_pos h1, if_neg (show ¬ c = n by omega), if_pos (show c < n + 1 by omega), Int.add_zero]
        · rw [if_neg h1, Int.zero_add]
          by_cases h2 : c = n
          · rw [if_pos h2, if_pos (show c < n + 1 by omega)]
          · rw [if_neg h2, if_neg (show ¬ c < n + 1 by omega)]
    have hT := h T (Nat.lt_succ_self _)
    rw [e1, sI_add, e2, if_pos (show f T < m + 1 by omega), ← sI_count f g m T (fun s hs => h s (by omega))]
    rfl
/-- A bond's factor. -/
theorem chi_bond {p q : Nat → Nat} {i n : Nat} (hp : p i < n) (hq : q i < n) (hne : p i ≠ q i) (X Y : Int) (s : Nat) : (X + Y) + (Y - X) * chi (endB p q i) s n = 2 * (if unB s (p i) (q i) = 0 then Y else X) := by
  rw [← endB_xor hne, chi_xor, chi_pow, chi_pow, if_pos hp, if_pos hq, unB_eq]
  have e1 : ∀ a, s.testBit a = decide (s >>> a % 2 = 1) := fun a => by rw [Nat.testBit_eq_decide_div_mod_eq, Nat.shiftRight_eq_div_pow]
  rw [e1, e1]
  rcases Nat.mod_two_eq_zero_or_one (s >>> p i) with h1 | h1 <;> rcases Nat.mod_two_eq_zero_or_one (s >>> q i) with h2 | h2 <;> simp [h1, h2] <;> grind
theorem pr_state {p q : Nat → Nat} {n : Nat} (X Y : Int) (s : Nat) : ∀ m, (∀ i, i < m → p i < n ∧ q i < n ∧ p i ≠ q i) → prI (X + Y) (Y - X) n s (endL p q m) = 2 ^ m * (X ^ unl p q s m * Y ^ (m - unl p q s m))
  | 0, _ => by simp [endL, prI, unl]
  | m + 1, h => by
    have hs : ∀ (S D : Int) (l : List Nat) (e : Nat), prI S D n s (l ++ [e]) = prI S D n s l * (S + D * chi e s n) := fun S D l e => by
      induction l with
      | nil => simp [prI]
      | cons x l ih =>
        show (S + D * chi x s n) * prI S D n s (l ++ [e]) = _
        rw [ih]
        show _ = ((S + D * chi x s n) * prI S D n s l) * _
        grind
    obtain ⟨h1, h2, h3⟩ := h m (by omega)
    have hle := unl_le p q s m
    have hu : unl p q s (m + 1) = unl p q s m + unB s (p m) (q m) := rfl
    rw [endL, hs, pr_state X Y s m (fun i hi => h i (by omega)), chi_bond h1 h2 h3, hu, Int.pow_succ]
    have hb := unB_le s (p m) (q m)
    rcases (show unB s (p m) (q m) = 0 ∨ unB s (p m) (q m) = 1 by omega) with e | e
    · rw [e, if_pos rfl, Nat.add_zero, show m + 1 - unl p q s m = m - unl p q s m + 1 by omega, Int.pow_succ]
      grind
    · rw [e, if_neg (by decide), show m + 1 - (unl p q s m + 1) = m - unl p q s m by omega, Int.pow_succ]
      grind
theorem vdw {p q : Nat → Nat} {n m : Nat} (h : ∀ i, i < m → p i < n ∧ q i < n ∧ p i ≠ q i) (X Y : Int) :
    2 ^ m * sI (fun k => (stK p q n m k : Int) * (X ^ k * Y ^ (m - k))) (m + 1) = 2 ^ n * sI (fun k => (evC p q m k 0 : Int) * (Y - X) ^ k * (X + Y) ^ (m - k)) (m + 1) := by
  have hl : ∀ e, e ∈ endL p q m → e < 2 ^ n := by
    have h9 : ∀ j, j ≤ m → ∀ e, e ∈ endL p q j → e < 2 ^ n := fun j => by
      induction j with
      | zero => intro _ e he; simp [endL] at he
      | succ j ih =>
        intro hj e he
        rw [endL, List.mem_append] at he
        rcases he with he | he
        · exact ih (by omega) e he
        · rw [List.mem_singleton.1 he]
          exact endB_lt (h j (by omega)).1 (h j (by omega)).2.1
    exact h9 m (Nat.le_refl _)
  have h1 := pr_psi (X + Y) (Y - X) n (endL p q m) 0 (Nat.two_pow_pos n) hl
  rw [psi_sum, endL_length] at h1
  have e1 : sI (fun s => chi 0 s n * prI (X + Y) (Y - X) n s (endL p q m)) (2 ^ n) = 2 ^ m * sI (fun s => X ^ unl p q s m * Y ^ (m - unl p q s m)) (2 ^ n) := by
    rw [← sI_mul]
    exact sI_congr fun s _ => by rw [chi_none, Int.one_mul, pr_state X Y s m h]
  rw [e1, sI_count (fun s => unl p q s m) (fun k => X ^ k * Y ^ (m - k)) m (2 ^ n) (fun s _ => unl_le p q s m)] at h1
  exact h1
end Go.Proofs.YtpdenfjncpfogaaDoor
