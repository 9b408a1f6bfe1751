/- The document's Plus. -/
import Derived.Test.YtkglaiigoogapaaGreatDoorPackA
import Derived.Deep.CutRange
import Derived.Test.YtkglaiigoogapaaGreatDoorLrP
import Derived.Test.YtkglaiigoogapaaGreatDoorCutP
import Derived.Test.YtkglaiigoogapaaGreatDoorLrMath
namespace Go.Proofs.YtkglaiigoogapaaGreatDoor
open Go.RowKit

theorem new_below (w : World) (X : Obj) : Below w.heap.size w (w.alloc X) := (Below.refl _ _).alloc (Nat.le_refl _) _
theorem more_below {w W : World} (h : Below w.heap.size w W) (X : Obj) : Below w.heap.size w (W.alloc X) := h.alloc h.size X
theorem setB_below {W0 W : World} {B : Nat} (h : Below W0.heap.size W0 W) (hB : W0.heap.size ≤ B) (x y : Value) : Below W0.heap.size W0 ((W.setCell ⟨B, 0, none⟩ x).setCell ⟨B, 1, none⟩ y) := (h.setCell hB _).setCell hB _
/-- The box of a number with a sign, in the making. -/
structure NewBox (W0 W : World) (B : Nat) : Prop where
  c0 : W.cell? ⟨B, 0, none⟩ = some (.bool false)
  c1 : W.cell? ⟨B, 1, none⟩ = some (.slice none 0 0)
  f0 : W.frozen? ⟨B, 0, none⟩ = false
  f1 : W.frozen? ⟨B, 1, none⟩ = false
  no : NoInts W B
  hB : W0.heap.size ≤ B
theorem NewBox.later {W0 W W' : World} {B : Nat} (h : NewBox W0 W B) (hb : Below W.heap.size W W') : NewBox W0 W' B :=
  ⟨(cell_past h.c0 hb).2, (cell_past h.c1 hb).2, (frozen_past h.c0 h.f0 hb).2, (frozen_past h.c1 h.f1 hb).2, h.no.later (cell_lt h.c0) hb, h.hB⟩
theorem newBox_of {W0 W W' : World} (h : Below W0.heap.size W0 W) (hb : Below (W.alloc (.cells #[.bool false, .slice none 0 0] 31)).heap.size (W.alloc (.cells #[.bool false, .slice none 0 0] 31)) W') : NewBox W0 W' W.heap.size := by
  obtain ⟨c0, c1, f0, f1⟩ := res_past hb
  exact ⟨c0, c1, f0, f1, (noInts_new2 W false none 0 0 _).later (by simp) hb, h.size⟩
/-- The sum's box. -/
structure SignBox (W0 W : World) (B : Nat) (z : Int) : Prop where
  below : Below W0.heap.size W0 W
  box : ∃ u, W.cell? ⟨B, 0, none⟩ = some (.bool (decide (z < 0))) ∧ W.cell? ⟨B, 1, none⟩ = some u ∧ BigAt W u z.natAbs
  hB : W0.heap.size ≤ B
theorem signBox_late {W0 W : World} {z : Int} {ad : Option Addr} {l cap : Nat} (h : Below W0.heap.size W0 W) (hu : BigAt W (.slice ad l cap) z.natAbs) : SignBox W0 (W.alloc (.cells #[.bool (decide (z < 0)), .slice ad l cap] 31)) W.heap.size z :=
  ⟨more_below h _, ⟨.slice ad l cap, by rw [World.cell?_alloc_at _ _ _ _ rfl]; rfl, by rw [World.cell?_alloc_at _ _ _ _ rfl]; rfl, hu.later (new_below _ _)⟩, h.size⟩
theorem signBox_soon {W0 W : World} {B : Nat} {z : Int} {ad : Option Addr} {l cap : Nat} (h : Below W0.heap.size W0 W) (hu : BigAt W (.slice ad l cap) z.natAbs) (hn : NewBox W0 W B) : SignBox W0 ((W.setCell ⟨B, 0, none⟩ (.bool (decide (z < 0)))).setCell ⟨B, 1, none⟩ (.slice ad l cap)) B z :=
  ⟨setB_below h hn.hB _ _, ⟨.slice ad l cap, by rw [World.cell?_setCell_other _ _ _ _ (by simp)]; exact World.cell?_setCell_same _ _ _ hn.c0, World.cell?_setCell_same _ _ _ (by rw [World.cell?_setCell_other _ _ _ _ (by simp)]; exact hn.c1), hu.set2 hn.no hn.c0 hn.c1⟩, hn.hB⟩

set_option maxRecDepth 10000 in
set_option maxHeartbeats 4000000 in
/-- Plus: the sum, in its lowest terms. -/
theorem Plus_ratio (v1 v2 : Value) (n1 n2 : Int) (d1 d2 k : Nat) (w : World) (h1 : RatioAt w v1 n1 d1) (h2 : RatioAt w v2 n2 d2) (hd1 : 0 < d1) (hd2 : 0 < d2) (hn1 : n1.natAbs < 1000000 ^ k) (hn2 : n2.natAbs < 1000000 ^ k) (hk1 : d1 < 1000000 ^ k) (hk2 : d2 < 1000000 ^ k) (hk : k + k + 1 + 1 ≤ 1000000) :
    Calls Tryz.prog 14 #[v1, v2] w fun e w' => ∃ r, e = .returned r ∧ RatioAt w' r ((n1 * d2 + n2 * d1).tdiv ((Nat.gcd (n1 * d2 + n2 * d1).natAbs (d1 * d2) : Nat) : Int)) (d1 * d2 / Nat.gcd (n1 * d2 + n2 * d1).natAbs (d1 * d2)) ∧ Below w.heap.size w w' := by
  obtain ⟨u1, q1, rfl, hu1, hq1⟩ := h1
  obtain ⟨u2, q2, rfl, hu2, hq2⟩ := h2
  obtain ⟨ad1, l1, cap1, rfl, _⟩ := hu1.len
  obtain ⟨bd1, m1, bap1, rfl, _⟩ := hq1.len
  obtain ⟨ad2, l2, cap2, rfl, _⟩ := hu2.len
  obtain ⟨bd2, m2, bap2, rfl, _⟩ := hq2.len
  obtain ⟨s1, hs1⟩ : ∃ s, decide (n1 < 0) = s := ⟨_, rfl⟩
  obtain ⟨s2, hs2⟩ : ∃ s, decide (n2 < 0) = s := ⟨_, rfl⟩
  rw [hs1, hs2]
  have hB0 : Below w.heap.size w (((w.alloc (.cells #[.bool s1, .slice ad1 l1 cap1, .slice bd1 m1 bap1] 33)).alloc (.cells #[.bool s2, .slice ad2 l2 cap2, .slice bd2 m2 bap2] 33)).alloc (.cells #[.bool false, .slice none 0 0, .slice none 0 0] 33)) := (((Below.refl _ _).alloc (Nat.le_refl _) _).alloc (by simp) _).alloc (by simp; omega) _
  have hN := noInts_third3 w (.cells #[.bool s1, .slice ad1 l1 cap1, .slice bd1 m1 bap1] 33) (.cells #[.bool s2, .slice ad2 l2 cap2, .slice bd2 m2 bap2] 33) 33
  have hNP := fun (w1 : World) => nine_past (w := w) (w1 := w1) (x0 := .bool s1) (x1 := .slice ad1 l1 cap1) (x2 := .slice bd1 m1 bap1) (y0 := .bool s2) (y1 := .slice ad2 l2 cap2) (y2 := .slice bd2 m2 bap2) (r0 := .bool false) (r1 := .slice none 0 0) (r2 := .slice none 0 0) (t := 33)
  have hz0 : w.heap.size + 1 + 1 + 1 = (((w.alloc (.cells #[.bool s1, .slice ad1 l1 cap1, .slice bd1 m1 bap1] 33)).alloc (.cells #[.bool s2, .slice ad2 l2 cap2, .slice bd2 m2 bap2] 33)).alloc (.cells #[.bool false, .slice none 0 0, .slice none 0 0] 33)).heap.size := by simp
  generalize hW : (((w.alloc (.cells #[.bool s1, .slice ad1 l1 cap1, .slice bd1 m1 bap1] 33)).alloc (.cells #[.bool s2, .slice ad2 l2 cap2, .slice bd2 m2 bap2] 33)).alloc (.cells #[.bool false, .slice none 0 0, .slice none 0 0] 33)) = W0 at hB0 hN hNP hz0
  have hKS : ∀ W, Below W0.heap.size W0 W → (W.cell? ⟨w.heap.size, 0, none⟩ = some (.bool s1) ∧ W.cell? ⟨w.heap.size, 1, none⟩ = some (.slice ad1 l1 cap1) ∧ W.cell? ⟨w.heap.size, 2, none⟩ = some (.slice bd1 m1 bap1)) ∧ (W.cell? ⟨w.heap.size + 1, 0, none⟩ = some (.bool s2) ∧ W.cell? ⟨w.heap.size + 1, 1, none⟩ = some (.slice ad2 l2 cap2) ∧ W.cell? ⟨w.heap.size + 1, 2, none⟩ = some (.slice bd2 m2 bap2)) := fun W hb => by
    obtain ⟨a, b, _⟩ := hNP W hb
    exact ⟨a, b⟩
  have HS1 : Hid (∀ W, Below W0.heap.size W0 W → SignedAt W (.agg #[.bool s1, .slice ad1 l1 cap1]) n1) := fun W hb => ⟨_, by rw [hs1], (hu1.later hB0).later hb⟩
  have HS2 : Hid (∀ W, Below W0.heap.size W0 W → SignedAt W (.agg #[.bool s2, .slice ad2 l2 cap2]) n2) := fun W hb => ⟨_, by rw [hs2], (hu2.later hB0).later hb⟩
  have HD1 : Hid (∀ W, Below W0.heap.size W0 W → BigAt W (.slice bd1 m1 bap1) d1) := fun W hb => (hq1.later hB0).later hb
  have HD2 : Hid (∀ W, Below W0.heap.size W0 W → BigAt W (.slice bd2 m2 bap2) d2) := fun W hb => (hq2.later hB0).later hb
  have HKS := Hid.mk' hKS
  have HW := Hid.mk' hW
  have HNP := Hid.mk' hNP
  have HN := Hid.mk' hN
  have HB := Hid.mk' hB0
  have hm1 : (n1 * (d2 : Int)).natAbs < 1000000 ^ (k + k) := by rw [Int.natAbs_mul, Int.natAbs_natCast, Nat.pow_add]; exact Nat.mul_lt_mul'' hn1 hk2
  have hm2 : (n2 * (d1 : Int)).natAbs < 1000000 ^ (k + k) := by rw [Int.natAbs_mul, Int.natAbs_natCast, Nat.pow_add]; exact Nat.mul_lt_mul'' hn2 hk1
  have hsm : (n1 * (d2 : Int) + n2 * (d1 : Int)).natAbs < 1000000 ^ (k + k + 1) := by
    have h3 := Int.natAbs_add_le (n1 * (d2 : Int)) (n2 * (d1 : Int))
    have h4 : 1000000 ^ (k + k) * 2 ≤ 1000000 ^ (k + k + 1) := by rw [Nat.pow_succ]; exact Nat.mul_le_mul_left _ (by decide)
    omega
  have hdd : d1 * d2 < 1000000 ^ (k + k + 1) := Nat.lt_trans (by rw [Nat.pow_add]; exact Nat.mul_lt_mul'' hk1 hk2) (Nat.pow_lt_pow_right (by decide) (by omega))
  have HM := Hid.mk' (And.intro hm1 (And.intro hm2 (And.intro hsm hdd)))
  have HBD : Hid (n1.natAbs < 1000000 ^ k ∧ (d2 : Int).natAbs < 1000000 ^ k ∧ n2.natAbs < 1000000 ^ k ∧ (d1 : Int).natAbs < 1000000 ^ k) := ⟨hn1, by rw [Int.natAbs_natCast]; exact hk2, hn2, by rw [Int.natAbs_natCast]; exact hk1⟩
  have HDK := Hid.mk' (And.intro hk1 hk2)
  have hcur0 : Below W0.heap.size W0 W0 := Below.refl _ _
  have hcur : Below W0.heap.size W0 W0.drew := (Below.refl _ _).drew
  have hcurA : ∀ X, Below W0.heap.size W0 (W0.alloc X).drew := fun X => (new_below _ _).drew
  have hdn1 : ¬ (d1 : Int) < 0 := by omega
  have hdn2 : ¬ (d2 : Int) < 0 := by omega
  have HDE : Hid (decide ((d1 : Int) < 0) = false ∧ decide ((d2 : Int) < 0) = false) := ⟨decide_eq_false hdn1, decide_eq_false hdn2⟩
  clear hs1 hs2 hu1 hu2 hq1 hq2 hB0 hN hNP hW hKS hn1 hn2 hk1 hk2 hm1 hm2 hsm hdd hdn1 hdn2
  generalize hz : n1 * (d2 : Int) + n2 * (d1 : Int) = z at HM ⊢
  have HZ := Hid.mk' hz
  clear hz
  go_enter Tryz.func14, Tryz.ntmps14
  go_wp2_with fail
  rw [HW.out]
  go_cut [5] from 6 (fun s wx => ∃ Bs : Nat, s = .pointer (some ⟨Bs, 0, none⟩) ∧ Hid (SignBox W0 wx Bs z))
  case first =>
    go_region_held3 (fun W => (W.cell? ⟨w.heap.size, 0, none⟩ = some (.bool s1) ∧ W.cell? ⟨w.heap.size, 1, none⟩ = some (.slice ad1 l1 cap1) ∧ W.cell? ⟨w.heap.size, 2, none⟩ = some (.slice bd1 m1 bap1)) ∧ (W.cell? ⟨w.heap.size + 1, 0, none⟩ = some (.bool s2) ∧ W.cell? ⟨w.heap.size + 1, 1, none⟩ = some (.slice ad2 l2 cap2) ∧ W.cell? ⟨w.heap.size + 1, 2, none⟩ = some (.slice bd2 m2 bap2)))
      (first | exact HKS.out _ hcur0 | exact HKS.out _ hcur | exact HKS.out _ (hcurA _) | (refine HKS.out _ ?_; assumption) | (refine HKS.out _ (more_below ?_ _); assumption) | (refine HKS.out _ (setB_below ?_ NB.hB _ _); assumption))
      (first
        | (go_at_call 35; refine (SignedAdd_any _ _ (n1 * (d2 : Int)) (n2 * (d1 : Int)) (k + k) _ (HX2.out _ ?_) (HX4.out _ ?_) HM.out.1 HM.out.2.1 (by omega)).mono ?_; (first | exact h24 | exact more_below h24 _); (first | exact Below.refl _ _ | exact new_below _ _); rintro e w5 ⟨sv5, rfl, ⟨x5, rfl, hx5⟩, hb5⟩; rw [HZ.out] at hx5 ⊢; obtain ⟨ad7, l7, cap7, rfl, _⟩ := hx5.len; (first | (have hbw5 := below_chain hbw4 hb5; try have NB := NB.later hb5) | (have hbw5 := below_chain (more_below hbw4 _) hb5; have NB := newBox_of hbw4 hb5)); (try (have y0 := NB.c0; have y1 := NB.c1; have y2 := NB.f0; have y3 := NB.f1)); have HX5 := Hid.mk' hx5; clear hx5 hb5)
        | (go_at_call 36; refine (SignedMul_any _ _ n2 (d1 : Int) k _ (HS2.out _ ?_) (HX3.out _ ?_) HBD.out.2.2.1 HBD.out.2.2.2 (by omega)).mono ?_; (first | exact hbw3 | exact more_below hbw3 _); (first | exact Below.refl _ _ | exact new_below _ _); rintro e w4 ⟨sv4, rfl, ⟨x4, rfl, hx4⟩, hb4⟩; obtain ⟨sg4, hsg4⟩ : ∃ sg, decide (n2 * (d1 : Int) < 0) = sg := ⟨_, rfl⟩; rw [hsg4]; obtain ⟨ad6, l6, cap6, rfl, _⟩ := hx4.len; (first | (have hbw4 := below_chain hbw3 hb4; have h24 := below_chain h23 hb4; try have NB := NB.later hb4) | (have hbw4 := below_chain (more_below hbw3 _) hb4; have h24 := below_chain (more_below h23 _) hb4; have NB := newBox_of hbw3 hb4)); have HX4 : Hid (∀ W, Below w4.heap.size w4 W → SignedAt W (.agg #[.bool sg4, .slice ad6 l6 cap6]) (n2 * (d1 : Int))) := (fun W hb => ⟨_, by rw [hsg4], hx4.later hb⟩); clear hx4 hb4 hsg4)
        | (go_at_call 37; refine (wide_any (.slice bd1 m1 bap1) d1 _ (HD1.out _ ?_)).mono ?_; (first | exact hbw2 | exact more_below hbw2 _); rintro e w3 ⟨sv3, rfl, ⟨x3, rfl, hx3⟩, hb3⟩; rw [HDE.out.1]; obtain ⟨ad5, l5, cap5, rfl, _⟩ := hx3.len; (first | (have hbw3 := below_chain hbw2 hb3; have h23 := below_chain (Below.refl _ w2) hb3; try have NB := NB.later hb3) | (have hbw3 := below_chain (more_below hbw2 _) hb3; have h23 := below_chain (new_below w2 _) hb3; have NB := newBox_of hbw2 hb3)); have HX3 : Hid (∀ W, Below w3.heap.size w3 W → SignedAt W (.agg #[.bool false, .slice ad5 l5 cap5]) (d1 : Int)) := (fun W hb => ⟨_, by rw [HDE.out.1], hx3.later hb⟩); clear hx3 hb3)
        | (go_at_call 36; refine (SignedMul_any _ _ n1 (d2 : Int) k _ (HS1.out _ ?_) (HX1.out _ ?_) HBD.out.1 HBD.out.2.1 (by omega)).mono ?_; (first | exact hbw1 | exact more_below hbw1 _); (first | exact Below.refl _ _ | exact new_below _ _); rintro e w2 ⟨sv2, rfl, ⟨x2, rfl, hx2⟩, hb2⟩; obtain ⟨sg2, hsg2⟩ : ∃ sg, decide (n1 * (d2 : Int) < 0) = sg := ⟨_, rfl⟩; rw [hsg2]; obtain ⟨ad4, l4, cap4, rfl, _⟩ := hx2.len; (first | (have hbw2 := below_chain hbw1 hb2; try have NB := NB.later hb2) | (have hbw2 := below_chain (more_below hbw1 _) hb2; have NB := newBox_of hbw1 hb2)); have HX2 : Hid (∀ W, Below w2.heap.size w2 W → SignedAt W (.agg #[.bool sg2, .slice ad4 l4 cap4]) (n1 * (d2 : Int))) := (fun W hb => ⟨_, by rw [hsg2], hx2.later hb⟩); clear hx2 hb2 hsg2)
        | (go_at_call 37; refine (wide_any (.slice bd2 m2 bap2) d2 _ (HD2.out _ ?_)).mono ?_; (first | exact hcur | exact hcurA _); rintro e w1 ⟨sv1, rfl, ⟨x1, rfl, hx1⟩, hb1⟩; rw [HDE.out.2]; obtain ⟨ad3, l3, cap3, rfl, _⟩ := hx1.len; (first | have hbw1 := below_chain hcur hb1 | (have hbw1 := below_chain (hcurA _) hb1; have NB := newBox_of hcur0 (below_chain ((Below.refl _ _).drew) hb1))); have HX1 : Hid (∀ W, Below w1.heap.size w1 W → SignedAt W (.agg #[.bool false, .slice ad3 l3 cap3]) (d2 : Int)) := (fun W hb => ⟨_, by rw [HDE.out.2], hx1.later hb⟩); clear hx1 hb1))
    all_goals
      go_wp2_with fail
      go_meet
      first | exact ⟨_, rfl, signBox_late hbw5 HX5.out⟩ | exact ⟨_, rfl, signBox_soon hbw5 HX5.out NB⟩
  case rest =>
  obtain ⟨Bs, rfl, HSB⟩ := hcut
  obtain ⟨u, x0, x1, hu⟩ := HSB.out.box
  obtain ⟨ad, l, cap, rfl, _⟩ := hu.len
  obtain ⟨sg, hsg⟩ : ∃ sg, decide (z < 0) = sg := ⟨_, rfl⟩
  rw [hsg] at x0
  have hBs := HSB.out.hB
  have hSc : ∀ W, Below wc.heap.size wc W → W.cell? ⟨Bs, 0, none⟩ = some (.bool sg) ∧ W.cell? ⟨Bs, 1, none⟩ = some (.slice ad l cap) ∧ W.cell? ⟨w.heap.size, 2, none⟩ = some (.slice bd1 m1 bap1) ∧ W.cell? ⟨w.heap.size + 1, 2, none⟩ = some (.slice bd2 m2 bap2) := fun W hb => by
    have h1 := HKS.out _ (below_chain HSB.out.below hb)
    exact ⟨(cell_past x0 hb).2, (cell_past x1 hb).2, h1.1.2.2, h1.2.2.2⟩
  have HSC := Hid.mk' hSc
  have hmul := BigMul_any _ _ d1 d2 k wc.drew (HD1.out _ HSB.out.below.drew) (HD2.out _ HSB.out.below.drew) HDK.out.1 HDK.out.2 (by omega)
  have HMUL := Hid.mk' hmul
  have HU := Hid.mk' hu
  have HSG := Hid.mk' hsg
  have hc0 : Below wc.heap.size wc wc := Below.refl _ _
  have hc1 : Below wc.heap.size wc wc.drew := (Below.refl _ _).drew
  have HBC := Hid.mk' HSB.out.below
  have hsetS : ∀ (W : World) (x y q : Value), Below wc.heap.size wc W → Bs ≠ w.heap.size + 1 + 1 → (((W.setCell ⟨w.heap.size + 1 + 1, 0, none⟩ x).setCell ⟨w.heap.size + 1 + 1, 1, none⟩ y).setCell ⟨w.heap.size + 1 + 1, 2, none⟩ q).cell? ⟨Bs, 0, none⟩ = some (.bool sg) ∧ (((W.setCell ⟨w.heap.size + 1 + 1, 0, none⟩ x).setCell ⟨w.heap.size + 1 + 1, 1, none⟩ y).setCell ⟨w.heap.size + 1 + 1, 2, none⟩ q).cell? ⟨Bs, 1, none⟩ = some (.slice ad l cap) ∧ (((W.setCell ⟨w.heap.size + 1 + 1, 0, none⟩ x).setCell ⟨w.heap.size + 1 + 1, 1, none⟩ y).setCell ⟨w.heap.size + 1 + 1, 2, none⟩ q).cell? ⟨w.heap.size, 2, none⟩ = some (.slice bd1 m1 bap1) ∧ (((W.setCell ⟨w.heap.size + 1 + 1, 0, none⟩ x).setCell ⟨w.heap.size + 1 + 1, 1, none⟩ y).setCell ⟨w.heap.size + 1 + 1, 2, none⟩ q).cell? ⟨w.heap.size + 1, 2, none⟩ = some (.slice bd2 m2 bap2) := fun W x y q hb hne => by
    obtain ⟨e0, e1, e2, e3⟩ := HSC.out W hb
    refine ⟨?_, ?_, ?_, ?_⟩
    · rw [World.cell?_setCell_far _ _ _ _ (fun e => hne e.symm), World.cell?_setCell_far _ _ _ _ (fun e => hne e.symm), World.cell?_setCell_far _ _ _ _ (fun e => hne e.symm)]; exact e0
    · rw [World.cell?_setCell_far _ _ _ _ (fun e => hne e.symm), World.cell?_setCell_far _ _ _ _ (fun e => hne e.symm), World.cell?_setCell_far _ _ _ _ (fun e => hne e.symm)]; exact e1
    · rw [World.cell?_setCell_far _ _ _ _ (by show w.heap.size + 1 + 1 ≠ w.heap.size; omega), World.cell?_setCell_far _ _ _ _ (by show w.heap.size + 1 + 1 ≠ w.heap.size; omega), World.cell?_setCell_far _ _ _ _ (by show w.heap.size + 1 + 1 ≠ w.heap.size; omega)]; exact e2
    · rw [World.cell?_setCell_far _ _ _ _ (by show w.heap.size + 1 + 1 ≠ w.heap.size + 1; omega), World.cell?_setCell_far _ _ _ _ (by show w.heap.size + 1 + 1 ≠ w.heap.size + 1; omega), World.cell?_setCell_far _ _ _ _ (by show w.heap.size + 1 + 1 ≠ w.heap.size + 1; omega)]; exact e3
  have HSS := Hid.mk' hsetS
  have hne : Bs ≠ w.heap.size + 1 + 1 := by omega
  clear hu hsg hSc hmul hsetS x0 x1
  go_wp2_with fail
  go_region_held3 (fun W => W.cell? ⟨Bs, 0, none⟩ = some (.bool sg) ∧ W.cell? ⟨Bs, 1, none⟩ = some (.slice ad l cap) ∧ W.cell? ⟨w.heap.size, 2, none⟩ = some (.slice bd1 m1 bap1) ∧ W.cell? ⟨w.heap.size + 1, 2, none⟩ = some (.slice bd2 m2 bap2))
    (first | exact HSC.out _ hc0 | exact HSC.out _ hc1 | exact HSC.out _ hc2 | exact HSC.out _ hc3 | exact HSS.out _ _ _ _ hc3 hne)
    (first
      | (go_at_call 34; refine (Lowest_any _ z (d1 * d2) (k + k + 1) w6 HRA.out (Nat.mul_pos hd1 hd2) HM.out.2.2.1 HM.out.2.2.2 hk).mono ?_; rintro e w7 ⟨rv, rfl, ⟨ur, qr, rfl, hur, hqr⟩, hb7⟩; obtain ⟨ad8, l8, cap8, rfl, _⟩ := hur.len; obtain ⟨ad9, l9, cap9, rfl, _⟩ := hqr.len; have hc3 := below_chain hc2 hb7; have hbw7 := below_chain HBC.out hc3; obtain ⟨_, _, ⟨c0, c1, c2⟩, f0, f1, f2⟩ := HNP.out w7 hbw7; have HUR := Hid.mk' hur; have HQR := Hid.mk' hqr; have HBW7 := Hid.mk' hbw7; clear hur hqr hb7 hbw7)
      | (go_at_call 38; refine HMUL.out.mono ?_; rintro e w6 ⟨qv, rfl, hqv, hb6⟩; obtain ⟨bd6, m6, bap6, rfl, _⟩ := hqv.len; have hc2 := below_chain hc1 hb6; have HRA : Hid (RatioAt w6 (.agg #[.bool sg, .slice ad l cap, .slice bd6 m6 bap6]) z (d1 * d2)) := ⟨_, _, by rw [HSG.out], HU.out.later hc2, hqv⟩; clear hqv hb6))
  go_wp2_with fail
  refine bodyPost_ret (v := .agg #[.bool (decide (z.tdiv ((Nat.gcd z.natAbs (d1 * d2) : Nat) : Int) < 0)), .slice ad8 l8 cap8, .slice ad9 l9 cap9]) (by simp [results, Tryz.results14, go_sem, c0, c1, c2]) rfl ⟨_, rfl, ⟨_, _, rfl, HUR.out.set3 (HN.out.later (by omega) HBW7.out) c0 c1, HQR.out.set3 (HN.out.later (by omega) HBW7.out) c0 c1⟩, below_set3 (below_chain HB.out HBW7.out) (by omega) _ _ _⟩
end Go.Proofs.YtkglaiigoogapaaGreatDoor

/- The program's chance: checkBits, told, Chance. -/
namespace Go.Proofs.YtkglaiigoogapaaGreatDoor
open Go.RowKit

theorem errV_1 (a : Nat → Addr) : errV a 1 = .iface 179 (.pointer (some (a 0))) := rfl
theorem errV_2 (a : Nat → Addr) : errV a 2 = .iface 179 (.pointer (some (a 1))) := rfl
/-- What is wrong with a row of bits. -/
def bitsE (s : ByteArray) : Nat := if 24 < s.size then 2 else if bitB s = true then 0 else 1

set_option maxRecDepth 100000 in
theorem checkBits_any (a : Nat → Addr) (s : ByteArray) (w : World) (hE : Errs w a) (hs : s.size ≤ 400) :
    Calls Tryz.prog 23 #[.string s] w fun e w' => e = .returned (errV a (bitsE s)) ∧ Below w.heap.size w w' := by
  have e0 := hE.c0
  have e1 := hE.c1
  by_cases h1 : 24 < s.size
  · rw [show bitsE s = 2 by unfold bitsE; rw [if_pos h1], errV_2]
    have h1I : (24 : Int) < (s.size : Int) := by omega
    clear hE
    go_enter Tryz.func23, Tryz.ntmps23
    go_wp2_with fail
    go_ret
    exact ⟨rfl, Below.refl _ _⟩
  · have h1I : ¬ (24 : Int) < (s.size : Int) := by omega
    by_cases h2 : bitB s = true
    · rw [show bitsE s = 0 by unfold bitsE; rw [if_neg h1, if_pos h2]]
      have ht := trim_bits s w (by omega) h2
      clear hE
      go_enter Tryz.func23, Tryz.ntmps23
      go_wp2_with fail
      refine ht.mono ?_
      rintro e w1 ⟨rfl, hb1⟩
      clear ht
      go_wp2_with fail
      go_ret
      exact ⟨rfl, hb1⟩
    · have h2 : bitB s = false := by simpa using h2
      rw [show bitsE s = 1 by unfold bitsE; rw [if_neg h1, h2]; rfl, errV_1]
      have ht := trim_other s w (by omega) h2
      have HE := Hid.mk' hE
      clear hE
      go_enter Tryz.func23, Tryz.ntmps23
      go_wp2_with fail
      refine ht.mono ?_
      rintro e w1 ⟨t, rfl, hte, hb1⟩
      have g0 := (HE.out.below hb1).c0
      clear ht
      go_wp2_with fail
      go_ret
      exact ⟨rfl, hb1⟩

/-- What is told of a share: two numbers, or the error. -/
def fitsT (N D : Nat) : Prop := N / Nat.gcd N D ≤ 4611686018427387904 ∧ D / Nat.gcd N D ≤ 4611686018427387904
set_option maxRecDepth 100000 in
theorem share_told (a : Nat → Addr) (x0 x1 : Option Addr) (l0 c0 l1 c1 N D : Nat) (p q : Int) (y : Value) (w : World) (hE : Errs w a) (hN : NatAt w (.slice x0 l0 c0) N) (hD : NatAt w (.slice x1 l1 c1) D) (hD0 : 0 < D) (hkN : N < 18446744073709551616 ^ 4) (hkD : D < 18446744073709551616 ^ 4) (hv : toldV a N D = .tuple #[.agg #[.int .i64 p, .int .i64 q], y]) :
    Calls Tryz.prog 30 #[.agg #[.slice x0 l0 c0, .slice x1 l1 c1]] w fun e w' => e = .returned (.tuple #[.agg #[.int .i64 p, .int .i64 q], y]) ∧ Below w.heap.size w w' := by
  obtain ⟨W0, hW0⟩ : ∃ W0, W0 = (w.alloc (.cells #[.slice x0 l0 c0, .slice x1 l1 c1] 63)).alloc (.cells #[.int .i64 0, .int .i64 0] 25) := ⟨_, rfl⟩
  have hb0 : Below w.heap.size w W0 := by rw [hW0]; exact below_chain (new_below _ _) (new_below _ _)
  have HKS : Hid (∀ W, Below W0.heap.size W0 W → (W.cell? ⟨w.heap.size, 0, none⟩ = some (.slice x0 l0 c0) ∧ W.cell? ⟨w.heap.size, 1, none⟩ = some (.slice x1 l1 c1)) ∧ (W.cell? ⟨w.heap.size + 1, 0, none⟩ = some (.int .i64 0) ∧ W.cell? ⟨w.heap.size + 1, 1, none⟩ = some (.int .i64 0)) ∧ W.frozen? ⟨w.heap.size + 1, 0, none⟩ = false ∧ W.frozen? ⟨w.heap.size + 1, 1, none⟩ = false) := fun W hb => by
    have hr := hb
    rw [hW0] at hr
    have hr2 := res_past hr
    rw [World.size_alloc] at hr2
    have a : ∀ j v, #[Value.slice x0 l0 c0, .slice x1 l1 c1][j]? = some v → W0.cell? ⟨w.heap.size, j, none⟩ = some v := fun j v h => by rw [hW0, World.cell?_alloc_lt _ _ ⟨w.heap.size, j, none⟩ (by simp), World.cell?_alloc_at _ _ _ _ rfl]; exact h
    exact ⟨⟨(cell_past (a 0 _ rfl) hb).2, (cell_past (a 1 _ rfl) hb).2⟩, ⟨hr2.1, hr2.2.1⟩, hr2.2.2⟩
  have hT := Told_any a _ _ N D 4 W0 (hE.below hb0) (hN.later hb0) (hD.later hb0) hD0 hkN hkD (by decide)
  rw [hv] at hT
  have HB0 := Hid.mk' hb0
  have HW0 := Hid.mk' hW0
  obtain ⟨⟨z0, z1⟩, _⟩ := HKS.out W0 (Below.refl _ _)
  clear hb0 hW0 hE hN hD hkN hkD hv hD0
  go_enter Tryz.func30, Tryz.ntmps30
  go_upto_region 1 with fail
  rw [← HW0.out]
  go_wp2_with fail
  refine hT.mono ?_
  clear hT
  rintro e w1 ⟨rfl, hb1⟩
  obtain ⟨_, ⟨g0, g1⟩, f0, f1⟩ := HKS.out w1 hb1
  have HB3 := Hid.mk' (below_chain HB0.out hb1)
  clear hb1
  go_wp2_with fail
  refine bodyPost_ret (v := .tuple #[.agg #[.int .i64 p, .int .i64 q], y]) (by simp [results, Tryz.results30, go_sem, g0, g1]) rfl ⟨rfl, ?_⟩
  exact (HB3.out.setCell (by show w.heap.size ≤ w.heap.size + 1; omega) _).setCell (by show w.heap.size ≤ w.heap.size + 1; omega) _
end Go.Proofs.YtkglaiigoogapaaGreatDoor

/- Fractions over one denominator in their lowest terms; sums by rising lists. -/
namespace Go.Proofs.YtkglaiigoogapaaGreatDoor

def lowG (M : Nat) (z : Int) : Nat := Nat.gcd z.natAbs M
def lowN (M : Nat) (z : Int) : Int := z.tdiv (lowG M z : Int)
def lowD (M : Nat) (z : Int) : Nat := M / lowG M z

theorem low_parts {n : Int} {d : Nat} (hd : 0 < d) : 0 < Nat.gcd n.natAbs d ∧ n = ((Nat.gcd n.natAbs d : Nat) : Int) * n.tdiv ((Nat.gcd n.natAbs d : Nat) : Int) ∧ d = Nat.gcd n.natAbs d * (d / Nat.gcd n.natAbs d) ∧ Nat.Coprime (n.tdiv ((Nat.gcd n.natAbs d : Nat) : Int)).natAbs (d / Nat.gcd n.natAbs d) ∧ (n.tdiv ((Nat.gcd n.natAbs d : Nat) : Int)).natAbs = n.natAbs / Nat.gcd n.natAbs d ∧ 0 < d / Nat.gcd n.natAbs d := by
  have hg : 0 < Nat.gcd n.natAbs d := Nat.gcd_pos_of_pos_right _ hd
  have h1 : Nat.gcd n.natAbs d ∣ n.natAbs := Nat.gcd_dvd_left _ _
  have h2 : Nat.gcd n.natAbs d ∣ d := Nat.gcd_dvd_right _ _
  have h3 : (n.tdiv ((Nat.gcd n.natAbs d : Nat) : Int)).natAbs = n.natAbs / Nat.gcd n.natAbs d := by rw [Int.natAbs_tdiv]; rfl
  refine ⟨hg, ?_, (Nat.mul_div_cancel' h2).symm, ?_, h3, Nat.div_pos (Nat.le_of_dvd hd h2) hg⟩
  · rw [Int.mul_tdiv_cancel' (Int.ofNat_dvd_left.2 h1)]
  · rw [h3]
    exact Nat.coprime_div_gcd_div_gcd hg
theorem lowG_pos {M : Nat} (h : 0 < M) (z : Int) : 0 < lowG M z := Nat.gcd_pos_of_pos_right _ h
theorem lowD_pos {M : Nat} (h : 0 < M) (z : Int) : 0 < lowD M z := (low_parts (n := z) h).2.2.2.2.2
theorem lowD_le (M : Nat) (z : Int) : lowD M z ≤ M := Nat.div_le_self _ _
theorem lowN_le {M : Nat} (h : 0 < M) (z : Int) : (lowN M z).natAbs ≤ z.natAbs := by
  have := (low_parts (n := z) h).2.2.2.2.1
  show (z.tdiv ((Nat.gcd z.natAbs M : Nat) : Int)).natAbs ≤ _
  rw [this]
  exact Nat.div_le_self _ _
theorem low_cross {M : Nat} (h : 0 < M) (z : Int) : lowN M z * (M : Int) = z * (lowD M z : Int) := by
  obtain ⟨_, h1, h2, _⟩ := low_parts (n := z) h
  have h2' : (M : Int) = ((Nat.gcd z.natAbs M : Nat) : Int) * ((M / Nat.gcd z.natAbs M : Nat) : Int) := by rw [← Int.natCast_mul, ← h2]
  show z.tdiv ((Nat.gcd z.natAbs M : Nat) : Int) * (M : Int) = z * ((M / Nat.gcd z.natAbs M : Nat) : Int)
  generalize Nat.gcd z.natAbs M = g at *
  generalize M / g = q at *
  generalize z.tdiv (g : Int) = t at *
  rw [h2', h1, ← Int.mul_assoc, Int.mul_comm t]
/-- One fraction has one lowest form. -/
theorem low_same {M d : Nat} {z n : Int} (hM : 0 < M) (hd : 0 < d) (h : n * (M : Int) = z * (d : Int)) : n.tdiv ((Nat.gcd n.natAbs d : Nat) : Int) = lowN M z ∧ d / Nat.gcd n.natAbs d = lowD M z := by
  obtain ⟨g1, g2, g3, g4, _, g6⟩ := low_parts (n := n) hd
  obtain ⟨k1, k2, k3, k4, _, k6⟩ := low_parts (n := z) hM
  show _ = z.tdiv ((Nat.gcd z.natAbs M : Nat) : Int) ∧ _ = M / Nat.gcd z.natAbs M
  generalize Nat.gcd n.natAbs d = g at *
  generalize Nat.gcd z.natAbs M = k at *
  generalize n.tdiv (g : Int) = n' at *
  generalize z.tdiv (k : Int) = z' at *
  generalize d / g = d' at *
  generalize M / k = m' at *
  have h1 : n' * (m' : Int) = z' * (d' : Int) := by
    have h2 : ((g : Int) * (k : Int)) * (n' * (m' : Int)) = ((g : Int) * (k : Int)) * (z' * (d' : Int)) := by
      calc ((g : Int) * (k : Int)) * (n' * (m' : Int)) = ((g : Int) * n') * ((k : Int) * (m' : Int)) := by grind
        _ = n * (M : Int) := by rw [← g2, ← Int.natCast_mul, ← k3]
        _ = z * (d : Int) := h
        _ = ((k : Int) * z') * ((g : Int) * (d' : Int)) := by rw [← k2, ← Int.natCast_mul, ← g3]
        _ = _ := by grind
    refine Int.eq_of_mul_eq_mul_left ?_ h2
    intro h0
    rcases Int.mul_eq_zero.1 h0 with h3 | h3 <;> omega
  have h2 : n'.natAbs * m' = z'.natAbs * d' := by
    have := congrArg Int.natAbs h1
    rwa [Int.natAbs_mul, Int.natAbs_mul, Int.natAbs_natCast, Int.natAbs_natCast] at this
  have h3 : m' ∣ d' := k4.symm.dvd_of_dvd_mul_left ⟨n'.natAbs, by rw [← h2, Nat.mul_comm]⟩
  have h4 : d' ∣ m' := g4.symm.dvd_of_dvd_mul_left ⟨z'.natAbs, by rw [h2, Nat.mul_comm]⟩
  have h5 : d' = m' := Nat.dvd_antisymm h4 h3
  subst h5
  exact ⟨Int.eq_of_mul_eq_mul_right (by omega) h1, rfl⟩
theorem low_plus {M : Nat} (hM : 0 < M) (z1 z2 : Int) : (lowN M z1 * (lowD M z2 : Int) + lowN M z2 * (lowD M z1 : Int)).tdiv ((Nat.gcd (lowN M z1 * (lowD M z2 : Int) + lowN M z2 * (lowD M z1 : Int)).natAbs (lowD M z1 * lowD M z2) : Nat) : Int) = lowN M (z1 + z2) ∧ lowD M z1 * lowD M z2 / Nat.gcd (lowN M z1 * (lowD M z2 : Int) + lowN M z2 * (lowD M z1 : Int)).natAbs (lowD M z1 * lowD M z2) = lowD M (z1 + z2) := by
  refine low_same hM (Nat.mul_pos (lowD_pos hM z1) (lowD_pos hM z2)) ?_
  have h1 := low_cross hM z1
  have h2 := low_cross hM z2
  rw [Int.natCast_mul]
  generalize lowN M z1 = a at *
  generalize lowN M z2 = b at *
  generalize (lowD M z1 : Int) = c at *
  generalize (lowD M z2 : Int) = e at *
  generalize (M : Int) = m at *
  grind
theorem low_one (z : Int) : lowN 1 z = z ∧ lowD 1 z = 1 := by
  unfold lowN lowD lowG
  rw [Nat.gcd_one_right]
  exact ⟨Int.tdiv_one z, rfl⟩

end Go.Proofs.YtkglaiigoogapaaGreatDoor

/- The document's interval of a message. -/
namespace Go.Proofs.YtkglaiigoogapaaGreatDoor
open Go.RowKit

theorem RatioAt.sl {w : World} {v : Value} {n : Int} {d : Nat} (h : RatioAt w v n d) : ∃ s ad l cap ad' l' cap', v = .agg #[.bool s, .slice ad l cap, .slice ad' l' cap'] := by
  obtain ⟨u, q, rfl, h1, h2⟩ := h
  obtain ⟨ad, l, cap, rfl, _⟩ := h1.len
  obtain ⟨ad', l', cap', rfl, _⟩ := h2.len
  exact ⟨_, _, _, _, _, _, _, rfl⟩
theorem IntsAt.setA {w : World} {u y : Value} {l : List Nat} {p : Addr} {v : Value} (h : IntsAt w u l) (hc : w.cell? p = some v) (hv : ∀ x, v ≠ .int .i64 x) : IntsAt (w.setCell p y) u l := by
  rcases h with h | ⟨b, o, cap, h1, h2, h3, h4⟩
  · exact Or.inl h
  · refine Or.inr ⟨b, o, cap, h1, h2, h3, fun i hi => ?_⟩
    rw [World.cell?_setCell_other _ _ _ _ (fun e => ?_)]
    · exact h4 i hi
    · have := h4 i hi
      rw [← e, hc] at this
      exact hv _ (Option.some.inj this)
theorem BigAt.setA {w : World} {u y : Value} {n : Nat} {p : Addr} {v : Value} (h : BigAt w u n) (hc : w.cell? p = some v) (hv : ∀ x, v ≠ .int .i64 x) : BigAt (w.setCell p y) u n := by
  obtain ⟨l, h1, h2, h3, h4⟩ := h
  exact ⟨l, h1, h2, h3, h4.setA hc hv⟩
theorem RatioAt.setA {w : World} {u y : Value} {n : Int} {d : Nat} {p : Addr} {v : Value} (h : RatioAt w u n d) (hc : w.cell? p = some v) (hv : ∀ x, v ≠ .int .i64 x) : RatioAt (w.setCell p y) u n d := by
  obtain ⟨a, b, h1, h2, h3⟩ := h
  exact ⟨a, b, h1, h2.setA hc hv, h3.setA hc hv⟩
def put3 (w : World) (b : Nat) (x y z : Value) : World := ((w.setCell ⟨b, 0, none⟩ x).setCell ⟨b, 1, none⟩ y).setCell ⟨b, 2, none⟩ z
/-- A variable that holds a fraction of the document. -/
structure RBox (w : World) (b : Nat) (s : Bool) (x : Option Addr) (l c : Nat) (x' : Option Addr) (l' c' : Nat) (n : Int) (d : Nat) : Prop where
  c0 : w.cell? ⟨b, 0, none⟩ = some (.bool s)
  c1 : w.cell? ⟨b, 1, none⟩ = some (.slice x l c)
  c2 : w.cell? ⟨b, 2, none⟩ = some (.slice x' l' c')
  rat : RatioAt w (.agg #[.bool s, .slice x l c, .slice x' l' c']) n d
  fz : ∀ j, j < 3 → w.frozen? ⟨b, j, none⟩ = false
theorem RBox.later {w w' : World} {b : Nat} {s : Bool} {x : Option Addr} {l c : Nat} {x' : Option Addr} {l' c' : Nat} {n : Int} {d : Nat} (h : RBox w b s x l c x' l' c' n d) (hb : Below w.heap.size w w') : RBox w' b s x l c x' l' c' n d :=
  ⟨by rw [hb.cell (cell_lt h.c0)]; exact h.c0, by rw [hb.cell (cell_lt h.c1)]; exact h.c1, by rw [hb.cell (cell_lt h.c2)]; exact h.c2, h.rat.later hb, fun j hj => by rw [hb.frozen (show b < w.heap.size from cell_lt h.c0)]; exact h.fz j hj⟩
theorem RatioAt.put3 {w : World} {b : Nat} {s : Bool} {x : Option Addr} {l c : Nat} {x' : Option Addr} {l' c' : Nat} {n m : Int} {d e : Nat} {v : Value} (h : RBox w b s x l c x' l' c' n d) (hr : RatioAt w v m e) (y0 y1 y2 : Value) : RatioAt (put3 w b y0 y1 y2) v m e := by
  obtain ⟨⟨g0, g1⟩, _, _⟩ := put_three' y0 y1 y2 h.c0 h.c1 h.c2
  unfold Go.Proofs.YtkglaiigoogapaaGreatDoor.put3
  exact ((hr.setA h.c0 (by simp)).setA g0 (by simp)).setA g1 (by simp)
theorem RBox.put {w : World} {b : Nat} {s t : Bool} {x y : Option Addr} {l c m q : Nat} {x' y' : Option Addr} {l' c' m' q' : Nat} {n n2 : Int} {d d2 : Nat} (h : RBox w b s x l c x' l' c' n d) (hr : RatioAt w (.agg #[.bool t, .slice y m q, .slice y' m' q']) n2 d2) : RBox (put3 w b (.bool t) (.slice y m q) (.slice y' m' q')) b t y m q y' m' q' n2 d2 := by
  obtain ⟨_, ⟨g2, g3⟩, g4⟩ := put_three' (.bool t) (.slice y m q) (.slice y' m' q') h.c0 h.c1 h.c2
  exact ⟨g2, g3, g4, hr.put3 h _ _ _, fun j hj => by unfold Go.Proofs.YtkglaiigoogapaaGreatDoor.put3; rw [World.frozen?_setCell, World.frozen?_setCell, World.frozen?_setCell]; exact h.fz j hj⟩
theorem RBox.aside {w : World} {b b2 : Nat} {s s2 : Bool} {x x2 : Option Addr} {l c l2 c2 : Nat} {x' x2' : Option Addr} {l' c' l2' c2' : Nat} {n n2 : Int} {d d2 : Nat} (h : RBox w b s x l c x' l' c' n d) (h2 : RBox w b2 s2 x2 l2 c2 x2' l2' c2' n2 d2) (hne : b2 ≠ b) (y0 y1 y2 : Value) : RBox (put3 w b2 y0 y1 y2) b s x l c x' l' c' n d := by
  have hcell : ∀ j, (put3 w b2 y0 y1 y2).cell? ⟨b, j, none⟩ = w.cell? ⟨b, j, none⟩ := fun j => by
    unfold Go.Proofs.YtkglaiigoogapaaGreatDoor.put3
    rw [World.cell?_setCell_other _ _ _ _ (fun e => hne (congrArg Addr.block e)), World.cell?_setCell_other _ _ _ _ (fun e => hne (congrArg Addr.block e)), World.cell?_setCell_other _ _ _ _ (fun e => hne (congrArg Addr.block e))]
  exact ⟨by rw [hcell]; exact h.c0, by rw [hcell]; exact h.c1, by rw [hcell]; exact h.c2, h.rat.put3 h2 _ _ _, fun j hj => by unfold Go.Proofs.YtkglaiigoogapaaGreatDoor.put3; rw [World.frozen?_setCell, World.frozen?_setCell, World.frozen?_setCell]; exact h.fz j hj⟩
theorem big_none (w : World) : BigAt w (.slice none 0 0) 0 := ⟨[], fun i hi => by simp at hi, fun i hi => by simp at hi, rfl, Or.inl ⟨_, _, rfl, rfl⟩⟩
theorem RBox.fresh {w : World} {s : Bool} {x : Option Addr} {l c : Nat} {x' : Option Addr} {l' c' : Nat} {n : Int} {d : Nat} (hr : RatioAt w (.agg #[.bool s, .slice x l c, .slice x' l' c']) n d) : RBox (w.alloc (.cells #[.bool s, .slice x l c, .slice x' l' c'] 33)) w.heap.size s x l c x' l' c' n d :=
  ⟨by simp, by simp, by simp, hr.later ((Below.refl _ _).alloc (Nat.le_refl _) _), fun j hj => by rcases (show j = 0 ∨ j = 1 ∨ j = 2 by omega) with rfl | rfl | rfl <;> simp⟩

/-- The steps, in lowest terms. -/
theorem low_step {M S : Nat} (hM : 0 < M) (hS : 0 < S) (W A : Int) : (lowN M W * lowN S A).tdiv ((Nat.gcd (lowN M W * lowN S A).natAbs (lowD M W * lowD S A) : Nat) : Int) = lowN (M * S) (W * A) ∧ lowD M W * lowD S A / Nat.gcd (lowN M W * lowN S A).natAbs (lowD M W * lowD S A) = lowD (M * S) (W * A) := by
  refine low_same (Nat.mul_pos hM hS) (Nat.mul_pos (lowD_pos hM W) (lowD_pos hS A)) ?_
  have h1 := low_cross hM W
  have h2 := low_cross hS A
  rw [Int.natCast_mul, Int.natCast_mul]
  generalize lowN M W = a at *
  generalize lowN S A = b at *
  generalize (lowD M W : Int) = c at *
  generalize (lowD S A : Int) = e at *
  generalize (M : Int) = m at *
  generalize (S : Int) = s at *
  calc a * b * (m * s) = (a * m) * (b * s) := by grind
    _ = (W * c) * (A * e) := by rw [h1, h2]
    _ = W * A * (c * e) := by grind
theorem low_add {M S : Nat} (hM : 0 < M) (hS : 0 < S) (L X : Int) : (lowN M L * (lowD (M * S) X : Int) + lowN (M * S) X * (lowD M L : Int)).tdiv ((Nat.gcd (lowN M L * (lowD (M * S) X : Int) + lowN (M * S) X * (lowD M L : Int)).natAbs (lowD M L * lowD (M * S) X) : Nat) : Int) = lowN (M * S) (L * S + X) ∧ lowD M L * lowD (M * S) X / Nat.gcd (lowN M L * (lowD (M * S) X : Int) + lowN (M * S) X * (lowD M L : Int)).natAbs (lowD M L * lowD (M * S) X) = lowD (M * S) (L * S + X) := by
  refine low_same (Nat.mul_pos hM hS) (Nat.mul_pos (lowD_pos hM L) (lowD_pos (Nat.mul_pos hM hS) X)) ?_
  have h1 := low_cross hM L
  have h2 := low_cross (Nat.mul_pos hM hS) X
  rw [Int.natCast_mul] at h2
  rw [Int.natCast_mul, Int.natCast_mul]
  generalize lowN M L = a at *
  generalize lowN (M * S) X = b at *
  generalize (lowD M L : Int) = c at *
  generalize (lowD (M * S) X : Int) = e at *
  generalize (M : Int) = m at *
  generalize (S : Int) = s at *
  calc (a * e + b * c) * (m * s) = (a * m) * (e * s) + (b * (m * s)) * c := by grind
    _ = (L * c) * (e * s) + (X * e) * c := by rw [h1, h2]
    _ = (L * s + X) * (c * e) := by grind
theorem low_room {M : Nat} (hM : 0 < M) {x : Nat} (hx : x ≤ M) (hR : M < 1000000 ^ 20) : (lowN M (x : Int)).natAbs < 1000000 ^ 20 ∧ lowD M (x : Int) < 1000000 ^ 20 := by
  have h1 := lowN_le hM (x : Int)
  have h2 := lowD_le M (x : Int)
  rw [Int.natAbs_natCast] at h1
  exact ⟨by omega, by omega⟩
theorem pow_small {S j : Nat} (hS : S ≤ 4096) (hj : j ≤ 25) : S ^ j < 1000000 ^ 20 :=
  Nat.lt_of_le_of_lt (Nat.pow_le_pow_left hS j) (Nat.lt_of_le_of_lt (Nat.pow_le_pow_right (by decide) hj) (by decide))

end Go.Proofs.YtkglaiigoogapaaGreatDoor

/- The document's chance of bits. -/
namespace Go.Proofs.YtkglaiigoogapaaGreatDoor
open Go.RowKit

theorem wrap_nat {x : Int} (h0 : 0 ≤ x) (h : x ≤ 1000000) : IntKind.i64.wrap x = x := by
  simp only [IntKind.wrap_i64]
  omega

set_option maxRecDepth 100000 in
set_option maxHeartbeats 4000000 in
theorem LearntOf_any (t : ByteArray) (w : World) (ht : t.size ≤ 24) (hbits : ∀ i (hi : i < t.size), (t[i]'hi) = 48 ∨ (t[i]'hi) = 49) :
    Calls Tryz.prog 20 #[.string t] w fun e w' => ∃ v, e = .returned v ∧ RatioAt w' v (lowN (lnD t.size) (lnN t t.size : Nat)) (lowD (lnD t.size) (lnN t t.size : Nat)) ∧ Below w.heap.size w w' := by
  obtain ⟨W0, hW0⟩ : ∃ W0, W0 = w.alloc (.cells #[.bool false, .slice none 0 0, .slice none 0 0] 33) := ⟨_, rfl⟩
  have hb0 : Below w.heap.size w W0 := by rw [hW0]; exact (Below.refl _ _).alloc (Nat.le_refl _) _
  have HR0 : Hid (∀ W, Below W0.heap.size W0 W → RBox W w.heap.size false none 0 0 none 0 0 0 0) := fun W hb => by
    have h : RBox W0 w.heap.size false none 0 0 none 0 0 0 0 := by rw [hW0]; exact RBox.fresh (w := w) ⟨_, _, rfl, big_none w, big_none w⟩
    exact h.later hb
  have HB0 := Hid.mk' hb0
  have HLT : Hid (w.heap.size < W0.heap.size) := by show _ < _; rw [hW0]; simp
  have HBT := Hid.mk' hbits
  have HCB : Hid (∀ k, k ≤ t.size → cntB t 0 k + cntB t 1 k = k) := fun k hk => cntB_both fun i hi => by
    rcases hbits i (by omega) with h | h
    · exact Or.inl (bitAt_zero (by omega) h)
    · exact Or.inr (bitAt_one (by omega) h)
  have HQ1 : Hid (∀ W, Calls Tryz.prog 11 #[.int .i64 1, .int .i64 1] W fun e w' => ∃ r, e = .returned r ∧ RatioAt w' r (lowN 1 1) (lowD 1 1) ∧ Below W.heap.size W w') := fun W => RatioOf_any 1 1 W (by decide) (by decide) (by decide) (by decide)
  clear hb0 hbits
  go_enter Tryz.func20, Tryz.ntmps20
  go_upto_region 1 with fail
  rw [← hW0]
  clear hW0
  have hcur := Below.refl W0.heap.size W0
  go_wp2_with fail
  refine (HQ1.out _).mono ?_
  rintro e w1 ⟨r, rfl, hr, hb1⟩
  obtain ⟨s1, x1, l1, c1, x1', l1', c1', rfl⟩ := hr.sl
  have HR1 := Hid.mk' (RBox.fresh hr)
  have hcur := below_chain hcur hb1
  have HLT1 := Hid.mk' hcur.size
  have HCUR := Hid.mk' (hcur.alloc hcur.size (.cells #[.bool s1, .slice x1 l1 c1, .slice x1' l1' c1'] 33))
  clear hr hb1 hcur HQ1
  go_wp2_with fail
  generalize w1.alloc (.cells #[.bool s1, .slice x1 l1 c1, .slice x1' l1' c1'] 33) = W1 at *
  generalize w1.heap.size = B1 at *
  go_loopw [4, 5] (fun d i wr => ∃ (k : Nat) (s1 : Bool) (x1 x1' : Option Addr) (l1 c1 l1' c1' : Nat), k ≤ t.size ∧ d = .int .i64 (cntB t 1 k : Nat) ∧ i = .int .i64 k ∧ Hid (RBox wr B1 s1 x1 l1 c1 x1' l1' c1' (lowN (lnD k) (lnN t k : Nat)) (lowD (lnD k) (lnN t k : Nat))) ∧ Hid (Below W0.heap.size W0 wr)) (fun _ i _ => t.size - (intOf i).toNat)
  case atStart => exact ⟨0, s1, x1, x1', l1, c1, l1', c1', Nat.zero_le _, rfl, rfl, HR1.out, HCUR.out⟩
  case round =>
    clear HR1 HCUR
    obtain ⟨k, s1, x1, x1', l1, c1, l1', c1', hk, rfl, rfl, HR1, HB⟩ := hrel
    have hk0 : (0 : Int) ≤ (k : Int) := by omega
    rcases Nat.lt_or_ge k t.size with h1 | h1
    · have hkI : (k : Int) < (t.size : Int) := by omega
      have hboth := HCB.out k hk
      obtain ⟨n0, hn0⟩ : ∃ n0, cntB t 0 k = n0 := ⟨_, rfl⟩
      obtain ⟨n1, hn1⟩ : ∃ n1, cntB t 1 k = n1 := ⟨_, rfl⟩
      rw [hn0, hn1] at hboth
      obtain ⟨b, m, hbit, hn, HN1, HV, hm⟩ : ∃ b m : Nat, (b = 0 ∧ m = n0 ∨ b = 1 ∧ m = n1) ∧ ((t[k]'h1).toNat : Int) = 48 + (b : Int) ∧ Hid (cntB t 1 (k + 1) = n1 + b) ∧ Hid (lnN t (k + 1) = lnN t k * (2 * m + 1)) ∧ m ≤ k := by
        rcases HBT.out k h1 with hx | hx
        · have hq := bitAt_zero h1 hx
          exact ⟨0, n0, Or.inl ⟨rfl, rfl⟩, by rw [hx]; rfl, by show _ = _; rw [cntB_other hq (by decide), hn1]; rfl, by show _ = _; rw [lnN_step hq, hn0], by omega⟩
        · have hq := bitAt_one h1 hx
          exact ⟨1, n1, Or.inr ⟨rfl, rfl⟩, by rw [hx]; rfl, by show _ = _; rw [cntB_same hq, hn1], by show _ = _; rw [lnN_step hq, hn1], by omega⟩
      have HRO : Hid (∀ W, Calls Tryz.prog 11 #[.int .i64 (2 * (m : Int) + 1), .int .i64 (2 * (k : Int) + 2)] W fun e w' => ∃ r, e = .returned r ∧ RatioAt w' r (lowN (2 * k + 2) (2 * (m : Int) + 1)) (lowD (2 * k + 2) (2 * (m : Int) + 1)) ∧ Below W.heap.size W w') := fun W => by
        have h3 := RatioOf_any (2 * (m : Int) + 1) (2 * k + 2) W (by omega) (by omega) (by omega) (by omega)
        rw [show ((2 * k + 2 : Nat) : Int) = 2 * (k : Int) + 2 by omega] at h3
        exact h3
      have hD := lnD_pos k
      have hle := lnN_le t k
      have hs0 := (lnD_small (i := k) (by omega)).1
      have hs2 : 2 * k + 2 < 1000000 ^ 20 := Nat.lt_of_le_of_lt (show 2 * k + 2 ≤ 100 by omega) (by decide)
      have HTM : Hid (∀ W u v, RatioAt W u (lowN (lnD k) ((lnN t k : Nat) : Int)) (lowD (lnD k) ((lnN t k : Nat) : Int)) → RatioAt W v (lowN (2 * k + 2) (2 * (m : Int) + 1)) (lowD (2 * k + 2) (2 * (m : Int) + 1)) → Calls Tryz.prog 21 #[u, v] W fun e w' => ∃ r, e = .returned r ∧ RatioAt w' r (lowN (lnD (k + 1)) ((lnN t (k + 1) : Nat) : Int)) (lowD (lnD (k + 1)) ((lnN t (k + 1) : Nat) : Int)) ∧ Below W.heap.size W w') := fun W u v hu hv => by
        have ru := low_room hD hle hs0
        have rv := low_room (show 0 < 2 * k + 2 by omega) (show 2 * m + 1 ≤ 2 * k + 2 by omega) hs2
        rw [show ((2 * m + 1 : Nat) : Int) = 2 * (m : Int) + 1 by omega] at rv
        have h3 := Times_ratio u v _ _ _ _ 20 W hu hv (lowD_pos hD _) (lowD_pos (by omega) _) ru.1 rv.1 ru.2 rv.2 (by decide)
        have h4 := low_step hD (show 0 < 2 * k + 2 by omega) ((lnN t k : Nat) : Int) (2 * (m : Int) + 1)
        rw [h4.1, h4.2, show ((lnN t k : Nat) : Int) * (2 * (m : Int) + 1) = ((lnN t k * (2 * m + 1) : Nat) : Int) by simp, ← HV.out] at h3
        exact h3
      clear hD hle hs0 hs2
      have y0 := HR1.out.c0
      have y1 := HR1.out.c1
      have y2 := HR1.out.c2
      have HKS : Hid (∀ W, Below wr.heap.size wr W → (W.cell? ⟨B1, 0, none⟩ = some (.bool s1) ∧ W.cell? ⟨B1, 1, none⟩ = some (.slice x1 l1 c1) ∧ W.cell? ⟨B1, 2, none⟩ = some (.slice x1' l1' c1'))) := fun W hb => ⟨by rw [hb.cell (cell_lt y0)]; exact y0, by rw [hb.cell (cell_lt y1)]; exact y1, by rw [hb.cell (cell_lt y2)]; exact y2⟩
      have HLW := Hid.mk' (fun (W : World) (hb : Below wr.heap.size wr W) => HR1.out.later hb)
      have hcur : Below wr.heap.size wr wr.drew := (Below.refl _ _).drew
      clear y0 y1 y2
      have hmI : (0 : Int) ≤ (m : Int) ∧ (m : Int) ≤ 24 := by omega
      obtain ⟨hm0, hm1⟩ := hmI
      have hk24 : (k : Int) ≤ 24 := by omega
      rw [hn1]
      have hn1I : (0 : Int) ≤ (n1 : Int) ∧ (n1 : Int) ≤ 24 := by omega
      obtain ⟨hn10, hn11⟩ := hn1I
      clear hn0 hn1
      have hw1 : IntKind.i64.wrap (2 * (m : Int)) = 2 * (m : Int) := wrap_nat (by omega) (by omega)
      have hw2 : IntKind.i64.wrap (2 * (m : Int) + 1) = 2 * (m : Int) + 1 := wrap_nat (by omega) (by omega)
      have hw3 : IntKind.i64.wrap (2 * (k : Int)) = 2 * (k : Int) := wrap_nat (by omega) (by omega)
      have hw4 : IntKind.i64.wrap (2 * (k : Int) + 2) = 2 * (k : Int) + 2 := wrap_nat (by omega) (by omega)
      rcases hbit with ⟨rfl, rfl⟩ | ⟨rfl, rfl⟩
      · have hdf : (k : Int) - (n1 : Int) = (m : Int) := by omega
        have hn : ((t[k]'h1).toNat : Int) = 48 := hn
        clear hboth
        go_wp2_with fail
        refine region_but_last (n := 9) (S := fun W => W.cell? ⟨B1, 0, none⟩ = some (.bool s1) ∧ W.cell? ⟨B1, 1, none⟩ = some (.slice x1 l1 c1) ∧ W.cell? ⟨B1, 2, none⟩ = some (.slice x1' l1' c1')) (by kernel_rfl) (by kernel_rfl) (by kernel_rfl) (HKS.out _ hcur) (fun hHeld => ?_)
        refine wpAnyH_take (i := 0) (v := ?v0a) rfl (by kernel_rfl) (by kernel_rfl) (by kernel_rfl) (fun _ _ _ h => h) (Or.inl ⟨by rfl, ?hy0a⟩) (by assumption) ?rest0a
        case hy0a => (intro w hSw; (try dsimp only at hSw); go_simp <;> (try with_reducible rfl))
        simp only [Act.put]
        refine wpAnyH_take (i := 1) (v := ?v1a) rfl (by kernel_rfl) (by kernel_rfl) (by kernel_rfl) (fun _ _ _ h => h) (Or.inl ⟨by rfl, ?hy1a⟩) (by assumption) ?rest1a
        case hy1a => (intro w hSw; (try dsimp only at hSw); go_simp <;> (try with_reducible rfl))
        simp only [Act.put]
        refine wpAnyH_take (i := 2) (v := ?v2a) rfl (by kernel_rfl) (by kernel_rfl) (by kernel_rfl) (fun _ _ _ h => h) (Or.inl ⟨by rfl, ?hy2a⟩) (by assumption) ?rest2a
        case hy2a => (intro w hSw; (try dsimp only at hSw); go_simp <;> (try with_reducible rfl))
        simp only [Act.put]
        refine wpAnyH_take (i := 3) (v := ?v3a) rfl (by kernel_rfl) (by kernel_rfl) (by kernel_rfl) (fun _ _ _ h => h) (Or.inl ⟨by rfl, ?hy3a⟩) (by assumption) ?rest3a
        case hy3a => (intro w hSw; (try dsimp only at hSw); go_simp <;> (try with_reducible rfl))
        simp only [Act.put]
        refine wpAnyH_take (i := 4) (v := ?v4a) rfl (by kernel_rfl) (by kernel_rfl) (by kernel_rfl) (fun _ _ _ h => h) (Or.inl ⟨by rfl, ?hy4a⟩) (by assumption) ?rest4a
        case hy4a => (intro w hSw; (try dsimp only at hSw); go_simp <;> (try with_reducible rfl))
        simp only [Act.put]
        refine wpAnyH_take (i := 5) (v := ?v5a) rfl (by kernel_rfl) (by kernel_rfl) (by kernel_rfl) (fun _ _ _ h => h) (Or.inl ⟨by rfl, ?hy5a⟩) (by assumption) ?rest5a
        case hy5a => (intro w hSw; (try dsimp only at hSw); go_simp <;> (try with_reducible rfl))
        simp only [Act.put]
        refine wpAnyH_take (i := 6) (v := ?v6a) rfl (by kernel_rfl) (by kernel_rfl) (by kernel_rfl) (fun _ _ _ h => h) (Or.inl ⟨by rfl, ?hy6a⟩) (by assumption) ?rest6a
        case hy6a => (intro w hSw; (try dsimp only at hSw); go_simp <;> (try with_reducible rfl))
        simp only [Act.put]
        refine wpAnyH_ready (rs := [7]) (by kernel_rfl) (by simp) ?_
        refine AllReadyH.cons rfl (fun K hK => ?_) AllReadyH.nil
        go_simp
        refine (HRO.out _).mono ?_
        rintro e w5 ⟨r1, rfl, hr1, hb5⟩
        have hcur := below_chain hcur hb5
        have HX1 := Hid.mk' hr1
        obtain ⟨t1, p1, m1, q1, p1', m1', q1', hr1e⟩ := hr1.sl
        subst hr1e
        clear hr1
        go_wp2_with fail
        refine hK.out _ _ ?_ (fun hHeld => ?_)
        · exact HKS.out _ hcur
        clear hK K
        refine wpAnyH_ready (rs := [8]) (by kernel_rfl) (by simp) ?_
        refine AllReadyH.cons rfl (fun K hK => ?_) AllReadyH.nil
        go_simp
        refine (HTM.out _ _ _ (HLW.out _ hcur).rat HX1.out).mono ?_
        rintro e w7 ⟨r3, rfl, hr3, hb7⟩
        have hcur := below_chain hcur hb7
        have HX3 := Hid.mk' hr3
        obtain ⟨t3, p3, m3, q3, p3', m3', q3', hr3e⟩ := hr3.sl
        subst hr3e
        clear hr3
        have hL := HLW.out _ hcur
        have fz0 := hL.fz 0 (by decide)
        have fz1 := hL.fz 1 (by decide)
        have fz2 := hL.fz 2 (by decide)
        have k0 := hL.c0
        have k1 := hL.c1
        have k2 := hL.c2
        obtain ⟨⟨g0, g1⟩, ⟨g2, g3⟩, g4⟩ := put_three' (.bool t3) (.slice p3 m3 q3) (.slice p3' m3' q3') k0 k1 k2
        have HSET := Hid.mk' (hL.put HX3.out)
        clear hL
        go_wp2_with fail
        refine hK.out _ _ ?_ (fun hHeld => ?_)
        · exact HKS.out _ hcur
        clear hK K
        refine wpAnyH_done (by kernel_rfl) ?_ _
        refine ahead_last rfl (fun K hK => ?_)
        go_simp
        refine hK _ _ ?_
        clear hK K
        unfold put3 at HSET
        have HB8 : Hid (Below W0.heap.size W0 (((w7.setCell ⟨B1, 0, none⟩ (.bool t3)).setCell ⟨B1, 1, none⟩ (.slice p3 m3 q3)).setCell ⟨B1, 2, none⟩ (.slice p3' m3' q3'))) := (((below_chain HB.out hcur).setCell HLT1.out _).setCell HLT1.out _).setCell HLT1.out _
        generalize ((w7.setCell ⟨B1, 0, none⟩ (.bool t3)).setCell ⟨B1, 1, none⟩ (.slice p3 m3 q3)).setCell ⟨B1, 2, none⟩ (.slice p3' m3' q3') = W8 at *
        clear HX1 HX3 hHeld g0 g1 g2 g3 g4 k0 k1 k2 fz0 fz1 fz2 hcur HKS HLW hb5 hb7 HR1
        go_wp2_with fail
        exact ⟨⟨k + 1, _, _, _, _, _, _, _, h1, by rw [HN1.out]; go_num, by go_num, HSET.out, HB8.out⟩, by simp [intOf]; omega⟩
      · have hn : ((t[k]'h1).toNat : Int) = 49 := hn
        clear hboth
        go_wp2_with fail
        refine region_but_last (n := 9) (S := fun W => W.cell? ⟨B1, 0, none⟩ = some (.bool s1) ∧ W.cell? ⟨B1, 1, none⟩ = some (.slice x1 l1 c1) ∧ W.cell? ⟨B1, 2, none⟩ = some (.slice x1' l1' c1')) (by kernel_rfl) (by kernel_rfl) (by kernel_rfl) (HKS.out _ hcur) (fun hHeld => ?_)
        refine wpAnyH_take (i := 0) (v := ?v0b) rfl (by kernel_rfl) (by kernel_rfl) (by kernel_rfl) (fun _ _ _ h => h) (Or.inl ⟨by rfl, ?hy0b⟩) (by assumption) ?rest0b
        case hy0b => (intro w hSw; (try dsimp only at hSw); go_simp <;> (try with_reducible rfl))
        simp only [Act.put]
        refine wpAnyH_take (i := 1) (v := ?v1b) rfl (by kernel_rfl) (by kernel_rfl) (by kernel_rfl) (fun _ _ _ h => h) (Or.inl ⟨by rfl, ?hy1b⟩) (by assumption) ?rest1b
        case hy1b => (intro w hSw; (try dsimp only at hSw); go_simp <;> (try with_reducible rfl))
        simp only [Act.put]
        refine wpAnyH_take (i := 2) (v := ?v2b) rfl (by kernel_rfl) (by kernel_rfl) (by kernel_rfl) (fun _ _ _ h => h) (Or.inl ⟨by rfl, ?hy2b⟩) (by assumption) ?rest2b
        case hy2b => (intro w hSw; (try dsimp only at hSw); go_simp <;> (try with_reducible rfl))
        simp only [Act.put]
        refine wpAnyH_take (i := 3) (v := ?v3b) rfl (by kernel_rfl) (by kernel_rfl) (by kernel_rfl) (fun _ _ _ h => h) (Or.inl ⟨by rfl, ?hy3b⟩) (by assumption) ?rest3b
        case hy3b => (intro w hSw; (try dsimp only at hSw); go_simp <;> (try with_reducible rfl))
        simp only [Act.put]
        refine wpAnyH_take (i := 4) (v := ?v4b) rfl (by kernel_rfl) (by kernel_rfl) (by kernel_rfl) (fun _ _ _ h => h) (Or.inl ⟨by rfl, ?hy4b⟩) (by assumption) ?rest4b
        case hy4b => (intro w hSw; (try dsimp only at hSw); go_simp <;> (try with_reducible rfl))
        simp only [Act.put]
        refine wpAnyH_take (i := 5) (v := ?v5b) rfl (by kernel_rfl) (by kernel_rfl) (by kernel_rfl) (fun _ _ _ h => h) (Or.inl ⟨by rfl, ?hy5b⟩) (by assumption) ?rest5b
        case hy5b => (intro w hSw; (try dsimp only at hSw); go_simp <;> (try with_reducible rfl))
        simp only [Act.put]
        refine wpAnyH_take (i := 6) (v := ?v6b) rfl (by kernel_rfl) (by kernel_rfl) (by kernel_rfl) (fun _ _ _ h => h) (Or.inl ⟨by rfl, ?hy6b⟩) (by assumption) ?rest6b
        case hy6b => (intro w hSw; (try dsimp only at hSw); go_simp <;> (try with_reducible rfl))
        simp only [Act.put]
        refine wpAnyH_ready (rs := [7]) (by kernel_rfl) (by simp) ?_
        refine AllReadyH.cons rfl (fun K hK => ?_) AllReadyH.nil
        go_simp
        refine (HRO.out _).mono ?_
        rintro e w5 ⟨r1, rfl, hr1, hb5⟩
        have hcur := below_chain hcur hb5
        have HX1 := Hid.mk' hr1
        obtain ⟨t1, p1, m1, q1, p1', m1', q1', hr1e⟩ := hr1.sl
        subst hr1e
        clear hr1
        go_wp2_with fail
        refine hK.out _ _ ?_ (fun hHeld => ?_)
        · exact HKS.out _ hcur
        clear hK K
        refine wpAnyH_ready (rs := [8]) (by kernel_rfl) (by simp) ?_
        refine AllReadyH.cons rfl (fun K hK => ?_) AllReadyH.nil
        go_simp
        refine (HTM.out _ _ _ (HLW.out _ hcur).rat HX1.out).mono ?_
        rintro e w7 ⟨r3, rfl, hr3, hb7⟩
        have hcur := below_chain hcur hb7
        have HX3 := Hid.mk' hr3
        obtain ⟨t3, p3, m3, q3, p3', m3', q3', hr3e⟩ := hr3.sl
        subst hr3e
        clear hr3
        have hL := HLW.out _ hcur
        have fz0 := hL.fz 0 (by decide)
        have fz1 := hL.fz 1 (by decide)
        have fz2 := hL.fz 2 (by decide)
        have k0 := hL.c0
        have k1 := hL.c1
        have k2 := hL.c2
        obtain ⟨⟨g0, g1⟩, ⟨g2, g3⟩, g4⟩ := put_three' (.bool t3) (.slice p3 m3 q3) (.slice p3' m3' q3') k0 k1 k2
        have HSET := Hid.mk' (hL.put HX3.out)
        clear hL
        go_wp2_with fail
        refine hK.out _ _ ?_ (fun hHeld => ?_)
        · exact HKS.out _ hcur
        clear hK K
        refine wpAnyH_done (by kernel_rfl) ?_ _
        refine ahead_last rfl (fun K hK => ?_)
        go_simp
        refine hK _ _ ?_
        clear hK K
        unfold put3 at HSET
        have HB8 : Hid (Below W0.heap.size W0 (((w7.setCell ⟨B1, 0, none⟩ (.bool t3)).setCell ⟨B1, 1, none⟩ (.slice p3 m3 q3)).setCell ⟨B1, 2, none⟩ (.slice p3' m3' q3'))) := (((below_chain HB.out hcur).setCell HLT1.out _).setCell HLT1.out _).setCell HLT1.out _
        generalize ((w7.setCell ⟨B1, 0, none⟩ (.bool t3)).setCell ⟨B1, 1, none⟩ (.slice p3 m3 q3)).setCell ⟨B1, 2, none⟩ (.slice p3' m3' q3') = W8 at *
        clear HX1 HX3 hHeld g0 g1 g2 g3 g4 k0 k1 k2 fz0 fz1 fz2 hcur HKS HLW hb5 hb7 HR1
        go_wp2_with fail
        exact ⟨⟨k + 1, _, _, _, _, _, _, _, h1, by rw [HN1.out]; go_num, by go_num, HSET.out, HB8.out⟩, by simp [intOf]; omega⟩
    · obtain rfl : k = t.size := by omega
      have hkI : ¬ (t.size : Int) < (t.size : Int) := by omega
      have y0 := HR1.out.c0
      have y1 := HR1.out.c1
      have y2 := HR1.out.c2
      have hR := HR0.out _ HB.out
      have z0 := hR.c0
      have z1 := hR.c1
      have z2 := hR.c2
      have f0 := hR.fz 0 (by decide)
      have f1 := hR.fz 1 (by decide)
      have f2 := hR.fz 2 (by decide)
      obtain ⟨⟨g0, g1⟩, ⟨g2, g3⟩, g4⟩ := put_three' (.bool s1) (.slice x1 l1 c1) (.slice x1' l1' c1') z0 z1 z2
      have HP := Hid.mk' (hR.put HR1.out.rat)
      have HBF := Hid.mk' (below_chain HB0.out HB.out)
      clear hR
      unfold put3 at HP
      go_wp2_with fail
      refine bodyPost_ret (v := .agg #[.bool s1, .slice x1 l1 c1, .slice x1' l1' c1']) (by simp [results, Tryz.results20, go_sem, HP.out.c0, HP.out.c1, HP.out.c2]) rfl ⟨_, rfl, HP.out.rat, ?_⟩
      exact (((HBF.out.setCell (Nat.le_refl _) _).setCell (Nat.le_refl _) _).setCell (Nat.le_refl _) _)
end Go.Proofs.YtkglaiigoogapaaGreatDoor

/- The document's Told of a fraction. -/
namespace Go.Proofs.YtkglaiigoogapaaGreatDoor
open Go.RowKit

theorem cmpOf_le {a b : Nat} (h : a ≤ b) : cmpOf a b ≤ 0 := by
  unfold cmpOf
  split
  · omega
  · split
    · omega
    · omega

set_option maxRecDepth 100000 in
set_option maxHeartbeats 2000000 in
theorem RTold_ok (v : Value) (m d : Nat) (w : World) (h : RatioAt w v (m : Int) d) (hm : m ≤ 4611686018427387904) (hd : d ≤ 4611686018427387904) :
    Calls Tryz.prog 19 #[v] w fun e w' => e = .returned (.tuple #[.agg #[.int .i64 m, .int .i64 d], .bool true]) ∧ Below w.heap.size w w' := by
  obtain ⟨u, q, rfl, hu, hq⟩ := h
  rw [Int.natAbs_natCast] at hu
  rw [decide_eq_false (show ¬ (m : Int) < 0 by omega)]
  obtain ⟨ad1, l1, cap1, rfl, _⟩ := hu.len
  obtain ⟨ad2, l2, cap2, rfl, _⟩ := hq.len
  obtain ⟨W0, hW0⟩ : ∃ W0, W0 = (w.alloc (.cells #[.bool false, .slice ad1 l1 cap1, .slice ad2 l2 cap2] 33)).alloc (.cells #[.int .i64 0, .int .i64 0] 25) := ⟨_, rfl⟩
  have hb0 : Below w.heap.size w W0 := by rw [hW0]; exact below_chain (new_below _ _) (new_below _ _)
  have HKS : Hid (∀ W, Below W0.heap.size W0 W → (W.cell? ⟨w.heap.size, 0, none⟩ = some (.bool false) ∧ W.cell? ⟨w.heap.size, 1, none⟩ = some (.slice ad1 l1 cap1) ∧ W.cell? ⟨w.heap.size, 2, none⟩ = some (.slice ad2 l2 cap2)) ∧ (W.cell? ⟨w.heap.size + 1, 0, none⟩ = some (.int .i64 0) ∧ W.cell? ⟨w.heap.size + 1, 1, none⟩ = some (.int .i64 0)) ∧ W.frozen? ⟨w.heap.size + 1, 0, none⟩ = false ∧ W.frozen? ⟨w.heap.size + 1, 1, none⟩ = false) := fun W hb => by
    have hr := hb
    rw [hW0] at hr
    have hr2 := res_past hr
    rw [World.size_alloc] at hr2
    have a : ∀ j v, #[Value.bool false, .slice ad1 l1 cap1, .slice ad2 l2 cap2][j]? = some v → W0.cell? ⟨w.heap.size, j, none⟩ = some v := fun j v h => by rw [hW0, World.cell?_alloc_lt _ _ ⟨w.heap.size, j, none⟩ (by simp), World.cell?_alloc_at _ _ _ _ rfl]; exact h
    exact ⟨⟨(cell_past (a 0 _ rfl) hb).2, (cell_past (a 1 _ rfl) hb).2, (cell_past (a 2 _ rfl) hb).2⟩, ⟨hr2.1, hr2.2.1⟩, hr2.2.2⟩
  have HU : Hid (∀ W, Below W0.heap.size W0 W → BigAt W (.slice ad1 l1 cap1) m ∧ BigAt W (.slice ad2 l2 cap2) d) := fun W hb => ⟨(hu.later hb0).later hb, (hq.later hb0).later hb⟩
  have hof : Calls Tryz.prog 40 #[.int .i64 4611686018427387904] W0 fun e w' => ∃ v, e = .returned v ∧ BigAt w' v 4611686018427387904 ∧ Below W0.heap.size W0 w' := BigOf_any 4611686018427387904 W0 (Nat.le_refl _)
  have k4 : (4611686018427387904 : Nat) < 1000000 ^ 4 := by decide
  obtain ⟨z1, hz1⟩ : ∃ z, z = cmpOf m 4611686018427387904 := ⟨_, rfl⟩
  obtain ⟨z2, hz2⟩ : ∃ z, z = cmpOf d 4611686018427387904 := ⟨_, rfl⟩
  have hle1 : ¬ 0 < z1 := by rw [hz1]; have := cmpOf_le hm; omega
  have hle2 : ¬ 0 < z2 := by rw [hz2]; have := cmpOf_le hd; omega
  have HC1 : Hid (∀ (W : World) (v : Value), Below W0.heap.size W0 W → BigAt W v 4611686018427387904 → Calls Tryz.prog 41 #[.slice ad1 l1 cap1, v] W fun e w' => e = .returned (.int .i64 z1) ∧ ∃ m, w' = W.drewN m) := fun W v hb hv => by
    rw [hz1]; exact BigCmp_any _ _ m _ 4 W (HU.out W hb).1 hv (Nat.lt_of_le_of_lt hm k4) k4 (by decide)
  have HC2 : Hid (∀ (W : World) (v : Value), Below W0.heap.size W0 W → BigAt W v 4611686018427387904 → Calls Tryz.prog 41 #[.slice ad2 l2 cap2, v] W fun e w' => e = .returned (.int .i64 z2) ∧ ∃ m, w' = W.drewN m) := fun W v hb hv => by
    rw [hz2]; exact BigCmp_any _ _ d _ 4 W (HU.out W hb).2 hv (Nat.lt_of_le_of_lt hd k4) k4 (by decide)
  have HI1 : Hid (∀ W, Below W0.heap.size W0 W → Calls Tryz.prog 42 #[.slice ad1 l1 cap1] W fun e w' => e = .returned (.tuple #[.int .i64 m, .bool true]) ∧ w' = W) := fun W hb => BigInt_any _ m W (HU.out W hb).1 hm
  have HI2 : Hid (∀ W, Below W0.heap.size W0 W → Calls Tryz.prog 42 #[.slice ad2 l2 cap2] W fun e w' => e = .returned (.tuple #[.int .i64 d, .bool true]) ∧ w' = W) := fun W hb => BigInt_any _ d W (HU.out W hb).2 hd
  have HB0 := Hid.mk' hb0
  have HW0 := Hid.mk' hW0
  clear hu hq hb0 hW0 hz1 hz2 k4 hm hd
  go_enter Tryz.func19, Tryz.ntmps19
  go_upto_region 1 with fail
  rw [← HW0.out]
  go_wp2_with fail
  refine hof.mono ?_
  clear hof
  rintro e w1 ⟨v1, rfl, hv1, hb1⟩
  obtain ⟨⟨x0, x1, x2⟩, _, _, _⟩ := HKS.out w1 hb1
  have hc1 := HC1.out w1 v1 hb1 hv1
  go_wp2_with fail
  refine hc1.mono ?_
  rintro e w2 ⟨rfl, m2, hw2⟩
  have hb2 : Below w1.heap.size w1 w2 := by rw [hw2]; exact below_drewN (Below.refl _ _) _
  have hv2 := hv1.later hb2
  have hb02 := below_chain hb1 hb2
  clear hw2 hb1 hv1 hb2 hc1 x0 x1 x2
  obtain ⟨⟨x0, x1, x2⟩, _, _, _⟩ := HKS.out w2 hb02
  have hc2 := HC2.out w2 v1 hb02 hv2
  go_wp2_with fail
  refine hc2.mono ?_
  rintro e w3 ⟨rfl, m3, hw3⟩
  have hb3 : Below w2.heap.size w2 w3 := by rw [hw3]; exact below_drewN (Below.refl _ _) _
  have hb03 := below_chain hb02 hb3
  clear hw3 hb02 hv2 hb3 hc2 x0 x1 x2
  obtain ⟨⟨x0, x1, x2⟩, ⟨c0, c1⟩, f0, f1⟩ := HKS.out w3 hb03
  have hi1 := HI1.out w3 hb03
  have hi2 := HI2.out w3 hb03
  have HB3 := Hid.mk' (below_chain HB0.out hb03)
  clear hb03
  go_wp2_with (first
    | (go_at_call_of 42 cap1; refine hi1.mono ?_; rintro e w4 ⟨rfl, hw4⟩; rw [hw4]; clear hw4)
    | (go_at_call_of 42 cap2; refine hi2.mono ?_; rintro e w4 ⟨rfl, hw4⟩; rw [hw4]; clear hw4))
  refine bodyPost_ret (v := .tuple #[.agg #[.int .i64 m, .int .i64 d], .bool true]) (by simp [results, Tryz.results19, go_sem, c0, c1]) rfl ⟨rfl, ?_⟩
  exact (HB3.out.setCell (by show w.heap.size ≤ w.heap.size + 1; omega) _).setCell (by show w.heap.size ≤ w.heap.size + 1; omega) _
end Go.Proofs.YtkglaiigoogapaaGreatDoor

/- The document's Told of a fraction too great. -/
namespace Go.Proofs.YtkglaiigoogapaaGreatDoor
open Go.RowKit

theorem cmpOf_up {a b : Nat} (h : b < a) : 0 < cmpOf a b := by
  unfold cmpOf
  rw [if_neg (by omega), if_pos h]
  decide
set_option maxRecDepth 100000 in
set_option maxHeartbeats 2000000 in
theorem RTold_not (v : Value) (m d : Nat) (w : World) (h : RatioAt w v (m : Int) d) (hm : m < 1000000 ^ 20) (hd : d < 1000000 ^ 20) (hbig : 4611686018427387904 < m ∨ 4611686018427387904 < d) :
    Calls Tryz.prog 19 #[v] w fun e w' => e = .returned (.tuple #[.agg #[.int .i64 0, .int .i64 0], .bool false]) ∧ Below w.heap.size w w' := by
  obtain ⟨u, q, rfl, hu, hq⟩ := h
  rw [Int.natAbs_natCast] at hu
  rw [decide_eq_false (show ¬ (m : Int) < 0 by omega)]
  obtain ⟨ad1, l1, cap1, rfl, _⟩ := hu.len
  obtain ⟨ad2, l2, cap2, rfl, _⟩ := hq.len
  obtain ⟨W0, hW0⟩ : ∃ W0, W0 = (w.alloc (.cells #[.bool false, .slice ad1 l1 cap1, .slice ad2 l2 cap2] 33)).alloc (.cells #[.int .i64 0, .int .i64 0] 25) := ⟨_, rfl⟩
  have hb0 : Below w.heap.size w W0 := by rw [hW0]; exact below_chain (new_below _ _) (new_below _ _)
  have HKS : Hid (∀ W, Below W0.heap.size W0 W → (W.cell? ⟨w.heap.size, 0, none⟩ = some (.bool false) ∧ W.cell? ⟨w.heap.size, 1, none⟩ = some (.slice ad1 l1 cap1) ∧ W.cell? ⟨w.heap.size, 2, none⟩ = some (.slice ad2 l2 cap2)) ∧ (W.cell? ⟨w.heap.size + 1, 0, none⟩ = some (.int .i64 0) ∧ W.cell? ⟨w.heap.size + 1, 1, none⟩ = some (.int .i64 0)) ∧ W.frozen? ⟨w.heap.size + 1, 0, none⟩ = false ∧ W.frozen? ⟨w.heap.size + 1, 1, none⟩ = false) := fun W hb => by
    have hr := hb
    rw [hW0] at hr
    have hr2 := res_past hr
    rw [World.size_alloc] at hr2
    have a : ∀ j v, #[Value.bool false, .slice ad1 l1 cap1, .slice ad2 l2 cap2][j]? = some v → W0.cell? ⟨w.heap.size, j, none⟩ = some v := fun j v h => by rw [hW0, World.cell?_alloc_lt _ _ ⟨w.heap.size, j, none⟩ (by simp), World.cell?_alloc_at _ _ _ _ rfl]; exact h
    exact ⟨⟨(cell_past (a 0 _ rfl) hb).2, (cell_past (a 1 _ rfl) hb).2, (cell_past (a 2 _ rfl) hb).2⟩, ⟨hr2.1, hr2.2.1⟩, hr2.2.2⟩
  have HU : Hid (∀ W, Below W0.heap.size W0 W → BigAt W (.slice ad1 l1 cap1) m ∧ BigAt W (.slice ad2 l2 cap2) d) := fun W hb => ⟨(hu.later hb0).later hb, (hq.later hb0).later hb⟩
  have hof : Calls Tryz.prog 40 #[.int .i64 4611686018427387904] W0 fun e w' => ∃ v, e = .returned v ∧ BigAt w' v 4611686018427387904 ∧ Below W0.heap.size W0 w' := BigOf_any 4611686018427387904 W0 (Nat.le_refl _)
  have k4 : (4611686018427387904 : Nat) < 1000000 ^ 20 := by decide
  obtain ⟨z1, hz1⟩ : ∃ z, z = cmpOf m 4611686018427387904 := ⟨_, rfl⟩
  obtain ⟨z2, hz2⟩ : ∃ z, z = cmpOf d 4611686018427387904 := ⟨_, rfl⟩
  have hz12 : 0 < z1 ∨ ¬ 0 < z1 ∧ 0 < z2 := by
    rcases Nat.lt_or_ge 4611686018427387904 m with h | h
    · exact Or.inl (by rw [hz1]; exact cmpOf_up h)
    · refine Or.inr ⟨by rw [hz1]; have := cmpOf_le h; omega, by rw [hz2]; exact cmpOf_up (by omega)⟩
  have HC1 : Hid (∀ (W : World) (v : Value), Below W0.heap.size W0 W → BigAt W v 4611686018427387904 → Calls Tryz.prog 41 #[.slice ad1 l1 cap1, v] W fun e w' => e = .returned (.int .i64 z1) ∧ ∃ m, w' = W.drewN m) := fun W v hb hv => by
    rw [hz1]; exact BigCmp_any _ _ m _ 20 W (HU.out W hb).1 hv hm k4 (by decide)
  have HC2 : Hid (∀ (W : World) (v : Value), Below W0.heap.size W0 W → BigAt W v 4611686018427387904 → Calls Tryz.prog 41 #[.slice ad2 l2 cap2, v] W fun e w' => e = .returned (.int .i64 z2) ∧ ∃ m, w' = W.drewN m) := fun W v hb hv => by
    rw [hz2]; exact BigCmp_any _ _ d _ 20 W (HU.out W hb).2 hv hd k4 (by decide)
  have HB0 := Hid.mk' hb0
  have HW0 := Hid.mk' hW0
  clear hu hq hb0 hW0 hz1 hz2 k4 hm hd hbig
  go_enter Tryz.func19, Tryz.ntmps19
  go_upto_region 1 with fail
  rw [← HW0.out]
  go_wp2_with fail
  refine hof.mono ?_
  clear hof
  rintro e w1 ⟨v1, rfl, hv1, hb1⟩
  obtain ⟨⟨x0, x1, x2⟩, _, _, _⟩ := HKS.out w1 hb1
  have hc1 := HC1.out w1 v1 hb1 hv1
  go_wp2_with fail
  refine hc1.mono ?_
  rintro e w2 ⟨rfl, m2, hw2⟩
  have hb2 : Below w1.heap.size w1 w2 := by rw [hw2]; exact below_drewN (Below.refl _ _) _
  have hv2 := hv1.later hb2
  have hb02 := below_chain hb1 hb2
  clear hw2 hb1 hv1 hb2 hc1 x0 x1 x2
  rcases hz12 with hz | ⟨hz, hz2⟩
  · obtain ⟨_, ⟨c0, c1⟩, f0, f1⟩ := HKS.out w2 hb02
    have HB3 := Hid.mk' (below_chain HB0.out hb02)
    clear hb02
    go_wp2_with fail
    refine bodyPost_ret (v := .tuple #[.agg #[.int .i64 0, .int .i64 0], .bool false]) (by simp [results, Tryz.results19, go_sem, c0, c1]) rfl ⟨rfl, ?_⟩
    exact (HB3.out.setCell (by show w.heap.size ≤ w.heap.size + 1; omega) _).setCell (by show w.heap.size ≤ w.heap.size + 1; omega) _
  · obtain ⟨⟨x0, x1, x2⟩, _, _, _⟩ := HKS.out w2 hb02
    have hc2 := HC2.out w2 v1 hb02 hv2
    go_wp2_with fail
    refine hc2.mono ?_
    rintro e w3 ⟨rfl, m3, hw3⟩
    have hb3 : Below w2.heap.size w2 w3 := by rw [hw3]; exact below_drewN (Below.refl _ _) _
    have hb03 := below_chain hb02 hb3
    clear hw3 hb02 hv2 hb3 hc2 x0 x1 x2
    obtain ⟨_, ⟨c0, c1⟩, f0, f1⟩ := HKS.out w3 hb03
    have HB3 := Hid.mk' (below_chain HB0.out hb03)
    clear hb03
    go_wp2_with fail
    refine bodyPost_ret (v := .tuple #[.agg #[.int .i64 0, .int .i64 0], .bool false]) (by simp [results, Tryz.results19, go_sem, c0, c1]) rfl ⟨rfl, ?_⟩
    exact (HB3.out.setCell (by show w.heap.size ≤ w.heap.size + 1; omega) _).setCell (by show w.heap.size ≤ w.heap.size + 1; omega) _
end Go.Proofs.YtkglaiigoogapaaGreatDoor

/- The program's Chance; the document's BitsError and OneTold. -/
namespace Go.Proofs.YtkglaiigoogapaaGreatDoor
open Go.RowKit

theorem bitsE_ok {s : ByteArray} (h : bitsE s = 0) : s.size ≤ 24 ∧ bitB s = true := by
  unfold bitsE at h
  split at h
  · cases h
  · split at h
    · rename_i h1 h2; exact ⟨by omega, h2⟩
    · cases h
theorem bitsE_le (s : ByteArray) : bitsE s = 0 ∨ bitsE s = 1 ∨ bitsE s = 2 := by
  unfold bitsE
  split
  · exact Or.inr (Or.inr rfl)
  · split
    · exact Or.inl rfl
    · exact Or.inr (Or.inl rfl)

set_option maxRecDepth 100000 in
theorem Chance_bad (a : Nat → Addr) (s : ByteArray) (c : Nat) (w : World) (hE : Errs w a) (hs : s.size ≤ 400) (hc : bitsE s = c) (h : c = 1 ∨ c = 2) :
    Calls Tryz.prog 13 #[.string s] w fun e w' => e = .returned (.tuple #[.agg #[.int .i64 0, .int .i64 0], errV a c]) ∧ Below w.heap.size w w' := by
  obtain ⟨W0, hW0⟩ : ∃ W0, W0 = w.alloc (.cells #[.int .i64 0, .int .i64 0] 25) := ⟨_, rfl⟩
  have hb0 : Below w.heap.size w W0 := by rw [hW0]; exact new_below _ _
  have hC := checkBits_any a s W0 (hE.below hb0) hs
  rw [hc] at hC
  have HKS : Hid (∀ W, Below W0.heap.size W0 W → W.cell? ⟨w.heap.size, 0, none⟩ = some (.int .i64 0) ∧ W.cell? ⟨w.heap.size, 1, none⟩ = some (.int .i64 0) ∧ W.frozen? ⟨w.heap.size, 0, none⟩ = false ∧ W.frozen? ⟨w.heap.size, 1, none⟩ = false) := fun W hb => by
    rw [hW0] at hb
    exact res_past hb
  have HB0 := Hid.mk' hb0
  have HW0 := Hid.mk' hW0
  clear hb0 hW0 hE hc
  rcases h with rfl | rfl
  · rw [errV_1] at hC ⊢
    go_enter Tryz.func13, Tryz.ntmps13
    go_upto_region 1 with fail
    rw [← HW0.out]
    go_wp2_with fail
    refine hC.mono ?_
    clear hC
    rintro e w1 ⟨rfl, hb1⟩
    obtain ⟨g0, g1, f0, f1⟩ := HKS.out w1 hb1
    have HB3 := Hid.mk' (below_chain HB0.out hb1)
    clear hb1
    go_wp2_with fail
    refine bodyPost_ret (v := .tuple #[.agg #[.int .i64 0, .int .i64 0], _]) (by simp [results, Tryz.results13, go_sem, g0, g1]) rfl ⟨rfl, ?_⟩
    exact (HB3.out.setCell (Nat.le_refl _) _).setCell (Nat.le_refl _) _
  · rw [errV_2] at hC ⊢
    go_enter Tryz.func13, Tryz.ntmps13
    go_upto_region 1 with fail
    rw [← HW0.out]
    go_wp2_with fail
    refine hC.mono ?_
    clear hC
    rintro e w1 ⟨rfl, hb1⟩
    obtain ⟨g0, g1, f0, f1⟩ := HKS.out w1 hb1
    have HB3 := Hid.mk' (below_chain HB0.out hb1)
    clear hb1
    go_wp2_with fail
    refine bodyPost_ret (v := .tuple #[.agg #[.int .i64 0, .int .i64 0], _]) (by simp [results, Tryz.results13, go_sem, g0, g1]) rfl ⟨rfl, ?_⟩
    exact (HB3.out.setCell (Nat.le_refl _) _).setCell (Nat.le_refl _) _

set_option maxRecDepth 100000 in
theorem Chance_ok (a : Nat → Addr) (s : ByteArray) (p q : Int) (y : Value) (w : World) (hE : Errs w a) (hc : bitsE s = 0) (hv : toldV a (lnN s s.size) (lnD s.size) = .tuple #[.agg #[.int .i64 p, .int .i64 q], y]) :
    Calls Tryz.prog 13 #[.string s] w fun e w' => e = .returned (.tuple #[.agg #[.int .i64 p, .int .i64 q], y]) ∧ Below w.heap.size w w' := by
  obtain ⟨hs, hb⟩ := bitsE_ok hc
  obtain ⟨W0, hW0⟩ : ∃ W0, W0 = w.alloc (.cells #[.int .i64 0, .int .i64 0] 25) := ⟨_, rfl⟩
  have hb0 : Below w.heap.size w W0 := by rw [hW0]; exact new_below _ _
  have hC := checkBits_any a s W0 (hE.below hb0) (by omega)
  rw [hc, show errV a 0 = .nilIface from rfl] at hC
  have HKS : Hid (∀ W, Below W0.heap.size W0 W → W.cell? ⟨w.heap.size, 0, none⟩ = some (.int .i64 0) ∧ W.cell? ⟨w.heap.size, 1, none⟩ = some (.int .i64 0) ∧ W.frozen? ⟨w.heap.size, 0, none⟩ = false ∧ W.frozen? ⟨w.heap.size, 1, none⟩ = false) := fun W hb => by
    rw [hW0] at hb
    exact res_past hb
  have HLE := Hid.mk' (fun W => learnt_any s W hs (fun i hi => bit_at hi hb))
  have hle := lnN_le s s.size
  have hsm := (lnD_small (i := s.size) (by omega)).2
  have HTO : Hid (∀ W x0 l0 c0 x1 l1 c1, Below w.heap.size w W → NatAt W (.slice x0 l0 c0) (lnN s s.size) → NatAt W (.slice x1 l1 c1) (lnD s.size) → Calls Tryz.prog 30 #[.agg #[.slice x0 l0 c0, .slice x1 l1 c1]] W fun e w' => e = .returned (.tuple #[.agg #[.int .i64 p, .int .i64 q], y]) ∧ Below W.heap.size W w') := fun W x0 l0 c0 x1 l1 c1 hb hN hD => share_told a x0 x1 l0 c0 l1 c1 _ _ p q y W (hE.below hb) hN hD (lnD_pos _) (by omega) hsm hv
  have HB0 := Hid.mk' hb0
  have HW0 := Hid.mk' hW0
  clear hb0 hW0 hE hc hv hle hsm
  go_enter Tryz.func13, Tryz.ntmps13
  go_upto_region 1 with fail
  rw [← HW0.out]
  go_wp2_with fail
  refine hC.mono ?_
  clear hC
  rintro e w1 ⟨rfl, hb1⟩
  have HB1 := Hid.mk' hb1
  clear hb1
  go_wp2_with fail
  refine (HLE.out _).mono ?_
  rintro e w2 ⟨x0, l0, c0, x1, l1, c1, rfl, hN, hD, hb2⟩
  have HN := Hid.mk' hN
  have HD := Hid.mk' hD
  have HB2 := Hid.mk' (below_chain HB1.out hb2)
  clear hN hD hb2
  go_wp2_with fail
  refine (HTO.out _ _ _ _ _ _ _ (below_chain HB0.out HB2.out) HN.out HD.out).mono ?_
  rintro e w3 ⟨rfl, hb3⟩
  obtain ⟨g0, g1, f0, f1⟩ := HKS.out w3 (below_chain HB2.out hb3)
  have HB3 := Hid.mk' (below_chain HB0.out (below_chain HB2.out hb3))
  clear hb3
  go_wp2_with fail
  refine bodyPost_ret (v := .tuple #[.agg #[.int .i64 p, .int .i64 q], y]) (by simp [results, Tryz.results13, go_sem, g0, g1]) rfl ⟨rfl, ?_⟩
  exact (HB3.out.setCell (Nat.le_refl _) _).setCell (Nat.le_refl _) _

set_option maxRecDepth 100000 in
theorem BitsError_any (s : ByteArray) (w : World) (hs : s.size ≤ 400) :
    Calls Tryz.prog 6 #[.string s] w fun e w' => e = .returned (.int .i64 (bitsE s : Nat)) ∧ Below w.heap.size w w' := by
  by_cases h1 : 24 < s.size
  · rw [show bitsE s = 2 by unfold bitsE; rw [if_pos h1]]
    have h1I : (24 : Int) < (s.size : Int) := by omega
    go_enter Tryz.func6, Tryz.ntmps6
    go_wp2_with fail
    go_ret
    exact ⟨rfl, Below.refl _ _⟩
  · have h1I : ¬ (24 : Int) < (s.size : Int) := by omega
    have hB := DocBits_any s w (by omega)
    by_cases h2 : bitB s = true
    · rw [show bitsE s = 0 by unfold bitsE; rw [if_neg h1, if_pos h2]]
      rw [h2] at hB
      go_enter Tryz.func6, Tryz.ntmps6
      go_wp2_with fail
      refine hB.mono ?_
      rintro e w1 ⟨rfl, hb1⟩
      clear hB
      go_wp2_with fail
      go_ret
      exact ⟨rfl, hb1⟩
    · have h2 : bitB s = false := by simpa using h2
      rw [show bitsE s = 1 by unfold bitsE; rw [if_neg h1, h2]; rfl]
      rw [h2] at hB
      go_enter Tryz.func6, Tryz.ntmps6
      go_wp2_with fail
      refine hB.mono ?_
      rintro e w1 ⟨rfl, hb1⟩
      clear hB
      go_wp2_with fail
      go_ret
      exact ⟨rfl, hb1⟩

set_option maxRecDepth 100000 in
theorem OneTold_by (x0 x1 : Option Addr) (l0 c0 l1 c1 : Nat) (sg : Bool) (p q : Int) (ok : Bool) (w : World)
    (hT : ∀ W, Below w.heap.size w W → Calls Tryz.prog 19 #[.agg #[.bool sg, .slice x0 l0 c0, .slice x1 l1 c1]] W fun e w' => e = .returned (.tuple #[.agg #[.int .i64 p, .int .i64 q], .bool ok]) ∧ Below W.heap.size W w') (hno : ok = false → p = 0 ∧ q = 0) :
    Calls Tryz.prog 7 #[.agg #[.bool sg, .slice x0 l0 c0, .slice x1 l1 c1]] w fun e w' => e = .returned (.tuple #[.agg #[.int .i64 p, .int .i64 q], .int .i64 (if ok = true then 0 else 2)]) ∧ Below w.heap.size w w' := by
  obtain ⟨W0, hW0⟩ : ∃ W0, W0 = (w.alloc (.cells #[.bool sg, .slice x0 l0 c0, .slice x1 l1 c1] 33)).alloc (.cells #[.int .i64 0, .int .i64 0] 25) := ⟨_, rfl⟩
  have hb0 : Below w.heap.size w W0 := by rw [hW0]; exact below_chain (new_below _ _) (new_below _ _)
  have HKS : Hid (∀ W, Below W0.heap.size W0 W → (W.cell? ⟨w.heap.size, 0, none⟩ = some (.bool sg) ∧ W.cell? ⟨w.heap.size, 1, none⟩ = some (.slice x0 l0 c0) ∧ W.cell? ⟨w.heap.size, 2, none⟩ = some (.slice x1 l1 c1)) ∧ (W.cell? ⟨w.heap.size + 1, 0, none⟩ = some (.int .i64 0) ∧ W.cell? ⟨w.heap.size + 1, 1, none⟩ = some (.int .i64 0)) ∧ W.frozen? ⟨w.heap.size + 1, 0, none⟩ = false ∧ W.frozen? ⟨w.heap.size + 1, 1, none⟩ = false) := fun W hb => by
    have hr := hb
    rw [hW0] at hr
    have hr2 := res_past hr
    rw [World.size_alloc] at hr2
    have a : ∀ j v, #[Value.bool sg, .slice x0 l0 c0, .slice x1 l1 c1][j]? = some v → W0.cell? ⟨w.heap.size, j, none⟩ = some v := fun j v h => by rw [hW0, World.cell?_alloc_lt _ _ ⟨w.heap.size, j, none⟩ (by simp), World.cell?_alloc_at _ _ _ _ rfl]; exact h
    exact ⟨⟨(cell_past (a 0 _ rfl) hb).2, (cell_past (a 1 _ rfl) hb).2, (cell_past (a 2 _ rfl) hb).2⟩, ⟨hr2.1, hr2.2.1⟩, hr2.2.2⟩
  have hT1 := hT W0 hb0
  have HB0 := Hid.mk' hb0
  have HW0 := Hid.mk' hW0
  obtain ⟨⟨z0, z1, z2⟩, _⟩ := HKS.out W0 (Below.refl _ _)
  have HLT : Hid (w.heap.size + 2 ≤ W0.heap.size) := by show _ ≤ _; rw [hW0]; simp
  clear hb0 hW0 hT
  go_enter Tryz.func7, Tryz.ntmps7
  go_upto_region 1 with fail
  rw [← HW0.out]
  go_wp2_with fail
  refine hT1.mono ?_
  clear hT1
  rintro e w1 ⟨rfl, hb1⟩
  obtain ⟨_, ⟨g0, g1⟩, f0, f1⟩ := HKS.out _ hb1
  have HB3 := Hid.mk' (below_chain HB0.out hb1)
  have HSZ : Hid (w.heap.size + 1 < w1.heap.size) := by have := HLT.out; have := hb1.size; show _ < _; omega
  have hsz := HSZ.out
  have HF : Hid (∀ (y0 y1 : Value) (X : Obj), (((w1.setCell ⟨w.heap.size + 1, 0, none⟩ y0).setCell ⟨w.heap.size + 1, 1, none⟩ y1).alloc X).cell? ⟨w.heap.size + 1, 0, none⟩ = some y0 ∧ (((w1.setCell ⟨w.heap.size + 1, 0, none⟩ y0).setCell ⟨w.heap.size + 1, 1, none⟩ y1).alloc X).cell? ⟨w.heap.size + 1, 1, none⟩ = some y1) := fun y0 y1 X =>
    ⟨by rw [World.cell?_alloc_lt _ _ ⟨w.heap.size + 1, 0, none⟩ (by simp; exact hsz)]; exact (put_two y0 y1 g0 g1).2.1, by rw [World.cell?_alloc_lt _ _ ⟨w.heap.size + 1, 1, none⟩ (by simp; exact hsz)]; exact (put_two y0 y1 g0 g1).2.2⟩
  clear hb1
  cases ok
  · obtain ⟨rfl, rfl⟩ := hno rfl
    clear hno
    go_wp2_with fail
    refine bodyPost_ret (v := .tuple #[.agg #[.int .i64 0, .int .i64 0], .int .i64 2]) (by simp [results, Tryz.results7, go_sem, (HF.out _ _ _).1, (HF.out _ _ _).2]) rfl ⟨rfl, ?_⟩
    exact ((HB3.out.setCell (by show w.heap.size ≤ w.heap.size + 1; omega) _).setCell (by show w.heap.size ≤ w.heap.size + 1; omega) _).alloc (by have := HSZ.out; simp; omega) _
  · clear hno
    go_wp2_with fail
    refine bodyPost_ret (v := .tuple #[.agg #[.int .i64 p, .int .i64 q], .int .i64 0]) (by simp [results, Tryz.results7, go_sem, (HF.out _ _ _).1, (HF.out _ _ _).2]) rfl ⟨rfl, ?_⟩
    exact ((HB3.out.setCell (by show w.heap.size ≤ w.heap.size + 1; omega) _).setCell (by show w.heap.size ≤ w.heap.size + 1; omega) _).alloc (by have := HSZ.out; simp; omega) _
end Go.Proofs.YtkglaiigoogapaaGreatDoor

/- Contexts weighed: the bits behind a context, and the two numbers of a chance. -/
namespace Go.Proofs.YtkglaiigoogapaaGreatDoor

/-- The bits behind a context, among the first n from the place d on. -/
def bhd (row : ByteArray) (d : Nat) (c : ByteArray) : Nat → ByteArray
  | 0 => ⟨#[]⟩
  | k + 1 => if row.extract (d + k - c.size) (d + k) = c then bhd row d c k ++ row.extract (d + k) (d + k + 1) else bhd row d c k
theorem bhd_yes {row c : ByteArray} {d k : Nat} (h : row.extract (d + k - c.size) (d + k) = c) : bhd row d c (k + 1) = bhd row d c k ++ row.extract (d + k) (d + k + 1) := if_pos h
theorem bhd_no {row c : ByteArray} {d k : Nat} (h : ¬ row.extract (d + k - c.size) (d + k) = c) : bhd row d c (k + 1) = bhd row d c k := if_neg h
theorem bhd_size (row : ByteArray) (d : Nat) (c : ByteArray) : ∀ k, (bhd row d c k).size ≤ k
  | 0 => Nat.le_refl _
  | k + 1 => by
    have ih := bhd_size row d c k
    by_cases h : row.extract (d + k - c.size) (d + k) = c
    · rw [bhd_yes h, ByteArray.size_append, ByteArray.size_extract]; omega
    · rw [bhd_no h]; omega
/-- Bits alone. -/
def BitsA (t : ByteArray) : Prop := ∀ i (hi : i < t.size), (t[i]'hi) = 48 ∨ (t[i]'hi) = 49
theorem BitsA.append {a b : ByteArray} (ha : BitsA a) (hb : BitsA b) : BitsA (a ++ b) := fun i hi => by
  rcases Nat.lt_or_ge i a.size with h | h
  · rw [ByteArray.getElem_append_left h]; exact ha i h
  · rw [ByteArray.getElem_append_right h]; exact hb _ _
theorem BitsA.extract {a : ByteArray} (ha : BitsA a) (i j : Nat) : BitsA (a.extract i j) := fun k hk => by
  rw [ByteArray.getElem_extract]; exact ha _ _
theorem BitsA.none : BitsA ⟨#[]⟩ := fun _ hi => absurd hi (Nat.not_lt_zero _)
theorem bhd_bits {row : ByteArray} (h : BitsA row) (d : Nat) (c : ByteArray) : ∀ k, BitsA (bhd row d c k)
  | 0 => BitsA.none
  | k + 1 => by
    by_cases hx : row.extract (d + k - c.size) (d + k) = c
    · rw [bhd_yes hx]; exact (bhd_bits h d c k).append (h.extract _ _)
    · rw [bhd_no hx]; exact bhd_bits h d c k
/-- The chance with m more bits of context: two numbers. -/
def wg (row : ByteArray) (d n : Nat) : Nat → ByteArray → Nat × Nat
  | 0, c => (lnN (bhd row d c n) (bhd row d c n).size, lnD (bhd row d c n).size)
  | m + 1, c => (lnN (bhd row d c n) (bhd row d c n).size * ((wg row d n m (⟨#[48]⟩ ++ c)).2 * (wg row d n m (⟨#[49]⟩ ++ c)).2) + (wg row d n m (⟨#[48]⟩ ++ c)).1 * (wg row d n m (⟨#[49]⟩ ++ c)).1 * lnD (bhd row d c n).size, lnD (bhd row d c n).size * ((wg row d n m (⟨#[48]⟩ ++ c)).2 * (wg row d n m (⟨#[49]⟩ ++ c)).2) * 2)
def wE : Nat → Nat
  | 0 => 50 ^ 24
  | m + 1 => 50 ^ 24 * (wE m * wE m) * 2
theorem wg_ok (row : ByteArray) (d n : Nat) (hn : n ≤ 24) : ∀ m c, 0 < (wg row d n m c).2 ∧ (wg row d n m c).1 ≤ (wg row d n m c).2 ∧ (wg row d n m c).2 ≤ wE m
  | 0, c => by
    have hs := bhd_size row d c n
    exact ⟨lnD_pos _, lnN_le _ _, Nat.le_trans (lnD_pow _ (by omega)) (Nat.pow_le_pow_right (by decide) (by omega))⟩
  | m + 1, c => by
    have hs := bhd_size row d c n
    obtain ⟨p0, l0, e0⟩ := wg_ok row d n hn m (⟨#[48]⟩ ++ c)
    obtain ⟨p1, l1, e1⟩ := wg_ok row d n hn m (⟨#[49]⟩ ++ c)
    have hD := lnD_pos (bhd row d c n).size
    have hL := lnN_le (bhd row d c n) (bhd row d c n).size
    have hE : lnD (bhd row d c n).size ≤ 50 ^ 24 := Nat.le_trans (lnD_pow _ (by omega)) (Nat.pow_le_pow_right (by decide) (by omega))
    show 0 < _ * (_ * _) * 2 ∧ _ * (_ * _) + _ * _ * _ ≤ _ * (_ * _) * 2 ∧ _ * (_ * _) * 2 ≤ 50 ^ 24 * (wE m * wE m) * 2
    refine ⟨Nat.mul_pos (Nat.mul_pos hD (Nat.mul_pos p0 p1)) (by decide), ?_, Nat.mul_le_mul (Nat.mul_le_mul hE (Nat.mul_le_mul e0 e1)) (Nat.le_refl _)⟩
    have h1 := Nat.mul_le_mul hL (Nat.le_refl ((wg row d n m (⟨#[48]⟩ ++ c)).2 * (wg row d n m (⟨#[49]⟩ ++ c)).2))
    have h2 := Nat.mul_le_mul (Nat.mul_le_mul l0 l1) (Nat.le_refl (lnD (bhd row d c n).size))
    rw [Nat.mul_comm ((wg row d n m (⟨#[48]⟩ ++ c)).2 * (wg row d n m (⟨#[49]⟩ ++ c)).2)] at h2
    omega
theorem wE_mono : ∀ m, m ≤ 4 → wE m ≤ wE 4 := by decide +kernel
theorem wE_small : wE 4 * wE 4 * wE 4 < 18446744073709551616 ^ 220 ∧ wE 4 * wE 4 * wE 4 < 1000000 ^ 700 := by decide +kernel
theorem wE_one : 1 ≤ wE 4 := by decide +kernel
/-- Whatever is at most the product of three such numbers has room. -/
theorem wE_room {x : Nat} (h : x ≤ wE 4 * wE 4 * wE 4) : x < 18446744073709551616 ^ 220 ∧ x < 1000000 ^ 700 := ⟨Nat.lt_of_le_of_lt h wE_small.1, Nat.lt_of_le_of_lt h wE_small.2⟩
theorem two_room : (2 : Nat) < 1000000 ^ 700 ∧ (1 : Nat) < 1000000 ^ 700 := ⟨(wE_room (x := 2) (by decide +kernel)).2, (wE_room (x := 1) (by decide +kernel)).2⟩
theorem wE_le1 {x : Nat} (h : x ≤ wE 4) : x ≤ wE 4 * wE 4 * wE 4 := by
  have h1 := wE_one
  refine Nat.le_trans h ?_
  rw [Nat.mul_assoc]
  exact Nat.le_mul_of_pos_right _ (Nat.mul_pos h1 h1)
theorem wE_le2 {x y : Nat} (h : x ≤ wE 4) (k : y ≤ wE 4) : x * y ≤ wE 4 * wE 4 * wE 4 :=
  Nat.le_trans (Nat.mul_le_mul h k) (Nat.le_mul_of_pos_right _ wE_one)

theorem low_plusW {M K : Nat} (hM : 0 < M) (hK : 0 < K) (A B : Int) : (lowN M A * (lowD K B : Int) + lowN K B * (lowD M A : Int)).tdiv ((Nat.gcd (lowN M A * (lowD K B : Int) + lowN K B * (lowD M A : Int)).natAbs (lowD M A * lowD K B) : Nat) : Int) = lowN (M * K) (A * K + B * M) ∧ lowD M A * lowD K B / Nat.gcd (lowN M A * (lowD K B : Int) + lowN K B * (lowD M A : Int)).natAbs (lowD M A * lowD K B) = lowD (M * K) (A * K + B * M) := by
  refine low_same (Nat.mul_pos hM hK) (Nat.mul_pos (lowD_pos hM A) (lowD_pos hK B)) ?_
  have h1 := low_cross hM A
  have h2 := low_cross hK B
  rw [Int.natCast_mul, Int.natCast_mul]
  generalize lowN M A = a at *
  generalize lowN K B = b at *
  generalize (lowD M A : Int) = c at *
  generalize (lowD K B : Int) = e at *
  generalize (M : Int) = m at *
  generalize (K : Int) = k at *
  calc (a * e + b * c) * (m * k) = (a * m) * (e * k) + (b * k) * (c * m) := by grind
    _ = (A * c) * (e * k) + (B * e) * (c * m) := by rw [h1, h2]
    _ = (A * k + B * m) * (c * e) := by grind
theorem low_half {M : Nat} (hM : 0 < M) (A : Int) : (lowN M A * ((1 : Nat) : Int)).tdiv ((Nat.gcd (lowN M A * ((1 : Nat) : Int)).natAbs (lowD M A * 2) : Nat) : Int) = lowN (M * 2) A ∧ lowD M A * 2 / Nat.gcd (lowN M A * ((1 : Nat) : Int)).natAbs (lowD M A * 2) = lowD (M * 2) A := by
  refine low_same (Nat.mul_pos hM (by decide)) (Nat.mul_pos (lowD_pos hM A) (by decide)) ?_
  have h1 := low_cross hM A
  rw [Int.natCast_mul, Int.natCast_mul]
  generalize lowN M A = a at *
  generalize (lowD M A : Int) = c at *
  generalize (M : Int) = m at *
  calc a * ((1 : Nat) : Int) * (m * ((2 : Nat) : Int)) = (a * m) * 2 := by grind
    _ = (A * c) * 2 := by rw [h1]
    _ = A * (c * ((2 : Nat) : Int)) := by grind
end Go.Proofs.YtkglaiigoogapaaGreatDoor

/- The document's differences. -/
namespace Go.Proofs.YtkglaiigoogapaaGreatDoor
open Go.RowKit

/-- What is less than nothing by a part of M. -/
theorem low_minus {M : Nat} (hM : 0 < M) (z : Int) : (0 * (lowD M z : Int) + -lowN M z * (1 : Nat)).tdiv ((Nat.gcd (0 * (lowD M z : Int) + -lowN M z * (1 : Nat)).natAbs (1 * lowD M z) : Nat) : Int) = lowN M (-z) ∧ 1 * lowD M z / Nat.gcd (0 * (lowD M z : Int) + -lowN M z * (1 : Nat)).natAbs (1 * lowD M z) = lowD M (-z) := by
  refine low_same hM (by have := lowD_pos hM z; omega) ?_
  have h1 := low_cross hM z
  rw [Nat.one_mul]
  generalize lowN M z = a at *
  generalize (lowD M z : Int) = c at *
  simp only [Int.zero_mul, Int.zero_add, Int.natCast_one, Int.mul_one]
  rw [Int.neg_mul, h1, Int.neg_mul]
/-- A part of a part: n of M times x of n is x of M. -/
theorem low_times {M n : Nat} (hM : 0 < M) (hn : 0 < n) (x : Int) : (lowN M n * lowN n x).tdiv ((Nat.gcd (lowN M n * lowN n x).natAbs (lowD M n * lowD n x) : Nat) : Int) = lowN M x ∧ lowD M n * lowD n x / Nat.gcd (lowN M n * lowN n x).natAbs (lowD M n * lowD n x) = lowD M x := by
  refine low_same hM (Nat.mul_pos (lowD_pos hM n) (lowD_pos hn x)) ?_
  have h1 := low_cross hM (n : Int)
  have h2 := low_cross hn x
  rw [Int.natCast_mul]
  generalize lowN M n = a at *
  generalize lowN n x = b at *
  generalize (lowD M n : Int) = c at *
  generalize (lowD n x : Int) = e at *
  calc a * b * (M : Int) = (a * (M : Int)) * b := by rw [Int.mul_assoc, Int.mul_comm b, ← Int.mul_assoc]
    _ = (b * (n : Int)) * c := by rw [h1, Int.mul_comm (n : Int) c, Int.mul_assoc, Int.mul_comm c, Int.mul_comm (n : Int) b]
    _ = x * (c * e) := by rw [h2, Int.mul_assoc, Int.mul_comm e c]
theorem low_self {M : Nat} (hM : 0 < M) : lowN M M = 1 ∧ lowD M M = 1 := by
  have h := low_same (M := M) (d := 1) (z := (M : Int)) (n := 1) hM (by decide) (by simp)
  simpa using And.intro h.1.symm h.2.symm
end Go.Proofs.YtkglaiigoogapaaGreatDoor

/- The document's Over. -/
namespace Go.Proofs.YtkglaiigoogapaaGreatDoor
open Go.RowKit

set_option maxRecDepth 10000 in
set_option maxHeartbeats 4000000 in
/-- Over: the quotient by one above 0, in its lowest terms. -/
theorem Over_ratio (v1 v2 : Value) (n1 : Int) (m d1 d2 k : Nat) (w : World) (h1 : RatioAt w v1 n1 d1) (h2 : RatioAt w v2 (m : Int) d2) (hd1 : 0 < d1) (hm0 : 0 < m) (hn1 : n1.natAbs < 1000000 ^ k) (hn2 : m < 1000000 ^ k) (hk1 : d1 < 1000000 ^ k) (hk2 : d2 < 1000000 ^ k) (hk : k + k + 1 + 1 ≤ 1000000) :
    Calls Tryz.prog 22 #[v1, v2] w fun e w' => ∃ r, e = .returned r ∧ RatioAt w' r ((n1 * d2).tdiv ((Nat.gcd (n1 * d2).natAbs (d1 * m) : Nat) : Int)) (d1 * m / Nat.gcd (n1 * d2).natAbs (d1 * m)) ∧ Below w.heap.size w w' := by
  obtain ⟨u1, q1, rfl, hu1, hq1⟩ := h1
  obtain ⟨u2, q2, rfl, hu2, hq2⟩ := h2
  obtain ⟨ad1, l1, cap1, rfl, _⟩ := hu1.len
  obtain ⟨bd1, m1, bap1, rfl, _⟩ := hq1.len
  obtain ⟨ad2, l2, cap2, rfl, _⟩ := hu2.len
  obtain ⟨bd2, m2, bap2, rfl, _⟩ := hq2.len
  obtain ⟨s1, hs1⟩ : ∃ s, decide (n1 < 0) = s := ⟨_, rfl⟩
  have hs2 : decide ((m : Int) < 0) = false := decide_eq_false (by omega)
  rw [hs1, hs2]
  rw [Int.natAbs_natCast] at hu2
  have hB0 : Below w.heap.size w (((w.alloc (.cells #[.bool s1, .slice ad1 l1 cap1, .slice bd1 m1 bap1] 33)).alloc (.cells #[.bool false, .slice ad2 l2 cap2, .slice bd2 m2 bap2] 33)).alloc (.cells #[.bool false, .slice none 0 0, .slice none 0 0] 33)) := (((Below.refl _ _).alloc (Nat.le_refl _) _).alloc (by simp) _).alloc (by simp; omega) _
  have hN := noInts_third3 w (.cells #[.bool s1, .slice ad1 l1 cap1, .slice bd1 m1 bap1] 33) (.cells #[.bool false, .slice ad2 l2 cap2, .slice bd2 m2 bap2] 33) 33
  have hNP := fun (w1 : World) => nine_past (w := w) (w1 := w1) (x0 := .bool s1) (x1 := .slice ad1 l1 cap1) (x2 := .slice bd1 m1 bap1) (y0 := .bool false) (y1 := .slice ad2 l2 cap2) (y2 := .slice bd2 m2 bap2) (r0 := .bool false) (r1 := .slice none 0 0) (r2 := .slice none 0 0) (t := 33)
  have hz0 : w.heap.size + 1 + 1 + 1 = (((w.alloc (.cells #[.bool s1, .slice ad1 l1 cap1, .slice bd1 m1 bap1] 33)).alloc (.cells #[.bool false, .slice ad2 l2 cap2, .slice bd2 m2 bap2] 33)).alloc (.cells #[.bool false, .slice none 0 0, .slice none 0 0] 33)).heap.size := by simp
  generalize hW : (((w.alloc (.cells #[.bool s1, .slice ad1 l1 cap1, .slice bd1 m1 bap1] 33)).alloc (.cells #[.bool false, .slice ad2 l2 cap2, .slice bd2 m2 bap2] 33)).alloc (.cells #[.bool false, .slice none 0 0, .slice none 0 0] 33)) = W0 at hB0 hN hNP hz0
  have hKS : ∀ W, Below W0.heap.size W0 W → (W.cell? ⟨w.heap.size, 0, none⟩ = some (.bool s1) ∧ W.cell? ⟨w.heap.size, 1, none⟩ = some (.slice ad1 l1 cap1) ∧ W.cell? ⟨w.heap.size, 2, none⟩ = some (.slice bd1 m1 bap1)) ∧ (W.cell? ⟨w.heap.size + 1, 0, none⟩ = some (.bool false) ∧ W.cell? ⟨w.heap.size + 1, 1, none⟩ = some (.slice ad2 l2 cap2) ∧ W.cell? ⟨w.heap.size + 1, 2, none⟩ = some (.slice bd2 m2 bap2)) := fun W hb => by
    obtain ⟨a, b, _⟩ := hNP W hb
    exact ⟨a, b⟩
  have HS1 : Hid (∀ W, Below W0.heap.size W0 W → SignedAt W (.agg #[.bool s1, .slice ad1 l1 cap1]) n1) := fun W hb => ⟨_, by rw [hs1], (hu1.later hB0).later hb⟩
  have HU2 : Hid (∀ W, Below W0.heap.size W0 W → BigAt W (.slice ad2 l2 cap2) m) := fun W hb => (hu2.later hB0).later hb
  have HD1 : Hid (∀ W, Below W0.heap.size W0 W → BigAt W (.slice bd1 m1 bap1) d1) := fun W hb => (hq1.later hB0).later hb
  have HD2 : Hid (∀ W, Below W0.heap.size W0 W → BigAt W (.slice bd2 m2 bap2) d2) := fun W hb => (hq2.later hB0).later hb
  have HKS := Hid.mk' hKS
  have HW := Hid.mk' hW
  have HNP := Hid.mk' hNP
  have HN := Hid.mk' hN
  have HB := Hid.mk' hB0
  have hsm : (n1 * (d2 : Int)).natAbs < 1000000 ^ (k + k) := by rw [Int.natAbs_mul, Int.natAbs_natCast, Nat.pow_add]; exact Nat.mul_lt_mul'' hn1 hk2
  have hdd : d1 * m < 1000000 ^ (k + k) := by rw [Nat.pow_add]; exact Nat.mul_lt_mul'' hk1 hn2
  have HM := Hid.mk' (And.intro hsm hdd)
  have HBD : Hid (n1.natAbs < 1000000 ^ k ∧ (d2 : Int).natAbs < 1000000 ^ k) := ⟨hn1, by rw [Int.natAbs_natCast]; exact hk2⟩
  have HDK := Hid.mk' (And.intro hk1 hn2)
  have hcur0 : Below W0.heap.size W0 W0 := Below.refl _ _
  have hcur : Below W0.heap.size W0 W0.drew := (Below.refl _ _).drew
  have hcurA : ∀ X, Below W0.heap.size W0 (W0.alloc X).drew := fun X => (new_below _ _).drew
  have hdn2 : ¬ (d2 : Int) < 0 := by omega
  have HDE : Hid (decide ((d2 : Int) < 0) = false) := decide_eq_false hdn2
  clear hs1 hs2 hu1 hu2 hq1 hq2 hB0 hN hNP hW hKS hn1 hn2 hk1 hk2 hsm hdd hdn2
  generalize hz : n1 * (d2 : Int) = z at HM ⊢
  have HZ := Hid.mk' hz
  clear hz
  go_enter Tryz.func22, Tryz.ntmps22
  go_wp2_with fail
  rw [HW.out]
  go_cut [5] from 6 (fun s wx => ∃ Bs : Nat, s = .pointer (some ⟨Bs, 0, none⟩) ∧ Hid (SignBox W0 wx Bs z))
  case first =>
    go_region_held3 (fun W => (W.cell? ⟨w.heap.size, 0, none⟩ = some (.bool s1) ∧ W.cell? ⟨w.heap.size, 1, none⟩ = some (.slice ad1 l1 cap1) ∧ W.cell? ⟨w.heap.size, 2, none⟩ = some (.slice bd1 m1 bap1)) ∧ (W.cell? ⟨w.heap.size + 1, 0, none⟩ = some (.bool false) ∧ W.cell? ⟨w.heap.size + 1, 1, none⟩ = some (.slice ad2 l2 cap2) ∧ W.cell? ⟨w.heap.size + 1, 2, none⟩ = some (.slice bd2 m2 bap2)))
      (first | exact HKS.out _ hcur0 | exact HKS.out _ hcur | exact HKS.out _ (hcurA _) | (refine HKS.out _ ?_; assumption) | (refine HKS.out _ (more_below ?_ _); assumption) | (refine HKS.out _ (setB_below ?_ NB.hB _ _); assumption))
      (first
        | (go_at_call 36; refine (SignedMul_any _ _ n1 (d2 : Int) k _ (HS1.out _ ?_) (HX1.out _ ?_) HBD.out.1 HBD.out.2 (by omega)).mono ?_; (first | exact hbw1 | exact more_below hbw1 _); (first | exact Below.refl _ _ | exact new_below _ _); rintro e w2 ⟨sv2, rfl, ⟨x2, rfl, hx2⟩, hb2⟩; rw [HZ.out] at hx2 ⊢; obtain ⟨ad4, l4, cap4, rfl, _⟩ := hx2.len; (first | (have hbw2 := below_chain hbw1 hb2; try have NB := NB.later hb2) | (have hbw2 := below_chain (more_below hbw1 _) hb2; have NB := newBox_of hbw1 hb2)); (try (have y0 := NB.c0; have y1 := NB.c1; have y2 := NB.f0; have y3 := NB.f1)); have HX5 := Hid.mk' hx2; clear hx2 hb2)
        | (go_at_call 37; refine (wide_any (.slice bd2 m2 bap2) d2 _ (HD2.out _ ?_)).mono ?_; (first | exact hcur | exact hcurA _); rintro e w1 ⟨sv1, rfl, ⟨x1, rfl, hx1⟩, hb1⟩; rw [HDE.out]; obtain ⟨ad3, l3, cap3, rfl, _⟩ := hx1.len; (first | have hbw1 := below_chain hcur hb1 | (have hbw1 := below_chain (hcurA _) hb1; have NB := newBox_of hcur0 (below_chain ((Below.refl _ _).drew) hb1))); have HX1 : Hid (∀ W, Below w1.heap.size w1 W → SignedAt W (.agg #[.bool false, .slice ad3 l3 cap3]) (d2 : Int)) := (fun W hb => ⟨_, by rw [HDE.out], hx1.later hb⟩); clear hx1 hb1))
    all_goals
      go_wp2_with fail
      go_meet
      first | exact ⟨_, rfl, signBox_late hbw2 HX5.out⟩ | exact ⟨_, rfl, signBox_soon hbw2 HX5.out NB⟩
  case rest =>
  obtain ⟨Bs, rfl, HSB⟩ := hcut
  obtain ⟨u, x0, x1, hu⟩ := HSB.out.box
  obtain ⟨ad, l, cap, rfl, _⟩ := hu.len
  obtain ⟨sg, hsg⟩ : ∃ sg, decide (z < 0) = sg := ⟨_, rfl⟩
  rw [hsg] at x0
  have hBs := HSB.out.hB
  have hSc : ∀ W, Below wc.heap.size wc W → W.cell? ⟨Bs, 0, none⟩ = some (.bool sg) ∧ W.cell? ⟨Bs, 1, none⟩ = some (.slice ad l cap) ∧ W.cell? ⟨w.heap.size, 2, none⟩ = some (.slice bd1 m1 bap1) ∧ W.cell? ⟨w.heap.size + 1, 1, none⟩ = some (.slice ad2 l2 cap2) := fun W hb => by
    have h1 := HKS.out _ (below_chain HSB.out.below hb)
    exact ⟨(cell_past x0 hb).2, (cell_past x1 hb).2, h1.1.2.2, h1.2.2.1⟩
  have HSC := Hid.mk' hSc
  have hmul := BigMul_any _ _ d1 m k wc.drew (HD1.out _ HSB.out.below.drew) (HU2.out _ HSB.out.below.drew) HDK.out.1 HDK.out.2 (by omega)
  have HMUL := Hid.mk' hmul
  have HU := Hid.mk' hu
  have HSG := Hid.mk' hsg
  have hc0 : Below wc.heap.size wc wc := Below.refl _ _
  have hc1 : Below wc.heap.size wc wc.drew := (Below.refl _ _).drew
  have HBC := Hid.mk' HSB.out.below
  have hsetS : ∀ (W : World) (x y q : Value), Below wc.heap.size wc W → Bs ≠ w.heap.size + 1 + 1 → (((W.setCell ⟨w.heap.size + 1 + 1, 0, none⟩ x).setCell ⟨w.heap.size + 1 + 1, 1, none⟩ y).setCell ⟨w.heap.size + 1 + 1, 2, none⟩ q).cell? ⟨Bs, 0, none⟩ = some (.bool sg) ∧ (((W.setCell ⟨w.heap.size + 1 + 1, 0, none⟩ x).setCell ⟨w.heap.size + 1 + 1, 1, none⟩ y).setCell ⟨w.heap.size + 1 + 1, 2, none⟩ q).cell? ⟨Bs, 1, none⟩ = some (.slice ad l cap) ∧ (((W.setCell ⟨w.heap.size + 1 + 1, 0, none⟩ x).setCell ⟨w.heap.size + 1 + 1, 1, none⟩ y).setCell ⟨w.heap.size + 1 + 1, 2, none⟩ q).cell? ⟨w.heap.size, 2, none⟩ = some (.slice bd1 m1 bap1) ∧ (((W.setCell ⟨w.heap.size + 1 + 1, 0, none⟩ x).setCell ⟨w.heap.size + 1 + 1, 1, none⟩ y).setCell ⟨w.heap.size + 1 + 1, 2, none⟩ q).cell? ⟨w.heap.size + 1, 1, none⟩ = some (.slice ad2 l2 cap2) := fun W x y q hb hne => by
    obtain ⟨e0, e1, e2, e3⟩ := HSC.out W hb
    refine ⟨?_, ?_, ?_, ?_⟩
    · rw [World.cell?_setCell_far _ _ _ _ (fun e => hne e.symm), World.cell?_setCell_far _ _ _ _ (fun e => hne e.symm), World.cell?_setCell_far _ _ _ _ (fun e => hne e.symm)]; exact e0
    · rw [World.cell?_setCell_far _ _ _ _ (fun e => hne e.symm), World.cell?_setCell_far _ _ _ _ (fun e => hne e.symm), World.cell?_setCell_far _ _ _ _ (fun e => hne e.symm)]; exact e1
    · rw [World.cell?_setCell_far _ _ _ _ (by show w.heap.size + 1 + 1 ≠ w.heap.size; omega), World.cell?_setCell_far _ _ _ _ (by show w.heap.size + 1 + 1 ≠ w.heap.size; omega), World.cell?_setCell_far _ _ _ _ (by show w.heap.size + 1 + 1 ≠ w.heap.size; omega)]; exact e2
    · rw [World.cell?_setCell_far _ _ _ _ (by show w.heap.size + 1 + 1 ≠ w.heap.size + 1; omega), World.cell?_setCell_far _ _ _ _ (by show w.heap.size + 1 + 1 ≠ w.heap.size + 1; omega), World.cell?_setCell_far _ _ _ _ (by show w.heap.size + 1 + 1 ≠ w.heap.size + 1; omega)]; exact e3
  have HSS := Hid.mk' hsetS
  have hne : Bs ≠ w.heap.size + 1 + 1 := by omega
  have hg0 := (HKS.out _ HSB.out.below).2.1
  clear hu hsg hSc hmul hsetS x0 x1
  go_wp2_with fail
  go_region_held3 (fun W => W.cell? ⟨Bs, 0, none⟩ = some (.bool sg) ∧ W.cell? ⟨Bs, 1, none⟩ = some (.slice ad l cap) ∧ W.cell? ⟨w.heap.size, 2, none⟩ = some (.slice bd1 m1 bap1) ∧ W.cell? ⟨w.heap.size + 1, 1, none⟩ = some (.slice ad2 l2 cap2))
    (first | exact HSC.out _ hc0 | exact HSC.out _ hc1 | exact HSC.out _ hc2 | exact HSC.out _ hc3 | exact HSS.out _ _ _ _ hc3 hne)
    (first
      | (go_at_call 34; refine (Lowest_any _ z (d1 * m) (k + k) w6 HRA.out (Nat.mul_pos hd1 hm0) HM.out.1 HM.out.2 (by omega)).mono ?_; rintro e w7 ⟨rv, rfl, ⟨ur, qr, rfl, hur, hqr⟩, hb7⟩; obtain ⟨ad8, l8, cap8, rfl, _⟩ := hur.len; obtain ⟨ad9, l9, cap9, rfl, _⟩ := hqr.len; have hc3 := below_chain hc2 hb7; have hbw7 := below_chain HBC.out hc3; obtain ⟨_, _, ⟨c0, c1, c2⟩, f0, f1, f2⟩ := HNP.out w7 hbw7; have HUR := Hid.mk' hur; have HQR := Hid.mk' hqr; have HBW7 := Hid.mk' hbw7; clear hur hqr hb7 hbw7)
      | (go_at_call 38; refine HMUL.out.mono ?_; rintro e w6 ⟨qv, rfl, hqv, hb6⟩; obtain ⟨bd6, m6, bap6, rfl, _⟩ := hqv.len; have hc2 := below_chain hc1 hb6; have HRA : Hid (RatioAt w6 (.agg #[.bool sg, .slice ad l cap, .slice bd6 m6 bap6]) z (d1 * m)) := ⟨_, _, by rw [HSG.out], HU.out.later hc2, hqv⟩; clear hqv hb6))
  go_wp2_with fail
  refine bodyPost_ret (v := .agg #[.bool (decide (z.tdiv ((Nat.gcd z.natAbs (d1 * m) : Nat) : Int) < 0)), .slice ad8 l8 cap8, .slice ad9 l9 cap9]) (by simp [results, Tryz.results22, go_sem, c0, c1, c2]) rfl ⟨_, rfl, ⟨_, _, rfl, HUR.out.set3 (HN.out.later (by omega) HBW7.out) c0 c1, HQR.out.set3 (HN.out.later (by omega) HBW7.out) c0 c1⟩, below_set3 (below_chain HB.out HBW7.out) (by omega) _ _ _⟩
end Go.Proofs.YtkglaiigoogapaaGreatDoor
