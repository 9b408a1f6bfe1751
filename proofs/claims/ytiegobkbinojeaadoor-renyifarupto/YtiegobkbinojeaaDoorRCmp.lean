/- The document's order of fractions. -/
import Derived.Test.YtiegobkbinojeaaDoorPlus
namespace Go.Proofs.YtiegobkbinojeaaDoor
open Go.RowKit

/-- The sign of a difference. -/
def sgnZ (z : Int) : Int := if z = 0 then 0 else if z < 0 then -1 else 1
set_option maxRecDepth 100000 in
set_option maxHeartbeats 4000000 in
theorem SignedCmp_any (v1 v2 : Value) (x y : Int) (k : Nat) (w : World) (h1 : SignedAt w v1 x) (h2 : SignedAt w v2 y) (hx : x.natAbs < 1000000 ^ k) (hy : y.natAbs < 1000000 ^ k) (hk : k ≤ 1000000) :
    Calls Tryd.prog 51 #[v1, v2] w fun e w' => e = .returned (.int .i64 (sgnZ (x - y))) ∧ Below w.heap.size w w' := by
  obtain ⟨u1, rfl, hu1⟩ := h1
  obtain ⟨u2, rfl, hu2⟩ := h2
  obtain ⟨ad1, l1, cap1, rfl, _⟩ := hu1.len
  obtain ⟨ad2, l2, cap2, rfl, _⟩ := hu2.len
  obtain ⟨s1, hs1⟩ : ∃ s, decide (x < 0) = s := ⟨_, rfl⟩
  obtain ⟨s2, hs2⟩ : ∃ s, decide (y < 0) = s := ⟨_, rfl⟩
  rw [hs1, hs2]
  obtain ⟨W0, hW0⟩ : ∃ W0, (w.alloc (.cells #[.bool s1, .slice ad1 l1 cap1] 48)).alloc (.cells #[.bool s2, .slice ad2 l2 cap2] 48) = W0 := ⟨_, rfl⟩
  have hB0 : Below w.heap.size w W0 := by rw [← hW0]; exact below_chain (new_below _ _) (new_below _ _)
  have HKS : Hid (∀ W, Below W0.heap.size W0 W → (W.cell? ⟨w.heap.size, 0, none⟩ = some (.bool s1) ∧ W.cell? ⟨w.heap.size, 1, none⟩ = some (.slice ad1 l1 cap1)) ∧ (W.cell? ⟨w.heap.size + 1, 0, none⟩ = some (.bool s2) ∧ W.cell? ⟨w.heap.size + 1, 1, none⟩ = some (.slice ad2 l2 cap2))) := fun W hb => by
    have a : ∀ j v, (#[Value.bool s1, .slice ad1 l1 cap1] : Array Value)[j]? = some v → W0.cell? ⟨w.heap.size, j, none⟩ = some v := fun j v h => by rw [← hW0, World.cell?_alloc_lt _ _ ⟨w.heap.size, j, none⟩ (by simp), World.cell?_alloc_at _ _ _ _ rfl]; exact h
    have b : ∀ j v, (#[Value.bool s2, .slice ad2 l2 cap2] : Array Value)[j]? = some v → W0.cell? ⟨w.heap.size + 1, j, none⟩ = some v := fun j v h => by rw [← hW0, World.cell?_alloc_at _ _ _ _ (by simp)]; exact h
    exact ⟨⟨by rw [hb.cell (cell_lt (a 0 _ rfl))]; exact a 0 _ rfl, by rw [hb.cell (cell_lt (a 1 _ rfl))]; exact a 1 _ rfl⟩, by rw [hb.cell (cell_lt (b 0 _ rfl))]; exact b 0 _ rfl, by rw [hb.cell (cell_lt (b 1 _ rfl))]; exact b 1 _ rfl⟩
  have HS1 : Hid (∀ W, Below W0.heap.size W0 W → SignedAt W (.agg #[.bool s1, .slice ad1 l1 cap1]) x) := fun W hb => ⟨_, by rw [hs1], (hu1.later hB0).later hb⟩
  have HS2 : Hid (∀ W, Below W0.heap.size W0 W → SignedAt W (.agg #[.bool s2, .slice ad2 l2 cap2]) y) := fun W hb => ⟨_, by rw [hs2], (hu2.later hB0).later hb⟩
  have HW := Hid.mk' hW0
  have HB := Hid.mk' hB0
  have hcur0 : Below W0.heap.size W0 W0 := Below.refl _ _
  have hcur : Below W0.heap.size W0 W0.drew := (Below.refl _ _).drew
  have hcurA : ∀ X, Below W0.heap.size W0 (W0.alloc X).drew := fun X => (new_below _ _).drew
  have HHY : Hid ((-y).natAbs < 1000000 ^ k) := by show _ < _; rw [Int.natAbs_neg]; exact hy
  clear hs1 hs2 hu1 hu2 hB0 hW0
  generalize hz : x + -y = z at *
  have HZ := Hid.mk' hz
  have HZ2 : Hid (sgnZ (x - y) = sgnZ z) := by show _ = _; rw [← hz, Int.sub_eq_add_neg]
  clear hz
  go_enter Tryd.func51, Tryd.ntmps51
  go_wp2_with fail
  rw [HW.out]
  go_cut [5] from 6 (fun s wx => ∃ Bs : Nat, s = .pointer (some ⟨Bs, 0, none⟩) ∧ Hid (SignBox W0 wx Bs z))
  case first =>
    go_region_held3 (fun W => (W.cell? ⟨w.heap.size, 0, none⟩ = some (.bool s1) ∧ W.cell? ⟨w.heap.size, 1, none⟩ = some (.slice ad1 l1 cap1)) ∧ (W.cell? ⟨w.heap.size + 1, 0, none⟩ = some (.bool s2) ∧ W.cell? ⟨w.heap.size + 1, 1, none⟩ = some (.slice ad2 l2 cap2)))
      (first | exact HKS.out _ hcur0 | exact HKS.out _ hcur | exact HKS.out _ (hcurA _) | (refine HKS.out _ ?_; assumption) | (refine HKS.out _ (more_below ?_ _); assumption) | (refine HKS.out _ (setB_below ?_ NB.hB _ _); assumption))
      (first
        | (go_at_call 58; refine (SignedAdd_any _ _ x (-y) k _ (HS1.out _ ?_) (HX1.out _ ?_) hx HHY.out hk).mono ?_; (first | exact hbw1 | exact more_below hbw1 _); (first | exact Below.refl _ _ | exact new_below _ _); rintro e w5 ⟨sv5, rfl, ⟨x5, rfl, hx5⟩, hb5⟩; rw [HZ.out] at hx5 ⊢; obtain ⟨ad7, l7, cap7, rfl, _⟩ := hx5.len; (first | (have hbw5 := below_chain hbw1 hb5; try have NB := NB.later hb5) | (have hbw5 := below_chain (more_below hbw1 _) hb5; have NB := newBox_of hbw1 hb5)); (try (have y0 := NB.c0; have y1 := NB.c1; have y2 := NB.f0; have y3 := NB.f1)); have HX5 := Hid.mk' hx5; clear hx5 hb5)
        | (go_at_call 50; refine (SignedBack_any _ y _ (HS2.out _ ?_)).mono ?_; (first | exact hcur | exact hcurA _); rintro e w1 ⟨sv1, rfl, ⟨x1, rfl, hx1⟩, hb1⟩; obtain ⟨sg1, hsg1⟩ : ∃ sg, decide (-y < 0) = sg := ⟨_, rfl⟩; rw [hsg1]; obtain ⟨ad3, l3, cap3, rfl, _⟩ := hx1.len; (first | have hbw1 := below_chain hcur hb1 | (have hbw1 := below_chain (hcurA _) hb1; have NB := newBox_of hcur0 (below_chain ((Below.refl _ _).drew) hb1))); have HX1 : Hid (∀ W, Below w1.heap.size w1 W → SignedAt W (.agg #[.bool sg1, .slice ad3 l3 cap3]) (-y)) := (fun W hb => ⟨_, by rw [hsg1], hx1.later hb⟩); clear hx1 hb1 hsg1))
    all_goals
      go_wp2_with fail
      go_meet
      first | exact ⟨_, rfl, signBox_late hbw5 HX5.out⟩ | exact ⟨_, rfl, signBox_soon hbw5 HX5.out NB⟩
  case rest =>
  obtain ⟨Bs, rfl, HSB⟩ := hcut
  obtain ⟨u, x0, x1, hu⟩ := HSB.out.box
  obtain ⟨ad, l, cap, rfl, hlz⟩ := hu.len
  have HBF := Hid.mk' (below_chain HB.out HSB.out.below)
  by_cases hz0 : z = 0
  · have hl0 : l = 0 := hlz.2 (by rw [hz0]; rfl)
    subst hl0
    have HE : Hid (sgnZ z = 0) := if_pos hz0
    clear hlz hz0 hu
    go_wp2_with fail
    go_ret
    exact ⟨by rw [HZ2.out, HE.out]; rfl, HBF.out⟩
  · have hl0 : ((l : Int) == 0) = false := by
      have : l ≠ 0 := fun h => hz0 (Int.natAbs_eq_zero.1 (hlz.1 h))
      simp; exact this
    obtain ⟨sg, hsg⟩ : ∃ sg, decide (z < 0) = sg := ⟨_, rfl⟩
    rw [hsg] at x0
    have HE : Hid (sgnZ z = if sg = true then -1 else 1) := by
      show (if z = 0 then 0 else if z < 0 then -1 else 1) = _
      rw [if_neg hz0, ← hsg]
      by_cases h : z < 0
      · rw [if_pos h, decide_eq_true h, if_pos rfl]
      · rw [if_neg h, decide_eq_false h]; rfl
    clear hlz hz0 hu hsg
    cases sg with
    | true =>
      go_wp2_with fail
      go_ret
      exact ⟨by rw [HZ2.out, HE.out]; rfl, HBF.out⟩
    | false =>
      go_wp2_with fail
      go_ret
      exact ⟨by rw [HZ2.out, HE.out]; rfl, HBF.out⟩
set_option maxRecDepth 100000 in
set_option maxHeartbeats 4000000 in
theorem RCmp_any (v1 v2 : Value) (n1 n2 : Int) (d1 d2 k : Nat) (w : World) (h1 : RatioAt w v1 n1 d1) (h2 : RatioAt w v2 n2 d2) (hn1 : n1.natAbs < 1000000 ^ k) (hn2 : n2.natAbs < 1000000 ^ k) (hk1 : d1 < 1000000 ^ k) (hk2 : d2 < 1000000 ^ k) (hk : k + k ≤ 1000000) :
    Calls Tryd.prog 24 #[v1, v2] w fun e w' => e = .returned (.int .i64 (sgnZ (n1 * d2 - n2 * d1))) ∧ Below w.heap.size w w' := by
  obtain ⟨u1, q1, rfl, hu1, hq1⟩ := h1
  obtain ⟨u2, q2, rfl, hu2, hq2⟩ := h2
  obtain ⟨ad1, l1, cap1, rfl, _⟩ := hu1.len
  obtain ⟨bd1, m1, bap1, rfl, _⟩ := hq1.len
  obtain ⟨ad2, l2, cap2, rfl, _⟩ := hu2.len
  obtain ⟨bd2, m2, bap2, rfl, _⟩ := hq2.len
  obtain ⟨s1, hs1⟩ : ∃ s, decide (n1 < 0) = s := ⟨_, rfl⟩
  obtain ⟨s2, hs2⟩ : ∃ s, decide (n2 < 0) = s := ⟨_, rfl⟩
  rw [hs1, hs2]
  obtain ⟨W0, hW0⟩ : ∃ W0, (w.alloc (.cells #[.bool s1, .slice ad1 l1 cap1, .slice bd1 m1 bap1] 50)).alloc (.cells #[.bool s2, .slice ad2 l2 cap2, .slice bd2 m2 bap2] 50) = W0 := ⟨_, rfl⟩
  have hB0 : Below w.heap.size w W0 := by rw [← hW0]; exact below_chain (new_below _ _) (new_below _ _)
  have HKS : Hid (∀ W, Below W0.heap.size W0 W → (W.cell? ⟨w.heap.size, 0, none⟩ = some (.bool s1) ∧ W.cell? ⟨w.heap.size, 1, none⟩ = some (.slice ad1 l1 cap1) ∧ W.cell? ⟨w.heap.size, 2, none⟩ = some (.slice bd1 m1 bap1)) ∧ (W.cell? ⟨w.heap.size + 1, 0, none⟩ = some (.bool s2) ∧ W.cell? ⟨w.heap.size + 1, 1, none⟩ = some (.slice ad2 l2 cap2) ∧ W.cell? ⟨w.heap.size + 1, 2, none⟩ = some (.slice bd2 m2 bap2))) := fun W hb => by
    have a : ∀ j v, (#[Value.bool s1, .slice ad1 l1 cap1, .slice bd1 m1 bap1] : Array Value)[j]? = some v → W0.cell? ⟨w.heap.size, j, none⟩ = some v := fun j v h => by rw [← hW0, World.cell?_alloc_lt _ _ ⟨w.heap.size, j, none⟩ (by simp), World.cell?_alloc_at _ _ _ _ rfl]; exact h
    have b : ∀ j v, (#[Value.bool s2, .slice ad2 l2 cap2, .slice bd2 m2 bap2] : Array Value)[j]? = some v → W0.cell? ⟨w.heap.size + 1, j, none⟩ = some v := fun j v h => by rw [← hW0, World.cell?_alloc_at _ _ _ _ (by simp)]; exact h
    exact ⟨⟨by rw [hb.cell (cell_lt (a 0 _ rfl))]; exact a 0 _ rfl, by rw [hb.cell (cell_lt (a 1 _ rfl))]; exact a 1 _ rfl, by rw [hb.cell (cell_lt (a 2 _ rfl))]; exact a 2 _ rfl⟩, by rw [hb.cell (cell_lt (b 0 _ rfl))]; exact b 0 _ rfl, by rw [hb.cell (cell_lt (b 1 _ rfl))]; exact b 1 _ rfl, by rw [hb.cell (cell_lt (b 2 _ rfl))]; exact b 2 _ rfl⟩
  have HS1 : Hid (∀ W, Below W0.heap.size W0 W → SignedAt W (.agg #[.bool s1, .slice ad1 l1 cap1]) n1) := fun W hb => ⟨_, by rw [hs1], (hu1.later hB0).later hb⟩
  have HS2 : Hid (∀ W, Below W0.heap.size W0 W → SignedAt W (.agg #[.bool s2, .slice ad2 l2 cap2]) n2) := fun W hb => ⟨_, by rw [hs2], (hu2.later hB0).later hb⟩
  have HD1 : Hid (∀ W, Below W0.heap.size W0 W → BigAt W (.slice bd1 m1 bap1) d1) := fun W hb => (hq1.later hB0).later hb
  have HD2 : Hid (∀ W, Below W0.heap.size W0 W → BigAt W (.slice bd2 m2 bap2) d2) := fun W hb => (hq2.later hB0).later hb
  have hm1 : (n1 * (d2 : Int)).natAbs < 1000000 ^ (k + k) := by rw [Int.natAbs_mul, Int.natAbs_natCast, Nat.pow_add]; exact Nat.mul_lt_mul'' hn1 hk2
  have hm2 : (n2 * (d1 : Int)).natAbs < 1000000 ^ (k + k) := by rw [Int.natAbs_mul, Int.natAbs_natCast, Nat.pow_add]; exact Nat.mul_lt_mul'' hn2 hk1
  have HM := Hid.mk' (And.intro hm1 hm2)
  have HBD : Hid (n1.natAbs < 1000000 ^ k ∧ (d2 : Int).natAbs < 1000000 ^ k ∧ n2.natAbs < 1000000 ^ k ∧ (d1 : Int).natAbs < 1000000 ^ k) := ⟨hn1, by rw [Int.natAbs_natCast]; exact hk2, hn2, by rw [Int.natAbs_natCast]; exact hk1⟩
  have HW := Hid.mk' hW0
  have HB := Hid.mk' hB0
  have hcur0 : Below W0.heap.size W0 W0 := Below.refl _ _
  have hcur : Below W0.heap.size W0 W0.drew := (Below.refl _ _).drew
  have hdn1 : ¬ (d1 : Int) < 0 := by omega
  have hdn2 : ¬ (d2 : Int) < 0 := by omega
  have HDE : Hid (decide ((d1 : Int) < 0) = false ∧ decide ((d2 : Int) < 0) = false) := ⟨decide_eq_false hdn1, decide_eq_false hdn2⟩
  clear hs1 hs2 hu1 hu2 hq1 hq2 hB0 hW0 hn1 hn2 hk1 hk2 hm1 hm2 hdn1 hdn2
  go_enter Tryd.func24, Tryd.ntmps24
  go_wp2_with fail
  rw [HW.out]
  go_region_held3 (fun W => (W.cell? ⟨w.heap.size, 0, none⟩ = some (.bool s1) ∧ W.cell? ⟨w.heap.size, 1, none⟩ = some (.slice ad1 l1 cap1) ∧ W.cell? ⟨w.heap.size, 2, none⟩ = some (.slice bd1 m1 bap1)) ∧ (W.cell? ⟨w.heap.size + 1, 0, none⟩ = some (.bool s2) ∧ W.cell? ⟨w.heap.size + 1, 1, none⟩ = some (.slice ad2 l2 cap2) ∧ W.cell? ⟨w.heap.size + 1, 2, none⟩ = some (.slice bd2 m2 bap2)))
    (first | exact HKS.out _ hcur0 | exact HKS.out _ hcur | (refine HKS.out _ ?_; assumption))
    (first
      | (go_at_call 51; refine (SignedCmp_any _ _ (n1 * (d2 : Int)) (n2 * (d1 : Int)) (k + k) _ (HX2.out _ h24) (HX4.out _ (Below.refl _ _)) HM.out.1 HM.out.2 hk).mono ?_; rintro e w5 ⟨rfl, hb5⟩; have hbw5 := below_chain hbw4 hb5; clear hb5)
      | (go_at_call 47; refine (SignedMul_any _ _ n2 (d1 : Int) k _ (HS2.out _ hbw3) (HX3.out _ (Below.refl _ _)) HBD.out.2.2.1 HBD.out.2.2.2 (by omega)).mono ?_; rintro e w4 ⟨sv4, rfl, ⟨x4, rfl, hx4⟩, hb4⟩; obtain ⟨sg4, hsg4⟩ : ∃ sg, decide (n2 * (d1 : Int) < 0) = sg := ⟨_, rfl⟩; rw [hsg4]; obtain ⟨ad6, l6, cap6, rfl, _⟩ := hx4.len; have hbw4 := below_chain hbw3 hb4; have h24 := below_chain h23 hb4; have HX4 : Hid (∀ W, Below w4.heap.size w4 W → SignedAt W (.agg #[.bool sg4, .slice ad6 l6 cap6]) (n2 * (d1 : Int))) := (fun W hb => ⟨_, by rw [hsg4], hx4.later hb⟩); clear hx4 hb4 hsg4)
      | (go_at_call 52; refine (wide_any (.slice bd1 m1 bap1) d1 _ (HD1.out _ hbw2)).mono ?_; rintro e w3 ⟨sv3, rfl, ⟨x3, rfl, hx3⟩, hb3⟩; rw [HDE.out.1]; obtain ⟨ad5, l5, cap5, rfl, _⟩ := hx3.len; have hbw3 := below_chain hbw2 hb3; have h23 := below_chain (Below.refl _ w2) hb3; have HX3 : Hid (∀ W, Below w3.heap.size w3 W → SignedAt W (.agg #[.bool false, .slice ad5 l5 cap5]) (d1 : Int)) := (fun W hb => ⟨_, by rw [HDE.out.1], hx3.later hb⟩); clear hx3 hb3)
      | (go_at_call 47; refine (SignedMul_any _ _ n1 (d2 : Int) k _ (HS1.out _ hbw1) (HX1.out _ (Below.refl _ _)) HBD.out.1 HBD.out.2.1 (by omega)).mono ?_; rintro e w2 ⟨sv2, rfl, ⟨x2, rfl, hx2⟩, hb2⟩; obtain ⟨sg2, hsg2⟩ : ∃ sg, decide (n1 * (d2 : Int) < 0) = sg := ⟨_, rfl⟩; rw [hsg2]; obtain ⟨ad4, l4, cap4, rfl, _⟩ := hx2.len; have hbw2 := below_chain hbw1 hb2; have HX2 : Hid (∀ W, Below w2.heap.size w2 W → SignedAt W (.agg #[.bool sg2, .slice ad4 l4 cap4]) (n1 * (d2 : Int))) := (fun W hb => ⟨_, by rw [hsg2], hx2.later hb⟩); clear hx2 hb2 hsg2)
      | (go_at_call 52; refine (wide_any (.slice bd2 m2 bap2) d2 _ (HD2.out _ hcur)).mono ?_; rintro e w1 ⟨sv1, rfl, ⟨x1, rfl, hx1⟩, hb1⟩; rw [HDE.out.2]; obtain ⟨ad3, l3, cap3, rfl, _⟩ := hx1.len; have hbw1 := below_chain hcur hb1; have HX1 : Hid (∀ W, Below w1.heap.size w1 W → SignedAt W (.agg #[.bool false, .slice ad3 l3 cap3]) (d2 : Int)) := (fun W hb => ⟨_, by rw [HDE.out.2], hx1.later hb⟩); clear hx1 hb1))
  go_wp2_with fail
  go_ret
  exact ⟨rfl, below_chain HB.out hbw5⟩
/-- Which of two fractions is the less. -/
theorem sgnZ_neg (z : Int) : sgnZ z < 0 ↔ z < 0 := by
  unfold sgnZ
  split
  · omega
  · split <;> omega
end Go.Proofs.YtiegobkbinojeaaDoor
