/- The document's order of fractions. -/
import Derived.Test.YthomgmhmbalnbaaGreatDoorPackC
import Derived.WalkKit
import Derived.Laws.BitsAllLaws
import Derived.Test.YthomgmhmbalnbaaGreatDoorPackA
import Derived.Test.YthomgmhmbalnbaaGreatDoorPackB
import Derived.Test.YthomgmhmbalnbaaGreatDoorNatOver
import Derived.Test.YthomgmhmbalnbaaGreatDoorHtCar
import Derived.Test.YthomgmhmbalnbaaGreatDoorLastOp
import Derived.Deep.CutRange
namespace Go.Proofs.YthomgmhmbalnbaaGreatDoor
open Go.RowKit

/-- The sign of a difference. -/
def sgnZ (z : Int) : Int := if z = 0 then 0 else if z < 0 then -1 else 1
set_option maxRecDepth 100000 in
set_option maxHeartbeats 4000000 in
theorem SignedCmp_any (v1 v2 : Value) (x y : Int) (k : Nat) (w : World) (h1 : SignedAt w v1 x) (h2 : SignedAt w v2 y) (hx : x.natAbs < 1000000 ^ k) (hy : y.natAbs < 1000000 ^ k) (hk : k ≤ 1000000) :
    Calls Tryz.prog 85 #[v1, v2] w fun e w' => e = .returned (.int .i64 (sgnZ (x - y))) ∧ Below w.heap.size w w' := by
  obtain ⟨u1, rfl, hu1⟩ := h1
  obtain ⟨u2, rfl, hu2⟩ := h2
  obtain ⟨ad1, l1, cap1, rfl, _⟩ := hu1.len
  obtain ⟨ad2, l2, cap2, rfl, _⟩ := hu2.len
  obtain ⟨s1, hs1⟩ : ∃ s, decide (x < 0) = s := ⟨_, rfl⟩
  obtain ⟨s2, hs2⟩ : ∃ s, decide (y < 0) = s := ⟨_, rfl⟩
  rw [hs1, hs2]
  obtain ⟨W0, hW0⟩ : ∃ W0, (w.alloc (.cells #[.bool s1, .slice ad1 l1 cap1] 44)).alloc (.cells #[.bool s2, .slice ad2 l2 cap2] 44) = W0 := ⟨_, rfl⟩
  have hB0 : Below w.heap.size w W0 := by rw [← hW0]; exact below_chain (new_below _ _) (new_below _ _)
  have HKS : Hid (∀ W, Below W0.heap.size W0 W → (W.cell? ⟨w.heap.size, 0, none⟩ = some (.bool s1) ∧ W.cell? ⟨w.heap.size, 1, none⟩ = some (.slice ad1 l1 cap1)) ∧ (W.cell? ⟨w.heap.size + 1, 0, none⟩ = some (.bool s2) ∧ W.cell? ⟨w.heap.size + 1, 1, none⟩ = some (.slice ad2 l2 cap2))) := fun W hb => by
    have a : ∀ j v, (#[Value.bool s1, .slice ad1 l1 cap1] : Array Value)[j]? = some v → W0.cell? ⟨w.heap.size, j, none⟩ = some v := fun j v h => by rw [← hW0, World.cell?_alloc_lt _ _ ⟨w.heap.size, j, none⟩ (by simp), World.cell?_alloc_at _ _ _ _ rfl]; exact h
    have b : ∀ j v, (#[Value.bool s2, .slice ad2 l2 cap2] : Array Value)[j]? = some v → W0.cell? ⟨w.heap.size + 1, j, none⟩ = some v := fun j v h => by rw [← hW0, World.cell?_alloc_at _ _ _ _ (by simp)]; exact h
    exact ⟨⟨by rw [hb.cell (cell_lt (a 0 _ rfl))]; exact a 0 _ rfl, by rw [hb.cell (cell_lt (a 1 _ rfl))]; exact a 1 _ rfl⟩, by rw [hb.cell (cell_lt (b 0 _ rfl))]; exact b 0 _ rfl, by rw [hb.cell (cell_lt (b 1 _ rfl))]; exact b 1 _ rfl⟩
  have HS1 : Hid (∀ W, Below W0.heap.size W0 W → SignedAt W (.agg #[.bool s1, .slice ad1 l1 cap1]) x) := fun W hb => ⟨_, by rw [hs1], (hu1.later hB0).later hb⟩
  have HS2 : Hid (∀ W, Below W0.heap.size W0 W → SignedAt W (.agg #[.bool s2, .slice ad2 l2 cap2]) y) := fun W hb => ⟨_, by rw [hs2], (hu2.later hB0).later hb⟩
  have HW := Hid.mk' hW0
  have HB := Hid.mk' hB0
  have hcur0 : Below W0.heap.size W0 W0 := Below.refl _ _
  have hcur : Below W0.heap.size W0 W0.drew := (Below.refl _ _).drew
  have hcurA : ∀ X, Below W0.heap.size W0 (W0.alloc X).drew := fun X => (new_below _ _).drew
  have HHY : Hid ((-y).natAbs < 1000000 ^ k) := by show _ < _; rw [Int.natAbs_neg]; exact hy
  clear hs1 hs2 hu1 hu2 hB0 hW0
  generalize hz : x + -y = z at *
  have HZ := Hid.mk' hz
  have HZ2 : Hid (sgnZ (x - y) = sgnZ z) := by show _ = _; rw [← hz, Int.sub_eq_add_neg]
  clear hz
  go_enter Tryz.func85, Tryz.ntmps85
  go_wp2_with fail
  rw [HW.out]
  go_cut [5] from 6 (fun s wx => ∃ Bs : Nat, s = .pointer (some ⟨Bs, 0, none⟩) ∧ Hid (SignBox W0 wx Bs z))
  case first =>
    go_region_held3 (fun W => (W.cell? ⟨w.heap.size, 0, none⟩ = some (.bool s1) ∧ W.cell? ⟨w.heap.size, 1, none⟩ = some (.slice ad1 l1 cap1)) ∧ (W.cell? ⟨w.heap.size + 1, 0, none⟩ = some (.bool s2) ∧ W.cell? ⟨w.heap.size + 1, 1, none⟩ = some (.slice ad2 l2 cap2)))
      (first | exact HKS.out _ hcur0 | exact HKS.out _ hcur | exact HKS.out _ (hcurA _) | (refine HKS.out _ ?_; assumption) | (refine HKS.out _ (more_below ?_ _); assumption) | (refine HKS.out _ (setB_below ?_ NB.hB _ _); assumption))
      (first
        | (go_at_call 87; refine (SignedAdd_any _ _ x (-y) k _ (HS1.out _ ?_) (HX1.out _ ?_) hx HHY.out hk).mono ?_; (first | exact hbw1 | exact more_below hbw1 _); (first | exact Below.refl _ _ | exact new_below _ _); rintro e w5 ⟨sv5, rfl, ⟨x5, rfl, hx5⟩, hb5⟩; rw [HZ.out] at hx5 ⊢; obtain ⟨ad7, l7, cap7, rfl, _⟩ := hx5.len; (first | (have hbw5 := below_chain hbw1 hb5; try have NB := NB.later hb5) | (have hbw5 := below_chain (more_below hbw1 _) hb5; have NB := newBox_of hbw1 hb5)); (try (have y0 := NB.c0; have y1 := NB.c1; have y2 := NB.f0; have y3 := NB.f1)); have HX5 := Hid.mk' hx5; clear hx5 hb5)
        | (go_at_call 72; refine (SignedBack_any _ y _ (HS2.out _ ?_)).mono ?_; (first | exact hcur | exact hcurA _); rintro e w1 ⟨sv1, rfl, ⟨x1, rfl, hx1⟩, hb1⟩; obtain ⟨sg1, hsg1⟩ : ∃ sg, decide (-y < 0) = sg := ⟨_, rfl⟩; rw [hsg1]; obtain ⟨ad3, l3, cap3, rfl, _⟩ := hx1.len; (first | have hbw1 := below_chain hcur hb1 | (have hbw1 := below_chain (hcurA _) hb1; have NB := newBox_of hcur0 (below_chain ((Below.refl _ _).drew) hb1))); have HX1 : Hid (∀ W, Below w1.heap.size w1 W → SignedAt W (.agg #[.bool sg1, .slice ad3 l3 cap3]) (-y)) := (fun W hb => ⟨_, by rw [hsg1], hx1.later hb⟩); clear hx1 hb1 hsg1))
    all_goals
      go_wp2_with fail
      go_meet
      first | exact ⟨_, rfl, signBox_late hbw5 HX5.out⟩ | exact ⟨_, rfl, signBox_soon hbw5 HX5.out NB⟩
  case rest =>
  obtain ⟨Bs, rfl, HSB⟩ := hcut
  obtain ⟨u, x0, x1, hu⟩ := HSB.out.box
  obtain ⟨ad, l, cap, rfl, hlz⟩ := hu.len
  have HBF := Hid.mk' (below_chain HB.out HSB.out.below)
  by_cases hz0 : z = 0
  · have hl0 : l = 0 := hlz.2 (by rw [hz0]; rfl)
    subst hl0
    have HE : Hid (sgnZ z = 0) := if_pos hz0
    clear hlz hz0 hu
    go_wp2_with fail
    go_ret
    exact ⟨by rw [HZ2.out, HE.out]; rfl, HBF.out⟩
  · have hl0 : ((l : Int) == 0) = false := by
      have : l ≠ 0 := fun h => hz0 (Int.natAbs_eq_zero.1 (hlz.1 h))
      simp; exact this
    obtain ⟨sg, hsg⟩ : ∃ sg, decide (z < 0) = sg := ⟨_, rfl⟩
    rw [hsg] at x0
    have HE : Hid (sgnZ z = if sg = true then -1 else 1) := by
      show (if z = 0 then 0 else if z < 0 then -1 else 1) = _
      rw [if_neg hz0, ← hsg]
      by_cases h : z < 0
      · rw [if_pos h, decide_eq_true h, if_pos rfl]
      · rw [if_neg h, decide_eq_false h]; rfl
    clear hlz hz0 hu hsg
    cases sg with
    | true =>
      go_wp2_with fail
      go_ret
      exact ⟨by rw [HZ2.out, HE.out]; rfl, HBF.out⟩
    | false =>
      go_wp2_with fail
      go_ret
      exact ⟨by rw [HZ2.out, HE.out]; rfl, HBF.out⟩
set_option maxRecDepth 100000 in
set_option maxHeartbeats 4000000 in
theorem RCmp_any (v1 v2 : Value) (n1 n2 : Int) (d1 d2 k : Nat) (w : World) (h1 : RatioAt w v1 n1 d1) (h2 : RatioAt w v2 n2 d2) (hn1 : n1.natAbs < 1000000 ^ k) (hn2 : n2.natAbs < 1000000 ^ k) (hk1 : d1 < 1000000 ^ k) (hk2 : d2 < 1000000 ^ k) (hk : k + k ≤ 1000000) :
    Calls Tryz.prog 58 #[v1, v2] w fun e w' => e = .returned (.int .i64 (sgnZ (n1 * d2 - n2 * d1))) ∧ Below w.heap.size w w' := by
  obtain ⟨u1, q1, rfl, hu1, hq1⟩ := h1
  obtain ⟨u2, q2, rfl, hu2, hq2⟩ := h2
  obtain ⟨ad1, l1, cap1, rfl, _⟩ := hu1.len
  obtain ⟨bd1, m1, bap1, rfl, _⟩ := hq1.len
  obtain ⟨ad2, l2, cap2, rfl, _⟩ := hu2.len
  obtain ⟨bd2, m2, bap2, rfl, _⟩ := hq2.len
  obtain ⟨s1, hs1⟩ : ∃ s, decide (n1 < 0) = s := ⟨_, rfl⟩
  obtain ⟨s2, hs2⟩ : ∃ s, decide (n2 < 0) = s := ⟨_, rfl⟩
  rw [hs1, hs2]
  obtain ⟨W0, hW0⟩ : ∃ W0, (w.alloc (.cells #[.bool s1, .slice ad1 l1 cap1, .slice bd1 m1 bap1] 46)).alloc (.cells #[.bool s2, .slice ad2 l2 cap2, .slice bd2 m2 bap2] 46) = W0 := ⟨_, rfl⟩
  have hB0 : Below w.heap.size w W0 := by rw [← hW0]; exact below_chain (new_below _ _) (new_below _ _)
  have HKS : Hid (∀ W, Below W0.heap.size W0 W → (W.cell? ⟨w.heap.size, 0, none⟩ = some (.bool s1) ∧ W.cell? ⟨w.heap.size, 1, none⟩ = some (.slice ad1 l1 cap1) ∧ W.cell? ⟨w.heap.size, 2, none⟩ = some (.slice bd1 m1 bap1)) ∧ (W.cell? ⟨w.heap.size + 1, 0, none⟩ = some (.bool s2) ∧ W.cell? ⟨w.heap.size + 1, 1, none⟩ = some (.slice ad2 l2 cap2) ∧ W.cell? ⟨w.heap.size + 1, 2, none⟩ = some (.slice bd2 m2 bap2))) := fun W hb => by
    have a : ∀ j v, (#[Value.bool s1, .slice ad1 l1 cap1, .slice bd1 m1 bap1] : Array Value)[j]? = some v → W0.cell? ⟨w.heap.size, j, none⟩ = some v := fun j v h => by rw [← hW0, World.cell?_alloc_lt _ _ ⟨w.heap.size, j, none⟩ (by simp), World.cell?_alloc_at _ _ _ _ rfl]; exact h
    have b : ∀ j v, (#[Value.bool s2, .slice ad2 l2 cap2, .slice bd2 m2 bap2] : Array Value)[j]? = some v → W0.cell? ⟨w.heap.size + 1, j, none⟩ = some v := fun j v h => by rw [← hW0, World.cell?_alloc_at _ _ _ _ (by simp)]; exact h
    exact ⟨⟨by rw [hb.cell (cell_lt (a 0 _ rfl))]; exact a 0 _ rfl, by rw [hb.cell (cell_lt (a 1 _ rfl))]; exact a 1 _ rfl, by rw [hb.cell (cell_lt (a 2 _ rfl))]; exact a 2 _ rfl⟩, by rw [hb.cell (cell_lt (b 0 _ rfl))]; exact b 0 _ rfl, by rw [hb.cell (cell_lt (b 1 _ rfl))]; exact b 1 _ rfl, by rw [hb.cell (cell_lt (b 2 _ rfl))]; exact b 2 _ rfl⟩
  have HS1 : Hid (∀ W, Below W0.heap.size W0 W → SignedAt W (.agg #[.bool s1, .slice ad1 l1 cap1]) n1) := fun W hb => ⟨_, by rw [hs1], (hu1.later hB0).later hb⟩
  have HS2 : Hid (∀ W, Below W0.heap.size W0 W → SignedAt W (.agg #[.bool s2, .slice ad2 l2 cap2]) n2) := fun W hb => ⟨_, by rw [hs2], (hu2.later hB0).later hb⟩
  have HD1 : Hid (∀ W, Below W0.heap.size W0 W → BigAt W (.slice bd1 m1 bap1) d1) := fun W hb => (hq1.later hB0).later hb
  have HD2 : Hid (∀ W, Below W0.heap.size W0 W → BigAt W (.slice bd2 m2 bap2) d2) := fun W hb => (hq2.later hB0).later hb
  have hm1 : (n1 * (d2 : Int)).natAbs < 1000000 ^ (k + k) := by rw [Int.natAbs_mul, Int.natAbs_natCast, Nat.pow_add]; exact Nat.mul_lt_mul'' hn1 hk2
  have hm2 : (n2 * (d1 : Int)).natAbs < 1000000 ^ (k + k) := by rw [Int.natAbs_mul, Int.natAbs_natCast, Nat.pow_add]; exact Nat.mul_lt_mul'' hn2 hk1
  have HM := Hid.mk' (And.intro hm1 hm2)
  have HBD : Hid (n1.natAbs < 1000000 ^ k ∧ (d2 : Int).natAbs < 1000000 ^ k ∧ n2.natAbs < 1000000 ^ k ∧ (d1 : Int).natAbs < 1000000 ^ k) := ⟨hn1, by rw [Int.natAbs_natCast]; exact hk2, hn2, by rw [Int.natAbs_natCast]; exact hk1⟩
  have HW := Hid.mk' hW0
  have HB := Hid.mk' hB0
  have hcur0 : Below W0.heap.size W0 W0 := Below.refl _ _
  have hcur : Below W0.heap.size W0 W0.drew := (Below.refl _ _).drew
  have hdn1 : ¬ (d1 : Int) < 0 := by omega
  have hdn2 : ¬ (d2 : Int) < 0 := by omega
  have HDE : Hid (decide ((d1 : Int) < 0) = false ∧ decide ((d2 : Int) < 0) = false) := ⟨decide_eq_false hdn1, decide_eq_false hdn2⟩
  clear hs1 hs2 hu1 hu2 hq1 hq2 hB0 hW0 hn1 hn2 hk1 hk2 hm1 hm2 hdn1 hdn2
  go_enter Tryz.func58, Tryz.ntmps58
  go_wp2_with fail
  rw [HW.out]
  go_region_held3 (fun W => (W.cell? ⟨w.heap.size, 0, none⟩ = some (.bool s1) ∧ W.cell? ⟨w.heap.size, 1, none⟩ = some (.slice ad1 l1 cap1) ∧ W.cell? ⟨w.heap.size, 2, none⟩ = some (.slice bd1 m1 bap1)) ∧ (W.cell? ⟨w.heap.size + 1, 0, none⟩ = some (.bool s2) ∧ W.cell? ⟨w.heap.size + 1, 1, none⟩ = some (.slice ad2 l2 cap2) ∧ W.cell? ⟨w.heap.size + 1, 2, none⟩ = some (.slice bd2 m2 bap2)))
    (first | exact HKS.out _ hcur0 | exact HKS.out _ hcur | (refine HKS.out _ ?_; assumption))
    (first
      | (go_at_call 85; refine (SignedCmp_any _ _ (n1 * (d2 : Int)) (n2 * (d1 : Int)) (k + k) _ (HX2.out _ h24) (HX4.out _ (Below.refl _ _)) HM.out.1 HM.out.2 hk).mono ?_; rintro e w5 ⟨rfl, hb5⟩; have hbw5 := below_chain hbw4 hb5; clear hb5)
      | (go_at_call 74; refine (SignedMul_any _ _ n2 (d1 : Int) k _ (HS2.out _ hbw3) (HX3.out _ (Below.refl _ _)) HBD.out.2.2.1 HBD.out.2.2.2 (by omega)).mono ?_; rintro e w4 ⟨sv4, rfl, ⟨x4, rfl, hx4⟩, hb4⟩; obtain ⟨sg4, hsg4⟩ : ∃ sg, decide (n2 * (d1 : Int) < 0) = sg := ⟨_, rfl⟩; rw [hsg4]; obtain ⟨ad6, l6, cap6, rfl, _⟩ := hx4.len; have hbw4 := below_chain hbw3 hb4; have h24 := below_chain h23 hb4; have HX4 : Hid (∀ W, Below w4.heap.size w4 W → SignedAt W (.agg #[.bool sg4, .slice ad6 l6 cap6]) (n2 * (d1 : Int))) := (fun W hb => ⟨_, by rw [hsg4], hx4.later hb⟩); clear hx4 hb4 hsg4)
      | (go_at_call 86; refine (wide_any (.slice bd1 m1 bap1) d1 _ (HD1.out _ hbw2)).mono ?_; rintro e w3 ⟨sv3, rfl, ⟨x3, rfl, hx3⟩, hb3⟩; rw [HDE.out.1]; obtain ⟨ad5, l5, cap5, rfl, _⟩ := hx3.len; have hbw3 := below_chain hbw2 hb3; have h23 := below_chain (Below.refl _ w2) hb3; have HX3 : Hid (∀ W, Below w3.heap.size w3 W → SignedAt W (.agg #[.bool false, .slice ad5 l5 cap5]) (d1 : Int)) := (fun W hb => ⟨_, by rw [HDE.out.1], hx3.later hb⟩); clear hx3 hb3)
      | (go_at_call 74; refine (SignedMul_any _ _ n1 (d2 : Int) k _ (HS1.out _ hbw1) (HX1.out _ (Below.refl _ _)) HBD.out.1 HBD.out.2.1 (by omega)).mono ?_; rintro e w2 ⟨sv2, rfl, ⟨x2, rfl, hx2⟩, hb2⟩; obtain ⟨sg2, hsg2⟩ : ∃ sg, decide (n1 * (d2 : Int) < 0) = sg := ⟨_, rfl⟩; rw [hsg2]; obtain ⟨ad4, l4, cap4, rfl, _⟩ := hx2.len; have hbw2 := below_chain hbw1 hb2; have HX2 : Hid (∀ W, Below w2.heap.size w2 W → SignedAt W (.agg #[.bool sg2, .slice ad4 l4 cap4]) (n1 * (d2 : Int))) := (fun W hb => ⟨_, by rw [hsg2], hx2.later hb⟩); clear hx2 hb2 hsg2)
      | (go_at_call 86; refine (wide_any (.slice bd2 m2 bap2) d2 _ (HD2.out _ hcur)).mono ?_; rintro e w1 ⟨sv1, rfl, ⟨x1, rfl, hx1⟩, hb1⟩; rw [HDE.out.2]; obtain ⟨ad3, l3, cap3, rfl, _⟩ := hx1.len; have hbw1 := below_chain hcur hb1; have HX1 : Hid (∀ W, Below w1.heap.size w1 W → SignedAt W (.agg #[.bool false, .slice ad3 l3 cap3]) (d2 : Int)) := (fun W hb => ⟨_, by rw [HDE.out.2], hx1.later hb⟩); clear hx1 hb1))
  go_wp2_with fail
  go_ret
  exact ⟨rfl, below_chain HB.out hbw5⟩
/-- Which of two fractions is the less. -/
theorem sgnZ_neg (z : Int) : sgnZ z < 0 ↔ z < 0 := by
  unfold sgnZ
  split
  · omega
  · split <;> omega
end Go.Proofs.YthomgmhmbalnbaaGreatDoor

/- Bits of numbers that are not below 0, of the kind int. -/
namespace Go.Proofs.YthomgmhmbalnbaaGreatDoor

theorem i64_low (z : Nat) (h : z < 2 ^ 63) : IntKind.i64.wrap (z : Int) = z := by
  simp [IntKind.wrap, IntKind.bits, IntKind.signed]
  omega
theorem i64_xorN (a b : Nat) (ha : a < 2 ^ 63) (hb : b < 2 ^ 63) : bits .xor .i64 (a : Int) (b : Int) = ((a ^^^ b : Nat) : Int) := by
  show IntKind.i64.wrap ((BitVec.ofInt 64 (a : Int) ^^^ BitVec.ofInt 64 (b : Int)).toNat : Int) = _
  rw [BitVec.toNat_xor, ofInt_u64 a (by omega), ofInt_u64 b (by omega)]
  exact i64_low _ (Nat.xor_lt_two_pow ha hb)
theorem i64_orN (a b : Nat) (ha : a < 2 ^ 63) (hb : b < 2 ^ 63) : bits .or .i64 (a : Int) (b : Int) = ((a ||| b : Nat) : Int) := by
  show IntKind.i64.wrap ((BitVec.ofInt 64 (a : Int) ||| BitVec.ofInt 64 (b : Int)).toNat : Int) = _
  rw [BitVec.toNat_or, ofInt_u64 a (by omega), ofInt_u64 b (by omega)]
  exact i64_low _ (Nat.or_lt_two_pow ha hb)
theorem i64_andN (a b : Nat) (ha : a < 2 ^ 63) (hb : b < 2 ^ 63) : bits .and .i64 (a : Int) (b : Int) = ((a &&& b : Nat) : Int) := by
  show IntKind.i64.wrap ((BitVec.ofInt 64 (a : Int) &&& BitVec.ofInt 64 (b : Int)).toNat : Int) = _
  rw [BitVec.toNat_and, ofInt_u64 a (by omega), ofInt_u64 b (by omega)]
  exact i64_low _ (Nat.and_lt_two_pow a hb)
theorem shr_nat (s a : Nat) : (s : Int) / 2 ^ a = ((s >>> a : Nat) : Int) := by
  rw [Nat.shiftRight_eq_div_pow]
  simp
theorem shr_le (s a : Nat) : s >>> a ≤ s := by
  rw [Nat.shiftRight_eq_div_pow]
  exact Nat.div_le_self _ _
theorem shl_wrap (a : Nat) (h : a < 63) : IntKind.i64.wrap (2 ^ a : Int) = (2 ^ a : Int) := by
  have h1 : (2 ^ a : Int) = ((2 ^ a : Nat) : Int) := by simp
  rw [h1]
  exact i64_low _ (Nat.pow_lt_pow_right (by decide) h)
end Go.Proofs.YthomgmhmbalnbaaGreatDoor

/- Fractions of the document by their value: sums, differences, products, whatever the numbers that say it. -/
namespace Go.Proofs.YthomgmhmbalnbaaGreatDoor
open Go.RowKit

/-- A fraction z over M, in its lowest terms. -/
def LR (w : World) (v : Value) (M : Nat) (z : Int) : Prop := RatioAt w v (lowN M z) (lowD M z)
theorem LR.later {w w' : World} {v : Value} {M : Nat} {z : Int} (h : LR w v M z) (hb : Below w.heap.size w w') : LR w' v M z := RatioAt.later h hb
theorem LR.same {w : World} {v : Value} {M d : Nat} {z n : Int} (h : LR w v d n) (hM : 0 < M) (hd : 0 < d) (he : n * (M : Int) = z * (d : Int)) : LR w v M z := by
  have h1 := low_same hM hd he
  unfold LR lowN lowD lowG at h
  rw [h1.1, h1.2] at h
  exact h
/-- What is small enough to be reckoned with. -/
def Sml (M : Nat) (z : Int) : Prop := 0 < M ∧ M < 1000000 ^ 60 ∧ z.natAbs < 1000000 ^ 60
theorem cancel_mul {a b c : Int} (h : c ≠ 0) (e : a * c = b * c) : a = b := Int.eq_of_mul_eq_mul_right h e
theorem RTimes_to (u v : Value) (M1 M2 M : Nat) (z1 z2 z : Int) (w : World) (hu : LR w u M1 z1) (hv : LR w v M2 z2) (h1 : Sml M1 z1) (h2 : Sml M2 z2) (hM : 0 < M) (he : z1 * z2 * (M : Int) = z * ((M1 : Int) * (M2 : Int))) :
    Calls Tryz.prog 46 #[u, v] w fun e w' => ∃ r, e = .returned r ∧ LR w' r M z ∧ Below w.heap.size w w' := by
  refine (Times_ratio u v _ _ _ _ 60 w hu hv (lowD_pos h1.1 _) (lowD_pos h2.1 _) (Nat.lt_of_le_of_lt (lowN_le h1.1 _) h1.2.2) (Nat.lt_of_le_of_lt (lowN_le h2.1 _) h2.2.2) (Nat.lt_of_le_of_lt (lowD_le _ _) h1.2.1) (Nat.lt_of_le_of_lt (lowD_le _ _) h2.2.1) (by decide)).mono ?_
  rintro e w' ⟨r, rfl, hr, hb⟩
  refine ⟨r, rfl, LR.same (d := lowD M1 z1 * lowD M2 z2) (n := lowN M1 z1 * lowN M2 z2) hr hM (Nat.mul_pos (lowD_pos h1.1 _) (lowD_pos h2.1 _)) ?_, hb⟩
  have c1 := low_cross h1.1 z1
  have c2 := low_cross h2.1 z2
  have m1 : (M1 : Int) * (M2 : Int) ≠ 0 := Int.mul_ne_zero (by have := h1.1; omega) (by have := h2.1; omega)
  rw [Int.natCast_mul]
  generalize lowN M1 z1 = a1 at *
  generalize lowN M2 z2 = a2 at *
  generalize (lowD M1 z1 : Int) = b1 at *
  generalize (lowD M2 z2 : Int) = b2 at *
  generalize (M1 : Int) = N1 at *
  generalize (M2 : Int) = N2 at *
  generalize (M : Int) = N at *
  refine cancel_mul m1 ?_
  calc a1 * a2 * N * (N1 * N2) = (a1 * N1) * (a2 * N2) * N := by grind
    _ = (z1 * b1) * (z2 * b2) * N := by rw [c1, c2]
    _ = z1 * z2 * N * (b1 * b2) := by grind
    _ = z * (N1 * N2) * (b1 * b2) := by rw [he]
    _ = z * (b1 * b2) * (N1 * N2) := by grind
theorem RPlus_to (u v : Value) (M1 M2 M : Nat) (z1 z2 z : Int) (w : World) (hu : LR w u M1 z1) (hv : LR w v M2 z2) (h1 : Sml M1 z1) (h2 : Sml M2 z2) (hM : 0 < M) (he : (z1 * (M2 : Int) + z2 * (M1 : Int)) * (M : Int) = z * ((M1 : Int) * (M2 : Int))) :
    Calls Tryz.prog 62 #[u, v] w fun e w' => ∃ r, e = .returned r ∧ LR w' r M z ∧ Below w.heap.size w w' := by
  refine (Plus_ratio u v _ _ _ _ 60 w hu hv (lowD_pos h1.1 _) (lowD_pos h2.1 _) (Nat.lt_of_le_of_lt (lowN_le h1.1 _) h1.2.2) (Nat.lt_of_le_of_lt (lowN_le h2.1 _) h2.2.2) (Nat.lt_of_le_of_lt (lowD_le _ _) h1.2.1) (Nat.lt_of_le_of_lt (lowD_le _ _) h2.2.1) (by decide)).mono ?_
  rintro e w' ⟨r, rfl, hr, hb⟩
  refine ⟨r, rfl, LR.same (d := lowD M1 z1 * lowD M2 z2) (n := lowN M1 z1 * lowD M2 z2 + lowN M2 z2 * lowD M1 z1) hr hM (Nat.mul_pos (lowD_pos h1.1 _) (lowD_pos h2.1 _)) ?_, hb⟩
  have c1 := low_cross h1.1 z1
  have c2 := low_cross h2.1 z2
  have m1 : (M1 : Int) * (M2 : Int) ≠ 0 := Int.mul_ne_zero (by have := h1.1; omega) (by have := h2.1; omega)
  rw [Int.natCast_mul]
  generalize lowN M1 z1 = a1 at *
  generalize lowN M2 z2 = a2 at *
  generalize (lowD M1 z1 : Int) = b1 at *
  generalize (lowD M2 z2 : Int) = b2 at *
  generalize (M1 : Int) = N1 at *
  generalize (M2 : Int) = N2 at *
  generalize (M : Int) = N at *
  refine cancel_mul m1 ?_
  calc (a1 * b2 + a2 * b1) * N * (N1 * N2) = ((a1 * N1) * b2 * N2 + (a2 * N2) * b1 * N1) * N := by grind
    _ = ((z1 * b1) * b2 * N2 + (z2 * b2) * b1 * N1) * N := by rw [c1, c2]
    _ = (z1 * N2 + z2 * N1) * N * (b1 * b2) := by grind
    _ = z * (N1 * N2) * (b1 * b2) := by rw [he]
    _ = z * (b1 * b2) * (N1 * N2) := by grind
theorem RatioOf_to (n : Int) (d M : Nat) (z : Int) (w : World) (h0 : -4611686018427387904 ≤ n) (h1 : n ≤ 4611686018427387904) (hd : 0 < d) (hd1 : d ≤ 4611686018427387904) (hM : 0 < M) (he : n * (M : Int) = z * (d : Int)) :
    Calls Tryz.prog 44 #[.int .i64 n, .int .i64 d] w fun e w' => ∃ r, e = .returned r ∧ LR w' r M z ∧ Below w.heap.size w w' := by
  refine (RatioOf_any n d w h0 h1 hd hd1).mono ?_
  rintro e w' ⟨r, rfl, hr, hb⟩
  exact ⟨r, rfl, LR.same (d := d) (n := n) hr hM hd he, hb⟩
theorem RCmp_same (u v : Value) (M1 M2 : Nat) (z1 z2 : Int) (w : World) (hu : LR w u M1 z1) (hv : LR w v M2 z2) (h1 : Sml M1 z1) (h2 : Sml M2 z2) (he : z1 * (M2 : Int) = z2 * (M1 : Int)) :
    Calls Tryz.prog 58 #[u, v] w fun e w' => e = .returned (.int .i64 0) ∧ Below w.heap.size w w' := by
  have hv2 : LR w v M1 z1 := hv.same h1.1 h2.1 he.symm
  have h9 := RCmp_any u v _ _ _ _ 60 w hu hv2 (Nat.lt_of_le_of_lt (lowN_le h1.1 _) h1.2.2) (Nat.lt_of_le_of_lt (lowN_le h1.1 _) h1.2.2) (Nat.lt_of_le_of_lt (lowD_le _ _) h1.2.1) (Nat.lt_of_le_of_lt (lowD_le _ _) h1.2.1) (by decide)
  rw [Int.sub_self] at h9
  exact h9

/-- A variable that holds such a fraction. -/
def LB (w : World) (b : Nat) (M : Nat) (z : Int) : Prop := ∃ s x l c x' l' c', RBox w b s x l c x' l' c' (lowN M z) (lowD M z)
theorem LB.later {w w' : World} {b M : Nat} {z : Int} (h : LB w b M z) (hb : Below w.heap.size w w') : LB w' b M z := by
  obtain ⟨s, x, l, c, x', l', c', h⟩ := h
  exact ⟨s, x, l, c, x', l', c', h.later hb⟩
theorem LR.sl {w : World} {v : Value} {M : Nat} {z : Int} (h : LR w v M z) : ∃ s ad l cap ad' l' cap', v = .agg #[.bool s, .slice ad l cap, .slice ad' l' cap'] := RatioAt.sl h

end Go.Proofs.YthomgmhmbalnbaaGreatDoor

/- The document's chance of a step; does a chain go as often one way as the other? -/
namespace Go.Proofs.YthomgmhmbalnbaaGreatDoor
open Go.RowKit

set_option maxRecDepth 100000 in
set_option maxHeartbeats 4000000 in
theorem StepOf_to (b o cap n i k rb ro rc : Nat) (q : Nat → Nat) (R : Nat) (w : World) (hc : w.cell? ⟨b, o + i, none⟩ = some (.slice (some ⟨rb, ro, none⟩) n rc)) (hr : RowAt w rb ro n (fun j => (q j : Int))) (hi : i < n) (hk : k < n) (hn : n ≤ 8) (hR : R = smU q n) (hR0 : 0 < R) (hRb : R ≤ 4096) :
    Calls Tryz.prog 47 #[.slice (some ⟨b, o, none⟩) n cap, .int .i64 (i : Int), .int .i64 (k : Int)] w fun e w' => ∃ r, e = .returned r ∧ LR w' r R (q k : Int) ∧ Below w.heap.size w w' := by
  obtain ⟨W0, hW0⟩ : ∃ W0, W0 = w.alloc (.cells #[.bool false, .slice none 0 0, .slice none 0 0] 46) := ⟨_, rfl⟩
  have hb0 : Below w.heap.size w W0 := by rw [hW0]; exact (Below.refl _ _).alloc (Nat.le_refl _) _
  have hqk : q k ≤ 4096 := by have := smU_ge (u := q) hk; omega
  have HR0 : Hid (∀ W, Below W0.heap.size W0 W → RBox W w.heap.size false none 0 0 none 0 0 0 0) := fun W hb => by
    have h : RBox W0 w.heap.size false none 0 0 none 0 0 0 0 := by
      have := RBox.fresh (w := w) (n := 0) (d := 0) (s := false) ⟨_, _, rfl, big_none _, big_none _⟩
      rw [hW0]; exact this
    exact h.later hb
  have HKB : Hid (∀ W, Below w.heap.size w W → W.cell? ⟨b, o + i, none⟩ = some (.slice (some ⟨rb, ro, none⟩) n rc) ∧ W.cell? ⟨rb, ro + k, none⟩ = some (.int .i64 (q k : Int))) := fun W hb => ⟨by rw [hb.cell (cell_lt hc)]; exact hc, hr.later hb k hk⟩
  have HSU : Hid (∀ W, Below w.heap.size w W → Calls Tryz.prog 45 #[.slice (some ⟨rb, ro, none⟩) n rc] W fun e w' => e = .returned (.int .i64 (R : Int)) ∧ w' = W) := fun W hb => by
    have h1 := Sum_some rb ro rc n (fun j => (q j : Int)) W (hr.later hb) (fun j hj => by
      rw [sumN_smU (u := q) (fun _ _ => rfl)]
      have h3 := smU_mono q hj
      omega) (fun j hj => by have := smU_ge (u := q) hj; omega) (by omega)
    rw [sumN_smU (u := q) (fun _ _ => rfl), ← hR] at h1
    exact h1
  have HRO : Hid (∀ W, Calls Tryz.prog 44 #[.int .i64 (q k : Int), .int .i64 (R : Int)] W fun e w' => ∃ r, e = .returned r ∧ LR w' r R (q k : Int) ∧ Below W.heap.size W w') := fun W => RatioOf_to (q k) R R (q k) W (by omega) (by omega) hR0 (by omega) hR0 rfl
  have HB0 := Hid.mk' hb0
  have HW0 := Hid.mk' hW0
  have hkI : (k : Int) < (n : Int) := by omega
  have hk0 : (0 : Int) ≤ (k : Int) := by omega
  have hiI : (i : Int) < (n : Int) := by omega
  have hi0 : (0 : Int) ≤ (i : Int) := by omega
  clear hb0 hW0 hc hr hR hRb hqk hR0
  generalize hqe : q k = qk at *
  have HQE := Hid.mk' hqe
  clear hqe
  go_enter Tryz.func47, Tryz.ntmps47
  go_upto_region 1 with fail
  rw [← HW0.out]
  have hcur : Below W0.heap.size W0 W0.drew := (Below.refl _ _).drew
  have hcurD : Below w.heap.size w W0.drew := HB0.out.drew
  have hcur0 : Below w.heap.size w W0 := HB0.out
  go_region_held3 (fun W => W.cell? ⟨b, o + i, none⟩ = some (.slice (some ⟨rb, ro, none⟩) n rc) ∧ W.cell? ⟨rb, ro + k, none⟩ = some (.int .i64 (qk : Int)))
    (first | exact HKB.out _ hcurD | exact HKB.out _ hcur5 | exact HKB.out _ hcurE | exact HKB.out _ hcur0)
    (first
      | (go_at_call 45; refine (HSU.out _ hcurD).mono ?_; rintro e w4 ⟨rfl, hw4⟩; rw [hw4]; clear hw4)
      | (go_at_call 44; refine (HRO.out _).mono ?_; rintro e w5 ⟨r, rfl, hr5, hb5⟩; obtain ⟨s1, x1, l1, c1, x1', l1', c1', rfl⟩ := hr5.sl; have hR := HR0.out _ (below_chain hcur hb5); have y0 := hR.c0; have y1 := hR.c1; have y2 := hR.c2; have f0 := hR.fz 0 (by decide); have f1 := hR.fz 1 (by decide); have f2 := hR.fz 2 (by decide); obtain ⟨⟨g0, g1⟩, ⟨g2, g3⟩, g4⟩ := put_three' (.bool s1) (.slice x1 l1 c1) (.slice x1' l1' c1') y0 y1 y2; have HP := Hid.mk' (hR.put hr5); have hcur5 := below_chain hcurD hb5; have hcurE : Below w.heap.size w (((w5.setCell ⟨w.heap.size, 0, none⟩ (.bool s1)).setCell ⟨w.heap.size, 1, none⟩ (.slice x1 l1 c1)).setCell ⟨w.heap.size, 2, none⟩ (.slice x1' l1' c1')) := (((hcur5.setCell (Nat.le_refl _) _).setCell (Nat.le_refl _) _).setCell (Nat.le_refl _) _); clear hR hr5 hb5))
  have HBE := Hid.mk' hcurE
  unfold put3 at HP
  clear hcurE hcur5 hcurD hcur hcur0
  go_wp2_with fail
  exact bodyPost_ret (v := .agg #[.bool s1, .slice x1 l1 c1, .slice x1' l1' c1']) (by simp [results, Tryz.results47, go_sem, HP.out.c0, HP.out.c1, HP.out.c2]) rfl ⟨_, rfl, HP.out.rat, HBE.out⟩
/-- The sign of a difference of two fractions. -/
theorem sgn_same {x y p q : Int} (hp : 0 < p) (hq : 0 < q) (h : x * p = y * q) : sgnZ x = sgnZ y := by
  unfold sgnZ
  rcases Int.lt_trichotomy x 0 with h1 | h1 | h1
  · have h2 : x * p < 0 := Int.mul_neg_of_neg_of_pos h1 hp
    rw [h] at h2
    have h3 : y < 0 := by
      rcases Int.lt_or_le y 0 with h4 | h4
      · exact h4
      · have := Int.mul_nonneg h4 (Int.le_of_lt hq); omega
    rw [if_neg (by omega), if_pos h1, if_neg (by omega), if_pos h3]
  · subst h1
    rw [Int.zero_mul] at h
    have h3 : y = 0 := by
      rcases Int.mul_eq_zero.1 h.symm with h4 | h4
      · exact h4
      · omega
    rw [if_pos rfl, if_pos h3]
  · have h2 : 0 < x * p := Int.mul_pos h1 hp
    rw [h] at h2
    have h3 : 0 < y := by
      rcases Int.lt_or_le 0 y with h4 | h4
      · exact h4
      · have := Int.mul_nonneg (show 0 ≤ -y by omega) (Int.le_of_lt hq); rw [Int.neg_mul] at this; omega
    rw [if_neg (by omega), if_neg (by omega), if_neg (by omega), if_neg (by omega)]
theorem RCmp_to (u v : Value) (M1 M2 : Nat) (z1 z2 : Int) (w : World) (hu : LR w u M1 z1) (hv : LR w v M2 z2) (h1 : Sml M1 z1) (h2 : Sml M2 z2) :
    Calls Tryz.prog 58 #[u, v] w fun e w' => e = .returned (.int .i64 (sgnZ (z1 * (M2 : Int) - z2 * (M1 : Int)))) ∧ Below w.heap.size w w' := by
  have h9 := RCmp_any u v _ _ _ _ 60 w hu hv (Nat.lt_of_le_of_lt (lowN_le h1.1 _) h1.2.2) (Nat.lt_of_le_of_lt (lowN_le h2.1 _) h2.2.2) (Nat.lt_of_le_of_lt (lowD_le _ _) h1.2.1) (Nat.lt_of_le_of_lt (lowD_le _ _) h2.2.1) (by decide)
  have c1 := low_cross h1.1 z1
  have c2 := low_cross h2.1 z2
  have p1 := lowD_pos h1.1 z1
  have p2 := lowD_pos h2.1 z2
  have m1 := h1.1
  have m2 := h2.1
  have hs : sgnZ (lowN M1 z1 * (lowD M2 z2 : Int) - lowN M2 z2 * (lowD M1 z1 : Int)) = sgnZ (z1 * (M2 : Int) - z2 * (M1 : Int)) := by
    refine sgn_same (p := (M1 : Int) * (M2 : Int)) (q := (lowD M1 z1 : Int) * (lowD M2 z2 : Int)) (Int.mul_pos (by omega) (by omega)) (Int.mul_pos (by omega) (by omega)) ?_
    generalize lowN M1 z1 = a1 at *
    generalize lowN M2 z2 = a2 at *
    generalize (lowD M1 z1 : Int) = b1 at *
    generalize (lowD M2 z2 : Int) = b2 at *
    generalize (M1 : Int) = N1 at *
    generalize (M2 : Int) = N2 at *
    calc (a1 * b2 - a2 * b1) * (N1 * N2) = (a1 * N1) * b2 * N2 - (a2 * N2) * b1 * N1 := by grind
      _ = (z1 * b1) * b2 * N2 - (z2 * b2) * b1 * N1 := by rw [c1, c2]
      _ = (z1 * N2 - z2 * N1) * (b1 * b2) := by grind
  rw [hs] at h9
  exact h9
end Go.Proofs.YthomgmhmbalnbaaGreatDoor

/- The document's isEven. -/
namespace Go.Proofs.YthomgmhmbalnbaaGreatDoor
open Go.RowKit

theorem sml_le {M : Nat} {z : Int} (h0 : 0 < M) (hM : M ≤ 4611686018427387904) (hz : z.natAbs ≤ 4611686018427387904) : Sml M z :=
  ⟨h0, Nat.lt_of_le_of_lt hM (by decide +kernel), Nat.lt_of_le_of_lt hz (by decide +kernel)⟩
theorem unB_comm (z : Nat → Int) (P : Nat → Nat → Int) (n i k : Nat) : unB z P n i k = unB z P n k i := by
  unfold unB
  exact bne_comm
theorem unB_self (z : Nat → Int) (P : Nat → Nat → Int) (n i : Nat) : unB z P n i i = false := by
  unfold unB
  simp
theorem unF_same (z : Nat → Int) (P : Nat → Nat → Int) (n : Nat) : anyB (fun i => anyB (unB z P n i) n) n = unK z P n := by
  cases h : unK z P n with
  | false =>
    refine anyB_none fun i hi => anyB_none fun k hk => ?_
    have h1 : ∀ i k, i < n → k < i → unB z P n i k = false := fun i k hi hk => anyB_no (anyB_no h i hi) k hk
    rcases Nat.lt_or_ge k i with h2 | h2
    · exact h1 i k hi h2
    · rcases Nat.lt_or_ge i k with h3 | h3
      · rw [unB_comm]; exact h1 k i hk h3
      · obtain rfl : i = k := by omega
        exact unB_self _ _ _ _
  | true =>
    obtain ⟨i, hi, h1⟩ := anyB_is h
    obtain ⟨k, hk, h2⟩ := anyB_is h1
    exact anyB_at (p := fun i => anyB (unB z P n i) n) (anyB_at h2 (by omega)) hi
theorem sgnZ_ne (x y : Int) : (sgnZ (x - y) != 0) = (x != y) := by
  unfold sgnZ
  by_cases h : x - y = 0
  · rw [if_pos h]
    have : x = y := by omega
    subst this
    simp
  · rw [if_neg h]
    have h2 : (x != y) = true := by rw [bne_iff_ne]; omega
    rw [h2]
    split <;> decide
/-- What a fraction's variable holds. -/
theorem ratio_cells {w : World} {s : Bool} {x x' : Option Addr} {l c l' c' : Nat} (W : World) (hb : Below (w.alloc (.cells #[.bool s, .slice x l c, .slice x' l' c'] 46)).heap.size (w.alloc (.cells #[.bool s, .slice x l c, .slice x' l' c'] 46)) W) : W.cell? ⟨w.heap.size, 0, none⟩ = some (.bool s) ∧ W.cell? ⟨w.heap.size, 1, none⟩ = some (.slice x l c) ∧ W.cell? ⟨w.heap.size, 2, none⟩ = some (.slice x' l' c') := by
  have h0 : (w.alloc (.cells #[.bool s, .slice x l c, .slice x' l' c'] 46)).cell? ⟨w.heap.size, 0, none⟩ = some (.bool s) := by simp
  have h1 : (w.alloc (.cells #[.bool s, .slice x l c, .slice x' l' c'] 46)).cell? ⟨w.heap.size, 1, none⟩ = some (.slice x l c) := by simp
  have h2 : (w.alloc (.cells #[.bool s, .slice x l c, .slice x' l' c'] 46)).cell? ⟨w.heap.size, 2, none⟩ = some (.slice x' l' c') := by simp
  exact ⟨by rw [hb.cell (cell_lt h0)]; exact h0, by rw [hb.cell (cell_lt h1)]; exact h1, by rw [hb.cell (cell_lt h2)]; exact h2⟩

set_option maxRecDepth 100000 in
set_option maxHeartbeats 4000000 in
theorem isEven_any (v u : Value) (n : Nat) (vs : Nat → Value) (ns : Nat → Nat) (P : Nat → Nat → Int) (z : Nat → Int) (w : World) (h : TabAt w v n vs ns P) (hz : NumsAt w u n z) (h0 : 0 < n) (hn : n ≤ 8) (hns : ∀ i, i < n → ns i = n) (hok : ∀ i, i < n → OkW (P i) n) (hw : ∀ i, i < n → 1 ≤ z i ∧ z i ≤ 1000) :
    Calls Tryz.prog 30 #[v, u] w fun e w' => e = .returned (.bool (!unK z P n)) ∧ Below w.heap.size w w' := by
  obtain ⟨b, o, cap, rfl, hr⟩ := tab_of h h0
  obtain ⟨bz, oz, cz, rfl, hrz⟩ := row_of hz h0
  have hcast : ∀ i k, i < n → k < n → P i k = (((P i k).toNat : Nat) : Int) := fun i k hi hk => by have := (hok i hi).lt hk; omega
  have HR : Hid (∀ i, i < n → ∃ rb ro rc, w.cell? ⟨b, o + i, none⟩ = some (.slice (some ⟨rb, ro, none⟩) n rc) ∧ RowAt w rb ro n (fun k => (((P i k).toNat : Nat) : Int))) := fun i hi => by
    obtain ⟨h1, h2⟩ := hr i hi
    rw [hns i hi] at h2
    obtain ⟨rb, ro, rc, h3, h4⟩ := row_of h2 h0
    refine ⟨rb, ro, rc, by rw [h1, h3], fun k hk => ?_⟩
    show w.cell? _ = some (.int .i64 (((P i k).toNat : Nat) : Int))
    rw [← hcast i k hi hk]
    exact h4 k hk
  have HSN : Hid (∀ i, i < n → ∃ R : Nat, sumN (P i) n = (R : Int) ∧ R = smU (fun k => (P i k).toNat) n ∧ 0 < R ∧ R ≤ 4096) := fun i hi => by
    have h1 := sumN_smU (u := fun k => (P i k).toNat) (fun k hk => hcast i k hi hk)
    have h2 := (hok i hi).le
    have h3 := (hok i hi).pos
    exact ⟨_, h1, rfl, by omega, by omega⟩
  have HST : Hid (∀ W i k, Below w.heap.size w W → i < n → k < n → ∀ R : Nat, sumN (P i) n = (R : Int) → Calls Tryz.prog 47 #[.slice (some ⟨b, o, none⟩) n cap, .int .i64 (i : Int), .int .i64 (k : Int)] W fun e w' => ∃ r, e = .returned r ∧ LR w' r R (P i k) ∧ Below W.heap.size W w') := fun W i k hb hi hk R hRe => by
    obtain ⟨rb, ro, rc, h1, h2⟩ := HR.out i hi
    obtain ⟨R', g1, g2, g3, g4⟩ := HSN.out i hi
    obtain rfl : R = R' := by omega
    rw [hcast i k hi hk]
    exact StepOf_to b o cap n i k rb ro rc (fun k => (P i k).toNat) R W (by rw [hb.cell (cell_lt h1)]; exact h1) (h2.later hb) hi hk hn g2 g3 g4
  have HRO : Hid (∀ W i, i < n → Calls Tryz.prog 44 #[.int .i64 (z i), .int .i64 1] W fun e w' => ∃ r, e = .returned r ∧ LR w' r 1 (z i) ∧ Below W.heap.size W w') := fun W i hi => RatioOf_to (z i) 1 1 (z i) W (by have := hw i hi; omega) (by have := hw i hi; omega) (by decide) (by decide) (by decide) rfl
  have HTI : Hid (∀ W i k (R : Nat) (u v : Value), i < n → k < n → sumN (P i) n = (R : Int) → LR W u 1 (z i) → LR W v R (P i k) → Calls Tryz.prog 46 #[u, v] W fun e w' => ∃ r, e = .returned r ∧ LR w' r R (z i * P i k) ∧ Below W.heap.size W w') := fun W i k R u v hi hk hRe hu hv => by
    obtain ⟨R', g1, g2, g3, g4⟩ := HSN.out i hi
    obtain rfl : R = R' := by omega
    have b1 := hw i hi
    have b2 := (hok i hi).lt hk
    refine RTimes_to u v 1 R R (z i) (P i k) (z i * P i k) W hu hv (sml_le (by decide) (by decide) (by omega)) (sml_le g3 (by omega) (by omega)) g3 ?_
    simp
  have HCM : Hid (∀ W i k (Ri Rk : Nat) (u v : Value), i < n → k < n → sumN (P i) n = (Ri : Int) → sumN (P k) n = (Rk : Int) → LR W u Ri (z i * P i k) → LR W v Rk (z k * P k i) → Calls Tryz.prog 58 #[u, v] W fun e w' => e = .returned (.int .i64 (sgnZ (z i * P i k * sumN (P k) n - z k * P k i * sumN (P i) n))) ∧ Below W.heap.size W w') := fun W i k Ri Rk u v hi hk hi1 hk1 hu hv => by
    obtain ⟨R1, g1, g2, g3, g4⟩ := HSN.out i hi
    obtain ⟨R2, k1, k2, k3, k4⟩ := HSN.out k hk
    have b1 := hw i hi
    have b2 := (hok i hi).lt hk
    have b3 := hw k hk
    have b4 := (hok k hk).lt hi
    have p1 := prod_bd (x := z i) (y := P i k) (by omega) (by omega) b2.1 b2.2
    have p2 := prod_bd (x := z k) (y := P k i) (by omega) (by omega) b4.1 b4.2
    rw [hi1, hk1]
    exact RCmp_to u v Ri Rk _ _ W hu hv (sml_le (by omega) (by omega) (by omega)) (sml_le (by omega) (by omega) (by omega))
  have HZ : Hid (∀ W i, Below w.heap.size w W → i < n → W.cell? ⟨bz, oz + i, none⟩ = some (.int .i64 (z i))) := fun W i hb hi => hrz.later hb i hi
  have hnI : (n : Int) ≤ 8 := by omega
  have HDF : Hid (unK z P n = anyB (fun i => anyB (unB z P n i) n) n) := (unF_same z P n).symm
  clear h hz hr hrz hns hok hw hcast HR
  go_enter Tryz.func30, Tryz.ntmps30
  go_wp2_with fail
  go_loopw [5] (fun t wr => ∃ i : Nat, i ≤ n ∧ t = .int .i64 i ∧ Hid (anyB (fun i => anyB (unB z P n i) n) i = false) ∧ Hid (Below w.heap.size w wr)) (fun t _ => n - (intOf t).toNat)
  case atStart => exact ⟨0, Nat.zero_le _, rfl, rfl, Below.refl _ _⟩
  case round =>
    obtain ⟨i, hi, rfl, HS, HB⟩ := hrel
    rcases Nat.lt_or_ge i n with h1 | h1
    · have hiI : (i : Int) < (n : Int) := by omega
      have hi0 : (0 : Int) ≤ (i : Int) := by omega
      have HBAD : Hid (anyB (unB z P n i) n = true → unK z P n = true) := fun hq => by rw [HDF.out]; exact anyB_at (p := fun i => anyB (unB z P n i) n) hq h1
      have HGO : Hid (anyB (unB z P n i) n = false → anyB (fun i => anyB (unB z P n i) n) (i + 1) = false) := fun hq => by rw [anyB, HS.out]; exact hq
      obtain ⟨Ri, hRi, -, -, -⟩ := HSN.out i h1
      have HRI := Hid.mk' hRi
      clear hRi
      obtain ⟨w1, hw1⟩ : ∃ w1, w1 = wr := ⟨_, rfl⟩
      rw [← hw1] at HB ⊢
      clear hw1
      go_wp2_with fail
      go_loopw [6] (fun t wr => ∃ k : Nat, k ≤ n ∧ t = .int .i64 k ∧ Hid (anyB (unB z P n i) k = false) ∧ Hid (Below w.heap.size w wr)) (fun t _ => n - (intOf t).toNat)
      case atStart => exact ⟨0, Nat.zero_le _, rfl, rfl, HB⟩
      case round =>
        clear HB
        obtain ⟨k, hk, rfl, HSK, HB⟩ := hrel
        rcases Nat.lt_or_ge k n with h2 | h2
        · have hkI : (k : Int) < (n : Int) := by omega
          have hk0 : (0 : Int) ≤ (k : Int) := by omega
          obtain ⟨Rk, hRk, -, -, -⟩ := HSN.out k h2
          have HRK := Hid.mk' hRk
          clear hRk
          have e1 := HZ.out wr i HB.out h1
          have HUB : Hid (unB z P n i k = true → unK z P n = true) := fun hq => HBAD.out (anyB_at (p := unB z P n i) hq h2)
          have HUG : Hid (unB z P n i k = false → anyB (unB z P n i) (k + 1) = false) := fun hq => by rw [anyB, HSK.out]; exact hq
          have HU : Hid ((sgnZ (z i * P i k * sumN (P k) n - z k * P k i * sumN (P i) n) != 0) = unB z P n i k) := sgnZ_ne _ _
          go_wp2_with fail
          refine (HRO.out _ i h1).mono ?_
          rintro e w2 ⟨r2, rfl, hr2, hb2⟩
          have HB2 := Hid.mk' (below_chain HB.out hb2)
          clear e1 hb2
          go_wp2_with fail
          refine (HST.out _ i k HB2.out h1 h2 Ri HRI.out).mono ?_
          rintro e w3 ⟨r3, rfl, hr3, hb3⟩
          have HB3 := Hid.mk' (below_chain HB2.out hb3)
          have HT3 := Hid.mk' (HTI.out w3 i k Ri r2 r3 h1 h2 HRI.out (hr2.later hb3) hr3)
          clear hr2 hr3 hb3
          go_wp2_with fail
          refine HT3.out.mono ?_
          rintro e w4 ⟨r4, rfl, hr4, hb4⟩
          obtain ⟨s4, x4, l4, c4, y4, m4, k4, rfl⟩ := hr4.sl
          have HB4 := Hid.mk' (below_chain HB3.out hb4)
          have h9 : Below w4.heap.size w4 (w4.alloc (.cells #[.bool s4, .slice x4 l4 c4, .slice y4 m4 k4] 46)) := (Below.refl _ _).alloc (Nat.le_refl _) _
          have HX := Hid.mk' (fun (W : World) hb => ratio_cells (w := w4) (s := s4) (x := x4) (x' := y4) (l := l4) (c := c4) (l' := m4) (c' := k4) W hb)
          have HX4 : Hid (∀ W, Below (w4.alloc (.cells #[.bool s4, .slice x4 l4 c4, .slice y4 m4 k4] 46)).heap.size (w4.alloc (.cells #[.bool s4, .slice x4 l4 c4, .slice y4 m4 k4] 46)) W → LR W (.agg #[.bool s4, .slice x4 l4 c4, .slice y4 m4 k4]) Ri (z i * P i k)) := fun W hb => (hr4.later h9).later hb
          have HB5 := Hid.mk' (below_chain HB4.out h9)
          obtain ⟨W5, hW5⟩ : ∃ W5, W5 = w4.alloc (.cells #[.bool s4, .slice x4 l4 c4, .slice y4 m4 k4] 46) := ⟨_, rfl⟩
          obtain ⟨B4, hB4⟩ : ∃ B4, B4 = w4.heap.size := ⟨_, rfl⟩
          clear h9 hr4 hb4 HT3
          go_upto_region 8 with fail
          rw [← hW5] at HX HX4 HB5 ⊢
          rw [← hB4] at HX ⊢
          clear hW5 hB4
          have e1 := HZ.out W5 k HB5.out h2
          go_wp2_with fail
          refine (HRO.out _ k h2).mono ?_
          rintro e w6 ⟨r6, rfl, hr6, hb6⟩
          have HB6 := Hid.mk' (below_chain HB5.out hb6)
          have HC6 := Hid.mk' hb6
          clear e1 hb6
          go_wp2_with fail
          refine (HST.out _ k i HB6.out h2 h1 Rk HRK.out).mono ?_
          rintro e w7 ⟨r7, rfl, hr7, hb7⟩
          have HB7 := Hid.mk' (below_chain HB6.out hb7)
          have HC7 := Hid.mk' (below_chain HC6.out hb7)
          have HT7 := Hid.mk' (HTI.out w7 k i Rk r6 r7 h2 h1 HRK.out (hr6.later hb7) hr7)
          clear hr6 hr7 hb7 HC6
          go_wp2_with fail
          refine HT7.out.mono ?_
          rintro e w8 ⟨r8, rfl, hr8, hb8⟩
          obtain ⟨s8, x8, l8, c8, y8, m8, k8, rfl⟩ := hr8.sl
          have HB8 := Hid.mk' (below_chain HB7.out hb8)
          have HC8 := Hid.mk' (below_chain HC7.out hb8)
          have h9 : Below w8.heap.size w8 (w8.alloc (.cells #[.bool s8, .slice x8 l8 c8, .slice y8 m8 k8] 46)) := (Below.refl _ _).alloc (Nat.le_refl _) _
          have hY := ratio_cells (w := w8) (s := s8) (x := x8) (x' := y8) (l := l8) (c := c8) (l' := m8) (c' := k8) _ (Below.refl _ _)
          have HR9 := Hid.mk' (hr8.later h9)
          have HB9 := Hid.mk' (below_chain HB8.out h9)
          have HC9 := Hid.mk' (below_chain HC8.out h9)
          obtain ⟨W9, hW9⟩ : ∃ W9, W9 = w8.alloc (.cells #[.bool s8, .slice x8 l8 c8, .slice y8 m8 k8] 46) := ⟨_, rfl⟩
          obtain ⟨B8, hB8⟩ : ∃ B8, B8 = w8.heap.size := ⟨_, rfl⟩
          clear h9 hr8 hb8 HT7
          go_upto_region 9 with fail
          rw [← hW9] at hY HR9 HB9 HC9 ⊢
          rw [← hB8] at hY ⊢
          clear hW9 hB8
          obtain ⟨q0, q1, q2⟩ := HX.out W9 HC9.out
          obtain ⟨p0, p1, p2⟩ := hY
          have HCX := Hid.mk' (HCM.out W9 i k Ri Rk _ _ h1 h2 HRI.out HRK.out (HX4.out W9 HC9.out) HR9.out)
          generalize sgnZ (z i * P i k * sumN (P k) n - z k * P k i * sumN (P i) n) = SG at HCX HU
          generalize unB z P n i k = UB at HU HUB HUG
          go_wp2_with fail
          refine HCX.out.mono ?_
          rintro e w10 ⟨rfl, hb10⟩
          have HB10 := Hid.mk' (below_chain HB9.out hb10)
          have hU := HU.out
          clear hb10 HCX q0 q1 q2 p0 p1 p2 HU
          cases UB with
          | true =>
            have HF := Hid.mk' (HUB.out rfl)
            go_wp2_with fail
            go_ret
            exact ⟨by rw [HF.out]; rfl, HB10.out⟩
          | false =>
            have HF := Hid.mk' (HUG.out rfl)
            go_wp2_with fail
            exact ⟨⟨k + 1, h2, by go_num, HF, HB10⟩, by simp [intOf]; omega⟩
        · obtain rfl : k = n := by omega
          have hkI : ¬ ((k : Int) < (k : Int)) := by omega
          have HF := Hid.mk' (HGO.out HSK.out)
          go_wp2_with fail
          exact ⟨⟨i + 1, h1, by go_num, HF, HB⟩, by simp [intOf]; omega⟩
    · obtain rfl : i = n := by omega
      have hiI : ¬ ((i : Int) < (i : Int)) := by omega
      have HF : Hid (unK z P i = false) := by show _ = _; rw [HDF.out]; exact HS.out
      go_wp2_with fail
      go_ret
      exact ⟨by rw [HF.out]; rfl, HB.out⟩
end Go.Proofs.YthomgmhmbalnbaaGreatDoor

/- The document's ProcessFault. -/
namespace Go.Proofs.YthomgmhmbalnbaaGreatDoor
open Go.RowKit

def lgB (L : Nat) (ns : Nat → Nat) (i : Nat) : Bool := decide (5 < L) || manyB ns i
def shB (L T : Nat) (ns : Nat → Nat) (W : Nat → Nat → Int) (i : Nat) : Bool := decide (L ≠ T + 1) || anyB (fun j => badR (ns 0) (ns j) (W j)) i
theorem wtE_bools (L T : Nat) (ns : Nat → Nat) (W : Nat → Nat → Int) : wtE L ns W T = if lgB L ns L = true then 2 else if shB L T ns W L = true then 3 else 0 := by
  unfold wtE lgB shB
  simp only [Bool.or_eq_true, decide_eq_true_eq]
theorem lgB_next (L : Nat) (ns : Nat → Nat) (i : Nat) : lgB L ns (i + 1) = (lgB L ns i || decide (4 < ns i)) := by unfold lgB; rw [Bool.or_assoc]; rfl
theorem shB_next (L T : Nat) (ns : Nat → Nat) (W : Nat → Nat → Int) (i : Nat) : shB L T ns W (i + 1) = (shB L T ns W i || badR (ns 0) (ns i) (W i)) := by unfold shB; rw [Bool.or_assoc]; rfl

set_option maxRecDepth 100000 in
set_option maxHeartbeats 16000000 in
theorem ProcessFault_any (v : Value) (L : Nat) (vs : Nat → Value) (ns : Nat → Nat) (W : Nat → Nat → Int) (sv : Value) (T : Nat) (tv : Nat → Value) (R : Nat → Nat) (rv : Nat → Nat → Value) (rn : Nat → Nat → Nat) (P : Nat → Nat → Nat → Int) (w : World) (h : TabAt w v L vs ns W) (hS : StpAt w sv T tv R rv rn P) (hL : L ≤ 1000000) (hns : ∀ i, i < L → ns i ≤ 1000000) (hT : T ≤ 1000000) (hR : ∀ t, t < T → R t ≤ 1000000) (hrn : ∀ t i, t < T → i < R t → rn t i ≤ 1000000) :
    Calls Tryz.prog 11 #[.agg #[v, sv]] w fun e w' => e = .returned (.agg #[.int .i64 (((prF L ns W T R rn P).1 : Nat) : Int), .int .i64 (prF L ns W T R rn P).2]) ∧ Below w.heap.size w w' := by
  obtain ⟨ad, cap, rfl⟩ := h.form
  obtain ⟨sa, sc, rfl⟩ := hS.form
  obtain ⟨w1, hw1⟩ : ∃ w1, w1 = (w.alloc (.cells #[.slice ad L cap, .slice sa T sc] 25)).alloc (.cells #[.int .i64 0, .int .i64 0] 35) := ⟨_, rfl⟩
  have hb1 : Below w.heap.size w w1 := by rw [hw1]; exact ((Below.refl _ _).alloc (Nat.le_refl _) _).alloc (by simp) _
  have c0 : w1.cell? ⟨w.heap.size, 0, none⟩ = some (.slice ad L cap) := by rw [hw1, World.cell?_alloc_lt _ _ ⟨w.heap.size, 0, none⟩ (by simp), World.cell?_alloc_at _ _ _ _ rfl]; rfl
  have c1 : w1.cell? ⟨w.heap.size, 1, none⟩ = some (.slice sa T sc) := by rw [hw1, World.cell?_alloc_lt _ _ ⟨w.heap.size, 1, none⟩ (by simp), World.cell?_alloc_at _ _ _ _ rfl]; rfl
  have c2 : w1.cell? ⟨w.heap.size + 1, 0, none⟩ = some (.int .i64 0) := by rw [hw1, World.cell?_alloc_at _ _ _ _ (by simp)]; rfl
  have c3 : w1.cell? ⟨w.heap.size + 1, 1, none⟩ = some (.int .i64 0) := by rw [hw1, World.cell?_alloc_at _ _ _ _ (by simp)]; rfl
  have c4 : w1.frozen? ⟨w.heap.size + 1, 0, none⟩ = false := by rw [hw1]; exact frozen_new (by simp)
  have c5 : w1.frozen? ⟨w.heap.size + 1, 1, none⟩ = false := by rw [hw1]; exact frozen_new (by simp)
  have hsz : w.heap.size + 1 < w1.heap.size := by rw [hw1]; simp
  have HC : Hid (∀ W, Below w1.heap.size w1 W → (W.cell? ⟨w.heap.size, 0, none⟩ = some (.slice ad L cap) ∧ W.cell? ⟨w.heap.size, 1, none⟩ = some (.slice sa T sc)) ∧ (W.cell? ⟨w.heap.size + 1, 0, none⟩ = some (.int .i64 0) ∧ W.cell? ⟨w.heap.size + 1, 1, none⟩ = some (.int .i64 0)) ∧ W.frozen? ⟨w.heap.size + 1, 0, none⟩ = false ∧ W.frozen? ⟨w.heap.size + 1, 1, none⟩ = false) := fun W hb => ⟨⟨by rw [hb.cell (cell_lt c0)]; exact c0, by rw [hb.cell (cell_lt c1)]; exact c1⟩, ⟨by rw [hb.cell (cell_lt c2)]; exact c2, by rw [hb.cell (cell_lt c3)]; exact c3⟩, by rw [hb.frozen (show w.heap.size + 1 < w1.heap.size from hsz)]; exact c4, by rw [hb.frozen (show w.heap.size + 1 < w1.heap.size from hsz)]; exact c5⟩
  have HEND : Hid (∀ W, Below w1.heap.size w1 W → Below w.heap.size w W) := fun W hb => hb1.trans (hb.mono hb1.size)
  have HW1 := Hid.mk' hw1
  have HTA : Hid (∀ W', Below w1.heap.size w1 W' → TabAt W' (.slice ad L cap) L vs ns W) := fun W' hb => h.later (HEND.out W' hb)
  have HST : Hid (∀ W', Below w1.heap.size w1 W' → StpAt W' (.slice sa T sc) T tv R rv rn P) := fun W' hb => hS.later (HEND.out W' hb)
  have HNS := Hid.mk' hns
  have HRB := Hid.mk' hR
  have HRN := Hid.mk' hrn
  have hLI : (L : Int) ≤ 1000000 := by omega
  have hTI : (T : Int) ≤ 1000000 := by omega
  have HWE := Hid.mk' (wtE_bools L T ns W)
  have HPW : Hid (wtE L ns W T ≠ 0 → prF L ns W T R rn P = (wtE L ns W T, -1)) := fun hq => prF_w hq
  have HPC : Hid (wtE L ns W T = 0 → ∀ t, t < T → (∀ i, i < t → chainErr (R i) (rn i) (P i) = 0) → chainErr (R t) (rn t) (P t) ≠ 0 → prF L ns W T R rn P = (chainErr (R t) (rn t) (P t), -1)) := fun hq t ht h1 h2 => prF_c hq ht h1 h2
  have HPS : Hid (wtE L ns W T = 0 → (∀ i, i < T → chainErr (R i) (rn i) (P i) = 0) → prF L ns W T R rn P = spF T (ns 0) R P W) := fun hq h1 => prF_s hq h1
  have HOK : Hid (wtE L ns W T = 0 → L ≤ 5 ∧ L = T + 1 ∧ 0 < ns 0 ∧ ns 0 ≤ 4 ∧ (∀ i, i < L → ns i = ns 0) ∧ ∀ i k, i < L → k < ns 0 → 1 ≤ W i k ∧ W i k ≤ 1000) := fun hq => wtE_ok hq
  clear h hS hb1 hw1 hsz hns hL hT hR hrn c2 c3 c4 c5
  generalize prF L ns W T R rn P = PF at *
  go_enter Tryz.func11, Tryz.ntmps11
  go_upto_region 1 with fail
  rw [← HW1.out]
  have HG5 : Hid (lgB L ns 0 = decide (5 < (L : Int))) := by
    show (decide (5 < L) || false) = _
    rw [Bool.or_false]
    by_cases h5 : 5 < L
    · rw [decide_eq_true h5, decide_eq_true (by omega)]
    · rw [decide_eq_false h5, decide_eq_false (by omega)]
  obtain ⟨s0, hs0⟩ : ∃ s0, s0 = shB L T ns W 0 := ⟨_, rfl⟩
  have HS0 := Hid.mk' hs0
  have HSE : Hid (shB L T ns W 0 = decide (L ≠ T + 1)) := by show (_ || false) = _; rw [Bool.or_false]
  clear hs0
  go_upto_region 2 with fail
  go_cut [4] from 16 (fun s wx => s = .bool s0 ∧ wx = w1)
  case first =>
    by_cases hz : L = 0
    · have hzI : ((L : Int) == 0) = true := by rw [beq_iff_eq]; omega
      have hs : s0 = true := by rw [HS0.out, HSE.out, decide_eq_true (by omega)]
      subst hs
      clear hz
      go_wp2_with fail
      go_meet
      exact ⟨rfl, rfl⟩
    · have hzI : ((L : Int) == 0) = false := by rw [beq_eq_false_iff_ne]; omega
      have hs : s0 = ((T : Int) + 1 != (L : Int)) := by
        rw [HS0.out, HSE.out]
        by_cases h5 : L = T + 1
        · rw [decide_eq_false (by omega)]; symm; rw [bne_eq_false_iff_eq]; omega
        · rw [decide_eq_true h5]; symm; rw [bne_iff_ne]; omega
      have HQ := Hid.mk' hs
      clear hz hs
      go_wp2_with fail
      go_meet
      exact ⟨by rw [HQ.out], rfl⟩
  case rest =>
  obtain ⟨rfl, hwc⟩ := hcut
  rw [hwc]
  clear hwc
  go_wp2_with fail
  clear c0 c1
  go_loopw [3, 4, 5] (fun a s t wr => ∃ i : Nat, i ≤ L ∧ t = .int .i64 i ∧ Hid (a = .bool (lgB L ns i)) ∧ Hid (s = .bool (shB L T ns W i)) ∧ Hid (Below w1.heap.size w1 wr)) (fun _ _ t _ => L - (intOf t).toNat)
  case atStart => exact ⟨0, Nat.zero_le _, rfl, by rw [HG5.out]; exact rfl, by rw [← HS0.out]; exact rfl, Below.refl _ _⟩
  case round =>
    obtain ⟨i, hi, rfl, HLG, HSH, HB⟩ := hrel
    obtain ⟨⟨c0, c1⟩, _⟩ := HC.out wr HB.out
    obtain ⟨lg, hlg⟩ : ∃ lg, lg = lgB L ns i := ⟨_, rfl⟩
    obtain ⟨sh, hsh⟩ : ∃ sh, sh = shB L T ns W i := ⟨_, rfl⟩
    have h3 := HLG.out
    have h4 := HSH.out
    rw [← hlg] at h3
    rw [← hsh] at h4
    have HLE := Hid.mk' hlg
    have HSF := Hid.mk' hsh
    clear HLG HSH hlg hsh
    subst h3
    subst h4
    rcases Nat.lt_or_ge i L with h1 | h1
    · have hiI : (i : Int) < (L : Int) := by omega
      have hi0 : (0 : Int) ≤ (i : Int) := by omega
      have hL0 : (0 : Int) < (L : Int) := by omega
      obtain ⟨b, o, cap', hve, hrows⟩ := tab_of (HTA.out wr HB.out) (by omega)
      simp only [Value.slice.injEq, true_and] at hve
      obtain ⟨rfl, rfl⟩ := hve
      obtain ⟨hcell, hnum⟩ := hrows i h1
      obtain ⟨hcell0, hnum0⟩ := hrows 0 (by omega)
      obtain ⟨ra, rc, hre⟩ := hnum.form
      obtain ⟨r0a, r0c, hr0e⟩ := hnum0.form
      rw [hre] at hcell
      rw [hr0e, Nat.add_zero] at hcell0
      have hni := HNS.out i h1
      have hn0 := HNS.out 0 (by omega)
      have HNU := Hid.mk' hnum
      rw [hre] at HNU
      have hniI : ((ns i : Nat) : Int) ≤ 1000000 := by omega
      have hn0I : ((ns 0 : Nat) : Int) ≤ 1000000 := by omega
      have HLN := Hid.mk' (lgB_next L ns i)
      have HSN := Hid.mk' (shB_next L T ns W i)
      rw [← HLE.out] at HLN
      rw [← HSF.out] at HSN
      have HDE : Hid (∀ k, anyB (fun k => noW (W i k)) k = noWs (W i) k) := fun k => rfl
      have HBR : Hid (badR (ns 0) (ns i) (W i) = (decide (ns i = 0) || (decide (ns i ≠ ns 0) || noWs (W i) (ns i)))) := rfl
      clear hrows hnum hnum0 hre hr0e HLE HSF
      obtain ⟨lg1, hlg1⟩ : ∃ lg1, lg1 = (lg || decide (4 < ns i)) := ⟨_, rfl⟩
      have HL1 := Hid.mk' hlg1
      rw [← hlg1] at HLN
      clear hlg1
      generalize hnie : ns i = nI at *
      generalize hn0e : ns 0 = n0 at *
      clear hnie hn0e
      go_upto_region 6 with fail
      go_cut [3] from 37 to 46 (fun s wx => s = .bool lg1 ∧ wx = wr)
      case first =>
        cases lg with
        | true =>
          have hq : lg1 = true := HL1.out
          subst hq
          go_wp2_with fail
          go_meet
          exact ⟨rfl, rfl⟩
        | false =>
          have hq : lg1 = decide (4 < (nI : Int)) := by
            rw [HL1.out, Bool.false_or]
            by_cases h5 : 4 < nI
            · rw [decide_eq_true h5, decide_eq_true (by omega)]
            · rw [decide_eq_false h5, decide_eq_false (by omega)]
          have HQ := Hid.mk' hq
          clear hq
          go_wp2_with fail
          go_meet
          exact ⟨by rw [HQ.out], rfl⟩
      case rest =>
      obtain ⟨rfl, hwc⟩ := hcut
      rw [hwc]
      clear hwc HL1
      obtain ⟨sh1, hsh1⟩ : ∃ sh1, sh1 = (sh || (decide (nI = 0) || decide (nI ≠ n0))) := ⟨_, rfl⟩
      have HS1 := Hid.mk' hsh1
      clear hsh1
      go_upto_region 7 with fail
      go_cut [4] from 47 to 70 (fun s wx => s = .bool sh1 ∧ Hid (Below wr.heap.size wr wx))
      case first =>
        cases sh with
        | true =>
          have hq : sh1 = true := HS1.out
          subst hq
          go_wp2_with fail
          go_quiet (fail)
          go_wp2_with fail
          go_meet
          exact ⟨rfl, below_drewsN (Below.refl _ _) _⟩
        | false =>
          by_cases hz : nI = 0
          · have hzI : ((nI : Int) == 0) = true := by rw [beq_iff_eq]; omega
            have hq : sh1 = true := by rw [HS1.out, decide_eq_true hz]; rfl
            subst hq
            clear hz
            go_wp2_with fail
            go_quiet (fail)
            go_wp2_with fail
            go_meet
            exact ⟨rfl, below_drewsN (Below.refl _ _) _⟩
          · have hzI : ((nI : Int) == 0) = false := by rw [beq_eq_false_iff_ne]; omega
            have hq : ((nI : Int) != (n0 : Int)) = sh1 := by
              rw [HS1.out, decide_eq_false hz]
              by_cases h5 : nI = n0
              · rw [decide_eq_false (by omega)]; rw [show (false || (false || false)) = false from rfl, bne_eq_false_iff_eq]; omega
              · rw [decide_eq_true h5]; rw [show (false || (false || true)) = true from rfl, bne_iff_ne]; omega
            clear hz
            go_wp2_with fail
            go_quiet (fail)
            go_wp2_with fail
            go_meet
            exact ⟨rfl, below_drewsN (Below.refl _ _) _⟩
      case rest =>
      obtain ⟨rfl, HBX⟩ := hcut
      have HB7 := Hid.mk' (below_chain HB.out HBX.out)
      have HCI : Hid (∀ W', Below wr.heap.size wr W' → W'.cell? ⟨b, o + i, none⟩ = some (.slice ra nI rc) ∧ NumsAt W' (.slice ra nI rc) nI (W i) ∧ W'.cell? ⟨w.heap.size, 0, none⟩ = some (.slice (some ⟨b, o, none⟩) L cap)) := fun W' hb => ⟨by rw [hb.cell (cell_lt hcell)]; exact hcell, HNU.out.later hb, (HC.out W' (below_chain HB.out hb)).1.1⟩
      have HSX : Hid (shB L T ns W (i + 1) = (sh1 || noWs (W i) nI)) := by
        show _ = _
        rw [HSN.out, HBR.out, HS1.out, ← Bool.or_assoc, ← Bool.or_assoc, ← Bool.or_assoc]
      clear hcell hcell0 HNU HSN HBR HS1
      obtain ⟨wb, hwb⟩ : ∃ wb, wb = wr := ⟨_, rfl⟩
      rw [← hwb] at HCI HBX
      clear hwb HB c0 c1
      go_wp2_with fail
      go_loopw [4, 6] (fun s t wr => ∃ k : Nat, k ≤ nI ∧ t = .int .i64 k ∧ Hid (s = .bool (sh1 || noWs (W i) k)) ∧ Hid (Below wb.heap.size wb wr) ∧ Hid (Below w1.heap.size w1 wr)) (fun _ t _ => nI - (intOf t).toNat)
      case atStart => exact ⟨0, Nat.zero_le _, rfl, by show _ = _; rw [show noWs (W i) 0 = false from rfl, Bool.or_false], HBX, HB7⟩
      case round =>
        clear HBX HB7
        obtain ⟨k, hk, rfl, HSV, HBX, HB⟩ := hrel
        obtain ⟨e0, hnum, e1⟩ := HCI.out wr HBX.out
        obtain ⟨sk, hsk⟩ : ∃ sk, sk = (sh1 || noWs (W i) k) := ⟨_, rfl⟩
        have h4 := HSV.out
        rw [← hsk] at h4
        have HSK := Hid.mk' hsk
        clear hsk HSV
        subst h4
        rcases Nat.lt_or_ge k nI with h2 | h2
        · have hkI : (k : Int) < (nI : Int) := by omega
          have hk0 : (0 : Int) ≤ (k : Int) := by omega
          obtain ⟨qb, qo, qc, hqe, hq⟩ := row_of hnum (by omega)
          simp only [Value.slice.injEq, true_and] at hqe
          obtain ⟨rfl, rfl⟩ := hqe
          have e2 := hq k h2
          have HNX : Hid ((sh1 || noWs (W i) (k + 1)) = (sk || noW (W i k))) := by show (sh1 || (noWs (W i) k || noW (W i k))) = _; rw [HSK.out, Bool.or_assoc]
          have HNW : Hid (noW (W i k) = (decide (W i k < 1) || decide (1000 < W i k))) := rfl
          clear hnum hq HSK
          generalize W i k = x at *
          cases sk with
          | true =>
            have HF : Hid (Value.bool true = .bool (sh1 || noWs (W i) (k + 1))) := by show _ = _; rw [HNX.out]; rfl
            go_wp2_with fail
            exact ⟨⟨k + 1, h2, by go_num, HF, HBX, HB⟩, by simp [intOf]; omega⟩
          | false =>
            by_cases hx : x < 1
            · have hxd : decide (x < 1) = true := decide_eq_true hx
              have HF : Hid (Value.bool true = .bool (sh1 || noWs (W i) (k + 1))) := by show _ = _; rw [HNX.out, HNW.out, hxd]; rfl
              clear hx
              go_wp2_with fail
              exact ⟨⟨k + 1, h2, by go_num, HF, HBX, HB⟩, by simp [intOf]; omega⟩
            · have hxd : decide (x < 1) = false := decide_eq_false hx
              have HF : Hid (Value.bool (decide (1000 < x)) = .bool (sh1 || noWs (W i) (k + 1))) := by show _ = _; rw [HNX.out, HNW.out, hxd]; rfl
              clear hx
              go_wp2_with fail
              exact ⟨⟨k + 1, h2, by go_num, HF, HBX, HB⟩, by simp [intOf]; omega⟩
        · obtain rfl : k = nI := by omega
          have hkI : ¬ ((k : Int) < (k : Int)) := by omega
          have HF1 : Hid (Value.bool lg1 = .bool (lgB L ns (i + 1))) := by show _ = _; rw [HLN.out]
          have HF2 : Hid (Value.bool sk = .bool (shB L T ns W (i + 1))) := by show _ = _; rw [HSX.out, HSK.out]
          go_wp2_with fail
          exact ⟨⟨i + 1, h1, by go_num, HF1, HF2, HB⟩, by simp [intOf]; omega⟩
    · obtain rfl : i = L := by omega
      have hiI : ¬ ((i : Int) < (i : Int)) := by omega
      rw [← HLE.out, ← HSF.out] at HWE
      clear HLE HSF
      cases lg with
      | true =>
        have hwe : wtE i ns W T = 2 := by rw [HWE.out]; rfl
        have HF : Hid (PF = (2, -1)) := by show _ = _; rw [HPW.out (by rw [hwe]; decide), hwe]
        clear hwe HPC HPS HOK HPW HWE
        obtain ⟨_, ⟨d2, d3⟩, d4, d5⟩ := HC.out _ HB.out
        have HBE : Hid (Below w.heap.size w ((wr.setCell ⟨w.heap.size + 1, 0, none⟩ (.int .i64 (2))).setCell ⟨w.heap.size + 1, 1, none⟩ (.int .i64 (-1)))) := ((HEND.out _ HB.out).setCell (by simp) _).setCell (by simp) _
        have HG := Hid.mk' (put_two (.int .i64 (2)) (.int .i64 (-1)) d2 d3)
        obtain ⟨q0, _, _⟩ := HG.out
        go_wp2_with fail
        generalize (wr.setCell ⟨w.heap.size + 1, 0, none⟩ (.int .i64 (2))).setCell ⟨w.heap.size + 1, 1, none⟩ (.int .i64 (-1)) = W9 at *
        exact bodyPost_ret (v := .agg #[.int .i64 (2), .int .i64 (-1)]) (by simp [results, Tryz.results11, go_sem, HG.out.2.1, HG.out.2.2]) rfl ⟨by first | (rw [HF.out]; done) | (rw [HF.out]; rfl), HBE.out⟩
      | false =>
        cases sh with
        | true =>
          have hwe : wtE i ns W T = 3 := by rw [HWE.out]; rfl
          have HF : Hid (PF = (3, -1)) := by show _ = _; rw [HPW.out (by rw [hwe]; decide), hwe]
          clear hwe HPC HPS HOK HPW HWE
          obtain ⟨_, ⟨d2, d3⟩, d4, d5⟩ := HC.out _ HB.out
          have HBE : Hid (Below w.heap.size w ((wr.setCell ⟨w.heap.size + 1, 0, none⟩ (.int .i64 (3))).setCell ⟨w.heap.size + 1, 1, none⟩ (.int .i64 (-1)))) := ((HEND.out _ HB.out).setCell (by simp) _).setCell (by simp) _
          have HG := Hid.mk' (put_two (.int .i64 (3)) (.int .i64 (-1)) d2 d3)
          obtain ⟨q0, _, _⟩ := HG.out
          go_wp2_with fail
          generalize (wr.setCell ⟨w.heap.size + 1, 0, none⟩ (.int .i64 (3))).setCell ⟨w.heap.size + 1, 1, none⟩ (.int .i64 (-1)) = W9 at *
          exact bodyPost_ret (v := .agg #[.int .i64 (3), .int .i64 (-1)]) (by simp [results, Tryz.results11, go_sem, HG.out.2.1, HG.out.2.2]) rfl ⟨by first | (rw [HF.out]; done) | (rw [HF.out]; rfl), HBE.out⟩
        | false =>
          have hwe : wtE i ns W T = 0 := by rw [HWE.out]; rfl
          have HPC0 := Hid.mk' (HPC.out hwe)
          have HPS0 := Hid.mk' (HPS.out hwe)
          obtain ⟨a1, a2, a3, a4, a5, a6⟩ := HOK.out hwe
          have HA : Hid (i = T + 1 ∧ 0 < ns 0 ∧ ns 0 ≤ 4 ∧ (∀ j, j < i → ns j = ns 0) ∧ ∀ j k, j < i → k < ns 0 → 1 ≤ W j k ∧ W j k ≤ 1000) := ⟨a2, a3, a4, a5, a6⟩
          have hLa : T + 1 ≤ i := by omega
          have hLb : i ≤ T + 1 := by omega
          clear hwe HPC HPS HOK HPW HWE a1 a2 a3 a4 a5 a6
          obtain ⟨w2, hw2⟩ : ∃ w2, w2 = wr := ⟨_, rfl⟩
          rw [← hw2] at HB c0 c1 ⊢
          clear hw2
          go_wp2_with fail
          clear c0 c1
          go_loopw [7] (fun t wr => ∃ k : Nat, k ≤ T ∧ t = .int .i64 k ∧ Hid (∀ j, j < k → chainErr (R j) (rn j) (P j) = 0) ∧ wr = w2) (fun t _ => T - (intOf t).toNat)
          case atStart => exact ⟨0, Nat.zero_le _, rfl, (fun j hj => by omega), rfl⟩
          case round =>
            obtain ⟨k, hk, rfl, HS, hwr⟩ := hrel
            rw [hwr]
            clear hwr
            obtain ⟨⟨c0, c1⟩, _⟩ := HC.out w2 HB.out
            rcases Nat.lt_or_ge k T with h2 | h2
            · have hkI : (k : Int) < (T : Int) := by omega
              have hk0 : (0 : Int) ≤ (k : Int) := by omega
              obtain ⟨sb, so, rfl, hst⟩ := (HST.out w2 HB.out).at h2
              obtain ⟨hcell, htab⟩ := hst k h2
              obtain ⟨rad, rcap, hre⟩ := htab.form
              have HCV := Hid.mk' (ChainError_any (tv k) (R k) (rv k) (rn k) (P k) w2 htab (HRB.out k h2) (fun j hj => HRN.out k j h2 hj))
              rw [hre] at hcell HCV
              have HBAD := Hid.mk' (HPC0.out k h2 HS.out)
              have HNX : Hid (chainErr (R k) (rn k) (P k) = 0 → ∀ j, j < k + 1 → chainErr (R j) (rn j) (P j) = 0) := fun hq j hj => by
                rcases Nat.lt_or_ge j k with h5 | h5
                · exact HS.out j h5
                · obtain rfl : j = k := by omega
                  exact hq
              have hle := chainErr_le (R k) (rn k) (P k)
              clear hst htab hre
              generalize chainErr (R k) (rn k) (P k) = CE at HCV HBAD HNX hle
              by_cases hq : CE = 0
              · subst hq
                have HF := Hid.mk' (HNX.out rfl)
                go_wp2_with fail
                refine HCV.out.mono ?_
                rintro e w3 ⟨rfl, hw3⟩
                rw [hw3]
                clear hw3 HCV
                go_wp2_with fail
                exact ⟨⟨k + 1, h2, by go_num, HF, trivial⟩, by simp [intOf]; omega⟩
              · have HF := Hid.mk' (HBAD.out hq)
                have hpos : (0 : Int) < (CE : Int) := by omega
                have hleI : (CE : Int) ≤ 3 := by omega
                clear hq hle
                go_wp2_with fail
                refine HCV.out.mono ?_
                rintro e w3 ⟨rfl, hw3⟩
                rw [hw3]
                clear hw3 HCV
                obtain ⟨_, ⟨d2, d3⟩, d4, d5⟩ := HC.out _ HB.out
                have HBE : Hid (Below w.heap.size w ((w2.setCell ⟨w.heap.size + 1, 0, none⟩ (.int .i64 ((CE : Int)))).setCell ⟨w.heap.size + 1, 1, none⟩ (.int .i64 (-1)))) := ((HEND.out _ HB.out).setCell (by simp) _).setCell (by simp) _
                have HG := Hid.mk' (put_two (.int .i64 ((CE : Int))) (.int .i64 (-1)) d2 d3)
                obtain ⟨q0, _, _⟩ := HG.out
                go_wp2_with fail
                generalize (w2.setCell ⟨w.heap.size + 1, 0, none⟩ (.int .i64 ((CE : Int)))).setCell ⟨w.heap.size + 1, 1, none⟩ (.int .i64 (-1)) = W9 at *
                exact bodyPost_ret (v := .agg #[.int .i64 ((CE : Int)), .int .i64 (-1)]) (by simp [results, Tryz.results11, go_sem, HG.out.2.1, HG.out.2.2]) rfl ⟨by first | (rw [HF.out]; done) | (rw [HF.out]; rfl), HBE.out⟩
            · obtain rfl : k = T := by omega
              have hkI : ¬ ((k : Int) < (k : Int)) := by omega
              have HPF := Hid.mk' (HPS0.out HS.out)
              obtain ⟨b, o, cap', hve, hrows⟩ := tab_of (HTA.out w2 HB.out) (by omega)
              simp only [Value.slice.injEq, true_and] at hve
              obtain ⟨rfl, rfl⟩ := hve
              have HRW : Hid (∀ W', Below w2.heap.size w2 W' → ∀ j, j < i → W'.cell? ⟨b, o + j, none⟩ = some (vs j) ∧ NumsAt W' (vs j) (ns j) (W j)) := fun W' hb j hj => ⟨by rw [hb.cell (cell_lt (hrows j hj).1)]; exact (hrows j hj).1, (hrows j hj).2.later hb⟩
              obtain ⟨r0a, r0c, hr0e⟩ := (hrows 0 (by omega)).2.form
              have HN0 := HA.out.2.1
              have HN4 := HA.out.2.2.1
              have hn0I : ((ns 0 : Nat) : Int) ≤ 4 := by omega
              have HSHP : Hid (∀ t, t < k → (∀ j, j < t → R j = ns 0) → R t ≠ ns 0 → PF = (3, (t : Int))) := fun t ht h3 h4 => by rw [HPF.out]; exact spF_shape ht h3 h4
              have HKND : Hid ((∀ j, j < k → R j = ns 0) → ∀ t, t < k → (∀ j, j < t → unK (W (j + 1)) (P j) (ns 0) = false) → unK (W (t + 1)) (P t) (ns 0) = true → PF = (8, (t : Int))) := fun h3 t ht h4 h5 => by rw [HPF.out]; exact spF_kind h3 ht h4 h5
              have HNON : Hid ((∀ j, j < k → R j = ns 0) → (∀ j, j < k → unK (W (j + 1)) (P j) (ns 0) = false) → PF = (0, -1)) := fun h3 h4 => by rw [HPF.out]; exact spF_none h3 h4
              have HC0 : Hid (∀ W', Below w2.heap.size w2 W' → W'.cell? ⟨b, o + 0, none⟩ = some (.slice r0a (ns 0) r0c)) := fun W' hb => by rw [← hr0e]; exact (HRW.out W' hb 0 (by omega)).1
              have hiL : (0 : Int) < (i : Int) := by omega
              clear hrows hr0e HPF HPS0 HPC0
              generalize hn0e : ns 0 = n0 at *
              have HNE := Hid.mk' hn0e
              clear hn0e
              go_wp2_with fail
              clear c0 c1
              go_loopw [9] (fun t wr => ∃ t' : Nat, t' ≤ k ∧ t = .int .i64 t' ∧ Hid (∀ j, j < t' → R j = n0) ∧ Hid (Below w2.heap.size w2 wr)) (fun t _ => k - (intOf t).toNat)
              case atStart => exact ⟨0, Nat.zero_le _, rfl, (fun j hj => by omega), Below.refl _ _⟩
              case round =>
                obtain ⟨t, ht, rfl, HRT, HB2⟩ := hrel
                have HBW := Hid.mk' (below_chain HB.out HB2.out)
                obtain ⟨⟨c0, c1⟩, _⟩ := HC.out wr HBW.out
                rcases Nat.lt_or_ge t k with h3 | h3
                · have htI : (t : Int) < (k : Int) := by omega
                  have ht0 : (0 : Int) ≤ (t : Int) := by omega
                  obtain ⟨sb, so, rfl, hst⟩ := (HST.out wr HBW.out).at h3
                  obtain ⟨hcell, htab⟩ := hst t h3
                  obtain ⟨rad, rcap, hre⟩ := htab.form
                  rw [hre] at hcell
                  have d0 := HC0.out wr HB2.out
                  rw [Nat.add_zero] at d0
                  have hR8 : R t ≤ 8 := (chainErr_ok (HS.out t h3)).2.1
                  have hR8I : ((R t : Nat) : Int) ≤ 8 := by omega
                  have HSK := Hid.mk' (HSHP.out t h3 HRT.out)
                  have HNX : Hid (R t = n0 → ∀ j, j < t + 1 → R j = n0) := fun hq j hj => by
                    rcases Nat.lt_or_ge j t with h5 | h5
                    · exact HRT.out j h5
                    · obtain rfl : j = t := by omega
                      exact hq
                  clear hst htab hre
                  generalize R t = Rt at *
                  by_cases hq : Rt = n0
                  · have hne : ((Rt : Int) != (n0 : Int)) = false := by rw [bne_eq_false_iff_eq]; omega
                    have HF := Hid.mk' (HNX.out hq)
                    clear hq
                    go_wp2_with fail
                    go_quiet (fail)
                    go_wp2_with fail
                    exact ⟨⟨t + 1, h3, by go_num, HF, below_drewsN HB2.out _⟩, by simp [intOf]; omega⟩
                  · have hne : ((Rt : Int) != (n0 : Int)) = true := by rw [bne_iff_ne]; omega
                    have HF := Hid.mk' (HSK.out hq)
                    clear hq
                    go_upto_region 25 with fail
                    have hiN : 0 < i := by omega
                    have hcur : (wr.drew.cell? ⟨w.heap.size, 0, none⟩ = some (.slice (some ⟨b, o, none⟩) i cap) ∧ wr.drew.cell? ⟨w.heap.size, 1, none⟩ = some (.slice (some ⟨sb, so, none⟩) k sc)) ∧ wr.drew.cell? ⟨sb, so + t, none⟩ = some (.slice rad Rt rcap) ∧ wr.drew.cell? ⟨b, o, none⟩ = some (.slice r0a n0 r0c) := ⟨⟨c0, c1⟩, hcell, d0⟩
                    clear c0 c1 d0 hcell
                    go_region_held3 (fun W' => (W'.cell? ⟨w.heap.size, 0, none⟩ = some (.slice (some ⟨b, o, none⟩) i cap) ∧ W'.cell? ⟨w.heap.size, 1, none⟩ = some (.slice (some ⟨sb, so, none⟩) k sc)) ∧ W'.cell? ⟨sb, so + t, none⟩ = some (.slice rad Rt rcap) ∧ W'.cell? ⟨b, o, none⟩ = some (.slice r0a n0 r0c)) (exact hcur) (fail)
                    obtain ⟨wq, hwq⟩ : ∃ wq, wq = wr.drew := ⟨_, rfl⟩
                    have HBQ : Hid (Below w1.heap.size w1 wq) := by rw [hwq]; exact HBW.out.drew
                    rw [← hwq]
                    clear hwq hcur
                    obtain ⟨_, ⟨d2, d3⟩, d4, d5⟩ := HC.out _ HBQ.out
                    have HBE : Hid (Below w.heap.size w ((wq.setCell ⟨w.heap.size + 1, 0, none⟩ (.int .i64 (3))).setCell ⟨w.heap.size + 1, 1, none⟩ (.int .i64 ((t : Int))))) := ((HEND.out _ HBQ.out).setCell (by simp) _).setCell (by simp) _
                    have HG := Hid.mk' (put_two (.int .i64 (3)) (.int .i64 ((t : Int))) d2 d3)
                    obtain ⟨q0, _, _⟩ := HG.out
                    go_wp2_with fail
                    generalize (wq.setCell ⟨w.heap.size + 1, 0, none⟩ (.int .i64 (3))).setCell ⟨w.heap.size + 1, 1, none⟩ (.int .i64 ((t : Int))) = W9 at *
                    exact bodyPost_ret (v := .agg #[.int .i64 (3), .int .i64 ((t : Int))]) (by simp [results, Tryz.results11, go_sem, HG.out.2.1, HG.out.2.2]) rfl ⟨by first | (rw [HF.out]; done) | (rw [HF.out]; rfl), HBE.out⟩
                · obtain rfl : t = k := by omega
                  have htI : ¬ ((t : Int) < (t : Int)) := by omega
                  have HKN := Hid.mk' (HKND.out HRT.out)
                  have HNN := Hid.mk' (HNON.out HRT.out)
                  clear HSHP HKND HNON
                  obtain ⟨w3, hw3⟩ : ∃ w3, w3 = wr := ⟨_, rfl⟩
                  rw [← hw3] at HB2 HBW c0 c1 ⊢
                  clear hw3
                  go_wp2_with fail
                  clear c0 c1
                  go_loopw [10] (fun s wr => ∃ t' : Nat, t' ≤ t ∧ s = .int .i64 t' ∧ Hid (∀ j, j < t' → unK (W (j + 1)) (P j) n0 = false) ∧ Hid (Below w3.heap.size w3 wr)) (fun s _ => t - (intOf s).toNat)
                  case atStart => exact ⟨0, Nat.zero_le _, rfl, (fun j hj => by omega), Below.refl _ _⟩
                  case round =>
                    obtain ⟨j, hj, rfl, HU, HB3⟩ := hrel
                    have HBZ := Hid.mk' (below_chain HBW.out HB3.out)
                    obtain ⟨⟨c0, c1⟩, _⟩ := HC.out wr HBZ.out
                    rcases Nat.lt_or_ge j t with h4 | h4
                    · have hjI : (j : Int) < (t : Int) := by omega
                      have hj0 : (0 : Int) ≤ (j : Int) := by omega
                      have hjw : IntKind.i64.wrap ((j : Int) + 1) = (j : Int) + 1 := by rw [IntKind.wrap_i64]; omega
                      have hjp : (0 : Int) ≤ (j : Int) + 1 := by omega
                      have hjn : ((j : Int) + 1).toNat = j + 1 := by omega
                      have hjL : (j : Int) + 1 < (i : Int) := by omega
                      obtain ⟨sb, so, rfl, hst⟩ := (HST.out w1 (Below.refl _ _)).at h4
                      obtain ⟨hcell, htab⟩ := hst j h4
                      obtain ⟨rad, rcap, hre⟩ := htab.form
                      have HCL : Hid (∀ W', Below w1.heap.size w1 W' → W'.cell? ⟨sb, so + j, none⟩ = some (tv j) ∧ TabAt W' (tv j) (R j) (rv j) (rn j) (P j)) := fun W' hb => ⟨by rw [hb.cell (cell_lt hcell)]; exact hcell, htab.later hb⟩
                      obtain ⟨qa, qc, hqe⟩ := (HRW.out w2 (Below.refl _ _) (j + 1) (by omega)).2.form
                      obtain ⟨x1, x2, x3, x4⟩ := chainErr_ok (HS.out j h4)
                      have hRj := HRT.out j h4
                      rw [hRj] at x3 x4 hre HCL
                      have hnj := HA.out.2.2.2.1 (j + 1) (by omega)
                      have HIE : Hid (∀ W', Below wr.heap.size wr W' → Calls Tryz.prog 30 #[tv j, vs (j + 1)] W' fun e w' => e = .returned (.bool (!unK (W (j + 1)) (P j) n0)) ∧ Below W'.heap.size W' w') := fun W' hb => by
                        have hnu := (HRW.out W' (below_chain HB2.out (below_chain HB3.out hb)) (j + 1) (by omega)).2
                        rw [hnj] at hnu
                        exact isEven_any (tv j) (vs (j + 1)) n0 (rv j) (rn j) (P j) (W (j + 1)) W' (HCL.out W' (below_chain HBZ.out hb)).2 hnu HN0 (by omega) x3 x4 (fun k' hk' => HA.out.2.2.2.2 (j + 1) k' (by omega) hk')
                      have HKS : Hid (∀ W', Below wr.heap.size wr W' → (W'.cell? ⟨w.heap.size, 0, none⟩ = some (.slice (some ⟨b, o, none⟩) i cap) ∧ W'.cell? ⟨w.heap.size, 1, none⟩ = some (.slice (some ⟨sb, so, none⟩) t sc)) ∧ W'.cell? ⟨sb, so + j, none⟩ = some (tv j) ∧ W'.cell? ⟨b, o + (j + 1), none⟩ = some (vs (j + 1))) := fun W' hb => ⟨(HC.out W' (below_chain HBZ.out hb)).1, (HCL.out W' (below_chain HBZ.out hb)).1, (HRW.out W' (below_chain HB2.out (below_chain HB3.out hb)) (j + 1) (by omega)).1⟩
                      rw [hre, hqe] at HIE HKS
                      have HKB := Hid.mk' (HKN.out j h4 HU.out)
                      have HNX : Hid (unK (W (j + 1)) (P j) n0 = false → ∀ j', j' < j + 1 → unK (W (j' + 1)) (P j') n0 = false) := fun hq j' hj' => by
                        rcases Nat.lt_or_ge j' j with h5 | h5
                        · exact HU.out j' h5
                        · obtain rfl : j' = j := by omega
                          exact hq
                      have hcur : Below wr.heap.size wr wr.drew := (Below.refl _ _).drew
                      have hcur0 : Below wr.heap.size wr wr := Below.refl _ _
                      clear hst hcell htab hre hqe x1 x2 x3 x4 hRj hnj HCL
                      generalize unK (W (j + 1)) (P j) n0 = UK at HIE HKB HNX
                      go_upto_region 30 with fail
                      clear c0 c1
                      go_region_held3 (fun W' => (W'.cell? ⟨w.heap.size, 0, none⟩ = some (.slice (some ⟨b, o, none⟩) i cap) ∧ W'.cell? ⟨w.heap.size, 1, none⟩ = some (.slice (some ⟨sb, so, none⟩) t sc)) ∧ W'.cell? ⟨sb, so + j, none⟩ = some (.slice rad n0 rcap) ∧ W'.cell? ⟨b, o + (j + 1), none⟩ = some (.slice qa (ns (j + 1)) qc))
                        (first | exact HKS.out _ hcur | exact HKS.out _ hcur5 | exact HKS.out _ hcur0)
                        (first
                          | (go_at_call 30; refine (HIE.out _ hcur).mono ?_; rintro e w5 ⟨rfl, hb5⟩; have hcur5 := below_chain hcur hb5; clear hb5))
                      have HB5 := Hid.mk' (below_chain HBZ.out hcur5)
                      have HB53 := Hid.mk' (below_chain HB3.out hcur5)
                      clear hcur hcur0 hcur5 HIE HKS
                      cases UK with
                      | false =>
                        have HF := Hid.mk' (HNX.out rfl)
                        go_wp2_with fail
                        exact ⟨⟨j + 1, h4, by go_num, HF, HB53⟩, by simp [intOf]; omega⟩
                      | true =>
                        have HF := Hid.mk' (HKB.out rfl)
                        obtain ⟨_, ⟨d2, d3⟩, d4, d5⟩ := HC.out _ HB5.out
                        have HBE : Hid (Below w.heap.size w ((w5.setCell ⟨w.heap.size + 1, 0, none⟩ (.int .i64 (8))).setCell ⟨w.heap.size + 1, 1, none⟩ (.int .i64 ((j : Int))))) := ((HEND.out _ HB5.out).setCell (by simp) _).setCell (by simp) _
                        have HG := Hid.mk' (put_two (.int .i64 (8)) (.int .i64 ((j : Int))) d2 d3)
                        obtain ⟨q0, _, _⟩ := HG.out
                        go_wp2_with fail
                        generalize (w5.setCell ⟨w.heap.size + 1, 0, none⟩ (.int .i64 (8))).setCell ⟨w.heap.size + 1, 1, none⟩ (.int .i64 ((j : Int))) = W9 at *
                        exact bodyPost_ret (v := .agg #[.int .i64 (8), .int .i64 ((j : Int))]) (by simp [results, Tryz.results11, go_sem, HG.out.2.1, HG.out.2.2]) rfl ⟨by first | (rw [HF.out]; done) | (rw [HF.out]; rfl), HBE.out⟩
                    · obtain rfl : j = t := by omega
                      have hjI : ¬ ((j : Int) < (j : Int)) := by omega
                      have HF := Hid.mk' (HNN.out HU.out)
                      obtain ⟨_, ⟨d2, d3⟩, d4, d5⟩ := HC.out _ HBZ.out
                      have HBE : Hid (Below w.heap.size w ((wr.setCell ⟨w.heap.size + 1, 0, none⟩ (.int .i64 (0))).setCell ⟨w.heap.size + 1, 1, none⟩ (.int .i64 (-1)))) := ((HEND.out _ HBZ.out).setCell (by simp) _).setCell (by simp) _
                      have HG := Hid.mk' (put_two (.int .i64 (0)) (.int .i64 (-1)) d2 d3)
                      obtain ⟨q0, _, _⟩ := HG.out
                      go_wp2_with fail
                      generalize (wr.setCell ⟨w.heap.size + 1, 0, none⟩ (.int .i64 (0))).setCell ⟨w.heap.size + 1, 1, none⟩ (.int .i64 (-1)) = W9 at *
                      exact bodyPost_ret (v := .agg #[.int .i64 (0), .int .i64 (-1)]) (by simp [results, Tryz.results11, go_sem, HG.out.2.1, HG.out.2.2]) rfl ⟨by first | (rw [HF.out]; done) | (rw [HF.out]; rfl), HBE.out⟩
end Go.Proofs.YthomgmhmbalnbaaGreatDoor

/- Errors with their places, held against a number and a place. -/
namespace Go.Proofs.YthomgmhmbalnbaaGreatDoor
open Go.RowKit

theorem Code_pl (a : Nat → Addr) (v : Value) (c : Nat × Int) (w : World) (hE : Errs w a) (h : ErrPl a w v c) :
    Calls Tryz.prog 24 #[v] w fun e w' => (∃ t, e = .returned (.tuple #[.int .i64 (c.1 : Int), .int .i64 t]) ∧ (c.1 ≠ 0 → t = c.2)) ∧ Below w.heap.size w w' := by
  rcases h with ⟨rfl, h2, h3⟩ | ⟨pb, rfl, h1, h2, h3, h4⟩
  · by_cases h0 : c.1 = 0
    · rw [h0, errV_zero]
      refine (code_nil w).mono ?_
      rintro e w' ⟨rfl, rfl⟩
      exact ⟨⟨-1, rfl, fun h => absurd rfl h⟩, Below.refl _ _⟩
    · rw [errV_pos a h0]
      have hk := hE.row (c.1 - 1) (by omega)
      refine (code_err a (a (c.1 - 1)) (c.1 - 1) (by omega) w hE hk (fun j hj => hE.ne (c.1 - 1) j (by omega) (by omega) (by omega)) (fun _ => rfl)).mono ?_
      rintro e w' ⟨rfl, hb⟩
      rw [codeOf_lt (by omega)]
      exact ⟨⟨-1, by rw [show ((c.1 - 1 : Nat) : Int) + 1 = (c.1 : Int) by omega], fun _ => h2.symm⟩, hb⟩
  · refine (code_fault a pb c.2 (c.1 - 1) (by omega) w hE (cell_lt h1) h1 h2).mono ?_
    rintro e w' ⟨rfl, hb⟩
    exact ⟨⟨c.2, by rw [show ((c.1 - 1 : Nat) : Int) + 1 = (c.1 : Int) by omega], fun _ => rfl⟩, hb⟩

set_option maxRecDepth 100000 in
theorem faulted_pl (a : Nat → Addr) (v : Value) (c : Nat × Int) (w : World) (hE : Errs w a) (h : ErrPl a w v c) :
    Calls Tryz.prog 8 #[v, .agg #[.int .i64 (c.1 : Int), .int .i64 c.2]] w fun e w' => e = .returned (.bool true) ∧ Below w.heap.size w w' := by
  obtain ⟨k, t⟩ := c
  have hb0 : Below w.heap.size w (w.alloc (.cells #[.int .i64 (k : Int), .int .i64 t] 35)) := (Below.refl _ _).alloc (Nat.le_refl _) _
  have hC := Code_pl a v (k, t) _ (hE.below hb0) (h.later hb0)
  have HB0 := Hid.mk' hb0
  clear h hE hb0
  have x0 : (w.alloc (.cells #[.int .i64 (k : Int), .int .i64 t] 35)).cell? ⟨w.heap.size, 0, none⟩ = some (.int .i64 (k : Int)) := by simp
  have x1 : (w.alloc (.cells #[.int .i64 (k : Int), .int .i64 t] 35)).cell? ⟨w.heap.size, 1, none⟩ = some (.int .i64 t) := by simp
  have hl : w.heap.size < (w.alloc (.cells #[.int .i64 (k : Int), .int .i64 t] 35)).heap.size := by simp
  go_enter Tryz.func8, Tryz.ntmps8
  go_wp2_with fail
  refine hC.mono ?_
  clear hC
  rintro e w1 ⟨⟨q, rfl, hq⟩, hb1⟩
  have y0 : w1.cell? ⟨w.heap.size, 0, none⟩ = some (.int .i64 (k : Int)) := by rw [hb1.cell (by exact hl)]; exact x0
  have y1 : w1.cell? ⟨w.heap.size, 1, none⟩ = some (.int .i64 t) := by rw [hb1.cell (by exact hl)]; exact x1
  have HB1 := Hid.mk' (below_chain HB0.out hb1)
  clear x0 x1 hb1 hl
  by_cases h0 : k = 0
  · subst h0
    go_wp2_with fail
    go_ret
    exact ⟨rfl, HB1.out⟩
  · obtain rfl : q = t := hq h0
    have hk0 : ((k : Int) == 0) = false := by simp; exact h0
    clear hq h0
    go_wp2_with fail
    go_ret
    exact ⟨rfl, HB1.out⟩
end Go.Proofs.YthomgmhmbalnbaaGreatDoor

/- Paths in whole numbers: the chance and the gain of one, forward and backward; CROOKS. -/
namespace Go.Proofs.YthomgmhmbalnbaaGreatDoor
open Go.RowKit

/-- The chance of the first t steps of a path: upper and lower number; its gain; backward. -/
def pcZ (W : Nat → Nat → Int) (P : Nat → Nat → Nat → Int) (x : Nat → Nat) : Nat → Nat
  | 0 => nU W 0 (x 0)
  | t + 1 => pcZ W P x t * nQ P t (x t) (x (t + 1))
def pcM (n : Nat) (W : Nat → Nat → Int) (P : Nat → Nat → Nat → Int) (x : Nat → Nat) : Nat → Nat
  | 0 => smU (nU W 0) n
  | t + 1 => pcM n W P x t * smU (nQ P t (x t)) n
def pgZ (W : Nat → Nat → Int) (x : Nat → Nat) : Nat → Nat
  | 0 => 1
  | t + 1 => pgZ W x t * nU W (t + 1) (x t)
def pgM (W : Nat → Nat → Int) (x : Nat → Nat) : Nat → Nat
  | 0 => 1
  | t + 1 => pgM W x t * nU W t (x t)
def pbZ (P : Nat → Nat → Nat → Int) (x : Nat → Nat) : Nat → Nat
  | 0 => 1
  | t + 1 => pbZ P x t * nQ P t (x (t + 1)) (x t)
def pbM (n : Nat) (P : Nat → Nat → Nat → Int) (x : Nat → Nat) : Nat → Nat
  | 0 => 1
  | t + 1 => pbM n P x t * smU (nQ P t (x (t + 1))) n
section
variable {L n : Nat} {ns : Nat → Nat} {W : Nat → Nat → Int} {T : Nat} {R : Nat → Nat} {rn : Nat → Nat → Nat} {P : Nat → Nat → Nat → Int}
theorem OkP.path_bd (h : OkP L n ns W T R rn P) {x : Nat → Nat} (hx : ∀ i, i < L → x i < n) : ∀ {t : Nat}, t ≤ T → pcZ W P x t ≤ 4096 ^ (t + 1) ∧ 0 < pcM n W P x t ∧ pcM n W P x t ≤ 4096 ^ (t + 1) ∧ pgZ W x t ≤ 4096 ^ t ∧ 0 < pgM W x t ∧ pgM W x t ≤ 4096 ^ t ∧ pbZ P x t ≤ 4096 ^ t ∧ 0 < pbM n P x t ∧ pbM n P x t ≤ 4096 ^ t
  | 0, _ => by
    have hL := h.hL
    have h1 := h.u_bd (t := 0) (by omega) (hx 0 (by omega))
    have h2 := h.s_bd (t := 0) (by omega)
    refine ⟨?_, h2.1, ?_, ?_, ?_, ?_, ?_, ?_, ?_⟩ <;> simp only [pcZ, pcM, pgZ, pgM, pbZ, pbM, Nat.pow_zero, Nat.zero_add, Nat.pow_one] <;> omega
  | t + 1, ht => by
    have hL := h.hL
    obtain ⟨a1, a2, a3, a4, a5, a6, a7, a8, a9⟩ := h.path_bd hx (t := t) (by omega)
    have k1 := hx t (by omega)
    have k2 := hx (t + 1) (by omega)
    have h1 := h.q_bd (t := t) (by omega) k1 k2
    have h1' := h.q_bd (t := t) (by omega) k2 k1
    have h2 := h.r_bd (t := t) (by omega) k1
    have h2' := h.r_bd (t := t) (by omega) k2
    have h3 := h.u_bd (t := t + 1) (by omega) k1
    have h4 := h.u_bd (t := t) (by omega) k1
    refine ⟨?_, Nat.mul_pos a2 h2.1, ?_, ?_, Nat.mul_pos a5 (by omega), ?_, ?_, Nat.mul_pos a8 h2'.1, ?_⟩
    · rw [pcZ, Nat.pow_succ]; exact Nat.mul_le_mul a1 h1
    · rw [pcM, Nat.pow_succ]; exact Nat.mul_le_mul a3 h2.2
    · rw [pgZ, Nat.pow_succ]; exact Nat.mul_le_mul a4 (by omega)
    · rw [pgM, Nat.pow_succ]; exact Nat.mul_le_mul a6 (by omega)
    · rw [pbZ, Nat.pow_succ]; exact Nat.mul_le_mul a7 h1'
    · rw [pbM, Nat.pow_succ]; exact Nat.mul_le_mul a9 h2'.2
theorem pow_five {t : Nat} (h : t ≤ 4) : 4096 ^ (t + 1) ≤ 1152921504606846976 := Nat.le_trans (Nat.pow_le_pow_right (by decide) (show t + 1 ≤ 5 by omega)) (by decide)
theorem pow_four {t : Nat} (h : t ≤ 4) : 4096 ^ t ≤ 281474976710656 := Nat.le_trans (Nat.pow_le_pow_right (by decide) h) (by decide)
/-- All that is asked of sizes. -/
theorem OkP.path_sml (h : OkP L n ns W T R rn P) {x : Nat → Nat} (hx : ∀ i, i < L → x i < n) {t : Nat} (ht : t ≤ T) : pcZ W P x t ≤ 1152921504606846976 ∧ 0 < pcM n W P x t ∧ pcM n W P x t ≤ 1152921504606846976 ∧ pgZ W x t ≤ 281474976710656 ∧ 0 < pgM W x t ∧ pgM W x t ≤ 281474976710656 ∧ pbZ P x t ≤ 281474976710656 ∧ 0 < pbM n P x t ∧ pbM n P x t ≤ 281474976710656 := by
  have hT := h.hT
  obtain ⟨a1, a2, a3, a4, a5, a6, a7, a8, a9⟩ := h.path_bd hx ht
  have p5 := pow_five (t := t) (by omega)
  have p4 := pow_four (t := t) (by omega)
  exact ⟨by omega, a2, by omega, by omega, a5, by omega, by omega, a8, by omega⟩
/-- CROOKS, step by step. -/
theorem OkP.crooks (h : OkP L n ns W T R rn P) {x : Nat → Nat} (hx : ∀ i, i < L → x i < n) : ∀ {t : Nat}, t ≤ T → pcZ W P x t * pgZ W x t * pbM n P x t * smU (nU W 0) n = nU W t (x t) * pbZ P x t * pcM n W P x t * pgM W x t
  | 0, _ => by simp only [pcZ, pcM, pgZ, pgM, pbZ, pbM, Nat.mul_one]
  | t + 1, ht => by
    have hL := h.hL
    have k1 := hx t (by omega)
    have k2 := hx (t + 1) (by omega)
    have ih := h.crooks hx (t := t) (by omega)
    have hb := h.balN (t := t) (by omega) (x t) (x (t + 1)) k1 k2
    simp only [pcZ, pcM, pgZ, pgM, pbZ, pbM]
    generalize pcZ W P x t = a at *
    generalize pgZ W x t = b at *
    generalize pbM n P x t = c at *
    generalize smU (nU W 0) n = d at *
    generalize nU W t (x t) = e at *
    generalize pbZ P x t = f at *
    generalize pcM n W P x t = g at *
    generalize pgM W x t = k at *
    generalize nQ P t (x t) (x (t + 1)) = q at *
    generalize nQ P t (x (t + 1)) (x t) = r at *
    generalize smU (nQ P t (x (t + 1))) n = s at *
    generalize smU (nQ P t (x t)) n = v at *
    generalize nU W (t + 1) (x t) = y at *
    generalize nU W (t + 1) (x (t + 1)) = z at *
    calc a * q * (b * y) * (c * s) * d = (a * b * c * d) * (y * q * s) := by grind
      _ = (e * f * g * k) * (z * r * v) := by rw [ih, hb]
      _ = z * (f * r) * (g * v) * (k * e) := by grind
end
end Go.Proofs.YthomgmhmbalnbaaGreatDoor

/- A fraction's box in the making: laid ahead of the calls that reckon what it holds, between them, or behind. -/
namespace Go.Proofs.YthomgmhmbalnbaaGreatDoor
open Go.RowKit

structure NBx (W0 W : World) (B : Nat) : Prop where
  box : RBox W B false none 0 0 none 0 0 0 0
  hB : W0.heap.size ≤ B
theorem NBx.later {W0 W W' : World} {B : Nat} (h : NBx W0 W B) (hb : Below W.heap.size W W') : NBx W0 W' B := ⟨h.box.later hb, h.hB⟩
theorem nbx_new {W0 W : World} (h : Below W0.heap.size W0 W) : NBx W0 (W.alloc (.cells #[.bool false, .slice none 0 0, .slice none 0 0] 46)) W.heap.size :=
  ⟨RBox.fresh (n := 0) (d := 0) (s := false) ⟨_, _, rfl, big_none _, big_none _⟩, h.size⟩
theorem nbx_of {W0 W W' : World} (h : Below W0.heap.size W0 W) (hb : Below (W.alloc (.cells #[.bool false, .slice none 0 0, .slice none 0 0] 46)).heap.size (W.alloc (.cells #[.bool false, .slice none 0 0, .slice none 0 0] 46)) W') : NBx W0 W' W.heap.size :=
  (nbx_new h).later hb
theorem set3_below {W0 W : World} {B : Nat} (h : Below W0.heap.size W0 W) (hB : W0.heap.size ≤ B) (x y z : Value) : Below W0.heap.size W0 (((W.setCell ⟨B, 0, none⟩ x).setCell ⟨B, 1, none⟩ y).setCell ⟨B, 2, none⟩ z) := ((h.setCell hB _).setCell hB _).setCell hB _
structure DBx (W0 W : World) (B : Nat) (M : Nat) (z : Int) : Prop where
  below : Below W0.heap.size W0 W
  hB : W0.heap.size ≤ B
  box : LB W B M z
theorem dbx_late {W0 W : World} {M : Nat} {z : Int} {s : Bool} {x x' : Option Addr} {l c l' c' : Nat} (h : Below W0.heap.size W0 W) (hr : LR W (.agg #[.bool s, .slice x l c, .slice x' l' c']) M z) : DBx W0 (W.alloc (.cells #[.bool s, .slice x l c, .slice x' l' c'] 46)) W.heap.size M z :=
  ⟨more_below h _, h.size, _, _, _, _, _, _, _, RBox.fresh hr⟩
theorem dbx_soon {W0 W : World} {B M : Nat} {z : Int} {s : Bool} {x x' : Option Addr} {l c l' c' : Nat} (h : Below W0.heap.size W0 W) (hr : LR W (.agg #[.bool s, .slice x l c, .slice x' l' c']) M z) (hn : NBx W0 W B) : DBx W0 (((W.setCell ⟨B, 0, none⟩ (.bool s)).setCell ⟨B, 1, none⟩ (.slice x l c)).setCell ⟨B, 2, none⟩ (.slice x' l' c')) B M z := by
  have h9 := hn.box.put hr
  exact ⟨set3_below h hn.hB _ _ _, hn.hB, ⟨s, x, l, c, x', l', c', h9⟩⟩
end Go.Proofs.YthomgmhmbalnbaaGreatDoor
