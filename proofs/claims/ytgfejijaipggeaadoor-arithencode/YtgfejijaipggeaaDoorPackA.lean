/- The document's order of fractions. -/
import Derived.Test.YtgfejijaipggeaaDoorPlus
import Derived.Test.YtgfejijaipggeaaDoorMsgP
import Derived.Test.YtgfejijaipggeaaDoorWideMath
import Derived.Test.YtgfejijaipggeaaDoorPlaceD
import Derived.Deep.RegionHeld3
import Derived.Test.YtgfejijaipggeaaDoorNatMinus
import Derived.Test.YtgfejijaipggeaaDoorNatPlus
import Derived.Test.YtgfejijaipggeaaDoorRaiseP
import Derived.Test.YtgfejijaipggeaaDoorEliasMath
import Derived.Test.YtgfejijaipggeaaDoorIntervalP
import Derived.Test.YtgfejijaipggeaaDoorWordsCmp
import Derived.Laws.BytesArg
import Derived.Deep.LoopGhost
import Derived.Deep.CutRange
import Derived.Test.YtgfejijaipggeaaDoorIvD
import Derived.BigQuiet
import Derived.Test.YtgfejijaipggeaaDoorWordMath
import Derived.Test.YtgfejijaipggeaaDoorValueD
import Derived.Test.YtgfejijaipggeaaDoorLastOp
import Derived.Shelf.SlGeneric
import Derived.Shelf.Strings.SlTrimAscii
import Derived.Ground.NamesProg
import Derived.Test.YtgfejijaipggeaaDoorProg
import Derived.Test.YtgfejijaipggeaaDoorOwn
import Derived.Test.YtgfejijaipggeaaDoorWeights
namespace Go.Proofs.YtgfejijaipggeaaDoor
open Go.RowKit

/-- The sign of a difference. -/
def sgnZ (z : Int) : Int := if z = 0 then 0 else if z < 0 then -1 else 1
set_option maxRecDepth 100000 in
set_option maxHeartbeats 4000000 in
theorem SignedCmp_any (v1 v2 : Value) (x y : Int) (k : Nat) (w : World) (h1 : SignedAt w v1 x) (h2 : SignedAt w v2 y) (hx : x.natAbs < 1000000 ^ k) (hy : y.natAbs < 1000000 ^ k) (hk : k ≤ 1000000) :
    Calls Tryd.prog 46 #[v1, v2] w fun e w' => e = .returned (.int .i64 (sgnZ (x - y))) ∧ Below w.heap.size w w' := by
  obtain ⟨u1, rfl, hu1⟩ := h1
  obtain ⟨u2, rfl, hu2⟩ := h2
  obtain ⟨ad1, l1, cap1, rfl, _⟩ := hu1.len
  obtain ⟨ad2, l2, cap2, rfl, _⟩ := hu2.len
  obtain ⟨s1, hs1⟩ : ∃ s, decide (x < 0) = s := ⟨_, rfl⟩
  obtain ⟨s2, hs2⟩ : ∃ s, decide (y < 0) = s := ⟨_, rfl⟩
  rw [hs1, hs2]
  obtain ⟨W0, hW0⟩ : ∃ W0, (w.alloc (.cells #[.bool s1, .slice ad1 l1 cap1] 43)).alloc (.cells #[.bool s2, .slice ad2 l2 cap2] 43) = W0 := ⟨_, rfl⟩
  have hB0 : Below w.heap.size w W0 := by rw [← hW0]; exact below_chain (new_below _ _) (new_below _ _)
  have HKS : Hid (∀ W, Below W0.heap.size W0 W → (W.cell? ⟨w.heap.size, 0, none⟩ = some (.bool s1) ∧ W.cell? ⟨w.heap.size, 1, none⟩ = some (.slice ad1 l1 cap1)) ∧ (W.cell? ⟨w.heap.size + 1, 0, none⟩ = some (.bool s2) ∧ W.cell? ⟨w.heap.size + 1, 1, none⟩ = some (.slice ad2 l2 cap2))) := fun W hb => by
    have a : ∀ j v, (#[Value.bool s1, .slice ad1 l1 cap1] : Array Value)[j]? = some v → W0.cell? ⟨w.heap.size, j, none⟩ = some v := fun j v h => by rw [← hW0, World.cell?_alloc_lt _ _ ⟨w.heap.size, j, none⟩ (by simp), World.cell?_alloc_at _ _ _ _ rfl]; exact h
    have b : ∀ j v, (#[Value.bool s2, .slice ad2 l2 cap2] : Array Value)[j]? = some v → W0.cell? ⟨w.heap.size + 1, j, none⟩ = some v := fun j v h => by rw [← hW0, World.cell?_alloc_at _ _ _ _ (by simp)]; exact h
    exact ⟨⟨by rw [hb.cell (cell_lt (a 0 _ rfl))]; exact a 0 _ rfl, by rw [hb.cell (cell_lt (a 1 _ rfl))]; exact a 1 _ rfl⟩, by rw [hb.cell (cell_lt (b 0 _ rfl))]; exact b 0 _ rfl, by rw [hb.cell (cell_lt (b 1 _ rfl))]; exact b 1 _ rfl⟩
  have HS1 : Hid (∀ W, Below W0.heap.size W0 W → SignedAt W (.agg #[.bool s1, .slice ad1 l1 cap1]) x) := fun W hb => ⟨_, by rw [hs1], (hu1.later hB0).later hb⟩
  have HS2 : Hid (∀ W, Below W0.heap.size W0 W → SignedAt W (.agg #[.bool s2, .slice ad2 l2 cap2]) y) := fun W hb => ⟨_, by rw [hs2], (hu2.later hB0).later hb⟩
  have HW := Hid.mk' hW0
  have HB := Hid.mk' hB0
  have hcur0 : Below W0.heap.size W0 W0 := Below.refl _ _
  have hcur : Below W0.heap.size W0 W0.drew := (Below.refl _ _).drew
  have hcurA : ∀ X, Below W0.heap.size W0 (W0.alloc X).drew := fun X => (new_below _ _).drew
  have HHY : Hid ((-y).natAbs < 1000000 ^ k) := by show _ < _; rw [Int.natAbs_neg]; exact hy
  clear hs1 hs2 hu1 hu2 hB0 hW0
  generalize hz : x + -y = z at *
  have HZ := Hid.mk' hz
  have HZ2 : Hid (sgnZ (x - y) = sgnZ z) := by show _ = _; rw [← hz, Int.sub_eq_add_neg]
  clear hz
  go_enter Tryd.func46, Tryd.ntmps46
  go_wp2_with fail
  rw [HW.out]
  go_cut [5] from 6 (fun s wx => ∃ Bs : Nat, s = .pointer (some ⟨Bs, 0, none⟩) ∧ Hid (SignBox W0 wx Bs z))
  case first =>
    go_region_held3 (fun W => (W.cell? ⟨w.heap.size, 0, none⟩ = some (.bool s1) ∧ W.cell? ⟨w.heap.size, 1, none⟩ = some (.slice ad1 l1 cap1)) ∧ (W.cell? ⟨w.heap.size + 1, 0, none⟩ = some (.bool s2) ∧ W.cell? ⟨w.heap.size + 1, 1, none⟩ = some (.slice ad2 l2 cap2)))
      (first | exact HKS.out _ hcur0 | exact HKS.out _ hcur | exact HKS.out _ (hcurA _) | (refine HKS.out _ ?_; assumption) | (refine HKS.out _ (more_below ?_ _); assumption) | (refine HKS.out _ (setB_below ?_ NB.hB _ _); assumption))
      (first
        | (go_at_call 72; refine (SignedAdd_any _ _ x (-y) k _ (HS1.out _ ?_) (HX1.out _ ?_) hx HHY.out hk).mono ?_; (first | exact hbw1 | exact more_below hbw1 _); (first | exact Below.refl _ _ | exact new_below _ _); rintro e w5 ⟨sv5, rfl, ⟨x5, rfl, hx5⟩, hb5⟩; rw [HZ.out] at hx5 ⊢; obtain ⟨ad7, l7, cap7, rfl, _⟩ := hx5.len; (first | (have hbw5 := below_chain hbw1 hb5; try have NB := NB.later hb5) | (have hbw5 := below_chain (more_below hbw1 _) hb5; have NB := newBox_of hbw1 hb5)); (try (have y0 := NB.c0; have y1 := NB.c1; have y2 := NB.f0; have y3 := NB.f1)); have HX5 := Hid.mk' hx5; clear hx5 hb5)
        | (go_at_call 42; refine (SignedBack_any _ y _ (HS2.out _ ?_)).mono ?_; (first | exact hcur | exact hcurA _); rintro e w1 ⟨sv1, rfl, ⟨x1, rfl, hx1⟩, hb1⟩; obtain ⟨sg1, hsg1⟩ : ∃ sg, decide (-y < 0) = sg := ⟨_, rfl⟩; rw [hsg1]; obtain ⟨ad3, l3, cap3, rfl, _⟩ := hx1.len; (first | have hbw1 := below_chain hcur hb1 | (have hbw1 := below_chain (hcurA _) hb1; have NB := newBox_of hcur0 (below_chain ((Below.refl _ _).drew) hb1))); have HX1 : Hid (∀ W, Below w1.heap.size w1 W → SignedAt W (.agg #[.bool sg1, .slice ad3 l3 cap3]) (-y)) := (fun W hb => ⟨_, by rw [hsg1], hx1.later hb⟩); clear hx1 hb1 hsg1))
    all_goals
      go_wp2_with fail
      go_meet
      first | exact ⟨_, rfl, signBox_late hbw5 HX5.out⟩ | exact ⟨_, rfl, signBox_soon hbw5 HX5.out NB⟩
  case rest =>
  obtain ⟨Bs, rfl, HSB⟩ := hcut
  obtain ⟨u, x0, x1, hu⟩ := HSB.out.box
  obtain ⟨ad, l, cap, rfl, hlz⟩ := hu.len
  have HBF := Hid.mk' (below_chain HB.out HSB.out.below)
  by_cases hz0 : z = 0
  · have hl0 : l = 0 := hlz.2 (by rw [hz0]; rfl)
    subst hl0
    have HE : Hid (sgnZ z = 0) := if_pos hz0
    clear hlz hz0 hu
    go_wp2_with fail
    go_ret
    exact ⟨by rw [HZ2.out, HE.out]; rfl, HBF.out⟩
  · have hl0 : ((l : Int) == 0) = false := by
      have : l ≠ 0 := fun h => hz0 (Int.natAbs_eq_zero.1 (hlz.1 h))
      simp; exact this
    obtain ⟨sg, hsg⟩ : ∃ sg, decide (z < 0) = sg := ⟨_, rfl⟩
    rw [hsg] at x0
    have HE : Hid (sgnZ z = if sg = true then -1 else 1) := by
      show (if z = 0 then 0 else if z < 0 then -1 else 1) = _
      rw [if_neg hz0, ← hsg]
      by_cases h : z < 0
      · rw [if_pos h, decide_eq_true h, if_pos rfl]
      · rw [if_neg h, decide_eq_false h]; rfl
    clear hlz hz0 hu hsg
    cases sg with
    | true =>
      go_wp2_with fail
      go_ret
      exact ⟨by rw [HZ2.out, HE.out]; rfl, HBF.out⟩
    | false =>
      go_wp2_with fail
      go_ret
      exact ⟨by rw [HZ2.out, HE.out]; rfl, HBF.out⟩
set_option maxRecDepth 100000 in
set_option maxHeartbeats 4000000 in
theorem RCmp_any (v1 v2 : Value) (n1 n2 : Int) (d1 d2 k : Nat) (w : World) (h1 : RatioAt w v1 n1 d1) (h2 : RatioAt w v2 n2 d2) (hn1 : n1.natAbs < 1000000 ^ k) (hn2 : n2.natAbs < 1000000 ^ k) (hk1 : d1 < 1000000 ^ k) (hk2 : d2 < 1000000 ^ k) (hk : k + k ≤ 1000000) :
    Calls Tryd.prog 24 #[v1, v2] w fun e w' => e = .returned (.int .i64 (sgnZ (n1 * d2 - n2 * d1))) ∧ Below w.heap.size w w' := by
  obtain ⟨u1, q1, rfl, hu1, hq1⟩ := h1
  obtain ⟨u2, q2, rfl, hu2, hq2⟩ := h2
  obtain ⟨ad1, l1, cap1, rfl, _⟩ := hu1.len
  obtain ⟨bd1, m1, bap1, rfl, _⟩ := hq1.len
  obtain ⟨ad2, l2, cap2, rfl, _⟩ := hu2.len
  obtain ⟨bd2, m2, bap2, rfl, _⟩ := hq2.len
  obtain ⟨s1, hs1⟩ : ∃ s, decide (n1 < 0) = s := ⟨_, rfl⟩
  obtain ⟨s2, hs2⟩ : ∃ s, decide (n2 < 0) = s := ⟨_, rfl⟩
  rw [hs1, hs2]
  obtain ⟨W0, hW0⟩ : ∃ W0, (w.alloc (.cells #[.bool s1, .slice ad1 l1 cap1, .slice bd1 m1 bap1] 45)).alloc (.cells #[.bool s2, .slice ad2 l2 cap2, .slice bd2 m2 bap2] 45) = W0 := ⟨_, rfl⟩
  have hB0 : Below w.heap.size w W0 := by rw [← hW0]; exact below_chain (new_below _ _) (new_below _ _)
  have HKS : Hid (∀ W, Below W0.heap.size W0 W → (W.cell? ⟨w.heap.size, 0, none⟩ = some (.bool s1) ∧ W.cell? ⟨w.heap.size, 1, none⟩ = some (.slice ad1 l1 cap1) ∧ W.cell? ⟨w.heap.size, 2, none⟩ = some (.slice bd1 m1 bap1)) ∧ (W.cell? ⟨w.heap.size + 1, 0, none⟩ = some (.bool s2) ∧ W.cell? ⟨w.heap.size + 1, 1, none⟩ = some (.slice ad2 l2 cap2) ∧ W.cell? ⟨w.heap.size + 1, 2, none⟩ = some (.slice bd2 m2 bap2))) := fun W hb => by
    have a : ∀ j v, (#[Value.bool s1, .slice ad1 l1 cap1, .slice bd1 m1 bap1] : Array Value)[j]? = some v → W0.cell? ⟨w.heap.size, j, none⟩ = some v := fun j v h => by rw [← hW0, World.cell?_alloc_lt _ _ ⟨w.heap.size, j, none⟩ (by simp), World.cell?_alloc_at _ _ _ _ rfl]; exact h
    have b : ∀ j v, (#[Value.bool s2, .slice ad2 l2 cap2, .slice bd2 m2 bap2] : Array Value)[j]? = some v → W0.cell? ⟨w.heap.size + 1, j, none⟩ = some v := fun j v h => by rw [← hW0, World.cell?_alloc_at _ _ _ _ (by simp)]; exact h
    exact ⟨⟨by rw [hb.cell (cell_lt (a 0 _ rfl))]; exact a 0 _ rfl, by rw [hb.cell (cell_lt (a 1 _ rfl))]; exact a 1 _ rfl, by rw [hb.cell (cell_lt (a 2 _ rfl))]; exact a 2 _ rfl⟩, by rw [hb.cell (cell_lt (b 0 _ rfl))]; exact b 0 _ rfl, by rw [hb.cell (cell_lt (b 1 _ rfl))]; exact b 1 _ rfl, by rw [hb.cell (cell_lt (b 2 _ rfl))]; exact b 2 _ rfl⟩
  have HS1 : Hid (∀ W, Below W0.heap.size W0 W → SignedAt W (.agg #[.bool s1, .slice ad1 l1 cap1]) n1) := fun W hb => ⟨_, by rw [hs1], (hu1.later hB0).later hb⟩
  have HS2 : Hid (∀ W, Below W0.heap.size W0 W → SignedAt W (.agg #[.bool s2, .slice ad2 l2 cap2]) n2) := fun W hb => ⟨_, by rw [hs2], (hu2.later hB0).later hb⟩
  have HD1 : Hid (∀ W, Below W0.heap.size W0 W → BigAt W (.slice bd1 m1 bap1) d1) := fun W hb => (hq1.later hB0).later hb
  have HD2 : Hid (∀ W, Below W0.heap.size W0 W → BigAt W (.slice bd2 m2 bap2) d2) := fun W hb => (hq2.later hB0).later hb
  have hm1 : (n1 * (d2 : Int)).natAbs < 1000000 ^ (k + k) := by rw [Int.natAbs_mul, Int.natAbs_natCast, Nat.pow_add]; exact Nat.mul_lt_mul'' hn1 hk2
  have hm2 : (n2 * (d1 : Int)).natAbs < 1000000 ^ (k + k) := by rw [Int.natAbs_mul, Int.natAbs_natCast, Nat.pow_add]; exact Nat.mul_lt_mul'' hn2 hk1
  have HM := Hid.mk' (And.intro hm1 hm2)
  have HBD : Hid (n1.natAbs < 1000000 ^ k ∧ (d2 : Int).natAbs < 1000000 ^ k ∧ n2.natAbs < 1000000 ^ k ∧ (d1 : Int).natAbs < 1000000 ^ k) := ⟨hn1, by rw [Int.natAbs_natCast]; exact hk2, hn2, by rw [Int.natAbs_natCast]; exact hk1⟩
  have HW := Hid.mk' hW0
  have HB := Hid.mk' hB0
  have hcur0 : Below W0.heap.size W0 W0 := Below.refl _ _
  have hcur : Below W0.heap.size W0 W0.drew := (Below.refl _ _).drew
  have hdn1 : ¬ (d1 : Int) < 0 := by omega
  have hdn2 : ¬ (d2 : Int) < 0 := by omega
  have HDE : Hid (decide ((d1 : Int) < 0) = false ∧ decide ((d2 : Int) < 0) = false) := ⟨decide_eq_false hdn1, decide_eq_false hdn2⟩
  clear hs1 hs2 hu1 hu2 hq1 hq2 hB0 hW0 hn1 hn2 hk1 hk2 hm1 hm2 hdn1 hdn2
  go_enter Tryd.func24, Tryd.ntmps24
  go_wp2_with fail
  rw [HW.out]
  go_region_held3 (fun W => (W.cell? ⟨w.heap.size, 0, none⟩ = some (.bool s1) ∧ W.cell? ⟨w.heap.size, 1, none⟩ = some (.slice ad1 l1 cap1) ∧ W.cell? ⟨w.heap.size, 2, none⟩ = some (.slice bd1 m1 bap1)) ∧ (W.cell? ⟨w.heap.size + 1, 0, none⟩ = some (.bool s2) ∧ W.cell? ⟨w.heap.size + 1, 1, none⟩ = some (.slice ad2 l2 cap2) ∧ W.cell? ⟨w.heap.size + 1, 2, none⟩ = some (.slice bd2 m2 bap2)))
    (first | exact HKS.out _ hcur0 | exact HKS.out _ hcur | (refine HKS.out _ ?_; assumption))
    (first
      | (go_at_call 46; refine (SignedCmp_any _ _ (n1 * (d2 : Int)) (n2 * (d1 : Int)) (k + k) _ (HX2.out _ h24) (HX4.out _ (Below.refl _ _)) HM.out.1 HM.out.2 hk).mono ?_; rintro e w5 ⟨rfl, hb5⟩; have hbw5 := below_chain hbw4 hb5; clear hb5)
      | (go_at_call 44; refine (SignedMul_any _ _ n2 (d1 : Int) k _ (HS2.out _ hbw3) (HX3.out _ (Below.refl _ _)) HBD.out.2.2.1 HBD.out.2.2.2 (by omega)).mono ?_; rintro e w4 ⟨sv4, rfl, ⟨x4, rfl, hx4⟩, hb4⟩; obtain ⟨sg4, hsg4⟩ : ∃ sg, decide (n2 * (d1 : Int) < 0) = sg := ⟨_, rfl⟩; rw [hsg4]; obtain ⟨ad6, l6, cap6, rfl, _⟩ := hx4.len; have hbw4 := below_chain hbw3 hb4; have h24 := below_chain h23 hb4; have HX4 : Hid (∀ W, Below w4.heap.size w4 W → SignedAt W (.agg #[.bool sg4, .slice ad6 l6 cap6]) (n2 * (d1 : Int))) := (fun W hb => ⟨_, by rw [hsg4], hx4.later hb⟩); clear hx4 hb4 hsg4)
      | (go_at_call 47; refine (wide_any (.slice bd1 m1 bap1) d1 _ (HD1.out _ hbw2)).mono ?_; rintro e w3 ⟨sv3, rfl, ⟨x3, rfl, hx3⟩, hb3⟩; rw [HDE.out.1]; obtain ⟨ad5, l5, cap5, rfl, _⟩ := hx3.len; have hbw3 := below_chain hbw2 hb3; have h23 := below_chain (Below.refl _ w2) hb3; have HX3 : Hid (∀ W, Below w3.heap.size w3 W → SignedAt W (.agg #[.bool false, .slice ad5 l5 cap5]) (d1 : Int)) := (fun W hb => ⟨_, by rw [HDE.out.1], hx3.later hb⟩); clear hx3 hb3)
      | (go_at_call 44; refine (SignedMul_any _ _ n1 (d2 : Int) k _ (HS1.out _ hbw1) (HX1.out _ (Below.refl _ _)) HBD.out.1 HBD.out.2.1 (by omega)).mono ?_; rintro e w2 ⟨sv2, rfl, ⟨x2, rfl, hx2⟩, hb2⟩; obtain ⟨sg2, hsg2⟩ : ∃ sg, decide (n1 * (d2 : Int) < 0) = sg := ⟨_, rfl⟩; rw [hsg2]; obtain ⟨ad4, l4, cap4, rfl, _⟩ := hx2.len; have hbw2 := below_chain hbw1 hb2; have HX2 : Hid (∀ W, Below w2.heap.size w2 W → SignedAt W (.agg #[.bool sg2, .slice ad4 l4 cap4]) (n1 * (d2 : Int))) := (fun W hb => ⟨_, by rw [hsg2], hx2.later hb⟩); clear hx2 hb2 hsg2)
      | (go_at_call 47; refine (wide_any (.slice bd2 m2 bap2) d2 _ (HD2.out _ hcur)).mono ?_; rintro e w1 ⟨sv1, rfl, ⟨x1, rfl, hx1⟩, hb1⟩; rw [HDE.out.2]; obtain ⟨ad3, l3, cap3, rfl, _⟩ := hx1.len; have hbw1 := below_chain hcur hb1; have HX1 : Hid (∀ W, Below w1.heap.size w1 W → SignedAt W (.agg #[.bool false, .slice ad3 l3 cap3]) (d2 : Int)) := (fun W hb => ⟨_, by rw [HDE.out.2], hx1.later hb⟩); clear hx1 hb1))
  go_wp2_with fail
  go_ret
  exact ⟨rfl, below_chain HB.out hbw5⟩
/-- Which of two fractions is the less. -/
theorem sgnZ_neg (z : Int) : sgnZ z < 0 ↔ z < 0 := by
  unfold sgnZ
  split
  · omega
  · split <;> omega
end Go.Proofs.YtgfejijaipggeaaDoor

/- Where a number lies in the parts of the weights, symbol by symbol. -/
namespace Go.Proofs.YtgfejijaipggeaaDoor

/-- The symbol whose part holds a over d. -/
def symOf (z : Nat → Int) (n S a d : Nat) : Nat := fstB (fun s => decide (((a * S / d : Nat) : Int) < sumN z (s + 1))) n
def decAD (z : Nat → Int) (n S a0 d0 : Nat) : Nat → Nat × Nat
  | 0 => (a0, d0)
  | k + 1 => ((decAD z n S a0 d0 k).1 * S - (sumN z (symOf z n S (decAD z n S a0 d0 k).1 (decAD z n S a0 d0 k).2)).toNat * (decAD z n S a0 d0 k).2, (decAD z n S a0 d0 k).2 * (z (symOf z n S (decAD z n S a0 d0 k).1 (decAD z n S a0 d0 k).2)).toNat)
structure SymIs (z : Nat → Int) (n S a d s : Nat) : Prop where
  lt : s < n
  lo : sumN z s ≤ ((a * S / d : Nat) : Int)
  hi : ((a * S / d : Nat) : Int) < sumN z (s + 1)
  no : ∀ i, i < s → ¬ ((a * S / d : Nat) : Int) < sumN z (i + 1)
  pos : 0 < z s
  le : (sumN z s).toNat * d ≤ a * S
  less : a * S - (sumN z s).toNat * d < d * (z s).toNat
  small : (z s).toNat ≤ S ∧ (sumN z s).toNat ≤ S
theorem sym_is {z : Nat → Int} {n S a d : Nat} (hz : OkW z n) (hS : sumN z n = (S : Int)) (hd : 0 < d) (ha : a < d) : SymIs z n S a d (symOf z n S a d) := by
  have hp : a * S / d < S := (Nat.div_lt_iff_lt_mul hd).2 (by rw [Nat.mul_comm S d]; exact Nat.mul_lt_mul_of_pos_right ha (by have := hz.pos; rw [hS] at this; omega))
  have hn := hz.posN
  have hlt : symOf z n S a d < n := by
    refine Classical.byContradiction fun h => ?_
    have e : symOf z n S a d = n := Nat.le_antisymm (fstB_le _ _) (by omega)
    have h1 := fstB_none e (n - 1) (by omega)
    have h2 : ¬ ((a * S / d : Nat) : Int) < sumN z (n - 1 + 1) := of_decide_eq_false h1
    rw [Nat.sub_add_cancel hn, hS] at h2
    omega
  obtain ⟨h1, h2⟩ := fstB_is hlt
  generalize hs : symOf z n S a d = s at *
  have e : fstB (fun s => decide (((a * S / d : Nat) : Int) < sumN z (s + 1))) n = s := hs
  rw [e] at h1 h2
  have hhi : ((a * S / d : Nat) : Int) < sumN z (s + 1) := of_decide_eq_true h1
  have hno : ∀ i, i < s → ¬ ((a * S / d : Nat) : Int) < sumN z (i + 1) := fun i hi => of_decide_eq_false (h2 i hi)
  have hlo : sumN z s ≤ ((a * S / d : Nat) : Int) := by
    rcases Nat.eq_zero_or_pos s with h0 | h0
    · rw [h0]; exact Int.natCast_nonneg _
    · have := hno (s - 1) (by omega)
      rw [Nat.sub_add_cancel h0] at this
      omega
  have hex : sumN z (s + 1) = sumN z s + z s := rfl
  have hn0 := hz.part (k := s) (by omega)
  have hzs := hz.lt hlt
  have hm1 := sumN_mono hz.nn (k := s + 1) (n := n) (by omega)
  rw [hS] at hm1
  have hB : (sumN z s).toNat ≤ a * S / d := by omega
  have hBZ : a * S / d < (sumN z s).toNat + (z s).toNat := by omega
  have hle : (sumN z s).toNat * d ≤ a * S := (Nat.le_div_iff_mul_le hd).1 hB
  have hls : a * S < ((sumN z s).toNat + (z s).toNat) * d := (Nat.div_lt_iff_lt_mul hd).1 hBZ
  refine ⟨hlt, hlo, hhi, hno, by omega, hle, ?_, by omega, by omega⟩
  rw [Nat.add_mul] at hls
  rw [Nat.mul_comm d]
  omega
theorem dec_ok {z : Nat → Int} {n S a0 d0 : Nat} (hz : OkW z n) (hS : sumN z n = (S : Int)) (hd : 0 < d0) (ha : a0 < d0) : ∀ k, (decAD z n S a0 d0 k).1 < (decAD z n S a0 d0 k).2 ∧ 0 < (decAD z n S a0 d0 k).2 ∧ (decAD z n S a0 d0 k).2 ≤ d0 * 4096 ^ k
  | 0 => ⟨ha, hd, by show d0 ≤ d0 * 4096 ^ 0; omega⟩
  | k + 1 => by
    obtain ⟨h1, h2, h3⟩ := dec_ok hz hS hd ha k
    have hs := sym_is hz hS h2 h1
    have hZ : (z (symOf z n S (decAD z n S a0 d0 k).1 (decAD z n S a0 d0 k).2)).toNat ≤ 4096 := by
      have := hz.lt hs.lt; omega
    have hpz := hs.pos
    refine ⟨hs.less, Nat.mul_pos h2 (by omega), ?_⟩
    show _ * _ ≤ _
    rw [Nat.pow_succ, ← Nat.mul_assoc]
    exact Nat.mul_le_mul h3 hZ
/-- The steps in lowest terms. -/
theorem low_less {D S : Nat} (hD : 0 < D) (hS : 0 < S) (a b : Int) : (lowN D a * (lowD S b : Int) + -lowN S b * (lowD D a : Int)).tdiv ((Nat.gcd (lowN D a * (lowD S b : Int) + -lowN S b * (lowD D a : Int)).natAbs (lowD D a * lowD S b) : Nat) : Int) = lowN (D * S) (a * S - b * D) ∧ lowD D a * lowD S b / Nat.gcd (lowN D a * (lowD S b : Int) + -lowN S b * (lowD D a : Int)).natAbs (lowD D a * lowD S b) = lowD (D * S) (a * S - b * D) := by
  refine low_same (Nat.mul_pos hD hS) (Nat.mul_pos (lowD_pos hD a) (lowD_pos hS b)) ?_
  have h1 := low_cross hD a
  have h2 := low_cross hS b
  rw [Int.natCast_mul, Int.natCast_mul]
  generalize lowN D a = p at *
  generalize lowN S b = q at *
  generalize (lowD D a : Int) = c at *
  generalize (lowD S b : Int) = e at *
  generalize (D : Int) = m at *
  generalize (S : Int) = s at *
  calc (p * e + -q * c) * (m * s) = (p * m) * (e * s) - (q * s) * (c * m) := by grind
    _ = (a * c) * (e * s) - (b * e) * (c * m) := by rw [h1, h2]
    _ = (a * s - b * m) * (c * e) := by grind
theorem low_quot {D S Z : Nat} (hD : 0 < D) (hS : 0 < S) (hZ : 0 < Z) (x : Int) {m : Nat} (hm : lowN S (Z : Int) = (m : Int)) : (lowN (D * S) x * (lowD S (Z : Int) : Int)).tdiv ((Nat.gcd (lowN (D * S) x * (lowD S (Z : Int) : Int)).natAbs (lowD (D * S) x * m) : Nat) : Int) = lowN (D * Z) x ∧ lowD (D * S) x * m / Nat.gcd (lowN (D * S) x * (lowD S (Z : Int) : Int)).natAbs (lowD (D * S) x * m) = lowD (D * Z) x := by
  have h1 := low_cross (Nat.mul_pos hD hS) x
  have h2 := low_cross hS (Z : Int)
  rw [hm] at h2
  have hm0 : 0 < m := by
    rcases Nat.eq_zero_or_pos m with h0 | h0
    · rw [h0] at h2
      have h3 := lowD_pos hS (Z : Int)
      have h4 : (0 : Int) < (Z : Int) * (lowD S (Z : Int) : Int) := Int.mul_pos (by omega) (by omega)
      rw [← h2] at h4
      simp at h4
    · exact h0
  refine low_same (Nat.mul_pos hD hZ) (Nat.mul_pos (lowD_pos (Nat.mul_pos hD hS) x) hm0) ?_
  have hs0 : (S : Int) ≠ 0 := by omega
  rw [Int.natCast_mul] at h1 ⊢
  rw [Int.natCast_mul]
  generalize lowN (D * S) x = p at *
  generalize (lowD (D * S) x : Int) = c at *
  generalize (lowD S (Z : Int) : Int) = e at *
  generalize (D : Int) = d at *
  generalize (S : Int) = s at *
  generalize (Z : Int) = y at *
  generalize (m : Int) = q at *
  refine Int.eq_of_mul_eq_mul_right hs0 ?_
  calc p * e * (d * y) * s = (p * (d * s)) * (e * y) := by grind
    _ = (x * c) * (y * e) := by rw [h1]; grind
    _ = (x * c) * (q * s) := by rw [h2]
    _ = x * (c * q) * s := by grind
/-- Which of two is the less, by their parts. -/
theorem low_order {D S : Nat} (hD : 0 < D) (hS : 0 < S) (a b : Int) : lowN D a * (lowD S b : Int) - lowN S b * (lowD D a : Int) < 0 ↔ a * S < b * D := by
  have h1 := low_cross hD a
  have h2 := low_cross hS b
  have h3 := lowD_pos hD a
  have h4 := lowD_pos hS b
  generalize lowN D a = p at *
  generalize lowN S b = q at *
  generalize lowD D a = c at *
  generalize lowD S b = e at *
  have e1 : (p * (e : Int) - q * (c : Int)) * ((D : Int) * (S : Int)) = (a * (S : Int) - b * (D : Int)) * ((c : Int) * (e : Int)) := by
    calc (p * (e : Int) - q * (c : Int)) * ((D : Int) * (S : Int)) = (p * (D : Int)) * ((e : Int) * (S : Int)) - (q * (S : Int)) * ((c : Int) * (D : Int)) := by grind
      _ = (a * (c : Int)) * ((e : Int) * (S : Int)) - (b * (e : Int)) * ((c : Int) * (D : Int)) := by rw [h1, h2]
      _ = _ := by grind
  have hDS : (0 : Int) < (D : Int) * (S : Int) := Int.mul_pos (by omega) (by omega)
  have hce : (0 : Int) < (c : Int) * (e : Int) := Int.mul_pos (by omega) (by omega)
  constructor
  · intro h
    refine Classical.byContradiction fun hn => ?_
    have h5 : (p * (e : Int) - q * (c : Int)) * ((D : Int) * (S : Int)) < 0 := Int.mul_neg_of_neg_of_pos h hDS
    have h6 : 0 ≤ (a * (S : Int) - b * (D : Int)) * ((c : Int) * (e : Int)) := Int.mul_nonneg (by omega) (by omega)
    omega
  · intro h
    refine Classical.byContradiction fun hn => ?_
    have h5 : 0 ≤ (p * (e : Int) - q * (c : Int)) * ((D : Int) * (S : Int)) := Int.mul_nonneg (by omega) (by omega)
    have h6 : (a * (S : Int) - b * (D : Int)) * ((c : Int) * (e : Int)) < 0 := Int.mul_neg_of_neg_of_pos (by omega) hce
    omega
end Go.Proofs.YtgfejijaipggeaaDoor

/- Do all numbers that begin with bits lie in an interval, in the document. -/
namespace Go.Proofs.YtgfejijaipggeaaDoor
open Go.RowKit

theorem low_next {M : Nat} (hM : 0 < M) (u : Int) : (lowN M u * (M : Int) + 1 * (lowD M u : Int)).tdiv ((Nat.gcd (lowN M u * (M : Int) + 1 * (lowD M u : Int)).natAbs (lowD M u * M) : Nat) : Int) = lowN M (u + 1) ∧ lowD M u * M / Nat.gcd (lowN M u * (M : Int) + 1 * (lowD M u : Int)).natAbs (lowD M u * M) = lowD M (u + 1) := by
  refine low_same hM (Nat.mul_pos (lowD_pos hM u) hM) ?_
  have h1 := low_cross hM u
  rw [Int.natCast_mul]
  generalize lowN M u = p at *
  generalize lowD M u = c at *
  grind
theorem low_both {D : Nat} (hD : 0 < D) (L W : Int) : (lowN D L * (lowD D W : Int) + lowN D W * (lowD D L : Int)).tdiv ((Nat.gcd (lowN D L * (lowD D W : Int) + lowN D W * (lowD D L : Int)).natAbs (lowD D L * lowD D W) : Nat) : Int) = lowN D (L + W) ∧ lowD D L * lowD D W / Nat.gcd (lowN D L * (lowD D W : Int) + lowN D W * (lowD D L : Int)).natAbs (lowD D L * lowD D W) = lowD D (L + W) := by
  refine low_same hD (Nat.mul_pos (lowD_pos hD L) (lowD_pos hD W)) ?_
  have h1 := low_cross hD L
  have h2 := low_cross hD W
  rw [Int.natCast_mul]
  generalize lowN D L = p at *
  generalize lowN D W = q at *
  generalize lowD D L = c at *
  generalize lowD D W = e at *
  calc (p * (e : Int) + q * (c : Int)) * (D : Int) = (p * (D : Int)) * (e : Int) + (q * (D : Int)) * (c : Int) := by grind
    _ = (L * (c : Int)) * (e : Int) + (W * (e : Int)) * (c : Int) := by rw [h1, h2]
    _ = _ := by grind
/-- At most, by the sign. -/
theorem low_most {D S : Nat} (hD : 0 < D) (hS : 0 < S) (a b : Nat) : sgnZ (lowN D (a : Int) * (lowD S (b : Int) : Int) - lowN S (b : Int) * (lowD D (a : Int) : Int)) ≤ 0 ↔ a * S ≤ b * D := by
  have h := low_order hS hD (b : Int) (a : Int)
  have e : ∀ z : Int, sgnZ z ≤ 0 ↔ ¬ (-z < 0) := fun z => by
    unfold sgnZ
    split
    · omega
    · split <;> omega
  rw [e, Int.neg_sub, h]
  rw [← Int.natCast_mul, ← Int.natCast_mul]
  omega
set_option maxRecDepth 100000 in
set_option maxHeartbeats 4000000 in
theorem Fits_any (t : ByteArray) (v1 v2 : Value) (L Wd D : Nat) (w : World)
    (hV : ∀ W, Calls Tryd.prog 51 #[.string t] W fun e w' => ∃ v, e = .returned v ∧ RatioAt w' v (lowN (2 ^ t.size) (valT t t.size : Nat)) (lowD (2 ^ t.size) (valT t t.size : Nat)) ∧ Below W.heap.size W w')
    (h1 : RatioAt w v1 (lowN D (L : Int)) (lowD D (L : Int))) (h2 : RatioAt w v2 (lowN D (Wd : Int)) (lowD D (Wd : Int))) (ht : t.size ≤ 160) (hD : 0 < D) (hLW : L + Wd ≤ D) (hDR : D < 1000000 ^ 20) (hlo : L * 2 ^ t.size ≤ valT t t.size * D) :
    Calls Tryd.prog 30 #[.string t, v1, v2] w fun e w' => e = .returned (.bool (decide ((valT t t.size + 1) * D ≤ (L + Wd) * 2 ^ t.size))) ∧ Below w.heap.size w w' := by
  obtain ⟨s1, a1, l1, c1, a1', l1', c1', rfl⟩ := h1.sl
  obtain ⟨s2, a2, l2, c2, a2', l2', c2', rfl⟩ := h2.sl
  have b : ∀ (V : World) (o : Obj), Below V.heap.size V (V.alloc o) := fun V o => (Below.refl _ _).alloc (Nat.le_refl _) _
  obtain ⟨W0, hW0⟩ : ∃ W0, W0 = (w.alloc (.cells #[.bool s1, .slice a1 l1 c1, .slice a1' l1' c1'] 45)).alloc (.cells #[.bool s2, .slice a2 l2 c2, .slice a2' l2' c2'] 45) := ⟨_, rfl⟩
  have hb0 : Below w.heap.size w W0 := by rw [hW0]; exact below_chain (b _ _) (b _ _)
  have HR1 : Hid (RBox W0 w.heap.size s1 a1 l1 c1 a1' l1' c1' (lowN D (L : Int)) (lowD D (L : Int))) := by show RBox _ _ _ _ _ _ _ _ _ _ _; rw [hW0]; exact (RBox.fresh h1).later (b _ _)
  have HR2 : Hid (RBox W0 (w.heap.size + 1) s2 a2 l2 c2 a2' l2' c2' (lowN D (Wd : Int)) (lowD D (Wd : Int))) := by
    show RBox _ _ _ _ _ _ _ _ _ _ _
    have h3 := RBox.fresh (h2.later (b w (.cells #[.bool s1, .slice a1 l1 c1, .slice a1' l1' c1'] 45)))
    rw [show (w.alloc (.cells #[.bool s1, .slice a1 l1 c1, .slice a1' l1' c1'] 45)).heap.size = w.heap.size + 1 by simp] at h3
    rw [hW0]; exact h3
  have HB0 := Hid.mk' hb0
  have HVO := Hid.mk' hV
  have hP0 : 0 < 2 ^ t.size := Nat.two_pow_pos _
  have hPR := two_room (j := t.size) (by omega)
  have hVL := valT_lt (t := t) t.size
  obtain ⟨c, hc, hc0⟩ : ∃ c : Int, sgnZ (lowN D (L : Int) * (lowD (2 ^ t.size) (valT t t.size : Nat) : Int) - lowN (2 ^ t.size) (valT t t.size : Nat) * (lowD D (L : Int) : Int)) = c ∧ c ≤ 0 := ⟨_, rfl, (low_most hD hP0 L (valT t t.size)).2 hlo⟩
  have r1 := low_room hD (x := L) (by omega) hDR
  have r2 := low_room hD (x := Wd) (by omega) hDR
  have r3 := low_room hP0 (x := valT t t.size) (by omega) hPR
  have r4 := low_room hP0 (x := valT t t.size + 1) (by omega) hPR
  have r5 := low_room hD (x := L + Wd) hLW hDR
  have HC1 := Hid.mk' (fun (W : World) (u v : Value) hu hv => RCmp_any u v (lowN D (L : Int)) (lowN (2 ^ t.size) (valT t t.size : Nat)) (lowD D (L : Int)) (lowD (2 ^ t.size) (valT t t.size : Nat)) 20 W hu hv r1.1 r3.1 r1.2 r3.2 (by decide))
  rw [hc] at HC1
  have HPL := Hid.mk' (fun (W : World) => place_any t.size W (by omega))
  have HP1 : Hid (∀ W u v, RatioAt W u (lowN (2 ^ t.size) (valT t t.size : Nat)) (lowD (2 ^ t.size) (valT t t.size : Nat)) → RatioAt W v 1 (2 ^ t.size) → Calls Tryd.prog 49 #[u, v] W fun e w' => ∃ r, e = .returned r ∧ RatioAt w' r (lowN (2 ^ t.size) ((valT t t.size + 1 : Nat) : Int)) (lowD (2 ^ t.size) ((valT t t.size + 1 : Nat) : Int)) ∧ Below W.heap.size W w') := fun W u v hu hv => by
    have h3 := Plus_ratio u v _ _ _ _ 20 W hu hv (lowD_pos hP0 _) hP0 r3.1 (by decide) r3.2 hPR (by decide)
    obtain ⟨e1, e2⟩ := low_next hP0 ((valT t t.size : Nat) : Int)
    rw [e1, e2] at h3
    exact h3
  have HP2 : Hid (∀ W u v, RatioAt W u (lowN D (L : Int)) (lowD D (L : Int)) → RatioAt W v (lowN D (Wd : Int)) (lowD D (Wd : Int)) → Calls Tryd.prog 49 #[u, v] W fun e w' => ∃ r, e = .returned r ∧ RatioAt w' r (lowN D ((L + Wd : Nat) : Int)) (lowD D ((L + Wd : Nat) : Int)) ∧ Below W.heap.size W w') := fun W u v hu hv => by
    have h3 := Plus_ratio u v _ _ _ _ 20 W hu hv (lowD_pos hD _) (lowD_pos hD _) r1.1 r2.1 r1.2 r2.2 (by decide)
    obtain ⟨e1, e2⟩ := low_both hD (L : Int) (Wd : Int)
    rw [e1, e2, ← Int.natCast_add] at h3
    exact h3
  obtain ⟨c', hc', hcm⟩ : ∃ c' : Int, sgnZ (lowN (2 ^ t.size) ((valT t t.size + 1 : Nat) : Int) * (lowD D ((L + Wd : Nat) : Int) : Int) - lowN D ((L + Wd : Nat) : Int) * (lowD (2 ^ t.size) ((valT t t.size + 1 : Nat) : Int) : Int)) = c' ∧ (c' ≤ 0 ↔ (valT t t.size + 1) * D ≤ (L + Wd) * 2 ^ t.size) := ⟨_, rfl, low_most hP0 hD _ _⟩
  have HC2 := Hid.mk' (fun (W : World) (u v : Value) hu hv => RCmp_any u v (lowN (2 ^ t.size) ((valT t t.size + 1 : Nat) : Int)) (lowN D ((L + Wd : Nat) : Int)) (lowD (2 ^ t.size) ((valT t t.size + 1 : Nat) : Int)) (lowD D ((L + Wd : Nat) : Int)) 20 W hu hv r4.1 r5.1 r4.2 r5.2 (by decide))
  rw [hc'] at HC2
  have HCM : Hid (decide (c' ≤ 0) = decide ((valT t t.size + 1) * D ≤ (L + Wd) * 2 ^ t.size)) := by show _ = _; rw [decide_eq_decide]; exact hcm
  generalize decide ((valT t t.size + 1) * D ≤ (L + Wd) * 2 ^ t.size) = R at *
  clear h1 h2 hb0 hV hlo hc hc' hcm r1 r2 r3 r4 r5 hVL hPR hP0 hDR hLW hD b
  go_enter Tryd.func30, Tryd.ntmps30
  go_upto_region 1 with fail
  rw [← hW0]
  clear hW0
  go_wp2_with fail
  refine (HVO.out _).mono ?_
  rintro e w1 ⟨v, rfl, hv, hb1⟩
  obtain ⟨s3, a3, l3, c3, a3', l3', c3', rfl⟩ := hv.sl
  have hb2 : Below w1.heap.size w1 (w1.alloc (.cells #[.bool s3, .slice a3 l3 c3, .slice a3' l3' c3'] 45)) := (Below.refl _ _).alloc (Nat.le_refl _) _
  have HR3 := Hid.mk' (RBox.fresh hv)
  have HR1 := Hid.mk' ((HR1.out.later hb1).later hb2)
  have HR2 := Hid.mk' ((HR2.out.later hb1).later hb2)
  have HB1 := Hid.mk' (below_chain (below_chain HB0.out hb1) hb2)
  clear hv hb1 hb2
  go_upto_region 2 with fail
  generalize w1.alloc (.cells #[.bool s3, .slice a3 l3 c3, .slice a3' l3' c3'] 45) = W1 at *
  generalize w1.heap.size = B3 at *
  generalize hB1 : w.heap.size = B1 at *
  have HKS : Hid (∀ W, Below W1.heap.size W1 W → (W.cell? ⟨B1, 0, none⟩ = some (.bool s1) ∧ W.cell? ⟨B1, 1, none⟩ = some (.slice a1 l1 c1) ∧ W.cell? ⟨B1, 2, none⟩ = some (.slice a1' l1' c1')) ∧ (W.cell? ⟨B1 + 1, 0, none⟩ = some (.bool s2) ∧ W.cell? ⟨B1 + 1, 1, none⟩ = some (.slice a2 l2 c2) ∧ W.cell? ⟨B1 + 1, 2, none⟩ = some (.slice a2' l2' c2')) ∧ (W.cell? ⟨B3, 0, none⟩ = some (.bool s3) ∧ W.cell? ⟨B3, 1, none⟩ = some (.slice a3 l3 c3) ∧ W.cell? ⟨B3, 2, none⟩ = some (.slice a3' l3' c3'))) := fun W hb => by
    have q1 := HR1.out.later hb
    have q2 := HR2.out.later hb
    have q3 := HR3.out.later hb
    exact ⟨⟨q1.c0, q1.c1, q1.c2⟩, ⟨q2.c0, q2.c1, q2.c2⟩, q3.c0, q3.c1, q3.c2⟩
  have HC1' := Hid.mk' (fun (W : World) (hb : Below W1.heap.size W1 W) => HC1.out W _ _ (HR1.out.later hb).rat (HR3.out.later hb).rat)
  have HP1' := Hid.mk' (fun (W : World) (v : Value) (hb : Below W1.heap.size W1 W) (hv : RatioAt W v 1 (2 ^ t.size)) => HP1.out W _ v (HR3.out.later hb).rat hv)
  have HP2' := Hid.mk' (fun (W : World) (hb : Below W1.heap.size W1 W) => HP2.out W _ _ (HR1.out.later hb).rat (HR2.out.later hb).rat)
  have HBB := Hid.mk' hB1
  clear hB1
  have hcur0 : Below W1.heap.size W1 W1 := Below.refl _ _
  have hcur : Below W1.heap.size W1 W1.drew := (Below.refl _ _).drew
  go_region_held3 (fun W => (W.cell? ⟨B1, 0, none⟩ = some (.bool s1) ∧ W.cell? ⟨B1, 1, none⟩ = some (.slice a1 l1 c1) ∧ W.cell? ⟨B1, 2, none⟩ = some (.slice a1' l1' c1')) ∧ (W.cell? ⟨B1 + 1, 0, none⟩ = some (.bool s2) ∧ W.cell? ⟨B1 + 1, 1, none⟩ = some (.slice a2 l2 c2) ∧ W.cell? ⟨B1 + 1, 2, none⟩ = some (.slice a2' l2' c2')) ∧ (W.cell? ⟨B3, 0, none⟩ = some (.bool s3) ∧ W.cell? ⟨B3, 1, none⟩ = some (.slice a3 l3 c3) ∧ W.cell? ⟨B3, 2, none⟩ = some (.slice a3' l3' c3')))
    (first | exact HKS.out _ hcur0 | exact HKS.out _ hcur | exact HKS.out _ hbx1 | exact HKS.out _ hbx2 | exact HKS.out _ hbx3 | exact HKS.out _ hbx4 | exact HKS.out _ hbx5)
    (first
      | (go_at_call 24; refine (HC2.out _ _ _ HX4.out HX5.out).mono ?_; rintro e x5 ⟨rfl, hb5⟩; have hbx5 := below_chain hbx4 hb5; clear hb5)
      | (go_at_call 49; refine (HP2'.out _ hbx3).mono ?_; rintro e x4 ⟨r5, rfl, hr5, hb4⟩; have hbx4 := below_chain hbx3 hb4; have HX4 := Hid.mk' (HX3.out.later hb4); have HX5 := Hid.mk' hr5; clear hr5 hb4)
      | (go_at_call 49; refine (HP1'.out _ _ hbx2 HX2.out).mono ?_; rintro e x3 ⟨r4, rfl, hr4, hb3⟩; have hbx3 := below_chain hbx2 hb3; have HX3 := Hid.mk' hr4; clear hr4 hb3)
      | (go_at_call 52; refine (HPL.out _).mono ?_; rintro e x2 ⟨r3, rfl, hr3, hb2⟩; have hbx2 := below_chain hbx1 hb2; have HX2 := Hid.mk' hr3; clear hr3 hb2)
      | (go_at_call 24; refine (HC1'.out _ hcur).mono ?_; rintro e x1 ⟨rfl, hb1⟩; have hbx1 := below_chain hcur hb1; clear hb1))
  go_wp2_with fail
  go_ret
  refine ⟨congrArg (fun b => Ending.returned (.bool b)) HCM.out, ?_⟩
  have e1 := HBB.out
  have e2 := HB1.out
  subst e1
  exact below_chain e2 hbx5
end Go.Proofs.YtgfejijaipggeaaDoor

/- The document's differences. -/
namespace Go.Proofs.YtgfejijaipggeaaDoor
open Go.RowKit

set_option maxRecDepth 10000 in
set_option maxHeartbeats 4000000 in
/-- Minus: the difference, in its lowest terms. -/
theorem Minus_ratio (v1 v2 : Value) (n1 n2 : Int) (d1 d2 k : Nat) (w : World) (h1 : RatioAt w v1 n1 d1) (h2 : RatioAt w v2 n2 d2) (hd1 : 0 < d1) (hd2 : 0 < d2) (hn1 : n1.natAbs < 1000000 ^ k) (hn2 : n2.natAbs < 1000000 ^ k) (hk1 : d1 < 1000000 ^ k) (hk2 : d2 < 1000000 ^ k) (hk : k + k + 1 + 1 ≤ 1000000) :
    Calls Tryd.prog 31 #[v1, v2] w fun e w' => ∃ r, e = .returned r ∧ RatioAt w' r ((n1 * d2 + -n2 * d1).tdiv ((Nat.gcd (n1 * d2 + -n2 * d1).natAbs (d1 * d2) : Nat) : Int)) (d1 * d2 / Nat.gcd (n1 * d2 + -n2 * d1).natAbs (d1 * d2)) ∧ Below w.heap.size w w' := by
  obtain ⟨u1, q1, rfl, hu1, hq1⟩ := h1
  obtain ⟨u2, q2, rfl, hu2, hq2⟩ := h2
  obtain ⟨ad1, l1, cap1, rfl, _⟩ := hu1.len
  obtain ⟨bd1, m1, bap1, rfl, _⟩ := hq1.len
  obtain ⟨ad2, l2, cap2, rfl, _⟩ := hu2.len
  obtain ⟨bd2, m2, bap2, rfl, _⟩ := hq2.len
  obtain ⟨s1, hs1⟩ : ∃ s, decide (n1 < 0) = s := ⟨_, rfl⟩
  obtain ⟨s2, hs2⟩ : ∃ s, decide (n2 < 0) = s := ⟨_, rfl⟩
  rw [hs1, hs2]
  have hB0 : Below w.heap.size w (((w.alloc (.cells #[.bool s1, .slice ad1 l1 cap1, .slice bd1 m1 bap1] 45)).alloc (.cells #[.bool s2, .slice ad2 l2 cap2, .slice bd2 m2 bap2] 45)).alloc (.cells #[.bool false, .slice none 0 0, .slice none 0 0] 45)) := (((Below.refl _ _).alloc (Nat.le_refl _) _).alloc (by simp) _).alloc (by simp; omega) _
  have hN := noInts_third3 w (.cells #[.bool s1, .slice ad1 l1 cap1, .slice bd1 m1 bap1] 45) (.cells #[.bool s2, .slice ad2 l2 cap2, .slice bd2 m2 bap2] 45) 45
  have hNP := fun (w1 : World) => nine_past (w := w) (w1 := w1) (x0 := .bool s1) (x1 := .slice ad1 l1 cap1) (x2 := .slice bd1 m1 bap1) (y0 := .bool s2) (y1 := .slice ad2 l2 cap2) (y2 := .slice bd2 m2 bap2) (r0 := .bool false) (r1 := .slice none 0 0) (r2 := .slice none 0 0) (t := 45)
  have hz0 : w.heap.size + 1 + 1 + 1 = (((w.alloc (.cells #[.bool s1, .slice ad1 l1 cap1, .slice bd1 m1 bap1] 45)).alloc (.cells #[.bool s2, .slice ad2 l2 cap2, .slice bd2 m2 bap2] 45)).alloc (.cells #[.bool false, .slice none 0 0, .slice none 0 0] 45)).heap.size := by simp
  generalize hW : (((w.alloc (.cells #[.bool s1, .slice ad1 l1 cap1, .slice bd1 m1 bap1] 45)).alloc (.cells #[.bool s2, .slice ad2 l2 cap2, .slice bd2 m2 bap2] 45)).alloc (.cells #[.bool false, .slice none 0 0, .slice none 0 0] 45)) = W0 at hB0 hN hNP hz0
  have hKS : ∀ W, Below (w.heap.size + 1 + 1) W0 W → (W.cell? ⟨w.heap.size, 0, none⟩ = some (.bool s1) ∧ W.cell? ⟨w.heap.size, 1, none⟩ = some (.slice ad1 l1 cap1) ∧ W.cell? ⟨w.heap.size, 2, none⟩ = some (.slice bd1 m1 bap1)) ∧ (W.cell? ⟨w.heap.size + 1, 0, none⟩ = some (.bool s2) ∧ W.cell? ⟨w.heap.size + 1, 1, none⟩ = some (.slice ad2 l2 cap2) ∧ W.cell? ⟨w.heap.size + 1, 2, none⟩ = some (.slice bd2 m2 bap2)) := fun W hb => by
    obtain ⟨⟨a0, a1, a2⟩, ⟨b0, b1, b2⟩, _⟩ := hNP W0 (Below.refl _ _)
    have ha : ∀ j v, W0.cell? ⟨w.heap.size, j, none⟩ = some v → W.cell? ⟨w.heap.size, j, none⟩ = some v := fun j v h => by rw [hb.cell (p := ⟨w.heap.size, j, none⟩) (by show w.heap.size < _; omega)]; exact h
    have hb' : ∀ j v, W0.cell? ⟨w.heap.size + 1, j, none⟩ = some v → W.cell? ⟨w.heap.size + 1, j, none⟩ = some v := fun j v h => by rw [hb.cell (p := ⟨w.heap.size + 1, j, none⟩) (by show w.heap.size + 1 < _; omega)]; exact h
    exact ⟨⟨ha 0 _ a0, ha 1 _ a1, ha 2 _ a2⟩, ⟨hb' 0 _ b0, hb' 1 _ b1, hb' 2 _ b2⟩⟩
  have HS2 := Hid.mk' (show SignedAt W0.drew (.agg #[.bool s2, .slice ad2 l2 cap2]) n2 from ⟨_, by rw [hs2], (hu2.later hB0).later ((Below.refl _ _).drew)⟩)
  have HD2 := Hid.mk' ((hq2.later hB0).later ((Below.refl _ _).drew))
  have HR1 := Hid.mk' (show RatioAt W0.drew (.agg #[.bool s1, .slice ad1 l1 cap1, .slice bd1 m1 bap1]) n1 d1 from ⟨_, _, by rw [hs1], (hu1.later hB0).later ((Below.refl _ _).drew), (hq1.later hB0).later ((Below.refl _ _).drew)⟩)
  have hback := SignedBack_any _ n2 W0.drew HS2.out
  have HBACK := Hid.mk' hback
  have HKS := Hid.mk' hKS
  have HW := Hid.mk' hW
  have HNP := Hid.mk' hNP
  have HN := Hid.mk' hN
  have HB := Hid.mk' hB0
  have HBD : Hid (n1.natAbs < 1000000 ^ k ∧ (-n2).natAbs < 1000000 ^ k ∧ d1 < 1000000 ^ k ∧ d2 < 1000000 ^ k) := ⟨hn1, by rw [Int.natAbs_neg]; exact hn2, hk1, hk2⟩
  have hcur0 : Below (w.heap.size + 1 + 1) W0 W0 := Below.refl _ _
  have hcur : Below (w.heap.size + 1 + 1) W0 W0.drew := (Below.refl _ _).drew
  obtain ⟨zz, hzz⟩ : ∃ zz, zz = n1 * (d2 : Int) + -n2 * (d1 : Int) := ⟨_, rfl⟩
  rw [← hzz]
  have HZZ := Hid.mk' hzz
  clear hs1 hs2 hu1 hu2 hq1 hq2 hB0 hN hNP hW hKS hback hn1 hn2 hk1 hk2 hzz
  go_enter Tryd.func31, Tryd.ntmps31
  go_wp2_with fail
  rw [HW.out]
  go_region_held3 (fun W => (W.cell? ⟨w.heap.size, 0, none⟩ = some (.bool s1) ∧ W.cell? ⟨w.heap.size, 1, none⟩ = some (.slice ad1 l1 cap1) ∧ W.cell? ⟨w.heap.size, 2, none⟩ = some (.slice bd1 m1 bap1)) ∧ (W.cell? ⟨w.heap.size + 1, 0, none⟩ = some (.bool s2) ∧ W.cell? ⟨w.heap.size + 1, 1, none⟩ = some (.slice ad2 l2 cap2) ∧ W.cell? ⟨w.heap.size + 1, 2, none⟩ = some (.slice bd2 m2 bap2)))
    (first | exact HKS.out _ hcur0 | exact HKS.out _ hcur | exact HKS.out _ hc1 | exact HKS.out _ hc3 | exact HKS.out _ (below_set3 hc3 (Nat.le_refl _) _ _ _))
    (first
      | (go_at_call 42; refine HBACK.out.mono ?_; rintro e w1 ⟨sv, rfl, ⟨us, rfl, hus⟩, hb1⟩; obtain ⟨sg, hsg⟩ : ∃ sg, decide (-n2 < 0) = sg := ⟨_, rfl⟩; rw [hsg]; obtain ⟨ad3, l3, cap3, rfl, _⟩ := hus.len; have hbw1 := below_chain ((Below.refl _ _).drew) hb1; have hc1 : Below (w.heap.size + 1 + 1) W0 w1 := hbw1.mono (by omega); have HRA : Hid (RatioAt w1 (.agg #[.bool sg, .slice ad3 l3 cap3, .slice bd2 m2 bap2]) (-n2) d2) := ⟨_, _, by rw [hsg], hus, HD2.out.later hb1⟩; have HRB := Hid.mk' (HR1.out.later hb1); have HBW1 := Hid.mk' hbw1; clear hus hb1 hbw1 hsg)
      | (go_at_call 49; refine (Plus_ratio _ _ n1 (-n2) d1 d2 k w1 HRB.out HRA.out hd1 hd2 HBD.out.1 HBD.out.2.1 HBD.out.2.2.1 HBD.out.2.2.2 hk).mono ?_; rintro e w3 ⟨rv, rfl, hrv, hb3⟩; rw [← HZZ.out] at hrv; obtain ⟨ur, qr, rfl, hur, hqr⟩ := hrv; obtain ⟨ad5, l5, cap5, rfl, _⟩ := hur.len; obtain ⟨ad6, l6, cap6, rfl, _⟩ := hqr.len; have hbw3 := below_chain HBW1.out hb3; have hc3 : Below (w.heap.size + 1 + 1) W0 w3 := hbw3.mono (by omega); obtain ⟨_, _, ⟨c0, c1, c2⟩, f0, f1, f2⟩ := HNP.out w3 hbw3; have HUR := Hid.mk' hur; have HQR := Hid.mk' hqr; have HBW3 := Hid.mk' hbw3; clear hur hqr hb3 hbw3))
  go_wp2_with fail
  refine bodyPost_ret (v := .agg #[.bool (decide (zz.tdiv ((Nat.gcd zz.natAbs (d1 * d2) : Nat) : Int) < 0)), .slice ad5 l5 cap5, .slice ad6 l6 cap6]) (by simp [results, Tryd.results31, go_sem, c0, c1, c2]) rfl ⟨_, rfl, ⟨_, _, rfl, HUR.out.set3 (HN.out.later (by omega) HBW3.out) c0 c1, HQR.out.set3 (HN.out.later (by omega) HBW3.out) c0 c1⟩, below_set3 (below_chain HB.out HBW3.out) (by omega) _ _ _⟩

/-- What is less than nothing by a part of M. -/
theorem low_minus {M : Nat} (hM : 0 < M) (z : Int) : (0 * (lowD M z : Int) + -lowN M z * (1 : Nat)).tdiv ((Nat.gcd (0 * (lowD M z : Int) + -lowN M z * (1 : Nat)).natAbs (1 * lowD M z) : Nat) : Int) = lowN M (-z) ∧ 1 * lowD M z / Nat.gcd (0 * (lowD M z : Int) + -lowN M z * (1 : Nat)).natAbs (1 * lowD M z) = lowD M (-z) := by
  refine low_same hM (by have := lowD_pos hM z; omega) ?_
  have h1 := low_cross hM z
  rw [Nat.one_mul]
  generalize lowN M z = a at *
  generalize (lowD M z : Int) = c at *
  simp only [Int.zero_mul, Int.zero_add, Int.natCast_one, Int.mul_one]
  rw [Int.neg_mul, h1, Int.neg_mul]
/-- A part of a part: n of M times x of n is x of M. -/
theorem low_times {M n : Nat} (hM : 0 < M) (hn : 0 < n) (x : Int) : (lowN M n * lowN n x).tdiv ((Nat.gcd (lowN M n * lowN n x).natAbs (lowD M n * lowD n x) : Nat) : Int) = lowN M x ∧ lowD M n * lowD n x / Nat.gcd (lowN M n * lowN n x).natAbs (lowD M n * lowD n x) = lowD M x := by
  refine low_same hM (Nat.mul_pos (lowD_pos hM n) (lowD_pos hn x)) ?_
  have h1 := low_cross hM (n : Int)
  have h2 := low_cross hn x
  rw [Int.natCast_mul]
  generalize lowN M n = a at *
  generalize lowN n x = b at *
  generalize (lowD M n : Int) = c at *
  generalize (lowD n x : Int) = e at *
  calc a * b * (M : Int) = (a * (M : Int)) * b := by rw [Int.mul_assoc, Int.mul_comm b, ← Int.mul_assoc]
    _ = (b * (n : Int)) * c := by rw [h1, Int.mul_comm (n : Int) c, Int.mul_assoc, Int.mul_comm c, Int.mul_comm (n : Int) b]
    _ = x * (c * e) := by rw [h2, Int.mul_assoc, Int.mul_comm e c]
theorem low_self {M : Nat} (hM : 0 < M) : lowN M M = 1 ∧ lowD M M = 1 := by
  have h := low_same (M := M) (d := 1) (z := (M : Int)) (n := 1) hM (by decide) (by simp)
  simpa using And.intro h.1.symm h.2.symm
end Go.Proofs.YtgfejijaipggeaaDoor

/- What is left of low, doubled, held against 1, and less 1: the document's steps from digit to digit. -/
namespace Go.Proofs.YtgfejijaipggeaaDoor
open Go.RowKit

theorem low_double {D : Nat} (hD : 0 < D) (r : Int) : (lowN D r * 2).tdiv ((Nat.gcd (lowN D r * 2).natAbs (lowD D r * 1) : Nat) : Int) = lowN D (r * 2) ∧ lowD D r * 1 / Nat.gcd (lowN D r * 2).natAbs (lowD D r * 1) = lowD D (r * 2) := by
  refine low_same hD (Nat.mul_pos (lowD_pos hD r) Nat.one_pos) ?_
  have h1 := low_cross hD r
  rw [Nat.mul_one]
  generalize lowN D r = p at *
  generalize lowD D r = c at *
  grind
theorem low_less1 {D : Nat} (hD : 0 < D) (r : Int) : (lowN D r * ((1 : Nat) : Int) + -1 * (lowD D r : Int)).tdiv ((Nat.gcd (lowN D r * ((1 : Nat) : Int) + -1 * (lowD D r : Int)).natAbs (lowD D r * 1) : Nat) : Int) = lowN D (r - D) ∧ lowD D r * 1 / Nat.gcd (lowN D r * ((1 : Nat) : Int) + -1 * (lowD D r : Int)).natAbs (lowD D r * 1) = lowD D (r - D) := by
  refine low_same hD (Nat.mul_pos (lowD_pos hD r) Nat.one_pos) ?_
  have h1 := low_cross hD r
  rw [Nat.mul_one]
  generalize lowN D r = p at *
  generalize lowD D r = c at *
  grind
theorem double_any (v1 v2 : Value) (r D : Nat) (w : World) (h1 : RatioAt w v1 (lowN D (r : Int)) (lowD D (r : Int))) (h2 : RatioAt w v2 2 1) (hD : 0 < D) (hr : r ≤ D) (hDR : D < 1000000 ^ 20) :
    Calls Tryd.prog 22 #[v1, v2] w fun e w' => ∃ v, e = .returned v ∧ RatioAt w' v (lowN D ((r * 2 : Nat) : Int)) (lowD D ((r * 2 : Nat) : Int)) ∧ Below w.heap.size w w' := by
  have r1 := low_room hD hr hDR
  have h3 := Times_ratio v1 v2 _ _ _ _ 20 w h1 h2 (lowD_pos hD _) Nat.one_pos r1.1 (by decide) r1.2 (by decide) (by decide)
  obtain ⟨e1, e2⟩ := low_double hD (r : Int)
  rw [e1, e2, show (r : Int) * 2 = ((r * 2 : Nat) : Int) by simp] at h3
  exact h3
theorem low_room2 {M : Nat} (hM : 0 < M) {x : Nat} (hx : x ≤ 2 * M) (hR : 2 * M < 1000000 ^ 20) : (lowN M (x : Int)).natAbs < 1000000 ^ 20 ∧ lowD M (x : Int) < 1000000 ^ 20 := by
  have h1 := lowN_le hM (x : Int)
  have h2 := lowD_le M (x : Int)
  rw [Int.natAbs_natCast] at h1
  omega
theorem less1_any (v1 v2 : Value) (x D : Nat) (w : World) (h1 : RatioAt w v1 (lowN D (x : Int)) (lowD D (x : Int))) (h2 : RatioAt w v2 1 1) (hD : 0 < D) (hx : D ≤ x) (hx2 : x ≤ 2 * D) (hDR : 2 * D < 1000000 ^ 20) :
    Calls Tryd.prog 31 #[v1, v2] w fun e w' => ∃ v, e = .returned v ∧ RatioAt w' v (lowN D ((x - D : Nat) : Int)) (lowD D ((x - D : Nat) : Int)) ∧ Below w.heap.size w w' := by
  have r1 := low_room2 hD hx2 hDR
  have h3 := Minus_ratio v1 v2 _ _ _ _ 20 w h1 h2 (lowD_pos hD _) Nat.one_pos r1.1 (by decide) r1.2 (by decide) (by decide)
  obtain ⟨e1, e2⟩ := low_less1 hD (x : Int)
  rw [e1, e2, show (x : Int) - (D : Int) = ((x - D : Nat) : Int) by omega] at h3
  exact h3
/-- At least 1. -/
theorem cmp1_any (v1 v2 : Value) (x D : Nat) (w : World) (h1 : RatioAt w v1 (lowN D (x : Int)) (lowD D (x : Int))) (h2 : RatioAt w v2 1 1) (hD : 0 < D) (hx2 : x ≤ 2 * D) (hDR : 2 * D < 1000000 ^ 20) :
    Calls Tryd.prog 24 #[v1, v2] w fun e w' => ∃ c : Int, e = .returned (.int .i64 c) ∧ (0 ≤ c ↔ D ≤ x) ∧ Below w.heap.size w w' := by
  have r1 := low_room2 hD hx2 hDR
  refine (RCmp_any v1 v2 _ _ _ _ 20 w h1 h2 r1.1 (by decide) r1.2 (by decide) (by decide)).mono ?_
  rintro e w' ⟨rfl, hb⟩
  refine ⟨_, rfl, ?_, hb⟩
  have h := low_order hD Nat.one_pos (x : Int) 1
  rw [show lowN 1 1 = 1 by decide, show lowD 1 1 = 1 by decide] at h
  have hs := sgnZ_neg (lowN D (x : Int) * ((1 : Nat) : Int) - 1 * (lowD D (x : Int) : Int))
  generalize sgnZ (lowN D (x : Int) * ((1 : Nat) : Int) - 1 * (lowD D (x : Int) : Int)) = c at *
  omega
end Go.Proofs.YtgfejijaipggeaaDoor

/- Shifts and differences are new numbers. -/
namespace Go.Proofs.YtgfejijaipggeaaDoor
open Go.RowKit

set_option maxRecDepth 10000 in
set_option maxHeartbeats 1000000 in
theorem Shift_new (u : Value) (n s k : Nat) (w : World) (h : NatAt w u n) (hn0 : 0 < n) (hk : n < 18446744073709551616 ^ k) (hk6 : k ≤ 1000000) (hs : s ≤ 1000000) :
    Calls Tryd.prog 60 #[u, .int .i64 s] w fun e w' => ∃ v, e = .returned v ∧ NatNew w.heap.size w' v (n * 2 ^ s) ∧ Below w.heap.size w w' := by
  obtain ⟨i0, hi, hz0, hz1, hz2⟩ := info_parts Tryd.infoWord
  have HINF : Hid (Tryd.prog.info? 97 = some i0 ∧ i0.zero = some (.int .u64 0) ∧ i0.size = 1 ∧ i0.bytes = 8) := ⟨hi, hz0, hz1, hz2⟩
  clear hi hz0 hz1 hz2
  obtain ⟨x, hx1, hx2, hxv, hx⟩ := h
  have hlen := wlen_le_of_lt hx2 (by rw [hxv]; exact hk)
  have hpos : 0 < x.length := by
    rcases Nat.eq_zero_or_pos x.length with h0 | h0
    · rw [List.eq_nil_of_length_eq_zero h0] at hxv
      simp [wv] at hxv
      omega
    · exact h0
  obtain ⟨ad, cap, rfl⟩ := hx.form
  have HN := Hid.mk' (show NatAt w (.slice ad x.length cap) n from ⟨x, hx1, hx2, hxv, hx⟩)
  have HK := Hid.mk' hk
  clear hx1 hx2 hxv hx hk
  have hlz : ((x.length : Int) == 0) = false := by rw [beq_eq_false_iff_ne]; omega
  go_enter Tryd.func60, Tryd.ntmps60
  go_wp2_with (at_make; go_must (refine wpList_make_words _ rfl _ _ _ rfl i0 Tryd.underlying65 HINF.out _ _ _ _ (s / 64) (s / 64 + x.length + 1) rfl rfl (by omega) (by omega) (by omega) (by omega) ?_; intro w1 hown hbel; have HO := Hid.mk' hown; have HB1 := Hid.mk' hbel; clear hown hbel))
  rw [(shl_word (show s % 64 < 64 by omega)).1]
  refine (Times_any _ n (2 ^ (s % 64)) k w1 (HN.out.later HB1.out) (Nat.two_pow_pos _) (shl_word (show s % 64 < 64 by omega)).2 HK.out hk6).mono ?_
  rintro e w2 ⟨v, rfl, ⟨y, hy1, hy2, hyv, hy⟩, hb2⟩
  have HO2 := Hid.mk' (ownsRow_below HO.out hb2)
  have HB2 := Hid.mk' (below_chain HB1.out hb2)
  clear HO
  rcases hy with ⟨ad', cap', rfl, rfl⟩ | ⟨b', o', cap', rfl, hyc, hyp, hyl⟩
  · exfalso
    have := Nat.mul_pos hn0 (Nat.two_pow_pos (s % 64))
    simp [wv] at hyv
    omega
  have hyn := wlen_le_of_lt hy2 (k := k + 1) (by
    rw [hyv, Nat.pow_succ]
    exact Nat.mul_lt_mul'' HK.out (shl_word (show s % 64 < 64 by omega)).2)
  have HY := Hid.mk' hyl
  have HYV := Hid.mk' hyv
  have HY1 := Hid.mk' hy1
  have HY2 := Hid.mk' hy2
  have hz2 := HB2.out.size
  clear hyl hyv hy1 hy2 hb2
  go_wp2_with (at_builtin; go_must (refine wpList_append_lies _ rfl _ _ _ rfl w.heap.size 97 i0 _ 1 8 Tryd.underlying65 HINF.out.1 HINF.out.2.1 HINF.out.2.2.1 HINF.out.2.2.2 rfl (by omega) _ _ _ rfl HO2.out ⟨b', o', none⟩ y.length cap' (wordCells y) rfl (by rw [wordCells_length]; omega) (wordCells_news HY.out) (wordCells_one y) hyp (by unfold maxLen; rw [List.length_replicate]; omega) (by rw [List.length_replicate]; omega) hz2 _ rfl ?_; intro g' cap'' w3 hown3 hgrow3 hat3 hlt3; have HO3 := Hid.mk' hown3; have HG3 := Hid.mk' hgrow3; clear hown3 hgrow3 hat3))
  go_ret
  have ho : w3.ownsRow w.heap.size 97 1 (.slice (some ⟨g', 0, none⟩) (s / 64 + y.length) cap'') (List.replicate (s / 64) 0 ++ y).length (wordCells (List.replicate (s / 64) 0 ++ y)) := by
    rw [wordCells_join]; simpa using HO3.out
  refine ⟨_, rfl, ⟨⟨List.replicate (s / 64) 0 ++ y, wrd_join (wrd_zeros _) HY1.out, noEnd_join HY2.out hyp, by rw [wv_zeros_then, HYV.out, shift_val], by simpa using wordsAt_of_row ho⟩, new_row ho⟩, HB2.out.grown HG3.out hz2 (fun j hj => Nat.le_of_eq (Option.some.inj (show some w.heap.size = some j from hj)))⟩

set_option maxRecDepth 10000 in
set_option maxHeartbeats 2000000 in
theorem Minus_wordsN (u v : Value) (x y : List Nat) (w : World) (hx : Wrd x) (hy : Wrd y) (h1 : WordsAt w u x) (h2 : WordsAt w v y) (hyx : y.length ≤ x.length) (hle : wv y ≤ wv x) (hl : x.length ≤ 1000000) :
    Calls Tryd.prog 61 #[u, v] w fun e w' => ∃ r, e = .returned r ∧ NatNew w.heap.size w' r (wv x - wv y) ∧ Below w.heap.size w w' := by
  obtain ⟨i0, hi, hz0, hz1, hz2⟩ := info_parts Tryd.infoWord
  have HINF : Hid (Tryd.prog.info? 97 = some i0 ∧ i0.zero = some (.int .u64 0) ∧ i0.size = 1 ∧ i0.bytes = 8) := ⟨hi, hz0, hz1, hz2⟩
  clear hi hz0 hz1 hz2
  obtain ⟨a1, c1, rfl⟩ := h1.form
  obtain ⟨a2, c2, rfl⟩ := h2.form
  have H1 := Hid.mk' h1
  have H2 := Hid.mk' h2
  have HX := Hid.mk' hx
  have HY := Hid.mk' hy
  have HLE := Hid.mk' hle
  clear h1 h2 hx hy hle
  go_enter Tryd.func61, Tryd.ntmps61
  go_wp2_with (at_make; go_must (refine wpList_make_full _ rfl _ _ _ rfl w.heap.size 97 i0 _ 1 Tryd.underlying65 HINF.out.1 HINF.out.2.1 HINF.out.2.2.1 .i64 .i64 _ _ x.length rfl rfl rfl rfl (by rw [HINF.out.2.2.2]; omega) (by unfold maxLen; omega) (Nat.le_refl _) ?_; intro w1 hown hgrow; have HW := Hid.mk' (wfill_made hown (made_word x.length) hgrow); clear hown hgrow))
  go_loopw [6, 14] (fun t i wr => ∃ (k c : Nat) (l : List Nat), i = .int .i64 k ∧ t = .int .u64 c ∧ k ≤ x.length ∧ c ≤ 1 ∧ Hid (l.length = x.length) ∧ Hid (wv (l.take k) + wv (y.take k) = wv (x.take k) + 18446744073709551616 ^ k * c ∧ Wrd l) ∧ Hid (WFill w wr w.heap.size l)) (fun _ i _ => x.length - (intOf i).toNat)
  case atStart => exact ⟨0, 0, List.replicate x.length 0, rfl, rfl, by omega, by omega, by show _ = _; simp, ⟨by simp [wv], wrd_zeros _⟩, HW⟩
  case round =>
    clear HW
    obtain ⟨k, c, l, rfl, rfl, hk, hc, HLN, HV, HW⟩ := hrel
    have hk0 : (0 : Int) ≤ (k : Int) := by omega
    by_cases hlt : k < x.length
    · obtain ⟨b1, o1, e1, hc1⟩ := (H1.out.later HW.out.below).cellAt hlt
      subst e1
      have hkI : (k : Int) < (x.length : Int) := by omega
      have hwd := word_any _ y k wr (H2.out.later HW.out.below) (by omega) (by omega)
      have hdx := getD_lt HX.out k
      have hdy := getD_lt HY.out k
      have hcell := HW.out.row k (by have := HLN.out; omega)
      have hfz := HW.out.fz k (by have := HLN.out; omega)
      obtain ⟨d, hd⟩ : ∃ d : Nat, d = x.getD k 0 := ⟨_, rfl⟩
      obtain ⟨f, hf⟩ : ∃ f : Nat, f = y.getD k 0 := ⟨_, rfl⟩
      have HD := Hid.mk' hd
      have HF := Hid.mk' hf
      rw [← hd] at hc1 hdx
      rw [← hf] at hwd hdy
      clear hd hf
      go_wp2_with fail
      refine hwd.mono ?_
      clear hwd
      rintro e w2 ⟨rfl, hw2⟩
      go_wp2_with fail
      rw [Sub64_borrow d f c wr hc]
      go_wp2_with fail
      have hln := HLN.out
      have hset := HW.out.set (j := k) (by omega) ((d + 18446744073709551616 - f - c) % 18446744073709551616)
      have hst := minus_step (l := l.take k) (x := x) (y := y) (k := k) (c := c) (by rw [List.length_take]; omega) hc (by rw [← HD.out]; exact hdx) (by rw [← HF.out]; exact hdy) HV.out.1
      rw [← HD.out, ← HF.out] at hst
      have hmod : (d + 18446744073709551616 + 18446744073709551616 - f - c) % 18446744073709551616 = (d + 18446744073709551616 - f - c) % 18446744073709551616 := by omega
      rw [hmod] at hst
      have htk : (l.set k ((d + 18446744073709551616 - f - c) % 18446744073709551616)).take (k + 1) = l.take k ++ [(d + 18446744073709551616 - f - c) % 18446744073709551616] := by
        rw [wtake_succ_getD _ k (by rw [List.length_set]; omega), getD_set l k _ k (by omega), if_pos rfl, List.take_set_of_le (Nat.le_refl _)]
      refine ⟨⟨k + 1, if d < f + c then 1 else 0, l.set k ((d + 18446744073709551616 - f - c) % 18446744073709551616), by go_num, rfl, by omega, by split <;> omega, by show _ = _; rw [List.length_set]; exact hln, ⟨by rw [htk]; exact hst, HV.out.2.set k _ (by omega) (Nat.mod_lt _ (by decide))⟩, hset⟩, by simp [intOf]; omega⟩
    · obtain rfl : k = x.length := by omega
      have hln := HLN.out
      have hval : Hid (wv l = wv x - wv y) := by
        have h := HV.out.1
        rw [List.take_length, List.take_of_length_le hyx, List.take_of_length_le (by omega)] at h
        have hb := wv_lt l HV.out.2
        rw [hln] at hb
        have hle := HLE.out
        have : c = 0 := by
          rcases Nat.eq_zero_or_pos c with h0 | h0
          · exact h0
          · obtain rfl : c = 1 := by omega
            rw [Nat.mul_one] at h
            omega
        rw [this, Nat.mul_zero, Nat.add_zero] at h
        show _ = _
        omega
      have HWR := Hid.mk' HV.out.2
      clear HV
      go_wp2_with fail
      obtain ⟨Wr, hWr⟩ : ∃ Wr, Wr = wr := ⟨_, rfl⟩
      rw [← hWr] at HW ⊢
      clear hWr
      go_loop [5] (fun s => ∃ m : Nat, m ≤ x.length ∧ s = .slice (some ⟨w.heap.size, 0, none⟩) m x.length ∧ Hid (∀ i, m ≤ i → i < l.length → l.getD i 0 = 0)) (fun s => match s with | .slice _ m _ => m | _ => 0)
      case atStart => exact ⟨x.length, Nat.le_refl _, rfl, fun i h1 h2 => by omega⟩
      case round =>
        obtain ⟨m, hm, rfl, HZ⟩ := hrel
        rcases Nat.eq_zero_or_pos m with rfl | hp
        · go_wp2_with fail
          go_ret
          refine ⟨_, rfl, ⟨⟨l.take 0, HWR.out.take 0, fun i hi => by simp at hi, ?_, HW.out.words (by omega) (by omega)⟩, fun b o l' c hv hl => by simp at hv; omega⟩, HW.out.below⟩
          rw [wv_zeros l 0 (by omega) (fun i h1 h2 => HZ.out i h1 h2)]; exact hval.out
        · obtain ⟨j, rfl⟩ : ∃ j, m = j + 1 := ⟨m - 1, by omega⟩
          have hcell := HW.out.row j (by omega)
          have hj0 : (0 : Int) ≤ (j : Int) := by omega
          have hjI : (j : Int) < ((j + 1 : Nat) : Int) := by omega
          obtain ⟨d, hd⟩ : ∃ d : Nat, d = l.getD j 0 := ⟨_, rfl⟩
          rw [← hd] at hcell
          have HD := Hid.mk' hd
          clear hd
          by_cases hd0 : d = 0
          · have hb : ((d : Int) == 0) = true := by simp [hd0]
            have HZ' : Hid (∀ i, j ≤ i → i < l.length → l.getD i 0 = 0) := fun i h1 h2 => by
              rcases Nat.lt_or_ge j i with h' | h'
              · exact HZ.out i h' h2
              · obtain rfl : i = j := by omega
                rw [← HD.out]; exact hd0
            clear hd0 HZ
            go_wp2_with fail
            exact ⟨⟨j, by omega, by simp, HZ'⟩, by simp⟩
          · have hb : ((d : Int) == 0) = false := by simp [hd0]
            have HD0 := Hid.mk' hd0
            clear hd0
            go_wp2_with fail
            go_ret
            refine ⟨_, rfl, ⟨⟨l.take (j + 1), HWR.out.take _, fun i hi => ?_, ?_, HW.out.words (by omega) (by omega)⟩, fun b o l' c hv hl => by simp at hv; omega⟩, HW.out.below⟩
            · have : i = j := by rw [List.length_take] at hi; omega
              subst this
              rw [wgetD_take (by omega), ← HD.out]; exact HD0.out
            · rw [wv_zeros l (j + 1) (by omega) (fun i h1 h2 => HZ.out i h1 h2)]; exact hval.out


theorem Minus_new (u v : Value) (a b k : Nat) (w : World) (ha : NatAt w u a) (hb : NatAt w v b) (hle : b ≤ a) (hka : a < 18446744073709551616 ^ k) (hk : k ≤ 1000000) :
    Calls Tryd.prog 61 #[u, v] w fun e w' => ∃ r, e = .returned r ∧ NatNew w.heap.size w' r (a - b) ∧ Below w.heap.size w w' := by
  obtain ⟨x, hx1, hx2, rfl, hx⟩ := ha
  obtain ⟨y, hy1, hy2, rfl, hy⟩ := hb
  have lx := wlen_le_of_lt hx2 hka
  refine Minus_wordsN u v x y w hx1 hy1 hx hy ?_ hle (by omega)
  rcases Nat.lt_or_ge x.length y.length with h | h
  · have := wv_lt_of_len hx1 hy2 h; omega
  · exact h
/-- Shifted by one, whatever it is. -/
theorem Shift_one (u : Value) (n k : Nat) (w : World) (h : NatAt w u n) (hk : n < 18446744073709551616 ^ k) (hk6 : k ≤ 1000000) :
    Calls Tryd.prog 60 #[u, .int .i64 1] w fun e w' => ∃ v, e = .returned v ∧ NatNew w.heap.size w' v (n * 2) ∧ Below w.heap.size w w' := by
  rcases Nat.eq_zero_or_pos n with h0 | h0
  · subst h0
    obtain ⟨x, hx1, hx2, hxv, hx⟩ := h
    have hnil : x = [] := by
      rcases Nat.eq_zero_or_pos x.length with h1 | h1
      · exact List.eq_nil_of_length_eq_zero h1
      · exfalso
        have h2 := wlen_le_of_lt hx2 (k := 0) (by rw [hxv]; decide)
        omega
    subst hnil
    obtain ⟨ad, cap, rfl⟩ := hx.form
    clear hx hx1 hx2 hxv hk
    go_enter Tryd.func60, Tryd.ntmps60
    go_wp2_with fail
    go_ret
    exact ⟨_, rfl, ⟨⟨[], fun i hi => by simp at hi, fun i hi => by simp at hi, by simp [wv], Or.inl ⟨_, _, rfl, rfl⟩⟩, fun b o l c hv hl => by simp at hv⟩, Below.refl _ _⟩
  · exact Shift_new u n 1 k w h h0 hk hk6 (by decide)
end Go.Proofs.YtgfejijaipggeaaDoor

/- The shortest text of an interval: arith.span.text, arith.Encode. -/
namespace Go.Proofs.YtgfejijaipggeaaDoor
open Go.RowKit

/-- What is left of low behind its first digits; how wide the interval must be. -/
def needN (D r : Nat) : Nat := if r = 0 then D else D + (D - r)
structure Txt (L W D J u : Nat) : Prop where
  fit : needN D (L * 2 ^ J % D) ≤ W * 2 ^ J
  first : ∀ j, j < J → W * 2 ^ j < needN D (L * 2 ^ j % D)
  up : u = if L * 2 ^ J % D = 0 then L * 2 ^ J / D else L * 2 ^ J / D + 1
theorem needN_le {D r : Nat} : needN D r ≤ 2 * D := by unfold needN; split <;> omega
theorem quo_lt {L D j : Nat} (hL : L < D) : L * 2 ^ j / D < 2 ^ j := (Nat.div_lt_iff_lt_mul (by omega)).2 (by rw [Nat.mul_comm (2 ^ j)]; exact Nat.mul_lt_mul_of_pos_right hL (Nat.pow_pos (by decide)))
theorem mod_step {L D j : Nat} (hD : 0 < D) : (D ≤ L * 2 ^ j % D * 2 → L * 2 ^ (j + 1) % D = L * 2 ^ j % D * 2 - D ∧ L * 2 ^ (j + 1) / D = 2 * (L * 2 ^ j / D) + 1) ∧ (L * 2 ^ j % D * 2 < D → L * 2 ^ (j + 1) % D = L * 2 ^ j % D * 2 ∧ L * 2 ^ (j + 1) / D = 2 * (L * 2 ^ j / D)) := by
  have h1 := Nat.div_add_mod (L * 2 ^ j) D
  have h2 := Nat.mod_lt (L * 2 ^ j) hD
  have e : L * 2 ^ (j + 1) = L * 2 ^ j * 2 := by rw [Nat.pow_succ, Nat.mul_assoc]
  rw [e]
  generalize L * 2 ^ j = x at *
  generalize x / D = q at *
  generalize x % D = r at *
  constructor
  · intro h
    have e2 : x * 2 = (r * 2 - D) + D * (2 * q + 1) := by rw [Nat.mul_add, Nat.mul_one, Nat.mul_left_comm]; omega
    rw [e2]
    exact ⟨by rw [Nat.add_mul_mod_self_left, Nat.mod_eq_of_lt (by omega)], by rw [Nat.add_mul_div_left _ _ hD, Nat.div_eq_of_lt (by omega)]; omega⟩
  · intro h
    have e2 : x * 2 = r * 2 + D * (2 * q) := by rw [Nat.mul_left_comm]; omega
    rw [e2]
    exact ⟨by rw [Nat.add_mul_mod_self_left, Nat.mod_eq_of_lt h], by rw [Nat.add_mul_div_left _ _ hD, Nat.div_eq_of_lt h]; omega⟩
theorem txt_room {L W D J u : Nat} (h : Txt L W D J u) (hD : 0 < D) (hLW : L + W ≤ D) : (u + 1) * D ≤ (L + W) * 2 ^ J ∧ L * 2 ^ J ≤ u * D ∧ u < 2 ^ J ∧ (L * 2 ^ J % D ≠ 0 → L * 2 ^ J / D + 1 < 2 ^ J) := by
  have h1 := Nat.div_add_mod (L * 2 ^ J) D
  have h2 := Nat.mod_lt (L * 2 ^ J) hD
  have hf := h.fit
  have hu := h.up
  have h3 : (L + W) * 2 ^ J ≤ D * 2 ^ J := Nat.mul_le_mul_right _ hLW
  have e : (L + W) * 2 ^ J = L * 2 ^ J + W * 2 ^ J := Nat.add_mul _ _ _
  rw [e] at h3 ⊢
  generalize W * 2 ^ J = y at *
  generalize L * 2 ^ J = x at *
  generalize hq : x / D = q at *
  generalize x % D = r at *
  by_cases hr : r = 0
  · unfold needN at hf
    rw [if_pos hr] at hf hu
    subst hu
    have a1 : (u + 1) * D ≤ x + y := by rw [Nat.add_mul, Nat.one_mul, Nat.mul_comm u D]; omega
    refine ⟨a1, by rw [Nat.mul_comm u D]; omega, ?_, fun h => absurd hr h⟩
    have a2 : (u + 1) * D ≤ 2 ^ J * D := by rw [Nat.mul_comm (2 ^ J)]; omega
    have := Nat.le_of_mul_le_mul_right a2 hD
    omega
  · unfold needN at hf
    rw [if_neg hr] at hf hu
    subst hu
    have a1 : (q + 1 + 1) * D ≤ x + y := by rw [Nat.add_mul, Nat.add_mul, Nat.one_mul, Nat.mul_comm q D]; omega
    have a2 : (q + 1 + 1) * D ≤ 2 ^ J * D := by rw [Nat.mul_comm (2 ^ J)]; omega
    have a3 := Nat.le_of_mul_le_mul_right a2 hD
    refine ⟨a1, by rw [Nat.add_mul, Nat.one_mul, Nat.mul_comm q D]; omega, by omega, fun _ => by omega⟩
set_option maxRecDepth 100000 in
set_option maxHeartbeats 1000000 in
theorem needed_any (u0 u1 u2 u : Value) (D r k : Nat) (w : World) (h0 : ∃ a l c, u0 = .slice a l c) (h1 : ∃ a l c, u1 = .slice a l c) (hD : NatAt w u2 D) (hr : NatAt w u r) (hrD : r ≤ D) (hk : D < 18446744073709551616 ^ k) (hk6 : k ≤ 1000000) :
    Calls Tryd.prog 58 #[.agg #[u0, u1, u2], u] w fun e w' => ∃ v, e = .returned v ∧ NatAt w' v (needN D r) ∧ Below w.heap.size w w' := by
  obtain ⟨a0, l0, c0, rfl⟩ := h0
  obtain ⟨a1, l1, c1, rfl⟩ := h1
  obtain ⟨a2, l2, c2, rfl⟩ := hD.isSl
  obtain ⟨W0, hW0⟩ : ∃ W0, w.alloc (.cells #[.slice a0 l0 c0, .slice a1 l1 c1, .slice a2 l2 c2] 67) = W0 := ⟨_, rfl⟩
  have hb0 : Below w.heap.size w W0 := by rw [← hW0]; exact (Below.refl _ _).alloc (Nat.le_refl _) _
  have x2 : W0.cell? ⟨w.heap.size, 2, none⟩ = some (.slice a2 l2 c2) := by rw [← hW0]; simp
  have HD := Hid.mk' (hD.later hb0)
  have HR := Hid.mk' (hr.later hb0)
  have HB := Hid.mk' hb0
  obtain ⟨x, hx1, hx2, hxv, hx⟩ := hr
  obtain ⟨ad, cap, rfl⟩ := hx.form
  have HX : Hid (x.length = 0 ↔ r = 0) := by
    constructor
    · intro h; rw [← hxv, List.eq_nil_of_length_eq_zero h]; rfl
    · intro h
      have h2 := wlen_le_of_lt hx2 (k := 0) (by rw [hxv, h]; decide)
      omega
  clear hx hx1 hx2 hxv hD hb0
  have HW := Hid.mk' hW0
  clear hW0
  by_cases hr0 : r = 0
  · have hl : x.length = 0 := HX.out.2 hr0
    have HN : Hid (needN D r = D) := if_pos hr0
    rw [hl] at HR ⊢
    go_enter Tryd.func58, Tryd.ntmps58
    go_upto_region 1 with fail
    rw [HW.out]
    go_wp2_with fail
    go_ret
    exact ⟨_, rfl, by rw [HN.out]; exact HD.out, HB.out⟩
  · have hl : ((x.length : Int) == 0) = false := by rw [beq_eq_false_iff_ne]; have : x.length ≠ 0 := fun h => hr0 (HX.out.1 h); omega
    have HN : Hid (needN D r = D + (D - r)) := if_neg hr0
    have HMI := Hid.mk' (fun (W : World) (hb : Below W0.heap.size W0 W) => Minus_any (.slice a2 l2 c2) (.slice ad x.length cap) D r k W (HD.out.later hb) (HR.out.later hb) hrD hk hk6)
    have HPL := Hid.mk' (fun (W : World) (v : Value) (hb : Below W0.heap.size W0 W) (hv : NatAt W v (D - r)) => Plus_any (.slice a2 l2 c2) v D (D - r) k W (HD.out.later hb) hv hk (by omega) hk6)
    have HKS : Hid (∀ W, Below W0.heap.size W0 W → W.cell? ⟨w.heap.size, 2, none⟩ = some (.slice a2 l2 c2)) := fun W hb => by rw [hb.cell (cell_lt x2)]; exact x2
    have hcur0 : Below W0.heap.size W0 W0 := Below.refl _ _
    have hcur : Below W0.heap.size W0 W0.drew := (Below.refl _ _).drew
    clear hr0 HX x2
    go_enter Tryd.func58, Tryd.ntmps58
    go_upto_region 1 with fail
    rw [HW.out]
    go_wp2_with fail
    go_region_held3 (fun W => W.cell? ⟨w.heap.size, 2, none⟩ = some (.slice a2 l2 c2))
      (first | exact HKS.out _ hcur0 | exact HKS.out _ hcur | exact HKS.out _ hbw1 | exact HKS.out _ hbw2)
      (first
        | (go_at_call 57; refine (HPL.out _ _ hbw1 HX1.out).mono ?_; rintro e w2 ⟨r2, rfl, hr2, hb2⟩; have hbw2 := below_chain hbw1 hb2; have HX2 := Hid.mk' hr2; clear hr2 hb2)
        | (go_at_call 61; refine (HMI.out _ hcur).mono ?_; rintro e w1 ⟨r1, rfl, hr1, hb1⟩; have hbw1 := below_chain hcur hb1; have HX1 := Hid.mk' hr1; clear hr1 hb1))
    go_wp2_with fail
    go_ret
    exact ⟨_, rfl, by rw [HN.out]; exact HX2.out, below_chain HB.out hbw2⟩
end Go.Proofs.YtgfejijaipggeaaDoor

/- Which text fits: the document's test and the program's are the same. -/
namespace Go.Proofs.YtgfejijaipggeaaDoor

theorem fit_even {L W D j : Nat} (hr : L * 2 ^ j % D = 0) : ((L * 2 ^ j / D + 1) * D ≤ (L + W) * 2 ^ j ↔ needN D (L * 2 ^ j % D) ≤ W * 2 ^ j) ∧ L * 2 ^ j ≤ L * 2 ^ j / D * D := by
  have h1 := Nat.div_add_mod (L * 2 ^ j) D
  rw [hr, Nat.add_zero, Nat.mul_comm] at h1
  unfold needN
  rw [if_pos hr, Nat.add_mul, Nat.one_mul, h1, Nat.add_mul]
  exact ⟨by omega, Nat.le_refl _⟩
theorem fit_odd {L W D j : Nat} (hD : 0 < D) (hr : L * 2 ^ j % D ≠ 0) : ((L * 2 ^ j / D + 1 + 1) * D ≤ (L + W) * 2 ^ j ↔ needN D (L * 2 ^ j % D) ≤ W * 2 ^ j) ∧ L * 2 ^ j ≤ (L * 2 ^ j / D + 1) * D := by
  have h1 := Nat.div_add_mod (L * 2 ^ j) D
  have h2 := Nat.mod_lt (L * 2 ^ j) hD
  rw [Nat.mul_comm] at h1
  unfold needN
  rw [if_neg hr, Nat.add_mul, Nat.add_mul, Nat.one_mul, Nat.add_mul]
  generalize L * 2 ^ j % D = r at *
  generalize L * 2 ^ j / D * D = q at *
  omega
/-- All ones: none fits. -/
theorem fit_none {L W D j : Nat} (hD : 0 < D) (hLW : L + W ≤ D) (hr : L * 2 ^ j % D ≠ 0) (hq : ¬ L * 2 ^ j / D + 1 < 2 ^ j) : ¬ needN D (L * 2 ^ j % D) ≤ W * 2 ^ j := by
  intro hn
  have h3 := (fit_odd (W := W) hD hr).1.2 hn
  have h4 : (L + W) * 2 ^ j ≤ D * 2 ^ j := Nat.mul_le_mul_right _ hLW
  have h5 : (2 ^ j + 1) * D ≤ (L * 2 ^ j / D + 1 + 1) * D := Nat.mul_le_mul_right _ (by omega)
  rw [Nat.add_mul, Nat.one_mul, Nat.mul_comm (2 ^ j) D] at h5
  omega
theorem quo_full {L D j : Nat} (hL : L < D) (hq : ¬ L * 2 ^ j / D + 1 < 2 ^ j) : L * 2 ^ j / D + 1 = 2 ^ j := by
  have := quo_lt (j := j) hL
  omega
/-- What a text that fits first is, is said by Txt alone. -/
theorem txt_only {L W D J u J' u' : Nat} (h : Txt L W D J u) (h' : Txt L W D J' u') : J = J' ∧ u = u' := by
  have e : J = J' := by
    rcases Nat.lt_trichotomy J J' with h1 | h1 | h1
    · have := h'.first J h1; have := h.fit; omega
    · exact h1
    · have := h.first J' h1; have := h'.fit; omega
  subst e
  exact ⟨rfl, by rw [h.up, h'.up]⟩
end Go.Proofs.YtgfejijaipggeaaDoor

/- For the document's EncodeOf: the last bits of a length, and when a fraction is nothing. -/
namespace Go.Proofs.YtgfejijaipggeaaDoor
open Go.RowKit

theorem bitsL_ones : ∀ (d q : Nat), q + 1 = 2 ^ d → bitsL q d = List.replicate d 49
  | 0, q, h => rfl
  | d + 1, q, h => by
    rw [Nat.pow_succ] at h
    rw [bitsL, bitsL_ones d (q / 2) (by omega), show q % 2 = 1 by omega, List.replicate_succ']
    rfl
theorem lowN_zero {D : Nat} (hD : 0 < D) (r : Nat) : lowN D (r : Int) = 0 ↔ r = 0 := by
  have h1 := low_cross hD (r : Int)
  have h2 := lowD_pos hD (r : Int)
  constructor
  · intro h
    rw [h, Int.zero_mul] at h1
    have := Int.mul_eq_zero.1 h1.symm
    omega
  · intro h
    subst h
    have : lowN D ((0 : Nat) : Int) * (D : Int) = 0 := by rw [h1]; simp
    rcases Int.mul_eq_zero.1 this with h | h
    · exact h
    · omega
end Go.Proofs.YtgfejijaipggeaaDoor

/- The shortest text of an interval, digit by digit: (arith.span).text. -/
namespace Go.Proofs.YtgfejijaipggeaaDoor
open Go.RowKit

theorem Tryd.infoByte : (Tryd.prog.info? 5).map (fun i => (i.zero, i.size, i.bytes)) = some (some (.int .u8 0), 1, 1) := by kernel_rfl
def byteCells (l : List UInt8) : List Value := l.map fun c => .int .u8 ((c.toNat : Nat) : Int)
theorem NatAt.kept {w w' : World} {row : Option Nat} {v : Value} {n : Nat} (h : NatAt w v n) (hg : w.grownBy w' row) (ho : ∀ b o l c, v = .slice (some ⟨b, o, none⟩) l c → 0 < l → some b ≠ row) : NatAt w' v n := by
  obtain ⟨x, h1, h2, h3, hx⟩ := h
  refine ⟨x, h1, h2, h3, ?_⟩
  rcases hx with hx | ⟨b, o, cap, e1, e2, e3, e4⟩
  · exact Or.inl hx
  · refine Or.inr ⟨b, o, cap, e1, e2, e3, fun i hi => ?_⟩
    rw [World.cell?_of_block (hg.block b (cell_lt (e4 i hi)) (ho b o _ cap e1 e3))]
    exact e4 i hi
theorem NatNew.kept {B e : Nat} {w wr w' : World} {X : Obj} {d v : Value} {n j : Nat} {xs : List Value} (h : NatNew wr.heap.size w v n) (hd : wr.ownsRow B e 1 d j xs) (hg : (w.alloc X).grownBy w' d.ownBlock) : NatAt w' v n :=
  (h.1.later ((Below.refl _ _).alloc (Nat.le_refl _) X)).kept hg fun b o l c hv hl hb => by
    have h1 := h.2 b o l c hv hl
    have h2 := (hd.lt b hb.symm).2
    omega
theorem bfill_of {w wr : World} {B j : Nat} {d : Value} {l : List UInt8} (h : wr.ownsRow B 5 1 d j (byteCells l)) (hj : 0 < j) (hB : w.heap.size ≤ B) (hb : Below w.heap.size w wr) : ∃ g cap, d = .slice (some ⟨g, 0, none⟩) j cap ∧ BFill w wr g l := by
  obtain ⟨g, cap, rfl, h1, h2⟩ := h.form hj
  have hl : l.length = j := by have := h.1; simpa [byteCells] using this
  refine ⟨g, cap, rfl, fun i hi => ?_, fun i hi => h.frozenAt i, hb, by omega⟩
  rw [h.cellAt i (by omega)]
  simp [byteCells, hi]
theorem bytes_text {w wr : World} {g : Nat} {l : List UInt8} (h : BFill w wr g l) (cap n : Nat) (hn : l.length = n) : (convert 100 9 (.slice (some ⟨g, 0, none⟩) n cap)).run Tryd.prog wr = .ok (.string ⟨l.toArray⟩) wr := by
  have h1 := run_convert_bytes_arg (P := Tryd.prog) wr 100 5 Tryd.underlying100 Tryd.underlying5 g 0 n cap (l.map fun c => (c.toNat : Int)) (by rw [List.length_map, hn]) (fun i hi => by
    rw [Nat.zero_add, h.row i (by omega)]
    simp [List.getD, hn, hi]) 9 Tryd.underlying9
  rw [h1, strOfNums, List.map_map, show ((fun n : Int => UInt8.ofNat n.toNat) ∘ fun c : UInt8 => (c.toNat : Int)) = id from funext fun c => by simp, List.map_id]
theorem nil_text (wr : World) : (convert 100 9 (.slice none 0 0)).run Tryd.prog wr = .ok (.string ⟨#[]⟩) wr := by
  unfold convert
  simp [Sem.run_bind]
  rfl
theorem NatAt.len {w : World} {v : Value} {n : Nat} (h : NatAt w v n) : ∃ ad l cap, v = .slice ad l cap ∧ (l = 0 ↔ n = 0) := by
  obtain ⟨x, hx1, hx2, hxv, hx⟩ := h
  obtain ⟨ad, cap, rfl⟩ := hx.form
  refine ⟨ad, x.length, cap, rfl, ?_⟩
  constructor
  · intro h; rw [← hxv, List.eq_nil_of_length_eq_zero h]; rfl
  · intro h
    have h2 := wlen_le_of_lt hx2 (k := 0) (by rw [hxv, h]; decide)
    omega
theorem row_text {wr : World} {B j : Nat} {d : Value} {l : List UInt8} (h : wr.ownsRow B 5 1 d j (byteCells l)) : (convert 100 9 d).run Tryd.prog wr = .ok (.string ⟨l.toArray⟩) wr := by
  have hl : l.length = j := by have := h.1; simpa [byteCells] using this
  rcases h.2 with ⟨rfl, h0⟩ | ⟨g, cap, cur, rfl, hb, hg, _⟩
  · rw [List.eq_nil_of_length_eq_zero (hl.trans h0)]; exact nil_text wr
  · have h1 := run_convert_bytes_arg (P := Tryd.prog) wr 100 5 Tryd.underlying100 Tryd.underlying5 g 0 j cap (l.map fun c => (c.toNat : Int)) (by rw [List.length_map, hl]) (fun i hi => by
      rw [Nat.zero_add, h.cellAt i (by omega)]
      simp [byteCells, List.getD, hl, hi]) 9 Tryd.underlying9
    rw [h1, strOfNums, List.map_map, show ((fun n : Int => UInt8.ofNat n.toNat) ∘ fun c : UInt8 => (c.toNat : Int)) = id from funext fun c => by simp, List.map_id]
theorem NatNew.mono' {B B' : Nat} {w w' : World} {v : Value} {n : Nat} (h : NatNew B w v n) (hB : B' ≤ B) (hb : Below w.heap.size w w') : NatNew B' w' v n :=
  ⟨h.1.later hb, fun b o l c hv hl => Nat.le_trans hB (h.2 b o l c hv hl)⟩
/-- What the loop holds. -/
structure TxtAt (B L W D j : Nat) (d u v : Value) (w0 wr : World) : Prop where
  row : wr.ownsRow B 5 1 d j (byteCells (bitsL (L * 2 ^ j / D) j))
  rest : NatAt wr u (L * 2 ^ j % D)
  width : NatAt wr v (W * 2 ^ j)
  below : Below B w0 wr
  first : ∀ i, i < j → W * 2 ^ i < needN D (L * 2 ^ i % D)
  small : j = 0 ∨ W * 2 ^ j < 4 * D
theorem bitsL_add (q j b : Nat) (hb : b < 2) : bitsL (2 * q + b) (j + 1) = bitsL q j ++ [UInt8.ofNat (48 + b)] := by
  rw [bitsL, show (2 * q + b) / 2 = q by omega, show (2 * q + b) % 2 = b by omega]
set_option maxRecDepth 100000 in
set_option maxHeartbeats 4000000 in
theorem text_any (u0 u1 u2 : Value) (L W D k : Nat) (w : World) (hL : NatAt w u0 L) (hW : NatAt w u1 W) (hD : NatAt w u2 D) (hLD : L < D) (hWp : 0 < W) (hLW : L + W ≤ D) (hk : 4 * D < 18446744073709551616 ^ k) (hk6 : k ≤ 1000) :
    Calls Tryd.prog 34 #[.agg #[u0, u1, u2]] w fun e w' => ∃ J u, e = .returned (.string ⟨(bitsL u J).toArray⟩) ∧ Txt L W D J u ∧ J ≤ 64 * k ∧ Below w.heap.size w w' := by
  obtain ⟨i0, hi, hz0, hz1, hz2⟩ := info_parts Tryd.infoByte
  have HINF : Hid (Tryd.prog.info? 5 = some i0 ∧ i0.zero = some (.int .u8 0) ∧ i0.size = 1 ∧ i0.bytes = 1) := ⟨hi, hz0, hz1, hz2⟩
  clear hi hz0 hz1 hz2
  obtain ⟨a0, l0, c0, rfl⟩ := hL.isSl
  obtain ⟨a1, l1, c1, rfl⟩ := hW.isSl
  obtain ⟨a2, l2, c2, rfl⟩ := hD.isSl
  obtain ⟨W0, hW0⟩ : ∃ W0, w.alloc (.cells #[.slice a0 l0 c0, .slice a1 l1 c1, .slice a2 l2 c2] 67) = W0 := ⟨_, rfl⟩
  have hb0 : Below w.heap.size w W0 := by rw [← hW0]; exact (Below.refl _ _).alloc (Nat.le_refl _) _
  have hz0 : w.heap.size < W0.heap.size := by rw [← hW0]; simp
  have x0 : W0.cell? ⟨w.heap.size, 0, none⟩ = some (.slice a0 l0 c0) := by rw [← hW0]; simp
  have x1 : W0.cell? ⟨w.heap.size, 1, none⟩ = some (.slice a1 l1 c1) := by rw [← hW0]; simp
  have x2 : W0.cell? ⟨w.heap.size, 2, none⟩ = some (.slice a2 l2 c2) := by rw [← hW0]; simp
  have HKS : Hid (∀ W, Below W0.heap.size W0 W → W.cell? ⟨w.heap.size, 0, none⟩ = some (.slice a0 l0 c0) ∧ W.cell? ⟨w.heap.size, 1, none⟩ = some (.slice a1 l1 c1) ∧ W.cell? ⟨w.heap.size, 2, none⟩ = some (.slice a2 l2 c2)) := fun W hb => ⟨by rw [hb.cell (cell_lt x0)]; exact x0, by rw [hb.cell (cell_lt x1)]; exact x1, by rw [hb.cell (cell_lt x2)]; exact x2⟩
  have HL := Hid.mk' (hL.later hb0)
  have HWD := Hid.mk' (hW.later hb0)
  have HD := Hid.mk' (hD.later hb0)
  have HB := Hid.mk' hb0
  have HW := Hid.mk' hW0
  have HNUM := Hid.mk' (⟨hLD, hWp, hLW, hk⟩ : L < D ∧ 0 < W ∧ L + W ≤ D ∧ 4 * D < 18446744073709551616 ^ k)
  have HBIG : Hid (∀ j, W * 2 ^ j < 2 * D → j + 1 ≤ 64 * k) := fun j hj => by
    rcases Nat.lt_or_ge (64 * k) (j + 1) with h1 | h1
    · exfalso
      have h2 : 2 ^ (64 * k) ≤ 2 ^ (j + 1) := Nat.pow_le_pow_right (by decide) (Nat.le_of_lt h1)
      have h3 : 2 ^ (64 * k) = 18446744073709551616 ^ k := by rw [Nat.pow_mul]
      have h4 : 1 * 2 ^ j ≤ W * 2 ^ j := Nat.mul_le_mul_right _ hWp
      rw [Nat.pow_succ] at h2
      omega
    · exact h1
  have HST : Hid (∀ n, TxtAt W0.heap.size L W D 0 (.slice none 0 0) (.slice a0 l0 c0) (.slice a1 l1 c1) W0 (W0.drewN n)) := fun n => by
    have hd : Below W0.heap.size W0 (W0.drewN n) := below_drewN (Below.refl _ _) _
    refine ⟨World.ownsRow_nil _ _ _ _, ?_, ?_, hd, fun i hi => by omega, Or.inl rfl⟩
    · rw [Nat.pow_zero, Nat.mul_one, Nat.mod_eq_of_lt hLD]; exact HL.out.later hd
    · rw [Nat.pow_zero, Nat.mul_one]; exact HWD.out.later hd
  have HZ := Hid.mk' hz0
  clear hL hW hD hb0 hW0 hLD hWp hLW hk HL HWD hz0
  go_enter Tryd.func34, Tryd.ntmps34
  go_upto_region 2 with fail
  rw [HW.out]
  go_quiet (fail)
  go_wp2_with fail
  clear x0 x1 x2
  go_loopg [3, 4, 5] (2 * D - W) (fun gk d u v wr => ∃ j : Nat, gk = 2 * D - W * 2 ^ j ∧ Hid (TxtAt W0.heap.size L W D j d u v W0 wr))
  case atStart => exact ⟨0, by rw [Nat.pow_zero, Nat.mul_one], HST.out _⟩
  case round =>
    clear HST
    obtain ⟨j, hgk, HT⟩ := hrel
    have HGK := Hid.mk' hgk
    clear hgk
    obtain ⟨y0, y1, y2⟩ := HKS.out _ HT.out.below
    have hn := needed_any (.slice a0 l0 c0) (.slice a1 l1 c1) (.slice a2 l2 c2) u4 D (L * 2 ^ j % D) k wr ⟨_, _, _, rfl⟩ ⟨_, _, _, rfl⟩ (HD.out.later HT.out.below) HT.out.rest (Nat.le_of_lt (Nat.mod_lt _ (by have := HNUM.out; omega))) (by have := HNUM.out; omega) (by omega)
    go_wp2_with fail
    refine hn.mono ?_
    clear hn
    rintro e w1 ⟨v, rfl, hv, hb1⟩
    have HV := Hid.mk' hv
    have hBz := HT.out.below.size
    have hbw1 := below_chain HT.out.below hb1
    have HB1 := Hid.mk' hb1
    clear hv y0 y1 y2 hb1
    have HSM : Hid (W * 2 ^ j < 18446744073709551616 ^ k) := by
      obtain ⟨h1, h2, h3, h4⟩ := HNUM.out
      rcases HT.out.small with h5 | h5
      · subst h5; show _ < _; rw [Nat.pow_zero, Nat.mul_one]; omega
      · show _ < _; omega
    have HCM := Hid.mk' (NatCmp_any v u5 (needN D (L * 2 ^ j % D)) (W * 2 ^ j) k w1 HV.out (HT.out.width.later HB1.out) (by have := HNUM.out; have := needN_le (D := D) (r := L * 2 ^ j % D); omega) HSM.out (by omega))
    have HJ : Hid (j ≤ 64 * k) := by
      have h1 := HT.out.first
      show j ≤ 64 * k
      rcases Nat.eq_zero_or_pos j with h2 | h2
      · omega
      · have h3 := h1 (j - 1) (by omega)
        have h4 := HBIG.out (j - 1) (by have := needN_le (D := D) (r := L * 2 ^ (j - 1) % D); omega)
        omega
    by_cases hlt : W * 2 ^ j < needN D (L * 2 ^ j % D)
    · have hc : cmpOf (needN D (L * 2 ^ j % D)) (W * 2 ^ j) = 1 := by unfold cmpOf; rw [if_neg (by omega), if_pos hlt]
      rw [hc] at HCM
      have HLT := Hid.mk' hlt
      have HLT2 : Hid (W * 2 ^ j < 2 * D) := Nat.lt_of_lt_of_le hlt needN_le
      have hjb : j < 64000 := by have := HBIG.out j HLT2.out; omega
      clear hc hlt
      go_wp2_with fail
      refine HCM.out.mono ?_
      clear HCM
      rintro e w2 ⟨rfl, m, hw2⟩
      have HB2 : Hid (Below wr.heap.size wr w2) := by show Below _ _ _; rw [hw2]; exact below_drewN HB1.out _
      clear hw2 hbw1 HB1 HV
      have HMD : Hid (L * 2 ^ j % D < D) := Nat.mod_lt _ (by have := HNUM.out; omega)
      have h3 := Shift_one u4 (L * 2 ^ j % D) k w2 (HT.out.rest.later HB2.out) (by have := HNUM.out; have := HMD.out; omega) (by omega)
      go_wp2_with fail
      refine h3.mono ?_
      clear h3
      rintro e w3 ⟨v3, rfl, hn3, hb3⟩
      have HN3 := Hid.mk' (hn3.mono' HB2.out.size (Below.refl _ _))
      have HB3 := Hid.mk' (below_chain HB2.out hb3)
      clear hn3 hb3 HB2
      have h4 := Shift_one u5 (W * 2 ^ j) k w3 (HT.out.width.later HB3.out) HSM.out (by omega)
      go_wp2_with fail
      refine h4.mono ?_
      clear h4
      rintro e w4 ⟨v4, rfl, hn4, hb4⟩
      have HN4 := Hid.mk' (hn4.mono' HB3.out.size (Below.refl _ _))
      have HN34 := Hid.mk' (HN3.out.mono' (Nat.le_refl _) hb4)
      have HB4 := Hid.mk' (below_chain HB3.out hb4)
      clear hn4 hb4 HB3 HN3
      have hbw4 := below_chain HT.out.below HB4.out
      have HC2 := Hid.mk' (NatCmp_any v3 (.slice a2 l2 c2) (L * 2 ^ j % D * 2) D k w4 HN34.out.1 (HD.out.later hbw4) (by have := HNUM.out; have := HMD.out; omega) (by have := HNUM.out; omega) (by omega))
      obtain ⟨y0, y1, y2⟩ := HKS.out _ hbw4
      clear y0 y1
      by_cases hge : D ≤ L * 2 ^ j % D * 2
      · obtain ⟨c, hc, hc0⟩ : ∃ c : Int, cmpOf (L * 2 ^ j % D * 2) D = c ∧ 0 ≤ c := ⟨_, rfl, by unfold cmpOf; rw [if_neg (by omega)]; split <;> decide⟩
        rw [hc] at HC2
        have HMS := Hid.mk' ((mod_step (L := L) (D := D) (j := j) (by have := HNUM.out; omega)).1 hge)
        have HGE := Hid.mk' hge
        clear hc hge
        go_wp2_with fail
        refine HC2.out.mono ?_
        clear HC2 y2
        rintro e w5 ⟨rfl, m5, hw5⟩
        have hb5 : Below w4.heap.size w4 w5 := by rw [hw5]; exact below_drewN (Below.refl _ _) _
        have HN35 := Hid.mk' (HN34.out.mono' (Nat.le_refl _) hb5)
        have HN45 := Hid.mk' (HN4.out.mono' (Nat.le_refl _) hb5)
        have HB5 := Hid.mk' (below_chain HB4.out hb5)
        clear hw5 hb5 HN34 HN4 HB4 hbw4
        have hbw5 := below_chain HT.out.below HB5.out
        obtain ⟨y0, y1, y2⟩ := HKS.out _ hbw5
        clear y0 y1
        have h6 := Minus_new v3 (.slice a2 l2 c2) (L * 2 ^ j % D * 2) D k w5 HN35.out.1 (HD.out.later hbw5) HGE.out (by have := HNUM.out; have := HMD.out; omega) (by omega)
        go_wp2_with fail
        refine h6.mono ?_
        clear h6 y2
        rintro e w6 ⟨v6, rfl, hn6, hb6⟩
        have HN6 := Hid.mk' (hn6.mono' HB5.out.size (Below.refl _ _))
        have HN46 := Hid.mk' (HN45.out.mono' (Nat.le_refl _) hb6)
        have HB6 := Hid.mk' (below_chain HB5.out hb6)
        have hbw6 := below_chain hbw5 hb6
        have hz6 := hbw6.size
        have HBW6 := Hid.mk' hbw6
        clear hn6 hb6 HN45 HB5 HN35 hbw5 hbw6
        have HR := Hid.mk' (ownsRow_below HT.out.row HB6.out)
        go_wp2_with (at_builtin; go_must (refine wpList_append_lies _ rfl _ _ _ rfl W0.heap.size 5 i0 _ 1 1 Tryd.underlying100 HINF.out.1 HINF.out.2.1 HINF.out.2.2.1 HINF.out.2.2.2 rfl (by omega) u3 _ _ rfl (HR.out.alloc _) ⟨w6.heap.size, 0, none⟩ 1 1 [.int .u8 49] rfl rfl (one_new _ _ _) (by simp [Value.oneCell']) (by omega) (by unfold maxLen; omega) (by omega) (by simp; omega) _ rfl ?_; intro g' cap' w7 hown7 hgrow7 hat7 hlt7; have HO7 := Hid.mk' hown7; have HG7 := Hid.mk' hgrow7; clear hown7 hgrow7 hat7))
        go_roundg (2 * D - W * 2 ^ (j + 1))
        case measure => have h1 := HGK.out; have h2 := HLT2.out; have h3 := HNUM.out; have h4 : 1 * 2 ^ j ≤ W * 2 ^ j := Nat.mul_le_mul_right _ h3.2.1; have h5 := Nat.two_pow_pos j; rw [h1, Nat.pow_succ, ← Nat.mul_assoc]; omega
        case rel =>
          refine ⟨j + 1, rfl, ?_, ?_, ?_, below_push HBW6.out HR.out HG7.out, fun i hi => ?_, Or.inr ?_⟩
          · have := HO7.out
            rw [HMS.out.2, bitsL_add _ j 1 (by decide)]
            simpa [byteCells] using this
          · rw [HMS.out.1]; exact HN6.out.kept HT.out.row HG7.out
          · rw [Nat.pow_succ, ← Nat.mul_assoc]; exact HN46.out.kept HT.out.row HG7.out
          · rcases Nat.lt_or_ge i j with h | h
            · exact HT.out.first i h
            · obtain rfl : i = j := by omega
              exact HLT.out
          · rw [Nat.pow_succ, ← Nat.mul_assoc]; have := HLT2.out; omega
      · obtain ⟨c, hc, hc0⟩ : ∃ c : Int, cmpOf (L * 2 ^ j % D * 2) D = c ∧ c < 0 := ⟨_, rfl, by unfold cmpOf; rw [if_pos (by omega)]; decide⟩
        rw [hc] at HC2
        have HMS := Hid.mk' ((mod_step (L := L) (D := D) (j := j) (by have := HNUM.out; omega)).2 (by omega))
        clear hc hge
        go_wp2_with fail
        refine HC2.out.mono ?_
        clear HC2 y2
        rintro e w5 ⟨rfl, m5, hw5⟩
        have hb5 : Below w4.heap.size w4 w5 := by rw [hw5]; exact below_drewN (Below.refl _ _) _
        have HN35 := Hid.mk' (HN34.out.mono' (Nat.le_refl _) hb5)
        have HN45 := Hid.mk' (HN4.out.mono' (Nat.le_refl _) hb5)
        have HB5 := Hid.mk' (below_chain HB4.out hb5)
        clear hw5 hb5 HN34 HN4 HB4 hbw4
        have hbw5 := below_chain HT.out.below HB5.out
        have hz6 := hbw5.size
        have HBW6 := Hid.mk' hbw5
        clear hbw5
        have HR := Hid.mk' (ownsRow_below HT.out.row HB5.out)
        go_wp2_with (at_builtin; go_must (refine wpList_append_lies _ rfl _ _ _ rfl W0.heap.size 5 i0 _ 1 1 Tryd.underlying100 HINF.out.1 HINF.out.2.1 HINF.out.2.2.1 HINF.out.2.2.2 rfl (by omega) u3 _ _ rfl (HR.out.alloc _) ⟨w5.heap.size, 0, none⟩ 1 1 [.int .u8 48] rfl rfl (one_new _ _ _) (by simp [Value.oneCell']) (by omega) (by unfold maxLen; omega) (by omega) (by simp; omega) _ rfl ?_; intro g' cap' w7 hown7 hgrow7 hat7 hlt7; have HO7 := Hid.mk' hown7; have HG7 := Hid.mk' hgrow7; clear hown7 hgrow7 hat7))
        go_roundg (2 * D - W * 2 ^ (j + 1))
        case measure => have h1 := HGK.out; have h2 := HLT2.out; have h3 := HNUM.out; have h4 : 1 * 2 ^ j ≤ W * 2 ^ j := Nat.mul_le_mul_right _ h3.2.1; have h5 := Nat.two_pow_pos j; rw [h1, Nat.pow_succ, ← Nat.mul_assoc]; omega
        case rel =>
          refine ⟨j + 1, rfl, ?_, ?_, ?_, below_push HBW6.out HR.out HG7.out, fun i hi => ?_, Or.inr ?_⟩
          · have := HO7.out
            rw [HMS.out.2, show 2 * (L * 2 ^ j / D) = 2 * (L * 2 ^ j / D) + 0 from rfl, bitsL_add _ j 0 (by decide)]
            simpa [byteCells] using this
          · rw [HMS.out.1]; exact HN35.out.kept HT.out.row HG7.out
          · rw [Nat.pow_succ, ← Nat.mul_assoc]; exact HN45.out.kept HT.out.row HG7.out
          · rcases Nat.lt_or_ge i j with h | h
            · exact HT.out.first i h
            · obtain rfl : i = j := by omega
              exact HLT.out
          · rw [Nat.pow_succ, ← Nat.mul_assoc]; have := HLT2.out; omega
    · obtain ⟨c, hc, hc0⟩ : ∃ c : Int, cmpOf (needN D (L * 2 ^ j % D)) (W * 2 ^ j) = c ∧ c ≤ 0 := ⟨_, rfl, by unfold cmpOf; rw [if_neg hlt]; split <;> decide⟩
      rw [hc] at HCM
      have HLT := Hid.mk' hlt
      clear hc hlt
      go_wp2_with fail
      refine HCM.out.mono ?_
      clear HCM
      rintro e w2 ⟨rfl, m, hw2⟩
      have HB2 : Hid (Below wr.heap.size wr w2) := by show Below _ _ _; rw [hw2]; exact below_drewN HB1.out _
      have HR := Hid.mk' (ownsRow_below HT.out.row HB2.out)
      have HBW := Hid.mk' (below_chain HB.out (below_chain HT.out.below HB2.out))
      clear hw2 HB1 hbw1
      obtain ⟨au, lu, cu, hu, hlu⟩ := HT.out.rest.len
      subst hu
      by_cases hr : L * 2 ^ j % D = 0
      · have hl0 : lu = 0 := hlu.2 hr
        subst hl0
        have hcv := row_text HR.out
        have HTX : Hid (Txt L W D j (L * 2 ^ j / D)) := ⟨Nat.le_of_not_lt HLT.out, HT.out.first, by rw [if_pos hr]⟩
        clear hr hlu
        generalize L * 2 ^ j / D = q at *
        go_wp2_with fail
        go_ret
        exact ⟨j, q, rfl, HTX.out, HJ.out, HBW.out⟩
      · have hl0 : (0 : Int) < (lu : Int) := by have : lu ≠ 0 := fun h => hr (hlu.1 h); omega
        have htx : Txt L W D j (L * 2 ^ j / D + 1) := ⟨Nat.le_of_not_lt HLT.out, HT.out.first, by rw [if_neg hr]⟩
        have hq := (txt_room htx (by have := HNUM.out; omega) HNUM.out.2.2.1).2.2.2 hr
        have HTX := Hid.mk' htx
        have hj0 : 0 < j := by
          rcases Nat.eq_zero_or_pos j with h | h
          · exfalso; rw [h] at hq; simp at hq
          · exact h
        obtain ⟨g, cap, hd, hfill⟩ := bfill_of (w := w) HR.out hj0 (Nat.le_of_lt HZ.out) HBW.out
        subst hd
        obtain ⟨pre, t, hp1, hp2⟩ := bitsL_raise j _ hq
        rw [hp1] at hfill
        have hjl : pre.length + 1 + t = j := by
          have := congrArg List.length hp1
          rw [bitsL_length] at this
          simp at this
          omega
        have hra := raise_any g cap t pre w w2 hfill (by have := HJ.out; omega)
        rw [hjl, ← hp2] at hra
        clear htx hr hlu hq hfill hp1 hp2 hjl HR
        generalize L * 2 ^ j / D + 1 = q at *
        go_wp2_with fail
        refine hra.mono ?_
        clear hra
        rintro e w8 ⟨rfl, hf8⟩
        have hcv := bytes_text hf8 cap j (bitsL_length _ _)
        have HB8 := Hid.mk' hf8.below
        clear hf8
        go_wp2_with fail
        go_ret
        exact ⟨j, q, rfl, HTX.out, HJ.out, HB8.out⟩
end Go.Proofs.YtgfejijaipggeaaDoor

/- The words of a number that is put together bit by bit. -/
namespace Go.Proofs.YtgfejijaipggeaaDoor

def wordAt (V q : Nat) : Nat := V / 18446744073709551616 ^ q % 18446744073709551616
theorem word_two (q : Nat) : 18446744073709551616 ^ q = 2 ^ (64 * q) := by rw [show 18446744073709551616 = 2 ^ 64 by decide, ← Nat.pow_mul]
theorem wv_of_words : ∀ (l : List Nat) (V : Nat), (∀ q, q < l.length → l.getD q 0 = wordAt V q) → wv l = V % 18446744073709551616 ^ l.length
  | [], V, _ => by simp [wv, Nat.mod_one]
  | d :: r, V, h => by
    have h0 := h 0 (by simp)
    have hr := wv_of_words r (V / 18446744073709551616) (fun q hq => by
      have h1 := h (q + 1) (by simp; omega)
      have e1 : (d :: r).getD (q + 1) 0 = r.getD q 0 := by simp
      rw [e1] at h1
      rw [h1]
      unfold wordAt
      rw [Nat.div_div_eq_div_mul, Nat.pow_succ, Nat.mul_comm (18446744073709551616 ^ q)])
    have e0 : (d :: r).getD 0 0 = d := rfl
    rw [e0] at h0
    show d + 18446744073709551616 * wv r = _
    rw [hr, h0, List.length_cons, Nat.pow_succ, Nat.mul_comm (18446744073709551616 ^ r.length), Nat.mod_mul]
    unfold wordAt
    rw [Nat.pow_zero, Nat.div_one]
/-- One bit more. -/
theorem word_put {X p : Nat} (q : Nat) : wordAt ((2 * X + 1) * 2 ^ p) q = if q = p / 64 then wordAt (2 * X * 2 ^ p) q ||| 2 ^ (p % 64) else wordAt (2 * X * 2 ^ p) q := by
  unfold wordAt
  rw [word_two]
  have hp := Nat.div_add_mod p 64
  have hr : p % 64 < 64 := Nat.mod_lt _ (by decide)
  generalize p / 64 = a at *
  generalize p % 64 = r at *
  subst hp
  rcases Nat.lt_trichotomy q a with h | h | h
  · rw [if_neg (by omega)]
    obtain ⟨e, rfl⟩ : ∃ e, a = q + 1 + e := ⟨a - q - 1, by omega⟩
    have e1 : ∀ Y : Nat, Y * 2 ^ (64 * (q + 1 + e) + r) / 2 ^ (64 * q) % 18446744073709551616 = 0 := fun Y => by
      rw [show 64 * (q + 1 + e) + r = 64 * q + (64 + (64 * e + r)) by omega, Nat.pow_add, ← Nat.mul_assoc, Nat.mul_right_comm, Nat.mul_div_cancel _ (Nat.pow_pos (by decide)), Nat.pow_add, show (2 : Nat) ^ 64 = 18446744073709551616 by decide, ← Nat.mul_assoc, Nat.mul_right_comm, Nat.mul_mod_left]
    rw [e1, e1]
  · subst h
    rw [if_pos rfl]
    have e1 : ∀ Y : Nat, Y * 2 ^ (64 * q + r) / 2 ^ (64 * q) = Y * 2 ^ r := fun Y => by
      rw [Nat.pow_add, ← Nat.mul_assoc, Nat.mul_right_comm, Nat.mul_div_cancel _ (Nat.pow_pos (by decide))]
    rw [e1, e1]
    have e2 : (2 * X + 1) * 2 ^ r = X <<< (r + 1) ||| 2 ^ r := by
      rw [← Nat.shiftLeft_add_eq_or_of_lt (Nat.pow_lt_pow_right (by decide) (by omega)), Nat.shiftLeft_eq, Nat.pow_succ, Nat.add_mul, Nat.one_mul]
      rw [Nat.mul_comm (2 ^ r) 2, ← Nat.mul_assoc, Nat.mul_comm X 2]
    have e3 : 2 * X * 2 ^ r = X <<< (r + 1) := by rw [Nat.shiftLeft_eq, Nat.pow_succ, Nat.mul_comm (2 ^ r) 2, ← Nat.mul_assoc, Nat.mul_comm X 2]
    rw [e2, e3, show (18446744073709551616 : Nat) = 2 ^ 64 by decide, Nat.or_mod_two_pow, Nat.mod_eq_of_lt (Nat.pow_lt_pow_right (by decide) hr)]
  · rw [if_neg (by omega)]
    obtain ⟨e, he⟩ : ∃ e, 64 * q = 64 * a + r + (e + 1) := ⟨64 * q - (64 * a + r) - 1, by omega⟩
    have e1 : ∀ Y : Nat, Y * 2 ^ (64 * a + r) / 2 ^ (64 * q) = Y / 2 ^ (e + 1) := fun Y => by
      rw [he, Nat.pow_add 2 (64 * a + r) (e + 1), Nat.mul_comm Y, Nat.mul_div_mul_left _ _ (Nat.pow_pos (by decide))]
    rw [e1, e1, Nat.pow_succ, Nat.mul_comm (2 ^ e) 2, ← Nat.div_div_eq_div_mul, ← Nat.div_div_eq_div_mul, show (2 * X + 1) / 2 = X by omega, show 2 * X / 2 = X by omega]
end Go.Proofs.YtgfejijaipggeaaDoor

/- The number that a text of 0 and 1 writes. -/
namespace Go.Proofs.YtgfejijaipggeaaDoor
open Go.RowKit

def cutT (t : ByteArray) (j : Nat) : ByteArray := t.extract j t.size
theorem cutT_size (t : ByteArray) (j : Nat) : (cutT t j).size = t.size - j := by unfold cutT; rw [ByteArray.size_extract]; omega
theorem cutT_get {t : ByteArray} {j i : Nat} (h : i < (cutT t j).size) (h' : j + i < t.size) : (cutT t j)[i]'h = t[j + i]'h' := by
  exact ByteArray.getElem_extract h
theorem cutT_next {t : ByteArray} {j : Nat} (h : j < t.size) : (cutT t j).extract 1 (t.size - j) = cutT t (j + 1) := by
  unfold cutT
  rw [ByteArray.extract_extract]
  congr 1
  omega
set_option maxRecDepth 100000 in
theorem trimLeftByte_any (t : ByteArray) (w : World) (_ : t.size ≤ 100000) :
    Calls Tryd.prog 89 #[.string t, .int .u8 48] w fun e w' => ∃ j, j ≤ t.size ∧ (∀ i (hi : i < t.size), i < j → (t[i]'hi) = 48) ∧ (∀ hj : j < t.size, (t[j]'hj) ≠ 48) ∧ e = .returned (.string (cutT t j)) ∧ Below w.heap.size w w' := by
  go_enter Tryd.func89, Tryd.ntmps89
  go_wp2_with fail
  go_loopg [0] t.size (fun gk s wr => ∃ j : Nat, gk + j = t.size ∧ s = .string (cutT t j) ∧ Hid (∀ i (hi : i < t.size), i < j → (t[i]'hi) = 48) ∧ Hid (Below w.heap.size w wr))
  case atStart => exact ⟨0, rfl, by unfold cutT; simp, fun i hi h => by omega, Below.refl _ _⟩
  case round =>
    obtain ⟨j, hj, rfl, HZ, HB⟩ := hrel
    have hsz := cutT_size t j
    rcases Nat.lt_or_ge j t.size with h1 | h1
    · have h0 : 0 < (cutT t j).size := by omega
      have hg := cutT_get (i := 0) h0 (by omega)
      have HN := Hid.mk' (cutT_next h1)
      by_cases hx : (t[j]'h1) = 48
      · have hn : (((cutT t j)[0]'h0).toNat : Int) = 48 := by rw [hg]; simp only [Nat.add_zero]; rw [hx]; rfl
        have HZ2 : Hid (∀ i (hi : i < t.size), i < j + 1 → (t[i]'hi) = 48) := fun i hi h => by
          rcases Nat.lt_or_ge i j with h2 | h2
          · exact HZ.out i hi h2
          · obtain rfl : i = j := by omega
            exact hx
        clear hg hx
        obtain ⟨x, hxe⟩ : ∃ x, x = cutT t j := ⟨_, rfl⟩
        have HN2 : Hid (x.extract 1 (t.size - j) = cutT t (j + 1)) := by show _ = _; rw [hxe]; exact HN.out
        have hxs : x.size = t.size - j := by rw [hxe]; exact hsz
        have hx0 : 0 < x.size := by omega
        have hnx : ((x[0]'hx0).toNat : Int) = 48 := by subst hxe; exact hn
        rw [← hxe]
        have HXS := Hid.mk' hxs
        clear hn hsz h0 HN hxe
        have hxI : (0 : Int) < (x.size : Int) := by omega
        have hx1 : (1 : Int) ≤ (x.size : Int) := by omega
        clear hxs
        go_wp2_with fail
        go_roundg (t.size - (j + 1))
        case measure => omega
        case rel => exact ⟨j + 1, by omega, by rw [← HN2.out, ← HXS.out], HZ2.out, HB.out⟩
      · have hn : ¬ (((cutT t j)[0]'h0).toNat : Int) = 48 := fun h => hx (UInt8.toNat_inj.1 (by rw [hg] at h; simp only [Nat.add_zero] at h; show _ = 48; omega))
        have HX : Hid (∀ hj : j < t.size, (t[j]'hj) ≠ 48) := fun _ => hx
        have hle : j ≤ t.size := by omega
        clear hg hx
        obtain ⟨x, hxe⟩ : ∃ x, x = cutT t j := ⟨_, rfl⟩
        have hx0 : 0 < x.size := by rw [hxe]; omega
        have hnx : (((x[0]'hx0).toNat : Int) == 48) = false := by subst hxe; simpa using hn
        have HXE := Hid.mk' hxe
        have hxI : (0 : Int) < (x.size : Int) := by omega
        rw [← hxe]
        clear hn hsz h0 HN hxe
        go_wp2_with fail
        go_ret
        exact ⟨j, hle, HZ.out, HX.out, by rw [← HXE.out]; rfl, HB.out⟩
    · obtain rfl : j = t.size := by omega
      have hx0 : (cutT t t.size).size = 0 := by omega
      obtain ⟨x, hxe⟩ : ∃ x, x = cutT t t.size := ⟨_, rfl⟩
      rw [← hxe] at hx0
      have HXE := Hid.mk' hxe
      rw [← hxe]
      have hxI : ¬ (0 : Int) < (x.size : Int) := by omega
      clear hsz hxe
      go_wp2_with fail
      go_ret
      exact ⟨t.size, Nat.le_refl _, HZ.out, fun h => by omega, by rw [← HXE.out]; rfl, HB.out⟩
theorem bitAt_cut {t : ByteArray} {j i : Nat} : bitAt (cutT t j) i = bitAt t (j + i) := by
  unfold bitAt
  have hs := cutT_size t j
  by_cases h : j + i < t.size
  · have h' : i < (cutT t j).size := by omega
    rw [dif_pos h, dif_pos h', cutT_get h' h]
  · rw [dif_neg h, dif_neg (by omega)]
theorem valT_zeros {t : ByteArray} {j : Nat} (h : ∀ i (hi : i < t.size), i < j → (t[i]'hi) = 48) (hj : j ≤ t.size) : ∀ i, i ≤ j → valT t i = 0
  | 0, _ => rfl
  | i + 1, hi => by
    show 2 * valT t i + (bitAt t i).getD 0 = 0
    rw [valT_zeros h hj i (by omega), bitAt_zero (by omega) (h i (by omega) (by omega))]
    rfl
theorem valT_cut {t : ByteArray} {j : Nat} (h : ∀ i (hi : i < t.size), i < j → (t[i]'hi) = 48) (hj : j ≤ t.size) : ∀ i, valT (cutT t j) i = valT t (j + i)
  | 0 => by show 0 = _; rw [Nat.add_zero, valT_zeros h hj j (Nat.le_refl _)]
  | i + 1 => by
    show 2 * valT (cutT t j) i + (bitAt (cutT t j) i).getD 0 = 2 * valT t (j + i) + (bitAt t (j + i)).getD 0
    rw [valT_cut h hj i, bitAt_cut]
theorem valT_ge {t : ByteArray} (h : bitAt t 0 = some 1) : ∀ i, 2 ^ i ≤ valT t (i + 1)
  | 0 => by show 1 ≤ 2 * 0 + (bitAt t 0).getD 0; rw [h]; decide
  | i + 1 => by
    have := valT_ge h i
    show 2 ^ (i + 1) ≤ 2 * valT t (i + 1) + _
    rw [Nat.pow_succ]; omega
/-- The words while bits are put in. -/
def WordsOf (l : List Nat) (m V : Nat) : Prop := l.length = m ∧ ∀ q, q < m → l.getD q 0 = wordAt V q
theorem wordsOf_zero (m : Nat) : WordsOf (List.replicate m 0) m 0 := by
  refine ⟨List.length_replicate, fun q hq => ?_⟩
  rw [List.getD_eq_getElem?_getD]
  simp [hq, wordAt]
theorem wordsOf_put {l : List Nat} {m X p : Nat} (h : WordsOf l m (2 * X * 2 ^ p)) (hp : p / 64 < m) : WordsOf (l.set (p / 64) (wordAt (2 * X * 2 ^ p) (p / 64) ||| 2 ^ (p % 64))) m ((2 * X + 1) * 2 ^ p) := by
  refine ⟨by rw [List.length_set]; exact h.1, fun q hq => ?_⟩
  rw [getD_set l _ _ q (by rw [h.1]; exact hp), word_put]
  by_cases hqp : q = p / 64
  · rw [if_pos hqp, if_pos hqp, hqp]
  · rw [if_neg hqp, if_neg hqp]; exact h.2 q hq
theorem wrap_small {q : Nat} (h : q ≤ 100000) : IntKind.i64.wrap (q : Int) = (q : Int) := by
  simp only [IntKind.wrap_i64]
  omega
theorem wordAt_lt (V q : Nat) : wordAt V q < 18446744073709551616 := Nat.mod_lt _ (by decide)
end Go.Proofs.YtgfejijaipggeaaDoor

/- The library contract of strings.Trim laid at the numbers of this translation. -/
namespace Go.Proofs
open Go.Shelf
def Tryd.trimA_ren : Go.Shelf.Ren := ⟨fun | 160 => 68 | 232 => 90 | 231 => 89 | 227 => 91 | 234 => 93 | 233 => 92 | 236 => 95 | 235 => 94 | 228 => 106 | 271 => 109 | 151 => 108 | 197 => 107 | 120 => 113 | 152 => 112 | 260 => 111 | 137 => 114 | 119 => 115 | 224 => 116 | 225 => 117 | 217 => 118 | 266 => 119 | n => n, fun | 9 => 9 | 4 => 4 | 3 => 3 | 5 => 5 | 117 => 145 | 116 => 144 | 0 => 0 | 124 => 148 | 21 => 21 | 105 => 169 | 46 => 150 | 119 => 174 | 139 => 177 | 138 => 176 | n => n, fun | 3 => 10 | 4 => 11 | n => n⟩
theorem Tryd.trimA : Go.Proofs.Lays.n160 Tryd.prog Tryd.trimA_ren := {
  mixed := by kernel_rfl
  f119 := Tryd.func115.trans (congrArg some (by kernel_rfl))
  f120 := Tryd.func113.trans (congrArg some (by kernel_rfl))
  f137 := Tryd.func114.trans (congrArg some (by kernel_rfl))
  f151 := Tryd.func108.trans (congrArg some (by kernel_rfl))
  f152 := Tryd.func112.trans (congrArg some (by kernel_rfl))
  f160 := Tryd.func68.trans (congrArg some (by kernel_rfl))
  f197 := Tryd.func107.trans (congrArg some (by kernel_rfl))
  f217 := Tryd.func118.trans (congrArg some (by kernel_rfl))
  f224 := Tryd.func116.trans (congrArg some (by kernel_rfl))
  f225 := Tryd.func117.trans (congrArg some (by kernel_rfl))
  f227 := Tryd.func91.trans (congrArg some (by kernel_rfl))
  f228 := Tryd.func106.trans (congrArg some (by kernel_rfl))
  f231 := Tryd.func89.trans (congrArg some (by kernel_rfl))
  f232 := Tryd.func90.trans (congrArg some (by kernel_rfl))
  f233 := Tryd.func92.trans (congrArg some (by kernel_rfl))
  f234 := Tryd.func93.trans (congrArg some (by kernel_rfl))
  f235 := Tryd.func94.trans (congrArg some (by kernel_rfl))
  f236 := Tryd.func95.trans (congrArg some (by kernel_rfl))
  f260 := Tryd.func111.trans (congrArg some (by kernel_rfl))
  f266 := Tryd.func119.trans (congrArg some (by kernel_rfl))
  f271 := Tryd.func109.trans (congrArg some (by kernel_rfl))
  t0 := Tryd.underlying0
  a0 := Tryd.isAgg0
  z0 := Tryd.sizeOf0
  v0 := Tryd.zeroValue0
  t3 := Tryd.underlying3
  a3 := Tryd.isAgg3
  z3 := Tryd.sizeOf3
  v3 := Tryd.zeroValue3
  t4 := Tryd.underlying4
  a4 := Tryd.isAgg4
  z4 := Tryd.sizeOf4
  v4 := Tryd.zeroValue4
  t5 := Tryd.underlying5
  a5 := Tryd.isAgg5
  z5 := Tryd.sizeOf5
  v5 := Tryd.zeroValue5
  t9 := Tryd.underlying9
  a9 := Tryd.isAgg9
  z9 := Tryd.sizeOf9
  v9 := Tryd.zeroValue9
  t21 := Tryd.underlying21
  a21 := Tryd.isAgg21
  z21 := Tryd.sizeOf21
  v21 := Tryd.zeroValue21
  t46 := Tryd.underlying150
  a46 := Tryd.isAgg150
  z46 := Tryd.sizeOf150
  v46 := Tryd.zeroValue150
  t105 := Tryd.underlying169
  a105 := Tryd.isAgg169
  z105 := Tryd.sizeOf169
  v105 := Tryd.zeroValue169
  t116 := Tryd.underlying144
  a116 := Tryd.isAgg144
  z116 := Tryd.sizeOf144
  t117 := Tryd.underlying145
  a117 := Tryd.isAgg145
  z117 := Tryd.sizeOf145
  v117 := Tryd.zeroValue145
  t119 := Tryd.underlying174
  a119 := Tryd.isAgg174
  z119 := Tryd.sizeOf174
  t124 := Tryd.underlying148
  a124 := Tryd.isAgg148
  z124 := Tryd.sizeOf148
  v124 := Tryd.zeroValue148
  t138 := Tryd.underlying176
  a138 := Tryd.isAgg176
  z138 := Tryd.sizeOf176
  v138 := Tryd.zeroValue176
  t139 := Tryd.underlying177
  a139 := Tryd.isAgg177
  z139 := Tryd.sizeOf177
  v139 := Tryd.zeroValue177
  g3 := by kernel_rfl
  g4 := by kernel_rfl }
end Go.Proofs

/- Texts of 0 and 1: strings.Trim. -/
namespace Go.Proofs.YtgfejijaipggeaaDoor
open Go.RowKit

/-- Is a text of 0 and 1 alone? -/
def bitB (s : ByteArray) : Bool := s.data.toList.all (fun c => [48, 49].contains c)
theorem drop_head (p : UInt8 → Bool) : ∀ (l : List UInt8) (a : UInt8) (t : List UInt8), l.dropWhile p = a :: t → p a = false
  | [], a, t, h => by simp at h
  | x :: l, a, t, h => by
    rw [List.dropWhile_cons] at h
    split at h
    · exact drop_head p l a t h
    · rename_i hx
      obtain ⟨rfl, -⟩ : x = a ∧ l = t := by simpa using h
      simpa using hx
theorem drop_nil (p : UInt8 → Bool) : ∀ (l : List UInt8), l.dropWhile p = [] ↔ ∀ x ∈ l, p x = true
  | [] => by simp
  | x :: l => by
    rw [List.dropWhile_cons]
    split
    · rename_i hx
      rw [drop_nil p l]
      simp [hx]
    · rename_i hx
      simp [hx]
theorem trim_all {l cs : List UInt8} (h : l.all (fun c => cs.contains c) = true) : Lib.trimS l cs = [] := by
  have h1 : Lib.trimRightS l cs = [] := by
    unfold Lib.trimRightS
    rw [List.reverse_eq_nil_iff, drop_nil]
    intro x hx
    exact List.all_eq_true.1 h x (List.mem_reverse.1 hx)
  unfold Lib.trimS
  rw [h1]; rfl
theorem trim_not {l cs : List UInt8} (h : l.all (fun c => cs.contains c) = false) : Lib.trimS l cs ≠ [] := by
  intro h1
  unfold Lib.trimS Lib.trimLeftS Lib.trimRightS at h1
  rw [drop_nil] at h1
  cases hm : l.reverse.dropWhile (cs.contains ·) with
  | nil =>
    rw [drop_nil] at hm
    have : l.all (fun c => cs.contains c) = true := List.all_eq_true.2 fun x hx => hm x (List.mem_reverse.2 hx)
    rw [this] at h; cases h
  | cons a t =>
    have h2 := drop_head _ _ a t hm
    have h3 := h1 a (by rw [hm]; simp)
    have h4 : cs.contains a = false := h2
    rw [h4] at h3; cases h3
theorem trim01 (s : ByteArray) (w : World) (hs : s.size ≤ 1000000) : Calls Tryd.prog 68 #[.string s, .string ⟨#[48, 49]⟩] w fun e w' => e = .returned (.string ⟨(Lib.trimS s.data.toList [48, 49]).toArray⟩) ∧ Below w.heap.size w w' :=
  Any.strings_Trim_laid Tryd.trimA (by kernel_rfl) s ⟨#[48, 49]⟩ w (by omega) (by decide) (ascii_of_all (by decide))
theorem trim_bits (s : ByteArray) (w : World) (hs : s.size ≤ 1000000) (hb : bitB s = true) : Calls Tryd.prog 68 #[.string s, .string ⟨#[48, 49]⟩] w fun e w' => e = .returned (.string ⟨#[]⟩) ∧ Below w.heap.size w w' := by
  have := trim01 s w hs
  rw [trim_all hb] at this
  exact this
theorem trim_other (s : ByteArray) (w : World) (hs : s.size ≤ 1000000) (hb : bitB s = false) : Calls Tryd.prog 68 #[.string s, .string ⟨#[48, 49]⟩] w fun e w' => ∃ t : ByteArray, e = .returned (.string t) ∧ t.toList.isEmpty = false ∧ Below w.heap.size w w' := by
  refine (trim01 s w hs).mono ?_
  rintro e w' ⟨rfl, h⟩
  refine ⟨_, rfl, ?_, h⟩
  rw [ByteArray.toList_eq]
  have := trim_not hb
  cases h2 : Lib.trimS s.data.toList [48, 49] with
  | nil => exact absurd h2 this
  | cons x l => rfl
end Go.Proofs.YtgfejijaipggeaaDoor

/- The document's Bits and WordsError; the law's some and strs. -/
namespace Go.Proofs.YtgfejijaipggeaaDoor
open Go.RowKit

theorem ret_bool2 {a b : Bool} (h : a = b) : Ending.returned (.bool a) = .returned (.bool b) := by rw [h]
theorem ret_nat4 {a b : Nat} (h : b = a) : Ending.returned (.int .i64 (a : Int)) = .returned (.int .i64 (b : Int)) := by rw [h]
theorem bit_at {s : ByteArray} {i : Nat} (h : i < s.size) (hb : bitB s = true) : (s[i]'h) = 48 ∨ (s[i]'h) = 49 := by
  have h1 : (s[i]'h) ∈ s.data.toList := by
    have h2 : i < s.data.size := h
    rw [Array.mem_toList_iff]
    exact Array.getElem_mem h2
  have := List.all_eq_true.1 hb _ h1
  simpa using this
theorem bit_all {s : ByteArray} (h : ∀ i (hi : i < s.size), (s[i]'hi) = 48 ∨ (s[i]'hi) = 49) : bitB s = true := by
  refine List.all_eq_true.2 fun x hx => ?_
  rw [Array.mem_toList_iff] at hx
  obtain ⟨i, hi, rfl⟩ := Array.getElem_of_mem hx
  have := h i hi
  have e : s.data[i] = (s[i]'hi) := rfl
  rw [e]
  simpa using this
set_option maxRecDepth 100000 in
theorem DocBits_any (s : ByteArray) (w : World) (hs : s.size ≤ 9223372036854775807) : Calls Tryd.prog 20 #[.string s] w fun e w' => e = .returned (.bool (bitB s)) ∧ Below w.heap.size w w' := by
  go_enter Tryd.func20, Tryd.ntmps20
  go_wp2_with fail
  go_loopw [3] (fun t wr => ∃ k : Nat, k ≤ s.size ∧ t = .int .i64 k ∧ Hid (Below w.heap.size w wr) ∧ Hid (∀ i (hi : i < s.size), i < k → (s[i]'hi) = 48 ∨ (s[i]'hi) = 49)) (fun t _ => s.size - (intOf t).toNat)
  case atStart => exact ⟨0, Nat.zero_le _, rfl, Below.refl _ _, fun i _ h => by omega⟩
  case round =>
    obtain ⟨k, hk, rfl, HB, HI⟩ := hrel
    have hk0 : (0 : Int) ≤ (k : Int) := by omega
    rcases Nat.lt_or_ge k s.size with h1 | h1
    · have hkI : (k : Int) < (s.size : Int) := by omega
      by_cases hx : (s[k]'h1) = 48 ∨ (s[k]'h1) = 49
      · have HI1 : Hid (∀ i (hi : i < s.size), i < k + 1 → (s[i]'hi) = 48 ∨ (s[i]'hi) = 49) := fun i hi hik => by
          rcases Nat.lt_or_ge i k with h2 | h2
          · exact HI.out i hi h2
          · obtain rfl : i = k := by omega
            exact hx
        rcases hx with hx | hx
        · have hn : ((s[k]'h1).toNat : Int) = 48 := by rw [hx]; rfl
          go_wp2_with fail
          exact ⟨⟨k + 1, h1, by go_num, HB, HI1⟩, by simp [intOf]; omega⟩
        · have hn : ((s[k]'h1).toNat : Int) = 49 := by rw [hx]; rfl
          go_wp2_with fail
          exact ⟨⟨k + 1, h1, by go_num, HB, HI1⟩, by simp [intOf]; omega⟩
      · have HF : Hid (bitB s = false) := by
          show _ = _
          cases hb : bitB s with
          | false => rfl
          | true => exact absurd (bit_at h1 hb) hx
        have hn1 : ¬ (((s[k]'h1).toNat : Int) = 48) := fun h => hx (Or.inl (UInt8.toNat_inj.1 (by show _ = 48; omega)))
        have hn2 : ¬ (((s[k]'h1).toNat : Int) = 49) := fun h => hx (Or.inr (UInt8.toNat_inj.1 (by show _ = 49; omega)))
        have hm1 : (((s[k]'h1).toNat : Int) != 48) = true := by rw [bne_iff_ne]; exact hn1
        have hm2 : (((s[k]'h1).toNat : Int) != 49) = true := by rw [bne_iff_ne]; exact hn2
        clear hx hn1 hn2
        go_wp2_with fail
        go_ret
        exact ⟨ret_bool2 (by rw [HF.out] <;> rfl), HB.out⟩
    · obtain rfl : s.size = k := by omega
      have HT : Hid (bitB s = true) := bit_all fun i hi => HI.out i hi hi
      go_wp2_with fail
      go_ret
      exact ⟨ret_bool2 (by rw [HT.out] <;> rfl), HB.out⟩
end Go.Proofs.YtgfejijaipggeaaDoor
