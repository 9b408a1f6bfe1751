/- The document's Over. -/
import Derived.Test.YtiegobkbinojeaaDoorMinus
import Derived.Test.YtiegobkbinojeaaDoorRyFr
import Derived.Test.YtiegobkbinojeaaDoorRyNum
import Derived.Test.YtiegobkbinojeaaDoorIsBx
import Derived.Test.YtiegobkbinojeaaDoorRyUni
import Derived.Test.YtiegobkbinojeaaDoorRyMath
import Derived.Test.YtiegobkbinojeaaDoorTabCopy
import Derived.Test.YtiegobkbinojeaaDoorIsRat
import Derived.Test.YtiegobkbinojeaaDoorLastOp
import Derived.Test.YtiegobkbinojeaaDoorPlus
import Derived.Test.YtiegobkbinojeaaDoorCode
import Derived.Test.YtiegobkbinojeaaDoorWeights
import Derived.Test.YtiegobkbinojeaaDoorRyGs
import Derived.Test.YtiegobkbinojeaaDoorCopy
import Derived.Test.YtiegobkbinojeaaDoorRyFm
import Derived.Test.YtiegobkbinojeaaDoorRyRef
import Derived.Test.YtiegobkbinojeaaDoorRyFa
import Derived.Test.YtiegobkbinojeaaDoorRows
import Derived.ChangeSame
import Derived.ChangeVars
import Derived.JoinedOf
import Derived.LaidLaws
import Derived.LaidHandle
import Derived.LaidMore
import Derived.Stop.Joined
import Derived.Test.YtiegobkbinojeaaDoorInts
import Derived.Test.YtiegobkbinojeaaDoorCards
import Derived.Test.YtiegobkbinojeaaDoorTie
import Derived.SevenTiedAt
import Derived.ProofKit
import Derived.OpenShut
import Derived.ChangeOld
import Derived.Lib.SmallJoins
import Derived.Deep.Matrix
import Derived.Test.YtiegobkbinojeaaDoorTab
import Derived.Deep.DeepHandedRow
import Derived.Deep.DeepWitnessRowRef
namespace Go.Proofs.YtiegobkbinojeaaDoor
open Go.RowKit

set_option maxRecDepth 10000 in
set_option maxHeartbeats 4000000 in
/-- Over: the quotient by one above 0, in its lowest terms. -/
theorem Over_ratio (v1 v2 : Value) (n1 : Int) (m d1 d2 k : Nat) (w : World) (h1 : RatioAt w v1 n1 d1) (h2 : RatioAt w v2 (m : Int) d2) (hd1 : 0 < d1) (hm0 : 0 < m) (hn1 : n1.natAbs < 1000000 ^ k) (hn2 : m < 1000000 ^ k) (hk1 : d1 < 1000000 ^ k) (hk2 : d2 < 1000000 ^ k) (hk : k + k + 1 + 1 ≤ 1000000) :
    Calls Tryd.prog 40 #[v1, v2] w fun e w' => ∃ r, e = .returned r ∧ RatioAt w' r ((n1 * d2).tdiv ((Nat.gcd (n1 * d2).natAbs (d1 * m) : Nat) : Int)) (d1 * m / Nat.gcd (n1 * d2).natAbs (d1 * m)) ∧ Below w.heap.size w w' := by
  obtain ⟨u1, q1, rfl, hu1, hq1⟩ := h1
  obtain ⟨u2, q2, rfl, hu2, hq2⟩ := h2
  obtain ⟨ad1, l1, cap1, rfl, _⟩ := hu1.len
  obtain ⟨bd1, m1, bap1, rfl, _⟩ := hq1.len
  obtain ⟨ad2, l2, cap2, rfl, _⟩ := hu2.len
  obtain ⟨bd2, m2, bap2, rfl, _⟩ := hq2.len
  obtain ⟨s1, hs1⟩ : ∃ s, decide (n1 < 0) = s := ⟨_, rfl⟩
  have hs2 : decide ((m : Int) < 0) = false := decide_eq_false (by omega)
  rw [hs1, hs2]
  rw [Int.natAbs_natCast] at hu2
  have hB0 : Below w.heap.size w (((w.alloc (.cells #[.bool s1, .slice ad1 l1 cap1, .slice bd1 m1 bap1] 50)).alloc (.cells #[.bool false, .slice ad2 l2 cap2, .slice bd2 m2 bap2] 50)).alloc (.cells #[.bool false, .slice none 0 0, .slice none 0 0] 50)) := (((Below.refl _ _).alloc (Nat.le_refl _) _).alloc (by simp) _).alloc (by simp; omega) _
  have hN := noInts_third3 w (.cells #[.bool s1, .slice ad1 l1 cap1, .slice bd1 m1 bap1] 50) (.cells #[.bool false, .slice ad2 l2 cap2, .slice bd2 m2 bap2] 50) 50
  have hNP := fun (w1 : World) => nine_past (w := w) (w1 := w1) (x0 := .bool s1) (x1 := .slice ad1 l1 cap1) (x2 := .slice bd1 m1 bap1) (y0 := .bool false) (y1 := .slice ad2 l2 cap2) (y2 := .slice bd2 m2 bap2) (r0 := .bool false) (r1 := .slice none 0 0) (r2 := .slice none 0 0) (t := 50)
  have hz0 : w.heap.size + 1 + 1 + 1 = (((w.alloc (.cells #[.bool s1, .slice ad1 l1 cap1, .slice bd1 m1 bap1] 50)).alloc (.cells #[.bool false, .slice ad2 l2 cap2, .slice bd2 m2 bap2] 50)).alloc (.cells #[.bool false, .slice none 0 0, .slice none 0 0] 50)).heap.size := by simp
  generalize hW : (((w.alloc (.cells #[.bool s1, .slice ad1 l1 cap1, .slice bd1 m1 bap1] 50)).alloc (.cells #[.bool false, .slice ad2 l2 cap2, .slice bd2 m2 bap2] 50)).alloc (.cells #[.bool false, .slice none 0 0, .slice none 0 0] 50)) = W0 at hB0 hN hNP hz0
  have hKS : ∀ W, Below W0.heap.size W0 W → (W.cell? ⟨w.heap.size, 0, none⟩ = some (.bool s1) ∧ W.cell? ⟨w.heap.size, 1, none⟩ = some (.slice ad1 l1 cap1) ∧ W.cell? ⟨w.heap.size, 2, none⟩ = some (.slice bd1 m1 bap1)) ∧ (W.cell? ⟨w.heap.size + 1, 0, none⟩ = some (.bool false) ∧ W.cell? ⟨w.heap.size + 1, 1, none⟩ = some (.slice ad2 l2 cap2) ∧ W.cell? ⟨w.heap.size + 1, 2, none⟩ = some (.slice bd2 m2 bap2)) := fun W hb => by
    obtain ⟨a, b, _⟩ := hNP W hb
    exact ⟨a, b⟩
  have HS1 : Hid (∀ W, Below W0.heap.size W0 W → SignedAt W (.agg #[.bool s1, .slice ad1 l1 cap1]) n1) := fun W hb => ⟨_, by rw [hs1], (hu1.later hB0).later hb⟩
  have HU2 : Hid (∀ W, Below W0.heap.size W0 W → BigAt W (.slice ad2 l2 cap2) m) := fun W hb => (hu2.later hB0).later hb
  have HD1 : Hid (∀ W, Below W0.heap.size W0 W → BigAt W (.slice bd1 m1 bap1) d1) := fun W hb => (hq1.later hB0).later hb
  have HD2 : Hid (∀ W, Below W0.heap.size W0 W → BigAt W (.slice bd2 m2 bap2) d2) := fun W hb => (hq2.later hB0).later hb
  have HKS := Hid.mk' hKS
  have HW := Hid.mk' hW
  have HNP := Hid.mk' hNP
  have HN := Hid.mk' hN
  have HB := Hid.mk' hB0
  have hsm : (n1 * (d2 : Int)).natAbs < 1000000 ^ (k + k) := by rw [Int.natAbs_mul, Int.natAbs_natCast, Nat.pow_add]; exact Nat.mul_lt_mul'' hn1 hk2
  have hdd : d1 * m < 1000000 ^ (k + k) := by rw [Nat.pow_add]; exact Nat.mul_lt_mul'' hk1 hn2
  have HM := Hid.mk' (And.intro hsm hdd)
  have HBD : Hid (n1.natAbs < 1000000 ^ k ∧ (d2 : Int).natAbs < 1000000 ^ k) := ⟨hn1, by rw [Int.natAbs_natCast]; exact hk2⟩
  have HDK := Hid.mk' (And.intro hk1 hn2)
  have hcur0 : Below W0.heap.size W0 W0 := Below.refl _ _
  have hcur : Below W0.heap.size W0 W0.drew := (Below.refl _ _).drew
  have hcurA : ∀ X, Below W0.heap.size W0 (W0.alloc X).drew := fun X => (new_below _ _).drew
  have hdn2 : ¬ (d2 : Int) < 0 := by omega
  have HDE : Hid (decide ((d2 : Int) < 0) = false) := decide_eq_false hdn2
  clear hs1 hs2 hu1 hu2 hq1 hq2 hB0 hN hNP hW hKS hn1 hn2 hk1 hk2 hsm hdd hdn2
  generalize hz : n1 * (d2 : Int) = z at HM ⊢
  have HZ := Hid.mk' hz
  clear hz
  go_enter Tryd.func40, Tryd.ntmps40
  go_wp2_with fail
  rw [HW.out]
  go_cut [5] from 6 (fun s wx => ∃ Bs : Nat, s = .pointer (some ⟨Bs, 0, none⟩) ∧ Hid (SignBox W0 wx Bs z))
  case first =>
    go_region_held3 (fun W => (W.cell? ⟨w.heap.size, 0, none⟩ = some (.bool s1) ∧ W.cell? ⟨w.heap.size, 1, none⟩ = some (.slice ad1 l1 cap1) ∧ W.cell? ⟨w.heap.size, 2, none⟩ = some (.slice bd1 m1 bap1)) ∧ (W.cell? ⟨w.heap.size + 1, 0, none⟩ = some (.bool false) ∧ W.cell? ⟨w.heap.size + 1, 1, none⟩ = some (.slice ad2 l2 cap2) ∧ W.cell? ⟨w.heap.size + 1, 2, none⟩ = some (.slice bd2 m2 bap2)))
      (first | exact HKS.out _ hcur0 | exact HKS.out _ hcur | exact HKS.out _ (hcurA _) | (refine HKS.out _ ?_; assumption) | (refine HKS.out _ (more_below ?_ _); assumption) | (refine HKS.out _ (setB_below ?_ NB.hB _ _); assumption))
      (first
        | (go_at_call 47; refine (SignedMul_any _ _ n1 (d2 : Int) k _ (HS1.out _ ?_) (HX1.out _ ?_) HBD.out.1 HBD.out.2 (by omega)).mono ?_; (first | exact hbw1 | exact more_below hbw1 _); (first | exact Below.refl _ _ | exact new_below _ _); rintro e w2 ⟨sv2, rfl, ⟨x2, rfl, hx2⟩, hb2⟩; rw [HZ.out] at hx2 ⊢; obtain ⟨ad4, l4, cap4, rfl, _⟩ := hx2.len; (first | (have hbw2 := below_chain hbw1 hb2; try have NB := NB.later hb2) | (have hbw2 := below_chain (more_below hbw1 _) hb2; have NB := newBox_of hbw1 hb2)); (try (have y0 := NB.c0; have y1 := NB.c1; have y2 := NB.f0; have y3 := NB.f1)); have HX5 := Hid.mk' hx2; clear hx2 hb2)
        | (go_at_call 52; refine (wide_any (.slice bd2 m2 bap2) d2 _ (HD2.out _ ?_)).mono ?_; (first | exact hcur | exact hcurA _); rintro e w1 ⟨sv1, rfl, ⟨x1, rfl, hx1⟩, hb1⟩; rw [HDE.out]; obtain ⟨ad3, l3, cap3, rfl, _⟩ := hx1.len; (first | have hbw1 := below_chain hcur hb1 | (have hbw1 := below_chain (hcurA _) hb1; have NB := newBox_of hcur0 (below_chain ((Below.refl _ _).drew) hb1))); have HX1 : Hid (∀ W, Below w1.heap.size w1 W → SignedAt W (.agg #[.bool false, .slice ad3 l3 cap3]) (d2 : Int)) := (fun W hb => ⟨_, by rw [HDE.out], hx1.later hb⟩); clear hx1 hb1))
    all_goals
      go_wp2_with fail
      go_meet
      first | exact ⟨_, rfl, signBox_late hbw2 HX5.out⟩ | exact ⟨_, rfl, signBox_soon hbw2 HX5.out NB⟩
  case rest =>
  obtain ⟨Bs, rfl, HSB⟩ := hcut
  obtain ⟨u, x0, x1, hu⟩ := HSB.out.box
  obtain ⟨ad, l, cap, rfl, _⟩ := hu.len
  obtain ⟨sg, hsg⟩ : ∃ sg, decide (z < 0) = sg := ⟨_, rfl⟩
  rw [hsg] at x0
  have hBs := HSB.out.hB
  have hSc : ∀ W, Below wc.heap.size wc W → W.cell? ⟨Bs, 0, none⟩ = some (.bool sg) ∧ W.cell? ⟨Bs, 1, none⟩ = some (.slice ad l cap) ∧ W.cell? ⟨w.heap.size, 2, none⟩ = some (.slice bd1 m1 bap1) ∧ W.cell? ⟨w.heap.size + 1, 1, none⟩ = some (.slice ad2 l2 cap2) := fun W hb => by
    have h1 := HKS.out _ (below_chain HSB.out.below hb)
    exact ⟨(cell_past x0 hb).2, (cell_past x1 hb).2, h1.1.2.2, h1.2.2.1⟩
  have HSC := Hid.mk' hSc
  have hmul := BigMul_any _ _ d1 m k wc.drew (HD1.out _ HSB.out.below.drew) (HU2.out _ HSB.out.below.drew) HDK.out.1 HDK.out.2 (by omega)
  have HMUL := Hid.mk' hmul
  have HU := Hid.mk' hu
  have HSG := Hid.mk' hsg
  have hc0 : Below wc.heap.size wc wc := Below.refl _ _
  have hc1 : Below wc.heap.size wc wc.drew := (Below.refl _ _).drew
  have HBC := Hid.mk' HSB.out.below
  have hsetS : ∀ (W : World) (x y q : Value), Below wc.heap.size wc W → Bs ≠ w.heap.size + 1 + 1 → (((W.setCell ⟨w.heap.size + 1 + 1, 0, none⟩ x).setCell ⟨w.heap.size + 1 + 1, 1, none⟩ y).setCell ⟨w.heap.size + 1 + 1, 2, none⟩ q).cell? ⟨Bs, 0, none⟩ = some (.bool sg) ∧ (((W.setCell ⟨w.heap.size + 1 + 1, 0, none⟩ x).setCell ⟨w.heap.size + 1 + 1, 1, none⟩ y).setCell ⟨w.heap.size + 1 + 1, 2, none⟩ q).cell? ⟨Bs, 1, none⟩ = some (.slice ad l cap) ∧ (((W.setCell ⟨w.heap.size + 1 + 1, 0, none⟩ x).setCell ⟨w.heap.size + 1 + 1, 1, none⟩ y).setCell ⟨w.heap.size + 1 + 1, 2, none⟩ q).cell? ⟨w.heap.size, 2, none⟩ = some (.slice bd1 m1 bap1) ∧ (((W.setCell ⟨w.heap.size + 1 + 1, 0, none⟩ x).setCell ⟨w.heap.size + 1 + 1, 1, none⟩ y).setCell ⟨w.heap.size + 1 + 1, 2, none⟩ q).cell? ⟨w.heap.size + 1, 1, none⟩ = some (.slice ad2 l2 cap2) := fun W x y q hb hne => by
    obtain ⟨e0, e1, e2, e3⟩ := HSC.out W hb
    refine ⟨?_, ?_, ?_, ?_⟩
    · rw [World.cell?_setCell_far _ _ _ _ (fun e => hne e.symm), World.cell?_setCell_far _ _ _ _ (fun e => hne e.symm), World.cell?_setCell_far _ _ _ _ (fun e => hne e.symm)]; exact e0
    · rw [World.cell?_setCell_far _ _ _ _ (fun e => hne e.symm), World.cell?_setCell_far _ _ _ _ (fun e => hne e.symm), World.cell?_setCell_far _ _ _ _ (fun e => hne e.symm)]; exact e1
    · rw [World.cell?_setCell_far _ _ _ _ (by show w.heap.size + 1 + 1 ≠ w.heap.size; omega), World.cell?_setCell_far _ _ _ _ (by show w.heap.size + 1 + 1 ≠ w.heap.size; omega), World.cell?_setCell_far _ _ _ _ (by show w.heap.size + 1 + 1 ≠ w.heap.size; omega)]; exact e2
    · rw [World.cell?_setCell_far _ _ _ _ (by show w.heap.size + 1 + 1 ≠ w.heap.size + 1; omega), World.cell?_setCell_far _ _ _ _ (by show w.heap.size + 1 + 1 ≠ w.heap.size + 1; omega), World.cell?_setCell_far _ _ _ _ (by show w.heap.size + 1 + 1 ≠ w.heap.size + 1; omega)]; exact e3
  have HSS := Hid.mk' hsetS
  have hne : Bs ≠ w.heap.size + 1 + 1 := by omega
  have hg0 := (HKS.out _ HSB.out.below).2.1
  clear hu hsg hSc hmul hsetS x0 x1
  go_wp2_with fail
  go_region_held3 (fun W => W.cell? ⟨Bs, 0, none⟩ = some (.bool sg) ∧ W.cell? ⟨Bs, 1, none⟩ = some (.slice ad l cap) ∧ W.cell? ⟨w.heap.size, 2, none⟩ = some (.slice bd1 m1 bap1) ∧ W.cell? ⟨w.heap.size + 1, 1, none⟩ = some (.slice ad2 l2 cap2))
    (first | exact HSC.out _ hc0 | exact HSC.out _ hc1 | exact HSC.out _ hc2 | exact HSC.out _ hc3 | exact HSS.out _ _ _ _ hc3 hne)
    (first
      | (go_at_call 46; refine (Lowest_any _ z (d1 * m) (k + k) w6 HRA.out (Nat.mul_pos hd1 hm0) HM.out.1 HM.out.2 (by omega)).mono ?_; rintro e w7 ⟨rv, rfl, ⟨ur, qr, rfl, hur, hqr⟩, hb7⟩; obtain ⟨ad8, l8, cap8, rfl, _⟩ := hur.len; obtain ⟨ad9, l9, cap9, rfl, _⟩ := hqr.len; have hc3 := below_chain hc2 hb7; have hbw7 := below_chain HBC.out hc3; obtain ⟨_, _, ⟨c0, c1, c2⟩, f0, f1, f2⟩ := HNP.out w7 hbw7; have HUR := Hid.mk' hur; have HQR := Hid.mk' hqr; have HBW7 := Hid.mk' hbw7; clear hur hqr hb7 hbw7)
      | (go_at_call 48; refine HMUL.out.mono ?_; rintro e w6 ⟨qv, rfl, hqv, hb6⟩; obtain ⟨bd6, m6, bap6, rfl, _⟩ := hqv.len; have hc2 := below_chain hc1 hb6; have HRA : Hid (RatioAt w6 (.agg #[.bool sg, .slice ad l cap, .slice bd6 m6 bap6]) z (d1 * m)) := ⟨_, _, by rw [HSG.out], HU.out.later hc2, hqv⟩; clear hqv hb6))
  go_wp2_with fail
  refine bodyPost_ret (v := .agg #[.bool (decide (z.tdiv ((Nat.gcd z.natAbs (d1 * m) : Nat) : Int) < 0)), .slice ad8 l8 cap8, .slice ad9 l9 cap9]) (by simp [results, Tryd.results40, go_sem, c0, c1, c2]) rfl ⟨_, rfl, ⟨_, _, rfl, HUR.out.set3 (HN.out.later (by omega) HBW7.out) c0 c1, HQR.out.set3 (HN.out.later (by omega) HBW7.out) c0 c1⟩, below_set3 (below_chain HB.out HBW7.out) (by omega) _ _ _⟩
end Go.Proofs.YtiegobkbinojeaaDoor

/- The document's FarOf: how far the values are from even. -/
namespace Go.Proofs.YtiegobkbinojeaaDoor
open Go.RowKit

theorem low_absR (M : Nat) (z : Int) : ((lowN M z).natAbs : Int) = lowN M (z.natAbs : Int) ∧ lowD M z = lowD M (z.natAbs : Int) := by
  have hg : lowG M z = lowG M (z.natAbs : Int) := by unfold lowG; simp
  unfold lowN lowD
  rw [← hg]
  refine ⟨?_, rfl⟩
  rcases Int.le_total 0 z with h | h
  · rw [show ((z.natAbs : Nat) : Int) = z by omega]
    have := Int.tdiv_nonneg h (show (0 : Int) ≤ (lowG M z : Int) by omega)
    omega
  · rw [show ((z.natAbs : Nat) : Int) = -z by omega, Int.neg_tdiv]
    have := Int.tdiv_nonneg (show 0 ≤ -z by omega) (show (0 : Int) ≤ (lowG M z : Int) by omega)
    rw [Int.neg_tdiv] at this
    omega
/-- Its sign is cleared. -/
theorem RBox.plainR {w : World} {b : Nat} {s : Bool} {x : Option Addr} {l c : Nat} {x' : Option Addr} {l' c' : Nat} {n : Int} {d : Nat} (h : RBox w b s x l c x' l' c' n d) : RBox (w.setCell ⟨b, 0, none⟩ (.bool false)) b false x l c x' l' c' (n.natAbs : Int) d := by
  have h9 : RatioAt (w.setCell ⟨b, 0, none⟩ (.bool false)) (.agg #[.bool s, .slice x l c, .slice x' l' c']) n d := h.rat.setA h.c0 (by simp)
  refine ⟨World.cell?_setCell_same _ _ _ h.c0, ?_, ?_, ?_, fun j hj => by rw [World.frozen?_setCell]; exact h.fz j hj⟩
  · rw [World.cell?_setCell_other _ _ _ _ (by simp)]; exact h.c1
  · rw [World.cell?_setCell_other _ _ _ _ (by simp)]; exact h.c2
  · obtain ⟨u, q, hv, hu, hq⟩ := h9
    simp only [Value.agg.injEq, Array.mk.injEq, List.cons.injEq, and_true] at hv
    obtain ⟨_, h1, h2⟩ := hv
    refine ⟨u, q, ?_, by simpa using hu, hq⟩
    rw [decide_eq_false (show ¬ (n.natAbs : Int) < 0 by omega), h1, h2]
/-- Another's sign is cleared. -/
theorem RBox.asideR {w : World} {b b2 : Nat} {s s2 : Bool} {x : Option Addr} {l c : Nat} {x' : Option Addr} {l' c' : Nat} {n : Int} {d : Nat} (h : RBox w b s x l c x' l' c' n d) (hc : w.cell? ⟨b2, 0, none⟩ = some (.bool s2)) (hne : b2 ≠ b) (y : Value) : RBox (w.setCell ⟨b2, 0, none⟩ y) b s x l c x' l' c' n d := by
  have hcell : ∀ j, (w.setCell ⟨b2, 0, none⟩ y).cell? ⟨b, j, none⟩ = w.cell? ⟨b, j, none⟩ := fun j => World.cell?_setCell_other _ _ _ _ (fun e => hne (congrArg Addr.block e))
  exact ⟨by rw [hcell]; exact h.c0, by rw [hcell]; exact h.c1, by rw [hcell]; exact h.c2, h.rat.setA hc (by simp), fun j hj => by rw [World.frozen?_setCell]; exact h.fz j hj⟩
theorem LB.plainR {w : World} {b M : Nat} {z : Int} (h : LB w b M z) : LB (w.setCell ⟨b, 0, none⟩ (.bool false)) b M (z.natAbs : Int) := by
  obtain ⟨s, x, l, c, x', l', c', h⟩ := h
  have h9 := h.plainR
  rw [(low_absR M z).1, (low_absR M z).2] at h9
  exact ⟨_, _, _, _, _, _, _, h9⟩
theorem sml_farR {M : Nat} {z : Int} (h0 : 0 < M) (h1 : M ≤ 1000000000) (h2 : -1000000000 ≤ z) (h3 : z ≤ 1000000000) : Sml M z := by
  have h : (1000000000 : Nat) < 1000000 ^ 60 := by decide
  exact ⟨h0, by omega, by omega⟩
theorem Over_twoR (M : Nat) (z : Int) (u v : Value) (w : World) (hu : LR w u M z) (hv : LR w v 1 2) (hM : 0 < M) (hM6 : M ≤ 1000000000) (h2 : -1000000000 ≤ z) (h3 : z ≤ 1000000000) :
    Calls Tryd.prog 40 #[u, v] w fun e w' => ∃ r, e = .returned r ∧ LR w' r (2 * M) z ∧ Below w.heap.size w w' := by
  have l1 := sml_farR hM hM6 h2 h3
  have hs := hv
  unfold LR at hs
  rw [(low_one 2).1, (low_one 2).2] at hs
  have h := Over_ratio u v _ 2 _ 1 60 w hu hs (lowD_pos hM _) (by decide) (Nat.lt_of_le_of_lt (lowN_le hM _) l1.2.2) (by decide) (Nat.lt_of_le_of_lt (lowD_le _ _) l1.2.1) (by decide) (by decide)
  have c1 := low_cross hM z
  have e := low_same (M := 2 * M) (d := lowD M z * 2) (z := z) (n := lowN M z * ((1 : Nat) : Int)) (by omega) (Nat.mul_pos (lowD_pos hM _) (by decide)) (by
    simp only [Int.natCast_mul]
    grind)
  rw [e.1, e.2] at h
  exact h
end Go.Proofs.YtiegobkbinojeaaDoor

/- The document's FarOf, walked. -/
namespace Go.Proofs.YtiegobkbinojeaaDoor
open Go.RowKit

theorem wrap_kR (x : Nat) (h : x ≤ 1000000000) : IntKind.i64.wrap (x : Int) = (x : Int) := by
  rw [IntKind.wrap_i64]
  omega
set_option maxRecDepth 100000 in
set_option maxHeartbeats 8000000 in
theorem FarOf_any (m : Nat) (v wv : Value) (R n S : Nat) (vs : Nat → Value) (ns : Nat → Nat) (zs : Nat → Nat → Int) (z : Nat → Int) (w : World) (h : TabAt w v R vs ns zs) (hw : NumsAt w wv n z) (he : famErr (m : Int) R ns zs = 0) (h0 : weightsErr z n = 0) (hlen : n = ns 0) (hS : sumN z n = (S : Int)) :
    Calls Tryd.prog 18 #[.agg #[.int .i64 (m : Int), v], wv] w fun e w' => ∃ r, e = .returned r ∧ LR w' r (2 * (S * R * m)) (apA (m : Int) (S : Int) n zs z R : Int) ∧ Below w.heap.size w w' := by
  have hok := famErr_ok he
  obtain ⟨h16, hokw⟩ := weightsErr_ok h0
  have hn0 := hokw.posN
  have hS1 : 1 ≤ S ∧ S ≤ 4096 := by have := hokw.pos; have := hokw.le; omega
  have hR1 : 1 ≤ R ∧ R ≤ 64 := by have := hok.pos; have := hok.le; omega
  have hm1 : 1 ≤ m ∧ m ≤ 16 := by have := hok.m1; have := hok.m16; omega
  obtain ⟨lad, lc, rfl⟩ := h.form
  obtain ⟨b, o, rfl, _, _⟩ := h.rowR hok.pos
  obtain ⟨vb, vo, vc, rfl, hrow⟩ := nums_row hw hn0
  obtain ⟨Q, hQ⟩ : ∃ Q, Q = S * R * m := ⟨_, rfl⟩
  have hSR : 1 ≤ S * R ∧ S * R ≤ 262144 := ⟨Nat.mul_pos hS1.1 hR1.1, Nat.mul_le_mul hS1.2 hR1.2⟩
  have hRm : 1 ≤ R * m ∧ R * m ≤ 1024 := ⟨Nat.mul_pos hR1.1 hm1.1, Nat.mul_le_mul hR1.2 hm1.2⟩
  have hQ1 : 1 ≤ Q ∧ Q ≤ 4194304 := by rw [hQ]; exact ⟨Nat.mul_pos hSR.1 hm1.1, Nat.mul_le_mul hSR.2 hm1.2⟩
  rw [← hQ]
  have hpart : ∀ i x k, k ≤ n → 0 ≤ ldF (zs i) z k x ∧ ldF (zs i) z k x ≤ 4096 := fun i x k hk => by
    have h1 := ldF_part (zr := zs i) (z := z) (n := n) (fun j hj => (hokw.lt hj).1) x k hk
    have h2 := hokw.part hk
    have h3 := hokw.le
    omega
  have hapA : ∀ i, i ≤ R → apA (m : Int) (S : Int) n zs z i ≤ 71680000 := fun i hi => by
    have := apA_le (M := (m : Int)) (S := (S : Int)) (n := n) (zs := zs) (z := z) (fun i x => hpart i x n (Nat.le_refl _)) (by omega) (by omega) (by omega) (by omega) i
    omega
  have hapR : ∀ i x, x ≤ m → apR (m : Int) (S : Int) (ldF (zs i) z n) x ≤ 1120000 := fun i x hx => by
    have := apR_le (M := (m : Int)) (S := (S : Int)) (fun x => hpart i x n (Nat.le_refl _)) (by omega) (by omega) (by omega) (by omega) x
    omega
  have HSR0 : IntKind.i64.wrap ((S : Int) * (R : Int)) = ((S * R : Nat) : Int) := by rw [← Int.natCast_mul]; exact wrap_kR _ (by omega)
  have HRM0 : IntKind.i64.wrap ((R : Int) * (m : Int)) = ((R * m : Nat) : Int) := by rw [← Int.natCast_mul]; exact wrap_kR _ (by omega)
  have HSUM : Hid (∀ W, Below w.heap.size w W → Calls Tryd.prog 38 #[.slice (some ⟨vb, vo, none⟩) n vc] W fun e w' => e = .returned (.int .i64 (S : Int)) ∧ w' = W) := fun W hb => by
    have h9 := Sum_some vb vo vc n z W (hrow.later hb) (fun k hk => by have := hokw.part hk; omega) (fun i hi => by have := hokw.lt hi; omega) (by omega)
    rw [hS] at h9
    exact h9
  have HRZ : Hid (∀ W, Calls Tryd.prog 22 #[.int .i64 0, .int .i64 1] W fun e w' => ∃ r, e = .returned r ∧ LR w' r Q 0 ∧ Below W.heap.size W w') := fun W => RatioOf_to 0 1 Q 0 W (by decide) (by decide) (by decide) (by decide) (by omega) (by simp)
  have HR2 : Hid (∀ W, Calls Tryd.prog 22 #[.int .i64 2, .int .i64 1] W fun e w' => ∃ r, e = .returned r ∧ LR w' r 1 2 ∧ Below W.heap.size W w') := fun W => RatioOf_to 2 1 1 2 W (by decide) (by decide) (by decide) (by decide) (by decide) (by decide)
  have HRP0 : Hid (∀ (x : Int) (W : World), 0 ≤ x → x ≤ 4096 → Calls Tryd.prog 22 #[.int .i64 x, .int .i64 (IntKind.i64.wrap ((S : Int) * (R : Int)))] W fun e w' => ∃ r, e = .returned r ∧ LR w' r Q (x * m) ∧ Below W.heap.size W w') := fun x W a1 a2 => by
    rw [HSR0]
    exact RatioOf_to x (S * R) Q (x * m) W (by omega) (by omega) (by omega) (by omega) (by omega) (by rw [hQ]; simp only [Int.natCast_mul]; generalize (S : Int) = p; generalize (R : Int) = q; generalize (m : Int) = r; grind)
  have HRQ : Hid (∀ W, Calls Tryd.prog 22 #[.int .i64 1, .int .i64 (IntKind.i64.wrap ((R : Int) * (m : Int)))] W fun e w' => ∃ r, e = .returned r ∧ LR w' r Q (S : Int) ∧ Below W.heap.size W w') := fun W => by
    rw [HRM0]
    exact RatioOf_to 1 (R * m) Q (S : Int) W (by decide) (by decide) (by omega) (by omega) (by omega) (by rw [hQ]; simp only [Int.natCast_mul]; generalize (S : Int) = p; generalize (R : Int) = q; generalize (m : Int) = r; grind)
  have HMI0 : Hid (∀ (x : Int) W u u', 0 ≤ x → x ≤ 65536 → LR W u Q x → LR W u' Q (S : Int) → Calls Tryd.prog 37 #[u, u'] W fun e w' => ∃ r, e = .returned r ∧ LR w' r Q (x - S) ∧ Below W.heap.size W w') := fun x W u u' a1 a2 hu hu' => RMinus_to u u' Q Q Q x S (x - S) W hu hu' (sml_farR (by omega) (by omega) (by omega) (by omega)) (sml_farR (by omega) (by omega) (by omega) (by omega)) (by omega) (by generalize (Q : Int) = q; generalize (S : Int) = s; grind)
  have HPL0 : Hid (∀ (x y : Int) W u u', 0 ≤ x → x ≤ 100000000 → 0 ≤ y → y ≤ 100000000 → LR W u Q x → LR W u' Q y → Calls Tryd.prog 39 #[u, u'] W fun e w' => ∃ r, e = .returned r ∧ LR w' r Q (x + y) ∧ Below W.heap.size W w') := fun x y W u u' a1 a2 b1 b2 hu hu' => RPlus_to u u' Q Q Q x y (x + y) W hu hu' (sml_farR (by omega) (by omega) (by omega) (by omega)) (sml_farR (by omega) (by omega) (by omega) (by omega)) (by omega) (by generalize (Q : Int) = q; grind)
  have HOV0 : Hid (∀ (x : Int) W u u', 0 ≤ x → x ≤ 100000000 → LR W u Q x → LR W u' 1 2 → Calls Tryd.prog 40 #[u, u'] W fun e w' => ∃ r, e = .returned r ∧ LR w' r (2 * Q) x ∧ Below W.heap.size W w') := fun x W u u' a1 a2 hu hu' => Over_twoR Q x u u' W hu hu' (by omega) (by omega) (by omega) (by omega)
  obtain ⟨W0, hW0⟩ : ∃ W0, W0 = (w.alloc (.cells #[.int .i64 (m : Int), .slice (some ⟨b, o, none⟩) R lc] 24)).alloc (.cells #[.bool false, .slice none 0 0, .slice none 0 0] 50) := ⟨_, rfl⟩
  have hb0 : Below w.heap.size w W0 := by rw [hW0]; exact ((Below.refl _ _).alloc (Nat.le_refl _) _).alloc (by simp) _
  have c0 : W0.cell? ⟨w.heap.size, 0, none⟩ = some (.int .i64 (m : Int)) := by rw [hW0]; go_simp
  have c1 : W0.cell? ⟨w.heap.size, 1, none⟩ = some (.slice (some ⟨b, o, none⟩) R lc) := by rw [hW0]; go_simp
  have d0 : W0.cell? ⟨w.heap.size + 1, 0, none⟩ = some (.bool false) := by rw [hW0]; go_simp
  have d1 : W0.cell? ⟨w.heap.size + 1, 1, none⟩ = some (.slice none 0 0) := by rw [hW0]; go_simp
  have d2 : W0.cell? ⟨w.heap.size + 1, 2, none⟩ = some (.slice none 0 0) := by rw [hW0]; go_simp
  have f0 : ∀ j, W0.frozen? ⟨w.heap.size + 1, j, none⟩ = false := fun j => by
    have h := World.frozen?_alloc_new (w.alloc (.cells #[.int .i64 (m : Int), .slice (some ⟨b, o, none⟩) R lc] 24)) #[.bool false, .slice none 0 0, .slice none 0 0] 50 j
    rw [World.size_alloc] at h
    rw [hW0]; exact h
  have HC : Hid (∀ W, Below W0.heap.size W0 W → W.cell? ⟨w.heap.size, 0, none⟩ = some (.int .i64 (m : Int)) ∧ W.cell? ⟨w.heap.size, 1, none⟩ = some (.slice (some ⟨b, o, none⟩) R lc)) := fun W hb => ⟨by rw [hb.cell (cell_lt c0)]; exact c0, by rw [hb.cell (cell_lt c1)]; exact c1⟩
  have HD : Hid (∀ W, Below W0.heap.size W0 W → RBox W (w.heap.size + 1) false none 0 0 none 0 0 0 0) := fun W hb => ⟨by rw [hb.cell (cell_lt d0)]; exact d0, by rw [hb.cell (cell_lt d1)]; exact d1, by rw [hb.cell (cell_lt d2)]; exact d2, ⟨_, _, rfl, big_none _, big_none _⟩, fun j _ => by rw [hb.frozen (show w.heap.size + 1 < W0.heap.size from cell_lt d0)]; exact f0 j⟩
  have HEND : Hid (∀ W, Below W0.heap.size W0 W → Below w.heap.size w W) := fun W hb => hb0.trans (hb.mono hb0.size)
  have HROW : Hid (∀ i, i < R → ∃ rb ro rc, ∀ W, Below W0.heap.size W0 W → W.cell? ⟨b, o + i, none⟩ = some (.slice (some ⟨rb, ro, none⟩) n rc) ∧ ∀ x, x < n → W.cell? ⟨rb, ro + x, none⟩ = some (.int .i64 (zs i x))) := fun i hi => by
    obtain ⟨b', o', e, h1, h2⟩ := h.rowR hi
    obtain ⟨rfl, rfl⟩ : b = b' ∧ o = o' := by simpa using e
    rw [hok.len i hi, ← hlen] at h2
    rcases h2 with ⟨_, _, _, h0⟩ | ⟨rb, ro, rc, hv, _, hr⟩
    · omega
    · rw [hv] at h1
      exact ⟨rb, ro, rc, fun W hb => ⟨by have := hb0.trans (hb.mono hb0.size); rw [this.cell (cell_lt h1)]; exact h1, fun x hx => (hr.later (hb0.trans (hb.mono hb0.size))) x hx⟩⟩
  have HWV : Hid (∀ W, Below W0.heap.size W0 W → ∀ x, x < n → W.cell? ⟨vb, vo + x, none⟩ = some (.int .i64 (z x))) := fun W hb x hx => (hrow.later (hb0.trans (hb.mono hb0.size))) x hx
  have HZ : Hid (∀ i x, i < R → x < n → 0 ≤ zs i x ∧ zs i x < (m : Int)) := fun i x hi hx => hok.num i hi x (by rw [← hlen]; exact hx)
  have HPT := Hid.mk' hpart
  have HLA := Hid.mk' hapA
  have HLR := Hid.mk' hapR
  have HZZ := Hid.mk' (fun x (hx : x < n) => hokw.lt hx)
  have HW0 := Hid.mk' hW0
  have HLW : Hid (w.heap.size + 1 < W0.heap.size) := cell_lt d0
  have HS1 := Hid.mk' hS1
  have HM1 := Hid.mk' hm1
  have hmI : (m : Int) ≤ 16 := by omega
  have hm0 : (0 : Int) ≤ (m : Int) := by omega
  have hnI : (n : Int) ≤ 16 := by omega
  have hRI : (R : Int) ≤ 64 := by omega
  clear h hw hrow hok hokw he h0 hS hb0 hW0 c0 c1 d0 d1 d2 f0 hpart hapA hapR HSR0 HRM0 hQ hSR hRm hQ1 hS1 hR1 hm1 hlen
  go_enter Tryd.func18, Tryd.ntmps18
  go_upto_region 1 with fail
  rw [← HW0.out]
  go_wp2_with fail
  refine (HRZ.out _).mono ?_
  rintro e w3 ⟨r3, rfl, hr3, hb3⟩
  obtain ⟨s3, x3, l3, k3, y3, m3, q3, rfl⟩ := hr3.sl
  have HLB : Hid (LB (w3.alloc (.cells #[.bool s3, .slice x3 l3 k3, .slice y3 m3 q3] 50)) w3.heap.size Q 0) := ⟨_, _, _, _, _, _, _, RBox.fresh hr3⟩
  have HBS : Hid (W0.heap.size ≤ w3.heap.size) := hb3.size
  have HB3 := Hid.mk' (below_chain hb3 (new_below w3 (.cells #[.bool s3, .slice x3 l3 k3, .slice y3 m3 q3] 50)))
  clear hr3 hb3 HRZ
  go_upto_region 2 with fail
  generalize w3.alloc (.cells #[.bool s3, .slice x3 l3 k3, .slice y3 m3 q3] 50) = W3 at *
  generalize w3.heap.size = Bs at *
  go_wp2_with fail
  go_loopw [6] (fun t wr => ∃ i : Nat, i ≤ R ∧ t = .int .i64 (i : Int) ∧ Hid (LB wr Bs Q (apA (m : Int) (S : Int) n zs z i : Int)) ∧ Hid (Below W0.heap.size W0 wr)) (fun t _ => R - (intOf t).toNat)
  case atStart => exact ⟨0, Nat.zero_le _, rfl, HLB.out, HB3.out⟩
  case round =>
    clear HLB HB3
    obtain ⟨i, hi, rfl, HL, HB⟩ := hrel
    have g1 := (HC.out wr HB.out).2
    rcases Nat.lt_or_ge i R with h1 | h1
    · have hiI : (i : Int) < (R : Int) := by omega
      have hi0 : (0 : Int) ≤ (i : Int) := by omega
      obtain ⟨rb, ro, rc, hrw⟩ := HROW.out i h1
      have HRW := Hid.mk' hrw
      have HA0 : Hid (apA (m : Int) (S : Int) n zs z (i + 1) = apA (m : Int) (S : Int) n zs z i + apR (m : Int) (S : Int) (ldF (zs i) z n) m) := rfl
      have hA0 := HLA.out i (by omega)
      clear hrw
      generalize apA (m : Int) (S : Int) n zs z i = A at *
      have HL2 := HL
      have HB2 := HB
      go_wp2_with fail
      clear g1
      go_loopw [7] (fun t wx => ∃ x : Nat, x ≤ m ∧ t = .int .i64 (x : Int) ∧ Hid (LB wx Bs Q ((A : Int) + (apR (m : Int) (S : Int) (ldF (zs i) z n) x : Int))) ∧ Hid (Below W0.heap.size W0 wx)) (fun t _ => m - (intOf t).toNat)
      case atStart => exact ⟨0, Nat.zero_le _, rfl, by show LB _ _ _ ((A : Int) + ((0 : Nat) : Int)); rw [Int.natCast_zero, Int.add_zero]; exact HL2.out, HB2.out⟩
      case round =>
        clear HL HB HL2 HB2
        obtain ⟨x, hx, rfl, HL, HB⟩ := hrel
        have g0 := (HC.out wr HB.out).1
        rcases Nat.lt_or_ge x m with h2 | h2
        · have hxI : (x : Int) < (m : Int) := by omega
          have hx0 : (0 : Int) ≤ (x : Int) := by omega
          have HBO := HB
          have HLO := HL
          rename World => wy
          go_wp2_with fail
          clear g0
          go_loop [8, 9] (fun s t => ∃ k : Nat, k ≤ n ∧ s = .int .i64 (ldF (zs i) z k x) ∧ t = .int .i64 (k : Int)) (fun _ t => n - (intOf t).toNat)
          case atStart => exact ⟨0, Nat.zero_le _, rfl, rfl⟩
          case round =>
            obtain ⟨k, hk, rfl, rfl⟩ := hrel
            rcases Nat.lt_or_ge k n with h3 | h3
            · have hkI : (k : Int) < (n : Int) := by omega
              have hk0 : (0 : Int) ≤ (k : Int) := by omega
              have g1 := (HC.out _ HBO.out).2
              obtain ⟨r1, r2'⟩ := HRW.out _ HBO.out
              have r2 := r2' k h3
              clear r2'
              have r3 := HWV.out _ HBO.out k h3
              have hp := HPT.out i x k (by omega)
              have hq := HZZ.out k h3
              have HN : Hid (ldF (zs i) z (k + 1) x = if zs i k = (x : Int) then ldF (zs i) z k x + z k else ldF (zs i) z k x) := rfl
              generalize ldF (zs i) z k x = s at *
              generalize zs i k = y at *
              generalize z k = u at *
              by_cases hy : y = (x : Int)
              · have k1 : (y == (x : Int)) = true := by simp; exact hy
                rw [if_pos hy] at HN
                clear hy
                go_wp2_with fail
                exact ⟨⟨k + 1, h3, by rw [HN.out], by go_num⟩, by simp [intOf]; omega⟩
              · have k1 : (y == (x : Int)) = false := by simp; exact hy
                rw [if_neg hy] at HN
                clear hy
                go_wp2_with fail
                exact ⟨⟨k + 1, h3, by rw [HN.out], by go_num⟩, by simp [intOf]; omega⟩
            obtain rfl : k = n := by omega
            have hkI : ¬ (k : Int) < (k : Int) := by omega
            have hp := HPT.out i x k (Nat.le_refl _)
            have hAR := HLR.out i x (by omega)
            have hap := ap_one (f := ldF (zs i) z k x) (S := (S : Int)) (M := (m : Int)) hp.1 hp.2 (by have := HS1.out; omega) (by have := HS1.out; omega) (by have := HM1.out; omega) hmI
            have HN : Hid (apR (m : Int) (S : Int) (ldF (zs i) z k) (x + 1) = apR (m : Int) (S : Int) (ldF (zs i) z k) x + (ldF (zs i) z k x * (m : Int) - (S : Int)).natAbs) := rfl
            have HRP := Hid.mk' (fun W => HRP0.out (ldF (zs i) z k x) W hp.1 hp.2)
            have HMI := Hid.mk' (fun W u u' => HMI0.out (ldF (zs i) z k x * (m : Int)) W u u' hap.1 hap.2.1)
            have HPL := Hid.mk' (fun W u u' => HPL0.out ((A : Int) + (apR (m : Int) (S : Int) (ldF (zs i) z k) x : Int)) ((ldF (zs i) z k x * (m : Int) - (S : Int)).natAbs : Int) W u u' (by omega) (by omega) (by omega) (by omega))
            clear hp hAR hap
            generalize apR (m : Int) (S : Int) (ldF (zs i) z k) x = T at *
            generalize ldF (zs i) z k x = s at *
            generalize s * (m : Int) = y at *
            have HKS : Hid (∀ W, Below wy.heap.size wy W → W.cell? ⟨w.heap.size, 0, none⟩ = some (.int .i64 (m : Int)) ∧ W.cell? ⟨w.heap.size, 1, none⟩ = some (.slice (some ⟨b, o, none⟩) R lc)) := fun W hb => HC.out W (below_chain HBO.out hb)
            have HSU : Hid (∀ W, Below wy.heap.size wy W → Calls Tryd.prog 38 #[.slice (some ⟨vb, vo, none⟩) k vc] W fun e w' => e = .returned (.int .i64 (S : Int)) ∧ w' = W) := fun W hb => HSUM.out W (HEND.out W (below_chain HBO.out hb))
            have hcur0 : Below wy.heap.size wy wy := Below.refl _ _
            have hcur : Below wy.heap.size wy wy.drew := (Below.refl _ _).drew
            have hcurA : ∀ X, Below wy.heap.size wy (wy.alloc X).drew := fun X => (new_below _ _).drew
            go_upto_region 14 with fail
            go_cut [10] from 47 to 62 (fun s' wx => ∃ Bq : Nat, s' = .pointer (some ⟨Bq, 0, none⟩) ∧ Hid (DBx wy wx Bq Q (y - S)))
            case first =>
              go_region_held3 (fun W => W.cell? ⟨w.heap.size, 0, none⟩ = some (.int .i64 (m : Int)) ∧ W.cell? ⟨w.heap.size, 1, none⟩ = some (.slice (some ⟨b, o, none⟩) R lc))
                (first | exact HKS.out _ hcur0 | exact HKS.out _ hcur | exact HKS.out _ (hcurA _) | (refine HKS.out _ ?_; assumption) | (refine HKS.out _ (more_below ?_ _); assumption) | (refine HKS.out _ (set3_below ?_ NB.hB _ _ _); assumption))
                (first
                  | (go_at_call 37; refine (HMI.out _ _ _ ?_ ?_).mono ?_; (first | exact HXP.out | exact HXP.out.later (new_below _ _)); (first | exact HXQ.out | exact HXQ.out.later (new_below _ _)); rintro e w7 ⟨rv, rfl, hrv, hb7⟩; obtain ⟨sg, ad8, l8, cap8, ad9, l9, cap9, rfl⟩ := hrv.sl; (first | (have hbw7 := below_chain hbP hb7; try have NB := NB.later hb7) | (have hbw7 := below_chain hbQ hb7; try have NB := NB.later hb7) | (have hbw7 := below_chain (more_below hbP _) hb7; have NB := nbx_of hbP hb7) | (have hbw7 := below_chain (more_below hbQ _) hb7; have NB := nbx_of hbQ hb7)); (try (have y0 := NB.box.c0; have y1 := NB.box.c1; have y2 := NB.box.c2; have y3 := NB.box.fz 0 (by decide); have y4 := NB.box.fz 1 (by decide); have y5 := NB.box.fz 2 (by decide))); have HRV := Hid.mk' hrv; clear hrv hb7)
                  | (go_at_call_of 22 s; refine (HRP.out _).mono ?_; rintro e w5 ⟨r5, rfl, hr5, hb5⟩; obtain ⟨sg5, ad5, l5, cap5, ad6, l6, cap6, rfl⟩ := hr5.sl; (first | have hbP := below_chain hcur hb5 | (have hbP := below_chain (hcurA _) hb5; have NB := nbx_of hcur0 (below_chain ((Below.refl _ _).drew) hb5)) | (have hbP := below_chain hbQ hb5; have HXQ := Hid.mk' (HXQ.out.later hb5); (try have NB := NB.later hb5)) | (have hbP := below_chain (more_below hbQ _) hb5; have HXQ := Hid.mk' ((HXQ.out.later (new_below _ _)).later hb5); have NB := nbx_of hbQ hb5)); have HXP := Hid.mk' hr5; clear hr5 hb5)
                  | (go_at_call_of 22 m; refine (HRQ.out _).mono ?_; rintro e w6 ⟨r6, rfl, hr6, hb6⟩; obtain ⟨sg6, ad10, l10, cap10, ad11, l11, cap11, rfl⟩ := hr6.sl; (first | have hbQ := below_chain hcur hb6 | (have hbQ := below_chain (hcurA _) hb6; have NB := nbx_of hcur0 (below_chain ((Below.refl _ _).drew) hb6)) | (have hbQ := below_chain hbP hb6; have HXP := Hid.mk' (HXP.out.later hb6); (try have NB := NB.later hb6)) | (have hbQ := below_chain (more_below hbP _) hb6; have HXP := Hid.mk' ((HXP.out.later (new_below _ _)).later hb6); have NB := nbx_of hbP hb6)); have HXQ := Hid.mk' hr6; clear hr6 hb6)
                  | (go_at_call 38; refine (HSU.out _ ?_).mono ?_; (first | exact hcur | exact hcurA _ | exact hbQ | exact more_below hbQ _); rintro e wS ⟨rfl, hwS⟩; rw [hwS]; clear hwS))
              all_goals
                go_wp2_with fail
                go_meet
                first | exact ⟨_, rfl, dbx_late hbw7 HRV.out⟩ | exact ⟨_, rfl, dbx_soon hbw7 HRV.out NB⟩
            case rest =>
            obtain ⟨Bq, rfl, HRB⟩ := hcut
            obtain ⟨Wq, hWq⟩ : ∃ W, W = wc := ⟨_, rfl⟩
            rw [← hWq] at HRB ⊢
            clear hWq hcur0 hcur hcurA HKS HSU HMI HRP
            obtain ⟨sS, xS, lS, cS, yS, mS, kS, hsum0⟩ := HLO.out
            have hBsl : Bs < wy.heap.size := cell_lt hsum0.c0
            have hbx := HRB.out.below
            have hne : Bq ≠ Bs := by have := HRB.out.hB; omega
            have hBq : W0.heap.size ≤ Bq := Nat.le_trans HBO.out.size HRB.out.hB
            have hsum := hsum0.later hbx
            obtain ⟨sq, xq, lq, cq, yq, mq, kq, hbox⟩ := HRB.out.box
            have x0 := hbox.c0
            have xf := hbox.fz 0 (by decide)
            obtain ⟨W6, hW6⟩ : ∃ W6, W6 = Wq.setCell ⟨Bq, 0, none⟩ (.bool false) := ⟨_, rfl⟩
            have hD6 := hbox.plainR
            rw [(low_absR Q (y - S)).1, (low_absR Q (y - S)).2, ← hW6] at hD6
            have hS6 := hsum.asideR x0 hne (.bool false)
            rw [← hW6] at hS6
            have HB6 : Hid (Below W0.heap.size W0 W6) := by show Below _ _ _; rw [hW6]; exact (below_chain HBO.out hbx).setCell hBq _
            have HD6 := Hid.mk' hD6
            have HS6 := Hid.mk' hS6
            have HW6 := Hid.mk' hW6
            have HBS2 := HBS
            clear hW6 hD6 hS6 hsum hbox hsum0 hbx HRB hBsl hne hBq HBO HLO
            go_upto_region 16 with fail
            rw [← HW6.out]
            clear HW6 x0 xf
            have c0 := HS6.out.c0
            have c1 := HS6.out.c1
            have c2 := HS6.out.c2
            have d0 := HD6.out.c0
            have d1 := HD6.out.c1
            have d2 := HD6.out.c2
            go_wp2_with fail
            refine (HPL.out _ _ _ HS6.out.rat HD6.out.rat).mono ?_
            rintro e wb ⟨rv, rfl, hrv, hbb⟩
            obtain ⟨sb, xb, lb, cb, yb, mb, kb, rfl⟩ := hrv.sl
            have hL9 := HS6.out.later hbb
            clear c0 c1 c2 d0 d1 d2
            have fz0 := hL9.fz 0 (by decide)
            have fz1 := hL9.fz 1 (by decide)
            have fz2 := hL9.fz 2 (by decide)
            have k0 := hL9.c0
            have k1 := hL9.c1
            have k2 := hL9.c2
            obtain ⟨⟨g0, g1⟩, ⟨g2, g3⟩, g4⟩ := put_three' (.bool sb) (.slice xb lb cb) (.slice yb mb kb) k0 k1 k2
            have HP := Hid.mk' (hL9.put hrv)
            have HB9 : Hid (Below W0.heap.size W0 (((wb.setCell ⟨Bs, 0, none⟩ (.bool sb)).setCell ⟨Bs, 1, none⟩ (.slice xb lb cb)).setCell ⟨Bs, 2, none⟩ (.slice yb mb kb))) := (((below_chain HB6.out hbb).setCell HBS.out _).setCell HBS.out _).setCell HBS.out _
            clear hL9 hrv hbb HD6 HS6 HB6
            go_wp2_with fail
            unfold put3 at HP
            exact ⟨⟨x + 1, h2, by go_num, by show LB _ _ _ _; rw [HN.out, Int.natCast_add, ← Int.add_assoc]; exact ⟨_, _, _, _, _, _, _, HP.out⟩, HB9⟩, by simp [intOf]; omega⟩
        · obtain rfl : x = m := by omega
          have hxI : ¬ (x : Int) < (x : Int) := by omega
          go_wp2_with fail
          exact ⟨⟨i + 1, h1, by go_num, by show LB _ _ _ _; rw [HA0.out, Int.natCast_add]; exact HL.out, HB⟩, by simp [intOf]; omega⟩
    · obtain rfl : i = R := by omega
      have hiI : ¬ (i : Int) < (i : Int) := by omega
      obtain ⟨s5, ad5, l5, cap5, ad6, l6, cap6, hL9⟩ := HL.out
      have HX5 := Hid.mk' hL9
      have hA := HLA.out i (Nat.le_refl _)
      have hne : w.heap.size + 1 ≠ Bs := by have := HBS.out; have := HLW.out; omega
      have HKS : Hid (∀ W, Below wr.heap.size wr W → W.cell? ⟨Bs, 0, none⟩ = some (.bool s5) ∧ W.cell? ⟨Bs, 1, none⟩ = some (.slice ad5 l5 cap5) ∧ W.cell? ⟨Bs, 2, none⟩ = some (.slice ad6 l6 cap6)) := fun W hb => ⟨(HX5.out.later hb).c0, (HX5.out.later hb).c1, (HX5.out.later hb).c2⟩
      have HSS : Hid (∀ (W : World) (x y z : Value), Below wr.heap.size wr W → (((W.setCell ⟨w.heap.size + 1, 0, none⟩ x).setCell ⟨w.heap.size + 1, 1, none⟩ y).setCell ⟨w.heap.size + 1, 2, none⟩ z).cell? ⟨Bs, 0, none⟩ = some (.bool s5) ∧ (((W.setCell ⟨w.heap.size + 1, 0, none⟩ x).setCell ⟨w.heap.size + 1, 1, none⟩ y).setCell ⟨w.heap.size + 1, 2, none⟩ z).cell? ⟨Bs, 1, none⟩ = some (.slice ad5 l5 cap5) ∧ (((W.setCell ⟨w.heap.size + 1, 0, none⟩ x).setCell ⟨w.heap.size + 1, 1, none⟩ y).setCell ⟨w.heap.size + 1, 2, none⟩ z).cell? ⟨Bs, 2, none⟩ = some (.slice ad6 l6 cap6)) := fun W x y z hb => by
        obtain ⟨e0, e1, e2⟩ := HKS.out W hb
        have hc : ∀ j, (((W.setCell ⟨w.heap.size + 1, 0, none⟩ x).setCell ⟨w.heap.size + 1, 1, none⟩ y).setCell ⟨w.heap.size + 1, 2, none⟩ z).cell? ⟨Bs, j, none⟩ = W.cell? ⟨Bs, j, none⟩ := fun j => by
          rw [World.cell?_setCell_other _ _ _ _ (fun e => hne (congrArg Addr.block e)), World.cell?_setCell_other _ _ _ _ (fun e => hne (congrArg Addr.block e)), World.cell?_setCell_other _ _ _ _ (fun e => hne (congrArg Addr.block e))]
        exact ⟨(hc 0).trans e0, (hc 1).trans e1, (hc 2).trans e2⟩
      have HOV : Hid (∀ (W : World) (u' : Value), Below wr.heap.size wr W → LR W u' 1 2 → Calls Tryd.prog 40 #[.agg #[.bool s5, .slice ad5 l5 cap5, .slice ad6 l6 cap6], u'] W fun e w' => ∃ r, e = .returned r ∧ LR w' r (2 * Q) (apA (m : Int) (S : Int) n zs z i : Int) ∧ Below W.heap.size W w') := fun W u' hb hu' => HOV0.out (apA (m : Int) (S : Int) n zs z i : Int) W _ u' (by omega) (by omega) (HX5.out.later hb).rat hu'
      have hcur0 : Below wr.heap.size wr wr := Below.refl _ _
      have hcur : Below wr.heap.size wr wr.drew := (Below.refl _ _).drew
      have HBW := Hid.mk' HB.out
      clear hL9 hA hne HL HB
      go_wp2_with fail
      clear g1
      go_region_held3 (fun W => W.cell? ⟨Bs, 0, none⟩ = some (.bool s5) ∧ W.cell? ⟨Bs, 1, none⟩ = some (.slice ad5 l5 cap5) ∧ W.cell? ⟨Bs, 2, none⟩ = some (.slice ad6 l6 cap6))
        (first | exact HKS.out _ hcur0 | exact HKS.out _ hcur | exact HKS.out _ hc1 | exact HKS.out _ hc2 | exact HSS.out _ _ _ _ hc2)
        (first
          | (go_at_call 40; refine (HOV.out _ _ hc1 HX1.out).mono ?_; rintro e w7 ⟨rv, rfl, hrv, hb7⟩; obtain ⟨sg, ad8, l8, cap8, ad9, l9, cap9, rfl⟩ := hrv.sl; have hc2 := below_chain hc1 hb7; have hbw7 := below_chain HBW.out hc2; have NB := HD.out w7 hbw7; have y0 := NB.c0; have y1 := NB.c1; have y2 := NB.c2; have y3 := NB.fz 0 (by decide); have y4 := NB.fz 1 (by decide); have y5 := NB.fz 2 (by decide); have HRV := Hid.mk' (RatioAt.put3 NB hrv (.bool sg) (.slice ad8 l8 cap8) (.slice ad9 l9 cap9)); have HB7 := Hid.mk' (HEND.out _ hbw7); clear hrv hb7 hbw7 NB)
          | (go_at_call 22; refine (HR2.out _).mono ?_; rintro e w5 ⟨r5, rfl, hr5, hb5⟩; obtain ⟨sg5, ad10, l10, cap10, ad11, l11, cap11, rfl⟩ := hr5.sl; have hc1 := below_chain hcur hb5; have HX1 := Hid.mk' hr5; clear hr5 hb5))
      go_wp2_with fail
      unfold put3 at HRV
      exact bodyPost_ret (v := .agg #[.bool sg, .slice ad8 l8 cap8, .slice ad9 l9 cap9]) (by simp [results, Tryd.results18, go_sem, y0, y1, y2]) rfl ⟨_, rfl, HRV.out, ((HB7.out.setCell (by simp) _).setCell (by simp) _).setCell (by simp) _⟩
end Go.Proofs.YtiegobkbinojeaaDoor

/- Whatever numbers, put behind a row of one's own; a list with its room. -/
namespace Go.Proofs.YtiegobkbinojeaaDoor
open Go.RowKit

theorem ow_pushR {B : Nat} {w0 wr w3 : World} {v : Value} {e : TypeId} {size n : Nat} {xs : List Value} (hB : Below B w0 wr) (hle : B ≤ wr.heap.size) (hR : wr.ownsRow B e size v n xs) (hg : wr.grownBy w3 v.ownBlock) : Below B w0 w3 :=
  hB.trans ((Below.refl _ _).grown hg hle (fun k e => (hR.lt k e).1))
theorem append_zeroVR (w : World) (ty : TypeId) {B n : Nat} {v : Value} {xs : List Value} (hown : w.ownsRow B 3 1 v n xs) (ad : Option Addr) (cap : Nat) : (Builtin.append_ #[39, 39] ty #[v, .slice ad 0 cap]).run Tryd.prog w = .ok v w := by
  obtain ⟨i, hi, hi2⟩ := Option.map_eq_some_iff.1 Tryd.infoInt
  have src : Src Tryd.prog i.size 39 (.slice ad 0 cap) 0 [] w := by
    cases ad with
    | none => exact Src.ofNil w Tryd.underlying39 cap
    | some a => exact Src.ofSlice w Tryd.underlying39 a 0 cap [] (by simp) (fun j u h => by simp at h) (fun u h => by simp at h)
  rcases hown.2 with ⟨rfl, _⟩ | ⟨g, cp, cur, rfl, _, _, hc, _⟩
  · exact run_append_nothing w _ _ ty 3 i Tryd.underlying39 hi none 0 0 (Nat.le_refl _) _ src
  · exact run_append_nothing w _ _ ty 3 i Tryd.underlying39 hi _ n cp hc _ src
theorem wpList_append_ownR {w : World} {ops : Array Oper} {rest : List Oper} {o : Oper} {a : Act} {Q : Exit → Act → World → Prop} (hgd : o.guard = none) (s x : Operand)
    (ho : o.op = .call { callee := .builtin .append, args := #[s, x], argTypes := #[39, 39] })
    (w0 : World) (B : Nat) (v : Value) (n : Nat) (xs : List Value) (src : Value) (m : Nat) (y : Nat → Int) (hs : a.eval s = v) (hx : a.eval x = src) (hown : w.ownsRow B 3 1 v n xs) (hB : Below B w0 w) (hle : B ≤ w.heap.size) (h : NumsAt w src m y) (hn : n + m ≤ 100000)
    (k : ∀ v' w', w'.ownsRow B 3 1 v' (n + m) (xs ++ numCells y m) → Below B w0 w' → B ≤ w'.heap.size → wpList Tryd.prog ops Q rest (a.put o.dst v') w') : wpList Tryd.prog ops Q (o :: rest) a w := by
  rcases h with ⟨ad, cap, rfl, rfl⟩ | ⟨b, o', cap, rfl, h0, hr⟩
  · refine wpList_plain hgd fun K hK => ?_
    have hrun := append_zeroVR w o.type hown ad cap
    unfold Oper.wp
    simp [execOp, ho, resolve, invoke, builtin, hs, hx, hrun, Result.andThen]
    exact hK _ _ (k _ _ (by simpa [numCells] using hown) hB hle)
  · obtain ⟨i, hi, hi2⟩ := Option.map_eq_some_iff.1 Tryd.infoInt
    obtain ⟨hz, hsz, hby⟩ : i.zero = some (.int .i64 0) ∧ i.size = 1 ∧ i.bytes = 8 := by simpa using hi2
    refine wpList_append_lies w hgd s x 39 ho B 3 i _ 1 8 Tryd.underlying39 hi hz hsz hby rfl (by omega) v n xs hs hown ⟨b, o', none⟩ m cap (numCells y m) hx (by rw [numCells_length, Nat.mul_one]) (fun j u hu => numCells_news hr j u hu) (fun u hu => by obtain ⟨x, rfl⟩ := numCells_ints y m u hu; rfl) h0 (by unfold maxLen; omega) (by omega) hle _ rfl ?_
    intro g cap' w1 hown1 hgrow hat hlt
    have hb1 := ow_pushR hB hle hown hgrow
    exact k _ _ hown1 hb1 (Nat.le_trans hle (ow_pushR (Below.refl _ _) hle hown hgrow).size)
/-- A list in memory, with its room. -/
def RowIsR (w : World) (v : Value) (L : List Int) : Prop := (L = [] ∧ ∃ ad cap, v = .slice ad 0 cap) ∨ ∃ b cap, v = .slice (some ⟨b, 0, none⟩) L.length cap ∧ 0 < L.length ∧ L.length ≤ cap ∧ RowAt w b 0 L.length (atF L)
theorem RowIsR.later {w w' : World} {v : Value} {L : List Int} (h : RowIsR w v L) (hb : Below w.heap.size w w') : RowIsR w' v L := by
  rcases h with h | ⟨b, cap, hv, h0, h1, h2⟩
  · exact Or.inl h
  · exact Or.inr ⟨b, cap, hv, h0, h1, h2.later hb⟩
theorem RowIsR.nums {w : World} {v : Value} {L : List Int} (h : RowIsR w v L) : NumsAt w v L.length (atF L) := by
  rcases h with ⟨rfl, ad, cap, hv⟩ | ⟨b, cap, hv, h0, h1, h2⟩
  · exact Or.inl ⟨_, _, hv, rfl⟩
  · exact Or.inr ⟨b, 0, cap, hv, h0, h2⟩
theorem rowIs_ownR {w : World} {B : Nat} {v : Value} {L : List Int} {n : Nat} (h : w.ownsRow B 3 1 v n (cellL L)) (hn : n = L.length) (h0 : 0 < n) : RowIsR w v L := by
  subst hn
  rcases h.2 with ⟨_, h1⟩ | ⟨g, cap, cur, rfl, _, _, hc, _⟩
  · omega
  · refine Or.inr ⟨g, cap, rfl, h0, hc, ?_⟩
    rw [← numCells_list] at h
    exact rowAt_of_row h
theorem rowL_takeR (L : List Int) (k : Nat) (hk : k ≤ L.length) : rowL (atF L) k = L.take k := by
  refine List.ext_getElem (by simp [rowL]; omega) (fun i h1 h2 => ?_)
  simp [rowL] at h1
  simp [rowL, atF, List.getD, show i < L.length by omega]
theorem rowL_dropR (L : List Int) (k : Nat) : rowL (fun j => atF L (k + j)) (L.length - k) = L.drop k := by
  refine List.ext_getElem (by simp [rowL]) (fun i h1 h2 => ?_)
  simp [rowL] at h1
  simp [rowL, atF, List.getD, show k + i < L.length by omega]
theorem sub_headR {W : World} {b cp k : Nat} {L : List Int} (h : RowAt W b 0 L.length (atF L)) (hk : k ≤ L.length) : NumsAt W (.slice (some ⟨b, 0, none⟩) k cp) k (atF L) := by
  rcases Nat.eq_zero_or_pos k with h0 | h0
  · exact Or.inl ⟨_, _, by rw [h0], h0⟩
  · exact Or.inr ⟨b, 0, cp, rfl, h0, fun i hi => h i (by omega)⟩
theorem sub_tailR {W : World} {b cp k : Nat} {L : List Int} (h : RowAt W b 0 L.length (atF L)) (hk : k ≤ L.length) : NumsAt W (.slice (some ⟨b, k, none⟩) (L.length - k) cp) (L.length - k) (fun j => atF L (k + j)) := by
  rcases Nat.eq_zero_or_pos (L.length - k) with h0 | h0
  · exact Or.inl ⟨_, _, by rw [h0], h0⟩
  · exact Or.inr ⟨b, k, cp, rfl, h0, fun i hi => by have := h (k + i) (by omega); rwa [Nat.zero_add] at this⟩
theorem cut_cellsR (L : List Int) (k : Nat) (hk : k < L.length) : ([] ++ numCells (atF L) k) ++ numCells (fun j => atF L (k + 1 + j)) (L.length - (k + 1)) = cellL (L.eraseIdx k) := by
  rw [List.nil_append, ← cellL_row, ← cellL_row, rowL_takeR L k (by omega), rowL_dropR, ← cellL_append, List.eraseIdx_eq_take_drop_succ]
theorem row_cutR {W : World} {B : Nat} {v : Value} {L : List Int} {k m n : Nat} (hk : k < L.length) (hm : m = L.length - (k + 1)) (hn : n = 0 + k + m) (h : W.ownsRow B 3 1 v n (([] ++ numCells (atF L) k) ++ numCells (fun j => atF L (k + 1 + j)) m)) : RowIsR W v (L.eraseIdx k) := by
  rw [hm, cut_cellsR L k hk] at h
  have hl : (L.eraseIdx k).length = L.length - 1 := by rw [List.length_eraseIdx]; simp [hk]
  rcases Nat.eq_zero_or_pos n with h0 | h0
  · subst h0
    have h9 : (L.eraseIdx k).length = 0 := by omega
    have h8 : L.eraseIdx k = [] := List.length_eq_zero_iff.1 h9
    rw [h8] at h ⊢
    rcases h.2 with ⟨hx, _⟩ | ⟨g, cap, cur, rfl, _, _, hc, _⟩
    · exact Or.inl ⟨rfl, _, _, hx⟩
    · exact Or.inl ⟨rfl, _, _, rfl⟩
  · exact rowIs_ownR h (by omega) h0
end Go.Proofs.YtiegobkbinojeaaDoor

/- The document's GuessesOf: the greatest first, over and over. -/
namespace Go.Proofs.YtiegobkbinojeaaDoor
open Go.RowKit

/-- Guesses so far. -/
def gueC (c : List Int) : Int := gueN (atF c) c.length
theorem atF_left {c : List Int} {x : Int} {i : Nat} (h : i < c.length) : atF (c ++ [x]) i = atF c i := by
  unfold atF
  rw [List.getD_eq_getElem?_getD, List.getD_eq_getElem?_getD, List.getElem?_append_left h]
theorem atF_right {c : List Int} {x : Int} : atF (c ++ [x]) c.length = x := by
  unfold atF
  rw [List.getD_eq_getElem?_getD, List.getElem?_append_right (Nat.le_refl _), Nat.sub_self]; rfl
theorem gueN_congr {f g : Nat → Int} : ∀ {n : Nat}, (∀ i, i < n → f i = g i) → gueN f n = gueN g n
  | 0, _ => rfl
  | n + 1, h => by
    show gueN f n + ((n : Int) + 1) * f n = gueN g n + ((n : Int) + 1) * g n
    rw [gueN_congr (fun i hi => h i (by omega)), h n (by omega)]
theorem gueC_push (c : List Int) (x : Int) : gueC (c ++ [x]) = gueC c + ((c.length : Int) + 1) * x := by
  unfold gueC
  rw [List.length_append, List.length_singleton]
  show gueN (atF (c ++ [x])) c.length + ((c.length : Int) + 1) * atF (c ++ [x]) c.length = _
  rw [atF_right, gueN_congr (fun i hi => atF_left hi)]
/-- What is chosen, and what is left. -/
structure Picks (z : Nat → Int) (n : Nat) (c L : List Int) : Prop where
  perm : (c ++ L).Perm (rowL z n)
  down : c.Pairwise (fun a b => b ≤ a)
  below : ∀ x, x ∈ c → ∀ y, y ∈ L → y ≤ x
theorem Picks.start (z : Nat → Int) (n : Nat) : Picks z n [] (rowL z n) := ⟨List.Perm.refl _, List.Pairwise.nil, fun x hx => by simp at hx⟩
theorem perm_pick (L : List Int) (k : Nat) (hk : k < L.length) : (L[k] :: L.eraseIdx k).Perm L := by
  induction L generalizing k with
  | nil => simp at hk
  | cons a l ih =>
    cases k with
    | zero => exact List.Perm.refl _
    | succ k =>
      have hk' : k < l.length := by simpa using hk
      have := ih k hk'
      show (l[k] :: a :: l.eraseIdx k).Perm (a :: l)
      exact (List.Perm.swap a l[k] _).trans (this.cons a)
theorem Picks.next {z : Nat → Int} {n : Nat} {c L : List Int} (h : Picks z n c L) {k : Nat} (hk : k < L.length) (hm : ∀ j, j < L.length → atF L j ≤ atF L k) : Picks z n (c ++ [atF L k]) (L.eraseIdx k) := by
  have e : atF L k = L[k] := by unfold atF; rw [List.getD_eq_getElem?_getD, List.getElem?_eq_getElem hk]; rfl
  have hp := perm_pick L k hk
  have hle : ∀ y, y ∈ L → y ≤ atF L k := fun y hy => by
    obtain ⟨j, hj, rfl⟩ := List.getElem_of_mem hy
    have := hm j hj
    unfold atF at this ⊢
    rw [List.getD_eq_getElem?_getD, List.getElem?_eq_getElem hj] at this
    exact this
  have hmem : atF L k ∈ L := by rw [e]; exact List.getElem_mem _
  refine ⟨?_, ?_, ?_⟩
  · rw [e, List.append_assoc]
    exact (List.Perm.append_left c hp).trans h.perm
  · rw [List.pairwise_append]
    exact ⟨h.down, by simp, fun a ha b hb => by rw [List.mem_singleton] at hb; rw [hb]; exact h.below a ha _ hmem⟩
  · intro x hx y hy
    have hy' : y ∈ L := hp.mem_iff.1 (List.mem_cons_of_mem _ hy)
    rcases List.mem_append.1 hx with h1 | h1
    · exact h.below x h1 y hy'
    · rw [List.mem_singleton] at h1; rw [h1]; exact hle y hy'
theorem Picks.fin {z : Nat → Int} {n : Nat} {c : List Int} (h : Picks z n c []) : c = dnL z n := dnL_only (by have := h.perm; rwa [List.append_nil] at this) h.down
theorem Picks.len {z : Nat → Int} {n : Nat} {c L : List Int} (h : Picks z n c L) : c.length + L.length = n := by
  have := h.perm.length_eq
  rw [List.length_append, rowL_length] at this
  exact this
theorem Picks.right {z : Nat → Int} {n : Nat} {c L : List Int} (h : Picks z n c L) (hz : ∀ i, i < n → 0 ≤ z i ∧ z i ≤ 4096) {x : Int} (hx : x ∈ c ++ L) : 0 ≤ x ∧ x ≤ 4096 := by
  have h1 := h.perm.mem_iff.1 hx
  unfold rowL at h1
  obtain ⟨i, hi, rfl⟩ := List.mem_map.1 h1
  exact hz i (List.mem_range.1 hi)
theorem gueC_part {c : List Int} (hc : c.length ≤ 16) (h : ∀ x, x ∈ c → 0 ≤ x ∧ x ≤ 4096) : 0 ≤ gueC c ∧ gueC c ≤ 1048576 := by
  have h1 := gue_part (f := atF c) (n := c.length) (k := c.length) hc (fun i hi => by
    have : atF c i ∈ c := by unfold atF; rw [List.getD_eq_getElem?_getD, List.getElem?_eq_getElem hi]; exact List.getElem_mem _
    exact h _ this) (Nat.le_refl _)
  unfold gueC
  omega

theorem RowAt.setR {W : World} {b o m : Nat} {f : Nat → Int} {p : Addr} {v y : Value} (h : RowAt W b o m f) (hc : W.cell? p = some v) (hv : ∀ x, v ≠ .int .i64 x) : RowAt (W.setCell p y) b o m f := fun i hi => by
  rw [World.cell?_setCell_other _ _ _ _ (fun e => ?_)]
  · exact h i hi
  · have := h i hi
    rw [← e, hc] at this
    exact hv _ (Option.some.inj this)
theorem RowAt.put3R {W : World} {B : Nat} {s : Bool} {x : Option Addr} {l c : Nat} {x' : Option Addr} {l' c' : Nat} {q : Int} {d : Nat} {b o m : Nat} {f : Nat → Int} (h : RowAt W b o m f) (hR : RBox W B s x l c x' l' c' q d) (y0 y1 y2 : Value) : RowAt (put3 W B y0 y1 y2) b o m f := by
  obtain ⟨⟨g0, g1⟩, _, _⟩ := put_three' y0 y1 y2 hR.c0 hR.c1 hR.c2
  unfold Go.Proofs.YtiegobkbinojeaaDoor.put3
  exact ((h.setR hR.c0 (by simp)).setR g0 (by simp)).setR g1 (by simp)
end Go.Proofs.YtiegobkbinojeaaDoor

/- The document's Told of a fraction. -/
namespace Go.Proofs.YtiegobkbinojeaaDoor
open Go.RowKit

theorem cmpOf_le {a b : Nat} (h : a ≤ b) : cmpOf a b ≤ 0 := by
  unfold cmpOf
  split
  · omega
  · split
    · omega
    · omega

set_option maxRecDepth 100000 in
set_option maxHeartbeats 2000000 in
theorem RTold_ok (v : Value) (m d : Nat) (w : World) (h : RatioAt w v (m : Int) d) (hm : m ≤ 4611686018427387904) (hd : d ≤ 4611686018427387904) :
    Calls Tryd.prog 17 #[v] w fun e w' => e = .returned (.tuple #[.agg #[.int .i64 m, .int .i64 d], .bool true]) ∧ Below w.heap.size w w' := by
  obtain ⟨u, q, rfl, hu, hq⟩ := h
  rw [Int.natAbs_natCast] at hu
  rw [decide_eq_false (show ¬ (m : Int) < 0 by omega)]
  obtain ⟨ad1, l1, cap1, rfl, _⟩ := hu.len
  obtain ⟨ad2, l2, cap2, rfl, _⟩ := hq.len
  obtain ⟨W0, hW0⟩ : ∃ W0, W0 = (w.alloc (.cells #[.bool false, .slice ad1 l1 cap1, .slice ad2 l2 cap2] 50)).alloc (.cells #[.int .i64 0, .int .i64 0] 43) := ⟨_, rfl⟩
  have hb0 : Below w.heap.size w W0 := by rw [hW0]; exact below_chain (new_below _ _) (new_below _ _)
  have HKS : Hid (∀ W, Below W0.heap.size W0 W → (W.cell? ⟨w.heap.size, 0, none⟩ = some (.bool false) ∧ W.cell? ⟨w.heap.size, 1, none⟩ = some (.slice ad1 l1 cap1) ∧ W.cell? ⟨w.heap.size, 2, none⟩ = some (.slice ad2 l2 cap2)) ∧ (W.cell? ⟨w.heap.size + 1, 0, none⟩ = some (.int .i64 0) ∧ W.cell? ⟨w.heap.size + 1, 1, none⟩ = some (.int .i64 0)) ∧ W.frozen? ⟨w.heap.size + 1, 0, none⟩ = false ∧ W.frozen? ⟨w.heap.size + 1, 1, none⟩ = false) := fun W hb => by
    have hr := hb
    rw [hW0] at hr
    have hr2 := res_past hr
    rw [World.size_alloc] at hr2
    have a : ∀ j v, #[Value.bool false, .slice ad1 l1 cap1, .slice ad2 l2 cap2][j]? = some v → W0.cell? ⟨w.heap.size, j, none⟩ = some v := fun j v h => by rw [hW0, World.cell?_alloc_lt _ _ ⟨w.heap.size, j, none⟩ (by simp), World.cell?_alloc_at _ _ _ _ rfl]; exact h
    exact ⟨⟨(cell_past (a 0 _ rfl) hb).2, (cell_past (a 1 _ rfl) hb).2, (cell_past (a 2 _ rfl) hb).2⟩, ⟨hr2.1, hr2.2.1⟩, hr2.2.2⟩
  have HU : Hid (∀ W, Below W0.heap.size W0 W → BigAt W (.slice ad1 l1 cap1) m ∧ BigAt W (.slice ad2 l2 cap2) d) := fun W hb => ⟨(hu.later hb0).later hb, (hq.later hb0).later hb⟩
  have hof : Calls Tryd.prog 34 #[.int .i64 4611686018427387904] W0 fun e w' => ∃ v, e = .returned v ∧ BigAt w' v 4611686018427387904 ∧ Below W0.heap.size W0 w' := BigOf_any 4611686018427387904 W0 (Nat.le_refl _)
  have k4 : (4611686018427387904 : Nat) < 1000000 ^ 4 := by decide
  obtain ⟨z1, hz1⟩ : ∃ z, z = cmpOf m 4611686018427387904 := ⟨_, rfl⟩
  obtain ⟨z2, hz2⟩ : ∃ z, z = cmpOf d 4611686018427387904 := ⟨_, rfl⟩
  have hle1 : ¬ 0 < z1 := by rw [hz1]; have := cmpOf_le hm; omega
  have hle2 : ¬ 0 < z2 := by rw [hz2]; have := cmpOf_le hd; omega
  have HC1 : Hid (∀ (W : World) (v : Value), Below W0.heap.size W0 W → BigAt W v 4611686018427387904 → Calls Tryd.prog 35 #[.slice ad1 l1 cap1, v] W fun e w' => e = .returned (.int .i64 z1) ∧ ∃ m, w' = W.drewN m) := fun W v hb hv => by
    rw [hz1]; exact BigCmp_any _ _ m _ 4 W (HU.out W hb).1 hv (Nat.lt_of_le_of_lt hm k4) k4 (by decide)
  have HC2 : Hid (∀ (W : World) (v : Value), Below W0.heap.size W0 W → BigAt W v 4611686018427387904 → Calls Tryd.prog 35 #[.slice ad2 l2 cap2, v] W fun e w' => e = .returned (.int .i64 z2) ∧ ∃ m, w' = W.drewN m) := fun W v hb hv => by
    rw [hz2]; exact BigCmp_any _ _ d _ 4 W (HU.out W hb).2 hv (Nat.lt_of_le_of_lt hd k4) k4 (by decide)
  have HI1 : Hid (∀ W, Below W0.heap.size W0 W → Calls Tryd.prog 36 #[.slice ad1 l1 cap1] W fun e w' => e = .returned (.tuple #[.int .i64 m, .bool true]) ∧ w' = W) := fun W hb => BigInt_any _ m W (HU.out W hb).1 hm
  have HI2 : Hid (∀ W, Below W0.heap.size W0 W → Calls Tryd.prog 36 #[.slice ad2 l2 cap2] W fun e w' => e = .returned (.tuple #[.int .i64 d, .bool true]) ∧ w' = W) := fun W hb => BigInt_any _ d W (HU.out W hb).2 hd
  have HB0 := Hid.mk' hb0
  have HW0 := Hid.mk' hW0
  clear hu hq hb0 hW0 hz1 hz2 k4 hm hd
  go_enter Tryd.func17, Tryd.ntmps17
  go_upto_region 1 with fail
  rw [← HW0.out]
  go_wp2_with fail
  refine hof.mono ?_
  clear hof
  rintro e w1 ⟨v1, rfl, hv1, hb1⟩
  obtain ⟨⟨x0, x1, x2⟩, _, _, _⟩ := HKS.out w1 hb1
  have hc1 := HC1.out w1 v1 hb1 hv1
  go_wp2_with fail
  refine hc1.mono ?_
  rintro e w2 ⟨rfl, m2, hw2⟩
  have hb2 : Below w1.heap.size w1 w2 := by rw [hw2]; exact below_drewN (Below.refl _ _) _
  have hv2 := hv1.later hb2
  have hb02 := below_chain hb1 hb2
  clear hw2 hb1 hv1 hb2 hc1 x0 x1 x2
  obtain ⟨⟨x0, x1, x2⟩, _, _, _⟩ := HKS.out w2 hb02
  have hc2 := HC2.out w2 v1 hb02 hv2
  go_wp2_with fail
  refine hc2.mono ?_
  rintro e w3 ⟨rfl, m3, hw3⟩
  have hb3 : Below w2.heap.size w2 w3 := by rw [hw3]; exact below_drewN (Below.refl _ _) _
  have hb03 := below_chain hb02 hb3
  clear hw3 hb02 hv2 hb3 hc2 x0 x1 x2
  obtain ⟨⟨x0, x1, x2⟩, ⟨c0, c1⟩, f0, f1⟩ := HKS.out w3 hb03
  have hi1 := HI1.out w3 hb03
  have hi2 := HI2.out w3 hb03
  have HB3 := Hid.mk' (below_chain HB0.out hb03)
  clear hb03
  go_wp2_with (first
    | (go_at_call_of 36 cap1; refine hi1.mono ?_; rintro e w4 ⟨rfl, hw4⟩; rw [hw4]; clear hw4)
    | (go_at_call_of 36 cap2; refine hi2.mono ?_; rintro e w4 ⟨rfl, hw4⟩; rw [hw4]; clear hw4))
  refine bodyPost_ret (v := .tuple #[.agg #[.int .i64 m, .int .i64 d], .bool true]) (by simp [results, Tryd.results17, go_sem, c0, c1]) rfl ⟨rfl, ?_⟩
  exact (HB3.out.setCell (by show w.heap.size ≤ w.heap.size + 1; omega) _).setCell (by show w.heap.size ≤ w.heap.size + 1; omega) _
end Go.Proofs.YtiegobkbinojeaaDoor

/- coded of an error by its number. -/
namespace Go.Proofs.YtiegobkbinojeaaDoor
open Go.RowKit

theorem coded_errV (a : Nat → Addr) (c : Nat) (hc : c ≤ 8) (w : World) (h : Errs w a) :
    Calls Tryd.prog 12 #[errV a c, .int .i64 (c : Int)] w fun e w' => e = .returned (.bool true) ∧ Below w.heap.size w w' := by
  by_cases h0 : c = 0
  · subst h0
    rw [errV_zero]
    refine (coded_nil 0 w).mono ?_
    rintro e w' ⟨rfl, rfl⟩
    exact ⟨rfl, Below.refl _ _⟩
  · rw [errV_pos a h0]
    have h1 := coded_err a (c - 1) (by omega) (c : Int) w h
    have e : decide ((c : Int) = ((c - 1 : Nat) : Int) + 1) = true := decide_eq_true (by omega)
    rw [e] at h1
    exact h1
end Go.Proofs.YtiegobkbinojeaaDoor

/- RenyiGuesses: the law. -/
namespace Go.Proofs.YtiegobkbinojeaaDoor
open Go.RowKit

theorem low_natR (N D : Nat) : lowN D (N : Int) = ((N / Nat.gcd N D : Nat) : Int) ∧ lowD D (N : Int) = D / Nat.gcd N D := by
  unfold lowN lowD lowG
  rw [Int.natAbs_natCast]
  exact ⟨rfl, rfl⟩
/-- A fraction in a box. -/
structure FrR (w : World) (b : Nat) (p q : Int) : Prop where
  c0 : w.cell? ⟨b, 0, none⟩ = some (.int .i64 p)
  c1 : w.cell? ⟨b, 1, none⟩ = some (.int .i64 q)
  f0 : w.frozen? ⟨b, 0, none⟩ = false
  f1 : w.frozen? ⟨b, 1, none⟩ = false
theorem FrR.later {w w' : World} {b : Nat} {p q : Int} (h : FrR w b p q) (hb : Below w.heap.size w w') : FrR w' b p q :=
  ⟨by rw [hb.cell (cell_lt h.c0)]; exact h.c0, by rw [hb.cell (cell_lt h.c1)]; exact h.c1, by rw [hb.frozen (show b < w.heap.size from cell_lt h.c0)]; exact h.f0, by rw [hb.frozen (show b < w.heap.size from cell_lt h.c0)]; exact h.f1⟩
theorem FrR.fresh (w : World) (p q : Int) : FrR (w.alloc (.cells #[.int .i64 p, .int .i64 q] 43)) w.heap.size p q :=
  ⟨by simp, by simp, by simp, by simp⟩
theorem FrR.put {w : World} {b : Nat} {p q : Int} (h : FrR w b p q) (x y : Int) : FrR ((w.setCell ⟨b, 0, none⟩ (.int .i64 x)).setCell ⟨b, 1, none⟩ (.int .i64 y)) b x y := by
  have := put_twoR (.int .i64 x) (.int .i64 y) h.c0 h.c1
  exact ⟨this.2.1, this.2.2, by rw [World.frozen?_setCell, World.frozen?_setCell]; exact h.f0, by rw [World.frozen?_setCell, World.frozen?_setCell]; exact h.f1⟩
theorem new_belowR (w : World) (X : Obj) : Below w.heap.size w (w.alloc X) := (Below.refl _ _).alloc (Nat.le_refl _) _
end Go.Proofs.YtiegobkbinojeaaDoor

/- The law RenyiFar. -/
namespace Go.Proofs.YtiegobkbinojeaaDoor
open Go.RowKit

set_option maxRecDepth 100000 in
set_option maxHeartbeats 16000000 in
theorem RenyiFar_all (a : Nat → Addr) (M : Int) (la : Option Addr) (R lc : Nat) (vs : Nat → Value) (ns : Nat → Nat) (zs : Nat → Nat → Int) (wa : Option Addr) (n wc : Nat) (z : Nat → Int) (w : World) (hE : Errs w a) (hl : TabAt w (.slice la R lc) R vs ns zs) (hM : R ≤ maxLen) (hwn : NumsAt w (.slice wa n wc) n z) (hwm : n ≤ maxLen) (hs : sumT ns R ≤ 2000000) :
    Calls Tryd.prog 5 #[.agg #[.int .i64 M, .slice la R lc], .slice wa n wc] w fun e w' => e = .returned (.bool true) ∧ Below w.heap.size w w' := by
  obtain ⟨w1, hw1⟩ : ∃ w1, w1 = w.alloc (.cells #[.int .i64 M, .slice la R lc] 24) := ⟨_, rfl⟩
  have hb1 : Below w.heap.size w w1 := by rw [hw1]; exact (Below.refl _ _).alloc (Nat.le_refl _) _
  have hc0 : w1.cell? ⟨w.heap.size, 0, none⟩ = some (.int .i64 M) := by rw [hw1]; go_simp
  have hc1 : w1.cell? ⟨w.heap.size, 1, none⟩ = some (.slice la R lc) := by rw [hw1]; go_simp
  have HB1 := Hid.mk' hb1
  have HW1 := Hid.mk' hw1
  have HC : Hid (∀ W, Below w1.heap.size w1 W → W.cell? ⟨w.heap.size, 0, none⟩ = some (.int .i64 M) ∧ W.cell? ⟨w.heap.size, 1, none⟩ = some (.slice la R lc)) := fun W hb => ⟨by rw [hb.cell (cell_lt hc0)]; exact hc0, by rw [hb.cell (cell_lt hc1)]; exact hc1⟩
  have HE := Hid.mk' (fun (W : World) (hb : Below w1.heap.size w1 W) => (hE.below hb1).below hb)
  have HL := Hid.mk' (fun (W : World) (hb : Below w1.heap.size w1 W) => (hl.later hb1).later hb)
  have HN := Hid.mk' (fun (W : World) (hb : Below w1.heap.size w1 W) => (hwn.later hb1).later hb)
  have HP := Hid.mk' (dice_any a w1 (hE.below hb1))
  have HFW := Hid.mk' (fun (W : World) (hb : Below w1.heap.size w1 W) => few_any _ R vs ns zs W (HL.out W hb) hM hs (decide (R ≤ 70 ∧ sumT ns R ≤ 1200)) (by simp))
  unfold maxLen at hwm
  clear hE hl hb1 hw1 hc0 hc1 hwn
  by_cases hfw : R ≤ 70 ∧ sumT ns R ≤ 1200
  · rw [decide_eq_true hfw] at HFW
    obtain ⟨hR, hS⟩ := hfw
    by_cases hn : n ≤ 100
    · have hnI : decide ((100 : Int) < (n : Int)) = false := decide_eq_false (by omega)
      have hns : ∀ i, i < R → ns i ≤ 1200 := fun i hi => by
        have h2 : sumT ns i + ns i ≤ sumT ns R := sumT_mono ns hi
        omega
      have HFM := Hid.mk' (fun (W : World) (hb : Below w1.heap.size w1 W) => family_any M _ R vs ns zs W (HL.out W hb) hR hS)
      have HIN := Hid.mk' (fun (W : World) (hb : Below w1.heap.size w1 W) => ints_any (.slice wa n wc) n z W (HN.out W hb) (by omega))
      have HFE := Hid.mk' (fun (W : World) (hb : Below w1.heap.size w1 W) => FamilyError_any M _ R vs ns zs W (HL.out W hb) (by omega) (fun i hi => by have := hns i hi; omega))
      have HWE := Hid.mk' (fun (W : World) (hb : Below w1.heap.size w1 W) => WeightsError_any (.slice wa n wc) n z W (HN.out W hb) (by omega))
      by_cases he : famErr M R ns zs ≠ 0
      · have hfe : farErr M R ns zs n z = famErr M R ns zs := by unfold farErr; rw [if_pos he]
        have HFB := Hid.mk' (fun (v wv : Value) (us : Nat → Value) (W : World) (hb : Below w1.heap.size w1 W) (ht : TabAt W v R us ns zs) (hw : NumsAt W wv n z) => Far_bad a M v wv R n us ns zs z W (HE.out W hb) ht hw (by omega) (by omega) (fun i hi => by have := hns i hi; omega) (by rw [hfe]; exact he))
        have HCD := Hid.mk' (fun (W : World) (hb : Below w1.heap.size w1 W) => coded_errV a (farErr M R ns zs n z) (by rw [hfe]; exact famErr_le M R ns zs) W (HE.out W hb))
        rw [hfe] at HFB HCD
        obtain ⟨ev, hev⟩ : ∃ ev, ev = errV a (famErr M R ns zs) := ⟨_, rfl⟩
        rw [← hev] at HFB HCD
        have hq0 : ((famErr M R ns zs : Int) == 0) = false := by rw [beq_eq_false_iff_ne]; omega
        generalize famErr M R ns zs = q at *
        clear hfe he hev hns hR hS hn
        go_enter Tryd.func5, Tryd.ntmps5
        go_upto_region 1 with fail
        rw [← HW1.out]
        go_wp2_with fail
        refine HP.out.mono ?_
        rintro e w2 ⟨rfl, hb2⟩
        have HB2 := Hid.mk' hb2
        have c1 := (HC.out w2 hb2).2
        clear hb2
        go_wp2_with fail
        refine (HFW.out w2 HB2.out).mono ?_
        rintro e w3 ⟨rfl, hb3⟩
        have HB3 := Hid.mk' (below_chain HB2.out hb3)
        clear hb3 c1
        have c0 := (HC.out w3 HB3.out).1
        have c1 := (HC.out w3 HB3.out).2
        go_wp2_with fail
        refine (HFE.out w3 HB3.out).mono ?_
        rintro e w4 ⟨rfl, hb4⟩
        have HB4 := Hid.mk' (below_chain HB3.out hb4)
        clear hb4 c0 c1
        have HB5 := Hid.mk' (below_chain HB4.out (new_belowR w4 (.cells #[.int .i64 0, .int .i64 0] 43)))
        have HF5 := Hid.mk' (FrR.fresh w4 0 0)
        have HLT : Hid (w1.heap.size ≤ w4.heap.size) := HB4.out.size
        go_upto_region 10 with fail
        generalize w4.alloc (.cells #[.int .i64 0, .int .i64 0] 43) = W5 at *
        generalize w4.heap.size = B5 at *
        have c0 := (HC.out W5 HB5.out).1
        have c1 := (HC.out W5 HB5.out).2
        go_wp2_with fail
        refine (HFM.out W5 HB5.out).mono ?_
        rintro e w6 ⟨lv6, us6, rfl, ht6, hb6⟩
        have HB6 := Hid.mk' (below_chain HB5.out hb6)
        have HF6 := Hid.mk' (HF5.out.later hb6)
        have HT6 := Hid.mk' ht6
        clear hb6 ht6 c0 c1
        go_wp2_with fail
        refine (HIN.out w6 HB6.out).mono ?_
        rintro e w7 ⟨v7, rfl, hv7, hb7⟩
        have HB7 := Hid.mk' (below_chain HB6.out hb7)
        have HF7 := Hid.mk' (HF6.out.later hb7)
        have HD7 := Hid.mk' (HFB.out lv6 v7 us6 w7 HB7.out (HT6.out.later hb7) hv7)
        clear hb7 hv7
        go_wp2_with fail
        refine HD7.out.mono ?_
        rintro e w8 ⟨rfl, hb8⟩
        have HB8 := Hid.mk' (below_chain (below_chain HB7.out hb8) (new_belowR w8 (.cells #[.int .i64 0, .int .i64 0] 43)))
        have HF8 := Hid.mk' ((HF7.out.later hb8).later (new_belowR w8 (.cells #[.int .i64 0, .int .i64 0] 43)))
        have HG8 := Hid.mk' (FrR.fresh w8 0 0)
        clear hb8
        go_wp2_with fail
        generalize w8.alloc (.cells #[.int .i64 0, .int .i64 0] 43) = W8 at *
        generalize w8.heap.size = B8 at *
        refine (HCD.out W8 HB8.out).mono ?_
        rintro e w9 ⟨rfl, hb9⟩
        have HB9 := Hid.mk' (below_chain HB8.out hb9)
        obtain ⟨x0, x1, _, _⟩ := HF8.out.later hb9
        obtain ⟨z0, z1, _, _⟩ := HG8.out.later hb9
        clear hb9
        go_wp2_with fail
        go_ret
        exact ⟨rfl, below_chain HB1.out HB9.out⟩
      · have he0 : famErr M R ns zs = 0 := by omega
        by_cases h0 : weightsErr z n ≠ 0
        · have hfe : farErr M R ns zs n z = weightsErr z n := by unfold farErr; rw [if_neg he, if_pos h0]
          have HFB := Hid.mk' (fun (v wv : Value) (us : Nat → Value) (W : World) (hb : Below w1.heap.size w1 W) (ht : TabAt W v R us ns zs) (hw : NumsAt W wv n z) => Far_bad a M v wv R n us ns zs z W (HE.out W hb) ht hw (by omega) (by omega) (fun i hi => by have := hns i hi; omega) (by rw [hfe]; exact h0))
          have HCD := Hid.mk' (fun (W : World) (hb : Below w1.heap.size w1 W) => coded_errV a (farErr M R ns zs n z) (by rw [hfe]; have := weightsErr_le z n; omega) W (HE.out W hb))
          rw [hfe] at HFB HCD
          obtain ⟨ev, hev⟩ : ∃ ev, ev = errV a (weightsErr z n) := ⟨_, rfl⟩
          rw [← hev] at HFB HCD
          have hq0 : ((weightsErr z n : Int) == 0) = false := by rw [beq_eq_false_iff_ne]; omega
          rw [he0] at HFE
          generalize weightsErr z n = q at *
          clear hfe he he0 h0 hev hns hR hS hn
          go_enter Tryd.func5, Tryd.ntmps5
          go_upto_region 1 with fail
          rw [← HW1.out]
          go_wp2_with fail
          refine HP.out.mono ?_
          rintro e w2 ⟨rfl, hb2⟩
          have HB2 := Hid.mk' hb2
          have c1 := (HC.out w2 hb2).2
          clear hb2
          go_wp2_with fail
          refine (HFW.out w2 HB2.out).mono ?_
          rintro e w3 ⟨rfl, hb3⟩
          have HB3 := Hid.mk' (below_chain HB2.out hb3)
          clear hb3 c1
          have c0 := (HC.out w3 HB3.out).1
          have c1 := (HC.out w3 HB3.out).2
          go_wp2_with fail
          refine (HFE.out w3 HB3.out).mono ?_
          rintro e w4 ⟨rfl, hb4⟩
          have HB4 := Hid.mk' (below_chain HB3.out hb4)
          clear hb4 c0 c1
          go_wp2_with fail
          refine (HWE.out w4 HB4.out).mono ?_
          rintro e w5 ⟨rfl, hw5⟩
          rw [hw5]
          clear hw5
          have HB5 := Hid.mk' (below_chain HB4.out (new_belowR w4 (.cells #[.int .i64 0, .int .i64 0] 43)))
          have HF5 := Hid.mk' (FrR.fresh w4 0 0)
          have HLT : Hid (w1.heap.size ≤ w4.heap.size) := HB4.out.size
          go_upto_region 10 with fail
          generalize w4.alloc (.cells #[.int .i64 0, .int .i64 0] 43) = W5 at *
          generalize w4.heap.size = B5 at *
          have c0 := (HC.out W5 HB5.out).1
          have c1 := (HC.out W5 HB5.out).2
          go_wp2_with fail
          refine (HFM.out W5 HB5.out).mono ?_
          rintro e w6 ⟨lv6, us6, rfl, ht6, hb6⟩
          have HB6 := Hid.mk' (below_chain HB5.out hb6)
          have HF6 := Hid.mk' (HF5.out.later hb6)
          have HT6 := Hid.mk' ht6
          clear hb6 ht6 c0 c1
          go_wp2_with fail
          refine (HIN.out w6 HB6.out).mono ?_
          rintro e w7 ⟨v7, rfl, hv7, hb7⟩
          have HB7 := Hid.mk' (below_chain HB6.out hb7)
          have HF7 := Hid.mk' (HF6.out.later hb7)
          have HD7 := Hid.mk' (HFB.out lv6 v7 us6 w7 HB7.out (HT6.out.later hb7) hv7)
          clear hb7 hv7
          go_wp2_with fail
          refine HD7.out.mono ?_
          rintro e w8 ⟨rfl, hb8⟩
          have HB8 := Hid.mk' (below_chain (below_chain HB7.out hb8) (new_belowR w8 (.cells #[.int .i64 0, .int .i64 0] 43)))
          have HF8 := Hid.mk' ((HF7.out.later hb8).later (new_belowR w8 (.cells #[.int .i64 0, .int .i64 0] 43)))
          have HG8 := Hid.mk' (FrR.fresh w8 0 0)
          clear hb8
          go_wp2_with fail
          generalize w8.alloc (.cells #[.int .i64 0, .int .i64 0] 43) = W8 at *
          generalize w8.heap.size = B8 at *
          refine (HCD.out W8 HB8.out).mono ?_
          rintro e w9 ⟨rfl, hb9⟩
          have HB9 := Hid.mk' (below_chain HB8.out hb9)
          obtain ⟨x0, x1, _, _⟩ := HF8.out.later hb9
          obtain ⟨z0, z1, _, _⟩ := HG8.out.later hb9
          clear hb9
          go_wp2_with fail
          go_ret
          exact ⟨rfl, below_chain HB1.out HB9.out⟩
        · have h00 : weightsErr z n = 0 := by omega
          have hpos := (famErr_ok he0).pos
          have HZ0 : Hid (∀ W, Below w1.heap.size w1 W → ∃ b o zad zcap, la = some ⟨b, o, none⟩ ∧ W.cell? ⟨b, o, none⟩ = some (.slice zad (ns 0) zcap)) := fun W hb => by
            obtain ⟨b, o, h1, h2, h3⟩ := (HL.out W hb).rowR hpos
            obtain ⟨zad, zcap, h4⟩ := h3.form
            rw [h4, Nat.add_zero] at h2
            exact ⟨b, o, zad, zcap, h1, h2⟩
          have hRI : (0 : Int) < (R : Int) := by omega
          by_cases hlen : n ≠ ns 0
          · have hfe : farErr M R ns zs n z = 3 := by unfold farErr; rw [if_neg he, if_neg h0, if_pos hlen]
            have k1 : ((n : Int) != (ns 0 : Int)) = true := by simp; omega
            have HFB := Hid.mk' (fun (v wv : Value) (us : Nat → Value) (W : World) (hb : Below w1.heap.size w1 W) (ht : TabAt W v R us ns zs) (hw : NumsAt W wv n z) => Far_bad a M v wv R n us ns zs z W (HE.out W hb) ht hw (by omega) (by omega) (fun i hi => by have := hns i hi; omega) (by rw [hfe]; decide))
            have HCD := Hid.mk' (fun (W : World) (hb : Below w1.heap.size w1 W) => coded_errV a (farErr M R ns zs n z) (by rw [hfe]; decide) W (HE.out W hb))
            rw [hfe] at HFB HCD
            obtain ⟨ev, hev⟩ : ∃ ev, ev = errV a (3) := ⟨_, rfl⟩
            rw [← hev] at HFB HCD
            rw [he0] at HFE
            rw [h00] at HWE
            generalize ns 0 = m0 at *
            clear hfe he he0 h0 h00 hev hns hR hS hn hlen hpos
            go_enter Tryd.func5, Tryd.ntmps5
            go_upto_region 1 with fail
            rw [← HW1.out]
            go_wp2_with fail
            refine HP.out.mono ?_
            rintro e w2 ⟨rfl, hb2⟩
            have HB2 := Hid.mk' hb2
            have c1 := (HC.out w2 hb2).2
            clear hb2
            go_wp2_with fail
            refine (HFW.out w2 HB2.out).mono ?_
            rintro e w3 ⟨rfl, hb3⟩
            have HB3 := Hid.mk' (below_chain HB2.out hb3)
            clear hb3 c1
            have c0 := (HC.out w3 HB3.out).1
            have c1 := (HC.out w3 HB3.out).2
            go_wp2_with fail
            refine (HFE.out w3 HB3.out).mono ?_
            rintro e w4 ⟨rfl, hb4⟩
            have HB4 := Hid.mk' (below_chain HB3.out hb4)
            clear hb4 c0 c1
            go_wp2_with fail
            refine (HWE.out w4 HB4.out).mono ?_
            rintro e w5 ⟨rfl, hw5⟩
            rw [hw5]
            clear hw5
            obtain ⟨b, o, zad, zcap, hla, hz⟩ := HZ0.out w4 HB4.out
            subst hla
            have c1 := (HC.out w4 HB4.out).2
            have HB5 := Hid.mk' (below_chain HB4.out (new_belowR w4 (.cells #[.int .i64 0, .int .i64 0] 43)))
            have HF5 := Hid.mk' (FrR.fresh w4 0 0)
            have HLT : Hid (w1.heap.size ≤ w4.heap.size) := HB4.out.size
            go_upto_region 10 with fail
            generalize w4.alloc (.cells #[.int .i64 0, .int .i64 0] 43) = W5 at *
            generalize w4.heap.size = B5 at *
            have c0 := (HC.out W5 HB5.out).1
            clear c1 hz
            have c1 := (HC.out W5 HB5.out).2
            go_wp2_with fail
            refine (HFM.out W5 HB5.out).mono ?_
            rintro e w6 ⟨lv6, us6, rfl, ht6, hb6⟩
            have HB6 := Hid.mk' (below_chain HB5.out hb6)
            have HF6 := Hid.mk' (HF5.out.later hb6)
            have HT6 := Hid.mk' ht6
            clear hb6 ht6 c0 c1
            go_wp2_with fail
            refine (HIN.out w6 HB6.out).mono ?_
            rintro e w7 ⟨v7, rfl, hv7, hb7⟩
            have HB7 := Hid.mk' (below_chain HB6.out hb7)
            have HF7 := Hid.mk' (HF6.out.later hb7)
            have HD7 := Hid.mk' (HFB.out lv6 v7 us6 w7 HB7.out (HT6.out.later hb7) hv7)
            clear hb7 hv7
            go_wp2_with fail
            refine HD7.out.mono ?_
            rintro e w8 ⟨rfl, hb8⟩
            have HB8 := Hid.mk' (below_chain (below_chain HB7.out hb8) (new_belowR w8 (.cells #[.int .i64 0, .int .i64 0] 43)))
            have HF8 := Hid.mk' ((HF7.out.later hb8).later (new_belowR w8 (.cells #[.int .i64 0, .int .i64 0] 43)))
            have HG8 := Hid.mk' (FrR.fresh w8 0 0)
            clear hb8
            go_wp2_with fail
            generalize w8.alloc (.cells #[.int .i64 0, .int .i64 0] 43) = W8 at *
            generalize w8.heap.size = B8 at *
            refine (HCD.out W8 HB8.out).mono ?_
            rintro e w9 ⟨rfl, hb9⟩
            have HB9 := Hid.mk' (below_chain HB8.out hb9)
            obtain ⟨x0, x1, _, _⟩ := HF8.out.later hb9
            obtain ⟨z0, z1, _, _⟩ := HG8.out.later hb9
            clear hb9
            go_wp2_with fail
            go_ret
            exact ⟨rfl, below_chain HB1.out HB9.out⟩
          · have hlen' : n = ns 0 := by omega
            have k1 : ((n : Int) != (ns 0 : Int)) = false := by simp; omega
            obtain ⟨m, rfl⟩ : ∃ m : Nat, M = (m : Int) := ⟨M.toNat, by have := (famErr_ok he0).m1; omega⟩
            have hok := famErr_ok he0
            obtain ⟨h16, hokw⟩ := weightsErr_ok h00
            obtain ⟨S, hSS⟩ : ∃ S : Nat, sumN z n = (S : Int) := ⟨(sumN z n).toNat, by have := hokw.pos; omega⟩
            have hS4 : 1 ≤ S ∧ S ≤ 4096 := by have := hokw.pos; have := hokw.le; omega
            obtain ⟨A, hA⟩ : ∃ A, A = apA (m : Int) (S : Int) n zs z R := ⟨_, rfl⟩
            obtain ⟨D, hD⟩ : ∃ D, D = 2 * R * m * S := ⟨_, rfl⟩
            have hD2 : 2 * (S * R * m) = D := by rw [hD]; grind
            have hm16 := hok.m16
            have hle := hok.le
            have hm1 := hok.m1
            have hDl : D ≤ 8388608 := by
              have h1 : S * R ≤ 4096 * 64 := Nat.mul_le_mul hS4.2 hle
              have h2 : S * R * m ≤ 4096 * 64 * 16 := Nat.mul_le_mul h1 (by omega)
              omega
            have hAl : A ≤ 71680000 := by
              have := apA_le (M := (m : Int)) (S := (S : Int)) (n := n) (zs := zs) (z := z) (fun i x => by
                have h1 := ldF_part (zr := zs i) (z := z) (n := n) (fun j hj => (hokw.lt hj).1) x n (Nat.le_refl _)
                have h3 := hokw.le
                omega) (by omega) (by omega) (by omega) (by omega) R
              omega
            have HFB : Hid (∀ (v wv : Value) (us : Nat → Value) (W : World), Below w1.heap.size w1 W → TabAt W v R us ns zs → NumsAt W wv n z → Calls Tryd.prog 19 #[.agg #[.int .i64 (m : Int), v], wv] W fun e w' => e = .returned (.tuple #[gueV A D, .nilIface]) ∧ Below W.heap.size W w') := fun v wv us W hb ht hw => by
              rw [hA, hD]; exact Far_ok a m v wv R n S us ns zs z W (HE.out W hb) ht hw (fun i hi => by have := hns i hi; omega) he0 h00 hlen' hSS
            have HFO : Hid (∀ W, Below w1.heap.size w1 W → Calls Tryd.prog 18 #[.agg #[.int .i64 (m : Int), .slice la R lc], .slice wa n wc] W fun e w' => ∃ r, e = .returned r ∧ LR w' r D (A : Int) ∧ Below W.heap.size W w') := fun W hb => by
              rw [← hD2, hA]; exact FarOf_any m _ _ R n S vs ns zs z W (HL.out W hb) (HN.out W hb) he0 h00 hlen' hSS
            have HTO : Hid (∀ W v, LR W v D (A : Int) → Calls Tryd.prog 17 #[v] W fun e w' => e = .returned (.tuple #[gueV A D, .bool true]) ∧ Below W.heap.size W w') := fun W v hv => by
              have h1 := low_natR A D
              unfold LR at hv
              rw [h1.1, h1.2] at hv
              exact RTold_ok v _ _ W hv (Nat.le_trans (Nat.div_le_self _ _) (by omega)) (Nat.le_trans (Nat.div_le_self _ _) (by omega))
            have HCD := Hid.mk' (fun (W : World) (hb : Below w1.heap.size w1 W) => coded_errV a 0 (by decide) W (HE.out W hb))
            rw [errV_zero] at HCD
            unfold gueV at HFB HTO
            rw [he0] at HFE
            rw [h00] at HWE
            generalize ns 0 = m0 at *
            clear he he0 h0 h00 hns hR hS hn hlen hpos hok hokw h16 hSS hS4 hA hD hD2 hDl hAl hm16 hle hm1 hlen'
            generalize ((A / Nat.gcd A D : Nat) : Int) = p at *
            generalize ((D / Nat.gcd A D : Nat) : Int) = q at *
            go_enter Tryd.func5, Tryd.ntmps5
            go_upto_region 1 with fail
            rw [← HW1.out]
            go_wp2_with fail
            refine HP.out.mono ?_
            rintro e w2 ⟨rfl, hb2⟩
            have HB2 := Hid.mk' hb2
            have c1 := (HC.out w2 hb2).2
            clear hb2
            go_wp2_with fail
            refine (HFW.out w2 HB2.out).mono ?_
            rintro e w3 ⟨rfl, hb3⟩
            have HB3 := Hid.mk' (below_chain HB2.out hb3)
            clear hb3 c1
            have c0 := (HC.out w3 HB3.out).1
            have c1 := (HC.out w3 HB3.out).2
            go_wp2_with fail
            refine (HFE.out w3 HB3.out).mono ?_
            rintro e w4 ⟨rfl, hb4⟩
            have HB4 := Hid.mk' (below_chain HB3.out hb4)
            clear hb4 c0 c1
            go_wp2_with fail
            refine (HWE.out w4 HB4.out).mono ?_
            rintro e w5 ⟨rfl, hw5⟩
            rw [hw5]
            clear hw5
            obtain ⟨b, o, zad, zcap, hla, hz⟩ := HZ0.out w4 HB4.out
            subst hla
            have c1 := (HC.out w4 HB4.out).2
            have HB5 := Hid.mk' (below_chain HB4.out (new_belowR w4 (.cells #[.int .i64 0, .int .i64 0] 43)))
            have HF5 := Hid.mk' (FrR.fresh w4 0 0)
            have HLT : Hid (w1.heap.size ≤ w4.heap.size) := HB4.out.size
            go_upto_region 10 with fail
            generalize w4.alloc (.cells #[.int .i64 0, .int .i64 0] 43) = W5 at *
            generalize w4.heap.size = B5 at *
            have c0 := (HC.out W5 HB5.out).1
            clear c1 hz
            have c1 := (HC.out W5 HB5.out).2
            go_wp2_with fail
            refine (HFO.out W5 HB5.out).mono ?_
            rintro e wf ⟨vf, rfl, hvf, hbf⟩
            have HBf := Hid.mk' (below_chain HB5.out hbf)
            have HFf := Hid.mk' (HF5.out.later hbf)
            have HVf := Hid.mk' hvf
            clear hbf hvf c0 c1
            go_wp2_with fail
            refine (HTO.out wf vf HVf.out).mono ?_
            rintro e wt ⟨rfl, hbt⟩
            have HBt := Hid.mk' (below_chain HBf.out hbt)
            have HFt := Hid.mk' (HFf.out.later hbt)
            obtain ⟨g0, g1, f0, f1⟩ := HFt.out
            clear hbt
            have HBs : Hid (Below w1.heap.size w1 ((wt.setCell ⟨B5, 0, none⟩ (.int .i64 p)).setCell ⟨B5, 1, none⟩ (.int .i64 q))) := (HBt.out.setCell HLT.out _).setCell HLT.out _
            have HFs := Hid.mk' (HFt.out.put p q)
            have c0 := (HC.out _ HBs.out).1
            have c1 := (HC.out _ HBs.out).2
            go_upto_region 12 with fail
            generalize (wt.setCell ⟨B5, 0, none⟩ (.int .i64 p)).setCell ⟨B5, 1, none⟩ (.int .i64 q) = Ws at *
            clear g0 g1 f0 f1 HFt HBt
            go_wp2_with fail
            refine (HFM.out Ws HBs.out).mono ?_
            rintro e w6 ⟨lv6, us6, rfl, ht6, hb6⟩
            have HB6 := Hid.mk' (below_chain HBs.out hb6)
            have HF6 := Hid.mk' (HFs.out.later hb6)
            have HT6 := Hid.mk' ht6
            clear hb6 ht6 c0 c1
            go_wp2_with fail
            refine (HIN.out w6 HB6.out).mono ?_
            rintro e w7 ⟨v7, rfl, hv7, hb7⟩
            have HB7 := Hid.mk' (below_chain HB6.out hb7)
            have HF7 := Hid.mk' (HF6.out.later hb7)
            have HD7 := Hid.mk' (HFB.out lv6 v7 us6 w7 HB7.out (HT6.out.later hb7) hv7)
            clear hb7 hv7
            go_wp2_with fail
            refine HD7.out.mono ?_
            rintro e w8 ⟨rfl, hb8⟩
            have HB8 := Hid.mk' (below_chain (below_chain HB7.out hb8) (new_belowR w8 (.cells #[.int .i64 p, .int .i64 q] 43)))
            have HF8 := Hid.mk' ((HF7.out.later hb8).later (new_belowR w8 (.cells #[.int .i64 p, .int .i64 q] 43)))
            have HG8 := Hid.mk' (FrR.fresh w8 p q)
            clear hb8
            go_wp2_with fail
            generalize w8.alloc (.cells #[.int .i64 p, .int .i64 q] 43) = W8 at *
            generalize w8.heap.size = B8 at *
            refine (HCD.out W8 HB8.out).mono ?_
            rintro e w9 ⟨rfl, hb9⟩
            have HB9 := Hid.mk' (below_chain HB8.out hb9)
            obtain ⟨x0, x1, _, _⟩ := HF8.out.later hb9
            obtain ⟨z0, z1, _, _⟩ := HG8.out.later hb9
            clear hb9
            go_wp2_with fail
            go_ret
            exact ⟨rfl, below_chain HB1.out HB9.out⟩
    · have hnI : decide ((100 : Int) < (n : Int)) = true := decide_eq_true (by omega)
      clear hn hR hS
      go_enter Tryd.func5, Tryd.ntmps5
      go_upto_region 1 with fail
      rw [← HW1.out]
      go_wp2_with fail
      refine HP.out.mono ?_
      rintro e w2 ⟨rfl, hb2⟩
      have HB2 := Hid.mk' hb2
      have c1 := (HC.out w2 hb2).2
      clear hb2
      go_wp2_with fail
      refine (HFW.out w2 HB2.out).mono ?_
      rintro e w3 ⟨rfl, hb3⟩
      have HB3 := Hid.mk' (below_chain HB2.out hb3)
      clear hb3 c1
      go_wp2_with fail
      go_ret
      exact ⟨rfl, below_chain HB1.out HB3.out⟩
  · rw [decide_eq_false hfw] at HFW
    clear hfw
    go_enter Tryd.func5, Tryd.ntmps5
    go_upto_region 1 with fail
    rw [← HW1.out]
    go_wp2_with fail
    refine HP.out.mono ?_
    rintro e w2 ⟨rfl, hb2⟩
    have HB2 := Hid.mk' hb2
    have c1 := (HC.out w2 hb2).2
    clear hb2
    go_wp2_with fail
    refine (HFW.out w2 HB2.out).mono ?_
    rintro e w3 ⟨rfl, hb3⟩
    have HB3 := Hid.mk' (below_chain HB2.out hb3)
    clear hb3 c1
    go_wp2_with fail
    go_ret
    exact ⟨rfl, below_chain HB1.out HB3.out⟩
end Go.Proofs.YtiegobkbinojeaaDoor

/- What the rows' condition on package variables gives a walk: eight different sentinels with their texts, and the handle of the type error. -/
namespace Go.Proofs.YtiegobkbinojeaaDoor
open Go.ChangeShapes Go.WideShapes Go.RowKit

theorem Tryd.own : ownKnob Tryd.prog.godebug = none := by kernel_rfl
theorem Tryd.et : Tryd.prog.globalNamed "errors.errorType" = some 8 := by kernel_rfl
theorem Tryd.rt : (Tryd.prog.cutTypes.find? (·.1 == "internal/reflectlite.rtype")).map (·.2) = some 126 := by kernel_rfl
theorem Tryd.oneRow : ((List.range 182).filter fun t => Tryd.prog.rowNamed t [101, 114, 114, 111, 114]) = [29] := by kernel_rfl
theorem Tryd.size : Tryd.prog.types.size = 182 := by kernel_rfl
theorem Tryd.star : ("*" ++ "errors.errorString" : String) = "*errors.errorString" := by decide
theorem Tryd.rowE (u : TypeId) (h : Tryd.prog.typeName? 3 u = some "*errors.errorString") : u = 149 :=
  typeName_ptr_named (nm := "errors.errorString") (by rw [Tryd.star]; kernel_rfl) (by kernel_rfl) (by decide) u (by rw [Tryd.star]; exact h)
theorem Tryd.cellsE : Tryd.prog.cellsOf 170 = 1 := by kernel_rfl
theorem Tryd.cellsS : Tryd.prog.cellsOf 9 = 1 := by kernel_rfl
theorem Tryd.g0 : Tryd.prog.globalNamed "demon/api.ErrText" = some 3 := by kernel_rfl
theorem Tryd.g1 : Tryd.prog.globalNamed "demon/api.ErrBound" = some 0 := by kernel_rfl
theorem Tryd.g2 : Tryd.prog.globalNamed "demon/api.ErrShape" = some 1 := by kernel_rfl
theorem Tryd.g3 : Tryd.prog.globalNamed "demon/api.ErrZero" = some 4 := by kernel_rfl
theorem Tryd.g4 : Tryd.prog.globalNamed "demon/api.ErrName" = some 5 := by kernel_rfl
theorem Tryd.g5 : Tryd.prog.globalNamed "demon/api.ErrNone" = some 6 := by kernel_rfl
theorem Tryd.g6 : Tryd.prog.globalNamed "demon/api.ErrOrder" = some 7 := by kernel_rfl
theorem Tryd.g7 : Tryd.prog.globalNamed "demon/api.ErrKind" = some 2 := by kernel_rfl

/-- Any number of listed sentinels of one type: each one's pointer, text and row; no two are one. -/
theorem laid_list {P : Program} {W : World} {nm : String} {ti tp te ts : TypeId} {ms : Array (String × TypeId)} {f : Field}
    (hi : P.underlying ti = some (.interface ms)) (hrow : ∀ u, P.typeName? 3 u = some nm → u = tp)
    (hp : P.underlying tp = some (.pointer te)) (he : P.underlying te = some (.struct #[f])) (hft : f.type = ts) (hfo : f.offset = 0) (hs : P.underlying ts = some .string) (hc : P.cellsOf te = 1) (hcs : P.cellsOf ts = 1) :
    ∀ (L : List (String × List UInt8)) (ps : List MemPlace), (∀ x, x ∈ L → ∃ g, P.globalNamed x.1 = some g ∧ (P.globals[g]?).map (·.type) = some ti) →
      DataW.LaidVars P W (L.map fun x => (x.1, .iface nm (.ptr (.agg [.lit (.string x.2)])))) ps → ps.Nodup →
      (∀ b off, MemPlace.cell b off ∈ ps → (∃ c t, W.heap[b]? = some (.cells c t (0, 0))) ∧ ∀ u v, W.cell? ⟨b, off, none⟩ = some (.iface u v) → Value.okWide P W .any 0 u v) →
      ∃ a : Nat → Addr, (∀ i x, L[i]? = some x → W.var? P x.1 = some #[.iface tp (.pointer (some (a i)))] ∧ (∃ s, W.cell? (a i) = some (.string s) ∧ s.data.toList = x.2) ∧
          (∃ c t, W.heap[(a i).block]? = some (.cells c t (0, 0))) ∧ MemPlace.cell (a i).block (a i).off ∈ ps) ∧
        ∀ i j, i < L.length → j < L.length → i ≠ j → a i ≠ a j := by
  intro L
  induction L with
  | nil => intro ps _ _ _ _; exact ⟨fun _ => default, fun i x h => by simp at h, fun i j h => by simp at h⟩
  | cons x r ih =>
    intro ps hgs hv hnd hrows
    obtain ⟨n, text⟩ := x
    obtain ⟨g0, t0, cs0, f0, p0, q0, hg0, ht0, hv0, hd0, hvr, e0⟩ := hv
    obtain ⟨g, hg, ht⟩ := hgs (n, text) (List.mem_cons_self ..)
    obtain rfl := Option.some.inj (hg.symm.trans hg0)
    obtain rfl := Option.some.inj (ht.symm.trans ht0)
    subst e0
    obtain ⟨l0⟩ := cs0
    have ok0 : ∀ u v, l0 = [.iface u v] → Value.okWide P W .any 0 u v := fun u v e => by
      subst e
      exact (hrows g 0 (by simp [MemPlace.row])).2 u v (by simpa using World.var?_cell hg0 hv0 0)
    obtain ⟨a0, s0, rfl, hc0, hs0, hz0, rfl⟩ := errorString_of_trod hi hrow hp he hft hfo hs hc hcs hd0 ok0
    obtain ⟨c0, tt0, hb0⟩ := (hrows a0.block a0.off (by simp [MemPlace.row])).1
    have hnq : q0.Nodup := List.Nodup.sublist (List.sublist_append_right _ _) hnd
    obtain ⟨a', ha', hne'⟩ := ih q0 (fun x hx => hgs x (List.mem_cons_of_mem _ hx)) hvr hnq (fun b off hm => hrows b off (List.mem_append_right _ hm))
    have hnot : MemPlace.cell a0.block a0.off ∉ q0 := by
      intro hm
      have := (List.nodup_append.1 hnd).2.2
      exact this (.cell a0.block a0.off) (by simp [MemPlace.row]) (.cell a0.block a0.off) hm rfl
    refine ⟨fun i => match i with | 0 => a0 | k + 1 => a' k, ?_, ?_⟩
    · intro i x hx
      cases i with
      | zero =>
        simp only [List.getElem?_cons_zero, Option.some.injEq] at hx
        subst hx
        exact ⟨hv0, ⟨s0, hc0, hs0⟩, ⟨c0, tt0, hb0⟩, by simp [MemPlace.row]⟩
      | succ k =>
        simp only [List.getElem?_cons_succ] at hx
        obtain ⟨h1, h2, h3, h4⟩ := ha' k x hx
        exact ⟨h1, h2, h3, List.mem_append_right _ h4⟩
    · have far : ∀ k, k < r.length → a0 ≠ a' k := fun k hk e => by
        obtain ⟨_, _, _, h4⟩ := ha' k r[k] (by simp [hk])
        rw [← e] at h4
        exact hnot h4
      intro i j hi' hj' hij
      cases i with
      | zero =>
        cases j with
        | zero => exact absurd rfl hij
        | succ k => exact far k (by simpa using hj')
      | succ m =>
        cases j with
        | zero => exact (far m (by simpa using hi')).symm
        | succ k => exact hne' m k (by simpa using hi') (by simpa using hj') (by omega)

/-- The names and texts, in the rows' order. -/
def eightNames : List (String × List UInt8) := [("demon/api.ErrText", [100, 101, 109, 111, 110, 58, 32, 116, 101, 120, 116]), ("demon/api.ErrBound", [100, 101, 109, 111, 110, 58, 32, 98, 111, 117, 110, 100]), ("demon/api.ErrShape", [100, 101, 109, 111, 110, 58, 32, 115, 104, 97, 112, 101]), ("demon/api.ErrZero", [100, 101, 109, 111, 110, 58, 32, 122, 101, 114, 111]), ("demon/api.ErrName", [100, 101, 109, 111, 110, 58, 32, 110, 97, 109, 101]), ("demon/api.ErrNone", [100, 101, 109, 111, 110, 58, 32, 110, 111, 110, 101]), ("demon/api.ErrOrder", [100, 101, 109, 111, 110, 58, 32, 111, 114, 100, 101, 114]), ("demon/api.ErrKind", [100, 101, 109, 111, 110, 58, 32, 107, 105, 110, 100])]
def laidAll : List (String × DataW Unit) := [("errors.errorType", Rows.laid_errors_errorType), ("demon/api.ErrText", Rows.laid_demon_api_ErrText), ("demon/api.ErrBound", Rows.laid_demon_api_ErrBound), ("demon/api.ErrShape", Rows.laid_demon_api_ErrShape), ("demon/api.ErrZero", Rows.laid_demon_api_ErrZero), ("demon/api.ErrName", Rows.laid_demon_api_ErrName), ("demon/api.ErrNone", Rows.laid_demon_api_ErrNone), ("demon/api.ErrOrder", Rows.laid_demon_api_ErrOrder), ("demon/api.ErrKind", Rows.laid_demon_api_ErrKind)]
theorem laidAll_parts (W : World) : laidMetH Tryd.prog laidAll W = (laidMet Tryd.prog (eightNames.map fun x => (x.1, .iface "*errors.errorString" (.ptr (.agg [.lit (.string x.2)])))) W ∧ handlesMet Tryd.prog [("errors.errorType", Rows.laid_errors_errorType)] W) := by kernel_rfl

theorem var_at {W : World} {n : String} {g : Nat} {v : Value} (hg : Tryd.prog.globalNamed n = some g) (h : W.var? Tryd.prog n = some #[v]) : W.cell? ⟨g, 0, none⟩ = some v := by
  simpa using World.var?_cell hg h 0

theorem errs_of_laid {W : World} (h : laidMetH Tryd.prog laidAll W) : ∃ a : Nat → Addr, Errs W a ∧ ∀ i x, eightNames[i]? = some x → ∃ s, W.cell? (a i) = some (.string s) ∧ s.data.toList = x.2 := by
  rw [laidAll_parts] at h
  obtain ⟨⟨ps, hv, hnd, hrows⟩, hh⟩ := h
  obtain ⟨name, u, ty, e1, e2, e3, e4, e5⟩ := hh _ (List.mem_singleton.2 rfl)
  have en : name = [101, 114, 114, 111, 114] := (Option.some.inj e1).symm
  subst en
  obtain rfl := Option.some.inj (Tryd.rt.symm.trans e2)
  have hm : ty ∈ (List.range 182).filter fun t => Tryd.prog.rowNamed t [101, 114, 114, 111, 114] := List.mem_filter.2 ⟨List.mem_range.2 (by rw [← Tryd.size]; exact e3), e4⟩
  rw [Tryd.oneRow] at hm
  obtain rfl := List.mem_singleton.1 hm
  have hth : typeHandle Tryd.prog 29 = .pointer (some ⟨9, 29, none⟩) := by kernel_rfl
  rw [hth] at e5
  obtain ⟨a, ha, hne⟩ := laid_list Tryd.underlying29 Tryd.rowE Tryd.underlying149 Tryd.underlying170 rfl rfl Tryd.underlying9 Tryd.cellsE Tryd.cellsS eightNames ps
    (fun x hx => by
      simp only [eightNames, List.mem_cons, List.not_mem_nil, or_false] at hx
      rcases hx with rfl | rfl | rfl | rfl | rfl | rfl | rfl | rfl
      · exact ⟨_, Tryd.g0, by kernel_rfl⟩
      · exact ⟨_, Tryd.g1, by kernel_rfl⟩
      · exact ⟨_, Tryd.g2, by kernel_rfl⟩
      · exact ⟨_, Tryd.g3, by kernel_rfl⟩
      · exact ⟨_, Tryd.g4, by kernel_rfl⟩
      · exact ⟨_, Tryd.g5, by kernel_rfl⟩
      · exact ⟨_, Tryd.g6, by kernel_rfl⟩
      · exact ⟨_, Tryd.g7, by kernel_rfl⟩) hv hnd hrows
  refine ⟨a, ⟨var_at Tryd.g0 (ha 0 _ rfl).1, var_at Tryd.g1 (ha 1 _ rfl).1, var_at Tryd.g2 (ha 2 _ rfl).1, var_at Tryd.g3 (ha 3 _ rfl).1, var_at Tryd.g4 (ha 4 _ rfl).1, var_at Tryd.g5 (ha 5 _ rfl).1, var_at Tryd.g6 (ha 6 _ rfl).1, var_at Tryd.g7 (ha 7 _ rfl).1, var_at Tryd.et e5, ?_, ?_⟩, fun i x hx => (ha i x hx).2.1⟩
  · intro i hi
    have hl : eightNames.length = 8 := rfl
    exact (ha i eightNames[i] (List.getElem?_eq_getElem (by omega))).2.2.1
  · intro i j hi hj hij
    exact hne i j hi hj hij

/-- The door's own heap meets the condition. -/
theorem door_met (os : Os) (args : Array Value) : laidMetH Tryd.prog laidAll ((World.doorLaid Tryd.prog 168 os).forCall (fun _ _ => 0) ⟨#[], args, []⟩).memory :=
  laidMetH_of_parts3 (fuel := 8) (laidMet_of_run' 8 (by kernel_rfl) (by kernel_rfl)) (by kernel_rfl) (by kernel_rfl)
end Go.Proofs.YtiegobkbinojeaaDoor

/- A parameter of type []int opened. -/
namespace Go.Proofs.YtiegobkbinojeaaDoor
open Go.ChangeShapes Go.WideShapes Go.ChangeAt Go.RowKit Go.Joins Go.Deep

theorem Tryd.laidOut : laidOutB Tryd.prog = true := by kernel_rfl
theorem Tryd.cellsInt : Tryd.prog.cellsOf 3 = 1 := by kernel_rfl
theorem Tryd.cellsInts : Tryd.prog.cellsOf 39 = 1 := by kernel_rfl

set_option maxRecDepth 100000 in
/-- What a parameter of type []int gives: its slice, its numbers. -/
theorem open_nums {H : Type} {enc : TypeId × Value → H} {W : World} {base : Nat} {v : Value} {d : DataW H} {p : List MemPlace} (hv : Value.okWide Tryd.prog W .any base 39 v)
    (h : DataW.Trod enc Tryd.prog W 0 (fun _ => true) true 39 v d p) :
    ∃ (ad : Option Addr) (n cap : Nat) (z : Nat → Int), v = .slice ad n cap ∧ n ≤ maxLen ∧ NumsAt W (.slice ad n cap) n z := by
  obtain ⟨ad, n, cap, rfl⟩ := okWide_slice Tryd.underlying39 hv
  obtain ⟨fuel, hf⟩ := h
  rcases open_ints Tryd.underlying39 Tryd.underlying3 Tryd.cellsInt hf with ⟨hc, _⟩ | ⟨a, len, cap', zs, hc, _, hl, hm, hz, _, hcell, _⟩
  · simp [Value.cells] at hc
    obtain ⟨rfl, rfl, rfl⟩ := hc
    exact ⟨none, 0, 0, fun _ => 0, rfl, Nat.zero_le _, Or.inl ⟨none, 0, rfl, rfl⟩⟩
  · simp [Value.cells] at hc
    obtain ⟨rfl, rfl, rfl⟩ := hc
    simp only [if_true] at hz
    rcases Nat.eq_zero_or_pos n with rfl | hpos
    · exact ⟨some a, 0, cap, fun _ => 0, rfl, Nat.zero_le _, Or.inl ⟨some a, cap, rfl, rfl⟩⟩
    · obtain ⟨b, o, spot⟩ := a
      have hspot : spot = none := by simpa [Addr.add] using World.cell?_spot (hcell 0 (by omega))
      subst hspot
      refine ⟨_, n, cap, fun i => zs.getD i 0, rfl, by omega, Or.inr ⟨b, o, cap, rfl, hpos, fun i hi => ?_⟩⟩
      have := hcell i (by omega)
      rw [Go.Proofs.YtiegobkbinojeaaDoor.add_plain] at this
      exact this
end Go.Proofs.YtiegobkbinojeaaDoor

/- A parameter of type [][]int opened; how many numbers it holds at the most. -/
namespace Go.Proofs.YtiegobkbinojeaaDoor
open Go.ChangeShapes Go.WideShapes Go.ChangeAt Go.RowKit Go.Joins Go.Deep

theorem bulk_one {H : Type} (d : DataW H) : 1 ≤ Rows.uptoBulk d := by
  cases d with
  | lit l => cases l <;> simp [Rows.uptoBulk]
  | _ => simp [Rows.uptoBulk]
theorem bulk_len {H : Type} : ∀ l : List (DataW H), l.length ≤ Rows.uptoBulkAll l
  | [] => by simp [Rows.uptoBulkAll]
  | x :: r => by
    have h1 := bulk_one x
    have h2 := bulk_len r
    simp only [Rows.uptoBulkAll, List.length_cons]
    omega
theorem bulk_mem {H : Type} {d : DataW H} : ∀ {l : List (DataW H)}, d ∈ l → Rows.uptoBulk d ≤ Rows.uptoBulkAll l
  | x :: r, h => by
    simp only [Rows.uptoBulkAll]
    rcases List.mem_cons.1 h with rfl | h'
    · omega
    · have := bulk_mem h'; omega
theorem bulk_append {H : Type} : ∀ l r : List (DataW H), Rows.uptoBulkAll (l ++ r) = Rows.uptoBulkAll l + Rows.uptoBulkAll r
  | [], r => by simp [Rows.uptoBulkAll]
  | x :: l, r => by simp only [List.cons_append, Rows.uptoBulkAll, bulk_append l r]; omega
theorem bulk_sum {H : Type} (f : Nat → DataW H) (L : Nat → Nat) : ∀ n, (∀ r, r < n → L r ≤ Rows.uptoBulk (f r)) → sumT L n ≤ Rows.uptoBulkAll ((List.range n).map f)
  | 0, _ => Nat.zero_le _
  | n + 1, h => by
    have h1 := bulk_sum f L n (fun r hr => h r (by omega))
    have h2 := h n (by omega)
    show sumT L n + L n ≤ _
    rw [List.range_succ, List.map_append, bulk_append]
    simp only [List.map_cons, List.map_nil, Rows.uptoBulkAll]
    omega

set_option maxRecDepth 100000 in
theorem open_table {H : Type} {enc : TypeId × Value → H} {W : World} {base : Nat} {v : Value} {d : DataW H} {p : List MemPlace} (hv : Value.okWide Tryd.prog W .any base 22 v)
    (h : DataW.Trod enc Tryd.prog W 0 (fun _ => true) true 22 v d p) :
    ∃ (ad : Option Addr) (R cap : Nat) (vs : Nat → Value) (ns : Nat → Nat) (zs : Nat → Nat → Int), v = .slice ad R cap ∧ R ≤ maxLen ∧ TabAt W (.slice ad R cap) R vs ns zs ∧ sumT ns R ≤ Rows.uptoBulk d := by
  obtain ⟨ad, R, cap, rfl⟩ := okWide_slice Tryd.underlying22 hv
  obtain ⟨fuel, hf⟩ := h
  rcases open_int_rows Tryd.underlying22 Tryd.underlying39 Tryd.underlying3 Tryd.cellsInts Tryd.cellsInt hf with ⟨hc, _⟩ | ⟨a, len, cap', A, L, C, Z, hc, _, hl, hm, hx, hr⟩
  · simp [Value.cells] at hc
    obtain ⟨rfl, rfl, rfl⟩ := hc
    exact ⟨none, 0, 0, fun _ => .slice none 0 0, fun _ => 0, fun _ _ => 0, rfl, Nat.zero_le _, Or.inl ⟨none, 0, rfl, rfl⟩, Nat.zero_le _⟩
  · simp [Value.cells] at hc
    obtain ⟨rfl, rfl, rfl⟩ := hc
    simp only [Prod.mk.injEq] at hx
    obtain ⟨rfl, _⟩ := hx
    have hbulk : sumT L R ≤ Rows.uptoBulk (DataW.slice ((List.range R).map fun r => intRow .i64 (A r) (L r) (Z r)) ((List.range (cap - R)).map fun j => intRow .i64 (A (R + j)) (L (R + j)) (Z (R + j))) : DataW H) := by
      have h1 := bulk_sum (H := H) (fun r => intRow .i64 (A r) (L r) (Z r)) L R (fun r hr' => by
        obtain ⟨_, h2, _, h4, _, h6, _⟩ := hr r (by omega)
        cases hA : A r with
        | none => have := h6 hA; omega
        | some a' =>
          have h7 := bulk_len (H := H) (lits .i64 ((Z r).take (L r)))
          have h8 : (lits (H := H) .i64 ((Z r).take (L r))).length = L r := by simp [lits]; omega
          simp only [intRow, Rows.uptoBulk]
          omega)
      simp only [Rows.uptoBulk]
      omega
    rcases Nat.eq_zero_or_pos R with rfl | hpos
    · exact ⟨some a, 0, cap, fun _ => .slice none 0 0, L, fun _ _ => 0, rfl, Nat.zero_le _, Or.inl ⟨some a, cap, rfl, rfl⟩, hbulk⟩
    · obtain ⟨b, o, spot⟩ := a
      have hspot : spot = none := by simpa [Addr.add] using World.cell?_spot (hr 0 (by omega)).1
      subst hspot
      refine ⟨_, R, cap, fun r => .slice (A r) (L r) (C r), L, fun r i => (Z r).getD i 0, rfl, by omega, Or.inr ⟨b, o, cap, rfl, hpos, fun i hi => ?_⟩, hbulk⟩
      obtain ⟨h1, h2, _, h4, _, h6, h7⟩ := hr i (by omega)
      rw [Go.Proofs.YtiegobkbinojeaaDoor.add_plain] at h1
      refine ⟨h1, ?_⟩
      rcases Nat.eq_zero_or_pos (L i) with h0 | h0
      · exact Or.inl ⟨A i, C i, by dsimp only; rw [h0], h0⟩
      · cases hA : A i with
        | none => have := h6 hA; omega
        | some a' =>
          obtain ⟨_, h8⟩ := h7 a' hA
          obtain ⟨b', o', spot'⟩ := a'
          have hs' : spot' = none := by simpa [Addr.add] using World.cell?_spot (h8 0 (by omega))
          subst hs'
          refine Or.inr ⟨b', o', C i, by dsimp only; rw [hA], h0, fun j hj => ?_⟩
          have := h8 j (by omega)
          rw [Go.Proofs.YtiegobkbinojeaaDoor.add_plain] at this
          exact this
theorem bulk_bound {H : Type} {l : List (DataW H)} (hk : Rows.uptoSmall H l = true) : Rows.uptoBulkAll l ≤ 1048576 := of_decide_eq_true hk
end Go.Proofs.YtiegobkbinojeaaDoor

/- A parameter of type demonref5.Family opened: its number, its rows; how many numbers it holds at the most. -/
namespace Go.Proofs.YtiegobkbinojeaaDoor
open Go.ChangeShapes Go.WideShapes Go.ChangeAt Go.RowKit Go.Joins Go.Deep

theorem Tryd.cellsFam : Tryd.prog.cellsOf 24 = 2 := by kernel_rfl
set_option maxRecDepth 100000 in
theorem open_fam {H : Type} {enc : TypeId × Value → H} {W : World} {base : Nat} {v : Value} {d : DataW H} {p : List MemPlace} (hv : Value.okWide Tryd.prog W .any base 24 v)
    (h : DataW.Trod enc Tryd.prog W 0 (fun _ => true) true 24 v d p) :
    ∃ (M : Int) (la : Option Addr) (R lc : Nat) (vs : Nat → Value) (ns : Nat → Nat) (zs : Nat → Nat → Int), v = .agg #[.int .i64 M, .slice la R lc] ∧ TabAt W (.slice la R lc) R vs ns zs ∧ R ≤ maxLen ∧ sumT ns R ≤ Rows.uptoBulk d := by
  obtain ⟨c0, c1, y0, y1, m, rfl, rfl, rfl, hy0, hy1⟩ := open_agg2 Tryd.underlying24 (by kernel_rfl) Tryd.cellsFam hv h
  obtain ⟨M, e0, _, _⟩ := DataW.trod_int Tryd.underlying3 hy0
  simp at e0
  subst e0
  rcases open_int_rows Tryd.underlying22 Tryd.underlying39 Tryd.underlying3 Tryd.cellsInts Tryd.cellsInt hy1 with ⟨hc, _⟩ | ⟨a, R, cap, A, L, C, Z, hc, _, hl, hm, hx, hr⟩
  · simp at hc
    subst hc
    exact ⟨M, none, 0, 0, fun _ => .slice none 0 0, fun _ => 0, fun _ _ => 0, rfl, Or.inl ⟨none, 0, rfl, rfl⟩, Nat.zero_le _, Nat.zero_le _⟩
  · simp at hc
    subst hc
    obtain ⟨d1, p1⟩ := y1
    simp only [Prod.mk.injEq] at hx
    obtain ⟨rfl, _⟩ := hx
    have hbulk : sumT L R ≤ Rows.uptoBulk (DataW.slice ((List.range R).map fun r => intRow .i64 (A r) (L r) (Z r)) ((List.range (cap - R)).map fun j => intRow .i64 (A (R + j)) (L (R + j)) (Z (R + j))) : DataW H) := by
      have h1 := bulk_sum (H := H) (fun r => intRow .i64 (A r) (L r) (Z r)) L R (fun r hr' => by
        obtain ⟨_, h2, _, h4, _, h6, _⟩ := hr r (by omega)
        cases hA : A r with
        | none => have := h6 hA; omega
        | some a' =>
          have h7 := bulk_len (H := H) (lits .i64 ((Z r).take (L r)))
          have h8 : (lits (H := H) .i64 ((Z r).take (L r))).length = L r := by simp [lits]; omega
          simp only [intRow, Rows.uptoBulk]
          omega)
      simp only [Rows.uptoBulk]
      omega
    have hall : sumT L R ≤ Rows.uptoBulk (.agg [y0.1, DataW.slice ((List.range R).map fun r => intRow .i64 (A r) (L r) (Z r)) ((List.range (cap - R)).map fun j => intRow .i64 (A (R + j)) (L (R + j)) (Z (R + j)))] : DataW H) := by
      have h1 := bulk_mem (H := H) (d := DataW.slice ((List.range R).map fun r => intRow .i64 (A r) (L r) (Z r)) ((List.range (cap - R)).map fun j => intRow .i64 (A (R + j)) (L (R + j)) (Z (R + j)))) (l := [y0.1, DataW.slice ((List.range R).map fun r => intRow .i64 (A r) (L r) (Z r)) ((List.range (cap - R)).map fun j => intRow .i64 (A (R + j)) (L (R + j)) (Z (R + j)))]) (by simp)
      have h2 : Rows.uptoBulkAll [y0.1, DataW.slice ((List.range R).map fun r => intRow .i64 (A r) (L r) (Z r)) ((List.range (cap - R)).map fun j => intRow .i64 (A (R + j)) (L (R + j)) (Z (R + j)))] ≤ Rows.uptoBulk (.agg [y0.1, DataW.slice ((List.range R).map fun r => intRow .i64 (A r) (L r) (Z r)) ((List.range (cap - R)).map fun j => intRow .i64 (A (R + j)) (L (R + j)) (Z (R + j)))] : DataW H) := by
        simp only [Rows.uptoBulk]; omega
      omega
    rcases Nat.eq_zero_or_pos R with rfl | hpos
    · exact ⟨M, some a, 0, cap, fun _ => .slice none 0 0, L, fun _ _ => 0, rfl, Or.inl ⟨some a, cap, rfl, rfl⟩, Nat.zero_le _, hall⟩
    · obtain ⟨b, o, spot⟩ := a
      have hspot : spot = none := by simpa [Addr.add] using World.cell?_spot (hr 0 (by omega)).1
      subst hspot
      refine ⟨M, _, R, cap, fun r => .slice (A r) (L r) (C r), L, fun r i => (Z r).getD i 0, rfl, Or.inr ⟨b, o, cap, rfl, hpos, fun i hi => ?_⟩, by omega, hall⟩
      obtain ⟨h1, h2, _, h4, _, h6, h7⟩ := hr i (by omega)
      rw [Go.Proofs.YtiegobkbinojeaaDoor.add_plain] at h1
      refine ⟨h1, ?_⟩
      rcases Nat.eq_zero_or_pos (L i) with h0 | h0
      · exact Or.inl ⟨A i, C i, by dsimp only; rw [h0], h0⟩
      · cases hA : A i with
        | none => have := h6 hA; omega
        | some a' =>
          obtain ⟨_, h8⟩ := h7 a' hA
          obtain ⟨b', o', spot'⟩ := a'
          have hs' : spot' = none := by simpa [Addr.add] using World.cell?_spot (h8 0 (by omega))
          subst hs'
          refine Or.inr ⟨b', o', C i, by dsimp only; rw [hA], h0, fun j hj => ?_⟩
          have := h8 j (by omega)
          rw [Go.Proofs.YtiegobkbinojeaaDoor.add_plain] at this
          exact this
end Go.Proofs.YtiegobkbinojeaaDoor
