/- The document's differences. -/
import Derived.Test.YtncgpldfenkiiaaGreatDoorPlus
import Derived.Test.YtncgpldfenkiiaaGreatDoorWideMath
import Derived.WalkKit
import Derived.Test.YtncgpldfenkiiaaGreatDoorWeights
import Derived.Test.YtncgpldfenkiiaaGreatDoorBig
import Derived.Test.YtncgpldfenkiiaaGreatDoorProg
import Derived.BigQuiet
import Derived.Deep.Onto
import Derived.Test.YtncgpldfenkiiaaGreatDoorRatioOps
import Derived.Deep.AppendLies
namespace Go.Proofs.YtncgpldfenkiiaaGreatDoor
open Go.RowKit

set_option maxRecDepth 10000 in
set_option maxHeartbeats 4000000 in
/-- Minus: the difference, in its lowest terms. -/
theorem Minus_ratio (v1 v2 : Value) (n1 n2 : Int) (d1 d2 k : Nat) (w : World) (h1 : RatioAt w v1 n1 d1) (h2 : RatioAt w v2 n2 d2) (hd1 : 0 < d1) (hd2 : 0 < d2) (hn1 : n1.natAbs < 1000000 ^ k) (hn2 : n2.natAbs < 1000000 ^ k) (hk1 : d1 < 1000000 ^ k) (hk2 : d2 < 1000000 ^ k) (hk : k + k + 1 + 1 ≤ 1000000) :
    Calls Tryz.prog 19 #[v1, v2] w fun e w' => ∃ r, e = .returned r ∧ RatioAt w' r ((n1 * d2 + -n2 * d1).tdiv ((Nat.gcd (n1 * d2 + -n2 * d1).natAbs (d1 * d2) : Nat) : Int)) (d1 * d2 / Nat.gcd (n1 * d2 + -n2 * d1).natAbs (d1 * d2)) ∧ Below w.heap.size w w' := by
  obtain ⟨u1, q1, rfl, hu1, hq1⟩ := h1
  obtain ⟨u2, q2, rfl, hu2, hq2⟩ := h2
  obtain ⟨ad1, l1, cap1, rfl, _⟩ := hu1.len
  obtain ⟨bd1, m1, bap1, rfl, _⟩ := hq1.len
  obtain ⟨ad2, l2, cap2, rfl, _⟩ := hu2.len
  obtain ⟨bd2, m2, bap2, rfl, _⟩ := hq2.len
  obtain ⟨s1, hs1⟩ : ∃ s, decide (n1 < 0) = s := ⟨_, rfl⟩
  obtain ⟨s2, hs2⟩ : ∃ s, decide (n2 < 0) = s := ⟨_, rfl⟩
  rw [hs1, hs2]
  have hB0 : Below w.heap.size w (((w.alloc (.cells #[.bool s1, .slice ad1 l1 cap1, .slice bd1 m1 bap1] 44)).alloc (.cells #[.bool s2, .slice ad2 l2 cap2, .slice bd2 m2 bap2] 44)).alloc (.cells #[.bool false, .slice none 0 0, .slice none 0 0] 44)) := (((Below.refl _ _).alloc (Nat.le_refl _) _).alloc (by simp) _).alloc (by simp; omega) _
  have hN := noInts_third3 w (.cells #[.bool s1, .slice ad1 l1 cap1, .slice bd1 m1 bap1] 44) (.cells #[.bool s2, .slice ad2 l2 cap2, .slice bd2 m2 bap2] 44) 44
  have hNP := fun (w1 : World) => nine_past (w := w) (w1 := w1) (x0 := .bool s1) (x1 := .slice ad1 l1 cap1) (x2 := .slice bd1 m1 bap1) (y0 := .bool s2) (y1 := .slice ad2 l2 cap2) (y2 := .slice bd2 m2 bap2) (r0 := .bool false) (r1 := .slice none 0 0) (r2 := .slice none 0 0) (t := 44)
  have hz0 : w.heap.size + 1 + 1 + 1 = (((w.alloc (.cells #[.bool s1, .slice ad1 l1 cap1, .slice bd1 m1 bap1] 44)).alloc (.cells #[.bool s2, .slice ad2 l2 cap2, .slice bd2 m2 bap2] 44)).alloc (.cells #[.bool false, .slice none 0 0, .slice none 0 0] 44)).heap.size := by simp
  generalize hW : (((w.alloc (.cells #[.bool s1, .slice ad1 l1 cap1, .slice bd1 m1 bap1] 44)).alloc (.cells #[.bool s2, .slice ad2 l2 cap2, .slice bd2 m2 bap2] 44)).alloc (.cells #[.bool false, .slice none 0 0, .slice none 0 0] 44)) = W0 at hB0 hN hNP hz0
  have hKS : ∀ W, Below (w.heap.size + 1 + 1) W0 W → (W.cell? ⟨w.heap.size, 0, none⟩ = some (.bool s1) ∧ W.cell? ⟨w.heap.size, 1, none⟩ = some (.slice ad1 l1 cap1) ∧ W.cell? ⟨w.heap.size, 2, none⟩ = some (.slice bd1 m1 bap1)) ∧ (W.cell? ⟨w.heap.size + 1, 0, none⟩ = some (.bool s2) ∧ W.cell? ⟨w.heap.size + 1, 1, none⟩ = some (.slice ad2 l2 cap2) ∧ W.cell? ⟨w.heap.size + 1, 2, none⟩ = some (.slice bd2 m2 bap2)) := fun W hb => by
    obtain ⟨⟨a0, a1, a2⟩, ⟨b0, b1, b2⟩, _⟩ := hNP W0 (Below.refl _ _)
    have ha : ∀ j v, W0.cell? ⟨w.heap.size, j, none⟩ = some v → W.cell? ⟨w.heap.size, j, none⟩ = some v := fun j v h => by rw [hb.cell (p := ⟨w.heap.size, j, none⟩) (by show w.heap.size < _; omega)]; exact h
    have hb' : ∀ j v, W0.cell? ⟨w.heap.size + 1, j, none⟩ = some v → W.cell? ⟨w.heap.size + 1, j, none⟩ = some v := fun j v h => by rw [hb.cell (p := ⟨w.heap.size + 1, j, none⟩) (by show w.heap.size + 1 < _; omega)]; exact h
    exact ⟨⟨ha 0 _ a0, ha 1 _ a1, ha 2 _ a2⟩, ⟨hb' 0 _ b0, hb' 1 _ b1, hb' 2 _ b2⟩⟩
  have HS2 := Hid.mk' (show SignedAt W0.drew (.agg #[.bool s2, .slice ad2 l2 cap2]) n2 from ⟨_, by rw [hs2], (hu2.later hB0).later ((Below.refl _ _).drew)⟩)
  have HD2 := Hid.mk' ((hq2.later hB0).later ((Below.refl _ _).drew))
  have HR1 := Hid.mk' (show RatioAt W0.drew (.agg #[.bool s1, .slice ad1 l1 cap1, .slice bd1 m1 bap1]) n1 d1 from ⟨_, _, by rw [hs1], (hu1.later hB0).later ((Below.refl _ _).drew), (hq1.later hB0).later ((Below.refl _ _).drew)⟩)
  have hback := SignedBack_any _ n2 W0.drew HS2.out
  have HBACK := Hid.mk' hback
  have HKS := Hid.mk' hKS
  have HW := Hid.mk' hW
  have HNP := Hid.mk' hNP
  have HN := Hid.mk' hN
  have HB := Hid.mk' hB0
  have HBD : Hid (n1.natAbs < 1000000 ^ k ∧ (-n2).natAbs < 1000000 ^ k ∧ d1 < 1000000 ^ k ∧ d2 < 1000000 ^ k) := ⟨hn1, by rw [Int.natAbs_neg]; exact hn2, hk1, hk2⟩
  have hcur0 : Below (w.heap.size + 1 + 1) W0 W0 := Below.refl _ _
  have hcur : Below (w.heap.size + 1 + 1) W0 W0.drew := (Below.refl _ _).drew
  obtain ⟨zz, hzz⟩ : ∃ zz, zz = n1 * (d2 : Int) + -n2 * (d1 : Int) := ⟨_, rfl⟩
  rw [← hzz]
  have HZZ := Hid.mk' hzz
  clear hs1 hs2 hu1 hu2 hq1 hq2 hB0 hN hNP hW hKS hback hn1 hn2 hk1 hk2 hzz
  go_enter Tryz.func19, Tryz.ntmps19
  go_wp2_with fail
  rw [HW.out]
  go_region_held3 (fun W => (W.cell? ⟨w.heap.size, 0, none⟩ = some (.bool s1) ∧ W.cell? ⟨w.heap.size, 1, none⟩ = some (.slice ad1 l1 cap1) ∧ W.cell? ⟨w.heap.size, 2, none⟩ = some (.slice bd1 m1 bap1)) ∧ (W.cell? ⟨w.heap.size + 1, 0, none⟩ = some (.bool s2) ∧ W.cell? ⟨w.heap.size + 1, 1, none⟩ = some (.slice ad2 l2 cap2) ∧ W.cell? ⟨w.heap.size + 1, 2, none⟩ = some (.slice bd2 m2 bap2)))
    (first | exact HKS.out _ hcur0 | exact HKS.out _ hcur | exact HKS.out _ hc1 | exact HKS.out _ hc3 | exact HKS.out _ (below_set3 hc3 (Nat.le_refl _) _ _ _))
    (first
      | (go_at_call 40; refine HBACK.out.mono ?_; rintro e w1 ⟨sv, rfl, ⟨us, rfl, hus⟩, hb1⟩; obtain ⟨sg, hsg⟩ : ∃ sg, decide (-n2 < 0) = sg := ⟨_, rfl⟩; rw [hsg]; obtain ⟨ad3, l3, cap3, rfl, _⟩ := hus.len; have hbw1 := below_chain ((Below.refl _ _).drew) hb1; have hc1 : Below (w.heap.size + 1 + 1) W0 w1 := hbw1.mono (by omega); have HRA : Hid (RatioAt w1 (.agg #[.bool sg, .slice ad3 l3 cap3, .slice bd2 m2 bap2]) (-n2) d2) := ⟨_, _, by rw [hsg], hus, HD2.out.later hb1⟩; have HRB := Hid.mk' (HR1.out.later hb1); have HBW1 := Hid.mk' hbw1; clear hus hb1 hbw1 hsg)
      | (go_at_call 43; refine (Plus_ratio _ _ n1 (-n2) d1 d2 k w1 HRB.out HRA.out hd1 hd2 HBD.out.1 HBD.out.2.1 HBD.out.2.2.1 HBD.out.2.2.2 hk).mono ?_; rintro e w3 ⟨rv, rfl, hrv, hb3⟩; rw [← HZZ.out] at hrv; obtain ⟨ur, qr, rfl, hur, hqr⟩ := hrv; obtain ⟨ad5, l5, cap5, rfl, _⟩ := hur.len; obtain ⟨ad6, l6, cap6, rfl, _⟩ := hqr.len; have hbw3 := below_chain HBW1.out hb3; have hc3 : Below (w.heap.size + 1 + 1) W0 w3 := hbw3.mono (by omega); obtain ⟨_, _, ⟨c0, c1, c2⟩, f0, f1, f2⟩ := HNP.out w3 hbw3; have HUR := Hid.mk' hur; have HQR := Hid.mk' hqr; have HBW3 := Hid.mk' hbw3; clear hur hqr hb3 hbw3))
  go_wp2_with fail
  refine bodyPost_ret (v := .agg #[.bool (decide (zz.tdiv ((Nat.gcd zz.natAbs (d1 * d2) : Nat) : Int) < 0)), .slice ad5 l5 cap5, .slice ad6 l6 cap6]) (by simp [results, Tryz.results19, go_sem, c0, c1, c2]) rfl ⟨_, rfl, ⟨_, _, rfl, HUR.out.set3 (HN.out.later (by omega) HBW3.out) c0 c1, HQR.out.set3 (HN.out.later (by omega) HBW3.out) c0 c1⟩, below_set3 (below_chain HB.out HBW3.out) (by omega) _ _ _⟩

/-- What is less than nothing by a part of M. -/
theorem low_minus {M : Nat} (hM : 0 < M) (z : Int) : (0 * (lowD M z : Int) + -lowN M z * (1 : Nat)).tdiv ((Nat.gcd (0 * (lowD M z : Int) + -lowN M z * (1 : Nat)).natAbs (1 * lowD M z) : Nat) : Int) = lowN M (-z) ∧ 1 * lowD M z / Nat.gcd (0 * (lowD M z : Int) + -lowN M z * (1 : Nat)).natAbs (1 * lowD M z) = lowD M (-z) := by
  refine low_same hM (by have := lowD_pos hM z; omega) ?_
  have h1 := low_cross hM z
  rw [Nat.one_mul]
  generalize lowN M z = a at *
  generalize (lowD M z : Int) = c at *
  simp only [Int.zero_mul, Int.zero_add, Int.natCast_one, Int.mul_one]
  rw [Int.neg_mul, h1, Int.neg_mul]
/-- A part of a part: n of M times x of n is x of M. -/
theorem low_times {M n : Nat} (hM : 0 < M) (hn : 0 < n) (x : Int) : (lowN M n * lowN n x).tdiv ((Nat.gcd (lowN M n * lowN n x).natAbs (lowD M n * lowD n x) : Nat) : Int) = lowN M x ∧ lowD M n * lowD n x / Nat.gcd (lowN M n * lowN n x).natAbs (lowD M n * lowD n x) = lowD M x := by
  refine low_same hM (Nat.mul_pos (lowD_pos hM n) (lowD_pos hn x)) ?_
  have h1 := low_cross hM (n : Int)
  have h2 := low_cross hn x
  rw [Int.natCast_mul]
  generalize lowN M n = a at *
  generalize lowN n x = b at *
  generalize (lowD M n : Int) = c at *
  generalize (lowD n x : Int) = e at *
  calc a * b * (M : Int) = (a * (M : Int)) * b := by rw [Int.mul_assoc, Int.mul_comm b, ← Int.mul_assoc]
    _ = (b * (n : Int)) * c := by rw [h1, Int.mul_comm (n : Int) c, Int.mul_assoc, Int.mul_comm c, Int.mul_comm (n : Int) b]
    _ = x * (c * e) := by rw [h2, Int.mul_assoc, Int.mul_comm e c]
theorem low_self {M : Nat} (hM : 0 < M) : lowN M M = 1 ∧ lowD M M = 1 := by
  have h := low_same (M := M) (d := 1) (z := (M : Int)) (n := 1) hM (by decide) (by simp)
  simpa using And.intro h.1.symm h.2.symm
end Go.Proofs.YtncgpldfenkiiaaGreatDoor

/- The document's Over. -/
namespace Go.Proofs.YtncgpldfenkiiaaGreatDoor
open Go.RowKit

set_option maxRecDepth 10000 in
set_option maxHeartbeats 4000000 in
/-- Over: the quotient by one above 0, in its lowest terms. -/
theorem Over_ratio (v1 v2 : Value) (n1 : Int) (m d1 d2 k : Nat) (w : World) (h1 : RatioAt w v1 n1 d1) (h2 : RatioAt w v2 (m : Int) d2) (hd1 : 0 < d1) (hm0 : 0 < m) (hn1 : n1.natAbs < 1000000 ^ k) (hn2 : m < 1000000 ^ k) (hk1 : d1 < 1000000 ^ k) (hk2 : d2 < 1000000 ^ k) (hk : k + k + 1 + 1 ≤ 1000000) :
    Calls Tryz.prog 18 #[v1, v2] w fun e w' => ∃ r, e = .returned r ∧ RatioAt w' r ((n1 * d2).tdiv ((Nat.gcd (n1 * d2).natAbs (d1 * m) : Nat) : Int)) (d1 * m / Nat.gcd (n1 * d2).natAbs (d1 * m)) ∧ Below w.heap.size w w' := by
  obtain ⟨u1, q1, rfl, hu1, hq1⟩ := h1
  obtain ⟨u2, q2, rfl, hu2, hq2⟩ := h2
  obtain ⟨ad1, l1, cap1, rfl, _⟩ := hu1.len
  obtain ⟨bd1, m1, bap1, rfl, _⟩ := hq1.len
  obtain ⟨ad2, l2, cap2, rfl, _⟩ := hu2.len
  obtain ⟨bd2, m2, bap2, rfl, _⟩ := hq2.len
  obtain ⟨s1, hs1⟩ : ∃ s, decide (n1 < 0) = s := ⟨_, rfl⟩
  have hs2 : decide ((m : Int) < 0) = false := decide_eq_false (by omega)
  rw [hs1, hs2]
  rw [Int.natAbs_natCast] at hu2
  have hB0 : Below w.heap.size w (((w.alloc (.cells #[.bool s1, .slice ad1 l1 cap1, .slice bd1 m1 bap1] 44)).alloc (.cells #[.bool false, .slice ad2 l2 cap2, .slice bd2 m2 bap2] 44)).alloc (.cells #[.bool false, .slice none 0 0, .slice none 0 0] 44)) := (((Below.refl _ _).alloc (Nat.le_refl _) _).alloc (by simp) _).alloc (by simp; omega) _
  have hN := noInts_third3 w (.cells #[.bool s1, .slice ad1 l1 cap1, .slice bd1 m1 bap1] 44) (.cells #[.bool false, .slice ad2 l2 cap2, .slice bd2 m2 bap2] 44) 44
  have hNP := fun (w1 : World) => nine_past (w := w) (w1 := w1) (x0 := .bool s1) (x1 := .slice ad1 l1 cap1) (x2 := .slice bd1 m1 bap1) (y0 := .bool false) (y1 := .slice ad2 l2 cap2) (y2 := .slice bd2 m2 bap2) (r0 := .bool false) (r1 := .slice none 0 0) (r2 := .slice none 0 0) (t := 44)
  have hz0 : w.heap.size + 1 + 1 + 1 = (((w.alloc (.cells #[.bool s1, .slice ad1 l1 cap1, .slice bd1 m1 bap1] 44)).alloc (.cells #[.bool false, .slice ad2 l2 cap2, .slice bd2 m2 bap2] 44)).alloc (.cells #[.bool false, .slice none 0 0, .slice none 0 0] 44)).heap.size := by simp
  generalize hW : (((w.alloc (.cells #[.bool s1, .slice ad1 l1 cap1, .slice bd1 m1 bap1] 44)).alloc (.cells #[.bool false, .slice ad2 l2 cap2, .slice bd2 m2 bap2] 44)).alloc (.cells #[.bool false, .slice none 0 0, .slice none 0 0] 44)) = W0 at hB0 hN hNP hz0
  have hKS : ∀ W, Below W0.heap.size W0 W → (W.cell? ⟨w.heap.size, 0, none⟩ = some (.bool s1) ∧ W.cell? ⟨w.heap.size, 1, none⟩ = some (.slice ad1 l1 cap1) ∧ W.cell? ⟨w.heap.size, 2, none⟩ = some (.slice bd1 m1 bap1)) ∧ (W.cell? ⟨w.heap.size + 1, 0, none⟩ = some (.bool false) ∧ W.cell? ⟨w.heap.size + 1, 1, none⟩ = some (.slice ad2 l2 cap2) ∧ W.cell? ⟨w.heap.size + 1, 2, none⟩ = some (.slice bd2 m2 bap2)) := fun W hb => by
    obtain ⟨a, b, _⟩ := hNP W hb
    exact ⟨a, b⟩
  have HS1 : Hid (∀ W, Below W0.heap.size W0 W → SignedAt W (.agg #[.bool s1, .slice ad1 l1 cap1]) n1) := fun W hb => ⟨_, by rw [hs1], (hu1.later hB0).later hb⟩
  have HU2 : Hid (∀ W, Below W0.heap.size W0 W → BigAt W (.slice ad2 l2 cap2) m) := fun W hb => (hu2.later hB0).later hb
  have HD1 : Hid (∀ W, Below W0.heap.size W0 W → BigAt W (.slice bd1 m1 bap1) d1) := fun W hb => (hq1.later hB0).later hb
  have HD2 : Hid (∀ W, Below W0.heap.size W0 W → BigAt W (.slice bd2 m2 bap2) d2) := fun W hb => (hq2.later hB0).later hb
  have HKS := Hid.mk' hKS
  have HW := Hid.mk' hW
  have HNP := Hid.mk' hNP
  have HN := Hid.mk' hN
  have HB := Hid.mk' hB0
  have hsm : (n1 * (d2 : Int)).natAbs < 1000000 ^ (k + k) := by rw [Int.natAbs_mul, Int.natAbs_natCast, Nat.pow_add]; exact Nat.mul_lt_mul'' hn1 hk2
  have hdd : d1 * m < 1000000 ^ (k + k) := by rw [Nat.pow_add]; exact Nat.mul_lt_mul'' hk1 hn2
  have HM := Hid.mk' (And.intro hsm hdd)
  have HBD : Hid (n1.natAbs < 1000000 ^ k ∧ (d2 : Int).natAbs < 1000000 ^ k) := ⟨hn1, by rw [Int.natAbs_natCast]; exact hk2⟩
  have HDK := Hid.mk' (And.intro hk1 hn2)
  have hcur0 : Below W0.heap.size W0 W0 := Below.refl _ _
  have hcur : Below W0.heap.size W0 W0.drew := (Below.refl _ _).drew
  have hcurA : ∀ X, Below W0.heap.size W0 (W0.alloc X).drew := fun X => (new_below _ _).drew
  have hdn2 : ¬ (d2 : Int) < 0 := by omega
  have HDE : Hid (decide ((d2 : Int) < 0) = false) := decide_eq_false hdn2
  clear hs1 hs2 hu1 hu2 hq1 hq2 hB0 hN hNP hW hKS hn1 hn2 hk1 hk2 hsm hdd hdn2
  generalize hz : n1 * (d2 : Int) = z at HM ⊢
  have HZ := Hid.mk' hz
  clear hz
  go_enter Tryz.func18, Tryz.ntmps18
  go_wp2_with fail
  rw [HW.out]
  go_cut [5] from 6 (fun s wx => ∃ Bs : Nat, s = .pointer (some ⟨Bs, 0, none⟩) ∧ Hid (SignBox W0 wx Bs z))
  case first =>
    go_region_held3 (fun W => (W.cell? ⟨w.heap.size, 0, none⟩ = some (.bool s1) ∧ W.cell? ⟨w.heap.size, 1, none⟩ = some (.slice ad1 l1 cap1) ∧ W.cell? ⟨w.heap.size, 2, none⟩ = some (.slice bd1 m1 bap1)) ∧ (W.cell? ⟨w.heap.size + 1, 0, none⟩ = some (.bool false) ∧ W.cell? ⟨w.heap.size + 1, 1, none⟩ = some (.slice ad2 l2 cap2) ∧ W.cell? ⟨w.heap.size + 1, 2, none⟩ = some (.slice bd2 m2 bap2)))
      (first | exact HKS.out _ hcur0 | exact HKS.out _ hcur | exact HKS.out _ (hcurA _) | (refine HKS.out _ ?_; assumption) | (refine HKS.out _ (more_below ?_ _); assumption) | (refine HKS.out _ (setB_below ?_ NB.hB _ _); assumption))
      (first
        | (go_at_call 37; refine (SignedMul_any _ _ n1 (d2 : Int) k _ (HS1.out _ ?_) (HX1.out _ ?_) HBD.out.1 HBD.out.2 (by omega)).mono ?_; (first | exact hbw1 | exact more_below hbw1 _); (first | exact Below.refl _ _ | exact new_below _ _); rintro e w2 ⟨sv2, rfl, ⟨x2, rfl, hx2⟩, hb2⟩; rw [HZ.out] at hx2 ⊢; obtain ⟨ad4, l4, cap4, rfl, _⟩ := hx2.len; (first | (have hbw2 := below_chain hbw1 hb2; try have NB := NB.later hb2) | (have hbw2 := below_chain (more_below hbw1 _) hb2; have NB := newBox_of hbw1 hb2)); (try (have y0 := NB.c0; have y1 := NB.c1; have y2 := NB.f0; have y3 := NB.f1)); have HX5 := Hid.mk' hx2; clear hx2 hb2)
        | (go_at_call 42; refine (wide_any (.slice bd2 m2 bap2) d2 _ (HD2.out _ ?_)).mono ?_; (first | exact hcur | exact hcurA _); rintro e w1 ⟨sv1, rfl, ⟨x1, rfl, hx1⟩, hb1⟩; rw [HDE.out]; obtain ⟨ad3, l3, cap3, rfl, _⟩ := hx1.len; (first | have hbw1 := below_chain hcur hb1 | (have hbw1 := below_chain (hcurA _) hb1; have NB := newBox_of hcur0 (below_chain ((Below.refl _ _).drew) hb1))); have HX1 : Hid (∀ W, Below w1.heap.size w1 W → SignedAt W (.agg #[.bool false, .slice ad3 l3 cap3]) (d2 : Int)) := (fun W hb => ⟨_, by rw [HDE.out], hx1.later hb⟩); clear hx1 hb1))
    all_goals
      go_wp2_with fail
      go_meet
      first | exact ⟨_, rfl, signBox_late hbw2 HX5.out⟩ | exact ⟨_, rfl, signBox_soon hbw2 HX5.out NB⟩
  case rest =>
  obtain ⟨Bs, rfl, HSB⟩ := hcut
  obtain ⟨u, x0, x1, hu⟩ := HSB.out.box
  obtain ⟨ad, l, cap, rfl, _⟩ := hu.len
  obtain ⟨sg, hsg⟩ : ∃ sg, decide (z < 0) = sg := ⟨_, rfl⟩
  rw [hsg] at x0
  have hBs := HSB.out.hB
  have hSc : ∀ W, Below wc.heap.size wc W → W.cell? ⟨Bs, 0, none⟩ = some (.bool sg) ∧ W.cell? ⟨Bs, 1, none⟩ = some (.slice ad l cap) ∧ W.cell? ⟨w.heap.size, 2, none⟩ = some (.slice bd1 m1 bap1) ∧ W.cell? ⟨w.heap.size + 1, 1, none⟩ = some (.slice ad2 l2 cap2) := fun W hb => by
    have h1 := HKS.out _ (below_chain HSB.out.below hb)
    exact ⟨(cell_past x0 hb).2, (cell_past x1 hb).2, h1.1.2.2, h1.2.2.1⟩
  have HSC := Hid.mk' hSc
  have hmul := BigMul_any _ _ d1 m k wc.drew (HD1.out _ HSB.out.below.drew) (HU2.out _ HSB.out.below.drew) HDK.out.1 HDK.out.2 (by omega)
  have HMUL := Hid.mk' hmul
  have HU := Hid.mk' hu
  have HSG := Hid.mk' hsg
  have hc0 : Below wc.heap.size wc wc := Below.refl _ _
  have hc1 : Below wc.heap.size wc wc.drew := (Below.refl _ _).drew
  have HBC := Hid.mk' HSB.out.below
  have hsetS : ∀ (W : World) (x y q : Value), Below wc.heap.size wc W → Bs ≠ w.heap.size + 1 + 1 → (((W.setCell ⟨w.heap.size + 1 + 1, 0, none⟩ x).setCell ⟨w.heap.size + 1 + 1, 1, none⟩ y).setCell ⟨w.heap.size + 1 + 1, 2, none⟩ q).cell? ⟨Bs, 0, none⟩ = some (.bool sg) ∧ (((W.setCell ⟨w.heap.size + 1 + 1, 0, none⟩ x).setCell ⟨w.heap.size + 1 + 1, 1, none⟩ y).setCell ⟨w.heap.size + 1 + 1, 2, none⟩ q).cell? ⟨Bs, 1, none⟩ = some (.slice ad l cap) ∧ (((W.setCell ⟨w.heap.size + 1 + 1, 0, none⟩ x).setCell ⟨w.heap.size + 1 + 1, 1, none⟩ y).setCell ⟨w.heap.size + 1 + 1, 2, none⟩ q).cell? ⟨w.heap.size, 2, none⟩ = some (.slice bd1 m1 bap1) ∧ (((W.setCell ⟨w.heap.size + 1 + 1, 0, none⟩ x).setCell ⟨w.heap.size + 1 + 1, 1, none⟩ y).setCell ⟨w.heap.size + 1 + 1, 2, none⟩ q).cell? ⟨w.heap.size + 1, 1, none⟩ = some (.slice ad2 l2 cap2) := fun W x y q hb hne => by
    obtain ⟨e0, e1, e2, e3⟩ := HSC.out W hb
    refine ⟨?_, ?_, ?_, ?_⟩
    · rw [World.cell?_setCell_far _ _ _ _ (fun e => hne e.symm), World.cell?_setCell_far _ _ _ _ (fun e => hne e.symm), World.cell?_setCell_far _ _ _ _ (fun e => hne e.symm)]; exact e0
    · rw [World.cell?_setCell_far _ _ _ _ (fun e => hne e.symm), World.cell?_setCell_far _ _ _ _ (fun e => hne e.symm), World.cell?_setCell_far _ _ _ _ (fun e => hne e.symm)]; exact e1
    · rw [World.cell?_setCell_far _ _ _ _ (by show w.heap.size + 1 + 1 ≠ w.heap.size; omega), World.cell?_setCell_far _ _ _ _ (by show w.heap.size + 1 + 1 ≠ w.heap.size; omega), World.cell?_setCell_far _ _ _ _ (by show w.heap.size + 1 + 1 ≠ w.heap.size; omega)]; exact e2
    · rw [World.cell?_setCell_far _ _ _ _ (by show w.heap.size + 1 + 1 ≠ w.heap.size + 1; omega), World.cell?_setCell_far _ _ _ _ (by show w.heap.size + 1 + 1 ≠ w.heap.size + 1; omega), World.cell?_setCell_far _ _ _ _ (by show w.heap.size + 1 + 1 ≠ w.heap.size + 1; omega)]; exact e3
  have HSS := Hid.mk' hsetS
  have hne : Bs ≠ w.heap.size + 1 + 1 := by omega
  have hg0 := (HKS.out _ HSB.out.below).2.1
  clear hu hsg hSc hmul hsetS x0 x1
  go_wp2_with fail
  go_region_held3 (fun W => W.cell? ⟨Bs, 0, none⟩ = some (.bool sg) ∧ W.cell? ⟨Bs, 1, none⟩ = some (.slice ad l cap) ∧ W.cell? ⟨w.heap.size, 2, none⟩ = some (.slice bd1 m1 bap1) ∧ W.cell? ⟨w.heap.size + 1, 1, none⟩ = some (.slice ad2 l2 cap2))
    (first | exact HSC.out _ hc0 | exact HSC.out _ hc1 | exact HSC.out _ hc2 | exact HSC.out _ hc3 | exact HSS.out _ _ _ _ hc3 hne)
    (first
      | (go_at_call 39; refine (Lowest_any _ z (d1 * m) (k + k) w6 HRA.out (Nat.mul_pos hd1 hm0) HM.out.1 HM.out.2 (by omega)).mono ?_; rintro e w7 ⟨rv, rfl, ⟨ur, qr, rfl, hur, hqr⟩, hb7⟩; obtain ⟨ad8, l8, cap8, rfl, _⟩ := hur.len; obtain ⟨ad9, l9, cap9, rfl, _⟩ := hqr.len; have hc3 := below_chain hc2 hb7; have hbw7 := below_chain HBC.out hc3; obtain ⟨_, _, ⟨c0, c1, c2⟩, f0, f1, f2⟩ := HNP.out w7 hbw7; have HUR := Hid.mk' hur; have HQR := Hid.mk' hqr; have HBW7 := Hid.mk' hbw7; clear hur hqr hb7 hbw7)
      | (go_at_call 38; refine HMUL.out.mono ?_; rintro e w6 ⟨qv, rfl, hqv, hb6⟩; obtain ⟨bd6, m6, bap6, rfl, _⟩ := hqv.len; have hc2 := below_chain hc1 hb6; have HRA : Hid (RatioAt w6 (.agg #[.bool sg, .slice ad l cap, .slice bd6 m6 bap6]) z (d1 * m)) := ⟨_, _, by rw [HSG.out], HU.out.later hc2, hqv⟩; clear hqv hb6))
  go_wp2_with fail
  refine bodyPost_ret (v := .agg #[.bool (decide (z.tdiv ((Nat.gcd z.natAbs (d1 * m) : Nat) : Int) < 0)), .slice ad8 l8 cap8, .slice ad9 l9 cap9]) (by simp [results, Tryz.results18, go_sem, c0, c1, c2]) rfl ⟨_, rfl, ⟨_, _, rfl, HUR.out.set3 (HN.out.later (by omega) HBW7.out) c0 c1, HQR.out.set3 (HN.out.later (by omega) HBW7.out) c0 c1⟩, below_set3 (below_chain HB.out HBW7.out) (by omega) _ _ _⟩
end Go.Proofs.YtncgpldfenkiiaaGreatDoor

/- The document's order of fractions. -/
namespace Go.Proofs.YtncgpldfenkiiaaGreatDoor
open Go.RowKit

/-- The sign of a difference. -/
def sgnZ (z : Int) : Int := if z = 0 then 0 else if z < 0 then -1 else 1
set_option maxRecDepth 100000 in
set_option maxHeartbeats 4000000 in
theorem SignedCmp_any (v1 v2 : Value) (x y : Int) (k : Nat) (w : World) (h1 : SignedAt w v1 x) (h2 : SignedAt w v2 y) (hx : x.natAbs < 1000000 ^ k) (hy : y.natAbs < 1000000 ^ k) (hk : k ≤ 1000000) :
    Calls Tryz.prog 41 #[v1, v2] w fun e w' => e = .returned (.int .i64 (sgnZ (x - y))) ∧ Below w.heap.size w w' := by
  obtain ⟨u1, rfl, hu1⟩ := h1
  obtain ⟨u2, rfl, hu2⟩ := h2
  obtain ⟨ad1, l1, cap1, rfl, _⟩ := hu1.len
  obtain ⟨ad2, l2, cap2, rfl, _⟩ := hu2.len
  obtain ⟨s1, hs1⟩ : ∃ s, decide (x < 0) = s := ⟨_, rfl⟩
  obtain ⟨s2, hs2⟩ : ∃ s, decide (y < 0) = s := ⟨_, rfl⟩
  rw [hs1, hs2]
  obtain ⟨W0, hW0⟩ : ∃ W0, (w.alloc (.cells #[.bool s1, .slice ad1 l1 cap1] 42)).alloc (.cells #[.bool s2, .slice ad2 l2 cap2] 42) = W0 := ⟨_, rfl⟩
  have hB0 : Below w.heap.size w W0 := by rw [← hW0]; exact below_chain (new_below _ _) (new_below _ _)
  have HKS : Hid (∀ W, Below W0.heap.size W0 W → (W.cell? ⟨w.heap.size, 0, none⟩ = some (.bool s1) ∧ W.cell? ⟨w.heap.size, 1, none⟩ = some (.slice ad1 l1 cap1)) ∧ (W.cell? ⟨w.heap.size + 1, 0, none⟩ = some (.bool s2) ∧ W.cell? ⟨w.heap.size + 1, 1, none⟩ = some (.slice ad2 l2 cap2))) := fun W hb => by
    have a : ∀ j v, (#[Value.bool s1, .slice ad1 l1 cap1] : Array Value)[j]? = some v → W0.cell? ⟨w.heap.size, j, none⟩ = some v := fun j v h => by rw [← hW0, World.cell?_alloc_lt _ _ ⟨w.heap.size, j, none⟩ (by simp), World.cell?_alloc_at _ _ _ _ rfl]; exact h
    have b : ∀ j v, (#[Value.bool s2, .slice ad2 l2 cap2] : Array Value)[j]? = some v → W0.cell? ⟨w.heap.size + 1, j, none⟩ = some v := fun j v h => by rw [← hW0, World.cell?_alloc_at _ _ _ _ (by simp)]; exact h
    exact ⟨⟨by rw [hb.cell (cell_lt (a 0 _ rfl))]; exact a 0 _ rfl, by rw [hb.cell (cell_lt (a 1 _ rfl))]; exact a 1 _ rfl⟩, by rw [hb.cell (cell_lt (b 0 _ rfl))]; exact b 0 _ rfl, by rw [hb.cell (cell_lt (b 1 _ rfl))]; exact b 1 _ rfl⟩
  have HS1 : Hid (∀ W, Below W0.heap.size W0 W → SignedAt W (.agg #[.bool s1, .slice ad1 l1 cap1]) x) := fun W hb => ⟨_, by rw [hs1], (hu1.later hB0).later hb⟩
  have HS2 : Hid (∀ W, Below W0.heap.size W0 W → SignedAt W (.agg #[.bool s2, .slice ad2 l2 cap2]) y) := fun W hb => ⟨_, by rw [hs2], (hu2.later hB0).later hb⟩
  have HW := Hid.mk' hW0
  have HB := Hid.mk' hB0
  have hcur0 : Below W0.heap.size W0 W0 := Below.refl _ _
  have hcur : Below W0.heap.size W0 W0.drew := (Below.refl _ _).drew
  have hcurA : ∀ X, Below W0.heap.size W0 (W0.alloc X).drew := fun X => (new_below _ _).drew
  have HHY : Hid ((-y).natAbs < 1000000 ^ k) := by show _ < _; rw [Int.natAbs_neg]; exact hy
  clear hs1 hs2 hu1 hu2 hB0 hW0
  generalize hz : x + -y = z at *
  have HZ := Hid.mk' hz
  have HZ2 : Hid (sgnZ (x - y) = sgnZ z) := by show _ = _; rw [← hz, Int.sub_eq_add_neg]
  clear hz
  go_enter Tryz.func41, Tryz.ntmps41
  go_wp2_with fail
  rw [HW.out]
  go_cut [5] from 6 (fun s wx => ∃ Bs : Nat, s = .pointer (some ⟨Bs, 0, none⟩) ∧ Hid (SignBox W0 wx Bs z))
  case first =>
    go_region_held3 (fun W => (W.cell? ⟨w.heap.size, 0, none⟩ = some (.bool s1) ∧ W.cell? ⟨w.heap.size, 1, none⟩ = some (.slice ad1 l1 cap1)) ∧ (W.cell? ⟨w.heap.size + 1, 0, none⟩ = some (.bool s2) ∧ W.cell? ⟨w.heap.size + 1, 1, none⟩ = some (.slice ad2 l2 cap2)))
      (first | exact HKS.out _ hcur0 | exact HKS.out _ hcur | exact HKS.out _ (hcurA _) | (refine HKS.out _ ?_; assumption) | (refine HKS.out _ (more_below ?_ _); assumption) | (refine HKS.out _ (setB_below ?_ NB.hB _ _); assumption))
      (first
        | (go_at_call 36; refine (SignedAdd_any _ _ x (-y) k _ (HS1.out _ ?_) (HX1.out _ ?_) hx HHY.out hk).mono ?_; (first | exact hbw1 | exact more_below hbw1 _); (first | exact Below.refl _ _ | exact new_below _ _); rintro e w5 ⟨sv5, rfl, ⟨x5, rfl, hx5⟩, hb5⟩; rw [HZ.out] at hx5 ⊢; obtain ⟨ad7, l7, cap7, rfl, _⟩ := hx5.len; (first | (have hbw5 := below_chain hbw1 hb5; try have NB := NB.later hb5) | (have hbw5 := below_chain (more_below hbw1 _) hb5; have NB := newBox_of hbw1 hb5)); (try (have y0 := NB.c0; have y1 := NB.c1; have y2 := NB.f0; have y3 := NB.f1)); have HX5 := Hid.mk' hx5; clear hx5 hb5)
        | (go_at_call 40; refine (SignedBack_any _ y _ (HS2.out _ ?_)).mono ?_; (first | exact hcur | exact hcurA _); rintro e w1 ⟨sv1, rfl, ⟨x1, rfl, hx1⟩, hb1⟩; obtain ⟨sg1, hsg1⟩ : ∃ sg, decide (-y < 0) = sg := ⟨_, rfl⟩; rw [hsg1]; obtain ⟨ad3, l3, cap3, rfl, _⟩ := hx1.len; (first | have hbw1 := below_chain hcur hb1 | (have hbw1 := below_chain (hcurA _) hb1; have NB := newBox_of hcur0 (below_chain ((Below.refl _ _).drew) hb1))); have HX1 : Hid (∀ W, Below w1.heap.size w1 W → SignedAt W (.agg #[.bool sg1, .slice ad3 l3 cap3]) (-y)) := (fun W hb => ⟨_, by rw [hsg1], hx1.later hb⟩); clear hx1 hb1 hsg1))
    all_goals
      go_wp2_with fail
      go_meet
      first | exact ⟨_, rfl, signBox_late hbw5 HX5.out⟩ | exact ⟨_, rfl, signBox_soon hbw5 HX5.out NB⟩
  case rest =>
  obtain ⟨Bs, rfl, HSB⟩ := hcut
  obtain ⟨u, x0, x1, hu⟩ := HSB.out.box
  obtain ⟨ad, l, cap, rfl, hlz⟩ := hu.len
  have HBF := Hid.mk' (below_chain HB.out HSB.out.below)
  by_cases hz0 : z = 0
  · have hl0 : l = 0 := hlz.2 (by rw [hz0]; rfl)
    subst hl0
    have HE : Hid (sgnZ z = 0) := if_pos hz0
    clear hlz hz0 hu
    go_wp2_with fail
    go_ret
    exact ⟨by rw [HZ2.out, HE.out]; rfl, HBF.out⟩
  · have hl0 : ((l : Int) == 0) = false := by
      have : l ≠ 0 := fun h => hz0 (Int.natAbs_eq_zero.1 (hlz.1 h))
      simp; exact this
    obtain ⟨sg, hsg⟩ : ∃ sg, decide (z < 0) = sg := ⟨_, rfl⟩
    rw [hsg] at x0
    have HE : Hid (sgnZ z = if sg = true then -1 else 1) := by
      show (if z = 0 then 0 else if z < 0 then -1 else 1) = _
      rw [if_neg hz0, ← hsg]
      by_cases h : z < 0
      · rw [if_pos h, decide_eq_true h, if_pos rfl]
      · rw [if_neg h, decide_eq_false h]; rfl
    clear hlz hz0 hu hsg
    cases sg with
    | true =>
      go_wp2_with fail
      go_ret
      exact ⟨by rw [HZ2.out, HE.out]; rfl, HBF.out⟩
    | false =>
      go_wp2_with fail
      go_ret
      exact ⟨by rw [HZ2.out, HE.out]; rfl, HBF.out⟩
set_option maxRecDepth 100000 in
set_option maxHeartbeats 4000000 in
theorem RCmp_any (v1 v2 : Value) (n1 n2 : Int) (d1 d2 k : Nat) (w : World) (h1 : RatioAt w v1 n1 d1) (h2 : RatioAt w v2 n2 d2) (hn1 : n1.natAbs < 1000000 ^ k) (hn2 : n2.natAbs < 1000000 ^ k) (hk1 : d1 < 1000000 ^ k) (hk2 : d2 < 1000000 ^ k) (hk : k + k ≤ 1000000) :
    Calls Tryz.prog 17 #[v1, v2] w fun e w' => e = .returned (.int .i64 (sgnZ (n1 * d2 - n2 * d1))) ∧ Below w.heap.size w w' := by
  obtain ⟨u1, q1, rfl, hu1, hq1⟩ := h1
  obtain ⟨u2, q2, rfl, hu2, hq2⟩ := h2
  obtain ⟨ad1, l1, cap1, rfl, _⟩ := hu1.len
  obtain ⟨bd1, m1, bap1, rfl, _⟩ := hq1.len
  obtain ⟨ad2, l2, cap2, rfl, _⟩ := hu2.len
  obtain ⟨bd2, m2, bap2, rfl, _⟩ := hq2.len
  obtain ⟨s1, hs1⟩ : ∃ s, decide (n1 < 0) = s := ⟨_, rfl⟩
  obtain ⟨s2, hs2⟩ : ∃ s, decide (n2 < 0) = s := ⟨_, rfl⟩
  rw [hs1, hs2]
  obtain ⟨W0, hW0⟩ : ∃ W0, (w.alloc (.cells #[.bool s1, .slice ad1 l1 cap1, .slice bd1 m1 bap1] 44)).alloc (.cells #[.bool s2, .slice ad2 l2 cap2, .slice bd2 m2 bap2] 44) = W0 := ⟨_, rfl⟩
  have hB0 : Below w.heap.size w W0 := by rw [← hW0]; exact below_chain (new_below _ _) (new_below _ _)
  have HKS : Hid (∀ W, Below W0.heap.size W0 W → (W.cell? ⟨w.heap.size, 0, none⟩ = some (.bool s1) ∧ W.cell? ⟨w.heap.size, 1, none⟩ = some (.slice ad1 l1 cap1) ∧ W.cell? ⟨w.heap.size, 2, none⟩ = some (.slice bd1 m1 bap1)) ∧ (W.cell? ⟨w.heap.size + 1, 0, none⟩ = some (.bool s2) ∧ W.cell? ⟨w.heap.size + 1, 1, none⟩ = some (.slice ad2 l2 cap2) ∧ W.cell? ⟨w.heap.size + 1, 2, none⟩ = some (.slice bd2 m2 bap2))) := fun W hb => by
    have a : ∀ j v, (#[Value.bool s1, .slice ad1 l1 cap1, .slice bd1 m1 bap1] : Array Value)[j]? = some v → W0.cell? ⟨w.heap.size, j, none⟩ = some v := fun j v h => by rw [← hW0, World.cell?_alloc_lt _ _ ⟨w.heap.size, j, none⟩ (by simp), World.cell?_alloc_at _ _ _ _ rfl]; exact h
    have b : ∀ j v, (#[Value.bool s2, .slice ad2 l2 cap2, .slice bd2 m2 bap2] : Array Value)[j]? = some v → W0.cell? ⟨w.heap.size + 1, j, none⟩ = some v := fun j v h => by rw [← hW0, World.cell?_alloc_at _ _ _ _ (by simp)]; exact h
    exact ⟨⟨by rw [hb.cell (cell_lt (a 0 _ rfl))]; exact a 0 _ rfl, by rw [hb.cell (cell_lt (a 1 _ rfl))]; exact a 1 _ rfl, by rw [hb.cell (cell_lt (a 2 _ rfl))]; exact a 2 _ rfl⟩, by rw [hb.cell (cell_lt (b 0 _ rfl))]; exact b 0 _ rfl, by rw [hb.cell (cell_lt (b 1 _ rfl))]; exact b 1 _ rfl, by rw [hb.cell (cell_lt (b 2 _ rfl))]; exact b 2 _ rfl⟩
  have HS1 : Hid (∀ W, Below W0.heap.size W0 W → SignedAt W (.agg #[.bool s1, .slice ad1 l1 cap1]) n1) := fun W hb => ⟨_, by rw [hs1], (hu1.later hB0).later hb⟩
  have HS2 : Hid (∀ W, Below W0.heap.size W0 W → SignedAt W (.agg #[.bool s2, .slice ad2 l2 cap2]) n2) := fun W hb => ⟨_, by rw [hs2], (hu2.later hB0).later hb⟩
  have HD1 : Hid (∀ W, Below W0.heap.size W0 W → BigAt W (.slice bd1 m1 bap1) d1) := fun W hb => (hq1.later hB0).later hb
  have HD2 : Hid (∀ W, Below W0.heap.size W0 W → BigAt W (.slice bd2 m2 bap2) d2) := fun W hb => (hq2.later hB0).later hb
  have hm1 : (n1 * (d2 : Int)).natAbs < 1000000 ^ (k + k) := by rw [Int.natAbs_mul, Int.natAbs_natCast, Nat.pow_add]; exact Nat.mul_lt_mul'' hn1 hk2
  have hm2 : (n2 * (d1 : Int)).natAbs < 1000000 ^ (k + k) := by rw [Int.natAbs_mul, Int.natAbs_natCast, Nat.pow_add]; exact Nat.mul_lt_mul'' hn2 hk1
  have HM := Hid.mk' (And.intro hm1 hm2)
  have HBD : Hid (n1.natAbs < 1000000 ^ k ∧ (d2 : Int).natAbs < 1000000 ^ k ∧ n2.natAbs < 1000000 ^ k ∧ (d1 : Int).natAbs < 1000000 ^ k) := ⟨hn1, by rw [Int.natAbs_natCast]; exact hk2, hn2, by rw [Int.natAbs_natCast]; exact hk1⟩
  have HW := Hid.mk' hW0
  have HB := Hid.mk' hB0
  have hcur0 : Below W0.heap.size W0 W0 := Below.refl _ _
  have hcur : Below W0.heap.size W0 W0.drew := (Below.refl _ _).drew
  have hdn1 : ¬ (d1 : Int) < 0 := by omega
  have hdn2 : ¬ (d2 : Int) < 0 := by omega
  have HDE : Hid (decide ((d1 : Int) < 0) = false ∧ decide ((d2 : Int) < 0) = false) := ⟨decide_eq_false hdn1, decide_eq_false hdn2⟩
  clear hs1 hs2 hu1 hu2 hq1 hq2 hB0 hW0 hn1 hn2 hk1 hk2 hm1 hm2 hdn1 hdn2
  go_enter Tryz.func17, Tryz.ntmps17
  go_wp2_with fail
  rw [HW.out]
  go_region_held3 (fun W => (W.cell? ⟨w.heap.size, 0, none⟩ = some (.bool s1) ∧ W.cell? ⟨w.heap.size, 1, none⟩ = some (.slice ad1 l1 cap1) ∧ W.cell? ⟨w.heap.size, 2, none⟩ = some (.slice bd1 m1 bap1)) ∧ (W.cell? ⟨w.heap.size + 1, 0, none⟩ = some (.bool s2) ∧ W.cell? ⟨w.heap.size + 1, 1, none⟩ = some (.slice ad2 l2 cap2) ∧ W.cell? ⟨w.heap.size + 1, 2, none⟩ = some (.slice bd2 m2 bap2)))
    (first | exact HKS.out _ hcur0 | exact HKS.out _ hcur | (refine HKS.out _ ?_; assumption))
    (first
      | (go_at_call 41; refine (SignedCmp_any _ _ (n1 * (d2 : Int)) (n2 * (d1 : Int)) (k + k) _ (HX2.out _ h24) (HX4.out _ (Below.refl _ _)) HM.out.1 HM.out.2 hk).mono ?_; rintro e w5 ⟨rfl, hb5⟩; have hbw5 := below_chain hbw4 hb5; clear hb5)
      | (go_at_call 37; refine (SignedMul_any _ _ n2 (d1 : Int) k _ (HS2.out _ hbw3) (HX3.out _ (Below.refl _ _)) HBD.out.2.2.1 HBD.out.2.2.2 (by omega)).mono ?_; rintro e w4 ⟨sv4, rfl, ⟨x4, rfl, hx4⟩, hb4⟩; obtain ⟨sg4, hsg4⟩ : ∃ sg, decide (n2 * (d1 : Int) < 0) = sg := ⟨_, rfl⟩; rw [hsg4]; obtain ⟨ad6, l6, cap6, rfl, _⟩ := hx4.len; have hbw4 := below_chain hbw3 hb4; have h24 := below_chain h23 hb4; have HX4 : Hid (∀ W, Below w4.heap.size w4 W → SignedAt W (.agg #[.bool sg4, .slice ad6 l6 cap6]) (n2 * (d1 : Int))) := (fun W hb => ⟨_, by rw [hsg4], hx4.later hb⟩); clear hx4 hb4 hsg4)
      | (go_at_call 42; refine (wide_any (.slice bd1 m1 bap1) d1 _ (HD1.out _ hbw2)).mono ?_; rintro e w3 ⟨sv3, rfl, ⟨x3, rfl, hx3⟩, hb3⟩; rw [HDE.out.1]; obtain ⟨ad5, l5, cap5, rfl, _⟩ := hx3.len; have hbw3 := below_chain hbw2 hb3; have h23 := below_chain (Below.refl _ w2) hb3; have HX3 : Hid (∀ W, Below w3.heap.size w3 W → SignedAt W (.agg #[.bool false, .slice ad5 l5 cap5]) (d1 : Int)) := (fun W hb => ⟨_, by rw [HDE.out.1], hx3.later hb⟩); clear hx3 hb3)
      | (go_at_call 37; refine (SignedMul_any _ _ n1 (d2 : Int) k _ (HS1.out _ hbw1) (HX1.out _ (Below.refl _ _)) HBD.out.1 HBD.out.2.1 (by omega)).mono ?_; rintro e w2 ⟨sv2, rfl, ⟨x2, rfl, hx2⟩, hb2⟩; obtain ⟨sg2, hsg2⟩ : ∃ sg, decide (n1 * (d2 : Int) < 0) = sg := ⟨_, rfl⟩; rw [hsg2]; obtain ⟨ad4, l4, cap4, rfl, _⟩ := hx2.len; have hbw2 := below_chain hbw1 hb2; have HX2 : Hid (∀ W, Below w2.heap.size w2 W → SignedAt W (.agg #[.bool sg2, .slice ad4 l4 cap4]) (n1 * (d2 : Int))) := (fun W hb => ⟨_, by rw [hsg2], hx2.later hb⟩); clear hx2 hb2 hsg2)
      | (go_at_call 42; refine (wide_any (.slice bd2 m2 bap2) d2 _ (HD2.out _ hcur)).mono ?_; rintro e w1 ⟨sv1, rfl, ⟨x1, rfl, hx1⟩, hb1⟩; rw [HDE.out.2]; obtain ⟨ad3, l3, cap3, rfl, _⟩ := hx1.len; have hbw1 := below_chain hcur hb1; have HX1 : Hid (∀ W, Below w1.heap.size w1 W → SignedAt W (.agg #[.bool false, .slice ad3 l3 cap3]) (d2 : Int)) := (fun W hb => ⟨_, by rw [HDE.out.2], hx1.later hb⟩); clear hx1 hb1))
  go_wp2_with fail
  go_ret
  exact ⟨rfl, below_chain HB.out hbw5⟩
/-- Which of two fractions is the less. -/
theorem sgnZ_neg (z : Int) : sgnZ z < 0 ↔ z < 0 := by
  unfold sgnZ
  split
  · omega
  · split <;> omega
end Go.Proofs.YtncgpldfenkiiaaGreatDoor

/- Fractions that are one together: the least whole numbers that have their ratios. -/
namespace Go.Proofs.YtncgpldfenkiiaaGreatDoor

def lcmP (l : List (Nat × Nat)) : Nat := l.foldl (fun a p => Nat.lcm a p.2) 1
def wholeP (L : Nat) (p : Nat × Nat) : Nat := p.1 * (L / p.2)
def gcdP (L : Nat) (l : List (Nat × Nat)) : Nat := l.foldl (fun g p => Nat.gcd g (wholeP L p)) 0
def LowP (p : Nat × Nat) : Prop := 0 < p.2 ∧ Nat.gcd p.1 p.2 = 1

theorem lcmP_snoc (l : List (Nat × Nat)) (p : Nat × Nat) : lcmP (l ++ [p]) = Nat.lcm (lcmP l) p.2 := by simp [lcmP]
theorem gcdP_snoc (L : Nat) (l : List (Nat × Nat)) (p : Nat × Nat) : gcdP L (l ++ [p]) = Nat.gcd (gcdP L l) (wholeP L p) := by simp [gcdP]
theorem take_snocP {l : List (Nat × Nat)} {k : Nat} {p : Nat × Nat} (h : l[k]? = some p) : l.take (k + 1) = l.take k ++ [p] := by
  rw [List.take_add_one, h]; rfl
theorem lcmP_take {l : List (Nat × Nat)} {k : Nat} {p : Nat × Nat} (h : l[k]? = some p) : lcmP (l.take (k + 1)) = Nat.lcm (lcmP (l.take k)) p.2 := by
  rw [take_snocP h, lcmP_snoc]
theorem gcdP_take {L : Nat} {l : List (Nat × Nat)} {k : Nat} {p : Nat × Nat} (h : l[k]? = some p) : gcdP L (l.take (k + 1)) = Nat.gcd (gcdP L (l.take k)) (wholeP L p) := by
  rw [take_snocP h, gcdP_snoc]
theorem snoc_ind {P : List (Nat × Nat) → Prop} (h0 : P []) (h1 : ∀ l p, P l → P (l ++ [p])) (l : List (Nat × Nat)) : P l := by
  have h : ∀ n, ∀ l : List (Nat × Nat), l.length = n → P l := by
    intro n
    induction n with
    | zero => intro l hl; rw [List.length_eq_zero_iff.mp hl]; exact h0
    | succ n ih =>
      intro l hl
      have hne : l ≠ [] := fun e => by rw [e] at hl; simp at hl
      rw [← List.dropLast_concat_getLast hne]
      exact h1 _ _ (ih _ (by simp; omega))
  exact h _ l rfl
theorem lcmP_pos (l : List (Nat × Nat)) : (∀ p, p ∈ l → 0 < p.2) → 0 < lcmP l := by
  refine snoc_ind (P := fun l => (∀ p, p ∈ l → 0 < p.2) → 0 < lcmP l) ?_ ?_ l
  · intro _; simp [lcmP]
  · intro l p ih h
    rw [lcmP_snoc]
    exact Nat.lcm_pos (ih fun q hq => h q (by simp [hq])) (h p (by simp))
theorem lcmP_dvd (l : List (Nat × Nat)) : ∀ p, p ∈ l → p.2 ∣ lcmP l := by
  refine snoc_ind (P := fun l => ∀ p, p ∈ l → p.2 ∣ lcmP l) ?_ ?_ l
  · intro p hp; simp at hp
  · intro l q ih p hp
    rw [lcmP_snoc]
    rcases List.mem_append.mp hp with h | h
    · exact Nat.dvd_trans (ih p h) (Nat.dvd_lcm_left _ _)
    · rw [List.mem_singleton.mp h]; exact Nat.dvd_lcm_right _ _
theorem lcmP_least (M : Nat) (l : List (Nat × Nat)) : (∀ p, p ∈ l → p.2 ∣ M) → lcmP l ∣ M := by
  refine snoc_ind (P := fun l => (∀ p, p ∈ l → p.2 ∣ M) → lcmP l ∣ M) ?_ ?_ l
  · intro _; simp [lcmP]
  · intro l q ih h
    rw [lcmP_snoc]
    exact Nat.lcm_dvd (ih fun p hp => h p (by simp [hp])) (h q (by simp))
theorem gcdP_dvd (L : Nat) (l : List (Nat × Nat)) : ∀ p, p ∈ l → gcdP L l ∣ wholeP L p := by
  refine snoc_ind (P := fun l => ∀ p, p ∈ l → gcdP L l ∣ wholeP L p) ?_ ?_ l
  · intro p hp; simp at hp
  · intro l q ih p hp
    rw [gcdP_snoc]
    rcases List.mem_append.mp hp with h | h
    · exact Nat.dvd_trans (Nat.gcd_dvd_left _ _) (ih p h)
    · rw [List.mem_singleton.mp h]; exact Nat.gcd_dvd_right _ _
def sumP (L : Nat) (l : List (Nat × Nat)) : Nat := (l.map (wholeP L)).sum
theorem dvd_sumP {g L : Nat} (l : List (Nat × Nat)) (h : ∀ p, p ∈ l → g ∣ wholeP L p) : g ∣ sumP L l := by
  induction l with
  | nil => simp [sumP]
  | cons p l ih =>
    have : sumP L (p :: l) = wholeP L p + sumP L l := by simp [sumP]
    rw [this]
    exact Nat.dvd_add (h p (by simp)) (ih fun q hq => h q (by simp [hq]))
theorem gcdP_one (l : List (Nat × Nat)) (hl : ∀ p, p ∈ l → LowP p) (hs : sumP (lcmP l) l = lcmP l) : gcdP (lcmP l) l = 1 := by
  have hL := lcmP_pos l fun p hp => (hl p hp).1
  have hg := gcdP_dvd (lcmP l) l
  have hgs := dvd_sumP l hg
  rw [hs] at hgs
  obtain ⟨M, hM⟩ := hgs
  have hdM : lcmP l ∣ M := by
    refine lcmP_least M l fun p hp => ?_
    obtain ⟨e, he⟩ := lcmP_dvd l p hp
    obtain ⟨t, ht⟩ := hg p hp
    have hp2 := (hl p hp).1
    have hw : wholeP (lcmP l) p = p.1 * e := by unfold wholeP; rw [he, Nat.mul_div_cancel_left _ hp2]
    rw [hw] at ht
    have hgp : 0 < gcdP (lcmP l) l := by
      rcases Nat.eq_zero_or_pos (gcdP (lcmP l) l) with h | h
      · rw [h, Nat.zero_mul] at hM; omega
      · exact h
    have h3 : gcdP (lcmP l) l * (p.1 * M) = gcdP (lcmP l) l * (p.2 * t) := by
      calc gcdP (lcmP l) l * (p.1 * M) = p.1 * (gcdP (lcmP l) l * M) := by rw [Nat.mul_left_comm]
        _ = p.1 * (p.2 * e) := by rw [← hM, he]
        _ = p.2 * (p.1 * e) := by rw [Nat.mul_left_comm]
        _ = p.2 * (gcdP (lcmP l) l * t) := by rw [ht]
        _ = gcdP (lcmP l) l * (p.2 * t) := by rw [Nat.mul_left_comm]
    have h4 := Nat.eq_of_mul_eq_mul_left hgp h3
    have hc : Nat.Coprime p.2 p.1 := by rw [Nat.Coprime, Nat.gcd_comm]; exact (hl p hp).2
    exact hc.dvd_of_dvd_mul_left ⟨t, h4⟩
  have hMp : 0 < M := by
    rcases Nat.eq_zero_or_pos M with h | h
    · rw [h, Nat.mul_zero] at hM; omega
    · exact h
  have hle := Nat.le_of_dvd hMp hdM
  generalize gcdP (lcmP l) l = g at hM
  generalize lcmP l = L at *
  rcases g with _ | _ | g
  · simp at hM; omega
  · rfl
  · have : 2 * M ≤ (g + 1 + 1) * M := Nat.mul_le_mul_right _ (by omega)
    omega

/-- rows of a table, one behind the other -/
def flatF (n : Nat) (f : Nat → Nat → Nat × Nat) : Nat → List (Nat × Nat)
  | 0 => []
  | i + 1 => flatF n f i ++ (List.range n).map (f i)
theorem flatF_length (n : Nat) (f : Nat → Nat → Nat × Nat) : ∀ R, (flatF n f R).length = R * n
  | 0 => by simp [flatF]
  | R + 1 => by rw [flatF, List.length_append, flatF_length n f R, Nat.succ_mul]; simp
theorem flatF_get {n : Nat} {f : Nat → Nat → Nat × Nat} : ∀ {R i k : Nat}, i < R → k < n → (flatF n f R)[i * n + k]? = some (f i k)
  | R + 1, i, k, hi, hk => by
    rw [flatF]
    rcases Nat.lt_or_ge i R with h | h
    · rw [List.getElem?_append_left (by rw [flatF_length]; have : (i + 1) * n ≤ R * n := Nat.mul_le_mul_right _ h; rw [Nat.succ_mul] at this; omega)]
      exact flatF_get h hk
    · obtain rfl : i = R := by omega
      rw [List.getElem?_append_right (by rw [flatF_length]; omega), flatF_length]
      rw [show i * n + k - i * n = k by omega]
      simp [hk]
theorem flatF_mem {n : Nat} {f : Nat → Nat → Nat × Nat} {p : Nat × Nat} : ∀ {R : Nat}, p ∈ flatF n f R → ∃ i k, i < R ∧ k < n ∧ p = f i k
  | 0, h => by simp [flatF] at h
  | R + 1, h => by
    rw [flatF] at h
    rcases List.mem_append.mp h with h | h
    · obtain ⟨i, k, hi, hk, e⟩ := flatF_mem h
      exact ⟨i, k, by omega, hk, e⟩
    · obtain ⟨k, hk, rfl⟩ := List.mem_map.mp h
      exact ⟨R, k, by omega, List.mem_range.mp hk, rfl⟩

/-- a fraction in its lowest terms -/
def lowP (a b : Nat) : Nat × Nat := (a / Nat.gcd a b, b / Nat.gcd a b)
theorem lowP_low {a b : Nat} (hb : 0 < b) : LowP (lowP a b) := by
  have hg : 0 < Nat.gcd a b := Nat.gcd_pos_of_pos_right _ hb
  exact ⟨Nat.div_pos (Nat.le_of_dvd hb (Nat.gcd_dvd_right _ _)) hg, (by show Nat.gcd (a / Nat.gcd a b) (b / Nat.gcd a b) = 1; rw [Nat.gcd_div (Nat.gcd_dvd_left a b) (Nat.gcd_dvd_right a b)]; exact Nat.div_self hg)⟩
theorem lowP_cross (a b : Nat) : (lowP a b).1 * b = a * (lowP a b).2 := by
  obtain ⟨x, hx⟩ := Nat.gcd_dvd_left a b
  obtain ⟨y, hy⟩ := Nat.gcd_dvd_right a b
  show a / Nat.gcd a b * b = a * (b / Nat.gcd a b)
  rw [Nat.mul_comm (a / Nat.gcd a b) b, ← Nat.mul_div_assoc _ (Nat.gcd_dvd_left a b), ← Nat.mul_div_assoc _ (Nat.gcd_dvd_right a b), Nat.mul_comm]
theorem lowP_scale {a b c : Nat} (hc : 0 < c) : lowP (c * a) (c * b) = lowP a b := by
  unfold lowP
  rw [Nat.gcd_mul_left, Nat.mul_div_mul_left _ _ hc, Nat.mul_div_mul_left _ _ hc]
/-- a product of two fractions in their lowest terms, made lowest -/
theorem lowP_times {a b c d : Nat} (hb : 0 < b) (hd : 0 < d) : lowP ((lowP a b).1 * (lowP c d).1) ((lowP a b).2 * (lowP c d).2) = lowP (a * c) (b * d) := by
  have h1 : 0 < Nat.gcd a b := Nat.gcd_pos_of_pos_right _ hb
  have h2 : 0 < Nat.gcd c d := Nat.gcd_pos_of_pos_right _ hd
  rw [← lowP_scale (c := Nat.gcd a b * Nat.gcd c d) (Nat.mul_pos h1 h2)]
  have e1 : Nat.gcd a b * (a / Nat.gcd a b) = a := Nat.mul_div_cancel' (Nat.gcd_dvd_left a b)
  have e2 : Nat.gcd a b * (b / Nat.gcd a b) = b := Nat.mul_div_cancel' (Nat.gcd_dvd_right a b)
  have e3 : Nat.gcd c d * (c / Nat.gcd c d) = c := Nat.mul_div_cancel' (Nat.gcd_dvd_left c d)
  have e4 : Nat.gcd c d * (d / Nat.gcd c d) = d := Nat.mul_div_cancel' (Nat.gcd_dvd_right c d)
  congr 1
  · show Nat.gcd a b * Nat.gcd c d * (a / Nat.gcd a b * (c / Nat.gcd c d)) = a * c
    rw [Nat.mul_mul_mul_comm, e1, e3]
  · show Nat.gcd a b * Nat.gcd c d * (b / Nat.gcd a b * (d / Nat.gcd c d)) = b * d
    rw [Nat.mul_mul_mul_comm, e2, e4]

def sumW (f : Nat → Nat) : Nat → Nat
  | 0 => 0
  | k + 1 => sumW f k + f k
theorem sumW_map (f : Nat → Nat) : ∀ n, ((List.range n).map f).sum = sumW f n
  | 0 => by simp [sumW]
  | n + 1 => by rw [List.range_succ, List.map_append, List.sum_append, sumW_map f n]; simp [sumW]
theorem sumW_mul (f : Nat → Nat) (c : Nat) : ∀ n, sumW (fun k => f k * c) n = sumW f n * c
  | 0 => by simp [sumW]
  | n + 1 => by simp only [sumW, sumW_mul f c n, Nat.add_mul]
theorem sumW_congr {f g : Nat → Nat} : ∀ {n : Nat}, (∀ i, i < n → f i = g i) → sumW f n = sumW g n
  | 0, _ => rfl
  | n + 1, h => by simp only [sumW]; rw [sumW_congr fun i hi => h i (by omega), h n (by omega)]
theorem sumP_flat (L n : Nat) (f : Nat → Nat → Nat × Nat) : ∀ R, sumP L (flatF n f R) = sumW (fun i => sumW (fun k => wholeP L (f i k)) n) R
  | 0 => by simp [sumP, flatF, sumW]
  | R + 1 => by
    have h := sumP_flat L n f R
    have e : sumP L (flatF n f (R + 1)) = sumP L (flatF n f R) + sumP L ((List.range n).map (f R)) := by simp [sumP, flatF]
    rw [e, h]
    have e2 : sumP L ((List.range n).map (f R)) = sumW (fun k => wholeP L (f R k)) n := by
      rw [← sumW_map]; simp [sumP, List.map_map]; rfl
    rw [e2]; rfl
/-- the chances of what goes in and comes out -/
def chaF (p : Nat → Nat) (S : Nat) (c : Nat → Nat → Nat) (T : Nat → Nat) (i k : Nat) : Nat × Nat := lowP (c i k * p i) (S * T i)
theorem chaF_sum {p : Nat → Nat} {S : Nat} {c : Nat → Nat → Nat} {T : Nat → Nat} {n R : Nat} (hS : S = sumW p R) (hS0 : 0 < S) (hT : ∀ i, i < R → T i = sumW (c i) n ∧ 0 < T i) :
    sumP (lcmP (flatF n (chaF p S c T) R)) (flatF n (chaF p S c T) R) = lcmP (flatF n (chaF p S c T) R) := by
  have hd : ∀ i k, i < R → k < n → (chaF p S c T i k).2 ∣ lcmP (flatF n (chaF p S c T) R) := fun i k hi hk => lcmP_dvd _ _ (List.mem_of_getElem? (flatF_get hi hk))
  generalize lcmP (flatF n (chaF p S c T) R) = L at *
  rw [sumP_flat]
  have h1 : ∀ i, i < R → sumW (fun k => wholeP L (chaF p S c T i k)) n * S = p i * L := by
    intro i hi
    obtain ⟨e, h0⟩ := hT i hi
    refine Nat.eq_of_mul_eq_mul_right h0 ?_
    rw [Nat.mul_assoc, ← sumW_mul]
    have h2 : sumW (fun k => wholeP L (chaF p S c T i k) * (S * T i)) n = sumW (fun k => c i k * (p i * L)) n := by
      refine sumW_congr fun k hk => ?_
      show wholeP L (chaF p S c T i k) * (S * T i) = c i k * (p i * L)
      obtain ⟨e, he⟩ := hd i k hi hk
      have hp : 0 < (chaF p S c T i k).2 := (lowP_low (Nat.mul_pos hS0 h0)).1
      have hx : (chaF p S c T i k).1 * (S * T i) = c i k * p i * (chaF p S c T i k).2 := lowP_cross _ _
      unfold wholeP
      rw [he, Nat.mul_div_cancel_left _ hp, Nat.mul_right_comm, hx, ← Nat.mul_assoc, Nat.mul_assoc, Nat.mul_assoc]
    rw [h2, sumW_mul, e, Nat.mul_comm]
  refine Nat.eq_of_mul_eq_mul_right hS0 ?_
  rw [← sumW_mul, sumW_congr h1, sumW_mul, ← hS, Nat.mul_comm]
theorem chaF_gcd {p : Nat → Nat} {S : Nat} {c : Nat → Nat → Nat} {T : Nat → Nat} {n R : Nat} (hS : S = sumW p R) (hS0 : 0 < S) (hT : ∀ i, i < R → T i = sumW (c i) n ∧ 0 < T i) :
    gcdP (lcmP (flatF n (chaF p S c T) R)) (flatF n (chaF p S c T) R) = 1 := by
  refine gcdP_one _ (fun q hq => ?_) (chaF_sum hS hS0 hT)
  obtain ⟨i, k, hi, hk, rfl⟩ := flatF_mem hq
  exact lowP_low (Nat.mul_pos hS0 (hT i hi).2)
end Go.Proofs.YtncgpldfenkiiaaGreatDoor

/- The law's copies of lists. -/
namespace Go.Proofs.YtncgpldfenkiiaaGreatDoor
open Go.RowKit

theorem append_zeroI (w : World) (ty : TypeId) (ad : Option Addr) (cap : Nat) : (Builtin.append_ #[22, 22] ty #[.slice none 0 0, .slice ad 0 cap]).run Tryz.prog w = .ok (.slice none 0 0) w := by
  obtain ⟨i, hi, hi2⟩ := Option.map_eq_some_iff.1 Tryz.infoInt
  refine run_append_nothing w _ _ ty 3 i Tryz.underlying22 hi none 0 0 (Nat.le_refl _) _ ?_
  cases ad with
  | none => exact Src.ofNil w Tryz.underlying22 cap
  | some a => exact Src.ofSlice w Tryz.underlying22 a 0 cap [] (by simp) (fun j u h => by simp at h) (fun u h => by simp at h)
theorem wpList_append_zeroI {w : World} {ops : Array Oper} {rest : List Oper} {o : Oper} {a : Act} {Q : Exit → Act → World → Prop} (hgd : o.guard = none) (s x : Operand)
    (ho : o.op = .call { callee := .builtin .append, args := #[s, x], argTypes := #[22, 22] })
    (ad : Option Addr) (cap : Nat) (hs : a.eval s = .slice none 0 0) (hx : a.eval x = .slice ad 0 cap)
    (h : wpList Tryz.prog ops Q rest (a.put o.dst (.slice none 0 0)) w) : wpList Tryz.prog ops Q (o :: rest) a w := by
  refine wpList_plain hgd fun K hK => ?_
  have hrun := append_zeroI w o.type ad cap
  unfold Oper.wp
  simp [execOp, ho, resolve, invoke, builtin, hs, hx, hrun, Result.andThen]
  exact hK _ _ h

theorem numsAt_own {w : World} {base : Nat} {v : Value} {n : Nat} {z : Nat → Int} (h : w.ownsRow base 3 1 v n (numCells z n)) : NumsAt w v n z := by
  rcases h.2 with ⟨hv, h0⟩ | ⟨g, cap, cur, hv, _⟩
  · exact Or.inl ⟨none, 0, hv, h0⟩
  · rcases Nat.eq_zero_or_pos n with h0 | h0
    · exact Or.inl ⟨_, _, by rw [hv, h0], h0⟩
    · subst hv
      exact Or.inr ⟨g, 0, cap, rfl, h0, rowAt_of_row h⟩
set_option maxRecDepth 100000 in
set_option maxHeartbeats 1000000 in
theorem ints_row (v : Value) (n : Nat) (z : Nat → Int) (w : World) (h : NumsAt w v n z) (hn : n ≤ 100000) :
    Calls Tryz.prog 9 #[v] w fun e w' => ∃ v', e = .returned v' ∧ w'.ownsRow w.heap.size 3 1 v' n (numCells z n) ∧ Below w.heap.size w w' := by
  rcases h with ⟨ad, cap, rfl, rfl⟩ | ⟨b, o, cap, rfl, h0, hr⟩
  · go_enter Tryz.func9, Tryz.ntmps9
    go_wp2_with (at_builtin; go_must (refine wpList_append_zeroI rfl _ _ rfl ad cap rfl rfl ?_))
    go_ret
    exact ⟨_, rfl, ⟨rfl, Or.inl ⟨rfl, rfl⟩⟩, Below.refl _ _⟩
  · obtain ⟨i, hi, hi2⟩ := Option.map_eq_some_iff.1 Tryz.infoInt
    obtain ⟨hz, hsz, hby⟩ : i.zero = some (.int .i64 0) ∧ i.size = 1 ∧ i.bytes = 8 := by simpa using hi2
    have HR := Hid.mk' hr
    have HI : Hid (Tryz.prog.info? 3 = some i) := hi
    have HZ : Hid (i.zero = some (.int .i64 0)) := hz
    have HS : Hid (i.size = 1) := hsz
    have HY : Hid (i.bytes = 8) := hby
    have HC : Hid (∀ u, u ∈ numCells z n → u.oneCell' = true) := fun u hu => by obtain ⟨x, rfl⟩ := numCells_ints z n u hu; rfl
    have HL : Hid ((numCells z n).length = n * 1) := by show _ = _; rw [numCells_length, Nat.mul_one]
    clear hr hi2 hi hz hsz hby
    go_enter Tryz.func9, Tryz.ntmps9
    go_wp2_with (at_builtin; go_must (refine wpList_append_lies _ rfl _ _ _ rfl w.heap.size 3 i _ 1 8 Tryz.underlying22 HI.out HZ.out HS.out HY.out rfl (by omega) (.slice none 0 0) 0 [] rfl ⟨rfl, Or.inl ⟨rfl, rfl⟩⟩ ⟨b, o, none⟩ n cap (numCells z n) rfl HL.out (fun j u hu => numCells_news HR.out j u hu) HC.out h0 (by unfold maxLen; omega) (by omega) (by simp) _ rfl ?_; intro g cap' w1 hown hgrow hat hlt; have HOWN := Hid.mk' hown; have HG := Hid.mk' hgrow; clear hown hgrow hat))
    go_ret
    exact ⟨_, rfl, by simpa using HOWN.out, (Below.refl _ _).grown HG.out (Nat.le_refl _) (fun k hk => by cases hk)⟩
theorem ints_any (v : Value) (n : Nat) (z : Nat → Int) (w : World) (h : NumsAt w v n z) (hn : n ≤ 100000) :
    Calls Tryz.prog 9 #[v] w fun e w' => ∃ v', e = .returned v' ∧ NumsAt w' v' n z ∧ Below w.heap.size w w' := by
  refine (ints_row v n z w h hn).mono ?_
  rintro e w' ⟨v', rfl, h1, h2⟩
  exact ⟨v', rfl, numsAt_own h1, h2⟩
end Go.Proofs.YtncgpldfenkiiaaGreatDoor

/- Nothing is laid here: this translation has none of the functions that these contracts speak of. -/

/- Tables in memory; all of a table's weights as one list. -/
namespace Go.Proofs.YtncgpldfenkiiaaGreatDoor
open Go.RowKit

def TabAt (w : World) (v : Value) (R : Nat) (vs : Nat → Value) (ns : Nat → Nat) (zs : Nat → Nat → Int) : Prop := (∃ ad cap, v = .slice ad 0 cap ∧ R = 0) ∨ ∃ b o cap, v = .slice (some ⟨b, o, none⟩) R cap ∧ 0 < R ∧ ∀ i, i < R → w.cell? ⟨b, o + i, none⟩ = some (vs i) ∧ NumsAt w (vs i) (ns i) (zs i)
theorem TabAt.later {w w' : World} {v : Value} {R : Nat} {vs : Nat → Value} {ns : Nat → Nat} {zs : Nat → Nat → Int} (h : TabAt w v R vs ns zs) (hb : Below w.heap.size w w') : TabAt w' v R vs ns zs := by
  rcases h with h | ⟨b, o, cap, hv, hn, hr⟩
  · exact Or.inl h
  · exact Or.inr ⟨b, o, cap, hv, hn, fun i hi => ⟨by rw [hb.cell (cell_lt (hr i hi).1)]; exact (hr i hi).1, (hr i hi).2.later hb⟩⟩
theorem TabAt.form {w : World} {v : Value} {R : Nat} {vs : Nat → Value} {ns : Nat → Nat} {zs : Nat → Nat → Int} (h : TabAt w v R vs ns zs) : ∃ ad cap, v = .slice ad R cap := by
  rcases h with ⟨ad, cap, rfl, rfl⟩ | ⟨b, o, cap, rfl, _⟩
  · exact ⟨_, _, rfl⟩
  · exact ⟨_, _, rfl⟩
def rowL (z : Nat → Int) (n : Nat) : List Int := (List.range n).map z
/-- All weights of the first k rows. -/
def flatL (ns : Nat → Nat) (zs : Nat → Nat → Int) : Nat → List Int
  | 0 => []
  | k + 1 => flatL ns zs k ++ rowL (zs k) (ns k)
def cellL (l : List Int) : List Value := l.map fun x => .int .i64 x
theorem cellL_length (l : List Int) : (cellL l).length = l.length := by simp [cellL]
theorem cellL_append (l r : List Int) : cellL (l ++ r) = cellL l ++ cellL r := by simp [cellL]
theorem rowL_length (z : Nat → Int) (n : Nat) : (rowL z n).length = n := by simp [rowL]
theorem cellL_row (z : Nat → Int) : ∀ n, cellL (rowL z n) = numCells z n
  | 0 => rfl
  | n + 1 => by
    have ih := cellL_row z n
    unfold cellL rowL at ih ⊢
    rw [List.range_succ, List.map_append, List.map_append, ih]
    rfl
def sumT (ns : Nat → Nat) : Nat → Nat
  | 0 => 0
  | k + 1 => sumT ns k + ns k
theorem flatL_length (ns : Nat → Nat) (zs : Nat → Nat → Int) : ∀ k, (flatL ns zs k).length = sumT ns k
  | 0 => rfl
  | k + 1 => by
    show (flatL ns zs k ++ rowL (zs k) (ns k)).length = sumT ns k + ns k
    rw [List.length_append, flatL_length ns zs k, rowL_length]
theorem sumT_mono (ns : Nat → Nat) {k n : Nat} (h : k ≤ n) : sumT ns k ≤ sumT ns n := by
  induction n with
  | zero => obtain rfl : k = 0 := by omega
            exact Nat.le_refl _
  | succ n ih =>
    rcases Nat.lt_or_ge k (n + 1) with h' | h'
    · have := ih (by omega); show sumT ns k ≤ sumT ns n + ns n; omega
    · obtain rfl : k = n + 1 := by omega
      exact Nat.le_refl _
/-- A list as a row of numbers. -/
def atF (l : List Int) (i : Nat) : Int := l.getD i 0
theorem numCells_list : ∀ l : List Int, numCells (atF l) l.length = cellL l := fun l => by
  rw [← cellL_row]
  congr 1
  refine List.ext_getElem (by simp [rowL]) (fun i h1 h2 => ?_)
  simp [rowL, atF, List.getD, List.getElem?_eq_getElem h2]
theorem numsAt_row {w : World} {base : Nat} {v : Value} {l : List Int} (h : w.ownsRow base 3 1 v l.length (cellL l)) : NumsAt w v l.length (atF l) := by
  rcases h.2 with ⟨hv, h0⟩ | ⟨g, cap, cur, hv, _⟩
  · exact Or.inl ⟨none, 0, hv, h0⟩
  · rcases Nat.eq_zero_or_pos l.length with h0 | h0
    · exact Or.inl ⟨_, _, by rw [hv, h0], h0⟩
    · refine Or.inr ⟨g, 0, cap, hv, h0, ?_⟩
      subst hv
      rw [← numCells_list] at h
      exact rowAt_of_row h

theorem append_nothing (w : World) (ty : TypeId) (ao : Option Addr) (l c : Nat) (hl : l ≤ c) (ad : Option Addr) (cap : Nat) : (Builtin.append_ #[22, 22] ty #[.slice ao l c, .slice ad 0 cap]).run Tryz.prog w = .ok (.slice ao l c) w := by
  obtain ⟨i, hi, hi2⟩ := Option.map_eq_some_iff.1 Tryz.infoInt
  refine run_append_nothing w _ _ ty 3 i Tryz.underlying22 hi ao l c hl _ ?_
  cases ad with
  | none => exact Src.ofNil w Tryz.underlying22 cap
  | some a => exact Src.ofSlice w Tryz.underlying22 a 0 cap [] (by simp) (fun j u h => by simp at h) (fun u h => by simp at h)
theorem wpList_append_nothing {w : World} {ops : Array Oper} {rest : List Oper} {o : Oper} {a : Act} {Q : Exit → Act → World → Prop} (hgd : o.guard = none) (s x : Operand)
    (ho : o.op = .call { callee := .builtin .append, args := #[s, x], argTypes := #[22, 22] })
    (ao : Option Addr) (l c : Nat) (hl : l ≤ c) (ad : Option Addr) (cap : Nat) (hs : a.eval s = .slice ao l c) (hx : a.eval x = .slice ad 0 cap)
    (h : wpList Tryz.prog ops Q rest (a.put o.dst (.slice ao l c)) w) : wpList Tryz.prog ops Q (o :: rest) a w := by
  refine wpList_plain hgd fun K hK => ?_
  have hrun := append_nothing w o.type ao l c hl ad cap
  unfold Oper.wp
  simp [execOp, ho, resolve, invoke, builtin, hs, hx, hrun, Result.andThen]
  exact hK _ _ h
theorem row_shape {w : World} {base : Nat} {t : TypeId} {v : Value} {n : Nat} {xs : List Value} (h : w.ownsRow base t 1 v n xs) : ∃ ao c, v = .slice ao n c ∧ n ≤ c := by
  rcases h.2 with ⟨rfl, rfl⟩ | ⟨g, cap, cur, rfl, _, _, hc, _⟩
  · exact ⟨none, 0, rfl, Nat.le_refl _⟩
  · exact ⟨_, _, rfl, hc⟩
theorem below_grow {w wr w3 : World} {v : Value} {e : TypeId} {size n : Nat} {xs : List Value} (hB : Below w.heap.size w wr) (hR : wr.ownsRow w.heap.size e size v n xs) (hg : wr.grownBy w3 v.ownBlock) : Below w.heap.size w w3 :=
  hB.grown hg hB.size (fun k e => (hR.lt k e).1)

/-- Is a row longer than 16? Is one not as long as the first? -/
def longB (ns : Nat → Nat) : Nat → Bool
  | 0 => false
  | k + 1 => longB ns k || decide (16 < ns k)
def unevenB (ns : Nat → Nat) : Nat → Bool
  | 0 => false
  | k + 1 => unevenB ns k || !decide (ns k = ns 0)
theorem longB_mono {ns : Nat → Nat} {k n : Nat} (hk : k < n) (h : 16 < ns k) : longB ns n = true := by
  induction n with
  | zero => omega
  | succ n ih =>
    show (longB ns n || decide (16 < ns n)) = true
    rcases Nat.lt_or_ge k n with h' | h'
    · rw [ih h']; rfl
    · obtain rfl : k = n := by omega
      rw [decide_eq_true h, Bool.or_true]
theorem unevenB_mono {ns : Nat → Nat} {k n : Nat} (hk : k < n) (h : ns k ≠ ns 0) : unevenB ns n = true := by
  induction n with
  | zero => omega
  | succ n ih =>
    show (unevenB ns n || !decide (ns n = ns 0)) = true
    rcases Nat.lt_or_ge k n with h' | h'
    · rw [ih h']; rfl
    · obtain rfl : k = n := by omega
      rw [decide_eq_false h]; simp
/-- The number of a table's error, as the document says it. -/
def tabErr (R : Nat) (ns : Nat → Nat) (zs : Nat → Nat → Int) : Nat := if 16 < R then 2 else if longB ns R = true then 2 else if unevenB ns R = true then 3 else listErr (atF (flatL ns zs R)) (flatL ns zs R).length
end Go.Proofs.YtncgpldfenkiiaaGreatDoor

/- The document's TableError; the law's copies of tables. -/
namespace Go.Proofs.YtncgpldfenkiiaaGreatDoor
open Go.RowKit

theorem tabErr_many {R : Nat} {ns : Nat → Nat} {zs : Nat → Nat → Int} (h : 16 < R) : tabErr R ns zs = 2 := by unfold tabErr; exact if_pos h
theorem tabErr_long {R : Nat} {ns : Nat → Nat} {zs : Nat → Nat → Int} (h : ¬ 16 < R) (hl : longB ns R = true) : tabErr R ns zs = 2 := by unfold tabErr; rw [if_neg h, if_pos hl]
theorem tabErr_uneven {R : Nat} {ns : Nat → Nat} {zs : Nat → Nat → Int} (h : ¬ 16 < R) (hl : longB ns R = false) (hu : unevenB ns R = true) : tabErr R ns zs = 3 := by unfold tabErr; rw [if_neg h, if_neg (by rw [hl]; simp), if_pos hu]
theorem tabErr_even {R : Nat} {ns : Nat → Nat} {zs : Nat → Nat → Int} (h : ¬ 16 < R) (hl : longB ns R = false) (hu : unevenB ns R = false) : tabErr R ns zs = listErr (atF (flatL ns zs R)) (flatL ns zs R).length := by unfold tabErr; rw [if_neg h, if_neg (by rw [hl]; simp), if_neg (by rw [hu]; simp)]
theorem not_long {ns : Nat → Nat} : ∀ {n : Nat}, longB ns n = false → ∀ i, i < n → ns i ≤ 16
  | n, h, i, hi => by
    rcases Nat.lt_or_ge 16 (ns i) with h' | h'
    · rw [longB_mono hi h'] at h; cases h
    · exact h'
theorem sumT_le {ns : Nat → Nat} {B : Nat} : ∀ {n : Nat}, (∀ i, i < n → ns i ≤ B) → sumT ns n ≤ n * B
  | 0, _ => Nat.zero_le _
  | n + 1, h => by
    have h1 := sumT_le (ns := ns) (B := B) (n := n) (fun i hi => h i (by omega))
    have h2 := h n (by omega)
    show sumT ns n + ns n ≤ (n + 1) * B
    rw [Nat.add_mul]; omega
theorem sumT_small {ns : Nat → Nat} {R : Nat} (hR : ¬ 16 < R) (hl : longB ns R = false) : sumT ns R ≤ 256 := by
  have h1 := sumT_le (ns := ns) (B := 16) (not_long hl)
  have h2 : R * 16 ≤ 16 * 16 := Nat.mul_le_mul_right _ (by omega)
  omega

end Go.Proofs.YtncgpldfenkiiaaGreatDoor

/- The law's copies of tables; the program's list of a table's weights. -/
namespace Go.Proofs.YtncgpldfenkiiaaGreatDoor
open Go.RowKit

theorem Tryz.infoInts : (Tryz.prog.info? 22).map (fun i => (i.zero, i.size, i.bytes)) = some (some (.slice none 0 0), 1, 24) := by kernel_rfl
def rowV (vs : Nat → Value) (k : Nat) : List Value := (List.range k).map vs
theorem rowV_length (vs : Nat → Value) (k : Nat) : (rowV vs k).length = k := by simp [rowV]
theorem rowV_push (vs : Nat → Value) (k : Nat) (v : Value) : rowV vs k ++ [v] = rowV (fun i => if i = k then v else vs i) (k + 1) := by
  unfold rowV
  rw [List.range_succ, List.map_append]
  congr 1
  · refine List.map_congr_left (fun i hi => ?_)
    have := List.mem_range.1 hi
    rw [if_neg (by omega)]
  · simp
theorem tabAt_of_row {w : World} {base : Nat} {t : TypeId} {v : Value} {R : Nat} {vs : Nat → Value} {ns : Nat → Nat} {zs : Nat → Nat → Int} (h : w.ownsRow base t 1 v R (rowV vs R)) (hn : ∀ i, i < R → NumsAt w (vs i) (ns i) (zs i)) : TabAt w v R vs ns zs := by
  rcases h.2 with ⟨hv, h0⟩ | ⟨g, cap, cur, hv, _, hh, _, _, hs, ht⟩
  · exact Or.inl ⟨none, 0, hv, h0⟩
  · rcases Nat.eq_zero_or_pos R with h0 | h0
    · exact Or.inl ⟨_, _, by rw [hv, h0], h0⟩
    · refine Or.inr ⟨g, 0, cap, hv, h0, fun i hi => ⟨?_, hn i hi⟩⟩
      have h1 : (rowV vs R)[i]? = some (vs i) := by simp [rowV, hi]
      rw [← h1, ← ht, List.getElem?_take_of_lt (by omega)]
      simp [World.cell?, hh]
theorem own_past {w w' : World} {base : Nat} {t : TypeId} {sz : Nat} {v : Value} {n : Nat} {xs : List Value} (h : w.ownsRow base t sz v n xs) (hb : Below w.heap.size w w') : w'.ownsRow base t sz v n xs := by
  obtain ⟨hl, hr⟩ := h
  refine ⟨hl, ?_⟩
  rcases hr with hr | ⟨g, cap, cur, hv, hb1, hh, rest⟩
  · exact Or.inl hr
  · exact Or.inr ⟨g, cap, cur, hv, hb1, by rw [hb.block g (heap_lt hh)]; exact hh, rest⟩
/-- A row of another kind beside the one that is grown. -/
theorem own_beside {w w' : World} {b1 b2 : Nat} {t1 t2 : TypeId} {v u : Value} {n m s1 s2 : Nat} {xs ys : List Value} (h : w.ownsRow b1 t1 s1 v n xs) (k : w.ownsRow b2 t2 s2 u m ys) (ht : t1 ≠ t2) (hg : w.grownBy w' u.ownBlock) : w'.ownsRow b1 t1 s1 v n xs := by
  obtain ⟨hl, hr⟩ := h
  refine ⟨hl, ?_⟩
  rcases hr with hr | ⟨g, cap, cur, hv, hb1, hh, rest⟩
  · exact Or.inl hr
  · refine Or.inr ⟨g, cap, cur, hv, hb1, ?_, rest⟩
    rw [hg.block g (heap_lt hh) (fun e => ?_)]
    · exact hh
    · rcases k.2 with ⟨rfl, _⟩ | ⟨g', cap', cur', rfl, _, hh', _⟩
      · cases e
      · obtain rfl : g = g' := by simpa [Value.ownBlock] using e
        rw [hh] at hh'
        simp at hh'
        exact ht hh'.2
end Go.Proofs.YtncgpldfenkiiaaGreatDoor

/- A list of fractions of any size in memory, as it grows: no whole number lies in its own block, so what is appended turns no digit. -/
namespace Go.Proofs.YtncgpldfenkiiaaGreatDoor
open Go.RowKit

def notI (v : Value) : Prop := ∀ x, v ≠ .int .i64 x
/-- Where a block's cells are none of them whole numbers. -/
theorem noInts_of_block {w : World} {g : Nat} {cs : Array Value} {t : TypeId} {q : Nat × Nat} (hg : w.heap[g]? = some (.cells cs t q)) (h : ∀ u, u ∈ cs.toList → notI u) : NoInts w g := fun j x e => by
  have e2 : cs[j]? = some (.int .i64 x) := by simpa [World.cell?, hg] using e
  exact h _ (Array.mem_toList_iff.mpr (Array.mem_of_getElem? e2)) x rfl
theorem zero_notI {z : Value} (hz : ∀ u, u ∈ z.cells.toList → notI u) (k : Nat) : ∀ u, u ∈ (Builtin.zeroCells z.cells k).toList → notI u := fun u hu => by
  obtain ⟨j, hj⟩ := List.getElem?_of_mem hu
  simp only [Builtin.zeroCells, Array.getElem?_toList] at hj
  have hu2 := Array.mem_of_getElem? hj
  simp only [Array.mem_map] at hu2
  obtain ⟨i, hi, rfl⟩ := hu2
  refine hz _ ?_
  have hlt : i < k * z.cells.size := by simpa using hi
  have hs : 0 < z.cells.size := by
    rcases Nat.eq_zero_or_pos z.cells.size with h | h
    · rw [h, Nat.mul_zero] at hlt; omega
    · exact h
  have hm := Nat.mod_lt i hs
  rw [getElem!_pos z.cells _ hm]
  exact Array.mem_toList_iff.mpr (Array.getElem_mem hm)
theorem row_notI {w : World} {base : Nat} {e : TypeId} {size : Nat} {n cap g : Nat} {xs : List Value} (h : w.ownsRow base e size (.slice (some ⟨g, 0, none⟩) n cap) n xs) (hcl : NoInts w g) : ∀ u, u ∈ xs → notI u := fun u hu x e => by
  obtain ⟨j, hj⟩ := List.getElem?_of_mem hu
  have hc := h.cells (g := g) rfl j u hj
  rw [add_plain, Nat.zero_add, e] at hc
  exact hcl j x hc
/-- An append onto a block without whole numbers leaves one. -/
theorem append_clean {P : Program} (w : World) {t ty : TypeId} {base : Nat} {e : TypeId} {i : TypeInfo} {z : Value} {size bytes : Nat} (ht : P.underlying t = some (.slice e)) (hi : P.info? e = some i) (hz : i.zero = some z)
    (hsize : i.size = size) (hby : i.bytes = bytes) {v : Value} {n : Nat} {xs : List Value} (hown : w.ownsRow base e size v n xs)
    {ad : Addr} {m c : Nat} {news : List Value} (hl : news.length = m * size) (hnews : ∀ j u, news[j]? = some u → w.cell? (ad.add j) = some u) (h1 : ∀ u ∈ news, u.oneCell' = true)
    (hm : 0 < m) (h63 : n + m ≤ maxLen) (hbytes : (n + m) * bytes ≤ 140737488355328) (hz0 : ∀ u, u ∈ z.cells.toList → notI u) (hnw : ∀ u, u ∈ news → notI u) (hcl : ∀ g, v.ownBlock = some g → NoInts w g)
    {g cap : Nat} {w' : World} (hr : (Builtin.append_ #[t, t] ty #[v, .slice (some ad) m c]).run P w = .ok (.slice (some ⟨g, 0, none⟩) (n + m) cap) w') : NoInts w' g := by
  subst hsize
  subst hby
  unfold maxLen at h63
  have hnew : ∀ (cs : Array Value), (∀ u, u ∈ cs.toList → notI u) → NoInts (w.drew.alloc (.cells cs e)) w.heap.size := fun cs hcs => noInts_of_block (heap_alloc_new w.drew _) hcs
  rcases hown.2 with ⟨rfl, rfl⟩ | ⟨g0, cap0, cur, rfl, hbg, hg, hnc, hcm, hcs, htake⟩
  · have hr2 := run_append_nil (P := P) w t ty e i z ht hi hz ad m c news hl hnews hm (by omega) (by rw [Nat.zero_add] at hbytes; omega)
    rw [hr] at hr2
    simp only [Result.ok.injEq, Value.slice.injEq, Option.some.injEq, Addr.mk.injEq, and_true] at hr2
    obtain ⟨⟨rfl, _⟩, rfl⟩ := hr2
    refine hnew _ fun u hu => ?_
    rw [Array.toList_append] at hu
    rcases List.mem_append.mp hu with h | h
    · exact hnw u (by simpa using h)
    · exact zero_notI hz0 _ u h
  · have hc0 := hcl g0 rfl
    by_cases hroom : n + m ≤ cap0
    · have hfit : n * i.size + news.length ≤ cur.size := by rw [hl, hcs, ← Nat.add_mul]; exact Nat.mul_le_mul_right _ hroom
      have hr2 := run_append_room (P := P) w t ty e i ht hi g0 n cap0 cur hg ad m c news hl hnews h1 hroom hfit
      rw [hr] at hr2
      simp only [Result.ok.injEq, Value.slice.injEq, Option.some.injEq, Addr.mk.injEq, and_true, true_and] at hr2
      obtain ⟨⟨rfl, _⟩, rfl⟩ := hr2
      have hcur : ∀ u, u ∈ cur.toList → notI u := fun u hu x e2 => by
        obtain ⟨j, hj⟩ := List.getElem?_of_mem hu
        refine hc0 j x ?_
        rw [Array.getElem?_toList, e2] at hj
        simp [World.cell?, hg, hj]
      refine noInts_of_block (setRow_heap w g cur _ e _ hg) fun u hu => ?_
      simp only [List.append_assoc, List.mem_append] at hu
      rcases hu with h | h | h
      · exact hcur u (List.mem_of_mem_take h)
      · exact hnw u h
      · exact hcur u (List.mem_of_mem_drop h)
    · have hr2 := run_append_grow (P := P) w t ty e i z ht hi hz ⟨g0, 0, none⟩ n cap0 xs hown.1 (hown.cells (g := g0) rfl) ad m c news hl hnews (by omega) (by omega) (growslice_fits (by omega) hbytes)
      rw [hr] at hr2
      simp only [Result.ok.injEq, Value.slice.injEq, Option.some.injEq, Addr.mk.injEq, and_true, true_and] at hr2
      obtain ⟨⟨rfl, _⟩, rfl⟩ := hr2
      refine hnew _ fun u hu => ?_
      simp only [Array.toList_append, List.append_assoc, List.mem_append] at hu
      rcases hu with h | h | h
      · exact row_notI hown hc0 u h
      · exact hnw u h
      · exact zero_notI hz0 _ u h
/-- The same at a step of a region that draws its order. -/
theorem step_append_clean {P : Program} (w : World) {ops : Array Oper} {o : Oper} {a : Act} {K : Act → World → Prop} {Q : Exit → Act → World → Prop} {E : Prop} (hgd : o.guard = none) (s x : Operand) (t : TypeId)
    (ho : o.op = .call { callee := .builtin .append, args := #[s, x], argTypes := #[t, t] })
    (base : Nat) (e : TypeId) (i : TypeInfo) (z : Value) (size bytes : Nat) (ht : P.underlying t = some (.slice e)) (hI : P.info? e = some i ∧ i.zero = some z ∧ i.size = size ∧ i.bytes = bytes) (hzs : z.cells.size = size) (hsz : 0 < size)
    (v : Value) (n : Nat) (xs : List Value) (hs : a.eval s = v) (hown : w.ownsRow base e size v n xs)
    (ad : Addr) (m c : Nat) (news : List Value) (hx : a.eval x = .slice (some ad) m c) (hl : news.length = m * size) (hnews : ∀ j u, news[j]? = some u → w.cell? (ad.add j) = some u) (h1 : ∀ u ∈ news, u.oneCell' = true)
    (hm : 0 < m) (hN : n + m ≤ 100000) (hB : bytes ≤ 1000) (hbase : base ≤ w.heap.size) (hz0 : ∀ u, u ∈ z.cells.toList → notI u) (hnw : ∀ u, u ∈ news → notI u) (hcl : ∀ g, v.ownBlock = some g → NoInts w g)
    (h : ∀ g cap w', w'.ownsRow base e size (.slice (some ⟨g, 0, none⟩) (n + m) cap) (n + m) (xs ++ news) → w.grownBy w' v.ownBlock → NoInts w' g → K (a.put o.dst (.slice (some ⟨g, 0, none⟩) (n + m) cap)) w') :
    if Region.wanted o (yielded ops a.tmps) = true then Oper.wp P o a w K Q else E := by
  obtain ⟨hi, hz, hsize, hby⟩ := hI
  have h63 : n + m ≤ maxLen := by unfold maxLen; omega
  have hbytes : (n + m) * bytes ≤ 140737488355328 := Nat.le_trans (Nat.mul_le_mul hN hB) (by decide)
  obtain ⟨g, cap, w', hr, h2, h3, _, _⟩ := run_append_lies (P := P) w t o.type base e i z size bytes ht hi hz hsize hby hzs hsz v n xs hown ad m c news hl hnews h1 hm h63 hbytes hbase _ rfl
  have hC := append_clean w ht hi hz hsize hby hown hl hnews h1 hm h63 hbytes hz0 hnw hcl hr
  have hw : Region.wanted o (yielded ops a.tmps) = true := by simp [Region.wanted, hgd]
  rw [if_pos hw]
  unfold Oper.wp
  simp [execOp, ho, resolve, invoke, builtin, hs, hx, hr, Result.andThen]
  exact h g cap w' h2 h3 hC

/-- The cells of fractions from 0 on: a sign, two numbers. -/
def rtL : List (Value × Value) → List Value
  | [] => []
  | c :: r => .bool false :: c.1 :: c.2 :: rtL r
theorem rtL_append : ∀ a b, rtL (a ++ b) = rtL a ++ rtL b
  | [], b => rfl
  | p :: a, b => by simp [rtL, rtL_append a b]
theorem rtL_length : ∀ l, (rtL l).length = l.length * 3
  | [] => rfl
  | p :: r => by simp [rtL, rtL_length r]; omega
theorem rtL_at : ∀ (l : List (Value × Value)) (i : Nat) (c : Value × Value), l[i]? = some c → (rtL l)[i * 3]? = some (.bool false) ∧ (rtL l)[i * 3 + 1]? = some c.1 ∧ (rtL l)[i * 3 + 2]? = some c.2
  | [], i, p, h => by simp at h
  | d :: r, 0, p, h => by
    obtain rfl : d = p := by simpa using h
    exact ⟨rfl, rfl, rfl⟩
  | d :: r, i + 1, p, h => by
    obtain ⟨h0, h1, h2⟩ := rtL_at r i p (by simpa using h)
    have e : ∀ k, (rtL (d :: r))[(i + 1) * 3 + k]? = (rtL r)[i * 3 + k]? := fun k => by
      rw [show (i + 1) * 3 + k = i * 3 + k + 1 + 1 + 1 by omega]
      rfl
    exact ⟨by rw [show (i + 1) * 3 = (i + 1) * 3 + 0 by omega, e 0]; exact h0, by rw [e 1]; exact h1, by rw [e 2]; exact h2⟩
/-- Fractions of any size from 0 on in memory. -/
def RtAt (w : World) (v : Value) (l : List (Nat × Nat)) : Prop := ∃ ad cap, v = .slice ad l.length cap ∧ ∀ i p, l[i]? = some p → ∃ b o u q, ad = some ⟨b, o, none⟩ ∧ w.cell? ⟨b, o + i * 3, none⟩ = some (.bool false) ∧ w.cell? ⟨b, o + i * 3 + 1, none⟩ = some u ∧ w.cell? ⟨b, o + i * 3 + 2, none⟩ = some q ∧ BigAt w u p.1 ∧ BigAt w q p.2
theorem RtAt.later {w w' : World} {v : Value} {l : List (Nat × Nat)} (h : RtAt w v l) (hb : Below w.heap.size w w') : RtAt w' v l := by
  obtain ⟨ad, cap, hv, hr⟩ := h
  refine ⟨ad, cap, hv, fun i p hp => ?_⟩
  obtain ⟨b, o, u, q, e, h0, h1, h2, h3, h4⟩ := hr i p hp
  exact ⟨b, o, u, q, e, by rw [hb.cell (cell_lt h0)]; exact h0, by rw [hb.cell (cell_lt h1)]; exact h1, by rw [hb.cell (cell_lt h2)]; exact h2, h3.later hb, h4.later hb⟩
/-- As it grows. -/
structure RtOwn (B : Nat) (w : World) (v : Value) (l : List (Nat × Nat)) (cs : List (Value × Value)) : Prop where
  own : w.ownsRow B 44 3 v l.length (rtL cs)
  clean : ∀ g, v.ownBlock = some g → NoInts w g
  len : cs.length = l.length
  big : ∀ (i : Nat) (c : Value × Value) (p : Nat × Nat), cs[i]? = some c → l[i]? = some p → BigAt w c.1 p.1 ∧ BigAt w c.2 p.2
theorem RtOwn.later {B : Nat} {w w' : World} {v : Value} {l : List (Nat × Nat)} {cs : List (Value × Value)} (h : RtOwn B w v l cs) (hb : Below w.heap.size w w') : RtOwn B w' v l cs :=
  ⟨own_past h.own hb, fun g hg => (h.clean g hg).later (h.own.lt g hg).2 hb, h.len, fun i c p hc hp => ⟨(h.big i c p hc hp).1.later hb, (h.big i c p hc hp).2.later hb⟩⟩
theorem rtOwn_nil (B : Nat) (w : World) : RtOwn B w (.slice none 0 0) [] [] := ⟨World.ownsRow_nil _ _ _ _, fun g hg => (by cases hg), rfl, fun i c p hc => (by simp at hc)⟩
theorem RtOwn.at {B : Nat} {w : World} {v : Value} {l : List (Nat × Nat)} {cs : List (Value × Value)} (h : RtOwn B w v l cs) : RtAt w v l := by
  obtain ⟨hl, hr⟩ := h.own
  rcases hr with ⟨rfl, hx⟩ | ⟨g, cap, cur, rfl, hb, hh, _, _, hs, ht⟩
  · have h0 : l = [] := by
      cases l with
      | nil => rfl
      | cons p r => simp at hx
    subst h0
    exact ⟨none, 0, rfl, fun i p hp => by simp at hp⟩
  · refine ⟨_, cap, rfl, fun i p hp => ?_⟩
    have hi : i < l.length := (List.getElem?_eq_some_iff.mp hp).1
    obtain ⟨c, hc⟩ : ∃ c, cs[i]? = some c := ⟨cs[i]'(by rw [h.len]; exact hi), by simp [h.len, hi]⟩
    obtain ⟨h0, h1, h2⟩ := rtL_at cs i c hc
    have hcell : ∀ j, j < l.length * 3 → w.cell? ⟨g, 0 + j, none⟩ = (rtL cs)[j]? := fun j hj => by
      rw [← ht, List.getElem?_take_of_lt hj]
      simp [World.cell?, hh]
    obtain ⟨b1, b2⟩ := h.big i c p hc hp
    exact ⟨g, 0, c.1, c.2, rfl, by rw [hcell _ (by omega)]; exact h0, by rw [show 0 + i * 3 + 1 = 0 + (i * 3 + 1) by omega, hcell _ (by omega)]; exact h1, by rw [show 0 + i * 3 + 2 = 0 + (i * 3 + 2) by omega, hcell _ (by omega)]; exact h2, b1, b2⟩
theorem IntsAt.far {w w' : World} {u : Value} {l : List Nat} {row : Option Nat} (h : IntsAt w u l) (hg : w.grownBy w' row) (hcl : ∀ g, row = some g → NoInts w g) : IntsAt w' u l := by
  rcases h with h | ⟨b, o, cap, hv, hle, h0, hc⟩
  · exact Or.inl h
  · refine Or.inr ⟨b, o, cap, hv, hle, h0, fun i hi => ?_⟩
    rw [hg.cell_far _ (cell_lt (hc i hi)) (fun e => hcl b e.symm _ _ (hc i hi))]
    exact hc i hi
theorem BigAt.far {w w' : World} {u : Value} {n : Nat} {row : Option Nat} (h : BigAt w u n) (hg : w.grownBy w' row) (hcl : ∀ g, row = some g → NoInts w g) : BigAt w' u n := by
  obtain ⟨l, h1, h2, h3, h4⟩ := h
  exact ⟨l, h1, h2, h3, h4.far hg hcl⟩
/-- One more. -/
theorem RtOwn.push {B : Nat} {w w' : World} {v v' : Value} {l : List (Nat × Nat)} {cs : List (Value × Value)} {u q : Value} {p : Nat × Nat} {g cap n : Nat} (h : RtOwn B w v l cs) (hu : BigAt w u p.1) (hq : BigAt w q p.2) (hn : l.length = n) (hv : v' = .slice (some ⟨g, 0, none⟩) (n + 1) cap)
    (hown : w'.ownsRow B 44 3 v' (n + 1) (rtL cs ++ [.bool false, u, q])) (hg : w.grownBy w' v.ownBlock) (hC : NoInts w' g) : RtOwn B w' v' (l ++ [p]) (cs ++ [(u, q)]) := by
  refine ⟨?_, fun g' hg' => ?_, by simp [h.len], fun i c p' hc hp => ?_⟩
  · rw [rtL_append, show rtL [(u, q)] = [.bool false, u, q] from rfl, List.length_append, hn]
    exact hown
  · rw [hv] at hg'
    obtain rfl : g = g' := by simpa [Value.ownBlock] using hg'
    exact hC
  · rcases Nat.lt_or_ge i l.length with h1 | h1
    · rw [List.getElem?_append_left (by rw [h.len]; exact h1)] at hc
      rw [List.getElem?_append_left h1] at hp
      obtain ⟨a1, a2⟩ := h.big i c p' hc hp
      exact ⟨a1.far hg h.clean, a2.far hg h.clean⟩
    · have hi : i = l.length := by
        have := (List.getElem?_eq_some_iff.mp hp).1
        simp at this
        omega
      subst hi
      rw [← h.len] at hc
      simp at hc hp
      subst hc hp
      exact ⟨hu.far hg h.clean, hq.far hg h.clean⟩
end Go.Proofs.YtncgpldfenkiiaaGreatDoor

/- A list of numbers that grows beside numbers of any size: behind its end its block is nothing but 0, and no number's last digit is 0: so what is appended turns no digit. -/
namespace Go.Proofs.YtncgpldfenkiiaaGreatDoor
open Go.RowKit

def Spare0 (w : World) (v : Value) (n : Nat) : Prop := ∀ g, v.ownBlock = some g → ∀ j x, n ≤ j → w.cell? ⟨g, j, none⟩ = some x → x = .int .i64 0
theorem spare0_nil (w : World) : Spare0 w (.slice none 0 0) 0 := fun g hg => by cases hg
theorem Spare0.later {w w' : World} {v : Value} {n : Nat} (h : Spare0 w v n) (hl : ∀ g, v.ownBlock = some g → g < w.heap.size) (hb : Below w.heap.size w w') : Spare0 w' v n := fun g hg j x hj hx => by
  rw [hb.cell (p := ⟨g, j, none⟩) (hl g hg)] at hx
  exact h g hg j x hj hx
theorem spare_of_block {w : World} {g n cap : Nat} {cs : Array Value} {t : TypeId} {q : Nat × Nat} (hg : w.heap[g]? = some (.cells cs t q)) (h : ∀ j x, n ≤ j → cs[j]? = some x → x = .int .i64 0) : Spare0 w (.slice (some ⟨g, 0, none⟩) n cap) n := fun g' hg' j x hj hx => by
  obtain rfl : g = g' := by simpa [Value.ownBlock] using hg'
  exact h j x hj (by simpa [World.cell?, hg] using hx)
theorem zero_cell {z : Value} (hz : z.cells = #[.int .i64 0]) (k j : Nat) (x : Value) (h : (Builtin.zeroCells z.cells k)[j]? = some x) : x = .int .i64 0 := by
  have hu := Array.mem_of_getElem? h
  simp only [Builtin.zeroCells, Array.mem_map] at hu
  obtain ⟨i, _, rfl⟩ := hu
  rw [hz]
  have : i % (#[Value.int .i64 0] : Array Value).size = 0 := Nat.mod_one i
  rw [this]
  rfl
/-- A number whose last digit is not 0 lies ahead of the end. -/
theorem BigAt.before {w : World} {u : Value} {N g n : Nat} {v : Value} (h : BigAt w u N) (hv : v.ownBlock = some g) (hsp : Spare0 w v n) : ∃ l, Dig l ∧ NoTail l ∧ bv l = N ∧ ((∃ ad cap, u = .slice ad 0 cap ∧ l = []) ∨ ∃ b o cap, u = .slice (some ⟨b, o, none⟩) l.length cap ∧ l.length ≤ cap ∧ 0 < l.length ∧ (∀ i, i < l.length → w.cell? ⟨b, o + i, none⟩ = some (.int .i64 ((l.getD i 0 : Nat) : Int))) ∧ (b = g → o + l.length ≤ n)) := by
  obtain ⟨l, h1, h2, h3, h4⟩ := h
  refine ⟨l, h1, h2, h3, ?_⟩
  rcases h4 with h4 | ⟨b, o, cap, e, h5, h6, h7⟩
  · exact Or.inl h4
  · refine Or.inr ⟨b, o, cap, e, h5, h6, h7, fun eb => ?_⟩
    subst eb
    rcases Nat.lt_or_ge n (o + l.length) with h8 | h8
    · exfalso
      have ht := h7 (l.length - 1) (by omega)
      have h0 := hsp b hv (o + (l.length - 1)) _ (by omega) ht
      have hne := h2 (l.length - 1) (by omega)
      simp only [Value.int.injEq, true_and] at h0
      omega
    · exact h8
theorem append_spare {P : Program} (w : World) {t ty : TypeId} {base : Nat} {e : TypeId} {i : TypeInfo} {z : Value} {bytes : Nat} (ht : P.underlying t = some (.slice e)) (hi : P.info? e = some i) (hz : i.zero = some z)
    (hsize : i.size = 1) (hby : i.bytes = bytes) (hz0 : z.cells = #[.int .i64 0]) {v : Value} {n : Nat} {xs : List Value} (hown : w.ownsRow base e 1 v n xs)
    {ad : Addr} {m c : Nat} {news : List Value} (hl : news.length = m * 1) (hnews : ∀ j u, news[j]? = some u → w.cell? (ad.add j) = some u) (h1 : ∀ u ∈ news, u.oneCell' = true)
    (hm : 0 < m) (h63 : n + m ≤ maxLen) (hbytes : (n + m) * bytes ≤ 140737488355328) (hsp : Spare0 w v n)
    {g cap : Nat} {w' : World} (hr : (Builtin.append_ #[t, t] ty #[v, .slice (some ad) m c]).run P w = .ok (.slice (some ⟨g, 0, none⟩) (n + m) cap) w') : Spare0 w' (.slice (some ⟨g, 0, none⟩) (n + m) cap) (n + m) ∧ ∀ u N, BigAt w u N → BigAt w' u N := by
  subst hby
  unfold maxLen at h63
  have hl1 : news.length = m := by omega
  have hal : ∀ (X : Obj), Below w.heap.size w (w.drew.alloc X) := fun X => (Below.refl _ _).drew.alloc (Nat.le_refl _) _
  rcases hown.2 with ⟨rfl, rfl⟩ | ⟨g0, cap0, cur, rfl, hbg, hg, hnc, hcm, hcs, htake⟩
  · have hr2 := run_append_nil (P := P) w t ty e i z ht hi hz ad m c news (by rw [hsize]; exact hl) hnews hm (by omega) (by rw [Nat.zero_add] at hbytes; omega)
    rw [hr] at hr2
    simp only [Result.ok.injEq, Value.slice.injEq, Option.some.injEq, Addr.mk.injEq, and_true] at hr2
    obtain ⟨⟨rfl, _⟩, rfl⟩ := hr2
    refine ⟨spare_of_block (heap_alloc_new w.drew _) fun j x hj hx => ?_, fun u N hu => hu.later (hal _)⟩
    rw [Array.getElem?_append_right (by simp; omega)] at hx
    exact zero_cell hz0 _ _ _ hx
  · by_cases hroom : n + m ≤ cap0
    · have hfit : n * i.size + news.length ≤ cur.size := by rw [hsize, hl1, hcs]; omega
      have hr2 := run_append_room (P := P) w t ty e i ht hi g0 n cap0 cur hg ad m c news (by rw [hsize]; exact hl) hnews h1 hroom hfit
      rw [hr, hsize, Nat.mul_one, hl1] at hr2
      rw [hsize, Nat.mul_one, hl1] at hfit
      simp only [Result.ok.injEq, Value.slice.injEq, Option.some.injEq, Addr.mk.injEq, and_true, true_and] at hr2
      obtain ⟨⟨rfl, _⟩, rfl⟩ := hr2
      have hcell : ∀ j, w.cell? ⟨g, j, none⟩ = cur[j]? := fun j => by simp [World.cell?, hg]
      have hlt : (cur.toList.take n).length = n := by simp; omega
      refine ⟨spare_of_block (setRow_heap w g cur _ e _ hg) fun j x hj hx => ?_, fun u N hu => ?_⟩
      · simp only [List.append_assoc, List.getElem?_toArray] at hx
        rw [List.getElem?_append_right (by rw [hlt]; omega), hlt, List.getElem?_append_right (by omega), hl1, List.getElem?_drop, Array.getElem?_toList] at hx
        refine hsp g rfl j x (by omega) ?_
        rw [hcell, ← hx]
        congr 1
        omega
      · obtain ⟨l, a1, a2, a3, a4⟩ := hu.before (v := .slice (some ⟨g, 0, none⟩) n cap0) rfl hsp
        refine ⟨l, a1, a2, a3, ?_⟩
        rcases a4 with a4 | ⟨b, o, cp, e1, a5, a6, a7, a8⟩
        · exact Or.inl a4
        · refine Or.inr ⟨b, o, cp, e1, a5, a6, fun k hk => ?_⟩
          by_cases hb : b = g
          · have hle := a8 hb
            subst hb
            rw [← a7 k hk, hcell]
            simp only [World.cell?, setRow_heap w b cur _ e _ hg, Option.isSome_none, Bool.false_eq_true, if_false, List.append_assoc, List.getElem?_toArray]
            rw [List.getElem?_append_left (by rw [hlt]; omega), List.getElem?_take_of_lt (by omega), Array.getElem?_toList]
          · have := a7 k hk
            simp only [World.cell?, setRow_other w g b _ hb] at this ⊢
            exact this
    · have hr2 := run_append_grow (P := P) w t ty e i z ht hi hz ⟨g0, 0, none⟩ n cap0 xs (by rw [hsize]; exact hown.1) (hown.cells (g := g0) rfl) ad m c news (by rw [hsize]; exact hl) hnews (by omega) (by omega) (growslice_fits (by omega) hbytes)
      rw [hr] at hr2
      simp only [Result.ok.injEq, Value.slice.injEq, Option.some.injEq, Addr.mk.injEq, and_true, true_and] at hr2
      obtain ⟨⟨rfl, _⟩, rfl⟩ := hr2
      have hxl : xs.length = n := by have := hown.1; omega
      refine ⟨spare_of_block (heap_alloc_new w.drew _) fun j x hj hx => ?_, fun u N hu => hu.later (hal _)⟩
      rw [Array.getElem?_append_right (by simp; omega)] at hx
      exact zero_cell hz0 _ _ _ hx
/-- The same at the list of a plain region's operations. -/
theorem wpList_append_spare {P : Program} (w : World) {ops : Array Oper} {rest : List Oper} {o : Oper} {a : Act} {Q : Exit → Act → World → Prop} (hgd : o.guard = none) (s x : Operand) (t : TypeId)
    (ho : o.op = .call { callee := .builtin .append, args := #[s, x], argTypes := #[t, t] })
    (base : Nat) (e : TypeId) (i : TypeInfo) (z : Value) (bytes : Nat) (ht : P.underlying t = some (.slice e)) (hI : P.info? e = some i ∧ i.zero = some z ∧ i.size = 1 ∧ i.bytes = bytes) (hz0 : z.cells = #[.int .i64 0])
    (v : Value) (n : Nat) (xs : List Value) (hs : a.eval s = v) (hown : w.ownsRow base e 1 v n xs)
    (ad : Addr) (m c : Nat) (news : List Value) (hx : a.eval x = .slice (some ad) m c) (hl : news.length = m * 1) (hnews : ∀ j u, news[j]? = some u → w.cell? (ad.add j) = some u) (h1 : ∀ u ∈ news, u.oneCell' = true)
    (hm : 0 < m) (hN : n + m ≤ 100000) (hB : bytes ≤ 1000) (hbase : base ≤ w.heap.size) (hsp : Spare0 w v n)
    (h : ∀ g cap w', w'.ownsRow base e 1 (.slice (some ⟨g, 0, none⟩) (n + m) cap) (n + m) (xs ++ news) → w.grownBy w' v.ownBlock → Spare0 w' (.slice (some ⟨g, 0, none⟩) (n + m) cap) (n + m) → (∀ u N, BigAt w u N → BigAt w' u N) → wpList P ops Q rest (a.put o.dst (.slice (some ⟨g, 0, none⟩) (n + m) cap)) w') :
    wpList P ops Q (o :: rest) a w := by
  obtain ⟨hi, hz, hsize, hby⟩ := hI
  have h63 : n + m ≤ maxLen := by unfold maxLen; omega
  have hbytes : (n + m) * bytes ≤ 140737488355328 := Nat.le_trans (Nat.mul_le_mul hN hB) (by decide)
  obtain ⟨g, cap, w', hr, h2, h3, _, _⟩ := run_append_lies (P := P) w t o.type base e i z 1 bytes ht hi hz hsize hby (by rw [hz0]; rfl) (by omega) v n xs hown ad m c news hl hnews h1 hm h63 hbytes hbase _ rfl
  obtain ⟨hC, hK⟩ := append_spare w ht hi hz hsize hby hz0 hown hl hnews h1 hm h63 hbytes hsp hr
  refine wpList_plain hgd fun K hKK => ?_
  unfold Oper.wp
  simp [execOp, ho, resolve, invoke, builtin, hs, hx, hr, Result.andThen]
  exact hKK _ _ (h g cap w' h2 h3 hC hK)
end Go.Proofs.YtncgpldfenkiiaaGreatDoor
