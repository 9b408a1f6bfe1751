/- The document's chance and gain of a path. -/
import Derived.Test.YthomgmhmbalnbaaGreatDoorPackD
import Derived.Test.YthomgmhmbalnbaaGreatDoorHtCar
import Derived.Test.YthomgmhmbalnbaaGreatDoorCopy
import Derived.Test.YthomgmhmbalnbaaGreatDoorPackC
import Derived.Test.YthomgmhmbalnbaaGreatDoorPackB
namespace Go.Proofs.YthomgmhmbalnbaaGreatDoor
open Go.RowKit

set_option maxRecDepth 100000 in
set_option maxHeartbeats 16000000 in
theorem PathChance_to (v : Value) (L n : Nat) (vs : Nat → Value) (ns : Nat → Nat) (W : Nat → Nat → Int) (sv : Value) (T : Nat) (tv : Nat → Value) (R : Nat → Nat) (rv : Nat → Nat → Value) (rn : Nat → Nat → Nat) (P : Nat → Nat → Nat → Int) (pb po pc : Nat) (x : Nat → Nat) (w : World) (h : TabAt w v L vs ns W) (hS : StpAt w sv T tv R rv rn P) (hOK : OkP L n ns W T R rn P) (hp : RowAt w pb po L (fun i => (x i : Int))) (hx : ∀ i, i < L → x i < n) :
    Calls Tryz.prog 19 #[.agg #[v, sv], .slice (some ⟨pb, po, none⟩) L pc] w fun e w' => ∃ r q, e = .returned (.tuple #[r, q]) ∧ LR w' r (pcM n W P x T) (pcZ W P x T : Int) ∧ LR w' q (pgM W x T) (pgZ W x T : Int) ∧ Below w.heap.size w w' := by
  have hL4 := hOK.hL
  have hT4 := hOK.hT
  have hn0 := hOK.n0
  have hn4 := hOK.n4
  obtain ⟨b, o, cap, rfl, hr⟩ := tab_of h (by omega)
  obtain ⟨sa, sc, rfl⟩ := hS.form
  obtain ⟨w1, hw1⟩ : ∃ w1, w1 = ((w.alloc (.cells #[.slice (some ⟨b, o, none⟩) L cap, .slice sa T sc] 25)).alloc (.cells #[.bool false, .slice none 0 0, .slice none 0 0] 46)).alloc (.cells #[.bool false, .slice none 0 0, .slice none 0 0] 46) := ⟨_, rfl⟩
  have hb1 : Below w.heap.size w w1 := by rw [hw1]; exact (((Below.refl _ _).alloc (Nat.le_refl _) _).alloc (by simp) _).alloc (by simp; omega) _
  have c0 : w1.cell? ⟨w.heap.size, 0, none⟩ = some (.slice (some ⟨b, o, none⟩) L cap) := by rw [hw1, World.cell?_alloc_lt _ _ ⟨w.heap.size, 0, none⟩ (by simp; omega), World.cell?_alloc_lt _ _ ⟨w.heap.size, 0, none⟩ (by simp), World.cell?_alloc_at _ _ _ _ rfl]; rfl
  have c1 : w1.cell? ⟨w.heap.size, 1, none⟩ = some (.slice sa T sc) := by rw [hw1, World.cell?_alloc_lt _ _ ⟨w.heap.size, 1, none⟩ (by simp; omega), World.cell?_alloc_lt _ _ ⟨w.heap.size, 1, none⟩ (by simp), World.cell?_alloc_at _ _ _ _ rfl]; rfl
  have HR1 : Hid (∀ W', Below w1.heap.size w1 W' → RBox W' (w.heap.size + 1) false none 0 0 none 0 0 0 0 ∧ RBox W' (w.heap.size + 1 + 1) false none 0 0 none 0 0 0 0) := fun W' hb => by
    have g1 : RBox ((w.alloc (.cells #[.slice (some ⟨b, o, none⟩) L cap, .slice sa T sc] 25)).alloc (.cells #[.bool false, .slice none 0 0, .slice none 0 0] 46)) (w.heap.size + 1) false none 0 0 none 0 0 0 0 := by
      have := RBox.fresh (w := w.alloc (.cells #[.slice (some ⟨b, o, none⟩) L cap, .slice sa T sc] 25)) (n := 0) (d := 0) (s := false) ⟨_, _, rfl, big_none _, big_none _⟩
      rw [World.size_alloc] at this
      exact this
    have g2 : RBox w1 (w.heap.size + 1 + 1) false none 0 0 none 0 0 0 0 := by
      have := RBox.fresh (w := (w.alloc (.cells #[.slice (some ⟨b, o, none⟩) L cap, .slice sa T sc] 25)).alloc (.cells #[.bool false, .slice none 0 0, .slice none 0 0] 46)) (n := 0) (d := 0) (s := false) ⟨_, _, rfl, big_none _, big_none _⟩
      rw [World.size_alloc, World.size_alloc] at this
      rw [hw1]; exact this
    have g3 : RBox w1 (w.heap.size + 1) false none 0 0 none 0 0 0 0 := by rw [hw1]; exact g1.later ((Below.refl _ _).alloc (Nat.le_refl _) _)
    exact ⟨g3.later hb, g2.later hb⟩
  have hsz : w.heap.size + 1 + 1 < w1.heap.size := by rw [hw1]; simp
  have HSZ := Hid.mk' hsz
  have HC : Hid (∀ W', Below w1.heap.size w1 W' → W'.cell? ⟨w.heap.size, 0, none⟩ = some (.slice (some ⟨b, o, none⟩) L cap) ∧ W'.cell? ⟨w.heap.size, 1, none⟩ = some (.slice sa T sc)) := fun W' hb => ⟨by rw [hb.cell (cell_lt c0)]; exact c0, by rw [hb.cell (cell_lt c1)]; exact c1⟩
  have HEND : Hid (∀ W', Below w1.heap.size w1 W' → Below w.heap.size w W') := fun W' hb => hb1.trans (hb.mono hb1.size)
  have HW1 := Hid.mk' hw1
  have HWT : Hid (∀ t, t < L → ∃ rb ro rc, ∀ W', Below w1.heap.size w1 W' → W'.cell? ⟨b, o + t, none⟩ = some (.slice (some ⟨rb, ro, none⟩) n rc) ∧ RowAt W' rb ro n (fun i => ((nU W t i : Nat) : Int))) := fun t ht => by
    obtain ⟨h1, h2⟩ := hr t ht
    rw [hOK.hn t ht] at h2
    obtain ⟨rb, ro, rc, h3, h4⟩ := row_of h2 hOK.n0
    refine ⟨rb, ro, rc, fun W' hb => ⟨by rw [(HEND.out W' hb).cell (cell_lt h1), h1, h3], fun i hi => ?_⟩⟩
    have := h4.later (HEND.out W' hb) i hi
    rw [hOK.u_cast ht hi] at this
    exact this
  have HST : Hid (∀ t, t < T → ∃ sb so tb t0 tc, sa = some ⟨sb, so, none⟩ ∧ ∀ W', Below w1.heap.size w1 W' → W'.cell? ⟨sb, so + t, none⟩ = some (.slice (some ⟨tb, t0, none⟩) n tc) ∧ ∀ i k, i < n → k < n → Calls Tryz.prog 47 #[.slice (some ⟨tb, t0, none⟩) n tc, .int .i64 (i : Int), .int .i64 (k : Int)] W' fun e w' => ∃ r, e = .returned r ∧ LR w' r (smU (nQ P t i) n) (nQ P t i k : Int) ∧ Below W'.heap.size W' w') := fun t ht => by
    obtain ⟨sb, so, rfl, hst⟩ := hS.at ht
    obtain ⟨h1, h2⟩ := hst t ht
    rw [hOK.hR t ht] at h2
    obtain ⟨tb, t0, tc, h3, h4⟩ := tab_of h2 hOK.n0
    refine ⟨sb, so, tb, t0, tc, rfl, fun W' hb => ⟨by rw [(HEND.out W' hb).cell (cell_lt h1), h1, h3], fun i k hi hk => ?_⟩⟩
    obtain ⟨h5, h6⟩ := h4 i hi
    rw [hOK.hrn t i ht hi] at h6
    obtain ⟨rb, ro, rc, h7, h8⟩ := row_of h6 hOK.n0
    have h9 : RowAt W' rb ro n (fun k => ((nQ P t i k : Nat) : Int)) := fun k hk => by
      have := h8.later (HEND.out W' hb) k hk
      rw [hOK.q_cast ht hi hk] at this
      exact this
    exact StepOf_to tb t0 tc n i k rb ro rc (nQ P t i) (smU (nQ P t i) n) W' (by rw [(HEND.out W' hb).cell (cell_lt h5), h5, h7]) h9 hi hk (by have := hOK.n4; omega) rfl (hOK.r_bd ht hi).1 (hOK.r_bd ht hi).2
  have HPA : Hid (∀ W' i, Below w1.heap.size w1 W' → i < L → W'.cell? ⟨pb, po + i, none⟩ = some (.int .i64 (x i : Int))) := fun W' i hb hi => hp.later (HEND.out W' hb) i hi
  have HX := Hid.mk' hx
  have HOK := Hid.mk' hOK
  have HSM : Hid (∀ t, t ≤ T → pcZ W P x t ≤ 1152921504606846976 ∧ 0 < pcM n W P x t ∧ pcM n W P x t ≤ 1152921504606846976 ∧ pgZ W x t ≤ 281474976710656 ∧ 0 < pgM W x t ∧ pgM W x t ≤ 281474976710656) := fun t ht => by
    obtain ⟨a1, a2, a3, a4, a5, a6, _⟩ := hOK.path_sml hx ht
    exact ⟨a1, a2, a3, a4, a5, a6⟩
  have HUB : Hid (∀ t i, t < L → i < n → 1 ≤ nU W t i ∧ nU W t i ≤ 1000) := fun t i ht hi => hOK.u_bd ht hi
  have HRB : Hid (∀ t i, t < T → i < n → 0 < smU (nQ P t i) n ∧ smU (nQ P t i) n ≤ 4096) := fun t i ht hi => hOK.r_bd ht hi
  have HQB : Hid (∀ t i k, t < T → i < n → k < n → nQ P t i k ≤ 4096) := fun t i k ht hi hk => hOK.q_bd ht hi hk
  have HS0 : Hid (0 < smU (nU W 0) n ∧ smU (nU W 0) n ≤ 4000) := hOK.s_bd (by omega)
  have hLa : T + 1 ≤ L := by omega
  have hLb : L ≤ T + 1 := by omega
  have hTI : (T : Int) ≤ 4 := by omega
  have hLI : (L : Int) ≤ 5 := by omega
  have hL0 : (0 : Int) < (L : Int) := by omega
  have hL0N : 0 < L := by omega
  clear h hS hb1 hw1 hsz hr hp hx hOK hL4
  obtain ⟨r0b, r0o, r0c, hr0⟩ := HWT.out 0 (by omega)
  have HZ0 := Hid.mk' hr0
  clear hr0
  have hx0 := HX.out 0 (by omega)
  have hx0I : ((x 0 : Nat) : Int) < (n : Int) := by omega
  have hx0J : (0 : Int) ≤ ((x 0 : Nat) : Int) := by omega
  have HSU : Hid (∀ W', Below w1.heap.size w1 W' → Calls Tryz.prog 45 #[.slice (some ⟨r0b, r0o, none⟩) n r0c] W' fun e w' => e = .returned (.int .i64 ((smU (nU W 0) n : Nat) : Int)) ∧ w' = W') := fun W' hb => by
    have h6 := Sum_some r0b r0o r0c n (fun i => ((nU W 0 i : Nat) : Int)) W' (HZ0.out W' hb).2 (fun k hk => by
      rw [sumN_smU (u := nU W 0) (fun _ _ => rfl)]
      have h7 := smU_mono (nU W 0) hk
      have h8 := HS0.out.2
      omega) (fun k hk => by have := (HUB.out 0 k (by omega) hk).2; omega) (by omega)
    rw [sumN_smU (u := nU W 0) (fun _ _ => rfl)] at h6
    exact h6
  have HRO : Hid (∀ W', Calls Tryz.prog 44 #[.int .i64 (nU W 0 (x 0) : Int), .int .i64 (smU (nU W 0) n : Int)] W' fun e w' => ∃ r, e = .returned r ∧ LR w' r (pcM n W P x 0) (pcZ W P x 0 : Int) ∧ Below W'.heap.size W' w') := fun W' => RatioOf_to (nU W 0 (x 0)) (smU (nU W 0) n) (smU (nU W 0) n) (nU W 0 (x 0)) W' (by omega) (by have := (HUB.out 0 (x 0) (by omega) hx0).2; omega) HS0.out.1 (by have := HS0.out.2; omega) HS0.out.1 rfl
  have HKS : Hid (∀ W', Below w1.heap.size w1 W' → W'.cell? ⟨w.heap.size, 0, none⟩ = some (.slice (some ⟨b, o, none⟩) L cap) ∧ W'.cell? ⟨b, o, none⟩ = some (.slice (some ⟨r0b, r0o, none⟩) n r0c) ∧ W'.cell? ⟨pb, po, none⟩ = some (.int .i64 (x 0 : Int)) ∧ W'.cell? ⟨r0b, r0o + x 0, none⟩ = some (.int .i64 (nU W 0 (x 0) : Int))) := fun W' hb => ⟨(HC.out W' hb).1, by have := (HZ0.out W' hb).1; rw [Nat.add_zero] at this; exact this, by have := HPA.out W' 0 hb (by omega); rw [Nat.add_zero] at this; exact this, (HZ0.out W' hb).2 (x 0) hx0⟩
  go_enter Tryz.func19, Tryz.ntmps19
  go_upto_region 1 with fail
  rw [← HW1.out]
  clear c0 c1
  have hc0 : Below w1.heap.size w1 w1 := Below.refl _ _
  have hcD : Below w1.heap.size w1 w1.drew := (Below.refl _ _).drew
  have hcA : ∀ X, Below w1.heap.size w1 (w1.alloc X).drew := fun X => ((Below.refl _ _).alloc (Nat.le_refl _) _).drew
  generalize hS0e : smU (nU W 0) n = S0 at HSU HRO
  generalize hU0e : nU W 0 (x 0) = U0 at HRO HKS
  generalize hX0e : x 0 = X0 at HKS hx0 hx0I hx0J
  go_cut [6] from 9 (fun s wx => ∃ Bc : Nat, s = .pointer (some ⟨Bc, 0, none⟩) ∧ Hid (DBx w1 wx Bc (pcM n W P x 0) (pcZ W P x 0 : Int)))
  case first =>
    go_region_held3 (fun W' => W'.cell? ⟨w.heap.size, 0, none⟩ = some (.slice (some ⟨b, o, none⟩) L cap) ∧ W'.cell? ⟨b, o, none⟩ = some (.slice (some ⟨r0b, r0o, none⟩) n r0c) ∧ W'.cell? ⟨pb, po, none⟩ = some (.int .i64 (X0 : Int)) ∧ W'.cell? ⟨r0b, r0o + X0, none⟩ = some (.int .i64 (U0 : Int)))
      (first | exact HKS.out _ hc0 | exact HKS.out _ hcD | exact HKS.out _ (hcA _) | exact HKS.out _ hbw1 | exact HKS.out _ (more_below hbw1 _) | exact HKS.out _ (set3_below hbw1 NB.hB _ _ _))
      (first
        | (go_at_call 45; refine (HSU.out _ ?hct).mono ?_; (case hct => first | exact hcD | exact hcA _); rintro e wt ⟨rfl, hwt⟩; rw [hwt]; clear hwt)
        | (go_at_call 44; refine (HRO.out _).mono ?_; rintro e w5 ⟨rr, rfl, hrr, hb5⟩; obtain ⟨sg, xg, lg, cg, xh, lh, ch, rfl⟩ := hrr.sl; (first | (have hbw1 : Below w1.heap.size w1 w5 := below_chain hcD hb5) | (have hbw1 : Below w1.heap.size w1 w5 := below_chain (hcA _) hb5; have NB : NBx w1 w5 w1.heap.size := nbx_of hc0 (below_chain ((Below.refl _ _).drew) hb5))); (try (have y0 := NB.box.c0; have y1 := NB.box.c1; have y2 := NB.box.c2; have y3 := NB.box.fz 0 (by decide); have y4 := NB.box.fz 1 (by decide); have y5 := NB.box.fz 2 (by decide))); have HRV := Hid.mk' hrr; clear hrr hb5))
    all_goals
      go_wp2_with fail
      go_meet
      first | exact ⟨_, rfl, dbx_late hbw1 HRV.out⟩ | exact ⟨_, rfl, dbx_soon hbw1 HRV.out NB⟩
  case rest =>
  obtain ⟨Bc, rfl, HDC⟩ := hcut
  obtain ⟨wd, hwd⟩ : ∃ wd, wd = wc := ⟨_, rfl⟩
  rw [← hwd] at HDC ⊢
  clear hwd hc0 hcD hcA HKS HSU HRO hS0e hU0e hX0e hx0 hx0I hx0J HZ0
  have HR1' : Hid (∀ W', Calls Tryz.prog 44 #[.int .i64 1, .int .i64 1] W' fun e w' => ∃ r, e = .returned r ∧ LR w' r (pgM W x 0) (pgZ W x 0 : Int) ∧ Below W'.heap.size W' w') := fun W' => RatioOf_to 1 1 1 1 W' (by decide) (by decide) (by decide) (by decide) (by decide) rfl
  go_wp2_with fail
  refine (HR1'.out _).mono ?_
  rintro e w6 ⟨r6, rfl, hr6, hb6⟩
  obtain ⟨s6, x6, l6, c6, y6, m6, k6, rfl⟩ := hr6.sl
  have h9 : Below w6.heap.size w6 (w6.alloc (.cells #[.bool s6, .slice x6 l6 c6, .slice y6 m6 k6] 46)) := (Below.refl _ _).alloc (Nat.le_refl _) _
  have HDG : Hid (DBx wd (w6.alloc (.cells #[.bool s6, .slice x6 l6 c6, .slice y6 m6 k6] 46)) w6.heap.size (pgM W x 0) (pgZ W x 0 : Int)) := dbx_late hb6 hr6
  have HLC : Hid (LB (w6.alloc (.cells #[.bool s6, .slice x6 l6 c6, .slice y6 m6 k6] 46)) Bc (pcM n W P x 0) (pcZ W P x 0 : Int)) := (HDC.out.box.later hb6).later h9
  have hne : Bc ≠ w6.heap.size := by
    obtain ⟨_, _, _, _, _, _, _, hbx⟩ := HDC.out.box
    have g1 := cell_lt hbx.c0
    have g2 := hb6.size
    have g3 : Bc < wd.heap.size := g1
    omega
  have HB7 := Hid.mk' (below_chain HDC.out.below HDG.out.below)
  have HGB : Hid (w1.heap.size ≤ Bc ∧ w1.heap.size ≤ w6.heap.size) := ⟨HDC.out.hB, Nat.le_trans HDC.out.below.size HDG.out.hB⟩
  clear h9 hr6 hb6 HR1'
  go_upto_region 3 with fail
  obtain ⟨Bg, hBg⟩ : ∃ Bg, Bg = w6.heap.size := ⟨_, rfl⟩
  obtain ⟨w7, hw7⟩ : ∃ w7, w7 = w6.alloc (.cells #[.bool s6, .slice x6 l6 c6, .slice y6 m6 k6] 46) := ⟨_, rfl⟩
  rw [← hw7] at HDG HLC HB7 ⊢
  rw [← hBg] at HDG hne HGB ⊢
  have HLG := Hid.mk' HDG.out.box
  have HNE := Hid.mk' hne
  clear hw7 hBg HDC HDG hne
  obtain ⟨c0, c1⟩ := HC.out _ HB7.out
  go_wp2_with fail
  clear c0 c1
  go_loopw [8] (fun s wr => ∃ i : Nat, i ≤ T ∧ s = .int .i64 i ∧ Hid (LB wr Bc (pcM n W P x i) (pcZ W P x i : Int)) ∧ Hid (LB wr Bg (pgM W x i) (pgZ W x i : Int)) ∧ Hid (Below w1.heap.size w1 wr)) (fun s _ => T - (intOf s).toNat)
  case atStart => exact ⟨0, Nat.zero_le _, rfl, HLC, HLG, HB7⟩
  case round =>
    clear HLC HLG HB7
    obtain ⟨i, hi, rfl, HLC, HLG, HB⟩ := hrel
    obtain ⟨c0, c1⟩ := HC.out _ HB.out
    rcases Nat.lt_or_ge i T with h1 | h1
    · have hiI : (i : Int) < (T : Int) := by omega
      have hi0 : (0 : Int) ≤ (i : Int) := by omega
      have hiL : (i : Int) < (L : Int) := by omega
      have hiL1 : (i : Int) + 1 < (L : Int) := by omega
      have hiw : IntKind.i64.wrap ((i : Int) + 1) = (i : Int) + 1 := by rw [IntKind.wrap_i64]; omega
      have hip : (0 : Int) ≤ (i : Int) + 1 := by omega
      have hin : ((i : Int) + 1).toNat = i + 1 := by omega
      obtain ⟨rb, ro, rc, hro⟩ := HWT.out i (by omega)
      obtain ⟨qb, qo, qc, hqo⟩ := HWT.out (i + 1) (by omega)
      obtain ⟨sb, so, tb, t0, tc, rfl, hto⟩ := HST.out i h1
      have HRO := Hid.mk' hro
      have HQO := Hid.mk' hqo
      have HTO := Hid.mk' hto
      clear hro hqo hto
      have hxi := HX.out i (by omega)
      have hxj := HX.out (i + 1) (by omega)
      have hub0 := HUB.out i (x i) (by omega) hxi
      have hub1 := HUB.out (i + 1) (x i) (by omega) hxi
      have hrb := HRB.out i (x i) h1 hxi
      have hqb := HQB.out i (x i) (x (i + 1)) h1 hxi hxj
      have hsm := HSM.out i (by omega)
      have HPC1 : Hid (pcZ W P x (i + 1) = pcZ W P x i * nQ P i (x i) (x (i + 1)) ∧ pcM n W P x (i + 1) = pcM n W P x i * smU (nQ P i (x i)) n ∧ pgZ W x (i + 1) = pgZ W x i * nU W (i + 1) (x i) ∧ pgM W x (i + 1) = pgM W x i * nU W i (x i)) := ⟨rfl, rfl, rfl, rfl⟩
      have hsn := HSM.out (i + 1) (by omega)
      obtain ⟨sG, xG, lG, cG, yG, mG, kG, hG⟩ := HLG.out
      obtain ⟨sC, xC, lC, cC, yC, mC, kC, hC⟩ := HLC.out
      have HGX := Hid.mk' hG
      have HCX := Hid.mk' hC
      have HBW : Hid (∀ W', Below wr.heap.size wr W' → Below w1.heap.size w1 W') := fun W' hb => below_chain HB.out hb
      have HRA : Hid (∀ W', Below wr.heap.size wr W' → Calls Tryz.prog 44 #[.int .i64 (nU W (i + 1) (x i) : Int), .int .i64 (nU W i (x i) : Int)] W' fun e w' => ∃ r, e = .returned r ∧ LR w' r (nU W i (x i)) (nU W (i + 1) (x i) : Int) ∧ Below W'.heap.size W' w') := fun W' _ => RatioOf_to (nU W (i + 1) (x i)) (nU W i (x i)) (nU W i (x i)) (nU W (i + 1) (x i)) W' (by omega) (by omega) (by omega) (by omega) (by omega) rfl
      have HTG : Hid (∀ W' u q, LR W' u (pgM W x i) (pgZ W x i : Int) → LR W' q (nU W i (x i)) (nU W (i + 1) (x i) : Int) → Calls Tryz.prog 46 #[u, q] W' fun e w' => ∃ r, e = .returned r ∧ LR w' r (pgM W x (i + 1)) (pgZ W x (i + 1) : Int) ∧ Below W'.heap.size W' w') := fun W' u q hu hq => RTimes_to u q _ _ _ _ _ _ W' hu hq (sml_le (by omega) (by omega) (by omega)) (sml_le (by omega) (by omega) (by omega)) (by omega) (by rw [HPC1.out.2.2.1, HPC1.out.2.2.2]; push_cast; rfl)
      have HTC : Hid (∀ W' u q, LR W' u (pcM n W P x i) (pcZ W P x i : Int) → LR W' q (smU (nQ P i (x i)) n) (nQ P i (x i) (x (i + 1)) : Int) → Calls Tryz.prog 46 #[u, q] W' fun e w' => ∃ r, e = .returned r ∧ LR w' r (pcM n W P x (i + 1)) (pcZ W P x (i + 1) : Int) ∧ Below W'.heap.size W' w') := fun W' u q hu hq => RTimes_to u q _ _ _ _ _ _ W' hu hq (sml_le (by omega) (by omega) (by omega)) (sml_le (by omega) (by omega) (by omega)) (by omega) (by rw [HPC1.out.1, HPC1.out.2.1]; push_cast; rfl)
      have HSP : Hid (∀ W', Below w1.heap.size w1 W' → Calls Tryz.prog 47 #[.slice (some ⟨tb, t0, none⟩) n tc, .int .i64 (x i : Int), .int .i64 (x (i + 1) : Int)] W' fun e w' => ∃ r, e = .returned r ∧ LR w' r (smU (nQ P i (x i)) n) (nQ P i (x i) (x (i + 1)) : Int) ∧ Below W'.heap.size W' w') := fun W' hb => (HTO.out W' hb).2 (x i) (x (i + 1)) hxi hxj
      have HP0 : Hid (∀ W', Below w1.heap.size w1 W' → W'.cell? ⟨pb, po + i, none⟩ = some (.int .i64 (x i : Int)) ∧ W'.cell? ⟨pb, po + (i + 1), none⟩ = some (.int .i64 (x (i + 1) : Int))) := fun W' hb => ⟨HPA.out W' i hb (by omega), HPA.out W' (i + 1) hb (by omega)⟩
      have HV0 : Hid (∀ W', Below w1.heap.size w1 W' → W'.cell? ⟨qb, qo + x i, none⟩ = some (.int .i64 (nU W (i + 1) (x i) : Int)) ∧ W'.cell? ⟨rb, ro + x i, none⟩ = some (.int .i64 (nU W i (x i) : Int))) := fun W' hb => ⟨(HQO.out W' hb).2 (x i) hxi, (HRO.out W' hb).2 (x i) hxi⟩
      have hxiI : ((x i : Nat) : Int) < (n : Int) := by omega
      have hxi0 : (0 : Int) ≤ ((x i : Nat) : Int) := by omega
      clear hub0 hub1 hrb hqb hsm hsn hG hC HLC HLG
      generalize nU W (i + 1) (x i) = u1 at HRA HTG HV0
      generalize nU W i (x i) = u0 at HRA HTG HV0
      generalize smU (nQ P i (x i)) n = Ri at HSP HTC
      generalize nQ P i (x i) (x (i + 1)) = Qi at HSP HTC
      generalize x i = xi at HSP HP0 HV0 hxiI hxi0
      generalize x (i + 1) = xj at HSP HP0
      have HKS : Hid (∀ W, Below wr.heap.size wr W → (W.cell? ⟨Bg, 0, none⟩ = some (.bool sG) ∧ W.cell? ⟨Bg, 1, none⟩ = some (.slice xG lG cG) ∧ W.cell? ⟨Bg, 2, none⟩ = some (.slice yG mG kG)) ∧ W.cell? ⟨w.heap.size, 0, none⟩ = some (.slice (some ⟨b, o, none⟩) L cap) ∧ W.cell? ⟨b, o + (i + 1), none⟩ = some (.slice (some ⟨qb, qo, none⟩) n qc) ∧ W.cell? ⟨b, o + i, none⟩ = some (.slice (some ⟨rb, ro, none⟩) n rc) ∧ W.cell? ⟨pb, po + i, none⟩ = some (.int .i64 (xi : Int)) ∧ W.cell? ⟨qb, qo + xi, none⟩ = some (.int .i64 (u1 : Int)) ∧ W.cell? ⟨rb, ro + xi, none⟩ = some (.int .i64 (u0 : Int))) := fun W hb => ⟨⟨(HGX.out.later hb).c0, (HGX.out.later hb).c1, (HGX.out.later hb).c2⟩, (HC.out W (HBW.out W hb)).1, (HQO.out W (HBW.out W hb)).1, (HRO.out W (HBW.out W hb)).1, (HP0.out W (HBW.out W hb)).1, (HV0.out W (HBW.out W hb)).1, (HV0.out W (HBW.out W hb)).2⟩
      have hcur : Below wr.heap.size wr wr.drew := (Below.refl _ _).drew
      go_upto_region 6 with fail
      clear c0 c1
      refine region_but_last (n := 26) (S := fun W => (W.cell? ⟨Bg, 0, none⟩ = some (.bool sG) ∧ W.cell? ⟨Bg, 1, none⟩ = some (.slice xG lG cG) ∧ W.cell? ⟨Bg, 2, none⟩ = some (.slice yG mG kG)) ∧ W.cell? ⟨w.heap.size, 0, none⟩ = some (.slice (some ⟨b, o, none⟩) L cap) ∧ W.cell? ⟨b, o + (i + 1), none⟩ = some (.slice (some ⟨qb, qo, none⟩) n qc) ∧ W.cell? ⟨b, o + i, none⟩ = some (.slice (some ⟨rb, ro, none⟩) n rc) ∧ W.cell? ⟨pb, po + i, none⟩ = some (.int .i64 (xi : Int)) ∧ W.cell? ⟨qb, qo + xi, none⟩ = some (.int .i64 (u1 : Int)) ∧ W.cell? ⟨rb, ro + xi, none⟩ = some (.int .i64 (u0 : Int))) (by kernel_rfl) (by kernel_rfl) (by kernel_rfl) (HKS.out _ hcur) (fun hHeld => ?_)
      refine wpAnyH_take (i := 0) (v := ?v0p) rfl (by kernel_rfl) (by kernel_rfl) (by kernel_rfl) (fun _ _ _ h => h) (Or.inl ⟨by rfl, ?hy0p⟩) (by assumption) ?rest0p
      case hy0p => (intro w hSw; (try dsimp only at hSw); go_simp <;> (try with_reducible rfl))
      simp only [Act.put]
      refine wpAnyH_take (i := 1) (v := ?v1p) rfl (by kernel_rfl) (by kernel_rfl) (by kernel_rfl) (fun _ _ _ h => h) (Or.inl ⟨by rfl, ?hy1p⟩) (by assumption) ?rest1p
      case hy1p => (intro w hSw; (try dsimp only at hSw); go_simp <;> (try with_reducible rfl))
      simp only [Act.put]
      refine wpAnyH_take (i := 2) (v := ?v2p) rfl (by kernel_rfl) (by kernel_rfl) (by kernel_rfl) (fun _ _ _ h => h) (Or.inl ⟨by rfl, ?hy2p⟩) (by assumption) ?rest2p
      case hy2p => (intro w hSw; (try dsimp only at hSw); go_simp <;> (try with_reducible rfl))
      simp only [Act.put]
      refine wpAnyH_take (i := 3) (v := ?v3p) rfl (by kernel_rfl) (by kernel_rfl) (by kernel_rfl) (fun _ _ _ h => h) (Or.inl ⟨by rfl, ?hy3p⟩) (by assumption) ?rest3p
      case hy3p => (intro w hSw; (try dsimp only at hSw); go_simp <;> (try with_reducible rfl))
      simp only [Act.put]
      refine wpAnyH_take (i := 4) (v := ?v4p) rfl (by kernel_rfl) (by kernel_rfl) (by kernel_rfl) (fun _ _ _ h => h) (Or.inl ⟨by rfl, ?hy4p⟩) (by assumption) ?rest4p
      case hy4p => (intro w hSw; (try dsimp only at hSw); go_simp <;> (try with_reducible rfl))
      simp only [Act.put]
      refine wpAnyH_take (i := 5) (v := ?v5p) rfl (by kernel_rfl) (by kernel_rfl) (by kernel_rfl) (fun _ _ _ h => h) (Or.inl ⟨by rfl, ?hy5p⟩) (by assumption) ?rest5p
      case hy5p => (intro w hSw; (try dsimp only at hSw); go_simp <;> (try with_reducible rfl))
      simp only [Act.put]
      refine wpAnyH_take (i := 6) (v := ?v6p) rfl (by kernel_rfl) (by kernel_rfl) (by kernel_rfl) (fun _ _ _ h => h) (Or.inl ⟨by rfl, ?hy6p⟩) (by assumption) ?rest6p
      case hy6p => (intro w hSw; (try dsimp only at hSw); go_simp <;> (try with_reducible rfl))
      simp only [Act.put]
      refine wpAnyH_take (i := 7) (v := ?v7p) rfl (by kernel_rfl) (by kernel_rfl) (by kernel_rfl) (fun _ _ _ h => h) (Or.inl ⟨by rfl, ?hy7p⟩) (by assumption) ?rest7p
      case hy7p => (intro w hSw; (try dsimp only at hSw); go_simp <;> (try with_reducible rfl))
      simp only [Act.put]
      refine wpAnyH_take (i := 8) (v := ?v8p) rfl (by kernel_rfl) (by kernel_rfl) (by kernel_rfl) (fun _ _ _ h => h) (Or.inl ⟨by rfl, ?hy8p⟩) (by assumption) ?rest8p
      case hy8p => (intro w hSw; (try dsimp only at hSw); go_simp <;> (try with_reducible rfl))
      simp only [Act.put]
      refine wpAnyH_take (i := 9) (v := ?v9p) rfl (by kernel_rfl) (by kernel_rfl) (by kernel_rfl) (fun _ _ _ h => h) (Or.inl ⟨by rfl, ?hy9p⟩) (by assumption) ?rest9p
      case hy9p => (intro w hSw; (try dsimp only at hSw); go_simp <;> (try with_reducible rfl))
      simp only [Act.put]
      refine wpAnyH_take (i := 10) (v := ?v10p) rfl (by kernel_rfl) (by kernel_rfl) (by kernel_rfl) (fun _ _ _ h => h) (Or.inl ⟨by rfl, ?hy10p⟩) (by assumption) ?rest10p
      case hy10p => (intro w hSw; (try dsimp only at hSw); go_simp <;> (try with_reducible rfl))
      simp only [Act.put]
      refine wpAnyH_take (i := 11) (v := ?v11p) rfl (by kernel_rfl) (by kernel_rfl) (by kernel_rfl) (fun _ _ _ h => h) (Or.inl ⟨by rfl, ?hy11p⟩) (by assumption) ?rest11p
      case hy11p => (intro w hSw; (try dsimp only at hSw); go_simp <;> (try with_reducible rfl))
      simp only [Act.put]
      refine wpAnyH_take (i := 12) (v := ?v12p) rfl (by kernel_rfl) (by kernel_rfl) (by kernel_rfl) (fun _ _ _ h => h) (Or.inl ⟨by rfl, ?hy12p⟩) (by assumption) ?rest12p
      case hy12p => (intro w hSw; (try dsimp only at hSw); go_simp <;> (try with_reducible rfl))
      simp only [Act.put]
      refine wpAnyH_take (i := 13) (v := ?v13p) rfl (by kernel_rfl) (by kernel_rfl) (by kernel_rfl) (fun _ _ _ h => h) (Or.inl ⟨by rfl, ?hy13p⟩) (by assumption) ?rest13p
      case hy13p => (intro w hSw; (try dsimp only at hSw); go_simp <;> (try with_reducible rfl))
      simp only [Act.put]
      refine wpAnyH_take (i := 14) (v := ?v14p) rfl (by kernel_rfl) (by kernel_rfl) (by kernel_rfl) (fun _ _ _ h => h) (Or.inl ⟨by rfl, ?hy14p⟩) (by assumption) ?rest14p
      case hy14p => (intro w hSw; (try dsimp only at hSw); go_simp <;> (try with_reducible rfl))
      simp only [Act.put]
      refine wpAnyH_take (i := 15) (v := ?v15p) rfl (by kernel_rfl) (by kernel_rfl) (by kernel_rfl) (fun _ _ _ h => h) (Or.inl ⟨by rfl, ?hy15p⟩) (by assumption) ?rest15p
      case hy15p => (intro w hSw; (try dsimp only at hSw); go_simp <;> (try with_reducible rfl))
      simp only [Act.put]
      refine wpAnyH_take (i := 16) (v := ?v16p) rfl (by kernel_rfl) (by kernel_rfl) (by kernel_rfl) (fun _ _ _ h => h) (Or.inl ⟨by rfl, ?hy16p⟩) (by assumption) ?rest16p
      case hy16p => (intro w hSw; (try dsimp only at hSw); go_simp <;> (try with_reducible rfl))
      simp only [Act.put]
      refine wpAnyH_take (i := 17) (v := ?v17p) rfl (by kernel_rfl) (by kernel_rfl) (by kernel_rfl) (fun _ _ _ h => h) (Or.inl ⟨by rfl, ?hy17p⟩) (by assumption) ?rest17p
      case hy17p => (intro w hSw; (try dsimp only at hSw); go_simp <;> (try with_reducible rfl))
      simp only [Act.put]
      refine wpAnyH_take (i := 18) (v := ?v18p) rfl (by kernel_rfl) (by kernel_rfl) (by kernel_rfl) (fun _ _ _ h => h) (Or.inl ⟨by rfl, ?hy18p⟩) (by assumption) ?rest18p
      case hy18p => (intro w hSw; (try dsimp only at hSw); go_simp <;> (try with_reducible rfl))
      simp only [Act.put]
      refine wpAnyH_take (i := 19) (v := ?v19p) rfl (by kernel_rfl) (by kernel_rfl) (by kernel_rfl) (fun _ _ _ h => h) (Or.inl ⟨by rfl, ?hy19p⟩) (by assumption) ?rest19p
      case hy19p => (intro w hSw; (try dsimp only at hSw); go_simp <;> (try with_reducible rfl))
      simp only [Act.put]
      refine wpAnyH_take (i := 20) (v := ?v20p) rfl (by kernel_rfl) (by kernel_rfl) (by kernel_rfl) (fun _ _ _ h => h) (Or.inl ⟨by rfl, ?hy20p⟩) (by assumption) ?rest20p
      case hy20p => (intro w hSw; (try dsimp only at hSw); go_simp <;> (try with_reducible rfl))
      simp only [Act.put]
      refine wpAnyH_take (i := 21) (v := ?v21p) rfl (by kernel_rfl) (by kernel_rfl) (by kernel_rfl) (fun _ _ _ h => h) (Or.inl ⟨by rfl, ?hy21p⟩) (by assumption) ?rest21p
      case hy21p => (intro w hSw; (try dsimp only at hSw); go_simp <;> (try with_reducible rfl))
      simp only [Act.put]
      refine wpAnyH_take (i := 22) (v := ?v22p) rfl (by kernel_rfl) (by kernel_rfl) (by kernel_rfl) (fun _ _ _ h => h) (Or.inl ⟨by rfl, ?hy22p⟩) (by assumption) ?rest22p
      case hy22p => (intro w hSw; (try dsimp only at hSw); go_simp <;> (try with_reducible rfl))
      simp only [Act.put]
      refine wpAnyH_take (i := 23) (v := ?v23p) rfl (by kernel_rfl) (by kernel_rfl) (by kernel_rfl) (fun _ _ _ h => h) (Or.inl ⟨by rfl, ?hy23p⟩) (by assumption) ?rest23p
      case hy23p => (intro w hSw; (try dsimp only at hSw); go_simp <;> (try with_reducible rfl))
      simp only [Act.put]
      refine wpAnyH_ready (rs := [24]) (by kernel_rfl) (by simp) ?_
      refine AllReadyH.cons rfl (fun K hK => ?_) AllReadyH.nil
      go_simp
      refine (HRA.out _ hcur).mono ?_
      rintro e wa ⟨ra, rfl, hra, hba⟩
      obtain ⟨sa, xa, la, ca, ya, ma, ka, rfl⟩ := hra.sl
      have hcur := below_chain hcur hba
      have HVa := Hid.mk' hra
      clear hra hba
      go_wp2_with fail
      refine hK.out _ _ ?_ (fun hHeld => ?_)
      · exact HKS.out _ hcur
      clear hK K
      refine wpAnyH_ready (rs := [25]) (by kernel_rfl) (by simp) ?_
      refine AllReadyH.cons rfl (fun K hK => ?_) AllReadyH.nil
      go_simp
      refine (HTG.out _ _ _ (HGX.out.later hcur).rat HVa.out).mono ?_
      rintro e wZ ⟨rZ, rfl, hrZ, hbZ⟩
      obtain ⟨sZ, xZ, lZ, cZ, yZ, mZ, kZ, rfl⟩ := hrZ.sl
      have hcur := below_chain hcur hbZ
      have hL9 := HGX.out.later hcur
      have fz0 := hL9.fz 0 (by decide)
      have fz1 := hL9.fz 1 (by decide)
      have fz2 := hL9.fz 2 (by decide)
      have k0 := hL9.c0
      have k1 := hL9.c1
      have k2 := hL9.c2
      obtain ⟨⟨g0, g1⟩, ⟨g2, g3⟩, g4⟩ := put_three' (.bool sZ) (.slice xZ lZ cZ) (.slice yZ mZ kZ) k0 k1 k2
      have HP := Hid.mk' (hL9.put hrZ)
      have HCB := Hid.mk' ((HCX.out.later hcur).aside hL9 HNE.out.symm (.bool sZ) (.slice xZ lZ cZ) (.slice yZ mZ kZ))
      have HB8 := Hid.mk' (set3_below (HBW.out _ hcur) HGB.out.2 (.bool sZ) (.slice xZ lZ cZ) (.slice yZ mZ kZ))
      clear hL9 hrZ hbZ
      go_wp2_with fail
      refine hK.out _ _ ?_ (fun hHeld => ?_)
      · exact HKS.out _ hcur
      clear hK K
      refine wpAnyH_done (by kernel_rfl) ?_ _
      refine ahead_last rfl (fun K hK => ?_)
      go_simp
      refine hK _ _ ?_
      clear hK K
      unfold put3 at HP HCB
      clear HKS HRA HTG HVa hHeld hcur k0 k1 k2 fz0 fz1 fz2 g0 g1 g2 g3 g4 HGX HCX HBW HB HV0
      generalize ((wZ.setCell ⟨Bg, 0, none⟩ (.bool sZ)).setCell ⟨Bg, 1, none⟩ (.slice xZ lZ cZ)).setCell ⟨Bg, 2, none⟩ (.slice yZ mZ kZ) = wh at *
      obtain ⟨c0, c1⟩ := HC.out _ HB8.out
      have HKS : Hid (∀ W, Below wh.heap.size wh W → (W.cell? ⟨Bc, 0, none⟩ = some (.bool sC) ∧ W.cell? ⟨Bc, 1, none⟩ = some (.slice xC lC cC) ∧ W.cell? ⟨Bc, 2, none⟩ = some (.slice yC mC kC)) ∧ W.cell? ⟨w.heap.size, 1, none⟩ = some (.slice (some ⟨sb, so, none⟩) T sc) ∧ W.cell? ⟨sb, so + i, none⟩ = some (.slice (some ⟨tb, t0, none⟩) n tc) ∧ W.cell? ⟨pb, po + i, none⟩ = some (.int .i64 (xi : Int)) ∧ W.cell? ⟨pb, po + (i + 1), none⟩ = some (.int .i64 (xj : Int))) := fun W hb => ⟨⟨(HCB.out.later hb).c0, (HCB.out.later hb).c1, (HCB.out.later hb).c2⟩, (HC.out W (below_chain HB8.out hb)).2, (HTO.out W (below_chain HB8.out hb)).1, (HP0.out W (below_chain HB8.out hb)).1, (HP0.out W (below_chain HB8.out hb)).2⟩
      have hcur : Below wh.heap.size wh wh.drew := (Below.refl _ _).drew
      go_upto_region 7 with fail
      clear c0 c1
      refine region_but_last (n := 17) (S := fun W => (W.cell? ⟨Bc, 0, none⟩ = some (.bool sC) ∧ W.cell? ⟨Bc, 1, none⟩ = some (.slice xC lC cC) ∧ W.cell? ⟨Bc, 2, none⟩ = some (.slice yC mC kC)) ∧ W.cell? ⟨w.heap.size, 1, none⟩ = some (.slice (some ⟨sb, so, none⟩) T sc) ∧ W.cell? ⟨sb, so + i, none⟩ = some (.slice (some ⟨tb, t0, none⟩) n tc) ∧ W.cell? ⟨pb, po + i, none⟩ = some (.int .i64 (xi : Int)) ∧ W.cell? ⟨pb, po + (i + 1), none⟩ = some (.int .i64 (xj : Int))) (by kernel_rfl) (by kernel_rfl) (by kernel_rfl) (HKS.out _ hcur) (fun hHeld => ?_)
      refine wpAnyH_take (i := 0) (v := ?v0q) rfl (by kernel_rfl) (by kernel_rfl) (by kernel_rfl) (fun _ _ _ h => h) (Or.inl ⟨by rfl, ?hy0q⟩) (by assumption) ?rest0q
      case hy0q => (intro w hSw; (try dsimp only at hSw); go_simp <;> (try with_reducible rfl))
      simp only [Act.put]
      refine wpAnyH_take (i := 1) (v := ?v1q) rfl (by kernel_rfl) (by kernel_rfl) (by kernel_rfl) (fun _ _ _ h => h) (Or.inl ⟨by rfl, ?hy1q⟩) (by assumption) ?rest1q
      case hy1q => (intro w hSw; (try dsimp only at hSw); go_simp <;> (try with_reducible rfl))
      simp only [Act.put]
      refine wpAnyH_take (i := 2) (v := ?v2q) rfl (by kernel_rfl) (by kernel_rfl) (by kernel_rfl) (fun _ _ _ h => h) (Or.inl ⟨by rfl, ?hy2q⟩) (by assumption) ?rest2q
      case hy2q => (intro w hSw; (try dsimp only at hSw); go_simp <;> (try with_reducible rfl))
      simp only [Act.put]
      refine wpAnyH_take (i := 3) (v := ?v3q) rfl (by kernel_rfl) (by kernel_rfl) (by kernel_rfl) (fun _ _ _ h => h) (Or.inl ⟨by rfl, ?hy3q⟩) (by assumption) ?rest3q
      case hy3q => (intro w hSw; (try dsimp only at hSw); go_simp <;> (try with_reducible rfl))
      simp only [Act.put]
      refine wpAnyH_take (i := 4) (v := ?v4q) rfl (by kernel_rfl) (by kernel_rfl) (by kernel_rfl) (fun _ _ _ h => h) (Or.inl ⟨by rfl, ?hy4q⟩) (by assumption) ?rest4q
      case hy4q => (intro w hSw; (try dsimp only at hSw); go_simp <;> (try with_reducible rfl))
      simp only [Act.put]
      refine wpAnyH_take (i := 5) (v := ?v5q) rfl (by kernel_rfl) (by kernel_rfl) (by kernel_rfl) (fun _ _ _ h => h) (Or.inl ⟨by rfl, ?hy5q⟩) (by assumption) ?rest5q
      case hy5q => (intro w hSw; (try dsimp only at hSw); go_simp <;> (try with_reducible rfl))
      simp only [Act.put]
      refine wpAnyH_take (i := 6) (v := ?v6q) rfl (by kernel_rfl) (by kernel_rfl) (by kernel_rfl) (fun _ _ _ h => h) (Or.inl ⟨by rfl, ?hy6q⟩) (by assumption) ?rest6q
      case hy6q => (intro w hSw; (try dsimp only at hSw); go_simp <;> (try with_reducible rfl))
      simp only [Act.put]
      refine wpAnyH_take (i := 7) (v := ?v7q) rfl (by kernel_rfl) (by kernel_rfl) (by kernel_rfl) (fun _ _ _ h => h) (Or.inl ⟨by rfl, ?hy7q⟩) (by assumption) ?rest7q
      case hy7q => (intro w hSw; (try dsimp only at hSw); go_simp <;> (try with_reducible rfl))
      simp only [Act.put]
      refine wpAnyH_take (i := 8) (v := ?v8q) rfl (by kernel_rfl) (by kernel_rfl) (by kernel_rfl) (fun _ _ _ h => h) (Or.inl ⟨by rfl, ?hy8q⟩) (by assumption) ?rest8q
      case hy8q => (intro w hSw; (try dsimp only at hSw); go_simp <;> (try with_reducible rfl))
      simp only [Act.put]
      refine wpAnyH_take (i := 9) (v := ?v9q) rfl (by kernel_rfl) (by kernel_rfl) (by kernel_rfl) (fun _ _ _ h => h) (Or.inl ⟨by rfl, ?hy9q⟩) (by assumption) ?rest9q
      case hy9q => (intro w hSw; (try dsimp only at hSw); go_simp <;> (try with_reducible rfl))
      simp only [Act.put]
      refine wpAnyH_take (i := 10) (v := ?v10q) rfl (by kernel_rfl) (by kernel_rfl) (by kernel_rfl) (fun _ _ _ h => h) (Or.inl ⟨by rfl, ?hy10q⟩) (by assumption) ?rest10q
      case hy10q => (intro w hSw; (try dsimp only at hSw); go_simp <;> (try with_reducible rfl))
      simp only [Act.put]
      refine wpAnyH_take (i := 11) (v := ?v11q) rfl (by kernel_rfl) (by kernel_rfl) (by kernel_rfl) (fun _ _ _ h => h) (Or.inl ⟨by rfl, ?hy11q⟩) (by assumption) ?rest11q
      case hy11q => (intro w hSw; (try dsimp only at hSw); go_simp <;> (try with_reducible rfl))
      simp only [Act.put]
      refine wpAnyH_take (i := 12) (v := ?v12q) rfl (by kernel_rfl) (by kernel_rfl) (by kernel_rfl) (fun _ _ _ h => h) (Or.inl ⟨by rfl, ?hy12q⟩) (by assumption) ?rest12q
      case hy12q => (intro w hSw; (try dsimp only at hSw); go_simp <;> (try with_reducible rfl))
      simp only [Act.put]
      refine wpAnyH_take (i := 13) (v := ?v13q) rfl (by kernel_rfl) (by kernel_rfl) (by kernel_rfl) (fun _ _ _ h => h) (Or.inl ⟨by rfl, ?hy13q⟩) (by assumption) ?rest13q
      case hy13q => (intro w hSw; (try dsimp only at hSw); go_simp <;> (try with_reducible rfl))
      simp only [Act.put]
      refine wpAnyH_take (i := 14) (v := ?v14q) rfl (by kernel_rfl) (by kernel_rfl) (by kernel_rfl) (fun _ _ _ h => h) (Or.inl ⟨by rfl, ?hy14q⟩) (by assumption) ?rest14q
      case hy14q => (intro w hSw; (try dsimp only at hSw); go_simp <;> (try with_reducible rfl))
      simp only [Act.put]
      refine wpAnyH_ready (rs := [15]) (by kernel_rfl) (by simp) ?_
      refine AllReadyH.cons rfl (fun K hK => ?_) AllReadyH.nil
      go_simp
      refine (HSP.out _ (below_chain HB8.out hcur)).mono ?_
      rintro e wd ⟨rd, rfl, hrd, hbd⟩
      obtain ⟨sd, xd, ld, cd, yd, md, kd, rfl⟩ := hrd.sl
      have hcur := below_chain hcur hbd
      have HVd := Hid.mk' hrd
      clear hrd hbd
      go_wp2_with fail
      refine hK.out _ _ ?_ (fun hHeld => ?_)
      · exact HKS.out _ hcur
      clear hK K
      refine wpAnyH_ready (rs := [16]) (by kernel_rfl) (by simp) ?_
      refine AllReadyH.cons rfl (fun K hK => ?_) AllReadyH.nil
      go_simp
      refine (HTC.out _ _ _ (HCB.out.later hcur).rat HVd.out).mono ?_
      rintro e wf ⟨rf, rfl, hrf, hbf⟩
      obtain ⟨sf, xf, lf, cf, yf, mf, kf, rfl⟩ := hrf.sl
      have hcur := below_chain hcur hbf
      have hL9 := HCB.out.later hcur
      have fz0 := hL9.fz 0 (by decide)
      have fz1 := hL9.fz 1 (by decide)
      have fz2 := hL9.fz 2 (by decide)
      have k0 := hL9.c0
      have k1 := hL9.c1
      have k2 := hL9.c2
      obtain ⟨⟨g0, g1⟩, ⟨g2, g3⟩, g4⟩ := put_three' (.bool sf) (.slice xf lf cf) (.slice yf mf kf) k0 k1 k2
      have HPN := Hid.mk' (hL9.put hrf)
      have HGN := Hid.mk' ((HP.out.later hcur).aside hL9 HNE.out (.bool sf) (.slice xf lf cf) (.slice yf mf kf))
      have HB9 := Hid.mk' (set3_below (below_chain HB8.out hcur) HGB.out.1 (.bool sf) (.slice xf lf cf) (.slice yf mf kf))
      clear hL9 hrf hbf
      go_wp2_with fail
      refine hK.out _ _ ?_ (fun hHeld => ?_)
      · exact HKS.out _ hcur
      clear hK K
      refine wpAnyH_done (by kernel_rfl) ?_ _
      refine ahead_last rfl (fun K hK => ?_)
      go_simp
      refine hK _ _ ?_
      clear hK K
      unfold put3 at HPN HGN
      clear HKS HSP HTC HVd hHeld hcur k0 k1 k2 fz0 fz1 fz2 g0 g1 g2 g3 g4 HCB HP HP0
      generalize ((wf.setCell ⟨Bc, 0, none⟩ (.bool sf)).setCell ⟨Bc, 1, none⟩ (.slice xf lf cf)).setCell ⟨Bc, 2, none⟩ (.slice yf mf kf) = wn at *
      obtain ⟨c0, c1⟩ := HC.out _ HB9.out
      go_wp2_with fail
      exact ⟨⟨i + 1, h1, by go_num, ⟨_, _, _, _, _, _, _, HPN.out⟩, ⟨_, _, _, _, _, _, _, HGN.out⟩, HB9⟩, by simp [intOf]; omega⟩
    · obtain rfl : i = T := by omega
      have hiI : ¬ ((i : Int) < (i : Int)) := by omega
      obtain ⟨sG, xG, lG, cG, yG, mG, kG, hG⟩ := HLG.out
      obtain ⟨sC, xC, lC, cC, yC, mC, kC, hC⟩ := HLC.out
      obtain ⟨hF1, hF2⟩ := HR1.out wr HB.out
      have HGX := Hid.mk' hG
      have HCX := Hid.mk' hC
      have HF1 := Hid.mk' hF1
      have HF2 := Hid.mk' hF2
      have HSL := Hid.mk' (cell_lt hC.c0)
      have hsl := HSZ.out
      have hg1 := HGB.out.1
      have hg2 := HGB.out.2
      have A1 := hF1.put hC.rat
      have B1 := hF2.aside hF1 (by omega) (.bool sC) (.slice xC lC cC) (.slice yC mC kC)
      have G1 := hG.aside hF1 (by omega) (.bool sC) (.slice xC lC cC) (.slice yC mC kC)
      have C1 := hC.aside hF1 (by omega) (.bool sC) (.slice xC lC cC) (.slice yC mC kC)
      have HA2 := Hid.mk' (A1.aside B1 (by omega) (.bool sG) (.slice xG lG cG) (.slice yG mG kG))
      have HB2 := Hid.mk' (B1.put G1.rat)
      have HBE : Hid (Below w.heap.size w (put3 (put3 wr (w.heap.size + 1) (.bool sC) (.slice xC lC cC) (.slice yC mC kC)) (w.heap.size + 1 + 1) (.bool sG) (.slice xG lG cG) (.slice yG mG kG))) := by
        unfold put3
        exact ((((((HEND.out _ HB.out).setCell (by simp) _).setCell (by simp) _).setCell (by simp) _).setCell (by simp; omega) _).setCell (by simp; omega) _).setCell (by simp; omega) _
      have HS1 : Hid (((put3 wr (w.heap.size + 1) (.bool sC) (.slice xC lC cC) (.slice yC mC kC)).cell? ⟨Bc, 0, none⟩ = some (.bool sC) ∧ (put3 wr (w.heap.size + 1) (.bool sC) (.slice xC lC cC) (.slice yC mC kC)).cell? ⟨Bc, 1, none⟩ = some (.slice xC lC cC) ∧ (put3 wr (w.heap.size + 1) (.bool sC) (.slice xC lC cC) (.slice yC mC kC)).cell? ⟨Bc, 2, none⟩ = some (.slice yC mC kC)) ∧ (put3 wr (w.heap.size + 1) (.bool sC) (.slice xC lC cC) (.slice yC mC kC)).cell? ⟨Bg, 0, none⟩ = some (.bool sG) ∧ (put3 wr (w.heap.size + 1) (.bool sC) (.slice xC lC cC) (.slice yC mC kC)).cell? ⟨Bg, 1, none⟩ = some (.slice xG lG cG) ∧ (put3 wr (w.heap.size + 1) (.bool sC) (.slice xC lC cC) (.slice yC mC kC)).cell? ⟨Bg, 2, none⟩ = some (.slice yG mG kG)) := ⟨⟨C1.c0, C1.c1, C1.c2⟩, G1.c0, G1.c1, G1.c2⟩
      obtain ⟨⟨p0, p1⟩, _, _⟩ := put_three' (.bool sC) (.slice xC lC cC) (.slice yC mC kC) hF1.c0 hF1.c1 hF1.c2
      obtain ⟨⟨t8, t9⟩, _, _⟩ := put_three' (.bool sG) (.slice xG lG cG) (.slice yG mG kG) B1.c0 B1.c1 B1.c2
      have q0 := hF1.c0
      have q1 := hF1.c1
      have q2 := hF1.c2
      have q3 := hF1.fz 0 (by decide)
      have q4 := hF1.fz 1 (by decide)
      have q5 := hF1.fz 2 (by decide)
      have b0 := B1.c0
      have b1 := B1.c1
      have b2 := B1.c2
      have b3 := B1.fz 0 (by decide)
      have b4 := B1.fz 1 (by decide)
      have b5 := B1.fz 2 (by decide)
      have HSD : Hid ((wr.drew.cell? ⟨Bc, 0, none⟩ = some (.bool sC) ∧ wr.drew.cell? ⟨Bc, 1, none⟩ = some (.slice xC lC cC) ∧ wr.drew.cell? ⟨Bc, 2, none⟩ = some (.slice yC mC kC)) ∧ wr.drew.cell? ⟨Bg, 0, none⟩ = some (.bool sG) ∧ wr.drew.cell? ⟨Bg, 1, none⟩ = some (.slice xG lG cG) ∧ wr.drew.cell? ⟨Bg, 2, none⟩ = some (.slice yG mG kG)) := ⟨⟨hC.c0, hC.c1, hC.c2⟩, hG.c0, hG.c1, hG.c2⟩
      unfold put3 at HS1 b0 b1 b2 b3 b4 b5 t8 t9 HA2 HB2 HBE
      clear A1 B1 G1 C1 hG hC HLC HLG hF1 hF2 HGX HCX HF1 HF2
      go_upto_region 8 with fail
      obtain ⟨⟨h0a, h0b, h0c⟩, h0d, h0e, h0f⟩ := HSD.out
      obtain ⟨⟨h1a, h1b, h1c⟩, h1d, h1e, h1f⟩ := HS1.out
      go_region
      all_goals
        have HA9 := Hid.mk' (HA2.out.later (Below.refl _ _).drew)
        have HB9 := Hid.mk' (HB2.out.later (Below.refl _ _).drew)
        have HE9 := Hid.mk' HBE.out.drew
        clear h0a h0b h0c h0d h0e h0f h1a h1b h1c h1d h1e h1f b0 b1 b2 b3 b4 b5 q0 q1 q2 q3 q4 q5 t8 t9 p0 p1 HS1 HSD HA2 HB2 HBE HC HEND HWT HST HPA HR1
        generalize ((((((wr.setCell ⟨w.heap.size + 1, 0, none⟩ (.bool sC)).setCell ⟨w.heap.size + 1, 1, none⟩ (.slice xC lC cC)).setCell ⟨w.heap.size + 1, 2, none⟩ (.slice yC mC kC)).setCell ⟨w.heap.size + 1 + 1, 0, none⟩ (.bool sG)).setCell ⟨w.heap.size + 1 + 1, 1, none⟩ (.slice xG lG cG)).setCell ⟨w.heap.size + 1 + 1, 2, none⟩ (.slice yG mG kG)).drew = W9 at *
        go_wp2_with fail
        exact bodyPost_ret (v := .tuple #[.agg #[.bool sC, .slice xC lC cC, .slice yC mC kC], .agg #[.bool sG, .slice xG lG cG, .slice yG mG kG]]) (by simp [results, Tryz.results19, go_sem, HA9.out.c0, HA9.out.c1, HA9.out.c2, HB9.out.c0, HB9.out.c1, HB9.out.c2]) rfl ⟨_, _, rfl, HA9.out.rat, HB9.out.rat, HE9.out⟩
end Go.Proofs.YthomgmhmbalnbaaGreatDoor

/- The mean of the gain, path by path, in whole numbers over one denominator: JARZYNSKI. -/
namespace Go.Proofs.YthomgmhmbalnbaaGreatDoor
open Go.RowKit

/-- A path with a state more; so many states at its end are told. -/
def pthX (x : Nat → Nat) (j y : Nat) : Nat → Nat := fun i => if i = j then y else x i
/-- All weights and sums of rows of the first t times, multiplied. -/
def denU (n : Nat) (W : Nat → Nat → Int) (P : Nat → Nat → Nat → Int) : Nat → Nat
  | 0 => 1
  | t + 1 => denU n W P t * (prdU (nU W t) n * prdU (fun i => smU (nQ P t i) n) n)
/-- The chance times the gain of the first t steps, times S0 and all denominators. -/
def pthZ (n : Nat) (W : Nat → Nat → Int) (P : Nat → Nat → Nat → Int) (x : Nat → Nat) : Nat → Nat
  | 0 => nU W 0 (x 0)
  | t + 1 => pthZ n W P x t * (prdX (nU W t) (x t) n * nU W (t + 1) (x t)) * (prdX (fun i => smU (nQ P t i) n) (x t) n * nQ P t (x t) (x (t + 1)))
theorem pthZ_at {n : Nat} {W : Nat → Nat → Int} {P : Nat → Nat → Nat → Int} {x : Nat → Nat} : ∀ {t : Nat}, (∀ i, i ≤ t → x i < n) → pthZ n W P x t * (pcM n W P x t * pgM W x t) = pcZ W P x t * pgZ W x t * (smU (nU W 0) n * denU n W P t)
  | 0, _ => by simp only [pthZ, pcM, pgM, pcZ, pgZ, denU, Nat.mul_one]
  | t + 1, h => by
    have ih := pthZ_at (n := n) (W := W) (P := P) (x := x) (t := t) (fun i hi => h i (by omega))
    have h1 := prdX_at (u := nU W t) (h t (by omega))
    have h2 := prdX_at (u := fun i => smU (nQ P t i) n) (h t (by omega))
    simp only [pthZ, pcM, pgM, pcZ, pgZ, denU]
    rw [← h1, ← h2]
    generalize pthZ n W P x t = a at *
    generalize pcM n W P x t = b at *
    generalize pgM W x t = c at *
    generalize pcZ W P x t = d at *
    generalize pgZ W x t = e at *
    generalize smU (nU W 0) n = f at *
    generalize denU n W P t = g at *
    generalize prdX (nU W t) (x t) n = k at *
    generalize prdX (fun i => smU (nQ P t i) n) (x t) n = l at *
    generalize nU W (t + 1) (x t) = p at *
    generalize nU W t (x t) = r at *
    generalize nQ P t (x t) (x (t + 1)) = s at *
    generalize smU (nQ P t (x t)) n = v at *
    calc a * (k * p) * (l * s) * (b * v * (c * r)) = (a * (b * c)) * (k * p * (l * s) * v * r) := by grind
      _ = (d * e * (f * g)) * (k * p * (l * s) * v * r) := by rw [ih]
      _ = d * s * (e * p) * (f * (g * (k * r * (l * v)))) := by grind
/-- The sum over all paths that go on from the first j states. -/
def pthS (n T : Nat) (W : Nat → Nat → Int) (P : Nat → Nat → Nat → Int) : Nat → (Nat → Nat) → Nat
  | 0, x => pthZ n W P x T
  | k + 1, x => smU (fun y => pthS n T W P k (pthX x (T - k) y)) n
/-- From a state at time t on: what lies ahead, summed. -/
def aheadS (n T : Nat) (W : Nat → Nat → Int) (P : Nat → Nat → Nat → Int) : Nat → Nat → Nat
  | 0, _ => 1
  | k + 1, i => smU (fun y => (prdX (nU W (T - (k + 1))) i n * nU W (T - (k + 1) + 1) i) * (prdX (fun i => smU (nQ P (T - (k + 1)) i) n) i n * nQ P (T - (k + 1)) i y) * aheadS n T W P k y) n
theorem pthZ_congr {n : Nat} {W : Nat → Nat → Int} {P : Nat → Nat → Nat → Int} {x y : Nat → Nat} : ∀ {t : Nat}, (∀ i, i ≤ t → x i = y i) → pthZ n W P x t = pthZ n W P y t
  | 0, h => by rw [pthZ, pthZ, h 0 (Nat.le_refl _)]
  | t + 1, h => by rw [pthZ, pthZ, pthZ_congr (fun i hi => h i (by omega)), h t (by omega), h (t + 1) (Nat.le_refl _)]
theorem pthS_is {n T : Nat} {W : Nat → Nat → Int} {P : Nat → Nat → Nat → Int} : ∀ {k : Nat} (x : Nat → Nat), k ≤ T → pthS n T W P k x = pthZ n W P x (T - k) * aheadS n T W P k (x (T - k))
  | 0, x, _ => by rw [pthS, aheadS, Nat.mul_one, Nat.sub_zero]
  | k + 1, x, hk => by
    rw [pthS, aheadS, ← smU_mul]
    refine smU_congr fun y _ => ?_
    have e1 : T - k = T - (k + 1) + 1 := by omega
    rw [pthS_is (pthX x (T - k) y) (by omega), e1, pthZ]
    have e2 : pthX x (T - (k + 1) + 1) y (T - (k + 1) + 1) = y := by unfold pthX; rw [if_pos rfl]
    have e3 : pthX x (T - (k + 1) + 1) y (T - (k + 1)) = x (T - (k + 1)) := by unfold pthX; rw [if_neg (by omega)]
    rw [e2, e3, pthZ_congr (x := pthX x (T - (k + 1) + 1) y) (y := x) (fun i hi => by unfold pthX; rw [if_neg (by omega)])]
    generalize pthZ n W P x (T - (k + 1)) = a
    grind
theorem smU_comm {f : Nat → Nat → Nat} (n : Nat) : ∀ m, smU (fun i => smU (fun k => f i k) n) m = smU (fun k => smU (fun i => f i k) m) n
  | 0 => by
    show 0 = _
    have : smU (fun k => smU (fun i => f i k) 0) n = smU (fun _ => 0 * 0) n := rfl
    rw [this, smU_mul 0 (fun _ => 0) n, Nat.zero_mul]
  | m + 1 => by
    rw [smU, smU_comm n m]
    have h9 : ∀ (u v : Nat → Nat) (n : Nat), smU u n + smU v n = smU (fun k => u k + v k) n := fun u v n => by
      induction n with
      | zero => rfl
      | succ n ih => rw [smU, smU, smU, ← ih]; omega
    rw [h9]
    rfl
section
variable {L n : Nat} {ns : Nat → Nat} {W : Nat → Nat → Int} {T : Nat} {R : Nat → Nat} {rn : Nat → Nat → Nat} {P : Nat → Nat → Nat → Int}
/-- What is carried and what lies ahead, summed over the states, is the same at all times. -/
theorem OkP.ahead (h : OkP L n ns W T R rn P) : ∀ {k : Nat}, k ≤ T → smU (fun i => nU W (T - k) i * aheadS n T W P k i) n * denU n W P (T - k) = smU (nU W T) n * denU n W P T
  | 0, _ => by
    rw [Nat.sub_zero]
    have : (fun i => nU W T i * aheadS n T W P 0 i) = nU W T := by funext i; rw [aheadS, Nat.mul_one]
    rw [this]
  | k + 1, hk => by
    have ih := h.ahead (k := k) (by omega)
    have hL := h.hL
    have e1 : T - k = T - (k + 1) + 1 := by omega
    rw [e1, denU] at ih
    rw [← ih]
    generalize hs : T - (k + 1) = t at *
    have ht : t < T := by omega
    have hbal := h.balN ht
    have key : smU (fun i => nU W t i * aheadS n T W P (k + 1) i) n = smU (fun y => nU W (t + 1) y * aheadS n T W P k y) n * (prdU (nU W t) n * prdU (fun i => smU (nQ P t i) n) n) := by
      have e2 : ∀ i, i < n → nU W t i * aheadS n T W P (k + 1) i = smU (fun y => prdU (nU W t) n * (nU W (t + 1) i * prdX (fun i => smU (nQ P t i) n) i n * nQ P t i y) * aheadS n T W P k y) n := fun i hi => by
        rw [aheadS, hs, ← smU_mul]
        refine smU_congr fun y _ => ?_
        have h1 := prdX_at (u := nU W t) hi
        rw [← h1]
        generalize prdX (nU W t) i n = a
        generalize prdX (fun i => smU (nQ P t i) n) i n = b
        grind
      rw [smU_congr e2, smU_comm, ← smU_mulR]
      refine smU_congr fun y hy => ?_
      have h2 := bal_keeps hbal (fun k' hk' => (h.r_bd ht hk').1) hy
      have e3 : smU (fun i => prdU (nU W t) n * (nU W (t + 1) i * prdX (fun i => smU (nQ P t i) n) i n * nQ P t i y) * aheadS n T W P k y) n = prdU (nU W t) n * aheadS n T W P k y * smU (fun i => nU W (t + 1) i * prdX (fun i => smU (nQ P t i) n) i n * nQ P t i y) n := by
        rw [← smU_mul]
        exact smU_congr fun i _ => by grind
      rw [e3, h2]
      grind
    rw [key]
    grind
/-- JARZYNSKI, path by path. -/
theorem OkP.jarzynski (h : OkP L n ns W T R rn P) (x : Nat → Nat) : pthS n T W P (T + 1) x = smU (nU W T) n * denU n W P T := by
  have h1 := h.ahead (k := T) (Nat.le_refl _)
  rw [Nat.sub_self, denU, Nat.mul_one] at h1
  rw [← h1]
  show smU (fun y => pthS n T W P T (pthX x (T - T) y)) n = _
  refine smU_congr fun y _ => ?_
  rw [pthS_is _ (Nat.le_refl _), Nat.sub_self]
  have e2 : pthX x 0 y 0 = y := by unfold pthX; rw [if_pos rfl]
  rw [pthZ, e2]
end
end Go.Proofs.YthomgmhmbalnbaaGreatDoor

/- The document's mean gain, path by path. -/
namespace Go.Proofs.YthomgmhmbalnbaaGreatDoor
open Go.RowKit

theorem Tryz.infoIg : (Tryz.prog.info? 3).map (fun i => (i.zero, i.size, i.bytes)) = some (some (.int .i64 0), 1, 8) := by kernel_rfl
/-- What is small enough. -/
def GSm (n T : Nat) (W : Nat → Nat → Int) (P : Nat → Nat → Nat → Int) : Prop := 0 < smU (nU W 0) n * denU n W P T ∧ smU (nU W 0) n * denU n W P T < 1000000 ^ 60 ∧ ∀ k x j, k ≤ T → (∀ i, i < T - k → x i < n) → j ≤ n → smU (fun y => pthS n T W P k (pthX x (T - k) y)) j < 1000000 ^ 60
theorem RPlus_z (u v : Value) (M z1 z2 : Nat) (w : World) (hu : LR w u M (z1 : Int)) (hv : LR w v M (z2 : Int)) (hM : 0 < M) (hM2 : M < 1000000 ^ 60) (h1 : z1 < 1000000 ^ 60) (h2 : z2 < 1000000 ^ 60) :
    Calls Tryz.prog 62 #[u, v] w fun e w' => ∃ r, e = .returned r ∧ LR w' r M ((z1 + z2 : Nat) : Int) ∧ Below w.heap.size w w' :=
  RPlus_to u v M M M z1 z2 _ w hu hv ⟨hM, hM2, by rw [Int.natAbs_natCast]; exact h1⟩ ⟨hM, hM2, by rw [Int.natAbs_natCast]; exact h2⟩ hM (by push_cast; grind)
theorem own_pastG {w w' : World} {base : Nat} {t : TypeId} {sz : Nat} {v : Value} {n : Nat} {xs : List Value} (h : w.ownsRow base t sz v n xs) (hb : Below w.heap.size w w') : w'.ownsRow base t sz v n xs := by
  obtain ⟨hl, hr⟩ := h
  refine ⟨hl, ?_⟩
  rcases hr with hr | ⟨g, cap, cur, hv, hb1, hh, rest⟩
  · exact Or.inl hr
  · exact Or.inr ⟨g, cap, cur, hv, hb1, by rw [hb.block g (heap_lt hh)]; exact hh, rest⟩
theorem numCells_same {z u : Nat → Int} : ∀ {m : Nat}, (∀ i, i < m → z i = u i) → numCells z m = numCells u m
  | 0, _ => rfl
  | m + 1, h => by rw [numCells, numCells, numCells_same (fun i hi => h i (by omega)), h m (by omega)]
theorem pth_cells (x : Nat → Nat) (m y : Nat) : numCells (fun i => (pthX x m y i : Int)) (m + 1) = numCells (fun i => (x i : Int)) m ++ [.int .i64 (y : Int)] := by
  rw [numCells, numCells_same (u := fun i => (x i : Int)) (fun i hi => by unfold pthX; rw [if_neg (by omega)])]
  unfold pthX
  rw [if_pos rfl]

set_option maxRecDepth 100000 in
set_option maxHeartbeats 16000000 in
theorem gainFrom_to (v : Value) (L n : Nat) (vs : Nat → Value) (ns : Nat → Nat) (W : Nat → Nat → Int) (sv : Value) (T : Nat) (tv : Nat → Value) (R : Nat → Nat) (rv : Nat → Nat → Value) (rn : Nat → Nat → Nat) (P : Nat → Nat → Nat → Int) (hOK : OkP L n ns W T R rn P) (hG : GSm n T W P) : ∀ (k : Nat) (x : Nat → Nat) (pv : Value) (w : World), k ≤ T + 1 → TabAt w v L vs ns W → StpAt w sv T tv R rv rn P → NumsAt w pv (T + 1 - k) (fun i => (x i : Int)) → (∀ i, i < T + 1 - k → x i < n) →
    Calls Tryz.prog 32 #[.agg #[v, sv], pv] w fun e w' => ∃ r, e = .returned r ∧ LR w' r (smU (nU W 0) n * denU n W P T) (pthS n T W P k x : Int) ∧ Below w.heap.size w w' := by
  intro k
  induction k with
  | zero =>
    intro x pv w _ h hS hp hx
    have hL4 := hOK.hL
    have hT4 := hOK.hT
    have hn0 := hOK.n0
    have hn4 := hOK.n4
    obtain ⟨b, o, cap, hve, hr⟩ := tab_of h (by omega)
    subst hve
    obtain ⟨sa, sc, hse⟩ := hS.form
    subst hse
    obtain ⟨w1, hw1⟩ : ∃ w1, w1 = (w.alloc (.cells #[.slice (some ⟨b, o, none⟩) L cap, .slice sa T sc] 25)).alloc (.cells #[.bool false, .slice none 0 0, .slice none 0 0] 46) := ⟨_, rfl⟩
    have hb1 : Below w.heap.size w w1 := by rw [hw1]; exact ((Below.refl _ _).alloc (Nat.le_refl _) _).alloc (by simp) _
    have c0 : w1.cell? ⟨w.heap.size, 0, none⟩ = some (.slice (some ⟨b, o, none⟩) L cap) := by rw [hw1, World.cell?_alloc_lt _ _ ⟨w.heap.size, 0, none⟩ (by simp), World.cell?_alloc_at _ _ _ _ rfl]; rfl
    have c1 : w1.cell? ⟨w.heap.size, 1, none⟩ = some (.slice sa T sc) := by rw [hw1, World.cell?_alloc_lt _ _ ⟨w.heap.size, 1, none⟩ (by simp), World.cell?_alloc_at _ _ _ _ rfl]; rfl
    have HR1 : Hid (∀ W', Below w1.heap.size w1 W' → RBox W' (w.heap.size + 1) false none 0 0 none 0 0 0 0) := fun W' hb => by
      have g1 : RBox w1 (w.heap.size + 1) false none 0 0 none 0 0 0 0 := by
        have := RBox.fresh (w := w.alloc (.cells #[.slice (some ⟨b, o, none⟩) L cap, .slice sa T sc] 25)) (n := 0) (d := 0) (s := false) ⟨_, _, rfl, big_none _, big_none _⟩
        rw [World.size_alloc] at this
        rw [hw1]; exact this
      exact g1.later hb
    have hsz : w.heap.size + 1 < w1.heap.size := by rw [hw1]; simp
    have HSZ := Hid.mk' hsz
    have HC : Hid (∀ W', Below w1.heap.size w1 W' → W'.cell? ⟨w.heap.size, 0, none⟩ = some (.slice (some ⟨b, o, none⟩) L cap) ∧ W'.cell? ⟨w.heap.size, 1, none⟩ = some (.slice sa T sc)) := fun W' hb => ⟨by rw [hb.cell (cell_lt c0)]; exact c0, by rw [hb.cell (cell_lt c1)]; exact c1⟩
    have HEND : Hid (∀ W', Below w1.heap.size w1 W' → Below w.heap.size w W') := fun W' hb => hb1.trans (hb.mono hb1.size)
    have HW1 := Hid.mk' hw1
    have HTA : Hid (∀ W', Below w1.heap.size w1 W' → TabAt W' (.slice (some ⟨b, o, none⟩) L cap) L vs ns W) := fun W' hb => h.later (HEND.out W' hb)
    have HSA : Hid (∀ W', Below w1.heap.size w1 W' → StpAt W' (.slice sa T sc) T tv R rv rn P) := fun W' hb => hS.later (HEND.out W' hb)
    rw [Nat.sub_zero] at hp hx
    have hLT : T + 1 = L := by omega
    rw [hLT] at hp hx
    obtain ⟨pb, po, pc, hpe, hpr⟩ := row_of hp (by omega)
    subst hpe
    have HPC := Hid.mk' (fun (W' : World) (hb : Below w1.heap.size w1 W') => PathChance_to (.slice (some ⟨b, o, none⟩) L cap) L n vs ns W (.slice sa T sc) T tv R rv rn P pb po pc x W' (HTA.out W' hb) (HSA.out W' hb) hOK (hpr.later (HEND.out W' hb)) hx)
    obtain ⟨a1, a2, a3, a4, a5, a6, _⟩ := hOK.path_sml hx (Nat.le_refl _)
    have hpz := pthZ_at (n := n) (W := W) (P := P) (x := x) (t := T) (fun i hi => hx i (by omega))
    have HTM : Hid (∀ W' u q, LR W' u (pcM n W P x T) (pcZ W P x T : Int) → LR W' q (pgM W x T) (pgZ W x T : Int) → Calls Tryz.prog 46 #[u, q] W' fun e w' => ∃ r, e = .returned r ∧ LR w' r (smU (nU W 0) n * denU n W P T) (pthS n T W P 0 x : Int) ∧ Below W'.heap.size W' w') := fun W' u q hu hq => RTimes_to u q _ _ _ _ _ _ W' hu hq (sml_le a2 (by omega) (by omega)) (sml_le a5 (by omega) (by omega)) hG.1 (by rw [pthS]; exact_mod_cast hpz.symm)
    have hLI : (L : Int) ≤ 5 := by omega
    clear h hS hp hpr hx hb1 hw1 hsz hr hL4 hLT a1 a2 a3 a4 a5 a6 hpz
    go_enter Tryz.func32, Tryz.ntmps32
    go_upto_region 1 with fail
    rw [← HW1.out]
    go_wp2_with fail
    refine (HPC.out w1 (Below.refl _ _)).mono ?_
    rintro e w2 ⟨r2, q2, rfl, hr2, hq2, hb2⟩
    obtain ⟨sr, xr, lr, cr, yr, mr, kr, rfl⟩ := hr2.sl
    obtain ⟨sq, xq, lq, cq, yq, mq, kq, rfl⟩ := hq2.sl
    have hA := (Below.refl w2.heap.size w2).alloc (Nat.le_refl _) (.cells #[.bool sr, .slice xr lr cr, .slice yr mr kr] 46)
    have hB := (Below.refl (w2.alloc (.cells #[.bool sr, .slice xr lr cr, .slice yr mr kr] 46)).heap.size (w2.alloc (.cells #[.bool sr, .slice xr lr cr, .slice yr mr kr] 46))).alloc (Nat.le_refl _) (.cells #[.bool sq, .slice xq lq cq, .slice yq mq kq] 46)
    have hAB := below_chain hA hB
    have HT4 := Hid.mk' (HTM.out _ _ _ (hr2.later hAB) (hq2.later hAB))
    have HB4 := Hid.mk' (below_chain hb2 hAB)
    clear hr2 hq2 hb2 hA hB hAB HPC HTM c0 c1
    go_wp2_with fail
    refine HT4.out.mono ?_
    rintro e w5 ⟨r5, rfl, hr5, hb5⟩
    obtain ⟨s5, x5, l5, c5, y5, m5, k5, rfl⟩ := hr5.sl
    have HB5 := Hid.mk' (below_chain HB4.out hb5)
    have hR := HR1.out _ HB5.out
    have y0 := hR.c0
    have y1 := hR.c1
    have y2 := hR.c2
    have f0 := hR.fz 0 (by decide)
    have f1 := hR.fz 1 (by decide)
    have f2 := hR.fz 2 (by decide)
    obtain ⟨⟨g0, g1⟩, ⟨g2, g3⟩, g4⟩ := put_three' (.bool s5) (.slice x5 l5 c5) (.slice y5 m5 k5) y0 y1 y2
    have HP := Hid.mk' (hR.put hr5)
    have HBE : Hid (Below w.heap.size w (((w5.setCell ⟨w.heap.size + 1, 0, none⟩ (.bool s5)).setCell ⟨w.heap.size + 1, 1, none⟩ (.slice x5 l5 c5)).setCell ⟨w.heap.size + 1, 2, none⟩ (.slice y5 m5 k5))) := (((HEND.out _ HB5.out).setCell (by simp) _).setCell (by simp) _).setCell (by simp) _
    clear hR hr5 hb5 HT4 HB4
    unfold put3 at HP
    go_wp2_with fail
    exact bodyPost_ret (v := .agg #[.bool s5, .slice x5 l5 c5, .slice y5 m5 k5]) (by simp [results, Tryz.results32, go_sem, HP.out.c0, HP.out.c1, HP.out.c2]) rfl ⟨_, rfl, HP.out.rat, HBE.out⟩
  | succ k ih =>
    intro x pv w hk h hS hp hx
    have hL4 := hOK.hL
    have hT4 := hOK.hT
    have hn0 := hOK.n0
    have hn4 := hOK.n4
    obtain ⟨b, o, cap, hve, hr⟩ := tab_of h (by omega)
    subst hve
    obtain ⟨sa, sc, hse⟩ := hS.form
    subst hse
    obtain ⟨w1, hw1⟩ : ∃ w1, w1 = (w.alloc (.cells #[.slice (some ⟨b, o, none⟩) L cap, .slice sa T sc] 25)).alloc (.cells #[.bool false, .slice none 0 0, .slice none 0 0] 46) := ⟨_, rfl⟩
    have hb1 : Below w.heap.size w w1 := by rw [hw1]; exact ((Below.refl _ _).alloc (Nat.le_refl _) _).alloc (by simp) _
    have c0 : w1.cell? ⟨w.heap.size, 0, none⟩ = some (.slice (some ⟨b, o, none⟩) L cap) := by rw [hw1, World.cell?_alloc_lt _ _ ⟨w.heap.size, 0, none⟩ (by simp), World.cell?_alloc_at _ _ _ _ rfl]; rfl
    have c1 : w1.cell? ⟨w.heap.size, 1, none⟩ = some (.slice sa T sc) := by rw [hw1, World.cell?_alloc_lt _ _ ⟨w.heap.size, 1, none⟩ (by simp), World.cell?_alloc_at _ _ _ _ rfl]; rfl
    have HR1 : Hid (∀ W', Below w1.heap.size w1 W' → RBox W' (w.heap.size + 1) false none 0 0 none 0 0 0 0) := fun W' hb => by
      have g1 : RBox w1 (w.heap.size + 1) false none 0 0 none 0 0 0 0 := by
        have := RBox.fresh (w := w.alloc (.cells #[.slice (some ⟨b, o, none⟩) L cap, .slice sa T sc] 25)) (n := 0) (d := 0) (s := false) ⟨_, _, rfl, big_none _, big_none _⟩
        rw [World.size_alloc] at this
        rw [hw1]; exact this
      exact g1.later hb
    have hsz : w.heap.size + 1 < w1.heap.size := by rw [hw1]; simp
    have HSZ := Hid.mk' hsz
    have HC : Hid (∀ W', Below w1.heap.size w1 W' → W'.cell? ⟨w.heap.size, 0, none⟩ = some (.slice (some ⟨b, o, none⟩) L cap) ∧ W'.cell? ⟨w.heap.size, 1, none⟩ = some (.slice sa T sc)) := fun W' hb => ⟨by rw [hb.cell (cell_lt c0)]; exact c0, by rw [hb.cell (cell_lt c1)]; exact c1⟩
    have HEND : Hid (∀ W', Below w1.heap.size w1 W' → Below w.heap.size w W') := fun W' hb => hb1.trans (hb.mono hb1.size)
    have HW1 := Hid.mk' hw1
    have HTA : Hid (∀ W', Below w1.heap.size w1 W' → TabAt W' (.slice (some ⟨b, o, none⟩) L cap) L vs ns W) := fun W' hb => h.later (HEND.out W' hb)
    have HSA : Hid (∀ W', Below w1.heap.size w1 W' → StpAt W' (.slice sa T sc) T tv R rv rn P) := fun W' hb => hS.later (HEND.out W' hb)
    have hm : T + 1 - (k + 1) = T - k := by omega
    rw [hm] at hp hx
    obtain ⟨pad, pcap, hpe⟩ := hp.form
    subst hpe
    have HNP : Hid (∀ W', Below w1.heap.size w1 W' → NumsAt W' (.slice pad (T - k) pcap) (T - k) (fun i => (x i : Int))) := fun W' hb => hp.later (HEND.out W' hb)
    have HIH : Hid (∀ (y : Nat) (qv : Value) (W' : World), y < n → Below w1.heap.size w1 W' → NumsAt W' qv (T - k + 1) (fun i => (pthX x (T - k) y i : Int)) → Calls Tryz.prog 32 #[.agg #[.slice (some ⟨b, o, none⟩) L cap, .slice sa T sc], qv] W' fun e w' => ∃ r, e = .returned r ∧ LR w' r (smU (nU W 0) n * denU n W P T) (pthS n T W P k (pthX x (T - k) y) : Int) ∧ Below W'.heap.size W' w') := fun y qv W' hy hb hq => ih (pthX x (T - k) y) qv W' (by omega) (HTA.out W' hb) (HSA.out W' hb) (by rw [show T + 1 - k = T - k + 1 by omega]; exact hq) (fun i hi => by
      unfold pthX
      by_cases e : i = T - k
      · rw [if_pos e]; exact hy
      · rw [if_neg e]; exact hx i (by omega))
    have HR0 : Hid (∀ W', Calls Tryz.prog 44 #[.int .i64 0, .int .i64 1] W' fun e w' => ∃ r, e = .returned r ∧ LR w' r (smU (nU W 0) n * denU n W P T) (((smU (fun y => pthS n T W P k (pthX x (T - k) y)) 0) : Nat) : Int) ∧ Below W'.heap.size W' w') := fun W' => RatioOf_to 0 1 _ _ W' (by decide) (by decide) (by decide) (by decide) hG.1 (by show (0 : Int) * _ = ((0 : Nat) : Int) * _; simp)
    have HPL : Hid (∀ (y : Nat) W' u q, y < n → LR W' u (smU (nU W 0) n * denU n W P T) (((smU (fun y => pthS n T W P k (pthX x (T - k) y)) y) : Nat) : Int) → LR W' q (smU (nU W 0) n * denU n W P T) (pthS n T W P k (pthX x (T - k) y) : Int) → Calls Tryz.prog 62 #[u, q] W' fun e w' => ∃ r, e = .returned r ∧ LR w' r (smU (nU W 0) n * denU n W P T) (((smU (fun y => pthS n T W P k (pthX x (T - k) y)) (y + 1)) : Nat) : Int) ∧ Below W'.heap.size W' w') := fun y W' u q hy hu hq => RPlus_z u q _ _ _ W' hu hq hG.1 hG.2.1 (hG.2.2 k x y (by omega) (fun i hi => hx i (by omega)) (by omega)) (Nat.lt_of_le_of_lt (smU_ge (u := fun y => pthS n T W P k (pthX x (T - k) y)) (Nat.lt_succ_self y)) (hG.2.2 k x (y + 1) (by omega) (fun i hi => hx i (by omega)) hy))
    have HFIN : Hid (pthS n T W P (k + 1) x = smU (fun y => pthS n T W P k (pthX x (T - k) y)) n) := rfl
    have HRW : Hid (∀ W', Below w1.heap.size w1 W' → ∃ ra rc, W'.cell? ⟨b, o, none⟩ = some (.slice ra n rc)) := fun W' hb => by
      obtain ⟨g1, g2⟩ := hr 0 (by omega)
      rw [hOK.hn 0 (by omega)] at g2
      obtain ⟨ra, rc, hre⟩ := g2.form
      rw [Nat.add_zero] at g1
      exact ⟨ra, rc, by rw [(HEND.out W' hb).cell (cell_lt g1), g1, hre]⟩
    obtain ⟨i0, hi, hz0, hz1, hz2⟩ := info_parts Tryz.infoIg
    have HINF : Hid (Tryz.prog.info? 3 = some i0 ∧ i0.zero = some (.int .i64 0) ∧ i0.size = 1 ∧ i0.bytes = 8) := ⟨hi, hz0, hz1, hz2⟩
    obtain ⟨m, hme⟩ : ∃ m, m = T - k := ⟨_, rfl⟩
    have hmT : m ≤ 4 := by omega
    have hmI : (m : Int) ≤ 4 := by omega
    have hneq : ((m : Int) == (L : Int)) = false := by rw [beq_eq_false_iff_ne]; omega
    have hLI : (L : Int) ≤ 5 := by omega
    have hL0 : (0 : Int) < (L : Int) := by omega
    have hL0N : 0 < L := by omega
    have hnI : (n : Int) ≤ 4 := by omega
    rw [← hme] at HNP HIH HR0 HPL HFIN ⊢
    have HL : Hid (∀ (z : Nat → Int), (numCells z m).length = m * 1) := fun z => by rw [numCells_length, Nat.mul_one]
    clear h hS hp hx hb1 hw1 hsz hr hL4 hm hi hz0 hz1 hz2 hme
    go_enter Tryz.func32, Tryz.ntmps32
    go_upto_region 1 with fail
    rw [← HW1.out]
    go_wp2_with fail
    refine (HR0.out _).mono ?_
    rintro e w2 ⟨r2, rfl, hr2, hb2⟩
    obtain ⟨s2, x2, l2, c2, y2, m2, k2, rfl⟩ := hr2.sl
    have HDX : Hid (DBx w1 (w2.alloc (.cells #[.bool s2, .slice x2 l2 c2, .slice y2 m2 k2] 46)) w2.heap.size (smU (nU W 0) n * denU n W P T) (((smU (fun y => pthS n T W P k (pthX x m y)) 0) : Nat) : Int)) := dbx_late hb2 hr2
    clear hr2 hb2 HR0 c0 c1
    go_upto_region 5 with fail
    obtain ⟨Bs, hBs⟩ : ∃ Bs, Bs = w2.heap.size := ⟨_, rfl⟩
    obtain ⟨w3, hw3⟩ : ∃ w3, w3 = w2.alloc (.cells #[.bool s2, .slice x2 l2 c2, .slice y2 m2 k2] 46) := ⟨_, rfl⟩
    rw [← hw3] at HDX ⊢
    rw [← hBs] at HDX ⊢
    have HLB := Hid.mk' HDX.out.box
    have HBL := Hid.mk' HDX.out.below
    have HBB := Hid.mk' HDX.out.hB
    clear hw3 hBs HDX
    obtain ⟨c0, c1⟩ := HC.out _ HBL.out
    obtain ⟨r0a, r0c, d0⟩ := HRW.out _ HBL.out
    go_wp2_with fail
    clear c0 c1 d0
    go_loopw [8] (fun s wr => ∃ y : Nat, y ≤ n ∧ s = .int .i64 y ∧ Hid (LB wr Bs (smU (nU W 0) n * denU n W P T) (((smU (fun y => pthS n T W P k (pthX x m y)) y) : Nat) : Int)) ∧ Hid (Below w1.heap.size w1 wr)) (fun s _ => n - (intOf s).toNat)
    case atStart => exact ⟨0, Nat.zero_le _, rfl, HLB, HBL⟩
    case round =>
      clear HLB HBL
      obtain ⟨y, hy, rfl, HLB, HB⟩ := hrel
      obtain ⟨c0, c1⟩ := HC.out _ HB.out
      obtain ⟨r0a', r0c', d0⟩ := HRW.out _ HB.out
      obtain ⟨sS, xS, lS, cS, yS, mS, kS, hSB⟩ := HLB.out
      have HSX := Hid.mk' hSB
      clear hSB HLB
      rcases Nat.lt_or_ge y n with h1 | h1
      · have hyI : (y : Int) < (n : Int) := by omega
        have hy0 : (0 : Int) ≤ (y : Int) := by omega
        go_upto_region 9 with fail
        clear c0 c1 d0
        go_cut [9] from 35 to 37 (fun s wx => ∃ (na : Option Addr) (nl nc : Nat), s = .slice na nl nc ∧ Hid (wx.ownsRow wr.heap.size 3 1 (.slice na nl nc) m (numCells (fun i => (x i : Int)) m)) ∧ Hid (Below wr.heap.size wr wx))
        case first =>
          rcases HNP.out wr HB.out with ⟨ad9, cap9, hv9, hm0⟩ | ⟨qb, qo, qc, hv9, hmp, hrow⟩
          · obtain rfl : m = 0 := hm0
            simp only [Value.slice.injEq] at hv9
            obtain ⟨rfl, _, rfl⟩ := hv9
            go_wp2_with (at_builtin; go_must (refine wpList_append_zeroI rfl _ _ rfl pad pcap rfl rfl ?_))
            go_meet
            exact ⟨_, _, _, rfl, ⟨rfl, Or.inl ⟨rfl, rfl⟩⟩, Below.refl _ _⟩
          · simp only [Value.slice.injEq] at hv9
            obtain ⟨rfl, _, rfl⟩ := hv9
            have HROW := Hid.mk' hrow
            have HCC : Hid (∀ u, u ∈ numCells (fun i => (x i : Int)) m → u.oneCell' = true) := fun u hu => by obtain ⟨z, rfl⟩ := numCells_ints _ m u hu; rfl
            clear hrow
            go_wp2_with (at_builtin; go_must (refine wpList_append_lies _ rfl _ _ _ rfl wr.heap.size 3 i0 _ 1 8 Tryz.underlying41 HINF.out.1 HINF.out.2.1 HINF.out.2.2.1 HINF.out.2.2.2 rfl (by omega) (.slice none 0 0) 0 [] rfl ⟨rfl, Or.inl ⟨rfl, rfl⟩⟩ ⟨qb, qo, none⟩ m pcap (numCells (fun i => (x i : Int)) m) rfl (HL.out _) (fun j u hu => numCells_news HROW.out j u hu) HCC.out hmp (by unfold maxLen; omega) (by omega) (by simp) _ rfl ?_; intro g cap' w9 hown hgrow hat hlt; have HOWN := Hid.mk' hown; have HGR := Hid.mk' hgrow; clear hown hgrow hat))
            go_meet
            exact ⟨_, _, _, rfl, Hid.mk' (by have h9 := HOWN.out; simp at h9; exact h9), (Below.refl _ _).grown HGR.out (Nat.le_refl _) (fun k hk => by cases hk)⟩
        case rest =>
        obtain ⟨na, nl, nc, rfl, HOW, HBN⟩ := hcut
        obtain ⟨wn, hwn⟩ : ∃ wn, wn = wc := ⟨_, rfl⟩
        rw [← hwn] at HOW HBN ⊢
        clear hwn
        have HBW : Hid (∀ W', Below wr.heap.size wr W' → Below w1.heap.size w1 W') := fun W' hb => below_chain HB.out hb
        have HKS : Hid (∀ W, Below wr.heap.size wr W → (W.cell? ⟨Bs, 0, none⟩ = some (.bool sS) ∧ W.cell? ⟨Bs, 1, none⟩ = some (.slice xS lS cS) ∧ W.cell? ⟨Bs, 2, none⟩ = some (.slice yS mS kS)) ∧ W.cell? ⟨w.heap.size, 0, none⟩ = some (.slice (some ⟨b, o, none⟩) L cap) ∧ W.cell? ⟨w.heap.size, 1, none⟩ = some (.slice sa T sc)) := fun W hb => ⟨⟨(HSX.out.later hb).c0, (HSX.out.later hb).c1, (HSX.out.later hb).c2⟩, (HC.out W (HBW.out W hb)).1, (HC.out W (HBW.out W hb)).2⟩
        have hcur : Below wr.heap.size wr wn.drew := HBN.out.drew
        have HOD : Hid (wn.drew.ownsRow wr.heap.size 3 1 (.slice na nl nc) m (numCells (fun i => (x i : Int)) m)) := own_pastG HOW.out (Below.refl _ _).drew
        go_upto_region 10 with fail
        refine region_but_last (n := 8) (S := fun W => (W.cell? ⟨Bs, 0, none⟩ = some (.bool sS) ∧ W.cell? ⟨Bs, 1, none⟩ = some (.slice xS lS cS) ∧ W.cell? ⟨Bs, 2, none⟩ = some (.slice yS mS kS)) ∧ W.cell? ⟨w.heap.size, 0, none⟩ = some (.slice (some ⟨b, o, none⟩) L cap) ∧ W.cell? ⟨w.heap.size, 1, none⟩ = some (.slice sa T sc)) (by kernel_rfl) (by kernel_rfl) (by kernel_rfl) (HKS.out _ hcur) (fun hHeld => ?_)
        refine wpAnyH_take (i := 0) (v := ?v0g) rfl (by kernel_rfl) (by kernel_rfl) (by kernel_rfl) (fun _ _ _ h => h) (Or.inl ⟨by rfl, ?hy0g⟩) (by assumption) ?rest0g
        case hy0g => (intro w hSw; (try dsimp only at hSw); go_simp <;> (try with_reducible rfl))
        simp only [Act.put]
        refine wpAnyH_take (i := 1) (v := ?v1g) rfl (by kernel_rfl) (by kernel_rfl) (by kernel_rfl) (fun _ _ _ h => h) (Or.inl ⟨by rfl, ?hy1g⟩) (by assumption) ?rest1g
        case hy1g => (intro w hSw; (try dsimp only at hSw); go_simp <;> (try with_reducible rfl))
        simp only [Act.put]
        refine wpAnyH_take (i := 2) (v := ?v2g) rfl (by kernel_rfl) (by kernel_rfl) (by kernel_rfl) (fun _ _ _ h => h) (Or.inl ⟨by rfl, ?hy2g⟩) (by assumption) ?rest2g
        case hy2g => (intro w hSw; (try dsimp only at hSw); go_simp <;> (try with_reducible rfl))
        simp only [Act.put]
        refine wpAnyH_take (i := 3) (v := ?v3g) rfl (by kernel_rfl) (by kernel_rfl) (by kernel_rfl) (fun _ _ _ h => h) (Or.inl ⟨by rfl, ?hy3g⟩) (by assumption) ?rest3g
        case hy3g => (intro w hSw; (try dsimp only at hSw); go_simp <;> (try with_reducible rfl))
        simp only [Act.put]
        refine wpAnyH_ready (rs := [4]) (by kernel_rfl) (by simp) ?_
        refine AllReadyH.cons rfl (fun K hK => ?_) AllReadyH.nil
        go_simp
        have hcurA : Below wr.heap.size wr (wn.drew.alloc (.cells #[.int .i64 (y : Int)] 3)) := hcur.alloc hcur.size _
        refine hK.out _ _ ?_ (fun hHeld => ?_)
        · exact HKS.out _ hcurA
        clear hK K
        refine wpAnyH_ready (rs := [5]) (by kernel_rfl) (by simp) ?_
        refine AllReadyH.cons rfl (fun K hK => ?_) AllReadyH.nil
        refine step_append_lies _ rfl _ _ _ rfl wr.heap.size 3 i0 _ 1 8 Tryz.underlying41 HINF.out.1 HINF.out.2.1 HINF.out.2.2.1 HINF.out.2.2.2 rfl (by decide) (.slice na nl nc) m _ rfl (HOD.out.alloc _) ⟨wn.heap.size, 0, none⟩ 1 1 [.int .i64 (y : Int)] rfl rfl (one_new _ _ _) (by simp [Value.oneCell']) (by omega) (by unfold maxLen; omega) (by omega) hcurA.size _ rfl ?_
        intro g8 cap8 w8 hown8 hgrow8 hat8 hlt8
        have hcur : Below wr.heap.size wr w8 := below_push hcur HOD.out hgrow8
        have HQV : Hid (NumsAt w8 (.slice (some ⟨g8, 0, none⟩) (m + 1) cap8) (m + 1) (fun i => (pthX x m y i : Int))) := numsAt_own (by rw [pth_cells]; exact hown8)
        clear hown8 hgrow8 hat8 hlt8 hcurA
        refine hK.out _ _ ?_ (fun hHeld => ?_)
        · exact HKS.out _ hcur
        clear hK K
        refine wpAnyH_ready (rs := [6]) (by kernel_rfl) (by simp) ?_
        refine AllReadyH.cons rfl (fun K hK => ?_) AllReadyH.nil
        go_simp
        refine (HIH.out y _ _ h1 (HBW.out _ hcur) HQV.out).mono ?_
        rintro e wa ⟨ra, rfl, hra, hba⟩
        obtain ⟨sa, xa, la, ca, ya, ma, ka, rfl⟩ := hra.sl
        have hcur := below_chain hcur hba
        have HVa := Hid.mk' hra
        clear hra hba
        go_wp2_with fail
        refine hK.out _ _ ?_ (fun hHeld => ?_)
        · exact HKS.out _ hcur
        clear hK K
        refine wpAnyH_ready (rs := [7]) (by kernel_rfl) (by simp) ?_
        refine AllReadyH.cons rfl (fun K hK => ?_) AllReadyH.nil
        go_simp
        refine (HPL.out y _ _ _ h1 (HSX.out.later hcur).rat HVa.out).mono ?_
        rintro e wb ⟨rb, rfl, hrb, hbb⟩
        obtain ⟨sb, xb, lb, cb, yb, mb, kb, rfl⟩ := hrb.sl
        have hcur := below_chain hcur hbb
        have hL9 := HSX.out.later hcur
        have fz0 := hL9.fz 0 (by decide)
        have fz1 := hL9.fz 1 (by decide)
        have fz2 := hL9.fz 2 (by decide)
        have k0 := hL9.c0
        have k1 := hL9.c1
        have k2 := hL9.c2
        obtain ⟨⟨g0, g1⟩, ⟨g2, g3⟩, g4⟩ := put_three' (.bool sb) (.slice xb lb cb) (.slice yb mb kb) k0 k1 k2
        have HP := Hid.mk' (hL9.put hrb)
        have HB9 := Hid.mk' (set3_below (HBW.out _ hcur) HBB.out (.bool sb) (.slice xb lb cb) (.slice yb mb kb))
        clear hL9 hrb hbb
        go_wp2_with fail
        refine hK.out _ _ ?_ (fun hHeld => ?_)
        · exact HKS.out _ hcur
        clear hK K
        refine wpAnyH_done (by kernel_rfl) ?_ _
        refine ahead_last rfl (fun K hK => ?_)
        go_simp
        refine hK _ _ ?_
        clear hK K
        unfold put3 at HP
        clear HKS HVa hHeld hcur k0 k1 k2 fz0 fz1 fz2 g0 g1 g2 g3 g4 HSX HBW HOW HOD HBN HQV
        generalize ((wb.setCell ⟨Bs, 0, none⟩ (.bool sb)).setCell ⟨Bs, 1, none⟩ (.slice xb lb cb)).setCell ⟨Bs, 2, none⟩ (.slice yb mb kb) = wz at *
        obtain ⟨c0, c1⟩ := HC.out _ HB9.out
        obtain ⟨r1a, r1c, d0⟩ := HRW.out _ HB9.out
        go_wp2_with fail
        exact ⟨⟨y + 1, h1, by go_num, ⟨_, _, _, _, _, _, _, HP.out⟩, HB9⟩, by simp [intOf]; omega⟩
      · obtain rfl : y = n := by omega
        have hyI : ¬ ((y : Int) < (y : Int)) := by omega
        have hR := HR1.out _ HB.out
        have y0 := hR.c0
        have y1 := hR.c1
        have y2 := hR.c2
        have f0 := hR.fz 0 (by decide)
        have f1 := hR.fz 1 (by decide)
        have f2 := hR.fz 2 (by decide)
        obtain ⟨⟨g0, g1⟩, ⟨g2, g3⟩, g4⟩ := put_three' (.bool sS) (.slice xS lS cS) (.slice yS mS kS) y0 y1 y2
        have z0 := HSX.out.c0
        have z1 := HSX.out.c1
        have z2 := HSX.out.c2
        have HP := Hid.mk' (hR.put HSX.out.rat)
        have HBE : Hid (Below w.heap.size w (((wr.setCell ⟨w.heap.size + 1, 0, none⟩ (.bool sS)).setCell ⟨w.heap.size + 1, 1, none⟩ (.slice xS lS cS)).setCell ⟨w.heap.size + 1, 2, none⟩ (.slice yS mS kS))) := (((HEND.out _ HB.out).setCell (by simp) _).setCell (by simp) _).setCell (by simp) _
        unfold put3 at HP
        clear hR HSX HIH HPL HNP
        go_wp2_with fail
        exact bodyPost_ret (v := .agg #[.bool sS, .slice xS lS cS, .slice yS mS kS]) (by simp [results, Tryz.results32, go_sem, HP.out.c0, HP.out.c1, HP.out.c2]) rfl ⟨_, rfl, by rw [HFIN.out]; exact HP.out.rat, HBE.out⟩
end Go.Proofs.YthomgmhmbalnbaaGreatDoor

/- What the mean gain's numbers are bounded by. -/
namespace Go.Proofs.YthomgmhmbalnbaaGreatDoor
open Go.RowKit

section
variable {L n : Nat} {ns : Nat → Nat} {W : Nat → Nat → Int} {T : Nat} {R : Nat → Nat} {rn : Nat → Nat → Nat} {P : Nat → Nat → Nat → Int}
theorem OkP.pthZ_le (h : OkP L n ns W T R rn P) {x : Nat → Nat} : ∀ {t : Nat}, t ≤ T → (∀ i, i ≤ t → x i < n) → pthZ n W P x t ≤ 2 ^ (120 * t + 12)
  | 0, _, hx => by
    have := h.u_bd (t := 0) (by have := h.hL; omega) (hx 0 (Nat.le_refl _))
    rw [pthZ]
    exact Nat.le_trans this.2 (by decide)
  | t + 1, ht, hx => by
    have hL := h.hL
    have ih := h.pthZ_le (x := x) (t := t) (by omega) (fun i hi => hx i (by omega))
    have a1 : prdX (nU W t) (x t) n ≤ 2 ^ 48 := prdX_sml h.n4 (Nat.le_refl _) fun i hi => by have := h.u_bd (t := t) (by omega) hi; omega
    have a2 : nU W (t + 1) (x t) ≤ 2 ^ 12 := by have := h.u_bd (t := t + 1) (by omega) (hx t (by omega)); omega
    have a3 : prdX (fun i => smU (nQ P t i) n) (x t) n ≤ 2 ^ 48 := prdX_sml h.n4 (Nat.le_refl _) fun i hi => (h.r_bd (t := t) (by omega) hi).2
    have a4 : nQ P t (x t) (x (t + 1)) ≤ 2 ^ 12 := h.q_bd (by omega) (hx t (by omega)) (hx (t + 1) (Nat.le_refl _))
    rw [pthZ]
    refine Nat.le_trans (Nat.mul_le_mul (Nat.mul_le_mul ih (Nat.mul_le_mul a1 a2)) (Nat.mul_le_mul a3 a4)) ?_
    rw [← Nat.pow_add, ← Nat.pow_add, ← Nat.pow_add]
    exact Nat.pow_le_pow_right (by decide) (by omega)
theorem OkP.denU_le (h : OkP L n ns W T R rn P) : ∀ {t : Nat}, t ≤ T → 0 < denU n W P t ∧ denU n W P t ≤ 2 ^ (96 * t)
  | 0, _ => by rw [denU]; exact ⟨by decide, by decide⟩
  | t + 1, ht => by
    have hL := h.hL
    have ih := h.denU_le (t := t) (by omega)
    have a1 : prdU (nU W t) n ≤ 2 ^ 48 := prdU_sml h.n4 (Nat.le_refl _) fun i hi => by have := h.u_bd (t := t) (by omega) hi; omega
    have a3 : prdU (fun i => smU (nQ P t i) n) n ≤ 2 ^ 48 := prdU_sml h.n4 (Nat.le_refl _) fun i hi => (h.r_bd (t := t) (by omega) hi).2
    have p1 : 0 < prdU (nU W t) n := prdU_pos fun i hi => (h.u_bd (t := t) (by omega) hi).1
    have p2 : 0 < prdU (fun i => smU (nQ P t i) n) n := prdU_pos fun i hi => (h.r_bd (t := t) (by omega) hi).1
    rw [denU]
    refine ⟨Nat.mul_pos ih.1 (Nat.mul_pos p1 p2), Nat.le_trans (Nat.mul_le_mul ih.2 (Nat.mul_le_mul a1 a3)) ?_⟩
    rw [← Nat.pow_add, ← Nat.pow_add]
    exact Nat.pow_le_pow_right (by decide) (by omega)
theorem OkP.pthS_le (h : OkP L n ns W T R rn P) : ∀ {k : Nat} {x : Nat → Nat}, k ≤ T + 1 → (∀ i, i < T + 1 - k → x i < n) → pthS n T W P k x ≤ 4 ^ k * 2 ^ (120 * T + 12)
  | 0, x, _, hx => by rw [pthS, Nat.pow_zero, Nat.one_mul]; exact h.pthZ_le (Nat.le_refl _) fun i hi => hx i (by omega)
  | k + 1, x, hk, hx => by
    have hn4 := h.n4
    rw [pthS, Nat.pow_succ, Nat.mul_comm (4 ^ k) 4, Nat.mul_assoc]
    refine Nat.le_trans (smU_le (B := 4 ^ k * 2 ^ (120 * T + 12)) fun y hy => h.pthS_le (by omega) fun i hi => ?_) (Nat.mul_le_mul hn4 (Nat.le_refl _))
    unfold pthX
    split
    · exact hy
    · exact hx i (by omega)
theorem pow_big {e a b B : Nat} (h : e < a * b) (hB : 2 ^ a ≤ B) : 2 ^ e < B ^ b := Nat.lt_of_lt_of_le (Nat.pow_lt_pow_right (by decide) h) (by rw [Nat.pow_mul]; exact Nat.pow_le_pow_left hB b)
theorem big_pow {e : Nat} (h : e < 19 * 60) : 2 ^ e < 1000000 ^ 60 := pow_big (a := 19) h (by decide)
theorem OkP.gsm (h : OkP L n ns W T R rn P) : GSm n T W P := by
  have hT := h.hT
  have d := h.denU_le (t := T) (Nat.le_refl _)
  have s := h.s_bd (t := 0) (by have := h.hL; omega)
  have s2 : smU (nU W 0) n ≤ 2 ^ 12 := Nat.le_trans s.2 (by decide)
  refine ⟨Nat.mul_pos s.1 d.1, Nat.lt_of_le_of_lt (Nat.mul_le_mul s2 d.2) (by rw [← Nat.pow_add]; exact big_pow (by omega)), fun k x j hk hx hj => ?_⟩
  refine Nat.lt_of_le_of_lt (smU_mono _ hj) ?_
  have h1 := h.pthS_le (k := k + 1) (x := x) (by omega) (fun i hi => hx i (by omega))
  rw [pthS] at h1
  refine Nat.lt_of_le_of_lt h1 ?_
  rw [show (4 : Nat) = 2 ^ 2 from rfl, ← Nat.pow_mul, ← Nat.pow_add]
  exact big_pow (by omega)
end
end Go.Proofs.YthomgmhmbalnbaaGreatDoor

/- The document's Told of a fraction. -/
namespace Go.Proofs.YthomgmhmbalnbaaGreatDoor
open Go.RowKit

theorem cmpOf_le {a b : Nat} (h : a ≤ b) : cmpOf a b ≤ 0 := by
  unfold cmpOf
  split
  · omega
  · split
    · omega
    · omega

set_option maxRecDepth 100000 in
set_option maxHeartbeats 2000000 in
theorem RTold_ok (v : Value) (m d : Nat) (w : World) (h : RatioAt w v (m : Int) d) (hm : m ≤ 4611686018427387904) (hd : d ≤ 4611686018427387904) :
    Calls Tryz.prog 31 #[v] w fun e w' => e = .returned (.tuple #[.agg #[.int .i64 m, .int .i64 d], .bool true]) ∧ Below w.heap.size w w' := by
  obtain ⟨u, q, rfl, hu, hq⟩ := h
  rw [Int.natAbs_natCast] at hu
  rw [decide_eq_false (show ¬ (m : Int) < 0 by omega)]
  obtain ⟨ad1, l1, cap1, rfl, _⟩ := hu.len
  obtain ⟨ad2, l2, cap2, rfl, _⟩ := hq.len
  obtain ⟨W0, hW0⟩ : ∃ W0, W0 = (w.alloc (.cells #[.bool false, .slice ad1 l1 cap1, .slice ad2 l2 cap2] 46)).alloc (.cells #[.int .i64 0, .int .i64 0] 38) := ⟨_, rfl⟩
  have hb0 : Below w.heap.size w W0 := by rw [hW0]; exact below_chain (new_below _ _) (new_below _ _)
  have HKS : Hid (∀ W, Below W0.heap.size W0 W → (W.cell? ⟨w.heap.size, 0, none⟩ = some (.bool false) ∧ W.cell? ⟨w.heap.size, 1, none⟩ = some (.slice ad1 l1 cap1) ∧ W.cell? ⟨w.heap.size, 2, none⟩ = some (.slice ad2 l2 cap2)) ∧ (W.cell? ⟨w.heap.size + 1, 0, none⟩ = some (.int .i64 0) ∧ W.cell? ⟨w.heap.size + 1, 1, none⟩ = some (.int .i64 0)) ∧ W.frozen? ⟨w.heap.size + 1, 0, none⟩ = false ∧ W.frozen? ⟨w.heap.size + 1, 1, none⟩ = false) := fun W hb => by
    have hr := hb
    rw [hW0] at hr
    have hr2 := res_past hr
    rw [World.size_alloc] at hr2
    have a : ∀ j v, #[Value.bool false, .slice ad1 l1 cap1, .slice ad2 l2 cap2][j]? = some v → W0.cell? ⟨w.heap.size, j, none⟩ = some v := fun j v h => by rw [hW0, World.cell?_alloc_lt _ _ ⟨w.heap.size, j, none⟩ (by simp), World.cell?_alloc_at _ _ _ _ rfl]; exact h
    exact ⟨⟨(cell_past (a 0 _ rfl) hb).2, (cell_past (a 1 _ rfl) hb).2, (cell_past (a 2 _ rfl) hb).2⟩, ⟨hr2.1, hr2.2.1⟩, hr2.2.2⟩
  have HU : Hid (∀ W, Below W0.heap.size W0 W → BigAt W (.slice ad1 l1 cap1) m ∧ BigAt W (.slice ad2 l2 cap2) d) := fun W hb => ⟨(hu.later hb0).later hb, (hq.later hb0).later hb⟩
  have hof : Calls Tryz.prog 59 #[.int .i64 4611686018427387904] W0 fun e w' => ∃ v, e = .returned v ∧ BigAt w' v 4611686018427387904 ∧ Below W0.heap.size W0 w' := BigOf_any 4611686018427387904 W0 (Nat.le_refl _)
  have k4 : (4611686018427387904 : Nat) < 1000000 ^ 4 := by decide
  obtain ⟨z1, hz1⟩ : ∃ z, z = cmpOf m 4611686018427387904 := ⟨_, rfl⟩
  obtain ⟨z2, hz2⟩ : ∃ z, z = cmpOf d 4611686018427387904 := ⟨_, rfl⟩
  have hle1 : ¬ 0 < z1 := by rw [hz1]; have := cmpOf_le hm; omega
  have hle2 : ¬ 0 < z2 := by rw [hz2]; have := cmpOf_le hd; omega
  have HC1 : Hid (∀ (W : World) (v : Value), Below W0.heap.size W0 W → BigAt W v 4611686018427387904 → Calls Tryz.prog 60 #[.slice ad1 l1 cap1, v] W fun e w' => e = .returned (.int .i64 z1) ∧ ∃ m, w' = W.drewN m) := fun W v hb hv => by
    rw [hz1]; exact BigCmp_any _ _ m _ 4 W (HU.out W hb).1 hv (Nat.lt_of_le_of_lt hm k4) k4 (by decide)
  have HC2 : Hid (∀ (W : World) (v : Value), Below W0.heap.size W0 W → BigAt W v 4611686018427387904 → Calls Tryz.prog 60 #[.slice ad2 l2 cap2, v] W fun e w' => e = .returned (.int .i64 z2) ∧ ∃ m, w' = W.drewN m) := fun W v hb hv => by
    rw [hz2]; exact BigCmp_any _ _ d _ 4 W (HU.out W hb).2 hv (Nat.lt_of_le_of_lt hd k4) k4 (by decide)
  have HI1 : Hid (∀ W, Below W0.heap.size W0 W → Calls Tryz.prog 61 #[.slice ad1 l1 cap1] W fun e w' => e = .returned (.tuple #[.int .i64 m, .bool true]) ∧ w' = W) := fun W hb => BigInt_any _ m W (HU.out W hb).1 hm
  have HI2 : Hid (∀ W, Below W0.heap.size W0 W → Calls Tryz.prog 61 #[.slice ad2 l2 cap2] W fun e w' => e = .returned (.tuple #[.int .i64 d, .bool true]) ∧ w' = W) := fun W hb => BigInt_any _ d W (HU.out W hb).2 hd
  have HB0 := Hid.mk' hb0
  have HW0 := Hid.mk' hW0
  clear hu hq hb0 hW0 hz1 hz2 k4 hm hd
  go_enter Tryz.func31, Tryz.ntmps31
  go_upto_region 1 with fail
  rw [← HW0.out]
  go_wp2_with fail
  refine hof.mono ?_
  clear hof
  rintro e w1 ⟨v1, rfl, hv1, hb1⟩
  obtain ⟨⟨x0, x1, x2⟩, _, _, _⟩ := HKS.out w1 hb1
  have hc1 := HC1.out w1 v1 hb1 hv1
  go_wp2_with fail
  refine hc1.mono ?_
  rintro e w2 ⟨rfl, m2, hw2⟩
  have hb2 : Below w1.heap.size w1 w2 := by rw [hw2]; exact below_drewN (Below.refl _ _) _
  have hv2 := hv1.later hb2
  have hb02 := below_chain hb1 hb2
  clear hw2 hb1 hv1 hb2 hc1 x0 x1 x2
  obtain ⟨⟨x0, x1, x2⟩, _, _, _⟩ := HKS.out w2 hb02
  have hc2 := HC2.out w2 v1 hb02 hv2
  go_wp2_with fail
  refine hc2.mono ?_
  rintro e w3 ⟨rfl, m3, hw3⟩
  have hb3 : Below w2.heap.size w2 w3 := by rw [hw3]; exact below_drewN (Below.refl _ _) _
  have hb03 := below_chain hb02 hb3
  clear hw3 hb02 hv2 hb3 hc2 x0 x1 x2
  obtain ⟨⟨x0, x1, x2⟩, ⟨c0, c1⟩, f0, f1⟩ := HKS.out w3 hb03
  have hi1 := HI1.out w3 hb03
  have hi2 := HI2.out w3 hb03
  have HB3 := Hid.mk' (below_chain HB0.out hb03)
  clear hb03
  go_wp2_with (first
    | (go_at_call_of 61 cap1; refine hi1.mono ?_; rintro e w4 ⟨rfl, hw4⟩; rw [hw4]; clear hw4)
    | (go_at_call_of 61 cap2; refine hi2.mono ?_; rintro e w4 ⟨rfl, hw4⟩; rw [hw4]; clear hw4))
  refine bodyPost_ret (v := .tuple #[.agg #[.int .i64 m, .int .i64 d], .bool true]) (by simp [results, Tryz.results31, go_sem, c0, c1]) rfl ⟨rfl, ?_⟩
  exact (HB3.out.setCell (by show w.heap.size ≤ w.heap.size + 1; omega) _).setCell (by show w.heap.size ≤ w.heap.size + 1; omega) _
end Go.Proofs.YthomgmhmbalnbaaGreatDoor

/- A fraction of two small sums, as the document tells it. -/
namespace Go.Proofs.YthomgmhmbalnbaaGreatDoor
open Go.RowKit

theorem low_natH (N D : Nat) : lowN D (N : Int) = ((N / Nat.gcd N D : Nat) : Int) ∧ lowD D (N : Int) = D / Nat.gcd N D := by
  unfold lowN lowD lowG
  rw [Int.natAbs_natCast]
  exact ⟨rfl, rfl⟩
theorem Told_lr (v : Value) (A B : Nat) (w : World) (h : LR w v B (A : Int)) (hA : A ≤ 4611686018427387904) (hB : B ≤ 4611686018427387904) :
    Calls Tryz.prog 31 #[v] w fun e w' => e = .returned (.tuple #[.agg #[.int .i64 ((A / Nat.gcd A B : Nat) : Int), .int .i64 ((B / Nat.gcd A B : Nat) : Int)], .bool true]) ∧ Below w.heap.size w w' := by
  have h1 := low_natH A B
  unfold LR at h
  rw [h1.1, h1.2] at h
  exact RTold_ok v _ _ w h (Nat.le_trans (Nat.div_le_self _ _) hA) (Nat.le_trans (Nat.div_le_self _ _) hB)
/-- A fraction in a variable of its own, made at any time. -/
structure FrB (w5 wx : World) (B : Nat) (p q : Int) : Prop where
  below : Below w5.heap.size w5 wx
  hB : w5.heap.size ≤ B
  c0 : wx.cell? ⟨B, 0, none⟩ = some (.int .i64 p)
  c1 : wx.cell? ⟨B, 1, none⟩ = some (.int .i64 q)
theorem frb_late {w5 w7 : World} (hb : Below w5.heap.size w5 w7) (p q : Int) : FrB w5 (w7.alloc (.cells #[.int .i64 p, .int .i64 q] 38)) w7.heap.size p q :=
  ⟨hb.alloc hb.size _, hb.size, by simp, by simp⟩
theorem frb_soon {w5 w7 : World} {B : Nat} {x y : Value} (hb : Below w5.heap.size w5 w7) (hB : w5.heap.size ≤ B) (c0 : w7.cell? ⟨B, 0, none⟩ = some x) (c1 : w7.cell? ⟨B, 1, none⟩ = some y) (p q : Int) : FrB w5 ((w7.setCell ⟨B, 0, none⟩ (.int .i64 p)).setCell ⟨B, 1, none⟩ (.int .i64 q)) B p q :=
  ⟨(hb.setCell hB _).setCell hB _, hB, (put_two (.int .i64 p) (.int .i64 q) c0 c1).2.1, (put_two (.int .i64 p) (.int .i64 q) c0 c1).2.2⟩
theorem FrB.later {w5 wx wn : World} {B : Nat} {p q : Int} (h : FrB w5 wx B p q) (hb : Below wx.heap.size wx wn) : FrB w5 wn B p q :=
  ⟨below_chain h.below hb, h.hB, by rw [hb.cell (cell_lt h.c0)]; exact h.c0, by rw [hb.cell (cell_lt h.c1)]; exact h.c1⟩
end Go.Proofs.YthomgmhmbalnbaaGreatDoor

/- The document's mean gain, and how it is told. -/
namespace Go.Proofs.YthomgmhmbalnbaaGreatDoor
open Go.RowKit

set_option maxRecDepth 100000 in
theorem OneTold_by (x0 x1 : Option Addr) (l0 c0 l1 c1 : Nat) (sg : Bool) (p q : Int) (ok : Bool) (w : World)
    (hT : ∀ W, Below w.heap.size w W → Calls Tryz.prog 31 #[.agg #[.bool sg, .slice x0 l0 c0, .slice x1 l1 c1]] W fun e w' => e = .returned (.tuple #[.agg #[.int .i64 p, .int .i64 q], .bool ok]) ∧ Below W.heap.size W w') (hno : ok = false → p = 0 ∧ q = 0) :
    Calls Tryz.prog 12 #[.agg #[.bool sg, .slice x0 l0 c0, .slice x1 l1 c1]] w fun e w' => e = .returned (.tuple #[.agg #[.int .i64 p, .int .i64 q], .int .i64 (if ok = true then 0 else 2)]) ∧ Below w.heap.size w w' := by
  obtain ⟨W0, hW0⟩ : ∃ W0, W0 = (w.alloc (.cells #[.bool sg, .slice x0 l0 c0, .slice x1 l1 c1] 46)).alloc (.cells #[.int .i64 0, .int .i64 0] 38) := ⟨_, rfl⟩
  have hb0 : Below w.heap.size w W0 := by rw [hW0]; exact below_chain (new_below _ _) (new_below _ _)
  have HKS : Hid (∀ W, Below W0.heap.size W0 W → (W.cell? ⟨w.heap.size, 0, none⟩ = some (.bool sg) ∧ W.cell? ⟨w.heap.size, 1, none⟩ = some (.slice x0 l0 c0) ∧ W.cell? ⟨w.heap.size, 2, none⟩ = some (.slice x1 l1 c1)) ∧ (W.cell? ⟨w.heap.size + 1, 0, none⟩ = some (.int .i64 0) ∧ W.cell? ⟨w.heap.size + 1, 1, none⟩ = some (.int .i64 0)) ∧ W.frozen? ⟨w.heap.size + 1, 0, none⟩ = false ∧ W.frozen? ⟨w.heap.size + 1, 1, none⟩ = false) := fun W hb => by
    have hr := hb
    rw [hW0] at hr
    have hr2 := res_past hr
    rw [World.size_alloc] at hr2
    have a : ∀ j v, #[Value.bool sg, .slice x0 l0 c0, .slice x1 l1 c1][j]? = some v → W0.cell? ⟨w.heap.size, j, none⟩ = some v := fun j v h => by rw [hW0, World.cell?_alloc_lt _ _ ⟨w.heap.size, j, none⟩ (by simp), World.cell?_alloc_at _ _ _ _ rfl]; exact h
    exact ⟨⟨(cell_past (a 0 _ rfl) hb).2, (cell_past (a 1 _ rfl) hb).2, (cell_past (a 2 _ rfl) hb).2⟩, ⟨hr2.1, hr2.2.1⟩, hr2.2.2⟩
  have hT1 := hT W0 hb0
  have HB0 := Hid.mk' hb0
  have HW0 := Hid.mk' hW0
  obtain ⟨⟨z0, z1, z2⟩, _⟩ := HKS.out W0 (Below.refl _ _)
  have HLT : Hid (w.heap.size + 2 ≤ W0.heap.size) := by show _ ≤ _; rw [hW0]; simp
  clear hb0 hW0 hT
  go_enter Tryz.func12, Tryz.ntmps12
  go_upto_region 1 with fail
  rw [← HW0.out]
  go_wp2_with fail
  refine hT1.mono ?_
  clear hT1
  rintro e w1 ⟨rfl, hb1⟩
  obtain ⟨_, ⟨g0, g1⟩, f0, f1⟩ := HKS.out _ hb1
  have HB3 := Hid.mk' (below_chain HB0.out hb1)
  have HSZ : Hid (w.heap.size + 1 < w1.heap.size) := by have := HLT.out; have := hb1.size; show _ < _; omega
  have hsz := HSZ.out
  have HF : Hid (∀ (y0 y1 : Value) (X : Obj), (((w1.setCell ⟨w.heap.size + 1, 0, none⟩ y0).setCell ⟨w.heap.size + 1, 1, none⟩ y1).alloc X).cell? ⟨w.heap.size + 1, 0, none⟩ = some y0 ∧ (((w1.setCell ⟨w.heap.size + 1, 0, none⟩ y0).setCell ⟨w.heap.size + 1, 1, none⟩ y1).alloc X).cell? ⟨w.heap.size + 1, 1, none⟩ = some y1) := fun y0 y1 X =>
    ⟨by rw [World.cell?_alloc_lt _ _ ⟨w.heap.size + 1, 0, none⟩ (by simp; exact hsz)]; exact (put_two y0 y1 g0 g1).2.1, by rw [World.cell?_alloc_lt _ _ ⟨w.heap.size + 1, 1, none⟩ (by simp; exact hsz)]; exact (put_two y0 y1 g0 g1).2.2⟩
  clear hb1
  cases ok
  · obtain ⟨rfl, rfl⟩ := hno rfl
    clear hno
    go_wp2_with fail
    refine bodyPost_ret (v := .tuple #[.agg #[.int .i64 0, .int .i64 0], .int .i64 2]) (by simp [results, Tryz.results12, go_sem, (HF.out _ _ _).1, (HF.out _ _ _).2]) rfl ⟨rfl, ?_⟩
    exact ((HB3.out.setCell (by show w.heap.size ≤ w.heap.size + 1; omega) _).setCell (by show w.heap.size ≤ w.heap.size + 1; omega) _).alloc (by have := HSZ.out; simp; omega) _
  · clear hno
    go_wp2_with fail
    refine bodyPost_ret (v := .tuple #[.agg #[.int .i64 p, .int .i64 q], .int .i64 0]) (by simp [results, Tryz.results12, go_sem, (HF.out _ _ _).1, (HF.out _ _ _).2]) rfl ⟨rfl, ?_⟩
    exact ((HB3.out.setCell (by show w.heap.size ≤ w.heap.size + 1; omega) _).setCell (by show w.heap.size ≤ w.heap.size + 1; omega) _).alloc (by have := HSZ.out; simp; omega) _

set_option maxRecDepth 100000 in
set_option maxHeartbeats 16000000 in
theorem MeanGain_to (v : Value) (L n : Nat) (vs : Nat → Value) (ns : Nat → Nat) (W : Nat → Nat → Int) (sv : Value) (T : Nat) (tv : Nat → Value) (R : Nat → Nat) (rv : Nat → Nat → Value) (rn : Nat → Nat → Nat) (P : Nat → Nat → Nat → Int) (hOK : OkP L n ns W T R rn P) (w : World) (h : TabAt w v L vs ns W) (hS : StpAt w sv T tv R rv rn P) :
    Calls Tryz.prog 13 #[.agg #[v, sv]] w fun e w' => ∃ r, e = .returned r ∧ LR w' r (smU (nU W 0) n) (smU (nU W T) n : Int) ∧ Below w.heap.size w w' := by
  have hL4 := hOK.hL
  have hT4 := hOK.hT
  have hn0 := hOK.n0
  have hn4 := hOK.n4
  obtain ⟨b, o, cap, hve, hr⟩ := tab_of h (by omega)
  subst hve
  obtain ⟨sa, sc, hse⟩ := hS.form
  subst hse
  obtain ⟨w1, hw1⟩ : ∃ w1, w1 = (w.alloc (.cells #[.slice (some ⟨b, o, none⟩) L cap, .slice sa T sc] 25)).alloc (.cells #[.bool false, .slice none 0 0, .slice none 0 0] 46) := ⟨_, rfl⟩
  have hb1 : Below w.heap.size w w1 := by rw [hw1]; exact ((Below.refl _ _).alloc (Nat.le_refl _) _).alloc (by simp) _
  have c0 : w1.cell? ⟨w.heap.size, 0, none⟩ = some (.slice (some ⟨b, o, none⟩) L cap) := by rw [hw1, World.cell?_alloc_lt _ _ ⟨w.heap.size, 0, none⟩ (by simp), World.cell?_alloc_at _ _ _ _ rfl]; rfl
  have c1 : w1.cell? ⟨w.heap.size, 1, none⟩ = some (.slice sa T sc) := by rw [hw1, World.cell?_alloc_lt _ _ ⟨w.heap.size, 1, none⟩ (by simp), World.cell?_alloc_at _ _ _ _ rfl]; rfl
  have HR1 : Hid (∀ W', Below w1.heap.size w1 W' → RBox W' (w.heap.size + 1) false none 0 0 none 0 0 0 0) := fun W' hb => by
    have g1 : RBox w1 (w.heap.size + 1) false none 0 0 none 0 0 0 0 := by
      have := RBox.fresh (w := w.alloc (.cells #[.slice (some ⟨b, o, none⟩) L cap, .slice sa T sc] 25)) (n := 0) (d := 0) (s := false) ⟨_, _, rfl, big_none _, big_none _⟩
      rw [World.size_alloc] at this
      rw [hw1]; exact this
    exact g1.later hb
  have hsz : w.heap.size + 1 < w1.heap.size := by rw [hw1]; simp
  have HSZ := Hid.mk' hsz
  have HC : Hid (∀ W', Below w1.heap.size w1 W' → W'.cell? ⟨w.heap.size, 0, none⟩ = some (.slice (some ⟨b, o, none⟩) L cap) ∧ W'.cell? ⟨w.heap.size, 1, none⟩ = some (.slice sa T sc)) := fun W' hb => ⟨by rw [hb.cell (cell_lt c0)]; exact c0, by rw [hb.cell (cell_lt c1)]; exact c1⟩
  have HEND : Hid (∀ W', Below w1.heap.size w1 W' → Below w.heap.size w W') := fun W' hb => hb1.trans (hb.mono hb1.size)
  have HW1 := Hid.mk' hw1
  have HTA : Hid (∀ W', Below w1.heap.size w1 W' → TabAt W' (.slice (some ⟨b, o, none⟩) L cap) L vs ns W) := fun W' hb => h.later (HEND.out W' hb)
  have HSA : Hid (∀ W', Below w1.heap.size w1 W' → StpAt W' (.slice sa T sc) T tv R rv rn P) := fun W' hb => hS.later (HEND.out W' hb)
  have HGF : Hid (∀ W', Below w1.heap.size w1 W' → Calls Tryz.prog 32 #[.agg #[.slice (some ⟨b, o, none⟩) L cap, .slice sa T sc], .slice none 0 0] W' fun e w' => ∃ r, e = .returned r ∧ LR w' r (smU (nU W 0) n) (smU (nU W T) n : Int) ∧ Below W'.heap.size W' w') := fun W' hb => by
    have g := gainFrom_to (.slice (some ⟨b, o, none⟩) L cap) L n vs ns W (.slice sa T sc) T tv R rv rn P hOK hOK.gsm (T + 1) (fun _ => 0) (.slice none 0 0) W' (Nat.le_refl _) (HTA.out W' hb) (HSA.out W' hb) (Or.inl ⟨_, _, rfl, by omega⟩) (fun i hi => by omega)
    refine g.mono ?_
    rintro e w' ⟨r, rfl, hr, hb'⟩
    have d := hOK.denU_le (t := T) (Nat.le_refl _)
    have s := hOK.s_bd (t := 0) (by omega)
    refine ⟨r, rfl, hr.same s.1 (Nat.mul_pos s.1 d.1) ?_, hb'⟩
    rw [hOK.jarzynski]
    push_cast
    grind
  clear h hS hb1 hw1 hsz hr hL4 hT4
  go_enter Tryz.func13, Tryz.ntmps13
  go_upto_region 1 with fail
  rw [← HW1.out]
  go_wp2_with fail
  refine (HGF.out w1 (Below.refl _ _)).mono ?_
  rintro e w5 ⟨r5, rfl, hr5, hb5⟩
  obtain ⟨s5, x5, l5, c5, y5, m5, k5, rfl⟩ := hr5.sl
  have HB5 := Hid.mk' hb5
  have hR := HR1.out _ HB5.out
  have y0 := hR.c0
  have y1 := hR.c1
  have y2 := hR.c2
  have f0 := hR.fz 0 (by decide)
  have f1 := hR.fz 1 (by decide)
  have f2 := hR.fz 2 (by decide)
  obtain ⟨⟨g0, g1⟩, ⟨g2, g3⟩, g4⟩ := put_three' (.bool s5) (.slice x5 l5 c5) (.slice y5 m5 k5) y0 y1 y2
  have HP := Hid.mk' (hR.put hr5)
  have HBE : Hid (Below w.heap.size w (((w5.setCell ⟨w.heap.size + 1, 0, none⟩ (.bool s5)).setCell ⟨w.heap.size + 1, 1, none⟩ (.slice x5 l5 c5)).setCell ⟨w.heap.size + 1, 2, none⟩ (.slice y5 m5 k5))) := (((HEND.out _ HB5.out).setCell (by simp) _).setCell (by simp) _).setCell (by simp) _
  clear hR hr5 hb5 c0 c1
  unfold put3 at HP
  go_wp2_with fail
  exact bodyPost_ret (v := .agg #[.bool s5, .slice x5 l5 c5, .slice y5 m5 k5]) (by simp [results, Tryz.results13, go_sem, HP.out.c0, HP.out.c1, HP.out.c2]) rfl ⟨_, rfl, HP.out.rat, HBE.out⟩

theorem OneTold_lr (v : Value) (A B : Nat) (w : World) (h : LR w v B (A : Int)) (hA : A ≤ 4611686018427387904) (hB : B ≤ 4611686018427387904) :
    Calls Tryz.prog 12 #[v] w fun e w' => e = .returned (.tuple #[.agg #[.int .i64 ((A / Nat.gcd A B : Nat) : Int), .int .i64 ((B / Nat.gcd A B : Nat) : Int)], .int .i64 0]) ∧ Below w.heap.size w w' := by
  obtain ⟨s, x, l, c, y, m, k, rfl⟩ := h.sl
  exact OneTold_by x y l c m k s _ _ true w (fun W hb => Told_lr _ A B W (h.later hb) hA hB) (fun hh => by cases hh)
end Go.Proofs.YthomgmhmbalnbaaGreatDoor
