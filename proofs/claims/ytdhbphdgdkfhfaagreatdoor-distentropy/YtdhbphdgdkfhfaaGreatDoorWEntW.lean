/- The document's Entropy of a Wide. -/
import Derived.Test.YtdhbphdgdkfhfaaGreatDoorWEnt
namespace Go.Proofs.YtdhbphdgdkfhfaaGreatDoor
open Go.RowKit

theorem RowAt.kept {w w' : World} {b o n : Nat} {z : Nat → Int} (h : RowAt w b o n z) (hk : IntsKept w w') : RowAt w' b o n z := fun i hi => hk _ _ (h i hi)

set_option maxRecDepth 100000 in
set_option maxHeartbeats 4000000 in
theorem WEntropy_some (base M B b o cap n N : Nat) (z : Nat → Int) (cv vp vc : Value) (L : List Ent) (w : World) (hW : WideAt base M w B vp vc L) (hc : RatioAt w cv (lowN M N) (lowD M N)) (hM : 0 < M) (hM6 : M ≤ 4096) (hr : Rising (absL L)) (hlen : L.length ≤ 40000)
    (hbd : ∀ x, -100000000000000 ≤ atL (absL L) x ∧ atL (absL L) x ≤ 100000000000000) (h : RowAt w b o n z) (hz : ∀ i, i < n → 0 ≤ z i) (hN : sumN z n = N) (hN1 : 1 ≤ N) (hN6 : N ≤ 4096) (hn : n ≤ 256) :
    Calls Tryz.prog 16 #[.pointer (some ⟨B, 0, none⟩), .slice (some ⟨b, o, none⟩) n cap, cv] w fun e w' => e = .returned (.tuple #[]) ∧ ∃ vp' vc' L', WPuts base M B w w' (fun x => sumN (entV z N x) n) (2 * n) L vp' vc' L' := by
  obtain ⟨s, ad, l, ca, ad', l', ca', rfl⟩ := hc.parts
  have hzi : ∀ i, i < n → 0 ≤ z i ∧ z i ≤ 4096 := fun i hi => ⟨hz i hi, by have := sumN_ge hz hi; omega⟩
  have hle : ∀ k, k ≤ n → 0 ≤ sumN z k ∧ sumN z k ≤ 4096 := fun k hk => ⟨sumN_nonneg (fun i hi => hz i (by omega)), by have := sumN_mono hz hk; omega⟩
  obtain ⟨W0, hW0⟩ : ∃ W0, W0 = w.alloc (.cells #[.bool s, .slice ad l ca, .slice ad' l' ca'] 54) := ⟨_, rfl⟩
  have hb0 : Below w.heap.size w W0 := by rw [hW0]; exact new_below _ _
  have hnm0 := hW.not_mine' hb0 (Nat.le_refl _)
  have HC : Hid (∀ wr, Moved B W0 wr → wr.cell? ⟨w.heap.size, 0, none⟩ = some (.bool s) ∧ wr.cell? ⟨w.heap.size, 1, none⟩ = some (.slice ad l ca) ∧ wr.cell? ⟨w.heap.size, 2, none⟩ = some (.slice ad' l' ca')) := fun wr hm => by
    have hlt : w.heap.size < W0.heap.size := by rw [hW0]; simp
    refine ⟨?_, ?_, ?_⟩
    · rw [hm.cell hlt hnm0, hW0]; simp
    · rw [hm.cell hlt hnm0, hW0]; simp
    · rw [hm.cell hlt hnm0, hW0]; simp
  have HI0 : Hid (WPuts base M B w W0 (fun x => sumN (entV z N x) 0) (2 * 0) L vp vc L) := (WPuts.start hW hr (fun x => rfl) 0).later hb0
  have HM0 : Hid (Moved B W0 W0) := Moved.refl _ _
  have hS := Sum_some b o cap n z W0 (h.later hb0) (fun k hk => by have := hle k hk; omega) (fun i hi => by have := hzi i hi; omega) (by omega)
  rw [hN] at hS
  have HR := Hid.mk' h
  have HRA := Hid.mk' hc
  have HW0 := Hid.mk' hW0
  have HZI := Hid.mk' hzi
  have HBD := Hid.mk' hbd
  clear hW hc hr hbd h hz hzi hle hN hW0 hb0 hnm0
  go_enter Tryz.func16, Tryz.ntmps16
  go_upto_region 1 with fail
  rw [← HW0.out]
  go_wp2_with (go_at_call 25; refine hS.mono ?_; rintro e w1 ⟨rfl, hw1⟩; rw [hw1]; clear hw1)
  go_loopw [7, 8] (fun t _ wr => ∃ (k : Nat) (vp1 vc1 : Value) (L1 : List Ent), k ≤ n ∧ t = .int .i64 k ∧ Hid (WPuts base M B w wr (fun x => sumN (entV z N x) k) (2 * k) L vp1 vc1 L1) ∧ Hid (Moved B W0 wr)) (fun t _ _ => n - (intOf t).toNat)
  case atStart => exact ⟨0, vp, vc, L, by omega, rfl, HI0, HM0⟩
  case round =>
    clear HI0 HM0 hS
    obtain ⟨k, vp1, vc1, L1, hk, rfl, HI, HMV⟩ := hrel
    rcases Nat.lt_or_ge k n with h1 | h1
    · have hcell := HR.out.kept HI.out.kept k h1
      have hkn : (k : Int) < (n : Int) := by omega
      have hzk := HZI.out k h1
      have HV : Hid (∀ x, sumN (entV z N x) (k + 1) = sumN (entV z N x) k + (z k * multI x N + -(z k) * multI x (z k).toNat)) := fun x => by
        show sumN (entV z N x) k + entV z N x k = _
        unfold entV
        rw [Int.neg_mul]; omega
      have HB1 : Hid (∀ x, -100000100000000 ≤ atL (absL L1) x ∧ atL (absL L1) x ≤ 100000100000000) := fun x => by
        rw [HI.out.val]
        have h2 := HBD.out x
        have h3 := sumN_bound (f := entV z N x) (B := 200000) (n := k) (fun i hi => entV_le x (HZI.out i (by omega)) hN6)
        have : (k : Int) * 200000 ≤ 51200000 := by omega
        omega
      have hlen1 : L1.length ≤ 60000 := by have := HI.out.len; omega
      obtain ⟨y, hy⟩ := Int.eq_ofNat_of_zero_le hzk.1
      rw [hy] at hcell hzk HV
      simp only [Int.toNat_natCast] at HV
      have hy6 : y ≤ 4096 := by have := hzk.2; omega
      clear hy hzk
      by_cases hy0 : y = 0
      · subst hy0
        have HV0 : Hid (∀ x, sumN (entV z N x) k = sumN (entV z N x) (k + 1)) := fun x => by rw [HV.out x]; simp
        clear HV
        go_wp2_with fail
        exact ⟨⟨k + 1, vp1, vc1, L1, h1, by go_num, HI.out.congr (by omega) HV0.out, HMV⟩, by simp [intOf]; omega⟩
      · have hyI : ¬ (y : Int) = 0 := by omega
        have hyb : ((y : Int) == 0) = false := by simpa using hy0
        obtain ⟨c0, c1, c2⟩ := HC.out wr HMV.out
        have hBw := HI.out.wide.lt
        have HKS : Hid (∀ W, Below wr.heap.size wr W → (W.cell? ⟨w.heap.size, 0, none⟩ = some (.bool s) ∧ W.cell? ⟨w.heap.size, 1, none⟩ = some (.slice ad l ca) ∧ W.cell? ⟨w.heap.size, 2, none⟩ = some (.slice ad' l' ca')) ∧ W.cell? ⟨b, o + k, none⟩ = some (.int .i64 (y : Int))) := fun W hb => ⟨HC.out W (HMV.out.trans (Moved.of_below hb hBw)), (cell_past hcell hb).2⟩
        have HTI : Hid (∀ (W : World) (r : Value), Below wr.heap.size wr W → RatioAt W r (lowN N y) (lowD N y) → Calls Tryz.prog 30 #[.agg #[.bool s, .slice ad l ca, .slice ad' l' ca'], r] W fun e w' => ∃ r', e = .returned r' ∧ RatioAt w' r' (lowN M y) (lowD M y) ∧ Below W.heap.size W w') := fun W r hb hr' =>
          Times_low M N y _ r W (HRA.out.kept (HI.out.kept.trans (IntsKept.of_below hb))) hr' hM hM6 hN1 hN6 (by omega)
        have HRO : Hid (∀ W, Calls Tryz.prog 17 #[.int .i64 (y : Int), .int .i64 N] W fun e w' => ∃ r, e = .returned r ∧ RatioAt w' r (lowN N y) (lowD N y) ∧ Below W.heap.size W w') := fun W => RatioOf_low y N W (by omega) hN1 (by omega)
        have hcur0 : Below wr.heap.size wr wr := Below.refl _ _
        have hcur : Below wr.heap.size wr wr.drew := (Below.refl _ _).drew
        have hcurA : ∀ X, Below wr.heap.size wr (wr.alloc X).drew := fun X => (new_below _ _).drew
        go_upto_region 6 with fail
        clear c0 c1 c2 hcell
        go_cut [8] from 22 to 42 (fun s' wx => ∃ Bs : Nat, s' = .pointer (some ⟨Bs, 0, none⟩) ∧ Hid (RBox wr wx Bs (lowN M y) (lowD M y)))
        case first =>
          go_region_held3 (fun W => (W.cell? ⟨w.heap.size, 0, none⟩ = some (.bool s) ∧ W.cell? ⟨w.heap.size, 1, none⟩ = some (.slice ad l ca) ∧ W.cell? ⟨w.heap.size, 2, none⟩ = some (.slice ad' l' ca')) ∧ W.cell? ⟨b, o + k, none⟩ = some (.int .i64 (y : Int)))
            (first | exact HKS.out _ hcur0 | exact HKS.out _ hcur | exact HKS.out _ (hcurA _) | (refine HKS.out _ ?_; assumption) | (refine HKS.out _ (more_below ?_ _); assumption) | (refine HKS.out _ (below_set3 ?_ NB.hB _ _ _); assumption))
            (first
              | (go_at_call 30; refine (HTI.out _ _ ?_ (HX1.out _ ?_)).mono ?_; (first | exact hbw1 | exact more_below hbw1 _); (first | exact Below.refl _ _ | exact new_below _ _); rintro e w7 ⟨rv, rfl, hrv, hb7⟩; obtain ⟨sg, ad8, l8, cap8, ad9, l9, cap9, rfl⟩ := hrv.parts; (first | (have hbw7 := below_chain hbw1 hb7; try have NB := NB.later hb7) | (have hbw7 := below_chain (more_below hbw1 _) hb7; have NB := newBox3_of hbw1 hb7)); (try (have y0 := NB.c0; have y1 := NB.c1; have y2 := NB.c2; have y3 := NB.f0; have y4 := NB.f1; have y5 := NB.f2)); have HRV := Hid.mk' hrv; clear hrv hb7)
              | (go_at_call 17; refine (HRO.out _).mono ?_; rintro e w5 ⟨r5, rfl, hr5, hb5⟩; obtain ⟨sg5, ad5, l5, cap5, ad6, l6, cap6, rfl⟩ := hr5.parts; (first | have hbw1 := below_chain hcur hb5 | (have hbw1 := below_chain (hcurA _) hb5; have NB := newBox3_of hcur0 (below_chain ((Below.refl _ _).drew) hb5))); have HX1 : Hid (∀ W, Below w5.heap.size w5 W → RatioAt W (.agg #[.bool sg5, .slice ad5 l5 cap5, .slice ad6 l6 cap6]) (lowN N y) (lowD N y)) := (fun W hb => hr5.later hb); clear hr5 hb5))
          all_goals
            go_wp2_with fail
            go_meet
            first | exact ⟨_, rfl, rBox_late hbw7 HRV.out⟩ | exact ⟨_, rfl, rBox_soon hbw7 HRV.out NB⟩
        case rest =>
        obtain ⟨Bs, rfl, HRB⟩ := hcut
        obtain ⟨Wc, hWc⟩ : ∃ Wc, Wc = wc := ⟨_, rfl⟩
        rw [← hWc] at HRB ⊢
        clear hWc hcur0 hcur hcurA HTI HRO
        obtain ⟨sg, ad8, l8, cap8, ad9, l9, cap9, x0, x1, x2, hrat⟩ := HRB.out.box
        have HIc := Hid.mk' (HI.out.later HRB.out.below)
        have HNM : Hid (¬ Mine B Wc Bs) := HI.out.wide.not_mine' HRB.out.below HRB.out.hB
        have hnum := Number_by base M B N (y : Int) _ vp1 vc1 L1 Wc HIc.out.wide hrat hM hM6 HIc.out.rise (by omega) hN1 (by omega) (fun x => by have := HB1.out x; omega) (by omega)
        have HX0 := Hid.mk' (And.intro x0 (And.intro x1 x2))
        have HRT := Hid.mk' hrat
        have HCE := Hid.mk' (HKS.out Wc HRB.out.below).2
        have HBL : Hid (Bs < Wc.heap.size) := cell_lt x0
        clear hrat
        go_wp2_with fail
        refine hnum.mono ?_
        clear hnum x0 x1 x2
        rintro e w2 ⟨rfl, vp2, vc2, L2, hwp2⟩
        have HK2 : Hid (∀ W, IntsKept w2 W → Moved B w2 W → (W.cell? ⟨Bs, 0, none⟩ = some (.bool sg) ∧ W.cell? ⟨Bs, 1, none⟩ = some (.slice ad8 l8 cap8) ∧ W.cell? ⟨Bs, 2, none⟩ = some (.slice ad9 l9 cap9)) ∧ W.cell? ⟨b, o + k, none⟩ = some (.int .i64 (y : Int))) := fun W hk' hm' => by
          have hm := hwp2.moved.trans hm'
          refine ⟨⟨?_, ?_, ?_⟩, hk' _ _ (hwp2.kept _ _ HCE.out)⟩
          · rw [hm.cell HBL.out HNM.out]; exact HX0.out.1
          · rw [hm.cell HBL.out HNM.out]; exact HX0.out.2.1
          · rw [hm.cell HBL.out HNM.out]; exact HX0.out.2.2
        have hBw2 := hwp2.wide.lt
        have HKS2 : Hid (∀ W, Below w2.heap.size w2 W → (W.cell? ⟨Bs, 0, none⟩ = some (.bool sg) ∧ W.cell? ⟨Bs, 1, none⟩ = some (.slice ad8 l8 cap8) ∧ W.cell? ⟨Bs, 2, none⟩ = some (.slice ad9 l9 cap9)) ∧ W.cell? ⟨b, o + k, none⟩ = some (.int .i64 (y : Int))) := fun W hb => HK2.out W (IntsKept.of_below hb) (Moved.of_below hb hBw2)
        have HRZ : Hid (∀ W, Calls Tryz.prog 17 #[.int .i64 0, .int .i64 1] W fun e w' => ∃ r, e = .returned r ∧ RatioAt w' r (lowN 1 0) (lowD 1 0) ∧ Below W.heap.size W w') := fun W => RatioOf_low 0 1 W (by omega) (by omega) (by omega)
        have HMI : Hid (∀ (W : World) (r : Value), Below w2.heap.size w2 W → RatioAt W r (lowN 1 0) (lowD 1 0) → Calls Tryz.prog 26 #[r, .agg #[.bool sg, .slice ad8 l8 cap8, .slice ad9 l9 cap9]] W fun e w' => ∃ r', e = .returned r' ∧ RatioAt w' r' (lowN M (-(y : Int))) (lowD M (-(y : Int))) ∧ Below W.heap.size W w') := fun W r hb hr' =>
          Minus_low M y r _ W hr' (HRT.out.kept (hwp2.kept.trans (IntsKept.of_below hb))) hM hM6 (by omega)
        have hl2 : L2.length ≤ 60020 := by have := hwp2.len; omega
        have HNU : Hid (∀ (W : World) (r : Value), Below w2.heap.size w2 W → RatioAt W r (lowN M (-(y : Int))) (lowD M (-(y : Int))) → Calls Tryz.prog 27 #[.pointer (some ⟨B, 0, none⟩), .int .i64 (y : Int), r] W fun e w' => e = .returned (.tuple #[]) ∧ (∃ vp' vc' L', WPuts base M B w w' (fun x => sumN (entV z N x) (k + 1)) (2 * (k + 1)) L vp' vc' L') ∧ IntsKept w2 w' ∧ Moved B w2 w') := fun W r hb hr' => by
          have hw' := hwp2.later hb
          refine (Number_by base M B y (-(y : Int)) r vp2 vc2 L2 W hw'.wide hr' hM hM6 hw'.rise (by omega) (by omega) (by omega) (fun x => by rw [hw'.val]; have h2 := HB1.out x; have h3 := mul_weight (t := (y : Int)) (by omega) (multI_small x (n := N) (by omega)); omega) (by omega)).mono ?_
          rintro e w' ⟨rfl, vp', vc', L', hq⟩
          exact ⟨rfl, ⟨vp', vc', L', ((HIc.out.trans hw').trans hq).congr (by omega) (fun x => by rw [HV.out x]; omega)⟩, (IntsKept.of_below hb).trans hq.kept, (Moved.of_below hb hBw2).trans hq.moved⟩
        have HMB : Hid (Moved B W0 w2) := (HMV.out.trans (Moved.of_below HRB.out.below hBw)).trans hwp2.moved
        have hcur0 : Below w2.heap.size w2 w2 := Below.refl _ _
        have hcur : Below w2.heap.size w2 w2.drew := (Below.refl _ _).drew
        clear hwp2 HIc HX0 HRT HCE HKS HRB HI HV
        go_upto_region 8 with fail
        go_region_held3 (fun W => (W.cell? ⟨Bs, 0, none⟩ = some (.bool sg) ∧ W.cell? ⟨Bs, 1, none⟩ = some (.slice ad8 l8 cap8) ∧ W.cell? ⟨Bs, 2, none⟩ = some (.slice ad9 l9 cap9)) ∧ W.cell? ⟨b, o + k, none⟩ = some (.int .i64 (y : Int)))
          (first | exact HKS2.out _ hcur0 | exact HKS2.out _ hcur | exact HKS2.out _ hbw3 | exact HKS2.out _ hbw4 | exact HS5.out)
          (first
            | (go_at_call 27; refine (HNU.out _ _ hbw4 HR4.out).mono ?_; rintro e w5 ⟨rfl, ⟨vp5, vc5, L5, hq5⟩, hk5, hm5⟩; have HQ5 := Hid.mk' hq5; have HM5 := Hid.mk' hm5; have HS5 := Hid.mk' (HK2.out w5 hk5 hm5); clear hq5 hk5 hm5)
            | (go_at_call 26; refine (HMI.out _ _ hbw3 HR3.out).mono ?_; rintro e w4 ⟨r4, rfl, hr4, hb4⟩; have hbw4 := below_chain hbw3 hb4; have HR4 := Hid.mk' hr4; clear hr4 hb4)
            | (go_at_call 17; refine (HRZ.out _).mono ?_; rintro e w3 ⟨r3, rfl, hr3, hb3⟩; have hbw3 := below_chain hcur hb3; have HR3 := Hid.mk' hr3; clear hr3 hb3))
        all_goals
          go_wp2_with fail
          exact ⟨⟨k + 1, vp5, vc5, L5, h1, by go_num, HQ5, HMB.out.trans HM5.out⟩, by simp [intOf]; omega⟩
    · obtain rfl : k = n := by omega
      go_wp2_with fail
      go_end0
      exact ⟨rfl, vp1, vc1, L1, HI.out⟩
end Go.Proofs.YtdhbphdgdkfhfaaGreatDoor
