/- The document's MutualOf. -/
import Derived.Test.YtfnmpkkfdljgcaaGreatDoorPackB
import Derived.Test.YtfnmpkkfdljgcaaGreatDoorRows
import Derived.Test.YtfnmpkkfdljgcaaGreatDoorCode
import Derived.ChangeSame
import Derived.ChangeVars
import Derived.JoinedOf
import Derived.LaidLaws
import Derived.LaidHandle
import Derived.LaidMore
import Derived.Stop.Joined
import Derived.Test.YtfnmpkkfdljgcaaGreatDoorInts
import Derived.Test.YtfnmpkkfdljgcaaGreatDoorCards
import Derived.Test.YtfnmpkkfdljgcaaGreatDoorTie
import Derived.SevenTiedAt
import Derived.ProofKit
import Derived.OpenShut
import Derived.ChangeOld
import Derived.Lib.SmallJoins
import Derived.Deep.Matrix
import Derived.Test.YtfnmpkkfdljgcaaGreatDoorTab
import Derived.Deep.DeepHandedRow
import Derived.Deep.DeepWitnessRowRef
namespace Go.Proofs.YtfnmpkkfdljgcaaGreatDoor
open Go.RowKit

set_option maxRecDepth 100000 in
set_option maxHeartbeats 8000000 in
theorem MutualOf_ok (ad : Option Addr) (R cap N n : Nat) (vs : Nat → Value) (ns : Nat → Nat) (zs : Nat → Nat → Int) (L : List Int) (w : World) (h : TabAt w (.slice ad R cap) R vs ns zs) (hs : sumT ns R ≤ 400) (hk : OkT R ns zs N) (hok : OkW (atF L) n) (hL : L = flatL ns zs R) (hn : L.length = n) (hN : sumN (atF L) n = N) :
    Calls Tryz.prog 16 #[.slice ad R cap] w fun e w' => ∃ dn v, e = .returned (.tuple #[.agg #[.int .i64 dn, v], .int .i64 0]) ∧ LogBy w.heap.size N (fun x => sumN (fun i => sumN (mutV (zs i) (rowSum ns zs i) (colV zs R) N x) (ns 0)) R) w' dn v ∧ Below w.heap.size w w' := by
  have hp := hok.posN
  have hn4 : n ≤ 400 := by rw [← hn, hL, flatL_length]; exact hs
  have hN1 : 1 ≤ N ∧ N ≤ 4096 := ⟨hk.n1, hk.n6⟩
  have hR0 := hk.r0
  have hC0 := hk.c0
  have hm := okM_of hk
  obtain ⟨b, o, rfl, hrows⟩ := tab_rows h hk
  obtain ⟨W0, hW0⟩ : ∃ W0, W0 = w.alloc (.cells #[.int .i64 0, .slice none 0 0] 28) := ⟨_, rfl⟩
  have hb0 : Below w.heap.size w W0 := by rw [hW0]; exact new_below _ _
  have hz0 : W0.heap.size = w.heap.size + 1 := by rw [hW0]; simp
  have hres : ∀ W, Below W0.heap.size W0 W → W.cell? ⟨w.heap.size, 0, none⟩ = some (.int .i64 0) ∧ W.cell? ⟨w.heap.size, 1, none⟩ = some (.slice none 0 0) ∧ W.frozen? ⟨w.heap.size, 0, none⟩ = false ∧ W.frozen? ⟨w.heap.size, 1, none⟩ = false := fun W hb => by
    rw [hW0] at hb
    exact res_past hb
  obtain ⟨W1, hW1⟩ : ∃ W1, W1 = W0.alloc (.cells #[.slice none 0 0, .slice none 0 0] 48) := ⟨_, rfl⟩
  have hb1 : Below W0.heap.size W0 W1 := by rw [hW1]; exact new_below _ _
  have hwd : WideAt W0.heap.size N W1 W0.heap.size (.slice none 0 0) (.slice none 0 0) [] := by
    rw [hW1]
    exact ⟨Nat.le_refl _, by simp, by simp, by simp, by simp, World.ownsRow_nil _ _ _ _, World.ownsRow_nil _ _ _ _, (fun e he => by cases he), fun _ => ⟨rfl, rfl⟩⟩
  have hfl := (Flat_any _ R vs ns zs W1 ((h.later hb0).later hb1) (by have := hk.r16; omega) (by omega)).mono (fun e w' hx => show ∃ g cp, e = .returned (.slice (some ⟨g, 0, none⟩) n cp) ∧ RowAt w' g 0 n (atF L) ∧ Below W1.heap.size W1 w' by
    obtain ⟨v', rfl, hrow, hb'⟩ := hx
    rw [← hL, hn] at hrow
    obtain ⟨g, cp, rfl, hr⟩ := row_some hrow hn hp
    exact ⟨g, cp, rfl, hr, hb'⟩)
  have HS2 : Hid (∀ (W : World) (g cp : Nat), RowAt W g 0 n (atF L) → Calls Tryz.prog 32 #[.slice (some ⟨g, 0, none⟩) n cp] W fun e w' => e = .returned (.int .i64 N) ∧ w' = W) := fun W g cp hr => by
    have := Sum_some g 0 cp n (atF L) W hr (fun k hk => by have := hok.part hk; omega) (fun i hi => by have := hok.lt hi; omega) (by omega)
    rw [hN] at this
    exact this
  have HRO : Hid (∀ W, Below w.heap.size w W → Calls Tryz.prog 34 #[.slice (some ⟨b, o, none⟩) R cap] W fun e w' => ∃ g q cp, e = .returned (.slice (some ⟨g, q, none⟩) R cp) ∧ RowAt w' g q R (rowSum ns zs) ∧ Below W.heap.size W w') := fun W hb => (RowsOf_any _ R cap N vs ns zs W (h.later hb) hk).mono (fun e w' hx => by
    obtain ⟨v', rfl, hrow, hb'⟩ := hx
    rcases hrow with ⟨_, _, _, h0⟩ | ⟨g, q, cp, rfl, _, hr⟩
    · omega
    · exact ⟨g, q, cp, rfl, hr, hb'⟩)
  have HCO : Hid (∀ W, Below w.heap.size w W → Calls Tryz.prog 35 #[.slice (some ⟨b, o, none⟩) R cap] W fun e w' => ∃ g q cp, e = .returned (.slice (some ⟨g, q, none⟩) (ns 0) cp) ∧ RowAt w' g q (ns 0) (colV zs R) ∧ Below W.heap.size W w') := fun W hb => (ColumnsOf_any _ R cap N vs ns zs W (h.later hb) hk).mono (fun e w' hx => by
    obtain ⟨v', rfl, hrow, hb'⟩ := hx
    rcases hrow with ⟨_, _, _, h0⟩ | ⟨g, q, cp, rfl, _, hr⟩
    · omega
    · exact ⟨g, q, cp, rfl, hr, hb'⟩)
  have HK := Hid.mk' hm
  have hR16 := hk.r16
  have hC16 := hk.c16
  have HR := Hid.mk' hrows
  have HB0 := Hid.mk' hb0
  have HB1 := Hid.mk' hb1
  have HRES := Hid.mk' hres
  have HW0 := Hid.mk' hW0
  have HW1 := Hid.mk' hW1
  have HZ0 := Hid.mk' hz0
  have HWD := Hid.mk' hwd
  obtain ⟨rv, hrv⟩ : ∃ rv, rv = rowSum ns zs := ⟨_, rfl⟩
  obtain ⟨cv, hcv⟩ : ∃ cv, cv = colV zs R := ⟨_, rfl⟩
  obtain ⟨C, hC⟩ : ∃ C, C = ns 0 := ⟨_, rfl⟩
  rw [← hrv, ← hcv, ← hC] at HK ⊢
  rw [← hrv] at HRO
  rw [← hcv, ← hC] at HCO
  rw [← hC] at HR hC0 hC16
  clear h hb0 hb1 hres hW0 hW1 hz0 hwd hrows hk hok hL hn hN hs hm hrv hcv hC
  go_enter Tryz.func16, Tryz.ntmps16
  go_upto_region 1 with fail
  rw [← HW0.out]
  go_upto_region 2 with fail
  rw [← HW1.out]
  go_wp2_with fail
  refine hfl.mono ?_
  clear hfl
  rintro e wa ⟨ga, ca, rfl, hra, hba⟩
  have hsa := HS2.out wa ga ca hra
  have HBa := Hid.mk' hba
  clear hra hba
  go_wp2_with fail
  refine hsa.mono ?_
  clear hsa HS2
  rintro e w2 ⟨rfl, hw2⟩
  rw [hw2]
  clear hw2
  have hro := HRO.out wa (below_chain HB0.out (below_chain HB1.out HBa.out))
  go_wp2_with fail
  refine hro.mono ?_
  clear hro HRO
  rintro e wb ⟨gr, qr, cr, rfl, hrb, hbb⟩
  have HBb := Hid.mk' (below_chain HBa.out hbb)
  have HRb := Hid.mk' hrb
  clear hrb hbb
  have hco := HCO.out wb (below_chain HB0.out (below_chain HB1.out HBb.out))
  go_wp2_with fail
  refine hco.mono ?_
  clear hco HCO
  rintro e W2 ⟨gc, qc, cc, rfl, hrc, hbc⟩
  have HR2 : Hid (∀ W, IntsKept W2 W → RowAt W gr qr R rv ∧ RowAt W gc qc C cv) := fun W hk => ⟨(HRb.out.later hbc).kept hk, hrc.kept hk⟩
  have HB2 : Hid (Below W1.heap.size W1 W2) := below_chain HBb.out hbc
  have HBT : Hid (Below W0.heap.size W0 W2) := below_chain HB1.out HB2.out
  have HI0 : Hid (WPuts W0.heap.size N W0.heap.size W2 W2 (fun x => sumN (fun i => sumN (mutV (zs i) (rv i) cv N x) C) 0) (64 * 0) [] (.slice none 0 0) (.slice none 0 0) []) := WPuts.start (HWD.out.later HB2.out) List.Pairwise.nil (fun x => rfl) 0
  clear hrc hbc HRb HBb HBa HB2 HWD HB1 HW1 HW0
  go_wp2_with fail
  go_loopw [8, 9, 10, 11] (fun i _ _ _ wr => ∃ (k : Nat) (vp vc : Value) (Lw : List Ent), k ≤ R ∧ i = .int .i64 k ∧ Hid (WPuts W0.heap.size N W0.heap.size W2 wr (fun x => sumN (fun i => sumN (mutV (zs i) (rv i) cv N x) C) k) (64 * k) [] vp vc Lw)) (fun i _ _ _ _ => R - (intOf i).toNat)
  case atStart => exact ⟨0, _, _, [], Nat.zero_le _, rfl, HI0⟩
  case round =>
    clear HI0
    obtain ⟨k, vp0, vc0, Lw0, hk, rfl, HI⟩ := hrel
    rcases Nat.lt_or_ge k R with h1 | h1
    · obtain ⟨b1, o1, cap1, hc1, hr1⟩ := HR.out w (Below.refl _ _) k h1
      have HTB : Hid (∀ W, Below W0.heap.size W0 W → W.cell? ⟨b, o + k, none⟩ = some (.slice (some ⟨b1, o1, none⟩) C cap1) ∧ RowAt W b1 o1 C (zs k)) := fun W hb => by
        have hb' := below_chain HB0.out hb
        exact ⟨by rw [hb'.cell (cell_lt hc1)]; exact hc1, hr1.later hb'⟩
      have hkn : (k : Int) < (R : Int) := by omega
      have HIJ : Hid (WPuts W0.heap.size N W0.heap.size W2 wr (fun x => sumN (fun i => sumN (mutV (zs i) (rv i) cv N x) C) k + sumN (mutV (zs k) (rv k) cv N x) 0) (64 * k + 4 * 0) [] vp0 vc0 Lw0) := HI.out.congr (by omega) (fun x => by simp [sumN])
      obtain ⟨rr, hrr⟩ := Int.eq_ofNat_of_zero_le (HK.out.r k h1).1
      have hrr6 : rr ≤ 4096 := by have := (HK.out.r k h1).2; omega
      have HRR := Hid.mk' hrr
      have HCR : Hid (∀ W, IntsKept W2 W → W.cell? ⟨gr, qr + k, none⟩ = some (.int .i64 (rr : Int))) := fun W hg => by rw [← hrr]; exact (HR2.out W hg).1 k h1
      clear hc1 hr1 hrr HI
      go_wp2_with fail
      go_loopw [9, 10, 11] (fun i _ _ wr => ∃ (j : Nat) (vp vc : Value) (Lw : List Ent), j ≤ C ∧ i = .int .i64 j ∧ Hid (WPuts W0.heap.size N W0.heap.size W2 wr (fun x => sumN (fun i => sumN (mutV (zs i) (rv i) cv N x) C) k + sumN (mutV (zs k) (rv k) cv N x) j) (64 * k + 4 * j) [] vp vc Lw)) (fun i _ _ _ => C - (intOf i).toNat)
      case atStart => exact ⟨0, _, _, _, Nat.zero_le _, rfl, HIJ⟩
      case round =>
        clear HIJ
        obtain ⟨j, vp, vc, L, hj, rfl, HI⟩ := hrel
        have hbW : Below W0.heap.size W0 wr := HBT.out.trans HI.out.below
        obtain ⟨hcT, hrT⟩ := HTB.out wr hbW
        rcases Nat.lt_or_ge j C with h2 | h2
        · have hcP := hrT j h2
          have hjn : (j : Int) < (C : Int) := by omega
          have hzk := HK.out.z k h1 j h2
          have hcj := HK.out.c j h2
          have hzr := HK.out.zr k h1 j h2
          rw [HRR.out] at hzr
          have HV : Hid (∀ x, sumN (mutV (zs k) (rv k) cv N x) (j + 1) = sumN (mutV (zs k) (rv k) cv N x) j + (zs k j * multI x (zs k j).toNat + (zs k j * multI x N + (-(zs k j) * multI x (rv k).toNat + -(zs k j) * multI x (cv j).toNat)))) := fun x => by
            show sumN (mutV (zs k) (rv k) cv N x) j + mutV (zs k) (rv k) cv N x j = _
            unfold mutV
            omega
          have HBD : Hid (∀ x, -120000000 ≤ atL (absL L) x ∧ atL (absL L) x ≤ 120000000) := fun x => by
            rw [HI.out.val]
            have h3 := mutT_le HK.out x (k := k) (by omega)
            have h4 := mutR_le HK.out x h1 (m := j) (by omega)
            simp only [absL, List.map_nil, atL]
            omega
          have hl0 : L.length ≤ 30000 := by have := HI.out.len; simp at this; omega
          obtain ⟨y, hy⟩ := Int.eq_ofNat_of_zero_le hzk.1
          obtain ⟨u, hu⟩ := Int.eq_ofNat_of_zero_le hcj.1
          have HCU : Hid (∀ W, IntsKept W2 W → W.cell? ⟨gc, qc + j, none⟩ = some (.int .i64 (u : Int))) := fun W hg => by rw [← hu]; exact (HR2.out W hg).2 j h2
          have HCZ : Hid (∀ W, Below W0.heap.size W0 W → W.cell? ⟨b, o + k, none⟩ = some (.slice (some ⟨b1, o1, none⟩) C cap1) ∧ W.cell? ⟨b1, o1 + j, none⟩ = some (.int .i64 (y : Int))) := fun W hb => by rw [← hy]; exact ⟨(HTB.out W hb).1, (HTB.out W hb).2 j h2⟩
          rw [HRR.out, hy, hu] at HV
          rw [hy] at hcP hzk hzr
          rw [hu] at hcj hzr
          simp only [Int.toNat_natCast] at HV
          have hy6 : y ≤ 4096 := by have := hzk.2; omega
          have hu6 : u ≤ 4096 := by have := hcj.2; omega
          have hyr : y ≠ 0 → 1 ≤ rr := fun h => by have := hzr.1; omega
          have hyu : y ≠ 0 → 1 ≤ u := fun h => by have := hzr.2; omega
          clear hy hu hzk hcj hzr hrT
          by_cases hy0 : y = 0
          · subst hy0
            have HV0 : Hid (∀ x, sumN (fun i => sumN (mutV (zs i) (rv i) cv N x) C) k + sumN (mutV (zs k) (rv k) cv N x) j = sumN (fun i => sumN (mutV (zs i) (rv i) cv N x) C) k + sumN (mutV (zs k) (rv k) cv N x) (j + 1)) := fun x => by rw [HRR.out, HV.out x]; simp
            clear HV hbW
            go_wp2_with fail
            exact ⟨⟨j + 1, vp, vc, L, h2, by go_num, HI.out.congr (by omega) HV0.out⟩, by simp [intOf]; omega⟩
          · have hyb : ((y : Int) == 0) = false := by simpa using hy0
            have hr1' := hyr hy0
            have hu1' := hyu hy0
            have hBw := HI.out.wide.lt
            have hro := RatioOf_low (y : Int) N wr (by omega) hN1.1 (by omega)
            have HBWr := Hid.mk' hbW
            clear hbW hyr hyu
            go_wp2_with fail
            refine hro.mono ?_
            clear hro hcP hcT
            rintro e w3 ⟨r3, rfl, hr3, hb3⟩
            obtain ⟨s3, ad3, l3, ca3, ad4, l4, ca4, rfl⟩ := hr3.parts
            obtain ⟨W3, hW3⟩ : ∃ W3, W3 = w3.alloc (.cells #[.bool s3, .slice ad3 l3 ca3, .slice ad4 l4 ca4] 54) := ⟨_, rfl⟩
            have hbA : Below wr.heap.size wr W3 := by rw [hW3]; exact more_below hb3 _
            have HKB : Hid (KBox W0.heap.size W3 w3.heap.size s3 ad3 l3 ca3 ad4 l4 ca4) := by
              rw [hW3] at hbA ⊢
              exact ⟨by simp, by simp, by simp, HI.out.wide.not_mine' hbA hb3.size⟩
            have HRT : Hid (RatioAt W3 (.agg #[.bool s3, .slice ad3 l3 ca3, .slice ad4 l4 ca4]) (lowN N y) (lowD N y)) := by rw [hW3]; exact hr3.later (new_below _ _)
            have HI3 := Hid.mk' (HI.out.later hbA)
            have hB3 := HI3.out.wide.lt
            have HW3 := Hid.mk' hW3
            clear hr3 hb3 hbA hW3 HI HBWr
            go_upto_region 13 with fail
            rw [← HW3.out]
            clear HW3
            have HKS : Hid (∀ W, Below W3.heap.size W3 W → W.cell? ⟨w3.heap.size, 0, none⟩ = some (.bool s3) ∧ W.cell? ⟨w3.heap.size, 1, none⟩ = some (.slice ad3 l3 ca3) ∧ W.cell? ⟨w3.heap.size, 2, none⟩ = some (.slice ad4 l4 ca4)) := fun W hb => by
              have := HKB.out.later hb hB3
              exact ⟨this.c0, this.c1, this.c2⟩
            have HRZ : Hid (∀ W, Calls Tryz.prog 22 #[.int .i64 0, .int .i64 1] W fun e w' => ∃ r, e = .returned r ∧ RatioAt w' r (lowN 1 0) (lowD 1 0) ∧ Below W.heap.size W w') := fun W => RatioOf_low 0 1 W (by omega) (by omega) (by omega)
            have HMI : Hid (∀ (W : World) (r : Value), Below W3.heap.size W3 W → RatioAt W r (lowN 1 0) (lowD 1 0) → Calls Tryz.prog 36 #[r, .agg #[.bool s3, .slice ad3 l3 ca3, .slice ad4 l4 ca4]] W fun e w' => ∃ r', e = .returned r' ∧ RatioAt w' r' (lowN N (-(y : Int))) (lowD N (-(y : Int))) ∧ Below W.heap.size W w') := fun W r hb hr' =>
              Minus_low N y r _ W hr' (HRT.out.later hb) hN1.1 hN1.2 (by omega)
            have hcur0 : Below W3.heap.size W3 W3 := Below.refl _ _
            have hcur : Below W3.heap.size W3 W3.drew := (Below.refl _ _).drew
            have hcurA : ∀ X, Below W3.heap.size W3 (W3.alloc X).drew := fun X => (new_below _ _).drew
            go_cut [11] from 27 to 83 (fun s' wx => ∃ Bs : Nat, s' = .pointer (some ⟨Bs, 0, none⟩) ∧ Hid (RBox W3 wx Bs (lowN N (-(y : Int))) (lowD N (-(y : Int)))))
            case first =>
              go_region_held3 (fun W => W.cell? ⟨w3.heap.size, 0, none⟩ = some (.bool s3) ∧ W.cell? ⟨w3.heap.size, 1, none⟩ = some (.slice ad3 l3 ca3) ∧ W.cell? ⟨w3.heap.size, 2, none⟩ = some (.slice ad4 l4 ca4))
                (first | exact HKS.out _ hcur0 | exact HKS.out _ hcur | exact HKS.out _ (hcurA _) | (refine HKS.out _ ?_; assumption) | (refine HKS.out _ (more_below ?_ _); assumption) | (refine HKS.out _ (below_set3 ?_ NB.hB _ _ _); assumption))
                (first
                  | (go_at_call 36; refine (HMI.out _ _ ?_ (HX1.out _ ?_)).mono ?_; (first | exact hbw1 | exact more_below hbw1 _); (first | exact Below.refl _ _ | exact new_below _ _); rintro e w7 ⟨rv7, rfl, hrv, hb7⟩; obtain ⟨sg, ad8, l8, cap8, ad9, l9, cap9, rfl⟩ := hrv.parts; (first | (have hbw7 := below_chain hbw1 hb7; try have NB := NB.later hb7) | (have hbw7 := below_chain (more_below hbw1 _) hb7; have NB := newBox3_of hbw1 hb7)); (try (have y0 := NB.c0; have y1 := NB.c1; have y2 := NB.c2; have y3 := NB.f0; have y4 := NB.f1; have y5 := NB.f2)); have HRV := Hid.mk' hrv; clear hrv hb7)
                  | (go_at_call 22; refine (HRZ.out _).mono ?_; rintro e w5 ⟨r5, rfl, hr5, hb5⟩; obtain ⟨sg5, ad5, l5, cap5, ad6, l6, cap6, rfl⟩ := hr5.parts; (first | have hbw1 := below_chain hcur hb5 | (have hbw1 := below_chain (hcurA _) hb5; have NB := newBox3_of hcur0 (below_chain ((Below.refl _ _).drew) hb5))); have HX1 : Hid (∀ W, Below w5.heap.size w5 W → RatioAt W (.agg #[.bool sg5, .slice ad5 l5 cap5, .slice ad6 l6 cap6]) (lowN 1 0) (lowD 1 0)) := (fun W hb => hr5.later hb); clear hr5 hb5))
              all_goals
                go_wp2_with fail
                go_meet
                first | exact ⟨_, rfl, rBox_late hbw7 HRV.out⟩ | exact ⟨_, rfl, rBox_soon hbw7 HRV.out NB⟩
            case rest =>
            obtain ⟨Bs, rfl, HRB⟩ := hcut
            obtain ⟨Wc, hWc⟩ : ∃ Wc, Wc = wc := ⟨_, rfl⟩
            rw [← hWc] at HRB ⊢
            clear hWc hcur0 hcur hcurA HMI HRZ HKS
            obtain ⟨sg, ad8, l8, cap8, ad9, l9, cap9, x0, x1, x2, hrat⟩ := HRB.out.box
            have HI4 := Hid.mk' (HI3.out.later HRB.out.below)
            have HLS : Hid (KBox W0.heap.size Wc Bs sg ad8 l8 cap8 ad9 l9 cap9) := ⟨x0, x1, x2, HI3.out.wide.not_mine' HRB.out.below HRB.out.hB⟩
            have HCB := Hid.mk' (HKB.out.later HRB.out.below hB3)
            have HRC := Hid.mk' (HRT.out.later HRB.out.below)
            have HRL := Hid.mk' hrat
            have HBC : Hid (Below W0.heap.size W0 Wc) := HBT.out.trans HI4.out.below
            have hBc := HI4.out.wide.lt
            clear hrat x0 x1 x2 HKB HRT HI3 HRB hB3
            have NUM : Hid (∀ (W : World) (m : Nat) (t : Int) (r vp' vc' : Value) (L' : List Ent) (g : Int → Int) (c : Nat), WPuts W0.heap.size N W0.heap.size Wc W g c L vp' vc' L' → c ≤ 3 → (∀ x, -300000 ≤ g x ∧ g x ≤ 300000) → RatioAt Wc r (lowN N t) (lowD N t) → 1 ≤ m → m ≤ 4096 → (-4096 ≤ t ∧ t ≤ 4096) → Calls Tryz.prog 37 #[.pointer (some ⟨W0.heap.size, 0, none⟩), .int .i64 (m : Int), r] W fun e w' => e = .returned (.tuple #[]) ∧ ∃ vp'' vc'' L'', WPuts W0.heap.size N W0.heap.size Wc w' (fun x => g x + t * multI x m) (c + 1) L vp'' vc'' L'') := fun W m t r vp' vc' L' g c hw hc hg hr' hm1 hm2 ht => by
              refine (Number_by W0.heap.size N W0.heap.size m t r vp' vc' L' W hw.wide (hr'.kept hw.kept) hN1.1 hN1.2 hw.rise (by have := hw.len; omega) hm1 (by omega) (fun x => by rw [hw.val]; have h2 := HBD.out x; have h3 := hg x; omega) (by omega)).mono ?_
              rintro e w' ⟨rfl, vp'', vc'', L'', hq⟩
              exact ⟨rfl, vp'', vc'', L'', hw.trans hq⟩
            have MW := Hid.mk' (fun (x : Int) (m : Nat) (hm : m ≤ 4096) => mul_weight (t := (y : Int)) (by omega) (multI_small x (n := m) (by omega)))
            have MN := Hid.mk' (fun (x : Int) (m : Nat) (hm : m ≤ 4096) => mul_weight (t := -(y : Int)) (by omega) (multI_small x (n := m) (by omega)))
            have HST : Hid (WPuts W0.heap.size N W0.heap.size Wc Wc (fun _ => 0) 0 L vp vc L) := WPuts.start HI4.out.wide HI4.out.rise (fun _ => rfl) 0
            -- the first: the cell's own
            have N1 : Hid (∀ W, Below Wc.heap.size Wc W → Calls Tryz.prog 37 #[.pointer (some ⟨W0.heap.size, 0, none⟩), .int .i64 (y : Int), .agg #[.bool s3, .slice ad3 l3 ca3, .slice ad4 l4 ca4]] W fun e w' => e = .returned (.tuple #[]) ∧ ∃ vp'' vc'' L'', WPuts W0.heap.size N W0.heap.size Wc w' (fun x => 0 + (y : Int) * multI x y) (0 + 1) L vp'' vc'' L'') := fun W hb => NUM.out W y y _ vp vc L (fun _ => 0) 0 (HST.out.later hb) (by omega) (fun x => by omega) HRC.out (by omega) hy6 (by omega)
            have HS1 : Hid (∀ W, Below W0.heap.size Wc W → Moved W0.heap.size Wc W → (W.cell? ⟨w3.heap.size, 0, none⟩ = some (.bool s3) ∧ W.cell? ⟨w3.heap.size, 1, none⟩ = some (.slice ad3 l3 ca3) ∧ W.cell? ⟨w3.heap.size, 2, none⟩ = some (.slice ad4 l4 ca4)) ∧ W.cell? ⟨b, o + k, none⟩ = some (.slice (some ⟨b1, o1, none⟩) C cap1) ∧ W.cell? ⟨b1, o1 + j, none⟩ = some (.int .i64 (y : Int))) := fun W hb' hm' => ⟨⟨(HCB.out.moved hm').c0, (HCB.out.moved hm').c1, (HCB.out.moved hm').c2⟩, HCZ.out W (HBC.out.trans hb')⟩
            have HS1B : Hid (∀ W, Below Wc.heap.size Wc W → (W.cell? ⟨w3.heap.size, 0, none⟩ = some (.bool s3) ∧ W.cell? ⟨w3.heap.size, 1, none⟩ = some (.slice ad3 l3 ca3) ∧ W.cell? ⟨w3.heap.size, 2, none⟩ = some (.slice ad4 l4 ca4)) ∧ W.cell? ⟨b, o + k, none⟩ = some (.slice (some ⟨b1, o1, none⟩) C cap1) ∧ W.cell? ⟨b1, o1 + j, none⟩ = some (.int .i64 (y : Int))) := fun W hb => HS1.out W (hb.mono HBC.out.size) (Moved.of_below hb hBc)
            have hcur0 : Below Wc.heap.size Wc Wc := Below.refl _ _
            have hcur : Below Wc.heap.size Wc Wc.drew := (Below.refl _ _).drew
            go_upto_region 14 with fail
            go_cut [] from 27 to 83 (fun wx => ∃ (vp' vc' : Value) (L' : List Ent), Hid (WPuts W0.heap.size N W0.heap.size Wc wx (fun x => 0 + (y : Int) * multI x y) (0 + 1) L vp' vc' L'))
            case first =>
              go_region_held3 (fun W => (W.cell? ⟨w3.heap.size, 0, none⟩ = some (.bool s3) ∧ W.cell? ⟨w3.heap.size, 1, none⟩ = some (.slice ad3 l3 ca3) ∧ W.cell? ⟨w3.heap.size, 2, none⟩ = some (.slice ad4 l4 ca4)) ∧ W.cell? ⟨b, o + k, none⟩ = some (.slice (some ⟨b1, o1, none⟩) C cap1) ∧ W.cell? ⟨b1, o1 + j, none⟩ = some (.int .i64 (y : Int)))
                (first | exact HS1B.out _ hcur0 | exact HS1B.out _ hcur | exact HT5.out)
                (first | (go_at_call 37; refine (N1.out _ hcur).mono ?_; rintro e w5 ⟨rfl, vp5, vc5, L5, hq5⟩; have HT5 := Hid.mk' (HS1.out w5 hq5.below hq5.moved); have HQ5 := Hid.mk' hq5; clear hq5))
              all_goals
                go_wp2_with fail
                go_meet
                exact ⟨_, _, _, HQ5⟩
            case rest =>
            obtain ⟨vp5, vc5, L5, HQ5⟩ := hcut
            obtain ⟨W5, hW5⟩ : ∃ W5, W5 = wc := ⟨_, rfl⟩
            rw [← hW5] at HQ5 ⊢
            clear hW5 hcur0 hcur N1 HS1B HS1
            have K5 := HCB.out.moved HQ5.out.moved
            have x0 := K5.c0
            have x1 := K5.c1
            have x2 := K5.c2
            have n2 := NUM.out W5 N (y : Int) _ vp5 vc5 L5 _ _ HQ5.out (by omega) (fun x => by have := MW.out x y hy6; omega) HRC.out hN1.1 hN1.2 (by omega)
            clear K5
            go_wp2_with fail
            refine n2.mono ?_
            clear n2 x0 x1 x2
            rintro e w6 ⟨rfl, vp6, vc6, L6, hq6⟩
            have HQ6 := Hid.mk' hq6
            clear hq6 HQ5
            have N3 : Hid (∀ W, Below w6.heap.size w6 W → Calls Tryz.prog 37 #[.pointer (some ⟨W0.heap.size, 0, none⟩), .int .i64 (rr : Int), .agg #[.bool sg, .slice ad8 l8 cap8, .slice ad9 l9 cap9]] W fun e w' => e = .returned (.tuple #[]) ∧ ∃ vp'' vc'' L'', WPuts W0.heap.size N W0.heap.size Wc w' (fun x => 0 + (y : Int) * multI x y + (y : Int) * multI x N + -(y : Int) * multI x rr) (0 + 1 + 1 + 1) L vp'' vc'' L'') := fun W hb => NUM.out W rr (-(y : Int)) _ vp6 vc6 L6 _ _ (HQ6.out.later hb) (by omega) (fun x => by have h1 := MW.out x y hy6; have h2 := MW.out x N hN1.2; omega) HRL.out hr1' hrr6 (by omega)
            have HS3 : Hid (∀ W, IntsKept Wc W → Moved W0.heap.size Wc W → (W.cell? ⟨Bs, 0, none⟩ = some (.bool sg) ∧ W.cell? ⟨Bs, 1, none⟩ = some (.slice ad8 l8 cap8) ∧ W.cell? ⟨Bs, 2, none⟩ = some (.slice ad9 l9 cap9)) ∧ W.cell? ⟨gr, qr + k, none⟩ = some (.int .i64 (rr : Int))) := fun W hk' hm' => ⟨⟨(HLS.out.moved hm').c0, (HLS.out.moved hm').c1, (HLS.out.moved hm').c2⟩, HCR.out W (HI4.out.kept.trans hk')⟩
            have hB6 := HQ6.out.wide.lt
            have HS3B : Hid (∀ W, Below w6.heap.size w6 W → (W.cell? ⟨Bs, 0, none⟩ = some (.bool sg) ∧ W.cell? ⟨Bs, 1, none⟩ = some (.slice ad8 l8 cap8) ∧ W.cell? ⟨Bs, 2, none⟩ = some (.slice ad9 l9 cap9)) ∧ W.cell? ⟨gr, qr + k, none⟩ = some (.int .i64 (rr : Int))) := fun W hb => HS3.out W (HQ6.out.kept.trans (IntsKept.of_below hb)) (HQ6.out.moved.trans (Moved.of_below hb hB6))
            have hcur0 : Below w6.heap.size w6 w6 := Below.refl _ _
            have hcur : Below w6.heap.size w6 w6.drew := (Below.refl _ _).drew
            go_upto_region 16 with fail
            go_cut [] from 27 to 83 (fun wx => ∃ (vp' vc' : Value) (L' : List Ent), Hid (WPuts W0.heap.size N W0.heap.size Wc wx (fun x => 0 + (y : Int) * multI x y + (y : Int) * multI x N + -(y : Int) * multI x rr) (0 + 1 + 1 + 1) L vp' vc' L'))
            case first =>
              go_region_held3 (fun W => (W.cell? ⟨Bs, 0, none⟩ = some (.bool sg) ∧ W.cell? ⟨Bs, 1, none⟩ = some (.slice ad8 l8 cap8) ∧ W.cell? ⟨Bs, 2, none⟩ = some (.slice ad9 l9 cap9)) ∧ W.cell? ⟨gr, qr + k, none⟩ = some (.int .i64 (rr : Int)))
                (first | exact HS3B.out _ hcur0 | exact HS3B.out _ hcur | exact HT7.out)
                (first | (go_at_call 37; refine (N3.out _ hcur).mono ?_; rintro e w7 ⟨rfl, vp7, vc7, L7, hq7⟩; have HT7 := Hid.mk' (HS3.out w7 hq7.kept hq7.moved); have HQ7 := Hid.mk' hq7; clear hq7))
              all_goals
                go_wp2_with fail
                go_meet
                exact ⟨_, _, _, HQ7⟩
            case rest =>
            obtain ⟨vp7, vc7, L7, HQ7⟩ := hcut
            obtain ⟨W7, hW7⟩ : ∃ W7, W7 = wc := ⟨_, rfl⟩
            rw [← hW7] at HQ7 ⊢
            clear hW7 hcur0 hcur N3 HS3B HS3 HQ6
            have N4 : Hid (∀ W, Below W7.heap.size W7 W → Calls Tryz.prog 37 #[.pointer (some ⟨W0.heap.size, 0, none⟩), .int .i64 (u : Int), .agg #[.bool sg, .slice ad8 l8 cap8, .slice ad9 l9 cap9]] W fun e w' => e = .returned (.tuple #[]) ∧ ∃ vp'' vc'' L'', WPuts W0.heap.size N W0.heap.size Wc w' (fun x => 0 + (y : Int) * multI x y + (y : Int) * multI x N + -(y : Int) * multI x rr + -(y : Int) * multI x u) (0 + 1 + 1 + 1 + 1) L vp'' vc'' L'') := fun W hb => NUM.out W u (-(y : Int)) _ vp7 vc7 L7 _ _ (HQ7.out.later hb) (by omega) (fun x => by have h1 := MW.out x y hy6; have h2 := MW.out x N hN1.2; have h3 := MN.out x rr hrr6; omega) HRL.out hu1' hu6 (by omega)
            have HS4 : Hid (∀ W, IntsKept Wc W → Moved W0.heap.size Wc W → (W.cell? ⟨Bs, 0, none⟩ = some (.bool sg) ∧ W.cell? ⟨Bs, 1, none⟩ = some (.slice ad8 l8 cap8) ∧ W.cell? ⟨Bs, 2, none⟩ = some (.slice ad9 l9 cap9)) ∧ W.cell? ⟨gc, qc + j, none⟩ = some (.int .i64 (u : Int))) := fun W hk' hm' => ⟨⟨(HLS.out.moved hm').c0, (HLS.out.moved hm').c1, (HLS.out.moved hm').c2⟩, HCU.out W (HI4.out.kept.trans hk')⟩
            have hB7 := HQ7.out.wide.lt
            have HS4B : Hid (∀ W, Below W7.heap.size W7 W → (W.cell? ⟨Bs, 0, none⟩ = some (.bool sg) ∧ W.cell? ⟨Bs, 1, none⟩ = some (.slice ad8 l8 cap8) ∧ W.cell? ⟨Bs, 2, none⟩ = some (.slice ad9 l9 cap9)) ∧ W.cell? ⟨gc, qc + j, none⟩ = some (.int .i64 (u : Int))) := fun W hb => HS4.out W (HQ7.out.kept.trans (IntsKept.of_below hb)) (HQ7.out.moved.trans (Moved.of_below hb hB7))
            have hcur0 : Below W7.heap.size W7 W7 := Below.refl _ _
            have hcur : Below W7.heap.size W7 W7.drew := (Below.refl _ _).drew
            go_upto_region 17 with fail
            go_region_held3 (fun W => (W.cell? ⟨Bs, 0, none⟩ = some (.bool sg) ∧ W.cell? ⟨Bs, 1, none⟩ = some (.slice ad8 l8 cap8) ∧ W.cell? ⟨Bs, 2, none⟩ = some (.slice ad9 l9 cap9)) ∧ W.cell? ⟨gc, qc + j, none⟩ = some (.int .i64 (u : Int)))
              (first | exact HS4B.out _ hcur0 | exact HS4B.out _ hcur | exact HT8.out)
              (first | (go_at_call 37; refine (N4.out _ hcur).mono ?_; rintro e w8 ⟨rfl, vp8, vc8, L8, hq8⟩; have HT8 := Hid.mk' (HS4.out w8 hq8.kept hq8.moved); have HQ9 : Hid (WPuts W0.heap.size N W0.heap.size W2 w8 (fun x => sumN (fun i => sumN (mutV (zs i) (rv i) cv N x) C) k + sumN (mutV (zs k) (rv k) cv N x) (j + 1)) (64 * k + 4 * (j + 1)) [] vp8 vc8 L8) := ((HI4.out.trans hq8).congr (by omega) (fun x => by rw [HRR.out, HV.out x]; omega)); clear hq8))
            all_goals
              go_wp2_with fail
              exact ⟨⟨j + 1, vp8, vc8, L8, h2, by go_num, HQ9⟩, by simp [intOf]; omega⟩
        · obtain rfl : j = C := by omega
          have HQ : Hid (WPuts W0.heap.size N W0.heap.size W2 wr (fun x => sumN (fun i => sumN (mutV (zs i) (rv i) cv N x) j) (k + 1)) (64 * (k + 1)) [] vp vc L) := HI.out.congr (by omega) (fun x => rfl)
          clear HI hbW hrT
          go_wp2_with fail
          exact ⟨⟨k + 1, vp, vc, L, h1, by go_num, HQ⟩, by simp [intOf]; omega⟩
    · obtain rfl : k = R := by omega
      have hbA : Below W0.heap.size W0 wr := HBT.out.trans HI.out.below
      have ht := WTold_by W0.heap.size N W0.heap.size vp0 vc0 Lw0 (fun x => sumN (fun i => sumN (mutV (zs i) (rv i) cv N x) C) k) wr HI.out.wide HI.out.rise hN1.1 hN1.2 (by have := HI.out.len; simp at this; omega) (fun x => by have := HI.out.val x; simpa [absL, atL] using this) (fun x => by have := mutT_le HK.out x (Nat.le_refl _); omega)
      go_wp2_with fail
      refine ht.mono ?_
      clear ht
      rintro e w4 ⟨dn, v, rfl, hlb, hb4⟩
      obtain ⟨c0, c1, q0, q1⟩ := HRES.out w4 (below_chain hbA hb4)
      have HBX := Hid.mk' (below_chain HB0.out (below_chain hbA hb4))
      have HLT : Hid (w.heap.size < wr.heap.size) := by have h1 := HZ0.out; have h2 := hbA.size; show _ < _; omega
      have HLB := Hid.mk' hlb
      obtain ⟨ad9, n9, c9, rfl⟩ := hlb.form
      clear hlb hbA hb4
      go_wp2_with fail
      refine bodyPost_ret (v := .tuple #[.agg #[.int .i64 dn, .slice ad9 n9 c9], .int .i64 0]) (by simp [results, Tryz.results16, go_sem, c0, c1]) rfl ⟨_, .slice ad9 n9 c9, rfl, (HLB.out.set HLT.out _ _).lower (Nat.le_of_lt HLT.out), ?_⟩
      exact (HBX.out.setCell (by simp) _).setCell (by simp) _
end Go.Proofs.YtfnmpkkfdljgcaaGreatDoor

/- The law DistMutual. -/
namespace Go.Proofs.YtfnmpkkfdljgcaaGreatDoor
open Go.RowKit

set_option maxRecDepth 100000 in
set_option maxHeartbeats 4000000 in
theorem DistMutual_all (a : Nat → Addr) (ad : Option Addr) (R cap : Nat) (vs : Nat → Value) (ns : Nat → Nat) (zs : Nat → Nat → Int) (w : World) (hE : Errs w a) (k : TabAt w (.slice ad R cap) R vs ns zs) (hm : R ≤ maxLen) (hs : sumT ns R ≤ 2000000) :
    Calls Tryz.prog 5 #[.slice ad R cap] w fun e w' => e = .returned (.bool true) ∧ Below w.heap.size w w' := by
  have hC := coin_any a w hE
  by_cases hf : R ≤ 40 ∧ sumT ns R ≤ 400
  · have HFW : Hid (∀ W, Below w.heap.size w W → Calls Tryz.prog 7 #[.slice ad R cap] W fun e w' => e = .returned (.bool true) ∧ Below W.heap.size W w') := fun W hb => few_any _ R vs ns zs W (k.later hb) hm hs true ⟨fun _ => hf, fun _ => rfl⟩
    have HK : Hid (∀ W, Below w.heap.size w W → TabAt W (.slice ad R cap) R vs ns zs) := fun W hb => k.later hb
    obtain ⟨hf1, hf2⟩ := hf
    by_cases h0 : tabErr R ns zs = 0
    · obtain ⟨hR16, _, _, hok, hn256⟩ := tabErr_ok h0
      obtain ⟨N, hkT, hNN⟩ := tabErr_okT h0
      obtain ⟨L, hL⟩ : ∃ L, L = flatL ns zs R := ⟨_, rfl⟩
      obtain ⟨n, hn⟩ : ∃ n, L.length = n := ⟨_, rfl⟩
      rw [← hL, hn] at hok hn256
      have hp := hok.posN
      have hN : sumN (atF L) n = N := by rw [← hn, hL]; exact hNN
      have hN1 : 1 ≤ N ∧ N ≤ 4096 := by have := hok.pos; have := hok.le; omega
      have HTE : Hid (∀ W, Below w.heap.size w W → Calls Tryz.prog 8 #[.slice ad R cap] W fun e w' => e = .returned (.int .i64 0) ∧ Below W.heap.size W w') := fun W hb => by
        have := TableError_any _ R vs ns zs W (k.later hb) hf1 hf2
        rw [h0] at this
        exact this
      have HEO : Hid (∀ W, Below w.heap.size w W → Calls Tryz.prog 16 #[.slice ad R cap] W fun e w' => ∃ dn v, e = .returned (.tuple #[.agg #[.int .i64 dn, v], .int .i64 0]) ∧ LogBy W.heap.size N (fun x => sumN (fun i => sumN (mutV (zs i) (rowSum ns zs i) (colV zs R) N x) (ns 0)) R) w' dn v ∧ Below W.heap.size W w') := fun W hb => MutualOf_ok ad R cap N n vs ns zs L W (k.later hb) hf2 hkT hok hL hn hN
      have HEN : Hid (∀ (W : World) (v : Value) (us : Nat → Value), Below w.heap.size w W → TabAt W v R us ns zs → Calls Tryz.prog 17 #[v] W fun e w' => ∃ dn v', e = .returned (.tuple #[.agg #[.int .i64 dn, v'], .nilIface]) ∧ LogBy W.heap.size N (fun x => sumN (fun i => sumN (mutV (zs i) (rowSum ns zs i) (colV zs R) N x) (ns 0)) R) w' dn v' ∧ Below W.heap.size W w') := fun W v us hb hv => by
        obtain ⟨ad1, cap1, rfl⟩ := hv.form
        exact Mutual_ok a ad1 R cap1 N us ns zs W (hE.below hb) hv hf1 hf2 h0 hkT
      clear hE k h0 hok hL hn hN hNN hkT
      go_enter Tryz.func5, Tryz.ntmps5
      go_wp2_with (first
        | (go_at_call 6; refine hC.mono ?_; rintro e w1 ⟨rfl, hb1⟩; have HB1 := Hid.mk' hb1; clear hb1)
        | (go_at_call 7; refine (HFW.out w1 HB1.out).mono ?_; rintro e w2 ⟨rfl, hb2⟩; have HB2 := Hid.mk' (below_chain HB1.out hb2); clear hb2)
        | (go_at_call 8; refine (HTE.out w2 HB2.out).mono ?_; rintro e w3 ⟨rfl, hb3⟩; have HB3 := Hid.mk' (below_chain HB2.out hb3); have HBX := Hid.mk' (below_chain HB3.out (new_below w3 (.cells #[.int .i64 0, .slice none 0 0] 28))); clear hb3))
      refine (HEO.out _ HBX.out).mono ?_
      clear HEO HTE HFW
      rintro e w5 ⟨dn, v, rfl, hlb, hb5⟩
      obtain ⟨ad5, n5, cap5, rfl⟩ := hlb.form
      have hb35 := hb5
      obtain ⟨c0, c1, q0, q1⟩ := box_past2 hb35
      have hz3 := HB3.out.size
      obtain ⟨W6, hW6⟩ : ∃ W6, W6 = (w5.setCell ⟨w3.heap.size, 0, none⟩ (.int .i64 dn)).setCell ⟨w3.heap.size, 1, none⟩ (.slice ad5 n5 cap5) := ⟨_, rfl⟩
      have HB6 : Hid (Below w.heap.size w W6) := by rw [hW6]; exact ((below_chain HBX.out hb35).setCell hz3 _).setCell hz3 _
      have HL6 : Hid (LogBy (w3.heap.size + 1) N (fun x => sumN (fun i => sumN (mutV (zs i) (rowSum ns zs i) (colV zs R) N x) (ns 0)) R) W6 dn (.slice ad5 n5 cap5)) := by
        rw [hW6]
        have := hlb.set (B := w3.heap.size) (by simp) (.int .i64 dn) (.slice ad5 n5 cap5)
        rw [World.size_alloc] at this
        exact this
      have HC6 : Hid (W6.cell? ⟨w3.heap.size, 0, none⟩ = some (.int .i64 dn) ∧ W6.cell? ⟨w3.heap.size, 1, none⟩ = some (.slice ad5 n5 cap5)) := by
        rw [hW6]
        exact ⟨by rw [World.cell?_setCell_other _ _ _ _ (by simp)]; exact World.cell?_setCell_same _ _ _ c0, World.cell?_setCell_same _ _ _ (by rw [World.cell?_setCell_other _ _ _ _ (by simp)]; exact c1)⟩
      have HW6 := Hid.mk' hW6
      clear hlb hb5 hb35 hW6
      go_upto_region 8 with fail
      rw [← HW6.out]
      go_wp2_with (first
        | (go_at_call 12; refine (lists_any _ R vs ns zs W6 (HK.out _ HB6.out) hf1 hf2).mono ?_; rintro e w7 ⟨v7, vs7, rfl, hv7, hb7⟩; obtain ⟨ad7, cap7, rfl⟩ := hv7.form; have HV7 := Hid.mk' hv7; have HB7 := Hid.mk' hb7; clear hv7 hb7)
        | (go_at_call 17; refine (HEN.out w7 _ vs7 (below_chain HB6.out HB7.out) HV7.out).mono ?_; rintro e w8 ⟨dn8, v8, rfl, hlb8, hb8⟩; obtain ⟨ad8, n8, cap8, rfl⟩ := hlb8.form; have hbY := below_chain (below_chain HB7.out hb8) (new_below w8 (.cells #[.int .i64 dn8, .slice ad8 n8 cap8] 28)); have y0 := (cell_past HC6.out.1 hbY).2; have y1 := (cell_past HC6.out.2 hbY).2; have HIS := Hid.mk' (isLog_by (hlb8.later (new_below w8 (.cells #[.int .i64 dn8, .slice ad8 n8 cap8] 28))) (HL6.out.later hbY) (fun _ => rfl)); have HBY := Hid.mk' (below_chain HB6.out hbY); clear hlb8 hb8 hbY)
        | (go_at_call 13; refine HIS.out.mono ?_; rintro e w9 ⟨rfl, hb9⟩; have HB9 := Hid.mk' (below_chain HBY.out hb9); clear hb9))
      go_ret
      exact ⟨rfl, HB9.out⟩
    · have HTE : Hid (∀ W, Below w.heap.size w W → Calls Tryz.prog 8 #[.slice ad R cap] W fun e w' => e = .returned (.int .i64 (tabErr R ns zs : Int)) ∧ Below W.heap.size W w') := fun W hb => TableError_any _ R vs ns zs W (k.later hb) hf1 hf2
      have HEN : Hid (∀ (W : World) (v : Value) (us : Nat → Value), Below w.heap.size w W → TabAt W v R us ns zs → Calls Tryz.prog 17 #[v] W fun e w' => e = .returned (.tuple #[.agg #[.int .i64 0, .slice none 0 0], errV a (tabErr R ns zs)]) ∧ Below W.heap.size W w') := fun W v us hb hv => Mutual_bad a v R us ns zs W (hE.below hb) hv hf1 hf2 h0
      have HIS : Hid (∀ W, Below w.heap.size w W → Calls Tryz.prog 13 #[.agg #[.int .i64 0, .slice none 0 0], errV a (tabErr R ns zs), .agg #[.int .i64 0, .slice none 0 0], .int .i64 (tabErr R ns zs : Int)] W fun e w' => e = .returned (.bool true) ∧ Below W.heap.size W w') := fun W hb => isLog_bad a _ h0 (by have := tabErr_le R ns zs; omega) 0 none 0 0 W (hE.below hb)
      obtain ⟨ev, hev⟩ : ∃ ev, ev = errV a (tabErr R ns zs) := ⟨_, rfl⟩
      rw [← hev] at HEN HIS
      generalize tabErr R ns zs = c at *
      clear hE k hev
      have hcb : ((c : Int) == 0) = false := by simpa using h0
      go_enter Tryz.func5, Tryz.ntmps5
      go_wp2_with (first
        | (go_at_call 6; refine hC.mono ?_; rintro e w1 ⟨rfl, hb1⟩; have HB1 := Hid.mk' hb1; clear hb1)
        | (go_at_call 7; refine (HFW.out w1 HB1.out).mono ?_; rintro e w2 ⟨rfl, hb2⟩; have HB2 := Hid.mk' (below_chain HB1.out hb2); clear hb2)
        | (go_at_call 8; refine (HTE.out w2 HB2.out).mono ?_; rintro e w3 ⟨rfl, hb3⟩; have HB3 := Hid.mk' (below_chain HB2.out hb3); have HBX := Hid.mk' (below_chain HB3.out (new_below w3 (.cells #[.int .i64 0, .slice none 0 0] 28))); clear hb3)
        | (go_at_call 12; refine (lists_any _ R vs ns zs _ (HK.out _ HBX.out) hf1 hf2).mono ?_; rintro e w7 ⟨v7, vs7, rfl, hv7, hb7⟩; obtain ⟨ad7, cap7, rfl⟩ := hv7.form; have HV7 := Hid.mk' hv7; have HB7 := Hid.mk' hb7; clear hv7 hb7)
        | (go_at_call 17; refine (HEN.out w7 _ vs7 (below_chain HBX.out HB7.out) HV7.out).mono ?_; rintro e w8 ⟨rfl, hb8⟩; have hbY := below_chain (below_chain HB7.out hb8) (new_below w8 (.cells #[.int .i64 0, .slice none 0 0] 28)); obtain ⟨c0, c1, _, _⟩ := box_past2 hbY; have HBY := Hid.mk' (below_chain HBX.out hbY); clear hb8 hbY)
        | (go_at_call 13; refine (HIS.out _ HBY.out).mono ?_; rintro e w9 ⟨rfl, hb9⟩; have HB9 := Hid.mk' (below_chain HBY.out hb9); clear hb9))
      go_ret
      exact ⟨rfl, HB9.out⟩
  · have HFW : Hid (∀ W, Below w.heap.size w W → Calls Tryz.prog 7 #[.slice ad R cap] W fun e w' => e = .returned (.bool false) ∧ Below W.heap.size W w') := fun W hb => few_any _ R vs ns zs W (k.later hb) hm hs false ⟨(fun e => by cases e), (fun e => absurd e hf)⟩
    clear hE k hf
    go_enter Tryz.func5, Tryz.ntmps5
    go_wp2_with (first
      | (go_at_call 6; refine hC.mono ?_; rintro e w1 ⟨rfl, hb1⟩; have HB1 := Hid.mk' hb1; clear hb1)
      | (go_at_call 7; refine (HFW.out w1 HB1.out).mono ?_; rintro e w2 ⟨rfl, hb2⟩; have HB2 := Hid.mk' (below_chain HB1.out hb2); clear hb2))
    go_ret
    exact ⟨rfl, HB2.out⟩
end Go.Proofs.YtfnmpkkfdljgcaaGreatDoor

/- What the rows' condition on package variables gives a walk: eight different sentinels with their texts, and the handle of the type error. -/
namespace Go.Proofs.YtfnmpkkfdljgcaaGreatDoor
open Go.ChangeShapes Go.WideShapes Go.RowKit

theorem Tryz.own : ownKnob Tryz.prog.godebug = none := by kernel_rfl
theorem Tryz.et : Tryz.prog.globalNamed "errors.errorType" = some 8 := by kernel_rfl
theorem Tryz.rt : (Tryz.prog.cutTypes.find? (·.1 == "internal/reflectlite.rtype")).map (·.2) = some 125 := by kernel_rfl
theorem Tryz.oneRow : ((List.range 192).filter fun t => Tryz.prog.rowNamed t [101, 114, 114, 111, 114]) = [34] := by kernel_rfl
theorem Tryz.size : Tryz.prog.types.size = 192 := by kernel_rfl
theorem Tryz.star : ("*" ++ "errors.errorString" : String) = "*errors.errorString" := by decide
theorem Tryz.rowE (u : TypeId) (h : Tryz.prog.typeName? 3 u = some "*errors.errorString") : u = 159 :=
  typeName_ptr_named (nm := "errors.errorString") (by rw [Tryz.star]; kernel_rfl) (by kernel_rfl) (by decide) u (by rw [Tryz.star]; exact h)
theorem Tryz.cellsE : Tryz.prog.cellsOf 180 = 1 := by kernel_rfl
theorem Tryz.cellsS : Tryz.prog.cellsOf 9 = 1 := by kernel_rfl
theorem Tryz.g0 : Tryz.prog.globalNamed "demon/api.ErrText" = some 2 := by kernel_rfl
theorem Tryz.g1 : Tryz.prog.globalNamed "demon/api.ErrBound" = some 0 := by kernel_rfl
theorem Tryz.g2 : Tryz.prog.globalNamed "demon/api.ErrShape" = some 1 := by kernel_rfl
theorem Tryz.g3 : Tryz.prog.globalNamed "demon/api.ErrZero" = some 3 := by kernel_rfl
theorem Tryz.g4 : Tryz.prog.globalNamed "demon/api.ErrName" = some 4 := by kernel_rfl
theorem Tryz.g5 : Tryz.prog.globalNamed "demon/api.ErrNone" = some 5 := by kernel_rfl
theorem Tryz.g6 : Tryz.prog.globalNamed "demon/api.ErrOrder" = some 6 := by kernel_rfl
theorem Tryz.g7 : Tryz.prog.globalNamed "demon/api.ErrKind" = some 7 := by kernel_rfl

/-- Any number of listed sentinels of one type: each one's pointer, text and row; no two are one. -/
theorem laid_list {P : Program} {W : World} {nm : String} {ti tp te ts : TypeId} {ms : Array (String × TypeId)} {f : Field}
    (hi : P.underlying ti = some (.interface ms)) (hrow : ∀ u, P.typeName? 3 u = some nm → u = tp)
    (hp : P.underlying tp = some (.pointer te)) (he : P.underlying te = some (.struct #[f])) (hft : f.type = ts) (hfo : f.offset = 0) (hs : P.underlying ts = some .string) (hc : P.cellsOf te = 1) (hcs : P.cellsOf ts = 1) :
    ∀ (L : List (String × List UInt8)) (ps : List MemPlace), (∀ x, x ∈ L → ∃ g, P.globalNamed x.1 = some g ∧ (P.globals[g]?).map (·.type) = some ti) →
      DataW.LaidVars P W (L.map fun x => (x.1, .iface nm (.ptr (.agg [.lit (.string x.2)])))) ps → ps.Nodup →
      (∀ b off, MemPlace.cell b off ∈ ps → (∃ c t, W.heap[b]? = some (.cells c t (0, 0))) ∧ ∀ u v, W.cell? ⟨b, off, none⟩ = some (.iface u v) → Value.okWide P W .any 0 u v) →
      ∃ a : Nat → Addr, (∀ i x, L[i]? = some x → W.var? P x.1 = some #[.iface tp (.pointer (some (a i)))] ∧ (∃ s, W.cell? (a i) = some (.string s) ∧ s.data.toList = x.2) ∧
          (∃ c t, W.heap[(a i).block]? = some (.cells c t (0, 0))) ∧ MemPlace.cell (a i).block (a i).off ∈ ps) ∧
        ∀ i j, i < L.length → j < L.length → i ≠ j → a i ≠ a j := by
  intro L
  induction L with
  | nil => intro ps _ _ _ _; exact ⟨fun _ => default, fun i x h => by simp at h, fun i j h => by simp at h⟩
  | cons x r ih =>
    intro ps hgs hv hnd hrows
    obtain ⟨n, text⟩ := x
    obtain ⟨g0, t0, cs0, f0, p0, q0, hg0, ht0, hv0, hd0, hvr, e0⟩ := hv
    obtain ⟨g, hg, ht⟩ := hgs (n, text) (List.mem_cons_self ..)
    obtain rfl := Option.some.inj (hg.symm.trans hg0)
    obtain rfl := Option.some.inj (ht.symm.trans ht0)
    subst e0
    obtain ⟨l0⟩ := cs0
    have ok0 : ∀ u v, l0 = [.iface u v] → Value.okWide P W .any 0 u v := fun u v e => by
      subst e
      exact (hrows g 0 (by simp [MemPlace.row])).2 u v (by simpa using World.var?_cell hg0 hv0 0)
    obtain ⟨a0, s0, rfl, hc0, hs0, hz0, rfl⟩ := errorString_of_trod hi hrow hp he hft hfo hs hc hcs hd0 ok0
    obtain ⟨c0, tt0, hb0⟩ := (hrows a0.block a0.off (by simp [MemPlace.row])).1
    have hnq : q0.Nodup := List.Nodup.sublist (List.sublist_append_right _ _) hnd
    obtain ⟨a', ha', hne'⟩ := ih q0 (fun x hx => hgs x (List.mem_cons_of_mem _ hx)) hvr hnq (fun b off hm => hrows b off (List.mem_append_right _ hm))
    have hnot : MemPlace.cell a0.block a0.off ∉ q0 := by
      intro hm
      have := (List.nodup_append.1 hnd).2.2
      exact this (.cell a0.block a0.off) (by simp [MemPlace.row]) (.cell a0.block a0.off) hm rfl
    refine ⟨fun i => match i with | 0 => a0 | k + 1 => a' k, ?_, ?_⟩
    · intro i x hx
      cases i with
      | zero =>
        simp only [List.getElem?_cons_zero, Option.some.injEq] at hx
        subst hx
        exact ⟨hv0, ⟨s0, hc0, hs0⟩, ⟨c0, tt0, hb0⟩, by simp [MemPlace.row]⟩
      | succ k =>
        simp only [List.getElem?_cons_succ] at hx
        obtain ⟨h1, h2, h3, h4⟩ := ha' k x hx
        exact ⟨h1, h2, h3, List.mem_append_right _ h4⟩
    · have far : ∀ k, k < r.length → a0 ≠ a' k := fun k hk e => by
        obtain ⟨_, _, _, h4⟩ := ha' k r[k] (by simp [hk])
        rw [← e] at h4
        exact hnot h4
      intro i j hi' hj' hij
      cases i with
      | zero =>
        cases j with
        | zero => exact absurd rfl hij
        | succ k => exact far k (by simpa using hj')
      | succ m =>
        cases j with
        | zero => exact (far m (by simpa using hi')).symm
        | succ k => exact hne' m k (by simpa using hi') (by simpa using hj') (by omega)

/-- The names and texts, in the rows' order. -/
def eightNames : List (String × List UInt8) := [("demon/api.ErrText", [100, 101, 109, 111, 110, 58, 32, 116, 101, 120, 116]), ("demon/api.ErrBound", [100, 101, 109, 111, 110, 58, 32, 98, 111, 117, 110, 100]), ("demon/api.ErrShape", [100, 101, 109, 111, 110, 58, 32, 115, 104, 97, 112, 101]), ("demon/api.ErrZero", [100, 101, 109, 111, 110, 58, 32, 122, 101, 114, 111]), ("demon/api.ErrName", [100, 101, 109, 111, 110, 58, 32, 110, 97, 109, 101]), ("demon/api.ErrNone", [100, 101, 109, 111, 110, 58, 32, 110, 111, 110, 101]), ("demon/api.ErrOrder", [100, 101, 109, 111, 110, 58, 32, 111, 114, 100, 101, 114]), ("demon/api.ErrKind", [100, 101, 109, 111, 110, 58, 32, 107, 105, 110, 100])]
def laidAll : List (String × DataW Unit) := [("errors.errorType", Rows.laid_errors_errorType), ("demon/api.ErrText", Rows.laid_demon_api_ErrText), ("demon/api.ErrBound", Rows.laid_demon_api_ErrBound), ("demon/api.ErrShape", Rows.laid_demon_api_ErrShape), ("demon/api.ErrZero", Rows.laid_demon_api_ErrZero), ("demon/api.ErrName", Rows.laid_demon_api_ErrName), ("demon/api.ErrNone", Rows.laid_demon_api_ErrNone), ("demon/api.ErrOrder", Rows.laid_demon_api_ErrOrder), ("demon/api.ErrKind", Rows.laid_demon_api_ErrKind)]
theorem laidAll_parts (W : World) : laidMetH Tryz.prog laidAll W = (laidMet Tryz.prog (eightNames.map fun x => (x.1, .iface "*errors.errorString" (.ptr (.agg [.lit (.string x.2)])))) W ∧ handlesMet Tryz.prog [("errors.errorType", Rows.laid_errors_errorType)] W) := by kernel_rfl

theorem var_at {W : World} {n : String} {g : Nat} {v : Value} (hg : Tryz.prog.globalNamed n = some g) (h : W.var? Tryz.prog n = some #[v]) : W.cell? ⟨g, 0, none⟩ = some v := by
  simpa using World.var?_cell hg h 0

theorem errs_of_laid {W : World} (h : laidMetH Tryz.prog laidAll W) : ∃ a : Nat → Addr, Errs W a ∧ ∀ i x, eightNames[i]? = some x → ∃ s, W.cell? (a i) = some (.string s) ∧ s.data.toList = x.2 := by
  rw [laidAll_parts] at h
  obtain ⟨⟨ps, hv, hnd, hrows⟩, hh⟩ := h
  obtain ⟨name, u, ty, e1, e2, e3, e4, e5⟩ := hh _ (List.mem_singleton.2 rfl)
  have en : name = [101, 114, 114, 111, 114] := (Option.some.inj e1).symm
  subst en
  obtain rfl := Option.some.inj (Tryz.rt.symm.trans e2)
  have hm : ty ∈ (List.range 192).filter fun t => Tryz.prog.rowNamed t [101, 114, 114, 111, 114] := List.mem_filter.2 ⟨List.mem_range.2 (by rw [← Tryz.size]; exact e3), e4⟩
  rw [Tryz.oneRow] at hm
  obtain rfl := List.mem_singleton.1 hm
  have hth : typeHandle Tryz.prog 34 = .pointer (some ⟨9, 34, none⟩) := by kernel_rfl
  rw [hth] at e5
  obtain ⟨a, ha, hne⟩ := laid_list Tryz.underlying34 Tryz.rowE Tryz.underlying159 Tryz.underlying180 rfl rfl Tryz.underlying9 Tryz.cellsE Tryz.cellsS eightNames ps
    (fun x hx => by
      simp only [eightNames, List.mem_cons, List.not_mem_nil, or_false] at hx
      rcases hx with rfl | rfl | rfl | rfl | rfl | rfl | rfl | rfl
      · exact ⟨_, Tryz.g0, by kernel_rfl⟩
      · exact ⟨_, Tryz.g1, by kernel_rfl⟩
      · exact ⟨_, Tryz.g2, by kernel_rfl⟩
      · exact ⟨_, Tryz.g3, by kernel_rfl⟩
      · exact ⟨_, Tryz.g4, by kernel_rfl⟩
      · exact ⟨_, Tryz.g5, by kernel_rfl⟩
      · exact ⟨_, Tryz.g6, by kernel_rfl⟩
      · exact ⟨_, Tryz.g7, by kernel_rfl⟩) hv hnd hrows
  refine ⟨a, ⟨var_at Tryz.g0 (ha 0 _ rfl).1, var_at Tryz.g1 (ha 1 _ rfl).1, var_at Tryz.g2 (ha 2 _ rfl).1, var_at Tryz.g3 (ha 3 _ rfl).1, var_at Tryz.g4 (ha 4 _ rfl).1, var_at Tryz.g5 (ha 5 _ rfl).1, var_at Tryz.g6 (ha 6 _ rfl).1, var_at Tryz.g7 (ha 7 _ rfl).1, var_at Tryz.et e5, ?_, ?_⟩, fun i x hx => (ha i x hx).2.1⟩
  · intro i hi
    have hl : eightNames.length = 8 := rfl
    exact (ha i eightNames[i] (List.getElem?_eq_getElem (by omega))).2.2.1
  · intro i j hi hj hij
    exact hne i j hi hj hij

/-- The door's own heap meets the condition. -/
theorem door_met (os : Os) (args : Array Value) : laidMetH Tryz.prog laidAll ((World.doorLaid Tryz.prog 168 os).forCall (fun _ _ => 0) ⟨#[], args, []⟩).memory :=
  laidMetH_of_parts3 (fuel := 8) (laidMet_of_run' 8 (by kernel_rfl) (by kernel_rfl)) (by kernel_rfl) (by kernel_rfl)
end Go.Proofs.YtfnmpkkfdljgcaaGreatDoor

/- A parameter of type []int opened. -/
namespace Go.Proofs.YtfnmpkkfdljgcaaGreatDoor
open Go.ChangeShapes Go.WideShapes Go.ChangeAt Go.RowKit Go.Joins Go.Deep

theorem Tryz.laidOut : laidOutB Tryz.prog = true := by kernel_rfl
theorem Tryz.cellsInt : Tryz.prog.cellsOf 3 = 1 := by kernel_rfl
theorem Tryz.cellsInts : Tryz.prog.cellsOf 31 = 1 := by kernel_rfl

set_option maxRecDepth 100000 in
/-- What a parameter of type []int gives: its slice, its numbers. -/
theorem open_nums {H : Type} {enc : TypeId × Value → H} {W : World} {base : Nat} {v : Value} {d : DataW H} {p : List MemPlace} (hv : Value.okWide Tryz.prog W .any base 31 v)
    (h : DataW.Trod enc Tryz.prog W 0 (fun _ => true) true 31 v d p) :
    ∃ (ad : Option Addr) (n cap : Nat) (z : Nat → Int), v = .slice ad n cap ∧ n ≤ maxLen ∧ NumsAt W (.slice ad n cap) n z := by
  obtain ⟨ad, n, cap, rfl⟩ := okWide_slice Tryz.underlying31 hv
  obtain ⟨fuel, hf⟩ := h
  rcases open_ints Tryz.underlying31 Tryz.underlying3 Tryz.cellsInt hf with ⟨hc, _⟩ | ⟨a, len, cap', zs, hc, _, hl, hm, hz, _, hcell, _⟩
  · simp [Value.cells] at hc
    obtain ⟨rfl, rfl, rfl⟩ := hc
    exact ⟨none, 0, 0, fun _ => 0, rfl, Nat.zero_le _, Or.inl ⟨none, 0, rfl, rfl⟩⟩
  · simp [Value.cells] at hc
    obtain ⟨rfl, rfl, rfl⟩ := hc
    simp only [if_true] at hz
    rcases Nat.eq_zero_or_pos n with rfl | hpos
    · exact ⟨some a, 0, cap, fun _ => 0, rfl, Nat.zero_le _, Or.inl ⟨some a, cap, rfl, rfl⟩⟩
    · obtain ⟨b, o, spot⟩ := a
      have hspot : spot = none := by simpa [Addr.add] using World.cell?_spot (hcell 0 (by omega))
      subst hspot
      refine ⟨_, n, cap, fun i => zs.getD i 0, rfl, by omega, Or.inr ⟨b, o, cap, rfl, hpos, fun i hi => ?_⟩⟩
      have := hcell i (by omega)
      rw [Go.Proofs.YtfnmpkkfdljgcaaGreatDoor.add_plain] at this
      exact this
end Go.Proofs.YtfnmpkkfdljgcaaGreatDoor

/- A parameter of type [][]int opened; how many numbers it holds at the most. -/
namespace Go.Proofs.YtfnmpkkfdljgcaaGreatDoor
open Go.ChangeShapes Go.WideShapes Go.ChangeAt Go.RowKit Go.Joins Go.Deep

theorem bulk_one {H : Type} (d : DataW H) : 1 ≤ Rows.uptoBulk d := by
  cases d with
  | lit l => cases l <;> simp [Rows.uptoBulk]
  | _ => simp [Rows.uptoBulk]
theorem bulk_len {H : Type} : ∀ l : List (DataW H), l.length ≤ Rows.uptoBulkAll l
  | [] => by simp [Rows.uptoBulkAll]
  | x :: r => by
    have h1 := bulk_one x
    have h2 := bulk_len r
    simp only [Rows.uptoBulkAll, List.length_cons]
    omega
theorem bulk_mem {H : Type} {d : DataW H} : ∀ {l : List (DataW H)}, d ∈ l → Rows.uptoBulk d ≤ Rows.uptoBulkAll l
  | x :: r, h => by
    simp only [Rows.uptoBulkAll]
    rcases List.mem_cons.1 h with rfl | h'
    · omega
    · have := bulk_mem h'; omega
theorem bulk_append {H : Type} : ∀ l r : List (DataW H), Rows.uptoBulkAll (l ++ r) = Rows.uptoBulkAll l + Rows.uptoBulkAll r
  | [], r => by simp [Rows.uptoBulkAll]
  | x :: l, r => by simp only [List.cons_append, Rows.uptoBulkAll, bulk_append l r]; omega
theorem bulk_sum {H : Type} (f : Nat → DataW H) (L : Nat → Nat) : ∀ n, (∀ r, r < n → L r ≤ Rows.uptoBulk (f r)) → sumT L n ≤ Rows.uptoBulkAll ((List.range n).map f)
  | 0, _ => Nat.zero_le _
  | n + 1, h => by
    have h1 := bulk_sum f L n (fun r hr => h r (by omega))
    have h2 := h n (by omega)
    show sumT L n + L n ≤ _
    rw [List.range_succ, List.map_append, bulk_append]
    simp only [List.map_cons, List.map_nil, Rows.uptoBulkAll]
    omega

set_option maxRecDepth 100000 in
theorem open_table {H : Type} {enc : TypeId × Value → H} {W : World} {base : Nat} {v : Value} {d : DataW H} {p : List MemPlace} (hv : Value.okWide Tryz.prog W .any base 22 v)
    (h : DataW.Trod enc Tryz.prog W 0 (fun _ => true) true 22 v d p) :
    ∃ (ad : Option Addr) (R cap : Nat) (vs : Nat → Value) (ns : Nat → Nat) (zs : Nat → Nat → Int), v = .slice ad R cap ∧ R ≤ maxLen ∧ TabAt W (.slice ad R cap) R vs ns zs ∧ sumT ns R ≤ Rows.uptoBulk d := by
  obtain ⟨ad, R, cap, rfl⟩ := okWide_slice Tryz.underlying22 hv
  obtain ⟨fuel, hf⟩ := h
  rcases open_int_rows Tryz.underlying22 Tryz.underlying31 Tryz.underlying3 Tryz.cellsInts Tryz.cellsInt hf with ⟨hc, _⟩ | ⟨a, len, cap', A, L, C, Z, hc, _, hl, hm, hx, hr⟩
  · simp [Value.cells] at hc
    obtain ⟨rfl, rfl, rfl⟩ := hc
    exact ⟨none, 0, 0, fun _ => .slice none 0 0, fun _ => 0, fun _ _ => 0, rfl, Nat.zero_le _, Or.inl ⟨none, 0, rfl, rfl⟩, Nat.zero_le _⟩
  · simp [Value.cells] at hc
    obtain ⟨rfl, rfl, rfl⟩ := hc
    simp only [Prod.mk.injEq] at hx
    obtain ⟨rfl, _⟩ := hx
    have hbulk : sumT L R ≤ Rows.uptoBulk (DataW.slice ((List.range R).map fun r => intRow .i64 (A r) (L r) (Z r)) ((List.range (cap - R)).map fun j => intRow .i64 (A (R + j)) (L (R + j)) (Z (R + j))) : DataW H) := by
      have h1 := bulk_sum (H := H) (fun r => intRow .i64 (A r) (L r) (Z r)) L R (fun r hr' => by
        obtain ⟨_, h2, _, h4, _, h6, _⟩ := hr r (by omega)
        cases hA : A r with
        | none => have := h6 hA; omega
        | some a' =>
          have h7 := bulk_len (H := H) (lits .i64 ((Z r).take (L r)))
          have h8 : (lits (H := H) .i64 ((Z r).take (L r))).length = L r := by simp [lits]; omega
          simp only [intRow, Rows.uptoBulk]
          omega)
      simp only [Rows.uptoBulk]
      omega
    rcases Nat.eq_zero_or_pos R with rfl | hpos
    · exact ⟨some a, 0, cap, fun _ => .slice none 0 0, L, fun _ _ => 0, rfl, Nat.zero_le _, Or.inl ⟨some a, cap, rfl, rfl⟩, hbulk⟩
    · obtain ⟨b, o, spot⟩ := a
      have hspot : spot = none := by simpa [Addr.add] using World.cell?_spot (hr 0 (by omega)).1
      subst hspot
      refine ⟨_, R, cap, fun r => .slice (A r) (L r) (C r), L, fun r i => (Z r).getD i 0, rfl, by omega, Or.inr ⟨b, o, cap, rfl, hpos, fun i hi => ?_⟩, hbulk⟩
      obtain ⟨h1, h2, _, h4, _, h6, h7⟩ := hr i (by omega)
      rw [Go.Proofs.YtfnmpkkfdljgcaaGreatDoor.add_plain] at h1
      refine ⟨h1, ?_⟩
      rcases Nat.eq_zero_or_pos (L i) with h0 | h0
      · exact Or.inl ⟨A i, C i, by dsimp only; rw [h0], h0⟩
      · cases hA : A i with
        | none => have := h6 hA; omega
        | some a' =>
          obtain ⟨_, h8⟩ := h7 a' hA
          obtain ⟨b', o', spot'⟩ := a'
          have hs' : spot' = none := by simpa [Addr.add] using World.cell?_spot (h8 0 (by omega))
          subst hs'
          refine Or.inr ⟨b', o', C i, by dsimp only; rw [hA], h0, fun j hj => ?_⟩
          have := h8 j (by omega)
          rw [Go.Proofs.YtfnmpkkfdljgcaaGreatDoor.add_plain] at this
          exact this
theorem bulk_bound {H : Type} {l : List (DataW H)} (hk : Rows.uptoSmall H l = true) : Rows.uptoBulkAll l ≤ 1048576 := of_decide_eq_true hk
end Go.Proofs.YtfnmpkkfdljgcaaGreatDoor
