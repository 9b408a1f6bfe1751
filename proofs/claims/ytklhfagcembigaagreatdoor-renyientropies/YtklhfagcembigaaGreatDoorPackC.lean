/- (*Wide).Told, walked. -/
import Derived.Test.YtklhfagcembigaaGreatDoorPackB
import Derived.Deep.RegionLaw
import Derived.Test.YtklhfagcembigaaGreatDoorOfAny
import Derived.Test.YtklhfagcembigaaGreatDoorCode
import Derived.Test.YtklhfagcembigaaGreatDoorPackA
import Derived.Test.YtklhfagcembigaaGreatDoorWeights
import Derived.Test.YtklhfagcembigaaGreatDoorRyCol
import Derived.Test.YtklhfagcembigaaGreatDoorSame
import Derived.Test.YtklhfagcembigaaGreatDoorCopy
import Derived.Test.YtklhfagcembigaaGreatDoorRows
import Derived.ChangeSame
import Derived.ChangeVars
import Derived.JoinedOf
import Derived.LaidLaws
import Derived.LaidHandle
import Derived.LaidMore
import Derived.Stop.Joined
import Derived.Test.YtklhfagcembigaaGreatDoorInts
import Derived.Test.YtklhfagcembigaaGreatDoorCards
import Derived.Test.YtklhfagcembigaaGreatDoorTie
import Derived.SevenTiedAt
import Derived.ProofKit
import Derived.OpenShut
import Derived.ChangeOld
import Derived.Lib.SmallJoins
import Derived.Deep.Matrix
namespace Go.Proofs.YtklhfagcembigaaGreatDoor
open Go.RowKit

theorem nat_not_neg (n : Nat) : ¬ ((n : Int) < 0) := by omega

set_option maxRecDepth 100000 in
set_option maxHeartbeats 4000000 in
theorem WTold_any (base M B : Nat) (adp adc : Option Addr) (capp capc : Nat) (L : List Ent) (k0 G : Nat) (fits : Bool) (w : World) (hW : WideAt base M w B (.slice adp L.length capp) (.slice adc L.length capc) L) (hM : 0 < M) (hlen : L.length ≤ 100000) (hbL : ∀ e ∈ L, e.z.natAbs < 1000000 ^ k0) (hbM : M < 1000000 ^ k0) (hk0 : k0 ≤ 1000) (hk1 : 3 ≤ k0) (hG : gList M (zsOf L) = G) (hfit : fits = true ↔ FitsW M G L) :
    Calls Tryz.prog 35 #[.pointer (some ⟨B, 0, none⟩)] w fun e w' => ((fits = true ∧ ∃ v, e = .returned (.tuple #[.agg #[.int .i64 ((M / G : Nat) : Int), v], .int .i64 0]) ∧ w'.ownsRow w.heap.size 90 2 v (overL G (absL L)).length (flat (overL G (absL L)))) ∨ (fits = false ∧ e = .returned (.tuple #[.agg #[.int .i64 0, .slice none 0 0], .int .i64 2]))) ∧ Below w.heap.size w w' := by
  have hb0 : Below w.heap.size w (w.alloc (.cells #[.int .i64 0, .slice none 0 0] 27)) := new_below _ _
  have HWA : Hid (∀ W, Below (w.alloc (.cells #[.int .i64 0, .slice none 0 0] 27)).heap.size (w.alloc (.cells #[.int .i64 0, .slice none 0 0] 27)) W → WideAt base M W B (.slice adp L.length capp) (.slice adc L.length capc) L ∧ W.cell? ⟨w.heap.size, 0, none⟩ = some (.int .i64 0) ∧ W.cell? ⟨w.heap.size, 1, none⟩ = some (.slice none 0 0) ∧ W.frozen? ⟨w.heap.size, 0, none⟩ = false ∧ W.frozen? ⟨w.heap.size, 1, none⟩ = false ∧ Below w.heap.size w W) := fun W hb => by
    obtain ⟨q0, q1, q2, q3⟩ := res_past hb
    exact ⟨(hW.later hb0).later hb, q0, q1, q2, q3, below_chain hb0 hb⟩
  obtain ⟨W0, hW0⟩ : ∃ W0, W0 = w.alloc (.cells #[.int .i64 0, .slice none 0 0] 27) := ⟨_, rfl⟩
  have HSZ : Hid (W0.heap.size = w.heap.size + 1) := by show _ = _; rw [hW0]; simp
  have hone := BigOf_any 1 W0 (by omega)
  rw [← hW0] at HWA
  have HW0 := Hid.mk' hW0
  have HBL := Hid.mk' hbL
  have HG := Hid.mk' hG
  have HFIT := Hid.mk' hfit
  clear hb0 hW hbL hW0 hG hfit
  have hp6 : 1000000 < 1000000 ^ k0 := by
    have h1 : (1000000 : Nat) ^ 3 ≤ 1000000 ^ k0 := Nat.pow_le_pow_right (by decide) hk1
    omega
  have hp40 : 1099511627776 < 1000000 ^ k0 := by
    have h1 : (1000000 : Nat) ^ 3 ≤ 1000000 ^ k0 := Nat.pow_le_pow_right (by decide) hk1
    omega
  go_enter Tryz.func35, Tryz.ntmps35
  go_wp2_with fail
  rw [← HW0.out]
  refine hone.mono ?_
  clear hone
  rintro e w1 ⟨v1, rfl, hv1, hb1⟩
  have HV1 := Hid.mk' hv1
  have HB1 := Hid.mk' hb1
  clear hv1 hb1
  go_wp2_with fail
  go_loopw [4, 5] (fun t i wr => ∃ k : Nat, k ≤ L.length ∧ i = .int .i64 k ∧ Hid (BigAt wr t (M / gT M L k)) ∧ Hid (Below W0.heap.size W0 wr)) (fun _ i _ => L.length - (intOf i).toNat)
  case atStart => exact ⟨0, by omega, rfl, by show BigAt _ _ _; rw [show M / gT M L 0 = 1 from Nat.div_self hM]; exact HV1.out, HB1⟩
  case round =>
    clear HV1 HB1
    obtain ⟨k, hk, rfl, HD, HB⟩ := hrel
    obtain ⟨hWr, _⟩ := HWA.out wr HB.out
    have cc := hWr.cc
    have hk0 : (0 : Int) ≤ (k : Int) := by omega
    by_cases hlt : k < L.length
    · have hkI : (k : Int) < (L.length : Int) := by omega
      obtain ⟨f, hf⟩ : ∃ f, L[k]? = some f := ⟨_, List.getElem?_eq_getElem hlt⟩
      have hmem : f ∈ L := List.mem_of_getElem? hf
      obtain ⟨gp, gc, rfl, rfl, _, _, _, c2⟩ := hWr.cells hf
      obtain ⟨u, q, he, _, hq⟩ := hWr.R f hmem
      have hfq : f.q = q := by unfold Ent.val at he; injection he with he; injection he with he; injection he with _ he; injection he with _ he; injection he
      obtain ⟨qa, ql, qc, hqs, _⟩ := hq.len
      rw [hqs] at hq hfq
      rw [hfq] at c2
      have hld := lowD_pos hM f.z
      have hldk : lowD M f.z < 1000000 ^ k0 := Nat.lt_of_le_of_lt (lowD_le _ _) hbM
      have hgcd := BigGcd_any u4 (.slice qa ql qc) _ _ k0 wr HD.out hq (den_lt hbM L k) hldk (by omega)
      have HQ := Hid.mk' hq
      have HNX := Hid.mk' (den_next hM hf)
      have hgl : Nat.gcd (M / gT M L k) (lowD M f.z) ≤ lowD M f.z := Nat.gcd_le_right _ hld
      have hgp : 0 < Nat.gcd (M / gT M L k) (lowD M f.z) := Nat.gcd_pos_of_pos_right _ hld
      have hk1' : 1000000 ^ k0 < 1000000 ^ (k0 + 1) := Nat.pow_lt_pow_right (by decide) (by omega)
      have HPT : Hid (∀ (v : Value) (W : World), BigAt W (.slice qa ql qc) (lowD M f.z) → BigAt W v (Nat.gcd (M / gT M L k) (lowD M f.z)) → Calls Tryz.prog 66 #[.slice qa ql qc, v] W fun e w' => ∃ q r, e = .returned (.tuple #[q, r]) ∧ BigAt w' q (lowD M f.z / Nat.gcd (M / gT M L k) (lowD M f.z)) ∧ BigAt w' r (lowD M f.z % Nat.gcd (M / gT M L k) (lowD M f.z)) ∧ Below W.heap.size W w') := fun v W h1 h2 => BigPart_any k0 (by omega) (lowD M f.z) hldk _ _ rfl hgp (by omega) _ _ W h1 h2
      have HML : Hid (M / gT M L k < 1000000 ^ k0 ∧ lowD M f.z / Nat.gcd (M / gT M L k) (lowD M f.z) < 1000000 ^ k0) := ⟨den_lt hbM L k, Nat.lt_of_le_of_lt (Nat.div_le_self _ _) hldk⟩
      have HKC : Hid (∀ W, Below wr.heap.size wr W → W.cell? ⟨B, 1, none⟩ = some (.slice (some ⟨gc, 0, none⟩) L.length capc) ∧ W.cell? ⟨gc, k * 3 + 2, none⟩ = some (.slice qa ql qc)) := fun W hb => ⟨(cell_past cc hb).2, (cell_past c2 hb).2⟩
      clear hWr he hfq hq hqs hf hmem hld hldk hgl hgp hk1'
      go_wp2_with fail
      refine hgcd.mono ?_
      clear hgcd
      rintro e w2 ⟨r2, rfl, hr2, hb2⟩
      obtain ⟨cc2, c22⟩ := HKC.out w2 hb2
      have hpt := HPT.out r2 w2 (HQ.out.later hb2) hr2
      have HB2 := Hid.mk' hb2
      clear cc c2 hr2 hb2
      go_wp2_with fail
      refine hpt.mono ?_
      clear hpt
      rintro e w3 ⟨q3, r3, rfl, hq3, hr3, hb3⟩
      have hmul := BigMul_any u4 q3 _ _ k0 w3 (HD.out.later (below_chain HB2.out hb3)) hq3 HML.out.1 HML.out.2 (by omega)
      have HB3 := Hid.mk' (below_chain HB2.out hb3)
      clear hq3 hr3 hb3 cc2 c22
      go_wp2_with fail
      refine hmul.mono ?_
      clear hmul
      rintro e w4 ⟨v4, rfl, hv4, hb4⟩
      rw [HNX.out] at hv4
      go_wp2_with fail
      exact ⟨⟨k + 1, by omega, by go_num, hv4, below_chain (below_chain HB.out HB3.out) hb4⟩, by simp [intOf]; omega⟩
    · obtain rfl : k = L.length := by omega
      have hD := HD.out
      rw [gT_all, HG.out] at hD
      have HD2 := Hid.mk' hD
      have hGM : G ∣ M := by rw [← HG.out]; exact gList_dvd_base _ _
      have HGZ : Hid (∀ e ∈ L, G ∣ e.z.natAbs) := fun e he => by rw [← HG.out]; exact (gList_dvd (zsOf L) M).2 _ (List.mem_map.2 ⟨e, he, rfl⟩)
      have hdl : M / G < 1000000 ^ k0 := Nat.lt_of_le_of_lt (Nat.div_le_self _ _) hbM
      have hmil := BigOf_any 1000000 wr (by omega)
      have HGM := Hid.mk' hGM
      clear hWr HD hD hGM hk hlt
      go_wp2_with fail
      refine hmil.mono ?_
      clear hmil
      rintro e w2 ⟨v2, rfl, hv2, hb2⟩
      have hcmp := BigCmp_any u4 v2 _ _ k0 w2 (HD2.out.later hb2) hv2 hdl hp6 (by omega)
      have HB2 := Hid.mk' (below_chain HB.out hb2)
      have HD3 := Hid.mk' (HD2.out.later hb2)
      clear hv2 hb2 cc HD2
      by_cases hbig : 1000000 < M / G
      · rw [cmpOf_gt hbig] at hcmp
        have hff : fits = false := by
          cases fits
          · rfl
          · have := (HFIT.out.1 rfl).1; omega
        go_wp2_with fail
        refine hcmp.mono ?_
        clear hcmp
        rintro e w3 ⟨rfl, m3, hw3⟩
        obtain ⟨_, z0, z1, f0, f1, hbw⟩ := HWA.out w3 (by rw [hw3]; exact below_drewN HB2.out m3)
        clear hw3
        go_wp2_with fail
        refine bodyPost_ret (v := .tuple #[.agg #[.int .i64 0, .slice none 0 0], .int .i64 2]) (by simp [results, Tryz.results35, go_sem, z0, z1]) rfl ⟨Or.inr ⟨hff, rfl⟩, (hbw.setCell (by simp) _).setCell (by simp) _⟩
      · obtain ⟨cm, hcm⟩ : ∃ cm, cmpOf (M / G) 1000000 = cm := ⟨_, rfl⟩
        have hcm0 : cm ≤ 0 := by
          rw [← hcm]
          rcases Nat.lt_or_ge (M / G) 1000000 with h | h
          · rw [cmpOf_lt h]; omega
          · rw [cmpOf_eq (by omega)]; omega
        rw [hcm] at hcmp
        clear hcm
        go_wp2_with fail
        refine hcmp.mono ?_
        clear hcmp
        rintro e w3 ⟨rfl, m3, hw3⟩
        have hb3 : Below w2.heap.size w2 w3 := by rw [hw3]; exact below_drewN (Below.refl _ _) m3
        clear hw3
        have hint := BigInt_any u4 (M / G) w3 (HD3.out.later hb3) (by omega)
        have HB3 := Hid.mk' (below_chain HB2.out hb3)
        have HD4 := Hid.mk' (HD3.out.later hb3)
        clear hb3 HD3 HB2
        go_wp2_with fail
        refine hint.mono ?_
        clear hint
        rintro e w4 ⟨rfl, hw4⟩
        rw [hw4]
        clear hw4
        have HS0 : Hid (InOut w3 (w3.alloc (.cells #[.int .i64 ((M / G : Nat) : Int), .slice none 0 0] 27)) ((M / G : Nat) : Int) (.slice none 0 0) 0 []) := InOut.start w3 _
        have HX40 := Hid.mk' hp40
        clear hp40 hp6 hdl
        go_wp2_with fail
        go_loopw [12] (fun i wr => ∃ (k : Nat) (sv : Value), k ≤ L.length ∧ i = .int .i64 k ∧ Hid (InOut w3 wr ((M / G : Nat) : Int) sv (overL G (absL (L.take k))).length (flat (overL G (absL (L.take k))))) ∧ Hid (∀ e ∈ L.take k, (e.z.tdiv (G : Int)).natAbs ≤ 1099511627776)) (fun i _ => L.length - (intOf i).toNat)
        case atStart => exact ⟨0, .slice none 0 0, by omega, rfl, HS0.out, (fun e he => by simp at he)⟩
        case round =>
          clear HS0 HB
          obtain ⟨k, sv, hk, rfl, HO, HLE⟩ := hrel
          have HBR := Hid.mk' (below_chain HB3.out HO.out.keep)
          obtain ⟨hWr, _⟩ := HWA.out wr HBR.out
          have cc := hWr.cc
          have hk0I : (0 : Int) ≤ (k : Int) := by omega
          by_cases hlt : k < L.length
          · have hkI : (k : Int) < (L.length : Int) := by omega
            obtain ⟨f, hf⟩ : ∃ f, L[k]? = some f := ⟨_, List.getElem?_eq_getElem hlt⟩
            have hmem : f ∈ L := List.mem_of_getElem? hf
            obtain ⟨gp, gc, rfl, rfl, e0, c0, c1, c2⟩ := hWr.cells hf
            obtain ⟨fs, fa, fl, fc, fa', fl', fc', q0, q1, q2⟩ := Ent.parts (hWr.R f hmem)
            rw [q0] at c0
            rw [q1] at c1
            rw [q2] at c2
            have hRf := hWr.R f hmem
            unfold Ent.val at hRf
            rw [q0, q1, q2] at hRf
            have HKS : Hid (∀ W, Below wr.heap.size wr W → W.cell? ⟨B, 1, none⟩ = some (.slice (some ⟨gc, 0, none⟩) L.length capc) ∧ W.cell? ⟨gc, k * 3, none⟩ = some (.bool fs) ∧ W.cell? ⟨gc, k * 3 + 1, none⟩ = some (.slice fa fl fc) ∧ W.cell? ⟨gc, k * 3 + 2, none⟩ = some (.slice fa' fl' fc')) := fun W hb => ⟨(cell_past cc hb).2, (cell_past c0 hb).2, (cell_past c1 hb).2, (cell_past c2 hb).2⟩
            have HPP : Hid (∀ W, Below wr.heap.size wr W → W.cell? ⟨B, 0, none⟩ = some (.slice (some ⟨gp, 0, none⟩) L.length capp) ∧ W.cell? ⟨gp, k, none⟩ = some (.int .i64 (f.p : Int))) := fun W hb => ⟨(cell_past hWr.cp hb).2, (cell_past e0 hb).2⟩
            have hcw := coef_whole (z := f.z) hM HGM.out (HGZ.out f hmem)
            have HTI : Hid (∀ (W : World) (ad1 ad2 : Option Addr) (l1 c1 l2 c2 : Nat), Below wr.heap.size wr W → BigAt W (.slice ad1 l1 c1) (M / G) → BigAt W (.slice ad2 l2 c2) 1 → Calls Tryz.prog 60 #[.agg #[.bool fs, .slice fa fl fc, .slice fa' fl' fc'], .agg #[.bool false, .slice ad1 l1 c1, .slice ad2 l2 c2]] W fun e w' => ∃ r, e = .returned r ∧ RatioAt w' r (f.z.tdiv (G : Int)) 1 ∧ Below W.heap.size W w') := fun W ad1 ad2 l1 c1 l2 c2 hb h1 h2 => by
              have h3 : RatioAt W (.agg #[.bool false, .slice ad1 l1 c1, .slice ad2 l2 c2]) ((M / G : Nat) : Int) 1 := ⟨_, _, by rw [decide_eq_false (nat_not_neg _)], by rw [Int.natAbs_natCast]; exact h1, h2⟩
              have h4 := Times_ratio _ _ _ _ _ _ k0 W (hRf.later hb) h3 (lowD_pos hM _) (by decide) (Nat.lt_of_le_of_lt (lowN_le hM _) (HBL.out f hmem)) (by rw [Int.natAbs_natCast]; exact Nat.lt_of_le_of_lt (Nat.div_le_self _ _) hbM) (Nat.lt_of_le_of_lt (lowD_le _ _) hbM) (Nat.one_lt_pow (by omega) (by decide)) (by omega)
              rw [hcw.1, hcw.2] at h4
              exact h4
            have HQB : Hid ((f.z.tdiv (G : Int)).natAbs < 1000000 ^ k0) := by
              show _ < _
              have h1 : (f.z.tdiv (G : Int)).natAbs ≤ f.z.natAbs := by rw [Int.natAbs_tdiv]; exact Nat.div_le_self _ _
              exact Nat.lt_of_le_of_lt h1 (HBL.out f hmem)
            have HFM : Hid (fits = true → (f.z.tdiv (G : Int)).natAbs ≤ 1099511627776) := fun h => (HFIT.out.1 h).2 f hmem
            have HOV := Hid.mk' (over_next (G := G) hf)
            have HLN : Hid ((f.z.tdiv (G : Int)).natAbs ≤ 1099511627776 → ∀ e ∈ L.take (k + 1), (e.z.tdiv (G : Int)).natAbs ≤ 1099511627776) := fun h e he => by
              have h1 : L.take (k + 1) = L.take k ++ [f] := by
                rw [List.take_succ_eq_append_getElem hlt]
                rw [List.getElem?_eq_getElem hlt] at hf
                rw [Option.some.inj hf]
              rw [h1] at he
              rcases List.mem_append.1 he with he | he
              · exact HLE.out e he
              · rw [List.mem_singleton.1 he]; exact h
            generalize f.z.tdiv (G : Int) = q at HTI HQB HFM HOV HLN
            generalize hfp : (f.p : Int) = p at HPP HOV
            have HDW : Hid (∀ W, Below wr.heap.size wr W → BigAt W u4 (M / G)) := fun W hb => HD4.out.later (below_chain HO.out.keep hb)
            have hcur0 : Below wr.heap.size wr wr := Below.refl _ _
            have hcur : Below wr.heap.size wr wr.drew := (Below.refl _ _).drew
            have hcurA : ∀ X, Below wr.heap.size wr (wr.alloc X).drew := fun X => (new_below _ _).drew
            clear hWr hmem hRf hcw q0 q1 q2 hf e0 hfp HGZ HGM HLE HBL
            go_upto_region 15 with fail
            go_cut [13] from 64 to 119 (fun s wx => ∃ Bs : Nat, s = .pointer (some ⟨Bs, 0, none⟩) ∧ Hid (RatBox wr wx Bs q))
            case first =>
              clear cc c0 c1 c2
              go_region_held3 (fun W => W.cell? ⟨B, 1, none⟩ = some (.slice (some ⟨gc, 0, none⟩) L.length capc) ∧ W.cell? ⟨gc, k * 3, none⟩ = some (.bool fs) ∧ W.cell? ⟨gc, k * 3 + 1, none⟩ = some (.slice fa fl fc) ∧ W.cell? ⟨gc, k * 3 + 2, none⟩ = some (.slice fa' fl' fc'))
                (first | exact HKS.out _ hcur0 | exact HKS.out _ hcur | exact HKS.out _ (hcurA _) | (refine HKS.out _ ?_; assumption) | (refine HKS.out _ (more_below ?_ _); assumption) | (refine HKS.out _ (below_set3 ?_ NB.hB _ _ _); assumption))
                (first
                  | (go_at_call 60; refine (HTI.out _ _ _ _ _ _ _ ?_ (HX1.out _ ?_) (HX2.out _ ?_)).mono ?_; (first | exact hbw2 | exact more_below hbw2 _); (first | exact h12 | exact more_below h12 _); (first | exact Below.refl _ _ | exact new_below _ _); rintro e w7 ⟨rv, rfl, ⟨ur, qr, rfl, hur, hqr⟩, hb7⟩; obtain ⟨ad8, l8, cap8, rfl, _⟩ := hur.len; obtain ⟨ad9, l9, cap9, rfl, _⟩ := hqr.len; (first | (have hbw7 := below_chain hbw2 hb7; try have NB := NB.later hb7) | (have hbw7 := below_chain (more_below hbw2 _) hb7; have NB := newBox3_of hbw2 hb7)); (try (have y0 := NB.c0; have y1 := NB.c1; have y2 := NB.c2; have y3 := NB.f0; have y4 := NB.f1; have y5 := NB.f2)); have HUR := Hid.mk' hur; clear hur hqr hb7)
                  | (go_at_call 56; refine (BigOf_any 1 _ (by omega)).mono ?_; rintro e w6 ⟨v6, rfl, hv6, hb6⟩; obtain ⟨ad6, l6, cap6, rfl, _⟩ := hv6.len; (first | (have hbw2 := below_chain hbw1 hb6; have h12 := below_chain (Below.refl _ w5) hb6; try have NB := NB.later hb6) | (have hbw2 := below_chain (more_below hbw1 _) hb6; have h12 := below_chain (new_below w5 _) hb6; have NB := newBox3_of hbw1 hb6)); have HX2 : Hid (∀ W, Below w6.heap.size w6 W → BigAt W (.slice ad6 l6 cap6) 1) := (fun W hb => hv6.later hb); clear hv6 hb6)
                  | (go_at_call 68; refine (wide_any u4 (M / G) _ (HDW.out _ ?_)).mono ?_; (first | exact hcur | exact hcurA _); rintro e w5 ⟨sv5, rfl, ⟨x5, rfl, hx5⟩, hb5⟩; rw [decide_eq_false (nat_not_neg (M / G))]; obtain ⟨ad5, l5, cap5, rfl, _⟩ := hx5.len; (first | have hbw1 := below_chain hcur hb5 | (have hbw1 := below_chain (hcurA _) hb5; have NB := newBox3_of hcur0 (below_chain ((Below.refl _ _).drew) hb5))); have HX1 : Hid (∀ W, Below w5.heap.size w5 W → BigAt W (.slice ad5 l5 cap5) (M / G)) := (fun W hb => by have h1 := hx5.later hb; rwa [Int.natAbs_natCast] at h1); clear hx5 hb5))
              all_goals
                go_wp2_with fail
                go_meet
                first | exact ⟨_, rfl, ratBox_late hbw7 HUR.out⟩ | exact ⟨_, rfl, ratBox_soon hbw7 HUR.out NB⟩
            case rest =>
            obtain ⟨Bs, rfl, HRB⟩ := hcut
            obtain ⟨ur, x0, x1, hu⟩ := HRB.out.box
            obtain ⟨ad, l, cap, rfl, _⟩ := hu.len
            obtain ⟨sg, hsg⟩ : ∃ sg, decide (q < 0) = sg := ⟨_, rfl⟩
            rw [hsg] at x0
            have hx1' : ∀ W, Below wc.heap.size wc W → W.cell? ⟨Bs, 0, none⟩ = some (.bool sg) ∧ W.cell? ⟨Bs, 1, none⟩ = some (.slice ad l cap) := fun W hb => ⟨(cell_past x0 hb).2, (cell_past x1 hb).2⟩
            have HX := Hid.mk' hx1'
            have HU := Hid.mk' hu
            have HSG := Hid.mk' hsg
            have hc0 : Below wc.heap.size wc wc := Below.refl _ _
            have hc1 : Below wc.heap.size wc wc.drew := (Below.refl _ _).drew
            have HBC := Hid.mk' HRB.out.below
            obtain ⟨cm2, hcm2⟩ : ∃ cm2, cmpOf q.natAbs 1099511627776 = cm2 := ⟨_, rfl⟩
            have hcmp : ∀ (v : Value) (W : World), Below wc.heap.size wc W → BigAt W v 1099511627776 → Calls Tryz.prog 57 #[.slice ad l cap, v] W fun e w' => e = .returned (.int .i64 cm2) ∧ ∃ m, w' = W.drewN m := fun v W hb hv => by
              have := BigCmp_any (.slice ad l cap) v q.natAbs 1099511627776 k0 W (hu.later hb) hv HQB.out HX40.out (by omega)
              rw [hcm2] at this
              exact this
            have HCMP := Hid.mk' hcmp
            have HCM := Hid.mk' hcm2
            clear hx1' hu hsg hcmp hcm2 x0 x1 cc c0 c1 c2
            go_upto_region 16 with fail
            go_cut [90] from 64 to 119 (fun s wx => s = .bool (decide (0 < cm2)) ∧ Hid (Below wc.heap.size wc wx))
            case first =>
              go_region_held3 (fun W => W.cell? ⟨Bs, 1, none⟩ = some (.slice ad l cap))
                (first | exact (HX.out _ hc0).2 | exact (HX.out _ hc1).2 | exact (HX.out _ hc2).2 | exact (HX.out _ hc3).2)
                (first
                  | (go_at_call 57; refine (HCMP.out _ _ hc2 HV8.out).mono ?_; rintro e w9 ⟨rfl, m9, hw9⟩; have hc3 : Below wc.heap.size wc w9 := (by rw [hw9]; exact below_drewN hc2 m9); clear hw9)
                  | (go_at_call 56; refine (BigOf_any 1099511627776 _ (by omega)).mono ?_; rintro e w8 ⟨v8, rfl, hv8, hb8⟩; have hc2 := below_chain hc1 hb8; have HV8 := Hid.mk' hv8; clear hv8 hb8))
              all_goals
                go_wp2_with fail
                go_meet
                exact ⟨rfl, hc3⟩
            case rest =>
            obtain ⟨rfl, HBX⟩ := hcut
            by_cases hle40 : q.natAbs ≤ 1099511627776
            · have hcm : decide (0 < cm2) = false := by
                rw [← HCM.out]
                rcases Nat.lt_or_ge q.natAbs 1099511627776 with h | h
                · rw [cmpOf_lt h]; decide
                · rw [cmpOf_eq (by omega)]; decide
              rw [hcm]
              clear hcm
              obtain ⟨x0, x1⟩ := HX.out wc HBX.out
              have hint := BigInt_any (.slice ad l cap) q.natAbs wc (HU.out.later HBX.out) (by omega)
              have HO2 := Hid.mk' (HO.out.later (below_chain HBC.out HBX.out))
              obtain ⟨p0, p1⟩ := HPP.out wc (below_chain HBC.out HBX.out)
              have y0 := HO2.out.o0
              have y1 := HO2.out.o1
              have yf := HO2.out.fz
              have hcn2 := take_len_le (G := G) L k
              have hsz : w3.heap.size < wc.heap.size := cell_lt HO2.out.o0
              obtain ⟨i0, hi, hz0, hz1, hz2⟩ := info_parts Tryz.infoTerm
              have HINF : Hid (Tryz.prog.info? 90 = some i0 ∧ i0.zero = some (.agg #[.int .i64 0, .int .i64 0]) ∧ i0.size = 2 ∧ i0.bytes = 16) := ⟨hi, hz0, hz1, hz2⟩
              have HLN2 := Hid.mk' (HLN.out hle40)
              have HO2d := Hid.mk' (HO2.out.later (wn := wc.drew) (Below.refl _ _).drew)
              have y1a : ∀ X, (wc.alloc X).cell? ⟨w3.heap.size, 1, none⟩ = some sv := fun X => (cell_past y1 (new_below _ X)).2
              clear hi hz0 hz1 hz2 HO HBX HX HU HLN HCM HCMP HKS HTI HFM HQB HPP HBC HRB hc0 hc1 hcur hcur0 hcurA HDW
              rcases Int.lt_trichotomy q 0 with hq | hq | hq
              · have hs := HSG.out
                rw [decide_eq_true hq] at hs
                subst hs
                obtain ⟨m, hm⟩ : ∃ m : Nat, q.natAbs = m := ⟨_, rfl⟩
                have hqm : q = -(m : Int) := by omega
                rw [hm] at hint hle40
                have hmI : (m : Int) ≤ 1099511627776 := by omega
                have hne : (-(m : Int) != 0) = true := by rw [bne_iff_ne]; omega
                have HQM := Hid.mk' hqm
                have HQ0 : Hid (¬ q = 0) := by show ¬ _; omega
                clear hqm hm hq HSG
                go_wp2_with fail
                refine hint.mono ?_
                clear hint
                rintro e w6 ⟨rfl, hw6⟩
                rw [hw6]
                clear hw6
                go_wp2_with fail
                go_region_law (first | (refine step_append_lies _ rfl _ _ _ rfl (w3.heap.size + 1) 90 i0 _ 2 16 Tryz.underlying25 HINF.out.1 HINF.out.2.1 HINF.out.2.2.1 HINF.out.2.2.2 rfl (by omega) sv _ _ rfl (by exact HO2d.out.row.alloc _) ⟨wc.heap.size, 0, none⟩ 1 1 [.int .i64 p, .int .i64 (-(m : Int))] rfl rfl (two_new _ _ _ _) (by simp [Value.oneCell']) (by omega) (by unfold maxLen; omega) (by omega) (by simp; omega) _ rfl ?_; intro g' cap' w8 hown8 hgrow8 hat8 hlt8; obtain ⟨z1, z2, HP8⟩ := HO2d.out.pushed hgrow8 hown8; have HPU := Hid.mk' HP8; clear hown8 hgrow8 hat8 HP8))
                all_goals
                go_wp2_with fail
                exact ⟨⟨k + 1, _, by omega, by go_num, by
                  show InOut _ _ _ _ _ _
                  rw [HOV.out, if_neg HQ0.out, flat_join, List.length_append, HQM.out]
                  exact HPU.out, HLN2⟩, by simp [intOf]; omega⟩
              · subst hq
                have hs := HSG.out
                rw [decide_eq_false (by decide)] at hs
                subst hs
                clear HSG
                go_wp2_with fail
                refine hint.mono ?_
                clear hint
                rintro e w6 ⟨rfl, hw6⟩
                rw [hw6]
                clear hw6
                go_wp2_with fail
                exact ⟨⟨k + 1, sv, by omega, by go_num, by
                  show InOut _ _ _ _ _ _
                  have h9 := HOV.out
                  simp only [if_true, List.append_nil] at h9
                  rw [h9]
                  exact HO2.out, HLN2⟩, by simp [intOf]; omega⟩
              · have hs := HSG.out
                rw [decide_eq_false (by omega)] at hs
                subst hs
                obtain ⟨m, hm⟩ : ∃ m : Nat, q.natAbs = m := ⟨_, rfl⟩
                have hqm : q = (m : Int) := by omega
                rw [hm] at hint hle40
                have hmI : (m : Int) ≤ 1099511627776 := by omega
                have hne : ((m : Int) != 0) = true := by rw [bne_iff_ne]; omega
                have HQM := Hid.mk' hqm
                have HQ0 : Hid (¬ q = 0) := by show ¬ _; omega
                clear hqm hm hq HSG
                go_wp2_with fail
                refine hint.mono ?_
                clear hint
                rintro e w6 ⟨rfl, hw6⟩
                rw [hw6]
                clear hw6
                go_wp2_with fail
                go_region_law (first | (refine step_append_lies _ rfl _ _ _ rfl (w3.heap.size + 1) 90 i0 _ 2 16 Tryz.underlying25 HINF.out.1 HINF.out.2.1 HINF.out.2.2.1 HINF.out.2.2.2 rfl (by omega) sv _ _ rfl (by exact HO2d.out.row.alloc _) ⟨wc.heap.size, 0, none⟩ 1 1 [.int .i64 p, .int .i64 (m : Int)] rfl rfl (two_new _ _ _ _) (by simp [Value.oneCell']) (by omega) (by unfold maxLen; omega) (by omega) (by simp; omega) _ rfl ?_; intro g' cap' w8 hown8 hgrow8 hat8 hlt8; obtain ⟨z1, z2, HP8⟩ := HO2d.out.pushed hgrow8 hown8; have HPU := Hid.mk' HP8; clear hown8 hgrow8 hat8 HP8))
                all_goals
                go_wp2_with fail
                exact ⟨⟨k + 1, _, by omega, by go_num, by
                  show InOut _ _ _ _ _ _
                  rw [HOV.out, if_neg HQ0.out, flat_join, List.length_append, HQM.out]
                  exact HPU.out, HLN2⟩, by simp [intOf]; omega⟩
            · have hcm : decide (0 < cm2) = true := by
                rw [← HCM.out, cmpOf_gt (by omega)]; decide
              rw [hcm]
              have hff : fits = false := by
                cases hx : fits
                · rfl
                · have := HFM.out hx; omega
              obtain ⟨_, z0, z1, f0, f1, hbw⟩ := HWA.out wc (below_chain HBR.out (below_chain HBC.out HBX.out))
              clear hcm
              go_wp2_with fail
              refine bodyPost_ret (v := .tuple #[.agg #[.int .i64 0, .slice none 0 0], .int .i64 2]) (by simp [results, Tryz.results35, go_sem, z0, z1]) rfl ⟨Or.inr ⟨hff, rfl⟩, (hbw.setCell (by simp) _).setCell (by simp) _⟩
          · obtain rfl : k = L.length := by omega
            obtain ⟨_, z0, z1, f0, f1, hbw⟩ := HWA.out wr HBR.out
            have hft : fits = true := HFIT.out.2 ⟨by omega, fun e he => HLE.out e (by rw [List.take_length]; exact he)⟩
            have hrow := HO.out.row
            rw [List.take_length] at hrow
            have hlt1 : w.heap.size < w3.heap.size := by have := HB3.out.size; have := HSZ.out; omega
            have y0 := HO.out.o0
            have y1 := HO.out.o1
            have HRW := Hid.mk' hrow
            have HBW := Hid.mk' hbw
            obtain ⟨ad, n', c', rfl⟩ : ∃ ad n' c', sv = .slice ad n' c' := by
              rcases hrow.2 with ⟨rfl, _⟩ | ⟨gg, cap', cur', rfl, _⟩
              · exact ⟨_, _, _, rfl⟩
              · exact ⟨_, _, _, rfl⟩
            clear hWr hrow hbw HO HLE hlt hk
            go_wp2_with fail
            refine bodyPost_ret (v := .tuple #[.agg #[.int .i64 ((M / G : Nat) : Int), .slice ad n' c'], .int .i64 0]) (by simp [results, Tryz.results35, go_sem, z0, z1]) rfl ⟨Or.inl ⟨hft, _, rfl, ?_⟩, (HBW.out.setCell (by simp) _).setCell (by simp) _⟩
            have h1 := ownsRow_setCell_below HRW.out (a := ⟨w.heap.size, 0, none⟩) (by show w.heap.size < _; omega) (.int .i64 ((M / G : Nat) : Int))
            have h2 := ownsRow_setCell_below h1 (a := ⟨w.heap.size, 1, none⟩) (by show w.heap.size < _; omega) (.slice ad n' c')
            exact row_base h2 (by omega)
end Go.Proofs.YtklhfagcembigaaGreatDoor

/- The law's isLog. -/
namespace Go.Proofs.YtklhfagcembigaaGreatDoor
open Go.RowKit

theorem same_own (den : Int) (v1 v2 : Value) (n : Nat) (p c : Nat → Int) (w : World) (h1 : OwnAt w v1 n p c) (h2 : OwnAt w v2 n p c) (hn : n ≤ 1000000) :
    Calls Tryz.prog 30 #[.agg #[.int .i64 den, v1], .agg #[.int .i64 den, v2]] w fun e w' => e = .returned (.bool true) ∧ Below w.heap.size w w' := by
  rcases h1 with ⟨rfl, rfl⟩ | ⟨g1, c1, rfl, t1⟩
  · rcases h2 with ⟨rfl, _⟩ | ⟨g2, c2, rfl, t2⟩
    · exact SameLog_none den none none 0 0 w
    · exact SameLog_none den none _ 0 c2 w
  · rcases h2 with ⟨rfl, rfl⟩ | ⟨g2, c2, rfl, t2⟩
    · exact SameLog_none den _ none c1 0 w
    · exact SameLog_some den g1 0 c1 g2 0 c2 n p c w t1 t2 hn
theorem own_form {w : World} {v : Value} {n : Nat} {p c : Nat → Int} (h : OwnAt w v n p c) : ∃ ad m cap, v = .slice ad m cap := by
  rcases h with ⟨rfl, _⟩ | ⟨g, cap, rfl, _⟩
  · exact ⟨_, _, _, rfl⟩
  · exact ⟨_, _, _, rfl⟩

set_option maxRecDepth 10000 in
set_option maxHeartbeats 1000000 in
theorem isLog_ok (den : Int) (v1 v2 : Value) (n : Nat) (p c : Nat → Int) (w : World) (h1 : OwnAt w v1 n p c) (h2 : OwnAt w v2 n p c) (hn : n ≤ 1000000) :
    Calls Tryz.prog 12 #[.agg #[.int .i64 den, v1], .nilIface, .agg #[.int .i64 den, v2], .int .i64 0] w fun e w' => e = .returned (.bool true) ∧ Below w.heap.size w w' := by
  obtain ⟨ad1, m1, cap1, rfl⟩ := own_form h1
  obtain ⟨ad2, m2, cap2, rfl⟩ := own_form h2
  have hb0 : Below w.heap.size w ((w.alloc (.cells #[.int .i64 den, .slice ad1 m1 cap1] 27)).alloc (.cells #[.int .i64 den, .slice ad2 m2 cap2] 27)) := ((Below.refl _ _).alloc (Nat.le_refl _) _).alloc (by simp) _
  have hs := same_own den _ _ n p c _ (h1.later hb0) (h2.later hb0) hn
  have HB := Hid.mk' hb0
  clear h1 h2 hb0
  go_enter Tryz.func12, Tryz.ntmps12
  go_wp2_with fail
  refine hs.mono ?_
  clear hs
  rintro e w1 ⟨rfl, hb1⟩
  go_wp2_with fail
  go_ret
  exact ⟨rfl, below_chain HB.out hb1⟩

set_option maxRecDepth 10000 in
set_option maxHeartbeats 1000000 in
theorem isLog_err (a : Nat → Addr) (k : Nat) (hk : k < 8) (d2 : Int) (ad2 : Option Addr) (m2 cap2 : Nat) (w : World) (h : Errs w a) :
    Calls Tryz.prog 12 #[.agg #[.int .i64 0, .slice none 0 0], .iface 183 (.pointer (some (a k))), .agg #[.int .i64 d2, .slice ad2 m2 cap2], .int .i64 ((k : Int) + 1)] w fun e w' => e = .returned (.bool true) ∧ Below w.heap.size w w' := by
  have hb0 : Below w.heap.size w ((w.alloc (.cells #[.int .i64 0, .slice none 0 0] 27)).alloc (.cells #[.int .i64 d2, .slice ad2 m2 cap2] 27)) := ((Below.refl _ _).alloc (Nat.le_refl _) _).alloc (by simp) _
  have hc := coded_err a k hk ((k : Int) + 1) _ (h.below hb0)
  rw [decide_eq_true rfl] at hc
  have HB := Hid.mk' hb0
  have hk1 : (0 : Int) < (k : Int) + 1 := by omega
  clear h hb0
  go_enter Tryz.func12, Tryz.ntmps12
  go_wp2_with fail
  refine hc.mono ?_
  clear hc
  rintro e w1 ⟨rfl, hb1⟩
  have c0 := hb1.cell (p := ⟨w.heap.size, 0, none⟩) (by simp; omega)
  have c1 := hb1.cell (p := ⟨w.heap.size, 1, none⟩) (by simp; omega)
  rw [World.cell?_alloc_lt _ _ ⟨w.heap.size, 0, none⟩ (by simp), World.cell?_alloc_at _ _ _ _ rfl] at c0
  rw [World.cell?_alloc_lt _ _ ⟨w.heap.size, 1, none⟩ (by simp), World.cell?_alloc_at _ _ _ _ rfl] at c1
  simp at c0 c1
  have HB1 := Hid.mk' (below_chain HB.out hb1)
  clear hb1
  go_wp2_with fail
  go_ret
  exact ⟨rfl, HB1.out⟩
end Go.Proofs.YtklhfagcembigaaGreatDoor

/- The document's LogOf. -/
namespace Go.Proofs.YtklhfagcembigaaGreatDoor
open Go.RowKit

theorem gList_one : ∀ L : List Int, gList 1 L = 1
  | [] => rfl
  | x :: r => by
    show gList (Nat.gcd 1 x.natAbs) r = 1
    rw [Nat.gcd_one_left]; exact gList_one r
theorem low_of_one : lowN 1 1 = 1 ∧ lowD 1 1 = 1 := low_one 1
theorem low_of_back : lowN 1 (-1) = -1 ∧ lowD 1 (-1) = 1 := low_one (-1)

/-- What LogOf tells, by lists. -/
theorem over_of {a b k1 k2 : Nat} {L : List Ent} (hr : Rising (absL L)) (hv : ∀ x, atL (absL L) x = multI x a - multI x b) (h1 : 2 ^ k1 * 1 ≤ a) (h2 : 2 ^ k2 * 1 ≤ b) (hl : L.length ≤ k1 + k2) : IsOf a b (overL 1 (absL L)) :=
  ⟨rising_over hr 1, fun e he => over_nz he, fun x => by rw [atL_over hr]; simpa using hv x, k1, k2, h1, h2, by have := length_over (absL L) 1; rw [absL_length] at this; omega⟩
theorem isOf_uniq {a b : Nat} {t t' : List (Int × Int)} (h : IsOf a b t) (h' : IsOf a b t') : t = t' := rising_ext h.rise h'.rise h.nz h'.nz (fun x => by rw [h.val, h'.val])

set_option maxRecDepth 100000 in
set_option maxHeartbeats 2000000 in
theorem LogOf_any (a b : Nat) (w : World) (ha : 1 ≤ a) (ha6 : a ≤ 1000000) (hb : 1 ≤ b) (hb6 : b ≤ 1000000) : Calls Tryz.prog 14 #[.agg #[.int .i64 a, .int .i64 b]] w fun e w' => ∃ v t, e = .returned (.tuple #[.agg #[.int .i64 1, v], .int .i64 0]) ∧ ListAt w' v t ∧ IsOf a b t ∧ Below w.heap.size w w' := by
  obtain ⟨W0, hW0⟩ : ∃ W0, W0 = (w.alloc (.cells #[.int .i64 a, .int .i64 b] 38)).alloc (.cells #[.int .i64 0, .slice none 0 0] 27) := ⟨_, rfl⟩
  have hb0 : Below w.heap.size w W0 := by rw [hW0]; exact ((Below.refl _ _).alloc (Nat.le_refl _) _).alloc (by simp) _
  have hz0 : W0.heap.size = w.heap.size + 1 + 1 := by rw [hW0]; simp
  have hcell : ∀ W, Below W0.heap.size W0 W → W.cell? ⟨w.heap.size, 0, none⟩ = some (.int .i64 a) ∧ W.cell? ⟨w.heap.size, 1, none⟩ = some (.int .i64 b) ∧ W.cell? ⟨w.heap.size + 1, 0, none⟩ = some (.int .i64 0) ∧ W.cell? ⟨w.heap.size + 1, 1, none⟩ = some (.slice none 0 0) ∧ W.frozen? ⟨w.heap.size + 1, 0, none⟩ = false ∧ W.frozen? ⟨w.heap.size + 1, 1, none⟩ = false := fun W hbl => by
    refine ⟨(cell_past ?_ hbl).2, (cell_past ?_ hbl).2, (cell_past ?_ hbl).2, (cell_past ?_ hbl).2, (frozen_past (v := .int .i64 0) ?_ ?_ hbl).2, (frozen_past (v := .slice none 0 0) ?_ ?_ hbl).2⟩ <;> rw [hW0] <;> simp
  have hwd : WideAt (w.heap.size + 1 + 1) 1 (W0.alloc (.cells #[.slice none 0 0, .slice none 0 0] 62)) (w.heap.size + 1 + 1) (.slice none 0 0) (.slice none 0 0) [] :=
    ⟨Nat.le_refl _, by rw [← hz0]; simp, by rw [← hz0]; simp, by rw [← hz0]; simp, by rw [← hz0]; simp, World.ownsRow_nil _ _ _ _, World.ownsRow_nil _ _ _ _, (fun e he => by cases he), fun _ => ⟨rfl, rfl⟩⟩
  have HB0 := Hid.mk' hb0
  have HC := Hid.mk' hcell
  have HWD := Hid.mk' hwd
  obtain ⟨c0, c1, _⟩ := hcell W0 (Below.refl _ _)
  have HW0 := Hid.mk' hW0
  have HZ0 := Hid.mk' hz0
  clear hb0 hcell hwd hW0
  go_enter Tryz.func14, Tryz.ntmps14
  go_upto_region 1 with fail
  rw [← HW0.out]
  go_upto_region 4 with fail
  obtain ⟨W1, hW1⟩ : ∃ W1, W1 = W0.alloc (.cells #[.slice none 0 0, .slice none 0 0] 62) := ⟨_, rfl⟩
  rw [← hW1] at HWD ⊢
  have HB1 : Hid (Below W0.heap.size W0 W1) := by rw [hW1]; exact new_below _ _
  clear hW1 c0 c1 hz0
  have hcur0 : Below W1.heap.size W1 W1 := Below.refl _ _
  have hcur : Below W1.heap.size W1 W1.drew := (Below.refl _ _).drew
  have HCA : Hid (∀ W, Below W0.heap.size W0 W → W.cell? ⟨w.heap.size, 0, none⟩ = some (.int .i64 a)) := fun W h => (HC.out W h).1
  have HCB : Hid (∀ W, Below W0.heap.size W0 W → W.cell? ⟨w.heap.size, 1, none⟩ = some (.int .i64 b)) := fun W h => (HC.out W h).2.1
  have HR1 : Hid (∀ (W : World) (r : Value), RatioAt W r ((1 : Int).tdiv ((Nat.gcd (1 : Int).natAbs 1 : Nat) : Int)) (1 / Nat.gcd (1 : Int).natAbs 1) → RatioAt W r (lowN 1 1) (lowD 1 1)) := fun W r h => by rw [low_of_one.1, low_of_one.2]; exact h
  have HR2 : Hid (∀ (W : World) (r : Value), RatioAt W r ((-1 : Int).tdiv ((Nat.gcd (-1 : Int).natAbs 1 : Nat) : Int)) (1 / Nat.gcd (-1 : Int).natAbs 1) → RatioAt W r (lowN 1 (-1)) (lowD 1 (-1))) := fun W r h => by rw [low_of_back.1, low_of_back.2]; exact h
  have HRO : Hid (∀ W, Calls Tryz.prog 34 #[.int .i64 1, .int .i64 1] W fun e w' => ∃ r, e = .returned r ∧ RatioAt w' r ((1 : Int).tdiv ((Nat.gcd (1 : Int).natAbs 1 : Nat) : Int)) (1 / Nat.gcd (1 : Int).natAbs 1) ∧ Below W.heap.size W w') := fun W => RatioOf_any 1 1 W (by decide) (by decide) (by decide) (by decide)
  have HRB : Hid (∀ W, Calls Tryz.prog 34 #[.int .i64 (-1), .int .i64 1] W fun e w' => ∃ r, e = .returned r ∧ RatioAt w' r ((-1 : Int).tdiv ((Nat.gcd (-1 : Int).natAbs 1 : Nat) : Int)) (1 / Nat.gcd (-1 : Int).natAbs 1) ∧ Below W.heap.size W w') := fun W => RatioOf_any (-1) 1 W (by decide) (by decide) (by decide) (by decide)
  go_cut [] from 26 (fun wx => ∃ (vp vc : Value) (L : List Ent) (k : Nat) (W2 : World), Hid (InNum (w.heap.size + 1 + 1) 1 (w.heap.size + 1 + 1) W2 wx 1 [] a 1 k vp vc L) ∧ Hid (Below W0.heap.size W0 wx))
  case first =>
    go_region_held3 (fun W => W.cell? ⟨w.heap.size, 0, none⟩ = some (.int .i64 a))
      (first | exact HCA.out _ (below_chain HB1.out hcur0) | exact HCA.out _ (below_chain HB1.out hcur) | exact HCA.out _ (below_chain HB1.out hbw2) | exact HCA.out _ hb03)
      (first
        | (go_at_call 33; refine (Number_any (w.heap.size + 1 + 1) 1 (w.heap.size + 1 + 1) a 1 _ _ _ [] 3 w2 (HWD.out.later hbw2) HRR.out (by decide) List.Pairwise.nil (by simp) ha ha6 (fun x => by simp [atL, absL]) (by decide) (by decide)).mono ?_; rintro e w3 ⟨rfl, vp3, vc3, L3, k3, hin3⟩; have hb03 := (below_chain HB1.out hbw2).trans (hin3.below.mono (Nat.le_of_eq HZ0.out)); have H3 := Hid.mk' hin3; clear hin3)
        | (go_at_call 34; refine (HRO.out _).mono ?_; rintro e w2 ⟨r2, rfl, hr2, hb2⟩; have hbw2 := below_chain hcur hb2; have HRR := Hid.mk' (HR1.out _ _ hr2); clear hr2 hb2))
    all_goals
      go_wp2_with fail
      go_meet
      exact ⟨_, _, _, _, _, H3, hb03⟩
  case rest =>
  obtain ⟨vp, vc, L, k, W2, HI, HBX⟩ := hcut
  obtain ⟨Wm, hWm⟩ : ∃ Wm, Wm = wc := ⟨_, rfl⟩
  rw [← hWm] at HI HBX ⊢
  clear hWm hcur hcur0
  have hcur0 : Below Wm.heap.size Wm Wm := Below.refl _ _
  have hcur : Below Wm.heap.size Wm Wm.drew := (Below.refl _ _).drew
  have hk19 := HI.out.cnt_le (by decide) ha6
  have hlen1 := HI.out.len
  simp at hlen1
  have HV1 : Hid (∀ x, atL (absL L) x = multI x a) := fun x => by
    have := HI.out.val x
    rw [multI_one] at this
    simpa [absL, atL] using this
  have HBD : Hid (∀ x, (atL (absL L) x).natAbs + 20 * (-1 : Int).natAbs < 1000000 ^ 3) := fun x => by
    rw [HV1.out]
    have h1 := multI_nonneg x a
    have h2 := multI_le x ha ha6
    have h3 : (1000000 : Nat) ^ 3 = 1000000000000000000 := by decide
    rw [h3]
    simp
    omega
  go_upto_region 5 with fail
  go_cut [] from 31 (fun wx => ∃ (vp vc : Value) (L2 : List Ent) (k2 : Nat) (W2 : World), Hid (InNum (w.heap.size + 1 + 1) 1 (w.heap.size + 1 + 1) W2 wx (-1) L b 1 k2 vp vc L2) ∧ Hid (Below W0.heap.size W0 wx))
  case first =>
    go_region_held3 (fun W => W.cell? ⟨w.heap.size, 1, none⟩ = some (.int .i64 b))
      (first | exact HCB.out _ (below_chain HBX.out hcur0) | exact HCB.out _ (below_chain HBX.out hcur) | exact HCB.out _ (below_chain HBX.out hbw2) | exact HCB.out _ hb03)
      (first
        | (go_at_call 33; refine (Number_any (w.heap.size + 1 + 1) 1 (w.heap.size + 1 + 1) b (-1) _ _ _ L 3 w2 (HI.out.wide.later hbw2) HRR.out (by decide) HI.out.rise (by omega) hb hb6 HBD.out (by decide) (by decide)).mono ?_; rintro e w3 ⟨rfl, vp3, vc3, L3, k3, hin3⟩; have hb03 := (below_chain HBX.out hbw2).trans (hin3.below.mono (Nat.le_of_eq HZ0.out)); have H3 := Hid.mk' hin3; clear hin3)
        | (go_at_call 34; refine (HRB.out _).mono ?_; rintro e w2 ⟨r2, rfl, hr2, hb2⟩; have hbw2 := below_chain hcur hb2; have HRR := Hid.mk' (HR2.out _ _ hr2); clear hr2 hb2))
    all_goals
      go_wp2_with fail
      go_meet
      exact ⟨_, _, _, _, _, H3, hb03⟩
  case rest =>
  obtain ⟨vp2, vc2, L2, k2, W3, HI2, HBX2⟩ := hcut
  have hk29 := HI2.out.cnt_le (by decide) hb6
  have hlen2 := HI2.out.len
  have HV2 : Hid (∀ x, atL (absL L2) x = multI x a - multI x b) := fun x => by
    have := HI2.out.val x
    rw [multI_one, HV1.out] at this
    omega
  have HZ : Hid (∀ e ∈ L2, e.z.natAbs ≤ 38) := fun e he => by
    have h0 := atL_mem HI2.out.rise (absL_mem he)
    simp only at h0
    have h1 := HV2.out e.p
    have h2 := multI_nonneg e.p a
    have h3 := multI_le e.p ha ha6
    have h4 := multI_nonneg e.p b
    have h5 := multI_le e.p hb hb6
    omega
  have HOF := Hid.mk' (over_of HI2.out.rise HV2.out HI.out.cnt HI2.out.cnt (by omega))
  obtain ⟨adp, capp, hvp⟩ : ∃ ad c, vp2 = .slice ad L2.length c := by
    rcases HI2.out.wide.P.2 with ⟨rfl, h0⟩ | ⟨g, cap, cur, rfl, _⟩
    · exact ⟨none, 0, by rw [h0]⟩
    · exact ⟨_, _, rfl⟩
  obtain ⟨adc, capc, hvc⟩ : ∃ ad c, vc2 = .slice ad L2.length c := by
    rcases HI2.out.wide.C.2 with ⟨rfl, h0⟩ | ⟨g, cap, cur, rfl, _⟩
    · exact ⟨none, 0, by rw [h0]⟩
    · exact ⟨_, _, rfl⟩
  have hwd2 := HI2.out.wide
  rw [hvp, hvc] at hwd2
  have HZB : Hid (∀ e ∈ L2, e.z.natAbs < 1000000 ^ 3) := fun e he => by
    have h1 := HZ.out e he
    have h3 : (1000000 : Nat) ^ 3 = 1000000000000000000 := by decide
    omega
  have htold := WTold_any (w.heap.size + 1 + 1) 1 (w.heap.size + 1 + 1) adp adc capp capc L2 3 1 true wc hwd2 (by decide) (by omega) HZB.out (by decide) (by decide) (by decide) (gList_one _) ⟨fun _ => ⟨by decide, fun e he => by have := HZ.out e he; simp; omega⟩, fun _ => rfl⟩
  clear hwd2 hvp hvc HI HI2 HV1 HV2 HBD HZ HZB HR1 HR2 HRO HRB HBX hcur hcur0 HWD HB1 HCA HCB
  go_wp2_with fail
  refine htold.mono ?_
  clear htold
  rintro e w7 ⟨h7, hb7⟩
  rcases h7 with ⟨_, v, rfl, hrow⟩ | ⟨h7, _⟩
  case inr => cases h7
  obtain ⟨_, _, z0, z1, f0, f1⟩ := HC.out w7 (below_chain HBX2.out hb7)
  have hsz : w.heap.size + 1 < wc.heap.size := by have h1 := HBX2.out.size; have h2 := HZ0.out; omega
  obtain ⟨ad, n', c', rfl⟩ : ∃ ad n' c', v = .slice ad n' c' := by
    rcases hrow.2 with ⟨rfl, _⟩ | ⟨gg, cap', cur', rfl, _⟩
    · exact ⟨_, _, _, rfl⟩
    · exact ⟨_, _, _, rfl⟩
  have HRW := Hid.mk' hrow
  have HB8 := Hid.mk' (below_chain HB0.out (below_chain HBX2.out hb7))
  clear hrow hb7
  go_wp2_with fail
  refine bodyPost_ret (v := .tuple #[.agg #[.int .i64 1, .slice ad n' c'], .int .i64 0]) (by simp [results, Tryz.results14, go_sem, z0, z1]) rfl ⟨.slice ad n' c', _, rfl, ?_, HOF.out, ?_⟩
  · have h1 := ownsRow_setCell_below HRW.out (a := ⟨w.heap.size + 1, 0, none⟩) (by show w.heap.size + 1 < _; omega) (.int .i64 1)
    have h2 := ownsRow_setCell_below h1 (a := ⟨w.heap.size + 1, 1, none⟩) (by show w.heap.size + 1 < _; omega) (.slice ad n' c')
    rw [flat_cells] at h2
    exact ownAt_of_row h2
  · exact (HB8.out.setCell (by simp) _).setCell (by simp) _

set_option maxRecDepth 100000 in
set_option maxHeartbeats 1000000 in
theorem LogOf_shape (a b : Int) (w : World) (hbad : a < 1 ∨ 1000000 < a ∨ b < 1 ∨ 1000000 < b) : Calls Tryz.prog 14 #[.agg #[.int .i64 a, .int .i64 b]] w fun e w' => e = .returned (.tuple #[.agg #[.int .i64 0, .slice none 0 0], .int .i64 3]) ∧ Below w.heap.size w w' := by
  have hb0 : Below w.heap.size w ((w.alloc (.cells #[.int .i64 a, .int .i64 b] 38)).alloc (.cells #[.int .i64 0, .slice none 0 0] 27)) := ((Below.refl _ _).alloc (Nat.le_refl _) _).alloc (by simp) _
  have HB0 := Hid.mk' hb0
  clear hb0
  by_cases h1 : a < 1
  · go_enter Tryz.func14, Tryz.ntmps14
    go_wp2_with fail
    refine bodyPost_ret (v := .tuple #[.agg #[.int .i64 0, .slice none 0 0], .int .i64 3]) (by simp [results, Tryz.results14, go_sem]) rfl ⟨rfl, HB0.out⟩
  · by_cases h2 : 1000000 < a
    · go_enter Tryz.func14, Tryz.ntmps14
      go_wp2_with fail
      refine bodyPost_ret (v := .tuple #[.agg #[.int .i64 0, .slice none 0 0], .int .i64 3]) (by simp [results, Tryz.results14, go_sem]) rfl ⟨rfl, HB0.out⟩
    · by_cases h3 : b < 1
      · go_enter Tryz.func14, Tryz.ntmps14
        go_wp2_with fail
        refine bodyPost_ret (v := .tuple #[.agg #[.int .i64 0, .slice none 0 0], .int .i64 3]) (by simp [results, Tryz.results14, go_sem]) rfl ⟨rfl, HB0.out⟩
      · have h4 : 1000000 < b := by omega
        go_enter Tryz.func14, Tryz.ntmps14
        go_wp2_with fail
        refine bodyPost_ret (v := .tuple #[.agg #[.int .i64 0, .slice none 0 0], .int .i64 3]) (by simp [results, Tryz.results14, go_sem]) rfl ⟨rfl, HB0.out⟩
end Go.Proofs.YtklhfagcembigaaGreatDoor

/- The document's Told of a fraction. -/
namespace Go.Proofs.YtklhfagcembigaaGreatDoor
open Go.RowKit

theorem cmpOf_le {a b : Nat} (h : a ≤ b) : cmpOf a b ≤ 0 := by
  unfold cmpOf
  split
  · omega
  · split
    · omega
    · omega

set_option maxRecDepth 100000 in
set_option maxHeartbeats 2000000 in
theorem RTold_ok (v : Value) (m d : Nat) (w : World) (h : RatioAt w v (m : Int) d) (hm : m ≤ 4611686018427387904) (hd : d ≤ 4611686018427387904) :
    Calls Tryz.prog 31 #[v] w fun e w' => e = .returned (.tuple #[.agg #[.int .i64 m, .int .i64 d], .bool true]) ∧ Below w.heap.size w w' := by
  obtain ⟨u, q, rfl, hu, hq⟩ := h
  rw [Int.natAbs_natCast] at hu
  rw [decide_eq_false (show ¬ (m : Int) < 0 by omega)]
  obtain ⟨ad1, l1, cap1, rfl, _⟩ := hu.len
  obtain ⟨ad2, l2, cap2, rfl, _⟩ := hq.len
  obtain ⟨W0, hW0⟩ : ∃ W0, W0 = (w.alloc (.cells #[.bool false, .slice ad1 l1 cap1, .slice ad2 l2 cap2] 57)).alloc (.cells #[.int .i64 0, .int .i64 0] 38) := ⟨_, rfl⟩
  have hb0 : Below w.heap.size w W0 := by rw [hW0]; exact below_chain (new_below _ _) (new_below _ _)
  have HKS : Hid (∀ W, Below W0.heap.size W0 W → (W.cell? ⟨w.heap.size, 0, none⟩ = some (.bool false) ∧ W.cell? ⟨w.heap.size, 1, none⟩ = some (.slice ad1 l1 cap1) ∧ W.cell? ⟨w.heap.size, 2, none⟩ = some (.slice ad2 l2 cap2)) ∧ (W.cell? ⟨w.heap.size + 1, 0, none⟩ = some (.int .i64 0) ∧ W.cell? ⟨w.heap.size + 1, 1, none⟩ = some (.int .i64 0)) ∧ W.frozen? ⟨w.heap.size + 1, 0, none⟩ = false ∧ W.frozen? ⟨w.heap.size + 1, 1, none⟩ = false) := fun W hb => by
    have hr := hb
    rw [hW0] at hr
    have hr2 := res_past hr
    rw [World.size_alloc] at hr2
    have a : ∀ j v, #[Value.bool false, .slice ad1 l1 cap1, .slice ad2 l2 cap2][j]? = some v → W0.cell? ⟨w.heap.size, j, none⟩ = some v := fun j v h => by rw [hW0, World.cell?_alloc_lt _ _ ⟨w.heap.size, j, none⟩ (by simp), World.cell?_alloc_at _ _ _ _ rfl]; exact h
    exact ⟨⟨(cell_past (a 0 _ rfl) hb).2, (cell_past (a 1 _ rfl) hb).2, (cell_past (a 2 _ rfl) hb).2⟩, ⟨hr2.1, hr2.2.1⟩, hr2.2.2⟩
  have HU : Hid (∀ W, Below W0.heap.size W0 W → BigAt W (.slice ad1 l1 cap1) m ∧ BigAt W (.slice ad2 l2 cap2) d) := fun W hb => ⟨(hu.later hb0).later hb, (hq.later hb0).later hb⟩
  have hof : Calls Tryz.prog 56 #[.int .i64 4611686018427387904] W0 fun e w' => ∃ v, e = .returned v ∧ BigAt w' v 4611686018427387904 ∧ Below W0.heap.size W0 w' := BigOf_any 4611686018427387904 W0 (Nat.le_refl _)
  have k4 : (4611686018427387904 : Nat) < 1000000 ^ 4 := by decide
  obtain ⟨z1, hz1⟩ : ∃ z, z = cmpOf m 4611686018427387904 := ⟨_, rfl⟩
  obtain ⟨z2, hz2⟩ : ∃ z, z = cmpOf d 4611686018427387904 := ⟨_, rfl⟩
  have hle1 : ¬ 0 < z1 := by rw [hz1]; have := cmpOf_le hm; omega
  have hle2 : ¬ 0 < z2 := by rw [hz2]; have := cmpOf_le hd; omega
  have HC1 : Hid (∀ (W : World) (v : Value), Below W0.heap.size W0 W → BigAt W v 4611686018427387904 → Calls Tryz.prog 57 #[.slice ad1 l1 cap1, v] W fun e w' => e = .returned (.int .i64 z1) ∧ ∃ m, w' = W.drewN m) := fun W v hb hv => by
    rw [hz1]; exact BigCmp_any _ _ m _ 4 W (HU.out W hb).1 hv (Nat.lt_of_le_of_lt hm k4) k4 (by decide)
  have HC2 : Hid (∀ (W : World) (v : Value), Below W0.heap.size W0 W → BigAt W v 4611686018427387904 → Calls Tryz.prog 57 #[.slice ad2 l2 cap2, v] W fun e w' => e = .returned (.int .i64 z2) ∧ ∃ m, w' = W.drewN m) := fun W v hb hv => by
    rw [hz2]; exact BigCmp_any _ _ d _ 4 W (HU.out W hb).2 hv (Nat.lt_of_le_of_lt hd k4) k4 (by decide)
  have HI1 : Hid (∀ W, Below W0.heap.size W0 W → Calls Tryz.prog 58 #[.slice ad1 l1 cap1] W fun e w' => e = .returned (.tuple #[.int .i64 m, .bool true]) ∧ w' = W) := fun W hb => BigInt_any _ m W (HU.out W hb).1 hm
  have HI2 : Hid (∀ W, Below W0.heap.size W0 W → Calls Tryz.prog 58 #[.slice ad2 l2 cap2] W fun e w' => e = .returned (.tuple #[.int .i64 d, .bool true]) ∧ w' = W) := fun W hb => BigInt_any _ d W (HU.out W hb).2 hd
  have HB0 := Hid.mk' hb0
  have HW0 := Hid.mk' hW0
  clear hu hq hb0 hW0 hz1 hz2 k4 hm hd
  go_enter Tryz.func31, Tryz.ntmps31
  go_upto_region 1 with fail
  rw [← HW0.out]
  go_wp2_with fail
  refine hof.mono ?_
  clear hof
  rintro e w1 ⟨v1, rfl, hv1, hb1⟩
  obtain ⟨⟨x0, x1, x2⟩, _, _, _⟩ := HKS.out w1 hb1
  have hc1 := HC1.out w1 v1 hb1 hv1
  go_wp2_with fail
  refine hc1.mono ?_
  rintro e w2 ⟨rfl, m2, hw2⟩
  have hb2 : Below w1.heap.size w1 w2 := by rw [hw2]; exact below_drewN (Below.refl _ _) _
  have hv2 := hv1.later hb2
  have hb02 := below_chain hb1 hb2
  clear hw2 hb1 hv1 hb2 hc1 x0 x1 x2
  obtain ⟨⟨x0, x1, x2⟩, _, _, _⟩ := HKS.out w2 hb02
  have hc2 := HC2.out w2 v1 hb02 hv2
  go_wp2_with fail
  refine hc2.mono ?_
  rintro e w3 ⟨rfl, m3, hw3⟩
  have hb3 : Below w2.heap.size w2 w3 := by rw [hw3]; exact below_drewN (Below.refl _ _) _
  have hb03 := below_chain hb02 hb3
  clear hw3 hb02 hv2 hb3 hc2 x0 x1 x2
  obtain ⟨⟨x0, x1, x2⟩, ⟨c0, c1⟩, f0, f1⟩ := HKS.out w3 hb03
  have hi1 := HI1.out w3 hb03
  have hi2 := HI2.out w3 hb03
  have HB3 := Hid.mk' (below_chain HB0.out hb03)
  clear hb03
  go_wp2_with (first
    | (go_at_call_of 58 cap1; refine hi1.mono ?_; rintro e w4 ⟨rfl, hw4⟩; rw [hw4]; clear hw4)
    | (go_at_call_of 58 cap2; refine hi2.mono ?_; rintro e w4 ⟨rfl, hw4⟩; rw [hw4]; clear hw4))
  refine bodyPost_ret (v := .tuple #[.agg #[.int .i64 m, .int .i64 d], .bool true]) (by simp [results, Tryz.results31, go_sem, c0, c1]) rfl ⟨rfl, ?_⟩
  exact (HB3.out.setCell (by show w.heap.size ≤ w.heap.size + 1; omega) _).setCell (by show w.heap.size ≤ w.heap.size + 1; omega) _
end Go.Proofs.YtklhfagcembigaaGreatDoor

/- coded of an error by its number. -/
namespace Go.Proofs.YtklhfagcembigaaGreatDoor
open Go.RowKit

theorem coded_errV (a : Nat → Addr) (c : Nat) (hc : c ≤ 8) (w : World) (h : Errs w a) :
    Calls Tryz.prog 19 #[errV a c, .int .i64 (c : Int)] w fun e w' => e = .returned (.bool true) ∧ Below w.heap.size w w' := by
  by_cases h0 : c = 0
  · subst h0
    rw [errV_zero]
    refine (coded_nil 0 w).mono ?_
    rintro e w' ⟨rfl, rfl⟩
    exact ⟨rfl, Below.refl _ _⟩
  · rw [errV_pos a h0]
    have h1 := coded_err a (c - 1) (by omega) (c : Int) w h
    have e : decide ((c : Int) = ((c - 1 : Nat) : Int) + 1) = true := decide_eq_true (by omega)
    rw [e] at h1
    exact h1
end Go.Proofs.YtklhfagcembigaaGreatDoor

/- The document's MostOf and CollisionOf; the law's isLog. -/
namespace Go.Proofs.YtklhfagcembigaaGreatDoor
open Go.RowKit

/-- The greatest so far; 0 where there is none. -/
def moI (z : Nat → Int) : Nat → Int
  | 0 => 0
  | k + 1 => if moI z k < z k then z k else moI z k
theorem moI_max {z : Nat → Int} {n : Nat} (h : ∀ i, i < n → 0 ≤ z i) : ∀ k, k + 1 ≤ n → moI z (k + 1) = maxTo z k
  | 0, hk => by
    have := h 0 (by omega)
    show (if (0 : Int) < z 0 then z 0 else 0) = z 0
    split <;> omega
  | k + 1, hk => by
    show (if moI z (k + 1) < z (k + 1) then z (k + 1) else moI z (k + 1)) = (if maxTo z k < z (k + 1) then z (k + 1) else maxTo z k)
    rw [moI_max h k (by omega)]
set_option maxRecDepth 100000 in
set_option maxHeartbeats 1000000 in
theorem MostOf_any (v : Value) (n : Nat) (z : Nat → Int) (w : World) (h : NumsAt w v n z) (hok : OkW z n) (hn : n ≤ 16) :
    Calls Tryz.prog 16 #[v] w fun e w' => e = .returned (.int .i64 (mxNR z n : Nat)) ∧ w' = w := by
  obtain ⟨b, o, cap, rfl, hrow⟩ := nums_row h hok.posN
  have HR := Hid.mk' hrow
  have HM : Hid ((mxNR z n : Int) = moI z n) := by
    show _ = _
    rw [(mxN_atR hok).1]
    have := moI_max hok.nn (n - 1) (by have := hok.posN; omega)
    rw [show n - 1 + 1 = n by have := hok.posN; omega] at this
    exact this.symm
  clear h hrow hok
  go_enter Tryz.func16, Tryz.ntmps16
  go_wp2_with fail
  go_loop [3, 4] (fun s t => ∃ k : Nat, k ≤ n ∧ s = .int .i64 (moI z k) ∧ t = .int .i64 (k : Int)) (fun _ t => n - (intOf t).toNat)
  case atStart => exact ⟨0, Nat.zero_le _, rfl, rfl⟩
  case round =>
    obtain ⟨k, hk, rfl, rfl⟩ := hrel
    have hk0 : (0 : Int) ≤ (k : Int) := by omega
    rcases Nat.lt_or_ge k n with h1 | h1
    · have hkI : (k : Int) < (n : Int) := by omega
      have hc := HR.out k h1
      have HN : Hid (moI z (k + 1) = if moI z k < z k then z k else moI z k) := rfl
      generalize moI z k = s at *
      generalize z k = x at *
      by_cases hx : s < x
      · rw [if_pos hx] at HN
        go_wp2_with fail
        exact ⟨⟨k + 1, h1, by rw [HN.out], by go_num⟩, by simp [intOf]; omega⟩
      · rw [if_neg hx] at HN
        go_wp2_with fail
        exact ⟨⟨k + 1, h1, by rw [HN.out], by go_num⟩, by simp [intOf]; omega⟩
    · obtain rfl : k = n := by omega
      have hkI : ¬ (k : Int) < (k : Int) := by omega
      go_wp2_with fail
      go_ret
      exact ⟨by rw [HM.out]; rfl, rfl⟩
/-- What the document tells where all is right. -/
def TellsD (p q : Nat) (e : Ending) (w' : World) : Prop := ∃ u t, e = .returned (.tuple #[.agg #[.int .i64 1, u], .int .i64 0]) ∧ ListAt w' u t ∧ IsOf p q t
set_option maxRecDepth 100000 in
set_option maxHeartbeats 4000000 in
theorem CollisionOf_any (v : Value) (n S : Nat) (z : Nat → Int) (w : World) (h : NumsAt w v n z) (hS : sumN z n = (S : Int)) (hw0 : weightsErr z n = 0) :
    Calls Tryz.prog 13 #[v] w fun e w' => (if S * S / Nat.gcd (sqNR z n) (S * S) ≤ 1000000 then TellsD (S * S / Nat.gcd (sqNR z n) (S * S)) (sqNR z n / Nat.gcd (sqNR z n) (S * S)) e w' else e = .returned (.tuple #[.agg #[.int .i64 0, .slice none 0 0], .int .i64 2])) ∧ Below w.heap.size w w' := by
  obtain ⟨h16, hok⟩ := weightsErr_ok hw0
  have hS0 : 0 < S := by have := hok.pos; omega
  have hS4 : S ≤ 4096 := by have := hok.le; omega
  have hSS : S * S ≤ 16777216 := Nat.mul_le_mul (show S ≤ 4096 from hS4) hS4
  have hSP : 0 < S * S := Nat.mul_pos hS0 hS0
  have hw := wN_sum hok.nn
  have hT := sqN_posR (z := z) (n := n) (by have := hok.pos; omega)
  have hT1 : sqNR z n ≤ S * S := by have := sqN_leR (z := z) (S := S) (n := n) (by omega); rwa [show sumA (wN z) n = S by omega] at this
  have hg : 0 < Nat.gcd (sqNR z n) (S * S) := Nat.gcd_pos_of_pos_left _ hT
  have p1 : 0 < S * S / Nat.gcd (sqNR z n) (S * S) := Nat.div_pos (Nat.gcd_le_right _ hSP) hg
  have p2 : 0 < sqNR z n / Nat.gcd (sqNR z n) (S * S) := Nat.div_pos (Nat.gcd_le_left _ hT) hg
  have p3 : sqNR z n / Nat.gcd (sqNR z n) (S * S) ≤ S * S / Nat.gcd (sqNR z n) (S * S) := Nat.div_le_div_right hT1
  have p4 : S * S / Nat.gcd (sqNR z n) (S * S) ≤ S * S := Nat.div_le_self _ _
  obtain ⟨W0, hW0⟩ : ∃ W0, W0 = w.alloc (.cells #[.int .i64 0, .slice none 0 0] 27) := ⟨_, rfl⟩
  have hb0 : Below w.heap.size w W0 := by rw [hW0]; exact (Below.refl _ _).alloc (Nat.le_refl _) _
  have c0 : W0.cell? ⟨w.heap.size, 0, none⟩ = some (.int .i64 0) := by rw [hW0]; simp
  have c1 : W0.cell? ⟨w.heap.size, 1, none⟩ = some (.slice none 0 0) := by rw [hW0]; simp
  have f0 : W0.frozen? ⟨w.heap.size, 0, none⟩ = false := by rw [hW0]; simp
  have f1 : W0.frozen? ⟨w.heap.size, 1, none⟩ = false := by rw [hW0]; simp
  have HC : Hid (∀ W, Below W0.heap.size W0 W → (W.cell? ⟨w.heap.size, 0, none⟩ = some (.int .i64 0) ∧ W.cell? ⟨w.heap.size, 1, none⟩ = some (.slice none 0 0)) ∧ W.frozen? ⟨w.heap.size, 0, none⟩ = false ∧ W.frozen? ⟨w.heap.size, 1, none⟩ = false) := fun W hb => ⟨⟨by rw [hb.cell (cell_lt c0)]; exact c0, by rw [hb.cell (cell_lt c1)]; exact c1⟩, by rw [hb.frozen (show w.heap.size < W0.heap.size from cell_lt c0)]; exact f0, by rw [hb.frozen (show w.heap.size < W0.heap.size from cell_lt c0)]; exact f1⟩
  have HEND : Hid (∀ W, Below W0.heap.size W0 W → Below w.heap.size w W) := fun W hb => hb0.trans (hb.mono hb0.size)
  have HSQ := Hid.mk' (SquaresOf_any v n S z W0 (h.later hb0) hS hw0)
  have HTD : Hid (∀ W u, LR W u (S * S) (sqNR z n : Int) → Calls Tryz.prog 31 #[u] W fun e w' => e = .returned (.tuple #[.agg #[.int .i64 ((sqNR z n / Nat.gcd (sqNR z n) (S * S) : Nat) : Int), .int .i64 ((S * S / Nat.gcd (sqNR z n) (S * S) : Nat) : Int)], .bool true]) ∧ Below W.heap.size W w') := fun W u hu => by
    have e1 : lowN (S * S) (sqNR z n : Int) = ((sqNR z n / Nat.gcd (sqNR z n) (S * S) : Nat) : Int) ∧ lowD (S * S) (sqNR z n : Int) = S * S / Nat.gcd (sqNR z n) (S * S) := by
      unfold lowN lowD lowG
      rw [Int.natAbs_natCast]
      exact ⟨rfl, rfl⟩
    unfold LR at hu
    rw [e1.1, e1.2] at hu
    exact RTold_ok u _ _ W hu (by omega) (by omega)
  obtain ⟨va, vc, rfl⟩ := h.form
  have HW0 := Hid.mk' hW0
  clear h hS hw0 hok hb0 hW0 c0 c1 f0 f1 hw hT hT1 hg hS0 hS4 hSP
  generalize S * S / Nat.gcd (sqNR z n) (S * S) = q at *
  generalize sqNR z n / Nat.gcd (sqNR z n) (S * S) = p at *
  by_cases hq : q ≤ 1000000
  · simp only [if_pos hq]
    have HOF := Hid.mk' (fun (W : World) => LogOf_any q p W p1 hq p2 (by omega))
    have hd1 : decide ((1000000 : Int) < (p : Int)) = false := decide_eq_false (by omega)
    have hd2 : decide ((1000000 : Int) < (q : Int)) = false := decide_eq_false (by omega)
    have hd3 : ¬ (1000000 : Int) < (p : Int) := by omega
    have hd4 : ¬ (1000000 : Int) < (q : Int) := by omega
    clear hq p1 p2 p3 p4 hSS
    go_enter Tryz.func13, Tryz.ntmps13
    go_upto_region 1 with fail
    rw [← HW0.out]
    go_wp2_with fail
    refine HSQ.out.mono ?_
    rintro e w2 ⟨r2, rfl, hr2, hb2⟩
    have HT2 := Hid.mk' (HTD.out w2 r2 hr2)
    have HB2 := Hid.mk' hb2
    clear hr2 hb2
    go_wp2_with fail
    refine HT2.out.mono ?_
    rintro e w5 ⟨rfl, hb5⟩
    have HB5 : Hid (Below W0.heap.size W0 (w5.alloc (.cells #[.int .i64 (p : Int), .int .i64 (q : Int)] 38))) := below_chain (below_chain HB2.out hb5) ((Below.refl _ _).alloc (Nat.le_refl _) _)
    have g0 : (w5.alloc (.cells #[.int .i64 (p : Int), .int .i64 (q : Int)] 38)).cell? ⟨w5.heap.size, 0, none⟩ = some (.int .i64 (p : Int)) := by simp
    have g1 : (w5.alloc (.cells #[.int .i64 (p : Int), .int .i64 (q : Int)] 38)).cell? ⟨w5.heap.size, 1, none⟩ = some (.int .i64 (q : Int)) := by simp
    clear hb5 HT2
    go_upto_region 2 with fail
    generalize w5.alloc (.cells #[.int .i64 (p : Int), .int .i64 (q : Int)] 38) = W5 at *
    generalize w5.heap.size = B5 at *
    go_wp2_with fail
    refine (HOF.out W5).mono ?_
    rintro e wF ⟨u, t, rfl, hu, hi, hbF⟩
    obtain ⟨ua, un, uc, rfl⟩ := (show ∃ ua un uc, u = .slice ua un uc from by rcases hu with ⟨rfl, _⟩ | ⟨g, cp, rfl, _⟩ <;> exact ⟨_, _, _, rfl⟩)
    have hcurF := below_chain HB5.out hbF
    obtain ⟨⟨d0, d1⟩, d2, d3⟩ := HC.out wF hcurF
    have HG := Hid.mk' (put_twoR (.int .i64 1) (.slice ua un uc) d0 d1)
    have HUU : Hid (ListAt ((wF.setCell ⟨w.heap.size, 0, none⟩ (.int .i64 1)).setCell ⟨w.heap.size, 1, none⟩ (.slice ua un uc)) (.slice ua un uc) t) := own_setR hu d1
    have HII := Hid.mk' hi
    have HBE : Hid (Below w.heap.size w ((wF.setCell ⟨w.heap.size, 0, none⟩ (.int .i64 1)).setCell ⟨w.heap.size, 1, none⟩ (.slice ua un uc))) := ((HEND.out wF hcurF).setCell (Nat.le_refl _) _).setCell (Nat.le_refl _) _
    obtain ⟨q0, _, _⟩ := HG.out
    clear hbF hu hi hcurF
    go_wp2_with fail
    generalize (wF.setCell ⟨w.heap.size, 0, none⟩ (.int .i64 1)).setCell ⟨w.heap.size, 1, none⟩ (.slice ua un uc) = W9 at *
    exact bodyPost_ret (v := .tuple #[.agg #[.int .i64 1, .slice ua un uc], .int .i64 0]) (by simp [results, Tryz.results13, go_sem, HG.out.2.1, HG.out.2.2]) rfl ⟨⟨_, t, rfl, HUU.out, HII.out⟩, HBE.out⟩
  · simp only [if_neg hq]
    have hd4 : (1000000 : Int) < (q : Int) := by omega
    have hd2 : decide ((1000000 : Int) < (q : Int)) = true := decide_eq_true hd4
    have hfin : ∀ (hb : Bool), decide ((1000000 : Int) < (p : Int)) = hb → Calls Tryz.prog 13 #[.slice va n vc] w fun e w' => e = .returned (.tuple #[.agg #[.int .i64 0, .slice none 0 0], .int .i64 2]) ∧ Below w.heap.size w w' := fun hb hpb => by
      clear hq p1 p2 p3 p4 hSS
      cases hb
      all_goals
        have hpx := hpb
        simp only [decide_eq_false_iff_not, decide_eq_true_eq] at hpx
        go_enter Tryz.func13, Tryz.ntmps13
        go_upto_region 1 with fail
        rw [← HW0.out]
        go_wp2_with fail
        refine HSQ.out.mono ?_
        rintro e w2 ⟨r2, rfl, hr2, hb2⟩
        have HT2 := Hid.mk' (HTD.out w2 r2 hr2)
        have HB2 := Hid.mk' hb2
        clear hr2 hb2
        go_wp2_with fail
        refine HT2.out.mono ?_
        rintro e w5 ⟨rfl, hb5⟩
        have HB5 : Hid (Below W0.heap.size W0 (w5.alloc (.cells #[.int .i64 (p : Int), .int .i64 (q : Int)] 38))) := below_chain (below_chain HB2.out hb5) ((Below.refl _ _).alloc (Nat.le_refl _) _)
        have g0 : (w5.alloc (.cells #[.int .i64 (p : Int), .int .i64 (q : Int)] 38)).cell? ⟨w5.heap.size, 0, none⟩ = some (.int .i64 (p : Int)) := by simp
        have g1 : (w5.alloc (.cells #[.int .i64 (p : Int), .int .i64 (q : Int)] 38)).cell? ⟨w5.heap.size, 1, none⟩ = some (.int .i64 (q : Int)) := by simp
        clear hb5 HT2
        go_upto_region 2 with fail
        generalize w5.alloc (.cells #[.int .i64 (p : Int), .int .i64 (q : Int)] 38) = W5 at *
        generalize w5.heap.size = B5 at *
        obtain ⟨⟨d0, d1⟩, d2, d3⟩ := HC.out W5 HB5.out
        have HG := Hid.mk' (put_twoR (.int .i64 0) (.slice none 0 0) d0 d1)
        have HBE : Hid (Below w.heap.size w ((W5.setCell ⟨w.heap.size, 0, none⟩ (.int .i64 0)).setCell ⟨w.heap.size, 1, none⟩ (.slice none 0 0))) := ((HEND.out W5 HB5.out).setCell (Nat.le_refl _) _).setCell (Nat.le_refl _) _
        obtain ⟨q0, _, _⟩ := HG.out
        go_wp2_with fail
        generalize (W5.setCell ⟨w.heap.size, 0, none⟩ (.int .i64 0)).setCell ⟨w.heap.size, 1, none⟩ (.slice none 0 0) = W9 at *
        exact bodyPost_ret (v := .tuple #[.agg #[.int .i64 0, .slice none 0 0], .int .i64 2]) (by simp [results, Tryz.results13, go_sem, HG.out.2.1, HG.out.2.2]) rfl ⟨rfl, HBE.out⟩
    exact hfin _ rfl
theorem SameLog_ownR (den : Int) (v1 v2 : Value) (n : Nat) (p c : Nat → Int) (w : World) (h1 : OwnAt w v1 n p c) (h2 : OwnAt w v2 n p c) (hn : n ≤ 1000000) :
    Calls Tryz.prog 30 #[.agg #[.int .i64 den, v1], .agg #[.int .i64 den, v2]] w fun e w' => e = .returned (.bool true) ∧ Below w.heap.size w w' := by
  rcases h1 with ⟨rfl, h0⟩ | ⟨g1, c1, rfl, t1⟩
  · rcases h2 with ⟨rfl, _⟩ | ⟨g2, c2, rfl, t2⟩
    · exact SameLog_none den none none 0 0 w
    · subst h0; exact SameLog_none den none _ 0 c2 w
  · rcases h2 with ⟨rfl, h0⟩ | ⟨g2, c2, rfl, t2⟩
    · subst h0; exact SameLog_none den _ none c1 0 w
    · exact SameLog_some den g1 0 c1 g2 0 c2 n p c w t1 t2 hn
set_option maxRecDepth 100000 in
set_option maxHeartbeats 2000000 in
theorem isLog_badR (a : Nat → Addr) (c : Nat) (d : Int) (va : Option Addr) (vn vc : Nat) (w : World) (hE : Errs w a) (hc0 : c ≠ 0) (hc : c ≤ 8) :
    Calls Tryz.prog 12 #[.agg #[.int .i64 0, .slice none 0 0], errV a c, .agg #[.int .i64 d, .slice va vn vc], .int .i64 (c : Int)] w fun e w' => e = .returned (.bool true) ∧ Below w.heap.size w w' := by
  obtain ⟨W0, hW0⟩ : ∃ W0, W0 = (w.alloc (.cells #[.int .i64 0, .slice none 0 0] 27)).alloc (.cells #[.int .i64 d, .slice va vn vc] 27) := ⟨_, rfl⟩
  have hb0 : Below w.heap.size w W0 := by rw [hW0]; exact ((Below.refl _ _).alloc (Nat.le_refl _) _).alloc (by simp) _
  have c0 : W0.cell? ⟨w.heap.size, 0, none⟩ = some (.int .i64 0) := by rw [hW0]; go_simp
  have c1 : W0.cell? ⟨w.heap.size, 1, none⟩ = some (.slice none 0 0) := by rw [hW0]; go_simp
  have HCD := Hid.mk' (coded_errV a c hc W0 (hE.below hb0))
  have hpos : (0 : Int) < (c : Int) := by omega
  have hposN : 0 < c := by omega
  have HB0 := Hid.mk' hb0
  have HW0 := Hid.mk' hW0
  generalize errV a c = ev at *
  clear hE hb0 hW0 hc0 hc
  go_enter Tryz.func12, Tryz.ntmps12
  go_upto_region 1 with fail
  rw [← HW0.out]
  go_wp2_with fail
  refine HCD.out.mono ?_
  rintro e w2 ⟨rfl, hb2⟩
  have HB2 := Hid.mk' (below_chain HB0.out hb2)
  have d0 : w2.cell? ⟨w.heap.size, 0, none⟩ = some (.int .i64 0) := by rw [hb2.cell (cell_lt c0)]; exact c0
  have d1 : w2.cell? ⟨w.heap.size, 1, none⟩ = some (.slice none 0 0) := by rw [hb2.cell (cell_lt c1)]; exact c1
  clear hb2 c0 c1 HCD
  go_wp2_with fail
  go_ret
  exact ⟨rfl, HB2.out⟩
set_option maxRecDepth 100000 in
set_option maxHeartbeats 2000000 in
theorem isLog_okR (u v : Value) (t : List (Int × Int)) (w : World) (hu : ListAt w u t) (hv : ListAt w v t) (ht : t.length ≤ 1000000) :
    Calls Tryz.prog 12 #[.agg #[.int .i64 1, u], .nilIface, .agg #[.int .i64 1, v], .int .i64 0] w fun e w' => e = .returned (.bool true) ∧ Below w.heap.size w w' := by
  obtain ⟨W0, hW0⟩ : ∃ W0, W0 = (w.alloc (.cells #[.int .i64 1, u] 27)).alloc (.cells #[.int .i64 1, v] 27) := ⟨_, rfl⟩
  have hb0 : Below w.heap.size w W0 := by rw [hW0]; exact ((Below.refl _ _).alloc (Nat.le_refl _) _).alloc (by simp) _
  have c0 : W0.cell? ⟨w.heap.size, 0, none⟩ = some (.int .i64 1) := by rw [hW0]; go_simp
  have c1 : W0.cell? ⟨w.heap.size, 1, none⟩ = some u := by rw [hW0]; go_simp
  have c2 : W0.cell? ⟨w.heap.size + 1, 0, none⟩ = some (.int .i64 1) := by rw [hW0]; go_simp
  have c3 : W0.cell? ⟨w.heap.size + 1, 1, none⟩ = some v := by rw [hW0]; go_simp
  have HSM := Hid.mk' (SameLog_ownR 1 u v t.length (pOf t) (cOf t) W0 (hu.later hb0) (hv.later hb0) ht)
  obtain ⟨ua, un, uc, rfl⟩ := (show ∃ ua un uc, u = .slice ua un uc from by rcases hu with ⟨rfl, _⟩ | ⟨g, cp, rfl, _⟩ <;> exact ⟨_, _, _, rfl⟩)
  obtain ⟨xa, xn, xc, rfl⟩ := (show ∃ ua un uc, v = .slice ua un uc from by rcases hv with ⟨rfl, _⟩ | ⟨g, cp, rfl, _⟩ <;> exact ⟨_, _, _, rfl⟩)
  have HB0 := Hid.mk' hb0
  have HW0 := Hid.mk' hW0
  clear hu hv hb0 hW0 ht
  go_enter Tryz.func12, Tryz.ntmps12
  go_upto_region 1 with fail
  rw [← HW0.out]
  go_wp2_with fail
  refine HSM.out.mono ?_
  rintro e w2 ⟨rfl, hb2⟩
  have HB2 := Hid.mk' (below_chain HB0.out hb2)
  clear hb2
  go_wp2_with fail
  go_ret
  exact ⟨rfl, HB2.out⟩
end Go.Proofs.YtklhfagcembigaaGreatDoor

/- RenyiEntropies: the law. -/
namespace Go.Proofs.YtklhfagcembigaaGreatDoor
open Go.RowKit

/-- A logarithm in a box. -/
structure LgE (w : World) (b : Nat) (d : Int) (v : Value) : Prop where
  c0 : w.cell? ⟨b, 0, none⟩ = some (.int .i64 d)
  c1 : w.cell? ⟨b, 1, none⟩ = some v
theorem LgE.later {w w' : World} {b : Nat} {d : Int} {v : Value} (h : LgE w b d v) (hb : Below w.heap.size w w') : LgE w' b d v :=
  ⟨by rw [hb.cell (cell_lt h.c0)]; exact h.c0, by rw [hb.cell (cell_lt h.c1)]; exact h.c1⟩
theorem LgE.fresh (w : World) (d : Int) (v : Value) : LgE (w.alloc (.cells #[.int .i64 d, v] 27)) w.heap.size d v := ⟨by simp, by simp⟩
theorem new_belowE (w : World) (X : Obj) : Below w.heap.size w (w.alloc X) := (Below.refl _ _).alloc (Nat.le_refl _) _
/-- What the program tells. -/
def KA (a : Nat → Addr) (q p : Nat) (w : World) (d : Int) (v ev : Value) : Prop := (q ≤ 1000000 ∧ d = 1 ∧ ev = .nilIface ∧ ∃ t, ListAt w v t ∧ IsOf q p t ∧ t.length ≤ 1000000) ∨ (¬ q ≤ 1000000 ∧ d = 0 ∧ v = .slice none 0 0 ∧ ev = errV a 2)
theorem KA.later {a : Nat → Addr} {q p : Nat} {w w' : World} {d : Int} {v ev : Value} (h : KA a q p w d v ev) (hb : Below w.heap.size w w') : KA a q p w' d v ev := by
  rcases h with ⟨h1, h2, h3, t, h4, h5⟩ | h
  · exact Or.inl ⟨h1, h2, h3, t, h4.later hb, h5⟩
  · exact Or.inr h
/-- What the document tells. -/
def KX (q p : Nat) (w : World) (d : Int) (v : Value) (f : Int) : Prop := (q ≤ 1000000 ∧ d = 1 ∧ f = 0 ∧ ∃ t, ListAt w v t ∧ IsOf q p t) ∨ (¬ q ≤ 1000000 ∧ d = 0 ∧ v = .slice none 0 0 ∧ f = 2)
theorem KX.later {q p : Nat} {w w' : World} {d f : Int} {v : Value} (h : KX q p w d v f) (hb : Below w.heap.size w w') : KX q p w' d v f := by
  rcases h with ⟨h1, h2, h3, t, h4, h5⟩ | h
  · exact Or.inl ⟨h1, h2, h3, t, h4.later hb, h5⟩
  · exact Or.inr h
theorem isLog_K {a : Nat → Addr} {q p : Nat} {w : World} {d d' f : Int} {v v' ev : Value} (hE : Errs w a) (h : KA a q p w d v ev) (h' : KX q p w d' v' f) :
    Calls Tryz.prog 12 #[.agg #[.int .i64 d, v], ev, .agg #[.int .i64 d', v'], .int .i64 f] w fun e w' => e = .returned (.bool true) ∧ Below w.heap.size w w' := by
  rcases h with ⟨h1, rfl, rfl, t, h4, h5, h6⟩ | ⟨h1, rfl, rfl, rfl⟩
  · rcases h' with ⟨g1, rfl, rfl, t', g4, g5⟩ | ⟨g1, rfl, rfl, rfl⟩
    · obtain rfl := isOf_uniq h5 g5
      exact isLog_okR v v' t w h4 g4 h6
    · exact absurd h1 g1
  · rcases h' with ⟨g1, rfl, rfl, t', g4, g5⟩ | ⟨g1, rfl, rfl, rfl⟩
    · exact absurd g1 h1
    · exact isLog_badR a 2 0 none 0 0 w hE (by decide) (by decide)
theorem ka_of {a : Nat → Addr} {p q : Nat} {e : Ending} {w' : World} (h : Tells q p e w') (hq0 : 1 ≤ q) (hq : q ≤ 1000000) (hp0 : 1 ≤ p) (hp : p ≤ 1000000) : ∃ d va vn vc ev, e = .returned (.tuple #[.agg #[.int .i64 d, .slice va vn vc], ev]) ∧ KA a q p w' d (.slice va vn vc) ev := by
  obtain ⟨u, t, rfl, hl, hi⟩ := h
  obtain ⟨va, vn, vc, rfl⟩ := (show ∃ ua un uc, u = .slice ua un uc from by rcases hl with ⟨rfl, _⟩ | ⟨g, cp, rfl, _⟩ <;> exact ⟨_, _, _, rfl⟩)
  obtain ⟨k, j, h2, h3, h4⟩ := hi.len
  have k1 : k ≤ 19 := by
    rcases Nat.lt_or_ge k 20 with h1 | h1
    · omega
    · have := Nat.pow_le_pow_right (show 0 < 2 by omega) h1; omega
  have j1 : j ≤ 19 := by
    rcases Nat.lt_or_ge j 20 with h1 | h1
    · omega
    · have := Nat.pow_le_pow_right (show 0 < 2 by omega) h1; omega
  exact ⟨1, va, vn, vc, _, rfl, Or.inl ⟨hq, rfl, rfl, t, hl, hi, by omega⟩⟩
theorem kx_of {p q : Nat} {e : Ending} {w' : World} (h : TellsD q p e w') (hq : q ≤ 1000000) : ∃ d f : Int, ∃ va vn vc, e = .returned (.tuple #[.agg #[.int .i64 d, .slice va vn vc], .int .i64 f]) ∧ KX q p w' d (.slice va vn vc) f := by
  obtain ⟨u, t, rfl, hl, hi⟩ := h
  obtain ⟨va, vn, vc, rfl⟩ := (show ∃ ua un uc, u = .slice ua un uc from by rcases hl with ⟨rfl, _⟩ | ⟨g, cp, rfl, _⟩ <;> exact ⟨_, _, _, rfl⟩)
  exact ⟨1, 0, va, vn, vc, rfl, Or.inl ⟨hq, rfl, rfl, t, hl, hi⟩⟩
set_option maxRecDepth 100000 in
set_option maxHeartbeats 4000000 in
theorem Ren_few (a : Nat → Addr) (ad : Option Addr) (n cap : Nat) (w : World) (hE : Errs w a) (hm : n ≤ maxLen) (hq : 400 < n) :
    Calls Tryz.prog 3 #[.slice ad n cap] w fun e w' => e = .returned (.bool true) ∧ Below w.heap.size w w' := by
  have HTH := Hid.mk' (dice_any a w hE)
  unfold maxLen at hm
  have hmI : (n : Int) ≤ 9223372036854775807 := by omega
  have hqd : decide ((400 : Int) < (n : Int)) = true := decide_eq_true (by omega)
  clear hE
  go_enter Tryz.func3, Tryz.ntmps3
  go_wp2_with fail
  refine HTH.out.mono ?_
  rintro e w2 ⟨rfl, hb2⟩
  have HB2 := Hid.mk' hb2
  clear hb2 HTH
  go_wp2_with fail
  go_ret
  exact ⟨rfl, HB2.out⟩
set_option maxRecDepth 100000 in
set_option maxHeartbeats 8000000 in
theorem Ren_bad (a : Nat → Addr) (ad : Option Addr) (n cap : Nat) (z : Nat → Int) (w : World) (hE : Errs w a) (h : NumsAt w (.slice ad n cap) n z) (hq : n ≤ 400) (h0 : weightsErr z n ≠ 0) :
    Calls Tryz.prog 3 #[.slice ad n cap] w fun e w' => e = .returned (.bool true) ∧ Below w.heap.size w w' := by
  have HTH := Hid.mk' (dice_any a w hE)
  have hqd : decide ((400 : Int) < (n : Int)) = false := decide_eq_false (by omega)
  have HWE := Hid.mk' (fun (W : World) (hb : Below w.heap.size w W) => WeightsError_any (.slice ad n cap) n z W (h.later hb) (by omega))
  have HIN := Hid.mk' (fun (W : World) (hb : Below w.heap.size w W) => ints_any (.slice ad n cap) n z W (h.later hb) (by omega))
  have HCO := Hid.mk' (fun (W : World) (v : Value) (hb : Below w.heap.size w W) (hv : NumsAt W v n z) => Collision_bad a v n z W (hE.below hb) hv (by omega) h0)
  have HLS := Hid.mk' (fun (W : World) (v : Value) (hb : Below w.heap.size w W) (hv : NumsAt W v n z) => Least_badR a v n z W (hE.below hb) hv (by omega) h0)
  have HSU := Hid.mk' (fun (W : World) (v : Value) (hb : Below w.heap.size w W) (hv : NumsAt W v n z) => Support_bad a v n z W (hE.below hb) hv (by omega) h0)
  have HIL := Hid.mk' (fun (W : World) (hb : Below w.heap.size w W) => isLog_badR a (weightsErr z n) 0 none 0 0 W (hE.below hb) h0 (by have := weightsErr_le z n; omega))
  have hcb : (0 : Int) < ((weightsErr z n : Nat) : Int) := by omega
  have hcn : 0 < weightsErr z n := by omega
  obtain ⟨ev, hev⟩ : ∃ ev, ev = errV a (weightsErr z n) := ⟨_, rfl⟩
  rw [← hev] at HCO HLS HSU HIL
  generalize weightsErr z n = ce at *
  clear hE h h0 hev
  go_enter Tryz.func3, Tryz.ntmps3
  go_wp2_with fail
  refine HTH.out.mono ?_
  rintro e w2 ⟨rfl, hb2⟩
  have HB1 := Hid.mk' hb2
  clear hb2 HTH
  go_wp2_with fail
  refine (HWE.out w2 HB1.out).mono ?_
  rintro e w3 ⟨rfl, hw3⟩
  rw [hw3]
  clear hw3 HWE
  go_wp2_with fail
  refine (HIN.out w2 HB1.out).mono ?_
  rintro e w3 ⟨v3, rfl, hv3, hb3⟩
  have HB3 := Hid.mk' (below_chain HB1.out hb3)
  have HD3 := Hid.mk' (HCO.out w3 v3 HB3.out hv3)
  clear hv3 hb3
  go_wp2_with fail
  refine HD3.out.mono ?_
  rintro e w4 ⟨rfl, hb4⟩
  have HB4 := Hid.mk' (below_chain (below_chain HB3.out hb4) (new_belowE w4 (.cells #[.int .i64 0, .slice none 0 0] 27)))
  have HXA := Hid.mk' (LgE.fresh w4 0 (.slice none 0 0))
  clear hb4 HD3 HB3
  go_upto_region 6 with fail
  generalize w4.alloc (.cells #[.int .i64 0, .slice none 0 0] 27) = W4 at *
  generalize w4.heap.size = B4 at *
  go_wp2_with fail
  refine (HIN.out W4 HB4.out).mono ?_
  rintro e w5 ⟨v5, rfl, hv5, hb5⟩
  have HB5 := Hid.mk' (below_chain HB4.out hb5)
  have HD5 := Hid.mk' (HLS.out w5 v5 HB5.out hv5)
  have HQ5 := Hid.mk' hb5
  clear hv5 hb5
  go_wp2_with fail
  refine HD5.out.mono ?_
  rintro e w6 ⟨rfl, hb6⟩
  have hk6 := below_chain (below_chain HQ5.out hb6) (new_belowE w6 (.cells #[.int .i64 0, .slice none 0 0] 27))
  have HB6 := Hid.mk' (below_chain HB4.out hk6)
  have HXB := Hid.mk' (LgE.fresh w6 0 (.slice none 0 0))
  have HXA := Hid.mk' (HXA.out.later hk6)
  clear hb6 hk6 HD5 HQ5 HB5 HB4
  go_upto_region 7 with fail
  generalize w6.alloc (.cells #[.int .i64 0, .slice none 0 0] 27) = W6 at *
  generalize w6.heap.size = B6 at *
  go_wp2_with fail
  refine (HIN.out W6 HB6.out).mono ?_
  rintro e w7 ⟨v7, rfl, hv7, hb7⟩
  have HB7 := Hid.mk' (below_chain HB6.out hb7)
  have HD7 := Hid.mk' (HSU.out w7 v7 HB7.out hv7)
  have HQ7 := Hid.mk' hb7
  clear hv7 hb7
  go_wp2_with fail
  refine HD7.out.mono ?_
  rintro e w8 ⟨rfl, hb8⟩
  have hk8 := below_chain (below_chain HQ7.out hb8) (new_belowE w8 (.cells #[.int .i64 0, .slice none 0 0] 27))
  have HB8 := Hid.mk' (below_chain HB6.out hk8)
  have HXC := Hid.mk' (LgE.fresh w8 0 (.slice none 0 0))
  have HXA := Hid.mk' (HXA.out.later hk8)
  have HXB := Hid.mk' (HXB.out.later hk8)
  clear hb8 hk8 HD7 HQ7 HB7 HB6
  go_upto_region 8 with fail
  generalize w8.alloc (.cells #[.int .i64 0, .slice none 0 0] 27) = W8 at *
  generalize w8.heap.size = B8 at *
  obtain ⟨x0, x1⟩ := HXA.out
  go_wp2_with fail
  refine (HIL.out W8 HB8.out).mono ?_
  rintro e w9 ⟨rfl, hb9⟩
  have HB9 := Hid.mk' (below_chain HB8.out hb9)
  have HXB := Hid.mk' (HXB.out.later hb9)
  have HXC := Hid.mk' (HXC.out.later hb9)
  clear x0 x1 hb9
  obtain ⟨x0, x1⟩ := HXB.out
  go_wp2_with fail
  refine (HIL.out w9 HB9.out).mono ?_
  rintro e wa ⟨rfl, hba⟩
  have HBa := Hid.mk' (below_chain HB9.out hba)
  have HXC := Hid.mk' (HXC.out.later hba)
  clear x0 x1 hba
  obtain ⟨x0, x1⟩ := HXC.out
  go_wp2_with fail
  refine (HIL.out wa HBa.out).mono ?_
  rintro e wb ⟨rfl, hbb⟩
  have HBb := Hid.mk' (below_chain HBa.out hbb)
  clear x0 x1 hbb
  go_wp2_with fail
  go_ret
  exact ⟨rfl, HBb.out⟩
set_option maxRecDepth 100000 in
set_option maxHeartbeats 8000000 in
theorem Ren_ok (a : Nat → Addr) (ad : Option Addr) (n cap : Nat) (z : Nat → Int) (w : World) (hE : Errs w a) (h : NumsAt w (.slice ad n cap) n z) (h0 : weightsErr z n = 0) :
    Calls Tryz.prog 3 #[.slice ad n cap] w fun e w' => e = .returned (.bool true) ∧ Below w.heap.size w w' := by
  have HTH := Hid.mk' (dice_any a w hE)
  obtain ⟨h16, hok⟩ := weightsErr_ok h0
  have hp := hok.pos
  have hl := hok.le
  obtain ⟨S, hS⟩ : ∃ S : Nat, sumN z n = (S : Int) := ⟨(sumN z n).toNat, by omega⟩
  have hqd : decide ((400 : Int) < (n : Int)) = false := decide_eq_false (by omega)
  have HWE := Hid.mk' (fun (W : World) (hb : Below w.heap.size w W) => WeightsError_any (.slice ad n cap) n z W (h.later hb) (by omega))
  rw [h0] at HWE
  have HIN := Hid.mk' (fun (W : World) (hb : Below w.heap.size w W) => ints_any (.slice ad n cap) n z W (h.later hb) (by omega))
  have HE := Hid.mk' (fun (W : World) (hb : Below w.heap.size w W) => hE.below hb)
  have hS0 : 1 ≤ S := by omega
  have hS4 : S ≤ 4096 := by omega
  have hmx := mxN_atR hok
  have hcp := cntP_pos hok.nn hp
  have hcl := cntP_le z n
  have hw := wN_sum hok.nn
  have hT := sqN_posR (z := z) (n := n) (by omega)
  have hT1 : sqNR z n ≤ S * S := by have := sqN_leR (z := z) (S := S) (n := n) (by omega); rwa [show sumA (wN z) n = S by omega] at this
  have hSP : 0 < S * S := Nat.mul_pos hS0 hS0
  have hg : 0 < Nat.gcd (sqNR z n) (S * S) := Nat.gcd_pos_of_pos_left _ hT
  have p1 : 0 < S * S / Nat.gcd (sqNR z n) (S * S) := Nat.div_pos (Nat.gcd_le_right _ hSP) hg
  have p2 : 0 < sqNR z n / Nat.gcd (sqNR z n) (S * S) := Nat.div_pos (Nat.gcd_le_left _ hT) hg
  have p3 : sqNR z n / Nat.gcd (sqNR z n) (S * S) ≤ S * S / Nat.gcd (sqNR z n) (S * S) := Nat.div_le_div_right hT1
  have HLS : Hid (∀ W v, Below w.heap.size w W → NumsAt W v n z → Calls Tryz.prog 10 #[v] W fun e w' => (∃ d va vn vc ev, e = .returned (.tuple #[.agg #[.int .i64 d, .slice va vn vc], ev]) ∧ KA a S (mxNR z n) w' d (.slice va vn vc) ev) ∧ Below W.heap.size W w') := fun W v hb hv => (Least_okR a v n S z W (hE.below hb) hv hS h0).mono fun e w' ⟨ht, hb'⟩ => ⟨ka_of ht hS0 (by omega) hmx.2.1 (by omega), hb'⟩
  have HSU : Hid (∀ W v, Below w.heap.size w W → NumsAt W v n z → Calls Tryz.prog 11 #[v] W fun e w' => (∃ d va vn vc ev, e = .returned (.tuple #[.agg #[.int .i64 d, .slice va vn vc], ev]) ∧ KA a (cntP z n) 1 w' d (.slice va vn vc) ev) ∧ Below W.heap.size W w') := fun W v hb hv => (Support_ok a v n S z W (hE.below hb) hv hS h0).mono fun e w' ⟨ht, hb'⟩ => ⟨ka_of ht hcp (by omega) (Nat.le_refl _) (by omega), hb'⟩
  have HCO : Hid (∀ W v, Below w.heap.size w W → NumsAt W v n z → Calls Tryz.prog 8 #[v] W fun e w' => (∃ d va vn vc ev, e = .returned (.tuple #[.agg #[.int .i64 d, .slice va vn vc], ev]) ∧ KA a (S * S / Nat.gcd (sqNR z n) (S * S)) (sqNR z n / Nat.gcd (sqNR z n) (S * S)) w' d (.slice va vn vc) ev) ∧ Below W.heap.size W w') := fun W v hb hv => by
    rcases Nat.lt_or_ge 1000000 (S * S / Nat.gcd (sqNR z n) (S * S)) with h1 | h1
    · exact (Collision_big a v n S z W (hE.below hb) hv hS h0 h1).mono fun e w' ⟨he, hb'⟩ => ⟨⟨0, none, 0, 0, _, he, Or.inr ⟨by omega, rfl, rfl, rfl⟩⟩, hb'⟩
    · exact (Collision_ok a v n S z W (hE.below hb) hv hS h0 h1).mono fun e w' ⟨ht, hb'⟩ => ⟨ka_of ht p1 h1 p2 (by omega), hb'⟩
  have HCX : Hid (∀ W, Below w.heap.size w W → Calls Tryz.prog 13 #[.slice ad n cap] W fun e w' => (∃ d f : Int, ∃ va vn vc, e = .returned (.tuple #[.agg #[.int .i64 d, .slice va vn vc], .int .i64 f]) ∧ KX (S * S / Nat.gcd (sqNR z n) (S * S)) (sqNR z n / Nat.gcd (sqNR z n) (S * S)) w' d (.slice va vn vc) f) ∧ Below W.heap.size W w') := fun W hb => by
    refine (CollisionOf_any _ n S z W (h.later hb) hS h0).mono ?_
    rintro e w' ⟨hif, hb'⟩
    by_cases h1 : S * S / Nat.gcd (sqNR z n) (S * S) ≤ 1000000
    · rw [if_pos h1] at hif
      exact ⟨kx_of hif h1, hb'⟩
    · rw [if_neg h1] at hif
      exact ⟨⟨0, 2, none, 0, 0, hif, Or.inr ⟨h1, rfl, rfl, rfl⟩⟩, hb'⟩
  have HLX : Hid (∀ W, Calls Tryz.prog 14 #[.agg #[.int .i64 (S : Int), .int .i64 (mxNR z n : Int)]] W fun e w' => (∃ d f : Int, ∃ va vn vc, e = .returned (.tuple #[.agg #[.int .i64 d, .slice va vn vc], .int .i64 f]) ∧ KX S (mxNR z n) w' d (.slice va vn vc) f ∧ f = 0) ∧ Below W.heap.size W w') := fun W => by
    refine (LogOf_any S (mxNR z n) W hS0 (by omega) hmx.2.1 (by omega)).mono ?_
    rintro e w' ⟨u, t, rfl, hl, hi, hb'⟩
    obtain ⟨va, vn, vc, rfl⟩ := (show ∃ ua un uc, u = .slice ua un uc from by rcases hl with ⟨rfl, _⟩ | ⟨g, cp, rfl, _⟩ <;> exact ⟨_, _, _, rfl⟩)
    exact ⟨⟨1, 0, va, vn, vc, rfl, Or.inl ⟨by omega, rfl, rfl, t, hl, hi⟩, rfl⟩, hb'⟩
  have HSX : Hid (∀ W, Calls Tryz.prog 14 #[.agg #[.int .i64 (cntP z n : Int), .int .i64 1]] W fun e w' => (∃ d f : Int, ∃ va vn vc, e = .returned (.tuple #[.agg #[.int .i64 d, .slice va vn vc], .int .i64 f]) ∧ KX (cntP z n) 1 w' d (.slice va vn vc) f ∧ f = 0) ∧ Below W.heap.size W w') := fun W => by
    refine (LogOf_any (cntP z n) 1 W hcp (by omega) (Nat.le_refl _) (by omega)).mono ?_
    rintro e w' ⟨u, t, rfl, hl, hi, hb'⟩
    obtain ⟨va, vn, vc, rfl⟩ := (show ∃ ua un uc, u = .slice ua un uc from by rcases hl with ⟨rfl, _⟩ | ⟨g, cp, rfl, _⟩ <;> exact ⟨_, _, _, rfl⟩)
    exact ⟨⟨1, 0, va, vn, vc, rfl, Or.inl ⟨by omega, rfl, rfl, t, hl, hi⟩, rfl⟩, hb'⟩
  obtain ⟨vb, vo, vcap, hve, hrow⟩ := nums_row h hok.posN
  have HRW : Hid (∀ W, Below w.heap.size w W → RowAt W vb vo n z) := fun W hb => hrow.later hb
  have HSM : Hid (∀ W, Below w.heap.size w W → Calls Tryz.prog 15 #[.slice ad n cap] W fun e w' => e = .returned (.int .i64 (S : Int)) ∧ w' = W) := fun W hb => by
    have h9 := Sum_some vb vo vcap n z W (hrow.later hb) (fun k hk => by have := hok.part hk; omega) (fun i hi => by have := hok.lt hi; omega) (by omega)
    rw [hS] at h9
    rw [hve]; exact h9
  have HMO := Hid.mk' (fun (W : World) (hb : Below w.heap.size w W) => MostOf_any (.slice ad n cap) n z W (h.later hb) hok h16)
  have HCL := Hid.mk' (fun k => cntP_le z k)
  have HCS : Hid (∀ k, cntP z (k + 1) = cntP z k + if 0 < z k then 1 else 0) := fun k => rfl
  have HC0 : Hid (cntP z 0 = 0) := rfl
  obtain ⟨rfl, rfl⟩ : ad = some ⟨vb, vo, none⟩ ∧ cap = vcap := by simpa using hve
  clear hE h hok h0 hp hl hS hS0 hS4 hmx hcp hcl hw hT hT1 hSP hg p1 p2 p3 hve hrow
  generalize S * S / Nat.gcd (sqNR z n) (S * S) = q at *
  generalize sqNR z n / Nat.gcd (sqNR z n) (S * S) = p at *
  generalize mxNR z n = mx at *
  go_enter Tryz.func3, Tryz.ntmps3
  go_wp2_with fail
  refine HTH.out.mono ?_
  rintro e w2 ⟨rfl, hb2⟩
  have HB1 := Hid.mk' hb2
  clear hb2 HTH
  go_wp2_with fail
  refine (HWE.out w2 HB1.out).mono ?_
  rintro e w3 ⟨rfl, hw3⟩
  rw [hw3]
  clear hw3 HWE
  go_wp2_with fail
  refine (HIN.out w2 HB1.out).mono ?_
  rintro e w3 ⟨v3, rfl, hv3, hb3⟩
  have HB3 := Hid.mk' (below_chain HB1.out hb3)
  have HD3 := Hid.mk' (HCO.out w3 v3 HB3.out hv3)
  clear hv3 hb3
  go_wp2_with fail
  refine HD3.out.mono ?_
  rintro e w4 ⟨⟨d4, a4, n4, c4, ev4, rfl, hka⟩, hb4⟩
  have HB4 := Hid.mk' (below_chain (below_chain HB3.out hb4) (new_belowE w4 (.cells #[.int .i64 d4, .slice a4 n4 c4] 27)))
  have HXA := Hid.mk' (LgE.fresh w4 d4 (.slice a4 n4 c4))
  have HKA := Hid.mk' (hka.later (new_belowE w4 (.cells #[.int .i64 d4, .slice a4 n4 c4] 27)))
  clear hka hb4 HD3 HB3
  go_upto_region 6 with fail
  generalize w4.alloc (.cells #[.int .i64 d4, .slice a4 n4 c4] 27) = W4 at *
  generalize w4.heap.size = B4 at *
  go_wp2_with fail
  refine (HIN.out W4 HB4.out).mono ?_
  rintro e w5 ⟨v5, rfl, hv5, hb5⟩
  have HB5 := Hid.mk' (below_chain HB4.out hb5)
  have HD5 := Hid.mk' (HLS.out w5 v5 HB5.out hv5)
  have HQ5 := Hid.mk' hb5
  clear hv5 hb5
  go_wp2_with fail
  refine HD5.out.mono ?_
  rintro e w6 ⟨⟨d6, a6, n6, c6, ev6, rfl, hkb⟩, hb6⟩
  have hk6 := below_chain (below_chain HQ5.out hb6) (new_belowE w6 (.cells #[.int .i64 d6, .slice a6 n6 c6] 27))
  have HB6 := Hid.mk' (below_chain HB4.out hk6)
  have HXB := Hid.mk' (LgE.fresh w6 d6 (.slice a6 n6 c6))
  have HKB := Hid.mk' (hkb.later (new_belowE w6 (.cells #[.int .i64 d6, .slice a6 n6 c6] 27)))
  have HXA := Hid.mk' (HXA.out.later hk6)
  have HKA := Hid.mk' (HKA.out.later hk6)
  clear hkb hb6 hk6 HD5 HQ5 HB5 HB4
  go_upto_region 7 with fail
  generalize w6.alloc (.cells #[.int .i64 d6, .slice a6 n6 c6] 27) = W6 at *
  generalize w6.heap.size = B6 at *
  go_wp2_with fail
  refine (HIN.out W6 HB6.out).mono ?_
  rintro e w7 ⟨v7, rfl, hv7, hb7⟩
  have HB7 := Hid.mk' (below_chain HB6.out hb7)
  have HD7 := Hid.mk' (HSU.out w7 v7 HB7.out hv7)
  have HQ7 := Hid.mk' hb7
  clear hv7 hb7
  go_wp2_with fail
  refine HD7.out.mono ?_
  rintro e w8 ⟨⟨d8, a8, n8, c8, ev8, rfl, hkc⟩, hb8⟩
  have hk8 := below_chain (below_chain HQ7.out hb8) (new_belowE w8 (.cells #[.int .i64 d8, .slice a8 n8 c8] 27))
  have HB8 := Hid.mk' (below_chain HB6.out hk8)
  have HXC := Hid.mk' (LgE.fresh w8 d8 (.slice a8 n8 c8))
  have HKC := Hid.mk' (hkc.later (new_belowE w8 (.cells #[.int .i64 d8, .slice a8 n8 c8] 27)))
  have HXA := Hid.mk' (HXA.out.later hk8)
  have HKA := Hid.mk' (HKA.out.later hk8)
  have HXB := Hid.mk' (HXB.out.later hk8)
  have HKB := Hid.mk' (HKB.out.later hk8)
  clear hkc hb8 hk8 HD7 HQ7 HB7 HB6
  go_upto_region 8 with fail
  generalize w8.alloc (.cells #[.int .i64 d8, .slice a8 n8 c8] 27) = W8 at *
  generalize w8.heap.size = B8 at *
  go_wp2_with fail
  -- CollisionOf
  refine (HCX.out W8 HB8.out).mono ?_
  rintro e w9 ⟨⟨d9, f9, a9, n9, c9, rfl, hxa⟩, hb9⟩
  have hk9 := below_chain hb9 (new_belowE w9 (.cells #[.int .i64 d9, .slice a9 n9 c9] 27))
  have HB9 := Hid.mk' (below_chain HB8.out hk9)
  have HXX := Hid.mk' (LgE.fresh w9 d9 (.slice a9 n9 c9))
  have HKX := Hid.mk' (hxa.later (new_belowE w9 (.cells #[.int .i64 d9, .slice a9 n9 c9] 27)))
  have HXA := Hid.mk' (HXA.out.later hk9)
  have HKA := Hid.mk' (HKA.out.later hk9)
  have HXB := Hid.mk' (HXB.out.later hk9)
  have HKB := Hid.mk' (HKB.out.later hk9)
  have HXC := Hid.mk' (HXC.out.later hk9)
  have HKC := Hid.mk' (HKC.out.later hk9)
  clear hxa hb9 hk9 HB8
  go_upto_region 11 with fail
  generalize w9.alloc (.cells #[.int .i64 d9, .slice a9 n9 c9] 27) = W9 at *
  generalize w9.heap.size = B9 at *
  go_wp2_with fail
  refine (HSM.out W9 HB9.out).mono ?_
  rintro e wa ⟨rfl, hwa⟩
  rw [hwa]
  clear hwa
  go_wp2_with fail
  refine (HMO.out W9 HB9.out).mono ?_
  rintro e wa ⟨rfl, hwa⟩
  rw [hwa]
  clear hwa
  go_wp2_with fail
  refine (HLX.out W9).mono ?_
  rintro e wa ⟨⟨da, fa, aa, na, ca, rfl, hxb, hfa⟩, hba⟩
  have hka := below_chain hba (new_belowE wa (.cells #[.int .i64 da, .slice aa na ca] 27))
  have HBa := Hid.mk' (below_chain HB9.out hka)
  have HXY := Hid.mk' (LgE.fresh wa da (.slice aa na ca))
  rw [hfa] at hxb
  have HKY := Hid.mk' (hxb.later (new_belowE wa (.cells #[.int .i64 da, .slice aa na ca] 27)))
  have HXA := Hid.mk' (HXA.out.later hka)
  have HKA := Hid.mk' (HKA.out.later hka)
  have HXB := Hid.mk' (HXB.out.later hka)
  have HKB := Hid.mk' (HKB.out.later hka)
  have HXC := Hid.mk' (HXC.out.later hka)
  have HKC := Hid.mk' (HKC.out.later hka)
  have HXX := Hid.mk' (HXX.out.later hka)
  have HKX := Hid.mk' (HKX.out.later hka)
  clear hxb hba hka HB9 hfa
  go_upto_region 12 with fail
  generalize wa.alloc (.cells #[.int .i64 da, .slice aa na ca] 27) = Wa at *
  generalize wa.heap.size = Ba at *
  go_wp2_with fail
  go_loop [15, 16] (fun s t => ∃ k : Nat, k ≤ n ∧ s = .int .i64 (cntP z k : Nat) ∧ t = .int .i64 (k : Int)) (fun _ t => n - (intOf t).toNat)
  case atStart => exact ⟨0, Nat.zero_le _, by rw [HC0.out]; rfl, rfl⟩
  case round =>
  obtain ⟨k, hk, rfl, rfl⟩ := hrel
  have hcl := HCL.out k
  rcases Nat.lt_or_ge k n with h1 | h1
  · have hkI : (k : Int) < (n : Int) := by omega
    have hk0 : (0 : Int) ≤ (k : Int) := by omega
    have hc := HRW.out Wa HBa.out k h1
    have HN := Hid.mk' (HCS.out k)
    generalize cntP z k = s at *
    generalize z k = x at *
    by_cases hx : 0 < x
    · rw [if_pos hx] at HN
      go_wp2_with fail
      exact ⟨⟨k + 1, h1, by rw [HN.out]; go_num, by go_num⟩, by simp [intOf]; omega⟩
    · rw [if_neg hx, Nat.add_zero] at HN
      go_wp2_with fail
      exact ⟨⟨k + 1, h1, by rw [HN.out, Nat.add_zero], by go_num⟩, by simp [intOf]; omega⟩
  obtain rfl : k = n := by omega
  have hkI : ¬ (k : Int) < (k : Int) := by omega
  clear HCL hcl HCS HC0 HRW
  go_wp2_with fail
  refine (HSX.out Wa).mono ?_
  rintro e wb ⟨⟨db, fb, ab, nb, cb, rfl, hxc, hfb⟩, hbb⟩
  have hkb := below_chain hbb (new_belowE wb (.cells #[.int .i64 db, .slice ab nb cb] 27))
  have HBb := Hid.mk' (below_chain HBa.out hkb)
  have HXZ := Hid.mk' (LgE.fresh wb db (.slice ab nb cb))
  rw [hfb] at hxc
  have HKZ := Hid.mk' (hxc.later (new_belowE wb (.cells #[.int .i64 db, .slice ab nb cb] 27)))
  have HXA := Hid.mk' (HXA.out.later hkb)
  have HKA := Hid.mk' (HKA.out.later hkb)
  have HXB := Hid.mk' (HXB.out.later hkb)
  have HKB := Hid.mk' (HKB.out.later hkb)
  have HXC := Hid.mk' (HXC.out.later hkb)
  have HKC := Hid.mk' (HKC.out.later hkb)
  have HXX := Hid.mk' (HXX.out.later hkb)
  have HKX := Hid.mk' (HKX.out.later hkb)
  have HXY := Hid.mk' (HXY.out.later hkb)
  have HKY := Hid.mk' (HKY.out.later hkb)
  clear hxc hbb hkb HBa hfb
  go_upto_region 19 with fail
  generalize wb.alloc (.cells #[.int .i64 db, .slice ab nb cb] 27) = Wb at *
  generalize wb.heap.size = Bb at *
  obtain ⟨x0, x1⟩ := HXA.out
  obtain ⟨y0, y1⟩ := HXX.out
  go_wp2_with fail
  refine (isLog_K (HE.out Wb HBb.out) HKA.out HKX.out).mono ?_
  rintro e wc ⟨rfl, hbc⟩
  have HBc := Hid.mk' (below_chain HBb.out hbc)
  have HQc := Hid.mk' hbc
  clear x0 x1 y0 y1 hbc
  obtain ⟨x0, x1⟩ := HXB.out.later HQc.out
  obtain ⟨y0, y1⟩ := HXY.out.later HQc.out
  go_wp2_with fail
  refine (isLog_K (HE.out wc HBc.out) (HKB.out.later HQc.out) (HKY.out.later HQc.out)).mono ?_
  rintro e wd ⟨rfl, hbd⟩
  have HBd := Hid.mk' (below_chain HBc.out hbd)
  have HQd := Hid.mk' (below_chain HQc.out hbd)
  clear x0 x1 y0 y1 hbd
  obtain ⟨x0, x1⟩ := HXC.out.later HQd.out
  obtain ⟨y0, y1⟩ := HXZ.out.later HQd.out
  go_wp2_with fail
  refine (isLog_K (HE.out wd HBd.out) (HKC.out.later HQd.out) (HKZ.out.later HQd.out)).mono ?_
  rintro e we ⟨rfl, hbe⟩
  have HBe := Hid.mk' (below_chain HBd.out hbe)
  clear x0 x1 y0 y1 hbe
  go_wp2_with fail
  go_ret
  exact ⟨rfl, HBe.out⟩
theorem RenyiEntropies_all (a : Nat → Addr) (ad : Option Addr) (n cap : Nat) (z : Nat → Int) (w : World) (hE : Errs w a) (h : NumsAt w (.slice ad n cap) n z) (hm : n ≤ maxLen) :
    Calls Tryz.prog 3 #[.slice ad n cap] w fun e w' => e = .returned (.bool true) ∧ Below w.heap.size w w' := by
  by_cases hq : 400 < n
  · exact Ren_few a ad n cap w hE hm hq
  · by_cases h0 : weightsErr z n = 0
    · exact Ren_ok a ad n cap z w hE h h0
    · exact Ren_bad a ad n cap z w hE h (by omega) h0
end Go.Proofs.YtklhfagcembigaaGreatDoor

/- What the rows' condition on package variables gives a walk: eight different sentinels with their texts, and the handle of the type error. -/
namespace Go.Proofs.YtklhfagcembigaaGreatDoor
open Go.ChangeShapes Go.WideShapes Go.RowKit

theorem Tryz.own : ownKnob Tryz.prog.godebug = none := by kernel_rfl
theorem Tryz.et : Tryz.prog.globalNamed "errors.errorType" = some 8 := by kernel_rfl
theorem Tryz.rt : (Tryz.prog.cutTypes.find? (·.1 == "internal/reflectlite.rtype")).map (·.2) = some 159 := by kernel_rfl
theorem Tryz.oneRow : ((List.range 215).filter fun t => Tryz.prog.rowNamed t [101, 114, 114, 111, 114]) = [29] := by kernel_rfl
theorem Tryz.size : Tryz.prog.types.size = 215 := by kernel_rfl
theorem Tryz.star : ("*" ++ "errors.errorString" : String) = "*errors.errorString" := by decide
theorem Tryz.rowE (u : TypeId) (h : Tryz.prog.typeName? 3 u = some "*errors.errorString") : u = 183 :=
  typeName_ptr_named (nm := "errors.errorString") (by rw [Tryz.star]; kernel_rfl) (by kernel_rfl) (by decide) u (by rw [Tryz.star]; exact h)
theorem Tryz.cellsE : Tryz.prog.cellsOf 203 = 1 := by kernel_rfl
theorem Tryz.cellsS : Tryz.prog.cellsOf 9 = 1 := by kernel_rfl
theorem Tryz.g0 : Tryz.prog.globalNamed "demon/api.ErrText" = some 2 := by kernel_rfl
theorem Tryz.g1 : Tryz.prog.globalNamed "demon/api.ErrBound" = some 0 := by kernel_rfl
theorem Tryz.g2 : Tryz.prog.globalNamed "demon/api.ErrShape" = some 1 := by kernel_rfl
theorem Tryz.g3 : Tryz.prog.globalNamed "demon/api.ErrZero" = some 3 := by kernel_rfl
theorem Tryz.g4 : Tryz.prog.globalNamed "demon/api.ErrName" = some 4 := by kernel_rfl
theorem Tryz.g5 : Tryz.prog.globalNamed "demon/api.ErrNone" = some 5 := by kernel_rfl
theorem Tryz.g6 : Tryz.prog.globalNamed "demon/api.ErrOrder" = some 6 := by kernel_rfl
theorem Tryz.g7 : Tryz.prog.globalNamed "demon/api.ErrKind" = some 7 := by kernel_rfl

/-- Any number of listed sentinels of one type: each one's pointer, text and row; no two are one. -/
theorem laid_list {P : Program} {W : World} {nm : String} {ti tp te ts : TypeId} {ms : Array (String × TypeId)} {f : Field}
    (hi : P.underlying ti = some (.interface ms)) (hrow : ∀ u, P.typeName? 3 u = some nm → u = tp)
    (hp : P.underlying tp = some (.pointer te)) (he : P.underlying te = some (.struct #[f])) (hft : f.type = ts) (hfo : f.offset = 0) (hs : P.underlying ts = some .string) (hc : P.cellsOf te = 1) (hcs : P.cellsOf ts = 1) :
    ∀ (L : List (String × List UInt8)) (ps : List MemPlace), (∀ x, x ∈ L → ∃ g, P.globalNamed x.1 = some g ∧ (P.globals[g]?).map (·.type) = some ti) →
      DataW.LaidVars P W (L.map fun x => (x.1, .iface nm (.ptr (.agg [.lit (.string x.2)])))) ps → ps.Nodup →
      (∀ b off, MemPlace.cell b off ∈ ps → (∃ c t, W.heap[b]? = some (.cells c t (0, 0))) ∧ ∀ u v, W.cell? ⟨b, off, none⟩ = some (.iface u v) → Value.okWide P W .any 0 u v) →
      ∃ a : Nat → Addr, (∀ i x, L[i]? = some x → W.var? P x.1 = some #[.iface tp (.pointer (some (a i)))] ∧ (∃ s, W.cell? (a i) = some (.string s) ∧ s.data.toList = x.2) ∧
          (∃ c t, W.heap[(a i).block]? = some (.cells c t (0, 0))) ∧ MemPlace.cell (a i).block (a i).off ∈ ps) ∧
        ∀ i j, i < L.length → j < L.length → i ≠ j → a i ≠ a j := by
  intro L
  induction L with
  | nil => intro ps _ _ _ _; exact ⟨fun _ => default, fun i x h => by simp at h, fun i j h => by simp at h⟩
  | cons x r ih =>
    intro ps hgs hv hnd hrows
    obtain ⟨n, text⟩ := x
    obtain ⟨g0, t0, cs0, f0, p0, q0, hg0, ht0, hv0, hd0, hvr, e0⟩ := hv
    obtain ⟨g, hg, ht⟩ := hgs (n, text) (List.mem_cons_self ..)
    obtain rfl := Option.some.inj (hg.symm.trans hg0)
    obtain rfl := Option.some.inj (ht.symm.trans ht0)
    subst e0
    obtain ⟨l0⟩ := cs0
    have ok0 : ∀ u v, l0 = [.iface u v] → Value.okWide P W .any 0 u v := fun u v e => by
      subst e
      exact (hrows g 0 (by simp [MemPlace.row])).2 u v (by simpa using World.var?_cell hg0 hv0 0)
    obtain ⟨a0, s0, rfl, hc0, hs0, hz0, rfl⟩ := errorString_of_trod hi hrow hp he hft hfo hs hc hcs hd0 ok0
    obtain ⟨c0, tt0, hb0⟩ := (hrows a0.block a0.off (by simp [MemPlace.row])).1
    have hnq : q0.Nodup := List.Nodup.sublist (List.sublist_append_right _ _) hnd
    obtain ⟨a', ha', hne'⟩ := ih q0 (fun x hx => hgs x (List.mem_cons_of_mem _ hx)) hvr hnq (fun b off hm => hrows b off (List.mem_append_right _ hm))
    have hnot : MemPlace.cell a0.block a0.off ∉ q0 := by
      intro hm
      have := (List.nodup_append.1 hnd).2.2
      exact this (.cell a0.block a0.off) (by simp [MemPlace.row]) (.cell a0.block a0.off) hm rfl
    refine ⟨fun i => match i with | 0 => a0 | k + 1 => a' k, ?_, ?_⟩
    · intro i x hx
      cases i with
      | zero =>
        simp only [List.getElem?_cons_zero, Option.some.injEq] at hx
        subst hx
        exact ⟨hv0, ⟨s0, hc0, hs0⟩, ⟨c0, tt0, hb0⟩, by simp [MemPlace.row]⟩
      | succ k =>
        simp only [List.getElem?_cons_succ] at hx
        obtain ⟨h1, h2, h3, h4⟩ := ha' k x hx
        exact ⟨h1, h2, h3, List.mem_append_right _ h4⟩
    · have far : ∀ k, k < r.length → a0 ≠ a' k := fun k hk e => by
        obtain ⟨_, _, _, h4⟩ := ha' k r[k] (by simp [hk])
        rw [← e] at h4
        exact hnot h4
      intro i j hi' hj' hij
      cases i with
      | zero =>
        cases j with
        | zero => exact absurd rfl hij
        | succ k => exact far k (by simpa using hj')
      | succ m =>
        cases j with
        | zero => exact (far m (by simpa using hi')).symm
        | succ k => exact hne' m k (by simpa using hi') (by simpa using hj') (by omega)

/-- The names and texts, in the rows' order. -/
def eightNames : List (String × List UInt8) := [("demon/api.ErrText", [100, 101, 109, 111, 110, 58, 32, 116, 101, 120, 116]), ("demon/api.ErrBound", [100, 101, 109, 111, 110, 58, 32, 98, 111, 117, 110, 100]), ("demon/api.ErrShape", [100, 101, 109, 111, 110, 58, 32, 115, 104, 97, 112, 101]), ("demon/api.ErrZero", [100, 101, 109, 111, 110, 58, 32, 122, 101, 114, 111]), ("demon/api.ErrName", [100, 101, 109, 111, 110, 58, 32, 110, 97, 109, 101]), ("demon/api.ErrNone", [100, 101, 109, 111, 110, 58, 32, 110, 111, 110, 101]), ("demon/api.ErrOrder", [100, 101, 109, 111, 110, 58, 32, 111, 114, 100, 101, 114]), ("demon/api.ErrKind", [100, 101, 109, 111, 110, 58, 32, 107, 105, 110, 100])]
def laidAll : List (String × DataW Unit) := [("errors.errorType", Rows.laid_errors_errorType), ("demon/api.ErrText", Rows.laid_demon_api_ErrText), ("demon/api.ErrBound", Rows.laid_demon_api_ErrBound), ("demon/api.ErrShape", Rows.laid_demon_api_ErrShape), ("demon/api.ErrZero", Rows.laid_demon_api_ErrZero), ("demon/api.ErrName", Rows.laid_demon_api_ErrName), ("demon/api.ErrNone", Rows.laid_demon_api_ErrNone), ("demon/api.ErrOrder", Rows.laid_demon_api_ErrOrder), ("demon/api.ErrKind", Rows.laid_demon_api_ErrKind)]
theorem laidAll_parts (W : World) : laidMetH Tryz.prog laidAll W = (laidMet Tryz.prog (eightNames.map fun x => (x.1, .iface "*errors.errorString" (.ptr (.agg [.lit (.string x.2)])))) W ∧ handlesMet Tryz.prog [("errors.errorType", Rows.laid_errors_errorType)] W) := by kernel_rfl

theorem var_at {W : World} {n : String} {g : Nat} {v : Value} (hg : Tryz.prog.globalNamed n = some g) (h : W.var? Tryz.prog n = some #[v]) : W.cell? ⟨g, 0, none⟩ = some v := by
  simpa using World.var?_cell hg h 0

theorem errs_of_laid {W : World} (h : laidMetH Tryz.prog laidAll W) : ∃ a : Nat → Addr, Errs W a ∧ ∀ i x, eightNames[i]? = some x → ∃ s, W.cell? (a i) = some (.string s) ∧ s.data.toList = x.2 := by
  rw [laidAll_parts] at h
  obtain ⟨⟨ps, hv, hnd, hrows⟩, hh⟩ := h
  obtain ⟨name, u, ty, e1, e2, e3, e4, e5⟩ := hh _ (List.mem_singleton.2 rfl)
  have en : name = [101, 114, 114, 111, 114] := (Option.some.inj e1).symm
  subst en
  obtain rfl := Option.some.inj (Tryz.rt.symm.trans e2)
  have hm : ty ∈ (List.range 215).filter fun t => Tryz.prog.rowNamed t [101, 114, 114, 111, 114] := List.mem_filter.2 ⟨List.mem_range.2 (by rw [← Tryz.size]; exact e3), e4⟩
  rw [Tryz.oneRow] at hm
  obtain rfl := List.mem_singleton.1 hm
  have hth : typeHandle Tryz.prog 29 = .pointer (some ⟨9, 29, none⟩) := by kernel_rfl
  rw [hth] at e5
  obtain ⟨a, ha, hne⟩ := laid_list Tryz.underlying29 Tryz.rowE Tryz.underlying183 Tryz.underlying203 rfl rfl Tryz.underlying9 Tryz.cellsE Tryz.cellsS eightNames ps
    (fun x hx => by
      simp only [eightNames, List.mem_cons, List.not_mem_nil, or_false] at hx
      rcases hx with rfl | rfl | rfl | rfl | rfl | rfl | rfl | rfl
      · exact ⟨_, Tryz.g0, by kernel_rfl⟩
      · exact ⟨_, Tryz.g1, by kernel_rfl⟩
      · exact ⟨_, Tryz.g2, by kernel_rfl⟩
      · exact ⟨_, Tryz.g3, by kernel_rfl⟩
      · exact ⟨_, Tryz.g4, by kernel_rfl⟩
      · exact ⟨_, Tryz.g5, by kernel_rfl⟩
      · exact ⟨_, Tryz.g6, by kernel_rfl⟩
      · exact ⟨_, Tryz.g7, by kernel_rfl⟩) hv hnd hrows
  refine ⟨a, ⟨var_at Tryz.g0 (ha 0 _ rfl).1, var_at Tryz.g1 (ha 1 _ rfl).1, var_at Tryz.g2 (ha 2 _ rfl).1, var_at Tryz.g3 (ha 3 _ rfl).1, var_at Tryz.g4 (ha 4 _ rfl).1, var_at Tryz.g5 (ha 5 _ rfl).1, var_at Tryz.g6 (ha 6 _ rfl).1, var_at Tryz.g7 (ha 7 _ rfl).1, var_at Tryz.et e5, ?_, ?_⟩, fun i x hx => (ha i x hx).2.1⟩
  · intro i hi
    have hl : eightNames.length = 8 := rfl
    exact (ha i eightNames[i] (List.getElem?_eq_getElem (by omega))).2.2.1
  · intro i j hi hj hij
    exact hne i j hi hj hij

/-- The door's own heap meets the condition. -/
theorem door_met (os : Os) (args : Array Value) : laidMetH Tryz.prog laidAll ((World.doorLaid Tryz.prog 168 os).forCall (fun _ _ => 0) ⟨#[], args, []⟩).memory :=
  laidMetH_of_parts3 (fuel := 8) (laidMet_of_run' 8 (by kernel_rfl) (by kernel_rfl)) (by kernel_rfl) (by kernel_rfl)
end Go.Proofs.YtklhfagcembigaaGreatDoor

/- A parameter of type []int opened. -/
namespace Go.Proofs.YtklhfagcembigaaGreatDoor
open Go.ChangeShapes Go.WideShapes Go.ChangeAt Go.RowKit Go.Joins Go.Deep

theorem Tryz.laidOut : laidOutB Tryz.prog = true := by kernel_rfl
theorem Tryz.cellsInt : Tryz.prog.cellsOf 3 = 1 := by kernel_rfl
theorem Tryz.cellsInts : Tryz.prog.cellsOf 22 = 1 := by kernel_rfl

set_option maxRecDepth 100000 in
/-- What a parameter of type []int gives: its slice, its numbers. -/
theorem open_nums {H : Type} {enc : TypeId × Value → H} {W : World} {base : Nat} {v : Value} {d : DataW H} {p : List MemPlace} (hv : Value.okWide Tryz.prog W .any base 22 v)
    (h : DataW.Trod enc Tryz.prog W 0 (fun _ => true) true 22 v d p) :
    ∃ (ad : Option Addr) (n cap : Nat) (z : Nat → Int), v = .slice ad n cap ∧ n ≤ maxLen ∧ NumsAt W (.slice ad n cap) n z := by
  obtain ⟨ad, n, cap, rfl⟩ := okWide_slice Tryz.underlying22 hv
  obtain ⟨fuel, hf⟩ := h
  rcases open_ints Tryz.underlying22 Tryz.underlying3 Tryz.cellsInt hf with ⟨hc, _⟩ | ⟨a, len, cap', zs, hc, _, hl, hm, hz, _, hcell, _⟩
  · simp [Value.cells] at hc
    obtain ⟨rfl, rfl, rfl⟩ := hc
    exact ⟨none, 0, 0, fun _ => 0, rfl, Nat.zero_le _, Or.inl ⟨none, 0, rfl, rfl⟩⟩
  · simp [Value.cells] at hc
    obtain ⟨rfl, rfl, rfl⟩ := hc
    simp only [if_true] at hz
    rcases Nat.eq_zero_or_pos n with rfl | hpos
    · exact ⟨some a, 0, cap, fun _ => 0, rfl, Nat.zero_le _, Or.inl ⟨some a, cap, rfl, rfl⟩⟩
    · obtain ⟨b, o, spot⟩ := a
      have hspot : spot = none := by simpa [Addr.add] using World.cell?_spot (hcell 0 (by omega))
      subst hspot
      refine ⟨_, n, cap, fun i => zs.getD i 0, rfl, by omega, Or.inr ⟨b, o, cap, rfl, hpos, fun i hi => ?_⟩⟩
      have := hcell i (by omega)
      rw [Go.Proofs.YtklhfagcembigaaGreatDoor.add_plain] at this
      exact this
end Go.Proofs.YtklhfagcembigaaGreatDoor
