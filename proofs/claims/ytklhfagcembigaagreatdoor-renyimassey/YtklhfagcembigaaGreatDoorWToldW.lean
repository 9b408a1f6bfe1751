/- (*Wide).Told, walked. -/
import Derived.Test.YtklhfagcembigaaGreatDoorWTold
import Derived.Deep.RegionLaw
namespace Go.Proofs.YtklhfagcembigaaGreatDoor
open Go.RowKit

theorem nat_not_neg (n : Nat) : ¬ ((n : Int) < 0) := by omega

set_option maxRecDepth 100000 in
set_option maxHeartbeats 4000000 in
theorem WTold_any (base M B : Nat) (adp adc : Option Addr) (capp capc : Nat) (L : List Ent) (k0 G : Nat) (fits : Bool) (w : World) (hW : WideAt base M w B (.slice adp L.length capp) (.slice adc L.length capc) L) (hM : 0 < M) (hlen : L.length ≤ 100000) (hbL : ∀ e ∈ L, e.z.natAbs < 1000000 ^ k0) (hbM : M < 1000000 ^ k0) (hk0 : k0 ≤ 1000) (hk1 : 3 ≤ k0) (hG : gList M (zsOf L) = G) (hfit : fits = true ↔ FitsW M G L) :
    Calls Tryz.prog 35 #[.pointer (some ⟨B, 0, none⟩)] w fun e w' => ((fits = true ∧ ∃ v, e = .returned (.tuple #[.agg #[.int .i64 ((M / G : Nat) : Int), v], .int .i64 0]) ∧ w'.ownsRow w.heap.size 90 2 v (overL G (absL L)).length (flat (overL G (absL L)))) ∨ (fits = false ∧ e = .returned (.tuple #[.agg #[.int .i64 0, .slice none 0 0], .int .i64 2]))) ∧ Below w.heap.size w w' := by
  have hb0 : Below w.heap.size w (w.alloc (.cells #[.int .i64 0, .slice none 0 0] 27)) := new_below _ _
  have HWA : Hid (∀ W, Below (w.alloc (.cells #[.int .i64 0, .slice none 0 0] 27)).heap.size (w.alloc (.cells #[.int .i64 0, .slice none 0 0] 27)) W → WideAt base M W B (.slice adp L.length capp) (.slice adc L.length capc) L ∧ W.cell? ⟨w.heap.size, 0, none⟩ = some (.int .i64 0) ∧ W.cell? ⟨w.heap.size, 1, none⟩ = some (.slice none 0 0) ∧ W.frozen? ⟨w.heap.size, 0, none⟩ = false ∧ W.frozen? ⟨w.heap.size, 1, none⟩ = false ∧ Below w.heap.size w W) := fun W hb => by
    obtain ⟨q0, q1, q2, q3⟩ := res_past hb
    exact ⟨(hW.later hb0).later hb, q0, q1, q2, q3, below_chain hb0 hb⟩
  obtain ⟨W0, hW0⟩ : ∃ W0, W0 = w.alloc (.cells #[.int .i64 0, .slice none 0 0] 27) := ⟨_, rfl⟩
  have HSZ : Hid (W0.heap.size = w.heap.size + 1) := by show _ = _; rw [hW0]; simp
  have hone := BigOf_any 1 W0 (by omega)
  rw [← hW0] at HWA
  have HW0 := Hid.mk' hW0
  have HBL := Hid.mk' hbL
  have HG := Hid.mk' hG
  have HFIT := Hid.mk' hfit
  clear hb0 hW hbL hW0 hG hfit
  have hp6 : 1000000 < 1000000 ^ k0 := by
    have h1 : (1000000 : Nat) ^ 3 ≤ 1000000 ^ k0 := Nat.pow_le_pow_right (by decide) hk1
    omega
  have hp40 : 1099511627776 < 1000000 ^ k0 := by
    have h1 : (1000000 : Nat) ^ 3 ≤ 1000000 ^ k0 := Nat.pow_le_pow_right (by decide) hk1
    omega
  go_enter Tryz.func35, Tryz.ntmps35
  go_wp2_with fail
  rw [← HW0.out]
  refine hone.mono ?_
  clear hone
  rintro e w1 ⟨v1, rfl, hv1, hb1⟩
  have HV1 := Hid.mk' hv1
  have HB1 := Hid.mk' hb1
  clear hv1 hb1
  go_wp2_with fail
  go_loopw [4, 5] (fun t i wr => ∃ k : Nat, k ≤ L.length ∧ i = .int .i64 k ∧ Hid (BigAt wr t (M / gT M L k)) ∧ Hid (Below W0.heap.size W0 wr)) (fun _ i _ => L.length - (intOf i).toNat)
  case atStart => exact ⟨0, by omega, rfl, by show BigAt _ _ _; rw [show M / gT M L 0 = 1 from Nat.div_self hM]; exact HV1.out, HB1⟩
  case round =>
    clear HV1 HB1
    obtain ⟨k, hk, rfl, HD, HB⟩ := hrel
    obtain ⟨hWr, _⟩ := HWA.out wr HB.out
    have cc := hWr.cc
    have hk0 : (0 : Int) ≤ (k : Int) := by omega
    by_cases hlt : k < L.length
    · have hkI : (k : Int) < (L.length : Int) := by omega
      obtain ⟨f, hf⟩ : ∃ f, L[k]? = some f := ⟨_, List.getElem?_eq_getElem hlt⟩
      have hmem : f ∈ L := List.mem_of_getElem? hf
      obtain ⟨gp, gc, rfl, rfl, _, _, _, c2⟩ := hWr.cells hf
      obtain ⟨u, q, he, _, hq⟩ := hWr.R f hmem
      have hfq : f.q = q := by unfold Ent.val at he; injection he with he; injection he with he; injection he with _ he; injection he with _ he; injection he
      obtain ⟨qa, ql, qc, hqs, _⟩ := hq.len
      rw [hqs] at hq hfq
      rw [hfq] at c2
      have hld := lowD_pos hM f.z
      have hldk : lowD M f.z < 1000000 ^ k0 := Nat.lt_of_le_of_lt (lowD_le _ _) hbM
      have hgcd := BigGcd_any u4 (.slice qa ql qc) _ _ k0 wr HD.out hq (den_lt hbM L k) hldk (by omega)
      have HQ := Hid.mk' hq
      have HNX := Hid.mk' (den_next hM hf)
      have hgl : Nat.gcd (M / gT M L k) (lowD M f.z) ≤ lowD M f.z := Nat.gcd_le_right _ hld
      have hgp : 0 < Nat.gcd (M / gT M L k) (lowD M f.z) := Nat.gcd_pos_of_pos_right _ hld
      have hk1' : 1000000 ^ k0 < 1000000 ^ (k0 + 1) := Nat.pow_lt_pow_right (by decide) (by omega)
      have HPT : Hid (∀ (v : Value) (W : World), BigAt W (.slice qa ql qc) (lowD M f.z) → BigAt W v (Nat.gcd (M / gT M L k) (lowD M f.z)) → Calls Tryz.prog 66 #[.slice qa ql qc, v] W fun e w' => ∃ q r, e = .returned (.tuple #[q, r]) ∧ BigAt w' q (lowD M f.z / Nat.gcd (M / gT M L k) (lowD M f.z)) ∧ BigAt w' r (lowD M f.z % Nat.gcd (M / gT M L k) (lowD M f.z)) ∧ Below W.heap.size W w') := fun v W h1 h2 => BigPart_any k0 (by omega) (lowD M f.z) hldk _ _ rfl hgp (by omega) _ _ W h1 h2
      have HML : Hid (M / gT M L k < 1000000 ^ k0 ∧ lowD M f.z / Nat.gcd (M / gT M L k) (lowD M f.z) < 1000000 ^ k0) := ⟨den_lt hbM L k, Nat.lt_of_le_of_lt (Nat.div_le_self _ _) hldk⟩
      have HKC : Hid (∀ W, Below wr.heap.size wr W → W.cell? ⟨B, 1, none⟩ = some (.slice (some ⟨gc, 0, none⟩) L.length capc) ∧ W.cell? ⟨gc, k * 3 + 2, none⟩ = some (.slice qa ql qc)) := fun W hb => ⟨(cell_past cc hb).2, (cell_past c2 hb).2⟩
      clear hWr he hfq hq hqs hf hmem hld hldk hgl hgp hk1'
      go_wp2_with fail
      refine hgcd.mono ?_
      clear hgcd
      rintro e w2 ⟨r2, rfl, hr2, hb2⟩
      obtain ⟨cc2, c22⟩ := HKC.out w2 hb2
      have hpt := HPT.out r2 w2 (HQ.out.later hb2) hr2
      have HB2 := Hid.mk' hb2
      clear cc c2 hr2 hb2
      go_wp2_with fail
      refine hpt.mono ?_
      clear hpt
      rintro e w3 ⟨q3, r3, rfl, hq3, hr3, hb3⟩
      have hmul := BigMul_any u4 q3 _ _ k0 w3 (HD.out.later (below_chain HB2.out hb3)) hq3 HML.out.1 HML.out.2 (by omega)
      have HB3 := Hid.mk' (below_chain HB2.out hb3)
      clear hq3 hr3 hb3 cc2 c22
      go_wp2_with fail
      refine hmul.mono ?_
      clear hmul
      rintro e w4 ⟨v4, rfl, hv4, hb4⟩
      rw [HNX.out] at hv4
      go_wp2_with fail
      exact ⟨⟨k + 1, by omega, by go_num, hv4, below_chain (below_chain HB.out HB3.out) hb4⟩, by simp [intOf]; omega⟩
    · obtain rfl : k = L.length := by omega
      have hD := HD.out
      rw [gT_all, HG.out] at hD
      have HD2 := Hid.mk' hD
      have hGM : G ∣ M := by rw [← HG.out]; exact gList_dvd_base _ _
      have HGZ : Hid (∀ e ∈ L, G ∣ e.z.natAbs) := fun e he => by rw [← HG.out]; exact (gList_dvd (zsOf L) M).2 _ (List.mem_map.2 ⟨e, he, rfl⟩)
      have hdl : M / G < 1000000 ^ k0 := Nat.lt_of_le_of_lt (Nat.div_le_self _ _) hbM
      have hmil := BigOf_any 1000000 wr (by omega)
      have HGM := Hid.mk' hGM
      clear hWr HD hD hGM hk hlt
      go_wp2_with fail
      refine hmil.mono ?_
      clear hmil
      rintro e w2 ⟨v2, rfl, hv2, hb2⟩
      have hcmp := BigCmp_any u4 v2 _ _ k0 w2 (HD2.out.later hb2) hv2 hdl hp6 (by omega)
      have HB2 := Hid.mk' (below_chain HB.out hb2)
      have HD3 := Hid.mk' (HD2.out.later hb2)
      clear hv2 hb2 cc HD2
      by_cases hbig : 1000000 < M / G
      · rw [cmpOf_gt hbig] at hcmp
        have hff : fits = false := by
          cases fits
          · rfl
          · have := (HFIT.out.1 rfl).1; omega
        go_wp2_with fail
        refine hcmp.mono ?_
        clear hcmp
        rintro e w3 ⟨rfl, m3, hw3⟩
        obtain ⟨_, z0, z1, f0, f1, hbw⟩ := HWA.out w3 (by rw [hw3]; exact below_drewN HB2.out m3)
        clear hw3
        go_wp2_with fail
        refine bodyPost_ret (v := .tuple #[.agg #[.int .i64 0, .slice none 0 0], .int .i64 2]) (by simp [results, Tryz.results35, go_sem, z0, z1]) rfl ⟨Or.inr ⟨hff, rfl⟩, (hbw.setCell (by simp) _).setCell (by simp) _⟩
      · obtain ⟨cm, hcm⟩ : ∃ cm, cmpOf (M / G) 1000000 = cm := ⟨_, rfl⟩
        have hcm0 : cm ≤ 0 := by
          rw [← hcm]
          rcases Nat.lt_or_ge (M / G) 1000000 with h | h
          · rw [cmpOf_lt h]; omega
          · rw [cmpOf_eq (by omega)]; omega
        rw [hcm] at hcmp
        clear hcm
        go_wp2_with fail
        refine hcmp.mono ?_
        clear hcmp
        rintro e w3 ⟨rfl, m3, hw3⟩
        have hb3 : Below w2.heap.size w2 w3 := by rw [hw3]; exact below_drewN (Below.refl _ _) m3
        clear hw3
        have hint := BigInt_any u4 (M / G) w3 (HD3.out.later hb3) (by omega)
        have HB3 := Hid.mk' (below_chain HB2.out hb3)
        have HD4 := Hid.mk' (HD3.out.later hb3)
        clear hb3 HD3 HB2
        go_wp2_with fail
        refine hint.mono ?_
        clear hint
        rintro e w4 ⟨rfl, hw4⟩
        rw [hw4]
        clear hw4
        have HS0 : Hid (InOut w3 (w3.alloc (.cells #[.int .i64 ((M / G : Nat) : Int), .slice none 0 0] 27)) ((M / G : Nat) : Int) (.slice none 0 0) 0 []) := InOut.start w3 _
        have HX40 := Hid.mk' hp40
        clear hp40 hp6 hdl
        go_wp2_with fail
        go_loopw [12] (fun i wr => ∃ (k : Nat) (sv : Value), k ≤ L.length ∧ i = .int .i64 k ∧ Hid (InOut w3 wr ((M / G : Nat) : Int) sv (overL G (absL (L.take k))).length (flat (overL G (absL (L.take k))))) ∧ Hid (∀ e ∈ L.take k, (e.z.tdiv (G : Int)).natAbs ≤ 1099511627776)) (fun i _ => L.length - (intOf i).toNat)
        case atStart => exact ⟨0, .slice none 0 0, by omega, rfl, HS0.out, (fun e he => by simp at he)⟩
        case round =>
          clear HS0 HB
          obtain ⟨k, sv, hk, rfl, HO, HLE⟩ := hrel
          have HBR := Hid.mk' (below_chain HB3.out HO.out.keep)
          obtain ⟨hWr, _⟩ := HWA.out wr HBR.out
          have cc := hWr.cc
          have hk0I : (0 : Int) ≤ (k : Int) := by omega
          by_cases hlt : k < L.length
          · have hkI : (k : Int) < (L.length : Int) := by omega
            obtain ⟨f, hf⟩ : ∃ f, L[k]? = some f := ⟨_, List.getElem?_eq_getElem hlt⟩
            have hmem : f ∈ L := List.mem_of_getElem? hf
            obtain ⟨gp, gc, rfl, rfl, e0, c0, c1, c2⟩ := hWr.cells hf
            obtain ⟨fs, fa, fl, fc, fa', fl', fc', q0, q1, q2⟩ := Ent.parts (hWr.R f hmem)
            rw [q0] at c0
            rw [q1] at c1
            rw [q2] at c2
            have hRf := hWr.R f hmem
            unfold Ent.val at hRf
            rw [q0, q1, q2] at hRf
            have HKS : Hid (∀ W, Below wr.heap.size wr W → W.cell? ⟨B, 1, none⟩ = some (.slice (some ⟨gc, 0, none⟩) L.length capc) ∧ W.cell? ⟨gc, k * 3, none⟩ = some (.bool fs) ∧ W.cell? ⟨gc, k * 3 + 1, none⟩ = some (.slice fa fl fc) ∧ W.cell? ⟨gc, k * 3 + 2, none⟩ = some (.slice fa' fl' fc')) := fun W hb => ⟨(cell_past cc hb).2, (cell_past c0 hb).2, (cell_past c1 hb).2, (cell_past c2 hb).2⟩
            have HPP : Hid (∀ W, Below wr.heap.size wr W → W.cell? ⟨B, 0, none⟩ = some (.slice (some ⟨gp, 0, none⟩) L.length capp) ∧ W.cell? ⟨gp, k, none⟩ = some (.int .i64 (f.p : Int))) := fun W hb => ⟨(cell_past hWr.cp hb).2, (cell_past e0 hb).2⟩
            have hcw := coef_whole (z := f.z) hM HGM.out (HGZ.out f hmem)
            have HTI : Hid (∀ (W : World) (ad1 ad2 : Option Addr) (l1 c1 l2 c2 : Nat), Below wr.heap.size wr W → BigAt W (.slice ad1 l1 c1) (M / G) → BigAt W (.slice ad2 l2 c2) 1 → Calls Tryz.prog 60 #[.agg #[.bool fs, .slice fa fl fc, .slice fa' fl' fc'], .agg #[.bool false, .slice ad1 l1 c1, .slice ad2 l2 c2]] W fun e w' => ∃ r, e = .returned r ∧ RatioAt w' r (f.z.tdiv (G : Int)) 1 ∧ Below W.heap.size W w') := fun W ad1 ad2 l1 c1 l2 c2 hb h1 h2 => by
              have h3 : RatioAt W (.agg #[.bool false, .slice ad1 l1 c1, .slice ad2 l2 c2]) ((M / G : Nat) : Int) 1 := ⟨_, _, by rw [decide_eq_false (nat_not_neg _)], by rw [Int.natAbs_natCast]; exact h1, h2⟩
              have h4 := Times_ratio _ _ _ _ _ _ k0 W (hRf.later hb) h3 (lowD_pos hM _) (by decide) (Nat.lt_of_le_of_lt (lowN_le hM _) (HBL.out f hmem)) (by rw [Int.natAbs_natCast]; exact Nat.lt_of_le_of_lt (Nat.div_le_self _ _) hbM) (Nat.lt_of_le_of_lt (lowD_le _ _) hbM) (Nat.one_lt_pow (by omega) (by decide)) (by omega)
              rw [hcw.1, hcw.2] at h4
              exact h4
            have HQB : Hid ((f.z.tdiv (G : Int)).natAbs < 1000000 ^ k0) := by
              show _ < _
              have h1 : (f.z.tdiv (G : Int)).natAbs ≤ f.z.natAbs := by rw [Int.natAbs_tdiv]; exact Nat.div_le_self _ _
              exact Nat.lt_of_le_of_lt h1 (HBL.out f hmem)
            have HFM : Hid (fits = true → (f.z.tdiv (G : Int)).natAbs ≤ 1099511627776) := fun h => (HFIT.out.1 h).2 f hmem
            have HOV := Hid.mk' (over_next (G := G) hf)
            have HLN : Hid ((f.z.tdiv (G : Int)).natAbs ≤ 1099511627776 → ∀ e ∈ L.take (k + 1), (e.z.tdiv (G : Int)).natAbs ≤ 1099511627776) := fun h e he => by
              have h1 : L.take (k + 1) = L.take k ++ [f] := by
                rw [List.take_succ_eq_append_getElem hlt]
                rw [List.getElem?_eq_getElem hlt] at hf
                rw [Option.some.inj hf]
              rw [h1] at he
              rcases List.mem_append.1 he with he | he
              · exact HLE.out e he
              · rw [List.mem_singleton.1 he]; exact h
            generalize f.z.tdiv (G : Int) = q at HTI HQB HFM HOV HLN
            generalize hfp : (f.p : Int) = p at HPP HOV
            have HDW : Hid (∀ W, Below wr.heap.size wr W → BigAt W u4 (M / G)) := fun W hb => HD4.out.later (below_chain HO.out.keep hb)
            have hcur0 : Below wr.heap.size wr wr := Below.refl _ _
            have hcur : Below wr.heap.size wr wr.drew := (Below.refl _ _).drew
            have hcurA : ∀ X, Below wr.heap.size wr (wr.alloc X).drew := fun X => (new_below _ _).drew
            clear hWr hmem hRf hcw q0 q1 q2 hf e0 hfp HGZ HGM HLE HBL
            go_upto_region 15 with fail
            go_cut [13] from 64 to 119 (fun s wx => ∃ Bs : Nat, s = .pointer (some ⟨Bs, 0, none⟩) ∧ Hid (RatBox wr wx Bs q))
            case first =>
              clear cc c0 c1 c2
              go_region_held3 (fun W => W.cell? ⟨B, 1, none⟩ = some (.slice (some ⟨gc, 0, none⟩) L.length capc) ∧ W.cell? ⟨gc, k * 3, none⟩ = some (.bool fs) ∧ W.cell? ⟨gc, k * 3 + 1, none⟩ = some (.slice fa fl fc) ∧ W.cell? ⟨gc, k * 3 + 2, none⟩ = some (.slice fa' fl' fc'))
                (first | exact HKS.out _ hcur0 | exact HKS.out _ hcur | exact HKS.out _ (hcurA _) | (refine HKS.out _ ?_; assumption) | (refine HKS.out _ (more_below ?_ _); assumption) | (refine HKS.out _ (below_set3 ?_ NB.hB _ _ _); assumption))
                (first
                  | (go_at_call 60; refine (HTI.out _ _ _ _ _ _ _ ?_ (HX1.out _ ?_) (HX2.out _ ?_)).mono ?_; (first | exact hbw2 | exact more_below hbw2 _); (first | exact h12 | exact more_below h12 _); (first | exact Below.refl _ _ | exact new_below _ _); rintro e w7 ⟨rv, rfl, ⟨ur, qr, rfl, hur, hqr⟩, hb7⟩; obtain ⟨ad8, l8, cap8, rfl, _⟩ := hur.len; obtain ⟨ad9, l9, cap9, rfl, _⟩ := hqr.len; (first | (have hbw7 := below_chain hbw2 hb7; try have NB := NB.later hb7) | (have hbw7 := below_chain (more_below hbw2 _) hb7; have NB := newBox3_of hbw2 hb7)); (try (have y0 := NB.c0; have y1 := NB.c1; have y2 := NB.c2; have y3 := NB.f0; have y4 := NB.f1; have y5 := NB.f2)); have HUR := Hid.mk' hur; clear hur hqr hb7)
                  | (go_at_call 56; refine (BigOf_any 1 _ (by omega)).mono ?_; rintro e w6 ⟨v6, rfl, hv6, hb6⟩; obtain ⟨ad6, l6, cap6, rfl, _⟩ := hv6.len; (first | (have hbw2 := below_chain hbw1 hb6; have h12 := below_chain (Below.refl _ w5) hb6; try have NB := NB.later hb6) | (have hbw2 := below_chain (more_below hbw1 _) hb6; have h12 := below_chain (new_below w5 _) hb6; have NB := newBox3_of hbw1 hb6)); have HX2 : Hid (∀ W, Below w6.heap.size w6 W → BigAt W (.slice ad6 l6 cap6) 1) := (fun W hb => hv6.later hb); clear hv6 hb6)
                  | (go_at_call 68; refine (wide_any u4 (M / G) _ (HDW.out _ ?_)).mono ?_; (first | exact hcur | exact hcurA _); rintro e w5 ⟨sv5, rfl, ⟨x5, rfl, hx5⟩, hb5⟩; rw [decide_eq_false (nat_not_neg (M / G))]; obtain ⟨ad5, l5, cap5, rfl, _⟩ := hx5.len; (first | have hbw1 := below_chain hcur hb5 | (have hbw1 := below_chain (hcurA _) hb5; have NB := newBox3_of hcur0 (below_chain ((Below.refl _ _).drew) hb5))); have HX1 : Hid (∀ W, Below w5.heap.size w5 W → BigAt W (.slice ad5 l5 cap5) (M / G)) := (fun W hb => by have h1 := hx5.later hb; rwa [Int.natAbs_natCast] at h1); clear hx5 hb5))
              all_goals
                go_wp2_with fail
                go_meet
                first | exact ⟨_, rfl, ratBox_late hbw7 HUR.out⟩ | exact ⟨_, rfl, ratBox_soon hbw7 HUR.out NB⟩
            case rest =>
            obtain ⟨Bs, rfl, HRB⟩ := hcut
            obtain ⟨ur, x0, x1, hu⟩ := HRB.out.box
            obtain ⟨ad, l, cap, rfl, _⟩ := hu.len
            obtain ⟨sg, hsg⟩ : ∃ sg, decide (q < 0) = sg := ⟨_, rfl⟩
            rw [hsg] at x0
            have hx1' : ∀ W, Below wc.heap.size wc W → W.cell? ⟨Bs, 0, none⟩ = some (.bool sg) ∧ W.cell? ⟨Bs, 1, none⟩ = some (.slice ad l cap) := fun W hb => ⟨(cell_past x0 hb).2, (cell_past x1 hb).2⟩
            have HX := Hid.mk' hx1'
            have HU := Hid.mk' hu
            have HSG := Hid.mk' hsg
            have hc0 : Below wc.heap.size wc wc := Below.refl _ _
            have hc1 : Below wc.heap.size wc wc.drew := (Below.refl _ _).drew
            have HBC := Hid.mk' HRB.out.below
            obtain ⟨cm2, hcm2⟩ : ∃ cm2, cmpOf q.natAbs 1099511627776 = cm2 := ⟨_, rfl⟩
            have hcmp : ∀ (v : Value) (W : World), Below wc.heap.size wc W → BigAt W v 1099511627776 → Calls Tryz.prog 57 #[.slice ad l cap, v] W fun e w' => e = .returned (.int .i64 cm2) ∧ ∃ m, w' = W.drewN m := fun v W hb hv => by
              have := BigCmp_any (.slice ad l cap) v q.natAbs 1099511627776 k0 W (hu.later hb) hv HQB.out HX40.out (by omega)
              rw [hcm2] at this
              exact this
            have HCMP := Hid.mk' hcmp
            have HCM := Hid.mk' hcm2
            clear hx1' hu hsg hcmp hcm2 x0 x1 cc c0 c1 c2
            go_upto_region 16 with fail
            go_cut [90] from 64 to 119 (fun s wx => s = .bool (decide (0 < cm2)) ∧ Hid (Below wc.heap.size wc wx))
            case first =>
              go_region_held3 (fun W => W.cell? ⟨Bs, 1, none⟩ = some (.slice ad l cap))
                (first | exact (HX.out _ hc0).2 | exact (HX.out _ hc1).2 | exact (HX.out _ hc2).2 | exact (HX.out _ hc3).2)
                (first
                  | (go_at_call 57; refine (HCMP.out _ _ hc2 HV8.out).mono ?_; rintro e w9 ⟨rfl, m9, hw9⟩; have hc3 : Below wc.heap.size wc w9 := (by rw [hw9]; exact below_drewN hc2 m9); clear hw9)
                  | (go_at_call 56; refine (BigOf_any 1099511627776 _ (by omega)).mono ?_; rintro e w8 ⟨v8, rfl, hv8, hb8⟩; have hc2 := below_chain hc1 hb8; have HV8 := Hid.mk' hv8; clear hv8 hb8))
              all_goals
                go_wp2_with fail
                go_meet
                exact ⟨rfl, hc3⟩
            case rest =>
            obtain ⟨rfl, HBX⟩ := hcut
            by_cases hle40 : q.natAbs ≤ 1099511627776
            · have hcm : decide (0 < cm2) = false := by
                rw [← HCM.out]
                rcases Nat.lt_or_ge q.natAbs 1099511627776 with h | h
                · rw [cmpOf_lt h]; decide
                · rw [cmpOf_eq (by omega)]; decide
              rw [hcm]
              clear hcm
              obtain ⟨x0, x1⟩ := HX.out wc HBX.out
              have hint := BigInt_any (.slice ad l cap) q.natAbs wc (HU.out.later HBX.out) (by omega)
              have HO2 := Hid.mk' (HO.out.later (below_chain HBC.out HBX.out))
              obtain ⟨p0, p1⟩ := HPP.out wc (below_chain HBC.out HBX.out)
              have y0 := HO2.out.o0
              have y1 := HO2.out.o1
              have yf := HO2.out.fz
              have hcn2 := take_len_le (G := G) L k
              have hsz : w3.heap.size < wc.heap.size := cell_lt HO2.out.o0
              obtain ⟨i0, hi, hz0, hz1, hz2⟩ := info_parts Tryz.infoTerm
              have HINF : Hid (Tryz.prog.info? 90 = some i0 ∧ i0.zero = some (.agg #[.int .i64 0, .int .i64 0]) ∧ i0.size = 2 ∧ i0.bytes = 16) := ⟨hi, hz0, hz1, hz2⟩
              have HLN2 := Hid.mk' (HLN.out hle40)
              have HO2d := Hid.mk' (HO2.out.later (wn := wc.drew) (Below.refl _ _).drew)
              have y1a : ∀ X, (wc.alloc X).cell? ⟨w3.heap.size, 1, none⟩ = some sv := fun X => (cell_past y1 (new_below _ X)).2
              clear hi hz0 hz1 hz2 HO HBX HX HU HLN HCM HCMP HKS HTI HFM HQB HPP HBC HRB hc0 hc1 hcur hcur0 hcurA HDW
              rcases Int.lt_trichotomy q 0 with hq | hq | hq
              · have hs := HSG.out
                rw [decide_eq_true hq] at hs
                subst hs
                obtain ⟨m, hm⟩ : ∃ m : Nat, q.natAbs = m := ⟨_, rfl⟩
                have hqm : q = -(m : Int) := by omega
                rw [hm] at hint hle40
                have hmI : (m : Int) ≤ 1099511627776 := by omega
                have hne : (-(m : Int) != 0) = true := by rw [bne_iff_ne]; omega
                have HQM := Hid.mk' hqm
                have HQ0 : Hid (¬ q = 0) := by show ¬ _; omega
                clear hqm hm hq HSG
                go_wp2_with fail
                refine hint.mono ?_
                clear hint
                rintro e w6 ⟨rfl, hw6⟩
                rw [hw6]
                clear hw6
                go_wp2_with fail
                go_region_law (first | (refine step_append_lies _ rfl _ _ _ rfl (w3.heap.size + 1) 90 i0 _ 2 16 Tryz.underlying25 HINF.out.1 HINF.out.2.1 HINF.out.2.2.1 HINF.out.2.2.2 rfl (by omega) sv _ _ rfl (by exact HO2d.out.row.alloc _) ⟨wc.heap.size, 0, none⟩ 1 1 [.int .i64 p, .int .i64 (-(m : Int))] rfl rfl (two_new _ _ _ _) (by simp [Value.oneCell']) (by omega) (by unfold maxLen; omega) (by omega) (by simp; omega) _ rfl ?_; intro g' cap' w8 hown8 hgrow8 hat8 hlt8; obtain ⟨z1, z2, HP8⟩ := HO2d.out.pushed hgrow8 hown8; have HPU := Hid.mk' HP8; clear hown8 hgrow8 hat8 HP8))
                all_goals
                go_wp2_with fail
                exact ⟨⟨k + 1, _, by omega, by go_num, by
                  show InOut _ _ _ _ _ _
                  rw [HOV.out, if_neg HQ0.out, flat_join, List.length_append, HQM.out]
                  exact HPU.out, HLN2⟩, by simp [intOf]; omega⟩
              · subst hq
                have hs := HSG.out
                rw [decide_eq_false (by decide)] at hs
                subst hs
                clear HSG
                go_wp2_with fail
                refine hint.mono ?_
                clear hint
                rintro e w6 ⟨rfl, hw6⟩
                rw [hw6]
                clear hw6
                go_wp2_with fail
                exact ⟨⟨k + 1, sv, by omega, by go_num, by
                  show InOut _ _ _ _ _ _
                  have h9 := HOV.out
                  simp only [if_true, List.append_nil] at h9
                  rw [h9]
                  exact HO2.out, HLN2⟩, by simp [intOf]; omega⟩
              · have hs := HSG.out
                rw [decide_eq_false (by omega)] at hs
                subst hs
                obtain ⟨m, hm⟩ : ∃ m : Nat, q.natAbs = m := ⟨_, rfl⟩
                have hqm : q = (m : Int) := by omega
                rw [hm] at hint hle40
                have hmI : (m : Int) ≤ 1099511627776 := by omega
                have hne : ((m : Int) != 0) = true := by rw [bne_iff_ne]; omega
                have HQM := Hid.mk' hqm
                have HQ0 : Hid (¬ q = 0) := by show ¬ _; omega
                clear hqm hm hq HSG
                go_wp2_with fail
                refine hint.mono ?_
                clear hint
                rintro e w6 ⟨rfl, hw6⟩
                rw [hw6]
                clear hw6
                go_wp2_with fail
                go_region_law (first | (refine step_append_lies _ rfl _ _ _ rfl (w3.heap.size + 1) 90 i0 _ 2 16 Tryz.underlying25 HINF.out.1 HINF.out.2.1 HINF.out.2.2.1 HINF.out.2.2.2 rfl (by omega) sv _ _ rfl (by exact HO2d.out.row.alloc _) ⟨wc.heap.size, 0, none⟩ 1 1 [.int .i64 p, .int .i64 (m : Int)] rfl rfl (two_new _ _ _ _) (by simp [Value.oneCell']) (by omega) (by unfold maxLen; omega) (by omega) (by simp; omega) _ rfl ?_; intro g' cap' w8 hown8 hgrow8 hat8 hlt8; obtain ⟨z1, z2, HP8⟩ := HO2d.out.pushed hgrow8 hown8; have HPU := Hid.mk' HP8; clear hown8 hgrow8 hat8 HP8))
                all_goals
                go_wp2_with fail
                exact ⟨⟨k + 1, _, by omega, by go_num, by
                  show InOut _ _ _ _ _ _
                  rw [HOV.out, if_neg HQ0.out, flat_join, List.length_append, HQM.out]
                  exact HPU.out, HLN2⟩, by simp [intOf]; omega⟩
            · have hcm : decide (0 < cm2) = true := by
                rw [← HCM.out, cmpOf_gt (by omega)]; decide
              rw [hcm]
              have hff : fits = false := by
                cases hx : fits
                · rfl
                · have := HFM.out hx; omega
              obtain ⟨_, z0, z1, f0, f1, hbw⟩ := HWA.out wc (below_chain HBR.out (below_chain HBC.out HBX.out))
              clear hcm
              go_wp2_with fail
              refine bodyPost_ret (v := .tuple #[.agg #[.int .i64 0, .slice none 0 0], .int .i64 2]) (by simp [results, Tryz.results35, go_sem, z0, z1]) rfl ⟨Or.inr ⟨hff, rfl⟩, (hbw.setCell (by simp) _).setCell (by simp) _⟩
          · obtain rfl : k = L.length := by omega
            obtain ⟨_, z0, z1, f0, f1, hbw⟩ := HWA.out wr HBR.out
            have hft : fits = true := HFIT.out.2 ⟨by omega, fun e he => HLE.out e (by rw [List.take_length]; exact he)⟩
            have hrow := HO.out.row
            rw [List.take_length] at hrow
            have hlt1 : w.heap.size < w3.heap.size := by have := HB3.out.size; have := HSZ.out; omega
            have y0 := HO.out.o0
            have y1 := HO.out.o1
            have HRW := Hid.mk' hrow
            have HBW := Hid.mk' hbw
            obtain ⟨ad, n', c', rfl⟩ : ∃ ad n' c', sv = .slice ad n' c' := by
              rcases hrow.2 with ⟨rfl, _⟩ | ⟨gg, cap', cur', rfl, _⟩
              · exact ⟨_, _, _, rfl⟩
              · exact ⟨_, _, _, rfl⟩
            clear hWr hrow hbw HO HLE hlt hk
            go_wp2_with fail
            refine bodyPost_ret (v := .tuple #[.agg #[.int .i64 ((M / G : Nat) : Int), .slice ad n' c'], .int .i64 0]) (by simp [results, Tryz.results35, go_sem, z0, z1]) rfl ⟨Or.inl ⟨hft, _, rfl, ?_⟩, (HBW.out.setCell (by simp) _).setCell (by simp) _⟩
            have h1 := ownsRow_setCell_below HRW.out (a := ⟨w.heap.size, 0, none⟩) (by show w.heap.size < _; omega) (.int .i64 ((M / G : Nat) : Int))
            have h2 := ownsRow_setCell_below h1 (a := ⟨w.heap.size, 1, none⟩) (by show w.heap.size < _; omega) (.slice ad n' c')
            exact row_base h2 (by omega)
end Go.Proofs.YtklhfagcembigaaGreatDoor
