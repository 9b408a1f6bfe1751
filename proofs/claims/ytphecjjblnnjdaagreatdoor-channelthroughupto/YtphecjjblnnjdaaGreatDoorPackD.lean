/- (*Wide).Told, walked. -/
import Derived.Test.YtphecjjblnnjdaaGreatDoorPackC
import Derived.Deep.RegionLaw
import Derived.Test.YtphecjjblnnjdaaGreatDoorPackB
import Derived.Test.YtphecjjblnnjdaaGreatDoorCode
import Derived.Test.YtphecjjblnnjdaaGreatDoorValidWalk
import Derived.Deep.CutRange
import Derived.Test.YtphecjjblnnjdaaGreatDoorTold
namespace Go.Proofs.YtphecjjblnnjdaaGreatDoor
open Go.RowKit

theorem nat_not_neg (n : Nat) : ¬ ((n : Int) < 0) := by omega

set_option maxRecDepth 100000 in
set_option maxHeartbeats 4000000 in
theorem WTold_any (base M B : Nat) (adp adc : Option Addr) (capp capc : Nat) (L : List Ent) (k0 G : Nat) (fits : Bool) (w : World) (hW : WideAt base M w B (.slice adp L.length capp) (.slice adc L.length capc) L) (hM : 0 < M) (hlen : L.length ≤ 100000) (hbL : ∀ e ∈ L, e.z.natAbs < 1000000 ^ k0) (hbM : M < 1000000 ^ k0) (hk0 : k0 ≤ 1000) (hk1 : 3 ≤ k0) (hG : gList M (zsOf L) = G) (hfit : fits = true ↔ FitsW M G L) :
    Calls Tryz.prog 22 #[.pointer (some ⟨B, 0, none⟩)] w fun e w' => ((fits = true ∧ ∃ v, e = .returned (.tuple #[.agg #[.int .i64 ((M / G : Nat) : Int), v], .int .i64 0]) ∧ w'.ownsRow w.heap.size 99 2 v (overL G (absL L)).length (flat (overL G (absL L)))) ∨ (fits = false ∧ e = .returned (.tuple #[.agg #[.int .i64 0, .slice none 0 0], .int .i64 2]))) ∧ Below w.heap.size w w' := by
  have hb0 : Below w.heap.size w (w.alloc (.cells #[.int .i64 0, .slice none 0 0] 30)) := new_below _ _
  have HWA : Hid (∀ W, Below (w.alloc (.cells #[.int .i64 0, .slice none 0 0] 30)).heap.size (w.alloc (.cells #[.int .i64 0, .slice none 0 0] 30)) W → WideAt base M W B (.slice adp L.length capp) (.slice adc L.length capc) L ∧ W.cell? ⟨w.heap.size, 0, none⟩ = some (.int .i64 0) ∧ W.cell? ⟨w.heap.size, 1, none⟩ = some (.slice none 0 0) ∧ W.frozen? ⟨w.heap.size, 0, none⟩ = false ∧ W.frozen? ⟨w.heap.size, 1, none⟩ = false ∧ Below w.heap.size w W) := fun W hb => by
    obtain ⟨q0, q1, q2, q3⟩ := res_past hb
    exact ⟨(hW.later hb0).later hb, q0, q1, q2, q3, below_chain hb0 hb⟩
  obtain ⟨W0, hW0⟩ : ∃ W0, W0 = w.alloc (.cells #[.int .i64 0, .slice none 0 0] 30) := ⟨_, rfl⟩
  have HSZ : Hid (W0.heap.size = w.heap.size + 1) := by show _ = _; rw [hW0]; simp
  have hone := BigOf_any 1 W0 (by omega)
  rw [← hW0] at HWA
  have HW0 := Hid.mk' hW0
  have HBL := Hid.mk' hbL
  have HG := Hid.mk' hG
  have HFIT := Hid.mk' hfit
  clear hb0 hW hbL hW0 hG hfit
  have hp6 : 1000000 < 1000000 ^ k0 := by
    have h1 : (1000000 : Nat) ^ 3 ≤ 1000000 ^ k0 := Nat.pow_le_pow_right (by decide) hk1
    omega
  have hp40 : 1099511627776 < 1000000 ^ k0 := by
    have h1 : (1000000 : Nat) ^ 3 ≤ 1000000 ^ k0 := Nat.pow_le_pow_right (by decide) hk1
    omega
  go_enter Tryz.func22, Tryz.ntmps22
  go_wp2_with fail
  rw [← HW0.out]
  refine hone.mono ?_
  clear hone
  rintro e w1 ⟨v1, rfl, hv1, hb1⟩
  have HV1 := Hid.mk' hv1
  have HB1 := Hid.mk' hb1
  clear hv1 hb1
  go_wp2_with fail
  go_loopw [4, 5] (fun t i wr => ∃ k : Nat, k ≤ L.length ∧ i = .int .i64 k ∧ Hid (BigAt wr t (M / gT M L k)) ∧ Hid (Below W0.heap.size W0 wr)) (fun _ i _ => L.length - (intOf i).toNat)
  case atStart => exact ⟨0, by omega, rfl, by show BigAt _ _ _; rw [show M / gT M L 0 = 1 from Nat.div_self hM]; exact HV1.out, HB1⟩
  case round =>
    clear HV1 HB1
    obtain ⟨k, hk, rfl, HD, HB⟩ := hrel
    obtain ⟨hWr, _⟩ := HWA.out wr HB.out
    have cc := hWr.cc
    have hk0 : (0 : Int) ≤ (k : Int) := by omega
    by_cases hlt : k < L.length
    · have hkI : (k : Int) < (L.length : Int) := by omega
      obtain ⟨f, hf⟩ : ∃ f, L[k]? = some f := ⟨_, List.getElem?_eq_getElem hlt⟩
      have hmem : f ∈ L := List.mem_of_getElem? hf
      obtain ⟨gp, gc, rfl, rfl, _, _, _, c2⟩ := hWr.cells hf
      obtain ⟨u, q, he, _, hq⟩ := hWr.R f hmem
      have hfq : f.q = q := by unfold Ent.val at he; injection he with he; injection he with he; injection he with _ he; injection he with _ he; injection he
      obtain ⟨qa, ql, qc, hqs, _⟩ := hq.len
      rw [hqs] at hq hfq
      rw [hfq] at c2
      have hld := lowD_pos hM f.z
      have hldk : lowD M f.z < 1000000 ^ k0 := Nat.lt_of_le_of_lt (lowD_le _ _) hbM
      have hgcd := BigGcd_any u4 (.slice qa ql qc) _ _ k0 wr HD.out hq (den_lt hbM L k) hldk (by omega)
      have HQ := Hid.mk' hq
      have HNX := Hid.mk' (den_next hM hf)
      have hgl : Nat.gcd (M / gT M L k) (lowD M f.z) ≤ lowD M f.z := Nat.gcd_le_right _ hld
      have hgp : 0 < Nat.gcd (M / gT M L k) (lowD M f.z) := Nat.gcd_pos_of_pos_right _ hld
      have hk1' : 1000000 ^ k0 < 1000000 ^ (k0 + 1) := Nat.pow_lt_pow_right (by decide) (by omega)
      have HPT : Hid (∀ (v : Value) (W : World), BigAt W (.slice qa ql qc) (lowD M f.z) → BigAt W v (Nat.gcd (M / gT M L k) (lowD M f.z)) → Calls Tryz.prog 59 #[.slice qa ql qc, v] W fun e w' => ∃ q r, e = .returned (.tuple #[q, r]) ∧ BigAt w' q (lowD M f.z / Nat.gcd (M / gT M L k) (lowD M f.z)) ∧ BigAt w' r (lowD M f.z % Nat.gcd (M / gT M L k) (lowD M f.z)) ∧ Below W.heap.size W w') := fun v W h1 h2 => BigPart_any k0 (by omega) (lowD M f.z) hldk _ _ rfl hgp (by omega) _ _ W h1 h2
      have HML : Hid (M / gT M L k < 1000000 ^ k0 ∧ lowD M f.z / Nat.gcd (M / gT M L k) (lowD M f.z) < 1000000 ^ k0) := ⟨den_lt hbM L k, Nat.lt_of_le_of_lt (Nat.div_le_self _ _) hldk⟩
      have HKC : Hid (∀ W, Below wr.heap.size wr W → W.cell? ⟨B, 1, none⟩ = some (.slice (some ⟨gc, 0, none⟩) L.length capc) ∧ W.cell? ⟨gc, k * 3 + 2, none⟩ = some (.slice qa ql qc)) := fun W hb => ⟨(cell_past cc hb).2, (cell_past c2 hb).2⟩
      clear hWr he hfq hq hqs hf hmem hld hldk hgl hgp hk1'
      go_wp2_with fail
      refine hgcd.mono ?_
      clear hgcd
      rintro e w2 ⟨r2, rfl, hr2, hb2⟩
      obtain ⟨cc2, c22⟩ := HKC.out w2 hb2
      have hpt := HPT.out r2 w2 (HQ.out.later hb2) hr2
      have HB2 := Hid.mk' hb2
      clear cc c2 hr2 hb2
      go_wp2_with fail
      refine hpt.mono ?_
      clear hpt
      rintro e w3 ⟨q3, r3, rfl, hq3, hr3, hb3⟩
      have hmul := BigMul_any u4 q3 _ _ k0 w3 (HD.out.later (below_chain HB2.out hb3)) hq3 HML.out.1 HML.out.2 (by omega)
      have HB3 := Hid.mk' (below_chain HB2.out hb3)
      clear hq3 hr3 hb3 cc2 c22
      go_wp2_with fail
      refine hmul.mono ?_
      clear hmul
      rintro e w4 ⟨v4, rfl, hv4, hb4⟩
      rw [HNX.out] at hv4
      go_wp2_with fail
      exact ⟨⟨k + 1, by omega, by go_num, hv4, below_chain (below_chain HB.out HB3.out) hb4⟩, by simp [intOf]; omega⟩
    · obtain rfl : k = L.length := by omega
      have hD := HD.out
      rw [gT_all, HG.out] at hD
      have HD2 := Hid.mk' hD
      have hGM : G ∣ M := by rw [← HG.out]; exact gList_dvd_base _ _
      have HGZ : Hid (∀ e ∈ L, G ∣ e.z.natAbs) := fun e he => by rw [← HG.out]; exact (gList_dvd (zsOf L) M).2 _ (List.mem_map.2 ⟨e, he, rfl⟩)
      have hdl : M / G < 1000000 ^ k0 := Nat.lt_of_le_of_lt (Nat.div_le_self _ _) hbM
      have hmil := BigOf_any 1000000 wr (by omega)
      have HGM := Hid.mk' hGM
      clear hWr HD hD hGM hk hlt
      go_wp2_with fail
      refine hmil.mono ?_
      clear hmil
      rintro e w2 ⟨v2, rfl, hv2, hb2⟩
      have hcmp := BigCmp_any u4 v2 _ _ k0 w2 (HD2.out.later hb2) hv2 hdl hp6 (by omega)
      have HB2 := Hid.mk' (below_chain HB.out hb2)
      have HD3 := Hid.mk' (HD2.out.later hb2)
      clear hv2 hb2 cc HD2
      by_cases hbig : 1000000 < M / G
      · rw [cmpOf_gt hbig] at hcmp
        have hff : fits = false := by
          cases fits
          · rfl
          · have := (HFIT.out.1 rfl).1; omega
        go_wp2_with fail
        refine hcmp.mono ?_
        clear hcmp
        rintro e w3 ⟨rfl, m3, hw3⟩
        obtain ⟨_, z0, z1, f0, f1, hbw⟩ := HWA.out w3 (by rw [hw3]; exact below_drewN HB2.out m3)
        clear hw3
        go_wp2_with fail
        refine bodyPost_ret (v := .tuple #[.agg #[.int .i64 0, .slice none 0 0], .int .i64 2]) (by simp [results, Tryz.results22, go_sem, z0, z1]) rfl ⟨Or.inr ⟨hff, rfl⟩, (hbw.setCell (by simp) _).setCell (by simp) _⟩
      · obtain ⟨cm, hcm⟩ : ∃ cm, cmpOf (M / G) 1000000 = cm := ⟨_, rfl⟩
        have hcm0 : cm ≤ 0 := by
          rw [← hcm]
          rcases Nat.lt_or_ge (M / G) 1000000 with h | h
          · rw [cmpOf_lt h]; omega
          · rw [cmpOf_eq (by omega)]; omega
        rw [hcm] at hcmp
        clear hcm
        go_wp2_with fail
        refine hcmp.mono ?_
        clear hcmp
        rintro e w3 ⟨rfl, m3, hw3⟩
        have hb3 : Below w2.heap.size w2 w3 := by rw [hw3]; exact below_drewN (Below.refl _ _) m3
        clear hw3
        have hint := BigInt_any u4 (M / G) w3 (HD3.out.later hb3) (by omega)
        have HB3 := Hid.mk' (below_chain HB2.out hb3)
        have HD4 := Hid.mk' (HD3.out.later hb3)
        clear hb3 HD3 HB2
        go_wp2_with fail
        refine hint.mono ?_
        clear hint
        rintro e w4 ⟨rfl, hw4⟩
        rw [hw4]
        clear hw4
        have HS0 : Hid (InOut w3 (w3.alloc (.cells #[.int .i64 ((M / G : Nat) : Int), .slice none 0 0] 30)) ((M / G : Nat) : Int) (.slice none 0 0) 0 []) := InOut.start w3 _
        have HX40 := Hid.mk' hp40
        clear hp40 hp6 hdl
        go_wp2_with fail
        go_loopw [12] (fun i wr => ∃ (k : Nat) (sv : Value), k ≤ L.length ∧ i = .int .i64 k ∧ Hid (InOut w3 wr ((M / G : Nat) : Int) sv (overL G (absL (L.take k))).length (flat (overL G (absL (L.take k))))) ∧ Hid (∀ e ∈ L.take k, (e.z.tdiv (G : Int)).natAbs ≤ 1099511627776)) (fun i _ => L.length - (intOf i).toNat)
        case atStart => exact ⟨0, .slice none 0 0, by omega, rfl, HS0.out, (fun e he => by simp at he)⟩
        case round =>
          clear HS0 HB
          obtain ⟨k, sv, hk, rfl, HO, HLE⟩ := hrel
          have HBR := Hid.mk' (below_chain HB3.out HO.out.keep)
          obtain ⟨hWr, _⟩ := HWA.out wr HBR.out
          have cc := hWr.cc
          have hk0I : (0 : Int) ≤ (k : Int) := by omega
          by_cases hlt : k < L.length
          · have hkI : (k : Int) < (L.length : Int) := by omega
            obtain ⟨f, hf⟩ : ∃ f, L[k]? = some f := ⟨_, List.getElem?_eq_getElem hlt⟩
            have hmem : f ∈ L := List.mem_of_getElem? hf
            obtain ⟨gp, gc, rfl, rfl, e0, c0, c1, c2⟩ := hWr.cells hf
            obtain ⟨fs, fa, fl, fc, fa', fl', fc', q0, q1, q2⟩ := Ent.parts (hWr.R f hmem)
            rw [q0] at c0
            rw [q1] at c1
            rw [q2] at c2
            have hRf := hWr.R f hmem
            unfold Ent.val at hRf
            rw [q0, q1, q2] at hRf
            have HKS : Hid (∀ W, Below wr.heap.size wr W → W.cell? ⟨B, 1, none⟩ = some (.slice (some ⟨gc, 0, none⟩) L.length capc) ∧ W.cell? ⟨gc, k * 3, none⟩ = some (.bool fs) ∧ W.cell? ⟨gc, k * 3 + 1, none⟩ = some (.slice fa fl fc) ∧ W.cell? ⟨gc, k * 3 + 2, none⟩ = some (.slice fa' fl' fc')) := fun W hb => ⟨(cell_past cc hb).2, (cell_past c0 hb).2, (cell_past c1 hb).2, (cell_past c2 hb).2⟩
            have HPP : Hid (∀ W, Below wr.heap.size wr W → W.cell? ⟨B, 0, none⟩ = some (.slice (some ⟨gp, 0, none⟩) L.length capp) ∧ W.cell? ⟨gp, k, none⟩ = some (.int .i64 (f.p : Int))) := fun W hb => ⟨(cell_past hWr.cp hb).2, (cell_past e0 hb).2⟩
            have hcw := coef_whole (z := f.z) hM HGM.out (HGZ.out f hmem)
            have HTI : Hid (∀ (W : World) (ad1 ad2 : Option Addr) (l1 c1 l2 c2 : Nat), Below wr.heap.size wr W → BigAt W (.slice ad1 l1 c1) (M / G) → BigAt W (.slice ad2 l2 c2) 1 → Calls Tryz.prog 56 #[.agg #[.bool fs, .slice fa fl fc, .slice fa' fl' fc'], .agg #[.bool false, .slice ad1 l1 c1, .slice ad2 l2 c2]] W fun e w' => ∃ r, e = .returned r ∧ RatioAt w' r (f.z.tdiv (G : Int)) 1 ∧ Below W.heap.size W w') := fun W ad1 ad2 l1 c1 l2 c2 hb h1 h2 => by
              have h3 : RatioAt W (.agg #[.bool false, .slice ad1 l1 c1, .slice ad2 l2 c2]) ((M / G : Nat) : Int) 1 := ⟨_, _, by rw [decide_eq_false (nat_not_neg _)], by rw [Int.natAbs_natCast]; exact h1, h2⟩
              have h4 := Times_ratio _ _ _ _ _ _ k0 W (hRf.later hb) h3 (lowD_pos hM _) (by decide) (Nat.lt_of_le_of_lt (lowN_le hM _) (HBL.out f hmem)) (by rw [Int.natAbs_natCast]; exact Nat.lt_of_le_of_lt (Nat.div_le_self _ _) hbM) (Nat.lt_of_le_of_lt (lowD_le _ _) hbM) (Nat.one_lt_pow (by omega) (by decide)) (by omega)
              rw [hcw.1, hcw.2] at h4
              exact h4
            have HQB : Hid ((f.z.tdiv (G : Int)).natAbs < 1000000 ^ k0) := by
              show _ < _
              have h1 : (f.z.tdiv (G : Int)).natAbs ≤ f.z.natAbs := by rw [Int.natAbs_tdiv]; exact Nat.div_le_self _ _
              exact Nat.lt_of_le_of_lt h1 (HBL.out f hmem)
            have HFM : Hid (fits = true → (f.z.tdiv (G : Int)).natAbs ≤ 1099511627776) := fun h => (HFIT.out.1 h).2 f hmem
            have HOV := Hid.mk' (over_next (G := G) hf)
            have HLN : Hid ((f.z.tdiv (G : Int)).natAbs ≤ 1099511627776 → ∀ e ∈ L.take (k + 1), (e.z.tdiv (G : Int)).natAbs ≤ 1099511627776) := fun h e he => by
              have h1 : L.take (k + 1) = L.take k ++ [f] := by
                rw [List.take_succ_eq_append_getElem hlt]
                rw [List.getElem?_eq_getElem hlt] at hf
                rw [Option.some.inj hf]
              rw [h1] at he
              rcases List.mem_append.1 he with he | he
              · exact HLE.out e he
              · rw [List.mem_singleton.1 he]; exact h
            generalize f.z.tdiv (G : Int) = q at HTI HQB HFM HOV HLN
            generalize hfp : (f.p : Int) = p at HPP HOV
            have HDW : Hid (∀ W, Below wr.heap.size wr W → BigAt W u4 (M / G)) := fun W hb => HD4.out.later (below_chain HO.out.keep hb)
            have hcur0 : Below wr.heap.size wr wr := Below.refl _ _
            have hcur : Below wr.heap.size wr wr.drew := (Below.refl _ _).drew
            have hcurA : ∀ X, Below wr.heap.size wr (wr.alloc X).drew := fun X => (new_below _ _).drew
            clear hWr hmem hRf hcw q0 q1 q2 hf e0 hfp HGZ HGM HLE HBL
            go_upto_region 15 with fail
            go_cut [13] from 64 to 119 (fun s wx => ∃ Bs : Nat, s = .pointer (some ⟨Bs, 0, none⟩) ∧ Hid (RatBox wr wx Bs q))
            case first =>
              clear cc c0 c1 c2
              go_region_held3 (fun W => W.cell? ⟨B, 1, none⟩ = some (.slice (some ⟨gc, 0, none⟩) L.length capc) ∧ W.cell? ⟨gc, k * 3, none⟩ = some (.bool fs) ∧ W.cell? ⟨gc, k * 3 + 1, none⟩ = some (.slice fa fl fc) ∧ W.cell? ⟨gc, k * 3 + 2, none⟩ = some (.slice fa' fl' fc'))
                (first | exact HKS.out _ hcur0 | exact HKS.out _ hcur | exact HKS.out _ (hcurA _) | (refine HKS.out _ ?_; assumption) | (refine HKS.out _ (more_below ?_ _); assumption) | (refine HKS.out _ (below_set3 ?_ NB.hB _ _ _); assumption))
                (first
                  | (go_at_call 56; refine (HTI.out _ _ _ _ _ _ _ ?_ (HX1.out _ ?_) (HX2.out _ ?_)).mono ?_; (first | exact hbw2 | exact more_below hbw2 _); (first | exact h12 | exact more_below h12 _); (first | exact Below.refl _ _ | exact new_below _ _); rintro e w7 ⟨rv, rfl, ⟨ur, qr, rfl, hur, hqr⟩, hb7⟩; obtain ⟨ad8, l8, cap8, rfl, _⟩ := hur.len; obtain ⟨ad9, l9, cap9, rfl, _⟩ := hqr.len; (first | (have hbw7 := below_chain hbw2 hb7; try have NB := NB.later hb7) | (have hbw7 := below_chain (more_below hbw2 _) hb7; have NB := newBox3_of hbw2 hb7)); (try (have y0 := NB.c0; have y1 := NB.c1; have y2 := NB.c2; have y3 := NB.f0; have y4 := NB.f1; have y5 := NB.f2)); have HUR := Hid.mk' hur; clear hur hqr hb7)
                  | (go_at_call 57; refine (BigOf_any 1 _ (by omega)).mono ?_; rintro e w6 ⟨v6, rfl, hv6, hb6⟩; obtain ⟨ad6, l6, cap6, rfl, _⟩ := hv6.len; (first | (have hbw2 := below_chain hbw1 hb6; have h12 := below_chain (Below.refl _ w5) hb6; try have NB := NB.later hb6) | (have hbw2 := below_chain (more_below hbw1 _) hb6; have h12 := below_chain (new_below w5 _) hb6; have NB := newBox3_of hbw1 hb6)); have HX2 : Hid (∀ W, Below w6.heap.size w6 W → BigAt W (.slice ad6 l6 cap6) 1) := (fun W hb => hv6.later hb); clear hv6 hb6)
                  | (go_at_call 63; refine (wide_any u4 (M / G) _ (HDW.out _ ?_)).mono ?_; (first | exact hcur | exact hcurA _); rintro e w5 ⟨sv5, rfl, ⟨x5, rfl, hx5⟩, hb5⟩; rw [decide_eq_false (nat_not_neg (M / G))]; obtain ⟨ad5, l5, cap5, rfl, _⟩ := hx5.len; (first | have hbw1 := below_chain hcur hb5 | (have hbw1 := below_chain (hcurA _) hb5; have NB := newBox3_of hcur0 (below_chain ((Below.refl _ _).drew) hb5))); have HX1 : Hid (∀ W, Below w5.heap.size w5 W → BigAt W (.slice ad5 l5 cap5) (M / G)) := (fun W hb => by have h1 := hx5.later hb; rwa [Int.natAbs_natCast] at h1); clear hx5 hb5))
              all_goals
                go_wp2_with fail
                go_meet
                first | exact ⟨_, rfl, ratBox_late hbw7 HUR.out⟩ | exact ⟨_, rfl, ratBox_soon hbw7 HUR.out NB⟩
            case rest =>
            obtain ⟨Bs, rfl, HRB⟩ := hcut
            obtain ⟨ur, x0, x1, hu⟩ := HRB.out.box
            obtain ⟨ad, l, cap, rfl, _⟩ := hu.len
            obtain ⟨sg, hsg⟩ : ∃ sg, decide (q < 0) = sg := ⟨_, rfl⟩
            rw [hsg] at x0
            have hx1' : ∀ W, Below wc.heap.size wc W → W.cell? ⟨Bs, 0, none⟩ = some (.bool sg) ∧ W.cell? ⟨Bs, 1, none⟩ = some (.slice ad l cap) := fun W hb => ⟨(cell_past x0 hb).2, (cell_past x1 hb).2⟩
            have HX := Hid.mk' hx1'
            have HU := Hid.mk' hu
            have HSG := Hid.mk' hsg
            have hc0 : Below wc.heap.size wc wc := Below.refl _ _
            have hc1 : Below wc.heap.size wc wc.drew := (Below.refl _ _).drew
            have HBC := Hid.mk' HRB.out.below
            obtain ⟨cm2, hcm2⟩ : ∃ cm2, cmpOf q.natAbs 1099511627776 = cm2 := ⟨_, rfl⟩
            have hcmp : ∀ (v : Value) (W : World), Below wc.heap.size wc W → BigAt W v 1099511627776 → Calls Tryz.prog 61 #[.slice ad l cap, v] W fun e w' => e = .returned (.int .i64 cm2) ∧ ∃ m, w' = W.drewN m := fun v W hb hv => by
              have := BigCmp_any (.slice ad l cap) v q.natAbs 1099511627776 k0 W (hu.later hb) hv HQB.out HX40.out (by omega)
              rw [hcm2] at this
              exact this
            have HCMP := Hid.mk' hcmp
            have HCM := Hid.mk' hcm2
            clear hx1' hu hsg hcmp hcm2 x0 x1 cc c0 c1 c2
            go_upto_region 16 with fail
            go_cut [90] from 64 to 119 (fun s wx => s = .bool (decide (0 < cm2)) ∧ Hid (Below wc.heap.size wc wx))
            case first =>
              go_region_held3 (fun W => W.cell? ⟨Bs, 1, none⟩ = some (.slice ad l cap))
                (first | exact (HX.out _ hc0).2 | exact (HX.out _ hc1).2 | exact (HX.out _ hc2).2 | exact (HX.out _ hc3).2)
                (first
                  | (go_at_call 61; refine (HCMP.out _ _ hc2 HV8.out).mono ?_; rintro e w9 ⟨rfl, m9, hw9⟩; have hc3 : Below wc.heap.size wc w9 := (by rw [hw9]; exact below_drewN hc2 m9); clear hw9)
                  | (go_at_call 57; refine (BigOf_any 1099511627776 _ (by omega)).mono ?_; rintro e w8 ⟨v8, rfl, hv8, hb8⟩; have hc2 := below_chain hc1 hb8; have HV8 := Hid.mk' hv8; clear hv8 hb8))
              all_goals
                go_wp2_with fail
                go_meet
                exact ⟨rfl, hc3⟩
            case rest =>
            obtain ⟨rfl, HBX⟩ := hcut
            by_cases hle40 : q.natAbs ≤ 1099511627776
            · have hcm : decide (0 < cm2) = false := by
                rw [← HCM.out]
                rcases Nat.lt_or_ge q.natAbs 1099511627776 with h | h
                · rw [cmpOf_lt h]; decide
                · rw [cmpOf_eq (by omega)]; decide
              rw [hcm]
              clear hcm
              obtain ⟨x0, x1⟩ := HX.out wc HBX.out
              have hint := BigInt_any (.slice ad l cap) q.natAbs wc (HU.out.later HBX.out) (by omega)
              have HO2 := Hid.mk' (HO.out.later (below_chain HBC.out HBX.out))
              obtain ⟨p0, p1⟩ := HPP.out wc (below_chain HBC.out HBX.out)
              have y0 := HO2.out.o0
              have y1 := HO2.out.o1
              have yf := HO2.out.fz
              have hcn2 := take_len_le (G := G) L k
              have hsz : w3.heap.size < wc.heap.size := cell_lt HO2.out.o0
              obtain ⟨i0, hi, hz0, hz1, hz2⟩ := info_parts Tryz.infoTerm
              have HINF : Hid (Tryz.prog.info? 99 = some i0 ∧ i0.zero = some (.agg #[.int .i64 0, .int .i64 0]) ∧ i0.size = 2 ∧ i0.bytes = 16) := ⟨hi, hz0, hz1, hz2⟩
              have HLN2 := Hid.mk' (HLN.out hle40)
              have HO2d := Hid.mk' (HO2.out.later (wn := wc.drew) (Below.refl _ _).drew)
              have y1a : ∀ X, (wc.alloc X).cell? ⟨w3.heap.size, 1, none⟩ = some sv := fun X => (cell_past y1 (new_below _ X)).2
              clear hi hz0 hz1 hz2 HO HBX HX HU HLN HCM HCMP HKS HTI HFM HQB HPP HBC HRB hc0 hc1 hcur hcur0 hcurA HDW
              rcases Int.lt_trichotomy q 0 with hq | hq | hq
              · have hs := HSG.out
                rw [decide_eq_true hq] at hs
                subst hs
                obtain ⟨m, hm⟩ : ∃ m : Nat, q.natAbs = m := ⟨_, rfl⟩
                have hqm : q = -(m : Int) := by omega
                rw [hm] at hint hle40
                have hmI : (m : Int) ≤ 1099511627776 := by omega
                have hne : (-(m : Int) != 0) = true := by rw [bne_iff_ne]; omega
                have HQM := Hid.mk' hqm
                have HQ0 : Hid (¬ q = 0) := by show ¬ _; omega
                clear hqm hm hq HSG
                go_wp2_with fail
                refine hint.mono ?_
                clear hint
                rintro e w6 ⟨rfl, hw6⟩
                rw [hw6]
                clear hw6
                go_wp2_with fail
                go_region_law (first | (refine step_append_lies _ rfl _ _ _ rfl (w3.heap.size + 1) 99 i0 _ 2 16 Tryz.underlying28 HINF.out.1 HINF.out.2.1 HINF.out.2.2.1 HINF.out.2.2.2 rfl (by omega) sv _ _ rfl (by exact HO2d.out.row.alloc _) ⟨wc.heap.size, 0, none⟩ 1 1 [.int .i64 p, .int .i64 (-(m : Int))] rfl rfl (two_new _ _ _ _) (by simp [Value.oneCell']) (by omega) (by unfold maxLen; omega) (by omega) (by simp; omega) _ rfl ?_; intro g' cap' w8 hown8 hgrow8 hat8 hlt8; obtain ⟨z1, z2, HP8⟩ := HO2d.out.pushed hgrow8 hown8; have HPU := Hid.mk' HP8; clear hown8 hgrow8 hat8 HP8))
                all_goals
                go_wp2_with fail
                exact ⟨⟨k + 1, _, by omega, by go_num, by
                  show InOut _ _ _ _ _ _
                  rw [HOV.out, if_neg HQ0.out, flat_join, List.length_append, HQM.out]
                  exact HPU.out, HLN2⟩, by simp [intOf]; omega⟩
              · subst hq
                have hs := HSG.out
                rw [decide_eq_false (by decide)] at hs
                subst hs
                clear HSG
                go_wp2_with fail
                refine hint.mono ?_
                clear hint
                rintro e w6 ⟨rfl, hw6⟩
                rw [hw6]
                clear hw6
                go_wp2_with fail
                exact ⟨⟨k + 1, sv, by omega, by go_num, by
                  show InOut _ _ _ _ _ _
                  have h9 := HOV.out
                  simp only [if_true, List.append_nil] at h9
                  rw [h9]
                  exact HO2.out, HLN2⟩, by simp [intOf]; omega⟩
              · have hs := HSG.out
                rw [decide_eq_false (by omega)] at hs
                subst hs
                obtain ⟨m, hm⟩ : ∃ m : Nat, q.natAbs = m := ⟨_, rfl⟩
                have hqm : q = (m : Int) := by omega
                rw [hm] at hint hle40
                have hmI : (m : Int) ≤ 1099511627776 := by omega
                have hne : ((m : Int) != 0) = true := by rw [bne_iff_ne]; omega
                have HQM := Hid.mk' hqm
                have HQ0 : Hid (¬ q = 0) := by show ¬ _; omega
                clear hqm hm hq HSG
                go_wp2_with fail
                refine hint.mono ?_
                clear hint
                rintro e w6 ⟨rfl, hw6⟩
                rw [hw6]
                clear hw6
                go_wp2_with fail
                go_region_law (first | (refine step_append_lies _ rfl _ _ _ rfl (w3.heap.size + 1) 99 i0 _ 2 16 Tryz.underlying28 HINF.out.1 HINF.out.2.1 HINF.out.2.2.1 HINF.out.2.2.2 rfl (by omega) sv _ _ rfl (by exact HO2d.out.row.alloc _) ⟨wc.heap.size, 0, none⟩ 1 1 [.int .i64 p, .int .i64 (m : Int)] rfl rfl (two_new _ _ _ _) (by simp [Value.oneCell']) (by omega) (by unfold maxLen; omega) (by omega) (by simp; omega) _ rfl ?_; intro g' cap' w8 hown8 hgrow8 hat8 hlt8; obtain ⟨z1, z2, HP8⟩ := HO2d.out.pushed hgrow8 hown8; have HPU := Hid.mk' HP8; clear hown8 hgrow8 hat8 HP8))
                all_goals
                go_wp2_with fail
                exact ⟨⟨k + 1, _, by omega, by go_num, by
                  show InOut _ _ _ _ _ _
                  rw [HOV.out, if_neg HQ0.out, flat_join, List.length_append, HQM.out]
                  exact HPU.out, HLN2⟩, by simp [intOf]; omega⟩
            · have hcm : decide (0 < cm2) = true := by
                rw [← HCM.out, cmpOf_gt (by omega)]; decide
              rw [hcm]
              have hff : fits = false := by
                cases hx : fits
                · rfl
                · have := HFM.out hx; omega
              obtain ⟨_, z0, z1, f0, f1, hbw⟩ := HWA.out wc (below_chain HBR.out (below_chain HBC.out HBX.out))
              clear hcm
              go_wp2_with fail
              refine bodyPost_ret (v := .tuple #[.agg #[.int .i64 0, .slice none 0 0], .int .i64 2]) (by simp [results, Tryz.results22, go_sem, z0, z1]) rfl ⟨Or.inr ⟨hff, rfl⟩, (hbw.setCell (by simp) _).setCell (by simp) _⟩
          · obtain rfl : k = L.length := by omega
            obtain ⟨_, z0, z1, f0, f1, hbw⟩ := HWA.out wr HBR.out
            have hft : fits = true := HFIT.out.2 ⟨by omega, fun e he => HLE.out e (by rw [List.take_length]; exact he)⟩
            have hrow := HO.out.row
            rw [List.take_length] at hrow
            have hlt1 : w.heap.size < w3.heap.size := by have := HB3.out.size; have := HSZ.out; omega
            have y0 := HO.out.o0
            have y1 := HO.out.o1
            have HRW := Hid.mk' hrow
            have HBW := Hid.mk' hbw
            obtain ⟨ad, n', c', rfl⟩ : ∃ ad n' c', sv = .slice ad n' c' := by
              rcases hrow.2 with ⟨rfl, _⟩ | ⟨gg, cap', cur', rfl, _⟩
              · exact ⟨_, _, _, rfl⟩
              · exact ⟨_, _, _, rfl⟩
            clear hWr hrow hbw HO HLE hlt hk
            go_wp2_with fail
            refine bodyPost_ret (v := .tuple #[.agg #[.int .i64 ((M / G : Nat) : Int), .slice ad n' c'], .int .i64 0]) (by simp [results, Tryz.results22, go_sem, z0, z1]) rfl ⟨Or.inl ⟨hft, _, rfl, ?_⟩, (HBW.out.setCell (by simp) _).setCell (by simp) _⟩
            have h1 := ownsRow_setCell_below HRW.out (a := ⟨w.heap.size, 0, none⟩) (by show w.heap.size < _; omega) (.int .i64 ((M / G : Nat) : Int))
            have h2 := ownsRow_setCell_below h1 (a := ⟨w.heap.size, 1, none⟩) (by show w.heap.size < _; omega) (.slice ad n' c')
            exact row_base h2 (by omega)
end Go.Proofs.YtphecjjblnnjdaaGreatDoor

/- The law's isLog. -/
namespace Go.Proofs.YtphecjjblnnjdaaGreatDoor
open Go.RowKit

theorem same_own (den : Int) (v1 v2 : Value) (n : Nat) (p c : Nat → Int) (w : World) (h1 : OwnAt w v1 n p c) (h2 : OwnAt w v2 n p c) (hn : n ≤ 1000000) :
    Calls Tryz.prog 27 #[.agg #[.int .i64 den, v1], .agg #[.int .i64 den, v2]] w fun e w' => e = .returned (.bool true) ∧ Below w.heap.size w w' := by
  rcases h1 with ⟨rfl, rfl⟩ | ⟨g1, c1, rfl, t1⟩
  · rcases h2 with ⟨rfl, _⟩ | ⟨g2, c2, rfl, t2⟩
    · exact SameLog_none den none none 0 0 w
    · exact SameLog_none den none _ 0 c2 w
  · rcases h2 with ⟨rfl, rfl⟩ | ⟨g2, c2, rfl, t2⟩
    · exact SameLog_none den _ none c1 0 w
    · exact SameLog_some den g1 0 c1 g2 0 c2 n p c w t1 t2 hn
theorem own_form {w : World} {v : Value} {n : Nat} {p c : Nat → Int} (h : OwnAt w v n p c) : ∃ ad m cap, v = .slice ad m cap := by
  rcases h with ⟨rfl, _⟩ | ⟨g, cap, rfl, _⟩
  · exact ⟨_, _, _, rfl⟩
  · exact ⟨_, _, _, rfl⟩

set_option maxRecDepth 10000 in
set_option maxHeartbeats 1000000 in
theorem isLog_ok (den : Int) (v1 v2 : Value) (n : Nat) (p c : Nat → Int) (w : World) (h1 : OwnAt w v1 n p c) (h2 : OwnAt w v2 n p c) (hn : n ≤ 1000000) :
    Calls Tryz.prog 14 #[.agg #[.int .i64 den, v1], .nilIface, .agg #[.int .i64 den, v2], .int .i64 0] w fun e w' => e = .returned (.bool true) ∧ Below w.heap.size w w' := by
  obtain ⟨ad1, m1, cap1, rfl⟩ := own_form h1
  obtain ⟨ad2, m2, cap2, rfl⟩ := own_form h2
  have hb0 : Below w.heap.size w ((w.alloc (.cells #[.int .i64 den, .slice ad1 m1 cap1] 30)).alloc (.cells #[.int .i64 den, .slice ad2 m2 cap2] 30)) := ((Below.refl _ _).alloc (Nat.le_refl _) _).alloc (by simp) _
  have hs := same_own den _ _ n p c _ (h1.later hb0) (h2.later hb0) hn
  have HB := Hid.mk' hb0
  clear h1 h2 hb0
  go_enter Tryz.func14, Tryz.ntmps14
  go_wp2_with fail
  refine hs.mono ?_
  clear hs
  rintro e w1 ⟨rfl, hb1⟩
  go_wp2_with fail
  go_ret
  exact ⟨rfl, below_chain HB.out hb1⟩

set_option maxRecDepth 10000 in
set_option maxHeartbeats 1000000 in
theorem isLog_err (a : Nat → Addr) (k : Nat) (hk : k < 8) (d2 : Int) (ad2 : Option Addr) (m2 cap2 : Nat) (w : World) (h : Errs w a) :
    Calls Tryz.prog 14 #[.agg #[.int .i64 0, .slice none 0 0], .iface 245 (.pointer (some (a k))), .agg #[.int .i64 d2, .slice ad2 m2 cap2], .int .i64 ((k : Int) + 1)] w fun e w' => e = .returned (.bool true) ∧ Below w.heap.size w w' := by
  have hb0 : Below w.heap.size w ((w.alloc (.cells #[.int .i64 0, .slice none 0 0] 30)).alloc (.cells #[.int .i64 d2, .slice ad2 m2 cap2] 30)) := ((Below.refl _ _).alloc (Nat.le_refl _) _).alloc (by simp) _
  have hc := coded_err a k hk ((k : Int) + 1) _ (h.below hb0)
  rw [decide_eq_true rfl] at hc
  have HB := Hid.mk' hb0
  have hk1 : (0 : Int) < (k : Int) + 1 := by omega
  clear h hb0
  go_enter Tryz.func14, Tryz.ntmps14
  go_wp2_with fail
  refine hc.mono ?_
  clear hc
  rintro e w1 ⟨rfl, hb1⟩
  have c0 := hb1.cell (p := ⟨w.heap.size, 0, none⟩) (by simp; omega)
  have c1 := hb1.cell (p := ⟨w.heap.size, 1, none⟩) (by simp; omega)
  rw [World.cell?_alloc_lt _ _ ⟨w.heap.size, 0, none⟩ (by simp), World.cell?_alloc_at _ _ _ _ rfl] at c0
  rw [World.cell?_alloc_lt _ _ ⟨w.heap.size, 1, none⟩ (by simp), World.cell?_alloc_at _ _ _ _ rfl] at c1
  simp at c0 c1
  have HB1 := Hid.mk' (below_chain HB.out hb1)
  clear hb1
  go_wp2_with fail
  go_ret
  exact ⟨rfl, HB1.out⟩
end Go.Proofs.YtphecjjblnnjdaaGreatDoor

/- The document's LogSum. -/
namespace Go.Proofs.YtphecjjblnnjdaaGreatDoor
open Go.RowKit

def FitsL (M G : Nat) (l : List (Int × Int)) : Prop := M / G ≤ 1000000 ∧ ∀ e ∈ l, (e.2.tdiv (G : Int)).natAbs ≤ 1099511627776
theorem fits_iff (M G : Nat) (L : List Ent) : FitsW M G L ↔ FitsL M G (absL L) := by
  unfold FitsW FitsL
  constructor
  · rintro ⟨h1, h2⟩
    refine ⟨h1, fun e he => ?_⟩
    obtain ⟨f, hf, rfl⟩ := List.mem_map.1 he
    exact h2 f hf
  · rintro ⟨h1, h2⟩
    exact ⟨h1, fun e he => h2 _ (absL_mem he)⟩
theorem zs_abs (L : List Ent) : zsOf L = (absL L).map Prod.snd := by unfold zsOf absL; rw [List.map_map]; rfl
theorem bool_of (P : Prop) : ∃ b : Bool, b = true ↔ P := by
  by_cases h : P
  · exact ⟨true, ⟨fun _ => h, fun _ => rfl⟩⟩
  · exact ⟨false, ⟨(fun e => by cases e), (fun e => absurd e h)⟩⟩
/-- What is told of a sum l over M: in form, or the bound. -/
def ToldOf (M : Nat) (l : List (Int × Int)) (w : World) (dn : Int) (v : Value) (code : Int) : Prop := (FitsL M (gList M (l.map Prod.snd)) l ∧ dn = ((M / gList M (l.map Prod.snd) : Nat) : Int) ∧ code = 0 ∧ ListAt w v (overL (gList M (l.map Prod.snd)) l)) ∨ (¬ FitsL M (gList M (l.map Prod.snd)) l ∧ dn = 0 ∧ v = .slice none 0 0 ∧ code = 2)

set_option maxRecDepth 100000 in
set_option maxHeartbeats 4000000 in
theorem LogSum_any (M da db xd yd m1 m2 : Nat) (xn yn : Int) (xv yv : Value) (ad1 ad2 : Option Addr) (n1 n2 cap1 cap2 : Nat) (p1 c1 p2 c2 : Nat → Int) (k0 : Nat) (w : World) (hl1 : LogAt w (.slice ad1 n1 cap1) n1 p1 c1) (hl2 : LogAt w (.slice ad2 n2 cap2) n2 p2 c2) (hx : RatioAt w xv xn xd) (hy : RatioAt w yv yn yd) (hM1 : M = da * xd * m1) (hM2 : M = db * yd * m2) (hM0 : 0 < M) (hn1 : n1 ≤ 30) (hn2 : n2 ≤ 30)
    (hpc1 : ∀ i, i < n1 → 0 ≤ p1 i ∧ -1099511627776 ≤ c1 i ∧ c1 i ≤ 1099511627776) (hpc2 : ∀ i, i < n2 → 0 ≤ p2 i ∧ -1099511627776 ≤ c2 i ∧ c2 i ≤ 1099511627776) (hda : da ≤ 1000000) (hdb : db ≤ 1000000) (hxn : xn.natAbs < 1000000 ^ k0) (hyn : yn.natAbs < 1000000 ^ k0)
    (hF1 : ∀ i, i < n1 → (xn * m1 * c1 i).natAbs < 1000000 ^ k0) (hF2 : ∀ i, i < n2 → (yn * m2 * c2 i).natAbs < 1000000 ^ k0) (hb1 : ∀ x k, k ≤ n1 → (xn * m1 * sumAt p1 c1 x k).natAbs < 1000000 ^ k0) (hb2 : ∀ x k, k ≤ n2 → (xn * m1 * sumAt p1 c1 x n1 + yn * m2 * sumAt p2 c2 x k).natAbs < 1000000 ^ k0) (hbM : M < 1000000 ^ k0) (hk3 : 3 ≤ k0) (hk0 : k0 ≤ 1000) :
    Calls Tryz.prog 69 #[.agg #[.int .i64 da, .slice ad1 n1 cap1], xv, .agg #[.int .i64 db, .slice ad2 n2 cap2], yv] w fun e w' => ∃ (l : List (Int × Int)) (dn : Int) (ad : Option Addr) (len cap : Nat) (code : Int), e = .returned (.tuple #[.agg #[.int .i64 dn, .slice ad len cap], .int .i64 code]) ∧ Rising l ∧ (∀ x, atL l x = xn * m1 * sumAt p1 c1 x n1 + yn * m2 * sumAt p2 c2 x n2) ∧ l.length ≤ n1 + n2 ∧ ToldOf M l w' dn (.slice ad len cap) code ∧ Below w.heap.size w w' := by
  obtain ⟨s, ad, l, cap, ad', l', cap', rfl⟩ := hx.parts
  obtain ⟨t, bd, r, bap, bd', r', bap', rfl⟩ := hy.parts
  obtain ⟨W0, hW0⟩ : ∃ W0, W0 = ((((w.alloc (.cells #[.int .i64 da, .slice ad1 n1 cap1] 30)).alloc (.cells #[.bool s, .slice ad l cap, .slice ad' l' cap'] 54)).alloc (.cells #[.int .i64 db, .slice ad2 n2 cap2] 30)).alloc (.cells #[.bool t, .slice bd r bap, .slice bd' r' bap'] 54)).alloc (.cells #[.int .i64 0, .slice none 0 0] 30) := ⟨_, rfl⟩
  have hz0 : W0.heap.size = w.heap.size + 1 + 1 + 1 + 1 + 1 := by rw [hW0]; simp
  have hb0 : Below w.heap.size w W0 := by rw [hW0]; exact more_below (more_below (more_below (more_below (new_below _ _) _) _) _) _
  have hcell : ∀ W, Below W0.heap.size W0 W → ((W.cell? ⟨w.heap.size, 0, none⟩ = some (.int .i64 da) ∧ W.cell? ⟨w.heap.size, 1, none⟩ = some (.slice ad1 n1 cap1)) ∧ W.cell? ⟨w.heap.size + 1, 0, none⟩ = some (.bool s) ∧ W.cell? ⟨w.heap.size + 1, 1, none⟩ = some (.slice ad l cap) ∧ W.cell? ⟨w.heap.size + 1, 2, none⟩ = some (.slice ad' l' cap')) ∧
      ((W.cell? ⟨w.heap.size + 1 + 1, 0, none⟩ = some (.int .i64 db) ∧ W.cell? ⟨w.heap.size + 1 + 1, 1, none⟩ = some (.slice ad2 n2 cap2)) ∧ W.cell? ⟨w.heap.size + 1 + 1 + 1, 0, none⟩ = some (.bool t) ∧ W.cell? ⟨w.heap.size + 1 + 1 + 1, 1, none⟩ = some (.slice bd r bap) ∧ W.cell? ⟨w.heap.size + 1 + 1 + 1, 2, none⟩ = some (.slice bd' r' bap')) ∧
      (W.cell? ⟨w.heap.size + 1 + 1 + 1 + 1, 0, none⟩ = some (.int .i64 0) ∧ W.cell? ⟨w.heap.size + 1 + 1 + 1 + 1, 1, none⟩ = some (.slice none 0 0) ∧ W.frozen? ⟨w.heap.size + 1 + 1 + 1 + 1, 0, none⟩ = false ∧ W.frozen? ⟨w.heap.size + 1 + 1 + 1 + 1, 1, none⟩ = false) := fun W hbl => by
    rw [hW0] at hbl
    obtain ⟨q0, q1, _, _⟩ := res_past (below_chain (more_below (more_below (more_below (new_below (w.alloc (.cells #[.int .i64 da, .slice ad1 n1 cap1] 30)) (.cells #[.bool s, .slice ad l cap, .slice ad' l' cap'] 54)) (.cells #[.int .i64 db, .slice ad2 n2 cap2] 30)) (.cells #[.bool t, .slice bd r bap, .slice bd' r' bap'] 54)) (.cells #[.int .i64 0, .slice none 0 0] 30)) hbl)
    have q2 := three_new_past (below_chain (more_below (more_below (new_below ((w.alloc (.cells #[.int .i64 da, .slice ad1 n1 cap1] 30)).alloc (.cells #[.bool s, .slice ad l cap, .slice ad' l' cap'] 54)) (.cells #[.int .i64 db, .slice ad2 n2 cap2] 30)) (.cells #[.bool t, .slice bd r bap, .slice bd' r' bap'] 54)) (.cells #[.int .i64 0, .slice none 0 0] 30)) hbl)
    obtain ⟨q3, q4, _, _⟩ := res_past (below_chain (more_below (new_below (((w.alloc (.cells #[.int .i64 da, .slice ad1 n1 cap1] 30)).alloc (.cells #[.bool s, .slice ad l cap, .slice ad' l' cap'] 54)).alloc (.cells #[.int .i64 db, .slice ad2 n2 cap2] 30)) (.cells #[.bool t, .slice bd r bap, .slice bd' r' bap'] 54)) (.cells #[.int .i64 0, .slice none 0 0] 30)) hbl)
    have q5 := three_new_past (below_chain (new_below ((((w.alloc (.cells #[.int .i64 da, .slice ad1 n1 cap1] 30)).alloc (.cells #[.bool s, .slice ad l cap, .slice ad' l' cap'] 54)).alloc (.cells #[.int .i64 db, .slice ad2 n2 cap2] 30)).alloc (.cells #[.bool t, .slice bd r bap, .slice bd' r' bap'] 54)) (.cells #[.int .i64 0, .slice none 0 0] 30)) hbl)
    have q6 := res_past hbl
    simp only [World.size_alloc] at q2 q3 q4 q5 q6
    exact ⟨⟨⟨q0, q1⟩, q2⟩, ⟨⟨q3, q4⟩, q5⟩, q6⟩
  have hwd : WideAt (w.heap.size + 1 + 1 + 1 + 1 + 1) M (W0.alloc (.cells #[.slice none 0 0, .slice none 0 0] 48)) (w.heap.size + 1 + 1 + 1 + 1 + 1) (.slice none 0 0) (.slice none 0 0) [] :=
    ⟨Nat.le_refl _, by rw [← hz0]; simp, by rw [← hz0]; simp, by rw [← hz0]; simp, by rw [← hz0]; simp, World.ownsRow_nil _ _ _ _, World.ownsRow_nil _ _ _ _, (fun e he => by cases he), fun _ => ⟨rfl, rfl⟩⟩
  have hb1' := below_chain hb0 (new_below W0 (.cells #[.slice none 0 0, .slice none 0 0] 48))
  have hlog1 := WLog_any (w.heap.size + 1 + 1 + 1 + 1 + 1) M (w.heap.size + 1 + 1 + 1 + 1 + 1) da xd m1 xn _ _ _ ad1 n1 cap1 p1 c1 [] k0 _ hwd (hl1.later hb1') (hx.later hb1') hM1 hM0 List.Pairwise.nil (by simp; omega) hpc1 hda hxn hF1 (fun x k hk => by simpa [absL, atL] using hb1 x k hk) hbM hk3 hk0
  have HB0 := Hid.mk' hb0
  have HC := Hid.mk' hcell
  have HZ0 := Hid.mk' hz0
  have HW0 := Hid.mk' hW0
  have HL2 := Hid.mk' (hl2.later hb1')
  have HY := Hid.mk' (hy.later hb1')
  have HB1 := Hid.mk' (new_below W0 (.cells #[.slice none 0 0, .slice none 0 0] 48))
  obtain ⟨⟨⟨a0, a1⟩, a2, a3, a4⟩, _, _⟩ := hcell _ (new_below W0 (.cells #[.slice none 0 0, .slice none 0 0] 48))
  have HM2 := Hid.mk' hM2
  have HP2 := Hid.mk' hpc2
  have HF2 := Hid.mk' hF2
  have HBB := Hid.mk' hb2
  have HBA := Hid.mk' hb1
  clear hb0 hcell hwd hW0 hl1 hl2 hx hy hM1 hM2 hpc1 hpc2 hF1 hF2 hb1 hb2 hb1'
  go_enter Tryz.func69, Tryz.ntmps69
  go_upto_region 1 with fail
  rw [← HW0.out]
  go_upto_region 2 with fail
  obtain ⟨W1, hW1⟩ : ∃ W1, W1 = W0.alloc (.cells #[.slice none 0 0, .slice none 0 0] 48) := ⟨_, rfl⟩
  rw [← hW1] at hlog1 HL2 HY HB1 a0 a1 a2 a3 a4 ⊢
  clear hW1 hz0
  go_wp2_with fail
  refine hlog1.mono ?_
  clear hlog1 a0 a1 a2 a3 a4
  rintro e w2 ⟨rfl, vp2, vc2, L2, hi2⟩
  have hb02 : Below W0.heap.size W0 w2 := HB1.out.trans (hi2.below.mono (Nat.le_of_eq HZ0.out))
  have hlen2 := hi2.len
  simp at hlen2
  have HV2 : Hid (∀ x, atL (absL L2) x = xn * m1 * sumAt p1 c1 x n1) := fun x => by simpa [absL, atL] using hi2.val x
  have hlog2 := WLog_any (w.heap.size + 1 + 1 + 1 + 1 + 1) M (w.heap.size + 1 + 1 + 1 + 1 + 1) db yd m2 yn _ vp2 vc2 ad2 n2 cap2 p2 c2 L2 k0 w2 hi2.wide (HL2.out.kept hi2.kept) (HY.out.kept hi2.kept) HM2.out hM0 hi2.rise (by omega) HP2.out hdb hyn HF2.out (fun x k hk => by rw [HV2.out x]; exact HBB.out x k hk) hbM hk3 hk0
  obtain ⟨_, ⟨⟨a0, a1⟩, a2, a3, a4⟩, _⟩ := HC.out w2 hb02
  have HB2 := Hid.mk' hb02
  clear hi2 hb02 HM2 HP2 HF2
  go_wp2_with fail
  refine hlog2.mono ?_
  clear hlog2 a0 a1 a2 a3 a4
  rintro e w3 ⟨rfl, vp3, vc3, L3, hi3⟩
  have hb03 : Below W0.heap.size W0 w3 := HB2.out.trans (hi3.below.mono (Nat.le_of_eq HZ0.out))
  have hlen3 := hi3.len
  have HV3 : Hid (∀ x, atL (absL L3) x = xn * m1 * sumAt p1 c1 x n1 + yn * m2 * sumAt p2 c2 x n2) := fun x => by rw [hi3.val x, HV2.out x]
  obtain ⟨adp, capp, hvp⟩ : ∃ ad c, vp3 = .slice ad L3.length c := by
    rcases hi3.wide.P.2 with ⟨rfl, h0⟩ | ⟨g, cap, cur, rfl, _⟩
    · exact ⟨none, 0, by rw [h0]⟩
    · exact ⟨_, _, rfl⟩
  obtain ⟨adc, capc, hvc⟩ : ∃ ad c, vc3 = .slice ad L3.length c := by
    rcases hi3.wide.C.2 with ⟨rfl, h0⟩ | ⟨g, cap, cur, rfl, _⟩
    · exact ⟨none, 0, by rw [h0]⟩
    · exact ⟨_, _, rfl⟩
  have hwd3 := hi3.wide
  rw [hvp, hvc] at hwd3
  obtain ⟨fits, hfits⟩ := bool_of (FitsW M (gList M (zsOf L3)) L3)
  have htold := WTold_any (w.heap.size + 1 + 1 + 1 + 1 + 1) M (w.heap.size + 1 + 1 + 1 + 1 + 1) adp adc capp capc L3 k0 (gList M (zsOf L3)) fits w3 hwd3 hM0 (by omega) (hi3.coef (fun x => by rw [HV2.out x]; exact HBB.out x n2 (Nat.le_refl _))) hbM hk0 hk3 rfl hfits
  have HR3 := Hid.mk' hi3.rise
  have HFI := Hid.mk' hfits
  have HB3 := Hid.mk' hb03
  clear hwd3 hvp hvc hi3 hb03 hfits HV2 HL2 HY HB1 HB2 HBA HBB
  go_wp2_with fail
  refine htold.mono ?_
  clear htold
  rintro e w7 ⟨h7, hb7⟩
  obtain ⟨_, _, z0, z1, f0, f1⟩ := HC.out w7 (below_chain HB3.out hb7)
  have hsz : w.heap.size + 1 + 1 + 1 + 1 < w3.heap.size := by have h1 := HB3.out.size; have h2 := HZ0.out; omega
  have HB8 := Hid.mk' (below_chain HB0.out (below_chain HB3.out hb7))
  clear hb7 HC
  rcases h7 with ⟨hft, v, rfl, hrow⟩ | ⟨hff, rfl⟩
  · obtain ⟨ad, n', c', rfl⟩ : ∃ ad n' c', v = .slice ad n' c' := by
      rcases hrow.2 with ⟨rfl, _⟩ | ⟨gg, cap', cur', rfl, _⟩
      · exact ⟨_, _, _, rfl⟩
      · exact ⟨_, _, _, rfl⟩
    have HRW := Hid.mk' hrow
    clear hrow
    generalize hdn : ((M / gList M (zsOf L3) : Nat) : Int) = dn
    have HDN := Hid.mk' hdn
    clear hdn
    go_wp2_with fail
    refine bodyPost_ret (v := .tuple #[.agg #[.int .i64 dn, .slice ad n' c'], .int .i64 0]) (by simp [results, Tryz.results69, go_sem, z0, z1]) rfl ⟨absL L3, dn, ad, n', c', 0, rfl, HR3.out, HV3.out, by rw [absL_length]; omega, Or.inl ?_, (HB8.out.setCell (by simp; omega) _).setCell (by simp; omega) _⟩
    have h1 := ownsRow_setCell_below HRW.out (a := ⟨w.heap.size + 1 + 1 + 1 + 1, 0, none⟩) (by show w.heap.size + 1 + 1 + 1 + 1 < _; omega) (.int .i64 dn)
    have h2 := ownsRow_setCell_below h1 (a := ⟨w.heap.size + 1 + 1 + 1 + 1, 1, none⟩) (by show w.heap.size + 1 + 1 + 1 + 1 < _; omega) (.slice ad n' c')
    rw [flat_cells] at h2
    rw [← zs_abs]
    exact ⟨(fits_iff _ _ _).1 (HFI.out.1 hft), HDN.out.symm, rfl, ownAt_of_row h2⟩
  · go_wp2_with fail
    refine bodyPost_ret (v := .tuple #[.agg #[.int .i64 0, .slice none 0 0], .int .i64 2]) (by simp [results, Tryz.results69, go_sem, z0, z1]) rfl ⟨absL L3, 0, none, 0, 0, 2, rfl, HR3.out, HV3.out, by rw [absL_length]; omega, Or.inr ?_, (HB8.out.setCell (by simp; omega) _).setCell (by simp; omega) _⟩
    rw [← zs_abs]
    refine ⟨fun h => ?_, rfl, rfl, rfl⟩
    have := HFI.out.2 ((fits_iff _ _ _).2 h)
    rw [hff] at this
    cases this
end Go.Proofs.YtphecjjblnnjdaaGreatDoor

/- logs.Valid at any logarithm. -/
namespace Go.Proofs.YtphecjjblnnjdaaGreatDoor
open Go.RowKit

set_option maxHeartbeats 1000000 in
/-- Valid at a slice without terms, wherever it lies. -/
theorem Valid_zero (den : Int) (ad : Option Addr) (cap : Nat) (p c : Nat → Int) (a : Nat → Addr) (ok : Bool) (hok : ok = true ↔ OkLog den 0 p c) (w : World) (h : Errs w a) :
    Calls Tryz.prog 113 #[.agg #[.int .i64 den, .slice ad 0 cap]] w fun e w' => e = .returned (shapeErr ok a) ∧ Below w.heap.size w w' := by
  have HOK : Hid (ok = true ↔ den = 1) := hok.trans (OkLog_none den p c)
  have HE : Hid (Errs w a) := h
  clear hok h
  have hal : ∀ X, (w.alloc X).cell? ⟨1, 0, none⟩ = some (.iface 245 (.pointer (some (a 2)))) := fun X => shape_later HE.out ((Below.refl _ _).alloc (Nat.le_refl _) _)
  by_cases h1 : 1 ≤ den
  · by_cases h2 : den ≤ 1000000
    · by_cases h3 : den = 1
      · have hbt : ok = true := HOK.out.2 h3
        subst hbt
        subst h3
        go_enter Tryz.func113, Tryz.ntmps113
        go_wp2_with fail
        refine wp_loop_rounds 1 ?_
        rw [rounds_succ]
        go_wp2_with fail
        go_ret
        exact ⟨rfl, (Below.refl _ _).alloc (Nat.le_refl _) _⟩
      · have hbf : ok = false := not_true_of HOK.out h3
        subst hbf
        have hgb : (den != 1) = true := by simp [h3]
        clear h3
        go_enter Tryz.func113, Tryz.ntmps113
        go_wp2_with fail
        refine wp_loop_rounds 1 ?_
        rw [rounds_succ]
        go_wp2_with fail
        go_ret
        exact ⟨rfl, (Below.refl _ _).alloc (Nat.le_refl _) _⟩
    · have hbf : ok = false := not_true_of HOK.out (fun h => h2 (by omega))
      subst hbf
      go_enter Tryz.func113, Tryz.ntmps113
      go_wp2_with fail
      go_ret
      exact ⟨rfl, (Below.refl _ _).alloc (Nat.le_refl _) _⟩
  · have hbf : ok = false := not_true_of HOK.out (fun h => h1 (by omega))
    subst hbf
    go_enter Tryz.func113, Tryz.ntmps113
    go_wp2_with fail
    go_ret
    exact ⟨rfl, (Below.refl _ _).alloc (Nat.le_refl _) _⟩
theorem Valid_log (den : Int) (sv : Value) (n : Nat) (p c : Nat → Int) (a : Nat → Addr) (ok : Bool) (hok : ok = true ↔ OkLog den n p c) (w : World) (h : Errs w a) (hs : LogAt w sv n p c) (hn : n ≤ 1000000) :
    Calls Tryz.prog 113 #[.agg #[.int .i64 den, sv]] w fun e w' => e = .returned (shapeErr ok a) ∧ Below w.heap.size w w' := by
  rcases hs with ⟨ad, cap, rfl, rfl⟩ | ⟨b, o, cap, rfl, h0, ht⟩
  · exact Valid_zero den ad cap p c a ok hok w h
  · exact Valid_terms den b o n cap p c a ok hok w h ht hn
theorem LogAt.slice {w : World} {sv : Value} {n : Nat} {p c : Nat → Int} (h : LogAt w sv n p c) : ∃ ad cap, sv = .slice ad n cap := by
  rcases h with ⟨ad, cap, rfl, rfl⟩ | ⟨b, o, cap, rfl, _⟩
  · exact ⟨_, _, rfl⟩
  · exact ⟨_, _, rfl⟩
end Go.Proofs.YtphecjjblnnjdaaGreatDoor

/- logs.Add where the sum has a form. -/
namespace Go.Proofs.YtphecjjblnnjdaaGreatDoor
open Go.RowKit Go.Maps

/-- What the walk of Add keeps from a world on. -/
structure AddKeeps (B : Nat) (da db : Nat) (s1 s2 : Value) (n1 n2 : Nat) (t1 t2 : List (Int × Int)) (W : World) : Prop where
  a0 : W.cell? ⟨B, 0, none⟩ = some (.int .i64 da)
  a1 : W.cell? ⟨B, 1, none⟩ = some s1
  b0 : W.cell? ⟨B + 1, 0, none⟩ = some (.int .i64 db)
  b1 : W.cell? ⟨B + 1, 1, none⟩ = some s2
  r0 : W.cell? ⟨B + 1 + 1, 0, none⟩ = some (.int .i64 0)
  r1 : W.cell? ⟨B + 1 + 1, 1, none⟩ = some (.slice none 0 0)
  f0 : W.frozen? ⟨B + 1 + 1, 0, none⟩ = false
  f1 : W.frozen? ⟨B + 1 + 1, 1, none⟩ = false
  l1 : LogAt W s1 n1 (pOf t1) (cOf t1)
  l2 : LogAt W s2 n2 (pOf t2) (cOf t2)
theorem AddKeeps.later {B da db : Nat} {s1 s2 : Value} {n1 n2 : Nat} {t1 t2 : List (Int × Int)} {W W' : World} (h : AddKeeps B da db s1 s2 n1 n2 t1 t2 W) (hb : Below W.heap.size W W') : AddKeeps B da db s1 s2 n1 n2 t1 t2 W' :=
  ⟨(cell_past h.a0 hb).2, (cell_past h.a1 hb).2, (cell_past h.b0 hb).2, (cell_past h.b1 hb).2, (cell_past h.r0 hb).2, (cell_past h.r1 hb).2, (frozen_past h.r0 h.f0 hb).2, (frozen_past h.r1 h.f1 hb).2, h.l1.later hb, h.l2.later hb⟩

theorem box_past {w3 w4 : World} {x y : Value} {t : TypeId} (hb : Below ((w3.alloc (.cells #[x, y] t)).drew).heap.size ((w3.alloc (.cells #[x, y] t)).drew) w4) : w4.cell? ⟨w3.heap.size, 0, none⟩ = some x ∧ w4.cell? ⟨w3.heap.size, 1, none⟩ = some y ∧ w4.frozen? ⟨w3.heap.size, 0, none⟩ = false ∧ w4.frozen? ⟨w3.heap.size, 1, none⟩ = false := by
  have h : Below (w3.alloc (.cells #[x, y] t)).heap.size (w3.alloc (.cells #[x, y] t)) w4 := below_chain ((Below.refl _ _).drew) hb
  have c0 : (w3.alloc (.cells #[x, y] t)).cell? ⟨w3.heap.size, 0, none⟩ = some x := by rw [World.cell?_alloc_at _ _ _ _ rfl]; rfl
  have c1 : (w3.alloc (.cells #[x, y] t)).cell? ⟨w3.heap.size, 1, none⟩ = some y := by rw [World.cell?_alloc_at _ _ _ _ rfl]; rfl
  exact ⟨(cell_past c0 h).2, (cell_past c1 h).2, (frozen_past c0 (frozen_new rfl) h).2, (frozen_past c1 (frozen_new rfl) h).2⟩
theorem below_set {w3 w4 : World} (hc : Below w3.heap.size w3 w4) (x y : Value) : Below w3.heap.size w3 ((w4.setCell ⟨w3.heap.size, 0, none⟩ x).setCell ⟨w3.heap.size, 1, none⟩ y) := (hc.setCell (Nat.le_refl _) _).setCell (Nat.le_refl _) _
theorem quo_i64 {a b : Nat} (h : a ≤ 1000000) : IntKind.i64.wrap ((a : Int) / (b : Int)) = ((a / b : Nat) : Int) := by
  have h0 : (a : Int) / (b : Int) = ((a / b : Nat) : Int) := by simp
  have h1 : a / b ≤ a := Nat.div_le_self _ _
  rw [h0, IntKind.wrap_i64]
  generalize a / b = q at h1
  omega
theorem below_alloc {w W : World} (h : Below w.heap.size w W) (X : Obj) : Below w.heap.size w (W.alloc X) := h.alloc h.size X

/-- The new sum's box and its map. -/
structure SumBox (w3 wx : World) (Bs mb : Nat) (D : Int) : Prop where
  below : Below w3.heap.size w3 wx
  s0 : wx.cell? ⟨Bs, 0, none⟩ = some (.int .i64 D)
  s1 : wx.cell? ⟨Bs, 1, none⟩ = some (.map (some mb))
  own : wx.ownsMap Tryz.prog 3 (plainElem (H := Unit) Tryz.prog 3) mb 0 (mapOf [])
  hB : w3.heap.size ≤ Bs
  hm : w3.heap.size ≤ mb
theorem sumBox_late {w3 w4 : World} {D : Int} (ho : w4.ownsMap Tryz.prog 3 (plainElem (H := Unit) Tryz.prog 3) (w3.heap.size + 1) 0 (.map [])) (hc : Below w3.heap.size w3 w4) : SumBox w3 (w4.alloc (.cells #[.int .i64 D, .map (some (w3.heap.size + 1))] 145)) w4.heap.size (w3.heap.size + 1) D :=
  ⟨below_alloc hc _, by rw [World.cell?_alloc_at _ _ _ _ rfl]; rfl, by rw [World.cell?_alloc_at _ _ _ _ rfl]; rfl, ownsMap_later ho (Below.heap_alloc _ _ _ ho.lt), hc.size, by omega⟩
theorem sumBox_soon {w3 w4 : World} {D : Int} {u v : Value} (ho : w4.ownsMap Tryz.prog 3 (plainElem (H := Unit) Tryz.prog 3) (w3.heap.size + 1 + 1) 0 (.map [])) (hc : Below w3.heap.size w3 w4) (h0 : w4.cell? ⟨w3.heap.size, 0, none⟩ = some u) (h1 : w4.cell? ⟨w3.heap.size, 1, none⟩ = some v) :
    SumBox w3 ((w4.setCell ⟨w3.heap.size, 0, none⟩ (.int .i64 D)).setCell ⟨w3.heap.size, 1, none⟩ (.map (some (w3.heap.size + 1 + 1)))) w3.heap.size (w3.heap.size + 1 + 1) D := by
  refine ⟨below_set hc _ _, ?_, ?_, ownsMap_later ho ?_, Nat.le_refl _, by omega⟩
  · rw [World.cell?_setCell_other _ _ _ _ (by simp)]; exact World.cell?_setCell_same _ _ _ h0
  · exact World.cell?_setCell_same _ _ _ (by rw [World.cell?_setCell_other _ _ _ _ (by simp)]; exact h1)
  · rw [Below.heap_setCell _ _ _ _ (by show w3.heap.size + 1 + 1 ≠ w3.heap.size; omega), Below.heap_setCell _ _ _ _ (by show w3.heap.size + 1 + 1 ≠ w3.heap.size; omega)]
theorem grown_below {w3 W W' : World} {mb : Nat} (h : Below w3.heap.size w3 W) (hg : W.grownBy W' (some mb)) (hm : w3.heap.size ≤ mb) : Below w3.heap.size w3 W' :=
  h.grown hg h.size (fun k e => by cases e; exact hm)

set_option maxRecDepth 100000 in
set_option maxHeartbeats 2000000 in
theorem Add_ok (da db : Nat) (ad1 ad2 : Option Addr) (cap1 cap2 : Nat) (t1 t2 : List (Int × Int)) (a : Nat → Addr) (w : World) (h : Errs w a) (hl1 : LogAt w (.slice ad1 t1.length cap1) t1.length (pOf t1) (cOf t1)) (hl2 : LogAt w (.slice ad2 t2.length cap2) t2.length (pOf t2) (cOf t2))
    (hok1 : OkLog da t1.length (pOf t1) (cOf t1)) (hok2 : OkLog db t2.length (pOf t2) (cOf t2)) (hn : t1.length + t2.length ≤ 10000) (g : Nat) (hg : g = Int.gcd (da : Int) (db : Int))
    (hfit : ∀ l, Rising l → (∀ x, atL l x = atL t1 x * ((db / g : Nat) : Int) + atL t2 x * ((da / g : Nat) : Int)) → ∃ G : Nat, gcdL ((da / g * db : Nat) : Int) (atL l) (l.map Prod.fst) l.length = G ∧ ((da / g * db : Nat) : Int) / (G : Int) ≤ 1000000 ∧ ∀ e ∈ l, (e.2.tdiv (G : Int)).natAbs ≤ 1099511627776) :
    Calls Tryz.prog 75 #[.agg #[.int .i64 da, .slice ad1 t1.length cap1], .agg #[.int .i64 db, .slice ad2 t2.length cap2]] w fun e w' => ∃ (v : Value) (l : List (Int × Int)) (G : Nat), Rising l ∧ (∀ x, atL l x = atL t1 x * ((db / g : Nat) : Int) + atL t2 x * ((da / g : Nat) : Int)) ∧ gcdL ((da / g * db : Nat) : Int) (atL l) (l.map Prod.fst) l.length = G ∧
      e = .returned (.tuple #[.agg #[.int .i64 (((da / g * db : Nat) : Int) / (G : Int)), v], .nilIface]) ∧ ListAt w' v (overL G l) ∧ l.length ≤ t1.length + t2.length ∧ Below w.heap.size w w' := by
  have hb0 : Below w.heap.size w (((w.alloc (.cells #[.int .i64 da, .slice ad1 t1.length cap1] 30)).alloc (.cells #[.int .i64 db, .slice ad2 t2.length cap2] 30)).alloc (.cells #[.int .i64 0, .slice none 0 0] 30)) := (((Below.refl _ _).alloc (Nat.le_refl _) _).alloc (by simp) _).alloc (by simp; omega) _
  have hk0 : AddKeeps w.heap.size da db (.slice ad1 t1.length cap1) (.slice ad2 t2.length cap2) t1.length t2.length t1 t2 (((w.alloc (.cells #[.int .i64 da, .slice ad1 t1.length cap1] 30)).alloc (.cells #[.int .i64 db, .slice ad2 t2.length cap2] 30)).alloc (.cells #[.int .i64 0, .slice none 0 0] 30)) :=
    ⟨by rw [World.cell?_alloc_lt _ _ ⟨w.heap.size, 0, none⟩ (by simp; omega), World.cell?_alloc_lt _ _ ⟨w.heap.size, 0, none⟩ (by simp), World.cell?_alloc_at _ _ _ _ rfl]; rfl,
     by rw [World.cell?_alloc_lt _ _ ⟨w.heap.size, 1, none⟩ (by simp; omega), World.cell?_alloc_lt _ _ ⟨w.heap.size, 1, none⟩ (by simp), World.cell?_alloc_at _ _ _ _ rfl]; rfl,
     by rw [World.cell?_alloc_lt _ _ ⟨w.heap.size + 1, 0, none⟩ (by simp), World.cell?_alloc_at _ _ _ _ (by simp)]; rfl,
     by rw [World.cell?_alloc_lt _ _ ⟨w.heap.size + 1, 1, none⟩ (by simp), World.cell?_alloc_at _ _ _ _ (by simp)]; rfl,
     by rw [World.cell?_alloc_at _ _ _ _ (by simp)]; rfl, by rw [World.cell?_alloc_at _ _ _ _ (by simp)]; rfl, frozen_new (by simp), frozen_new (by simp), hl1.later hb0, hl2.later hb0⟩
  generalize hW0 : (((w.alloc (.cells #[.int .i64 da, .slice ad1 t1.length cap1] 30)).alloc (.cells #[.int .i64 db, .slice ad2 t2.length cap2] 30)).alloc (.cells #[.int .i64 0, .slice none 0 0] 30)) = W0 at hb0 hk0
  have hv1 := Valid_log da _ t1.length (pOf t1) (cOf t1) a true ⟨fun _ => hok1, fun _ => rfl⟩ W0 (h.below hb0) hk0.l1 (by omega)
  simp only [shapeErr] at hv1
  have HE := Hid.mk' (h.below hb0)
  have HK0 := Hid.mk' hk0
  have HB0 := Hid.mk' hb0
  have HW0 := Hid.mk' hW0
  have HO1 := Hid.mk' hok1
  have HO2 := Hid.mk' hok2
  have HG := Hid.mk' hg
  have HF := Hid.mk' hfit
  have hd1 : 1 ≤ da ∧ da ≤ 1000000 := by have := hok1.1; have := hok1.2.1; omega
  have hd2 : 1 ≤ db ∧ db ≤ 1000000 := by have := hok2.1; have := hok2.2.1; omega
  clear h hl1 hl2 hok1 hok2 hb0 hk0 hW0 hg hfit
  go_enter Tryz.func75, Tryz.ntmps75
  go_wp2_with fail
  rw [HW0.out]
  refine hv1.mono ?_
  clear hv1 HW0
  rintro e w1 ⟨rfl, hb1⟩
  have HK1 := Hid.mk' (HK0.out.later hb1)
  have c1 := HK1.out.b0
  have c2 := HK1.out.b1
  have hv2 := Valid_log db _ t2.length (pOf t2) (cOf t2) a true ⟨fun _ => HO2.out, fun _ => rfl⟩ w1 (HE.out.below hb1) HK1.out.l2 (by omega)
  simp only [shapeErr] at hv2
  have HB1 := Hid.mk' (below_chain HB0.out hb1)
  clear hb1 HK0 HB0 HE
  go_wp2_with fail
  refine hv2.mono ?_
  clear hv2 c1 c2
  rintro e w2 ⟨rfl, hb2⟩
  have HK2 := Hid.mk' (HK1.out.later hb2)
  have HB2 := Hid.mk' (below_chain HB1.out hb2)
  have c0 := HK2.out.a0
  have c1 := HK2.out.b0
  clear hb2 HK1 HB1
  have hg1 : 1 ≤ g ∧ g ≤ da ∧ g ≤ db := by
    rw [HG.out]
    have h1 : Int.gcd (da : Int) (db : Int) ≤ da := Nat.gcd_le_left _ (by simp; omega)
    have h2 : Int.gcd (da : Int) (db : Int) ≤ db := Nat.gcd_le_right _ (by simp; omega)
    have h3 : 0 < Int.gcd (da : Int) (db : Int) := Nat.gcd_pos_of_pos_left _ (by simp; omega)
    exact ⟨h3, h1, h2⟩
  have hgcd := GCD_any (da : Int) (db : Int) w2 (by omega) (by omega) (by omega) (by omega)
  rw [← HG.out] at hgcd
  go_wp2_with fail
  refine hgcd.mono ?_
  clear hgcd
  rintro e w3 ⟨rfl, m3, hw3⟩
  have hb3 : Below w2.heap.size w2 w3 := by rw [hw3]; exact below_drewN (Below.refl _ _) _
  have HK3 := Hid.mk' (HK2.out.later hb3)
  have HB3 := Hid.mk' (below_chain HB2.out hb3)
  clear hw3 hb3 HK2 HB2 c0 c1
  have hcur0 : Below w3.heap.size w3 w3 := Below.refl _ _
  have hcur : Below w3.heap.size w3 w3.drew := (Below.refl _ _).drew
  have hgn : ¬ g = 0 := by omega
  have hqa := quo_i64 (b := g) hd1.2
  have hqb := quo_i64 (b := g) hd2.2
  have HQ := Hid.mk' (And.intro hqa hqb)
  have hda : da / g ≤ 1000000 := Nat.le_trans (Nat.div_le_self _ _) hd1.2
  have hdb : db / g ≤ 1000000 := Nat.le_trans (Nat.div_le_self _ _) hd2.2
  clear hqa hqb
  have e1 : (da : Int).tdiv (g : Int) = ((da / g : Nat) : Int) := by simp
  have e2 : IntKind.i64.wrap ((da : Int).tdiv (g : Int)) = ((da / g : Nat) : Int) := by rw [e1, IntKind.wrap_i64]; generalize da / g = q at hda; omega
  have e3 : IntKind.i64.wrap (((da / g : Nat) : Int) * (db : Int)) = ((da / g * db : Nat) : Int) := by
    have := Nat.mul_le_mul hda hd2.2
    rw [← Int.natCast_mul, IntKind.wrap_i64]
    generalize da / g * db = q at this
    omega
  have HKS : Hid (∀ W, Below w3.heap.size w3 W → W.cell? ⟨w.heap.size, 0, none⟩ = some (.int .i64 da) ∧ W.cell? ⟨w.heap.size + 1, 0, none⟩ = some (.int .i64 db)) := fun W hb => ⟨(HK3.out.later hb).a0, (HK3.out.later hb).b0⟩
  have eD : IntKind.i64.wrap (IntKind.i64.wrap ((da : Int) / (g : Int)) * (db : Int)) = ((da / g * db : Nat) : Int) := by
    rw [show IntKind.i64.wrap ((da : Int) / (g : Int)) = ((da / g : Nat) : Int) from HQ.out.1]; exact e3
  have hDb : da / g * db ≤ 1000000000000 := Nat.le_trans (Nat.mul_le_mul hda hd2.2) (by decide)
  have hDp : 1 ≤ da / g * db := Nat.mul_pos (Nat.div_pos hg1.2.1 hg1.1) hd2.1
  obtain ⟨D, hD⟩ : ∃ D, D = da / g * db := ⟨_, rfl⟩
  rw [← hD] at eD hDb hDp
  have HDD := Hid.mk' hD
  have HED := Hid.mk' eD
  clear e1 e2 e3 eD hD
  have hcurA : ∀ X, Below w3.heap.size w3 (w3.alloc X).drew := fun X => (below_alloc hcur0 X).drew
  go_wp2_with fail
  go_cut [9] from 27 (fun s wx => ∃ Bs mb : Nat, s = .pointer (some ⟨Bs, 0, none⟩) ∧ Hid (SumBox w3 wx Bs mb (D : Int)))
  case first =>
    go_region_held3 (fun W => W.cell? ⟨w.heap.size, 0, none⟩ = some (.int .i64 da) ∧ W.cell? ⟨w.heap.size + 1, 0, none⟩ = some (.int .i64 db))
      (first | (refine HKS.out _ ?_; assumption) | exact HKS.out _ (hcurA _) | (refine HKS.out _ (below_alloc ?_ _); assumption) | exact HKS.out _ (below_set hc4 _ _))
      (first
        | (go_at_call 103; refine (newSum_any _ _).mono ?_; rintro e w4 ⟨rfl, hown4, hb4⟩; have hc4 := below_chain hcur hb4)
        | (go_at_call 103; refine (newSum_any _ _).mono ?_; rintro e w4 ⟨rfl, hown4, hb4⟩; have hc4 := below_chain (hcurA _) hb4; obtain ⟨x0, x1, x2, x3⟩ := box_past hb4))
    · go_wp2_with fail
      go_meet
      rw [HED.out]
      exact ⟨_, _, rfl, sumBox_late hown4 hc4⟩
    · go_wp2_with fail
      go_meet
      rw [HED.out]
      exact ⟨_, _, rfl, sumBox_soon (by simpa using hown4) hc4 x0 x1⟩
  case rest =>
  obtain ⟨Bs, mb, rfl, HSB⟩ := hcut
  have hmb := HSB.out.hm
  have hBs := HSB.out.hB
  have hbsm : Bs ≠ mb := fun e => by have h1 := HSB.out.s0; rw [e, map_no_cell HSB.out.own] at h1; cases h1
  have hAK := fun (W : World) (hb : Below w3.heap.size w3 W) => HK3.out.later hb
  have HAK := Hid.mk' hAK
  have hm1 : 0 ≤ IntKind.i64.wrap ((db : Int) / (g : Int)) ∧ IntKind.i64.wrap ((db : Int) / (g : Int)) ≤ 1000000 := by rw [HQ.out.2]; generalize db / g = q at hdb; omega
  have hm2 : 0 ≤ IntKind.i64.wrap ((da : Int) / (g : Int)) ∧ IntKind.i64.wrap ((da : Int) / (g : Int)) ≤ 1000000 := by rw [HQ.out.1]; generalize da / g = q at hda; omega
  have HM2 := Hid.mk' hm2
  have HM1 := Hid.mk' hm1
  have hrise1 := HO1.out.rising
  have hrise2 := HO2.out.rising
  have HT1 : Hid (∀ e ∈ t1, 2 ≤ e.1 ∧ e.1 ≤ 1000000 ∧ -1099511627776 ≤ e.2 ∧ e.2 ≤ 1099511627776) := fun e he => by
    have h := HO1.out.mem e he
    exact ⟨h.2.2.2.2.1, h.1, h.2.2.1, h.2.2.2.1⟩
  have HT2 : Hid (∀ e ∈ t2, 2 ≤ e.1 ∧ e.1 ≤ 1000000 ∧ -1099511627776 ≤ e.2 ∧ e.2 ≤ 1099511627776) := fun e he => by
    have h := HO2.out.mem e he
    exact ⟨h.2.2.2.2.1, h.1, h.2.2.1, h.2.2.2.1⟩
  have HR1 := Hid.mk' hrise1
  have HR2 := Hid.mk' hrise2
  have hpt1 := putTerms_any (D : Int) (IntKind.i64.wrap ((db : Int) / (g : Int))) mb 0 ad1 cap1 [] t1 wc.drew (ownsMap_later HSB.out.own rfl) List.Pairwise.nil (fun e he => by cases he) (fun x => by simp [atL]) (HAK.out _ (HSB.out.below.drew)).l1 hrise1 HT1.out hm1 (by omega) (by omega)
  have HPT1 := Hid.mk' hpt1
  have hS9 : wc.cell? ⟨Bs, 0, none⟩ = some (.int .i64 (D : Int)) ∧ wc.cell? ⟨Bs, 1, none⟩ = some (.map (some mb)) ∧ wc.cell? ⟨w.heap.size, 1, none⟩ = some (.slice ad1 t1.length cap1) ∧ wc.cell? ⟨w.heap.size + 1, 0, none⟩ = some (.int .i64 db) := ⟨HSB.out.s0, HSB.out.s1, (HAK.out _ HSB.out.below).a1, (HAK.out _ HSB.out.below).b0⟩
  have HS9 := Hid.mk' hS9
  clear hpt1 hrise1 hrise2 hAK hS9 hm1 hm2 HK3 HKS
  go_wp2_with fail
  go_region_held3 (fun W => W.cell? ⟨Bs, 0, none⟩ = some (.int .i64 (D : Int)) ∧ W.cell? ⟨Bs, 1, none⟩ = some (.map (some mb)) ∧ W.cell? ⟨w.heap.size, 1, none⟩ = some (.slice ad1 t1.length cap1) ∧ W.cell? ⟨w.heap.size + 1, 0, none⟩ = some (.int .i64 db))
    (first | exact HS9.out | exact HS5.out)
    (first
      | (go_at_call 116; refine HPT1.out.mono ?_; rintro e w5 ⟨rfl, l1, hI1⟩; have HI1 := Hid.mk' hI1; have hB5 := grown_below HSB.out.below.drew hI1.grow hmb; have HS5 : Hid (w5.cell? ⟨Bs, 0, none⟩ = some (.int .i64 (D : Int)) ∧ w5.cell? ⟨Bs, 1, none⟩ = some (.map (some mb)) ∧ w5.cell? ⟨w.heap.size, 1, none⟩ = some (.slice ad1 t1.length cap1) ∧ w5.cell? ⟨w.heap.size + 1, 0, none⟩ = some (.int .i64 db)) := ⟨cell_beside hI1.grow HS9.out.1 hbsm, cell_beside hI1.grow HS9.out.2.1 hbsm, (HAK.out _ hB5).a1, (HAK.out _ hB5).b0⟩; clear hI1))
  have hB5 := grown_below HSB.out.below.drew HI1.out.grow hmb
  have hv1 : ∀ x, atL l1 x = atL t1 x * IntKind.i64.wrap ((db : Int) / (g : Int)) := fun x => by
    have := HI1.out.val x
    rw [List.take_length] at this
    simpa [atL] using this
  have hb1 : ∀ x, -1099511627776000000 ≤ atL l1 x ∧ atL l1 x ≤ 1099511627776000000 := fun x => by
    rw [hv1 x]
    exact prod_bd (atL_bound (B := 1099511627776) (by omega) (fun e he => ⟨(HT1.out e he).2.2.1, (HT1.out e he).2.2.2⟩) x) HM1.out
  have hln1 := HI1.out.len
  simp at hln1
  have hpt2 := putTerms_any (D : Int) (IntKind.i64.wrap ((da : Int) / (g : Int))) mb (0 + t1.length) ad2 cap2 l1 t2 w5.drew (ownsMap_later HI1.out.own rfl) HI1.out.rise HI1.out.keys hb1 (HAK.out _ hB5.drew).l2 HR2.out HT2.out HM2.out (by omega) (by omega)
  have HPT2 := Hid.mk' hpt2
  have HV1 := Hid.mk' hv1
  have HS7 : Hid (w5.cell? ⟨Bs, 0, none⟩ = some (.int .i64 (D : Int)) ∧ w5.cell? ⟨Bs, 1, none⟩ = some (.map (some mb)) ∧ w5.cell? ⟨w.heap.size + 1, 1, none⟩ = some (.slice ad2 t2.length cap2) ∧ w5.cell? ⟨w.heap.size, 0, none⟩ = some (.int .i64 da)) := ⟨HS5.out.1, HS5.out.2.1, (HAK.out _ hB5).b1, (HAK.out _ hB5).a0⟩
  have HB5 := Hid.mk' hB5
  clear hpt2 hv1 hb1 HS5 HS9 hB5
  go_wp2_with fail
  go_region_held3 (fun W => W.cell? ⟨Bs, 0, none⟩ = some (.int .i64 (D : Int)) ∧ W.cell? ⟨Bs, 1, none⟩ = some (.map (some mb)) ∧ W.cell? ⟨w.heap.size + 1, 1, none⟩ = some (.slice ad2 t2.length cap2) ∧ W.cell? ⟨w.heap.size, 0, none⟩ = some (.int .i64 da))
    (first | exact HS7.out | exact HS8.out)
    (first
      | (go_at_call 116; refine HPT2.out.mono ?_; rintro e w6 ⟨rfl, l2, hI2⟩; have HI2 := Hid.mk' hI2; have hB6 := grown_below HB5.out.drew hI2.grow hmb; have HS8 : Hid (w6.cell? ⟨Bs, 0, none⟩ = some (.int .i64 (D : Int)) ∧ w6.cell? ⟨Bs, 1, none⟩ = some (.map (some mb)) ∧ w6.cell? ⟨w.heap.size + 1, 1, none⟩ = some (.slice ad2 t2.length cap2) ∧ w6.cell? ⟨w.heap.size, 0, none⟩ = some (.int .i64 da)) := ⟨cell_beside hI2.grow HS7.out.1 hbsm, cell_beside hI2.grow HS7.out.2.1 hbsm, (HAK.out _ hB6).b1, (HAK.out _ hB6).a0⟩; clear hI2))
  have hB6 := grown_below HB5.out.drew HI2.out.grow hmb
  have hv2 : ∀ x, atL l2 x = atL t1 x * ((db / g : Nat) : Int) + atL t2 x * ((da / g : Nat) : Int) := fun x => by
    have h1 := HI2.out.val x
    rw [List.take_length, HV1.out x, HQ.out.1, HQ.out.2] at h1
    exact h1
  obtain ⟨G, hG, hGd, hGq⟩ := HF.out l2 HI2.out.rise hv2
  have hln2 := HI2.out.len
  have hbd2 : ∀ x, -2305843009213693952 ≤ atL l2 x ∧ atL l2 x ≤ 2305843009213693952 := fun x => by
    have h1 := prod_bd (atL_bound (B := 1099511627776) (by omega) (fun e he => ⟨(HT1.out e he).2.2.1, (HT1.out e he).2.2.2⟩) x) HM1.out
    have h2 := prod_bd (atL_bound (B := 1099511627776) (by omega) (fun e he => ⟨(HT2.out e he).2.2.1, (HT2.out e he).2.2.2⟩) x) HM2.out
    rw [hv2 x, ← HQ.out.1, ← HQ.out.2]
    omega
  rw [← HDD.out] at hG hGd
  have ht := told_list (D : Int) mb _ l2 w6 HI2.out.own HI2.out.rise HI2.out.keys (by omega) hbd2 (by omega) (by omega) G hG hGd hGq
  have HRES := Hid.mk' (And.intro HI2.out.rise (And.intro hv2 (And.intro hG hln2)))
  have x0 := HS8.out.1
  have x1 := HS8.out.2.1
  have HB6 := Hid.mk' hB6
  clear hv2 hG hGd hGq hbd2 hB6 HS7 HS8
  go_wp2_with fail
  refine ht.mono ?_
  clear ht x0 x1
  rintro e w7 ⟨v, rfl, hrow, hb7⟩
  have hB7 := below_chain HB6.out hb7
  have HA7 := Hid.mk' (HAK.out _ hB7)
  have c0 := HA7.out.r0
  have c1 := HA7.out.r1
  have d0 := HA7.out.f0
  have d1 := HA7.out.f1
  have HR := Hid.mk' hrow
  have HB8 := Hid.mk' (below_chain HB3.out hB7)
  have z3 := cell_lt (HAK.out w3 (Below.refl _ _)).r0
  simp only at z3
  have z6 := HB6.out.size
  obtain ⟨ad, n', c', rfl⟩ : ∃ ad n' c', v = .slice ad n' c' := by
    rcases hrow.2 with ⟨rfl, _⟩ | ⟨gg, cap', cur', rfl, _⟩
    · exact ⟨_, _, _, rfl⟩
    · exact ⟨_, _, _, rfl⟩
  clear hrow hb7 hB7
  go_wp2_with fail
  refine bodyPost_ret (v := .tuple #[.agg #[.int .i64 ((D : Int) / (G : Int)), .slice ad n' c'], .nilIface]) (by simp [results, Tryz.results75, go_sem, c0, c1]) rfl ⟨.slice ad n' c', l2, G, HRES.out.1, HRES.out.2.1, by rw [← HDD.out]; exact HRES.out.2.2.1, by rw [← HDD.out], ?_, ?_, ?_⟩
  · have h1 := ownsRow_setCell_below HR.out (a := ⟨w.heap.size + 1 + 1, 0, none⟩) (by show w.heap.size + 1 + 1 < _; omega) (.int .i64 ((D : Int) / (G : Int)))
    have h2 := ownsRow_setCell_below h1 (a := ⟨w.heap.size + 1 + 1, 1, none⟩) (by show w.heap.size + 1 + 1 < _; omega) (.slice ad n' c')
    exact ownAt_of_row h2
  · have := HRES.out.2.2.2
    omega
  · exact (HB8.out.setCell (by simp; omega) _).setCell (by simp; omega) _
end Go.Proofs.YtphecjjblnnjdaaGreatDoor

/- (sum).told in general: a form, or ErrBound. -/
namespace Go.Proofs.YtphecjjblnnjdaaGreatDoor
open Go.RowKit Go.Maps Go.Sort Go.Shelf

theorem all_next {cf : Int → Int} {G : Nat} {ks : List Int} {k : Nat} {p : Int} (ht : ks.take (k + 1) = ks.take k ++ [p]) (h : ∀ x ∈ ks.take k, (quo cf G x).natAbs ≤ 1099511627776) (hp : (quo cf G p).natAbs ≤ 1099511627776) : Hid (∀ x ∈ ks.take (k + 1), (quo cf G x).natAbs ≤ 1099511627776) := fun x hx => by
  rw [ht, List.mem_append] at hx
  rcases hx with hx | hx
  · exact h x hx
  · rw [List.mem_singleton] at hx; rw [hx]; exact hp

set_option maxRecDepth 100000 in
set_option maxHeartbeats 2000000 in
/-- told: a sum that has a form, or ErrBound. -/
theorem told_any (den : Int) (b nn : Nat) (D : DataW Unit) (cf : Int → Int) (ks : List Int) (w : World) (hown : w.ownsMap Tryz.prog 3 (plainElem Tryz.prog 3) b nn D)
    (hat : ∀ x, D.atKey (.int .i64 x) (.lit (.int .i64 0)) = .lit (.int .i64 (cf x))) (hks : ∀ ss : List Int, ss.Perm (intKeys D) → ss.mergeSort (fun x y => decide (x ≤ y)) = ks) (hsz : Maps.size D ≤ 100000) (hlen : ks.length ≤ 100000)
    (hwf : ∀ x ∈ ks, (Lit.int .i64 x).wf = true) (hd1 : 1 ≤ den) (hd2 : den ≤ 1000000000000) (hcf : ∀ x, -2305843009213693952 ≤ cf x ∧ cf x ≤ 2305843009213693952)
    (G : Nat) (hG : gcdL den cf ks ks.length = G) (a : Nat → Addr) (hE : Errs w a) (fit : Bool) (hfit : fit = true ↔ (den / (G : Int) ≤ 1000000 ∧ ∀ x ∈ ks, (quo cf G x).natAbs ≤ 1099511627776)) :
    Calls Tryz.prog 105 #[.agg #[.int .i64 den, .map (some b)]] w fun e w' => ((fit = true ∧ ∃ v, e = .returned (.tuple #[.agg #[.int .i64 (den / (G : Int)), v], .nilIface]) ∧ w'.ownsRow w.heap.size 99 2 v (countOf (quo cf G) ks) (termsOf (quo cf G) ks)) ∨ (fit = false ∧ e = .returned (.tuple #[.agg #[.int .i64 0, .slice none 0 0], .iface 245 (.pointer (some (a 1)))]))) ∧ Below w.heap.size w w' := by
  have hbl := hown.lt
  have HK : Hid (∀ ss : List Int, ss.Perm (intKeys D) → ss.mergeSort (fun x y => decide (x ≤ y)) = ks) := hks
  have HAT : Hid (∀ x, D.atKey (.int .i64 x) (.lit (.int .i64 0)) = .lit (.int .i64 (cf x))) := hat
  have HWF : Hid (∀ x ∈ ks, (Lit.int .i64 x).wf = true) := hwf
  have HCF : Hid (∀ x, -2305843009213693952 ≤ cf x ∧ cf x ≤ 2305843009213693952) := hcf
  have HG : Hid (gcdL den cf ks ks.length = G) := hG
  have HFIT := Hid.mk' hfit
  have HERR := Hid.mk' hE
  clear hks hat hwf hcf hG hfit hE
  have hb3 : Below w.heap.size w (((w.alloc (.cells #[.int .i64 den, .map (some b)] 145)).alloc (.cells #[.int .i64 0, .slice none 0 0] 30)).alloc (.cells #[.map (some b)] 143)) := (((Below.refl _ _).alloc (Nat.le_refl _) _).alloc (by simp) _).alloc (by simp; omega) _
  have hk := maps_keys (some b) ((w.alloc (.cells #[.int .i64 den, .map (some b)] 145)).alloc (.cells #[.int .i64 0, .slice none 0 0] 30))
  have hs := sorted_keys (w.heap.size + 1 + 1) b nn D _ (((w.alloc (.cells #[.int .i64 den, .map (some b)] 145)).alloc (.cells #[.int .i64 0, .slice none 0 0] 30)).alloc (.cells #[.map (some b)] 143)) (by rw [World.cell?_alloc_at _ _ _ _ (by simp)]; rfl) (by simp) (ownsMap_later hown (hb3.block b hbl)) (by unfold maxLen; omega) (by omega)
  go_enter Tryz.func105, Tryz.ntmps105
  go_wp2_with fail
  refine hk.mono ?_
  clear hk
  rintro e w1 ⟨rfl, rfl⟩
  go_wp2_with fail
  refine hs.mono ?_
  clear hs
  rintro e w2 ⟨v, ss, rfl, hperm, hrow, hnil, hb4⟩
  have hms := HK.out ss hperm
  rw [hms] at hrow
  have hsl : ss.length = ks.length := by rw [← hms]; simp
  rw [hsl] at hrow
  rcases hrow.2 with ⟨rfl, hz⟩ | ⟨g, cap, cur, rfl, hbase, hgb, r1, r2, r3, r4⟩
  · obtain rfl : ks = [] := List.eq_nil_of_length_eq_zero hz
    have hs4 := hb4.size
    simp at hs4
    have hbA := hb3.trans (hb4.mono (show w.heap.size ≤ _ by simp; omega))
    have x0 : w2.cell? ⟨w.heap.size, 0, none⟩ = some (.int .i64 den) := by
      rw [hb4.cell (p := ⟨w.heap.size, 0, none⟩) (by simp; omega), World.cell?_alloc_lt _ _ ⟨w.heap.size, 0, none⟩ (by simp; omega), World.cell?_alloc_lt _ _ ⟨w.heap.size, 0, none⟩ (by simp), World.cell?_alloc_at _ _ _ _ rfl]; rfl
    have z0 : w2.cell? ⟨w.heap.size + 1, 0, none⟩ = some (.int .i64 0) := by
      rw [hb4.cell (p := ⟨w.heap.size + 1, 0, none⟩) (by simp), World.cell?_alloc_lt _ _ ⟨w.heap.size + 1, 0, none⟩ (by simp), World.cell?_alloc_at _ _ _ _ (by simp)]; rfl
    have z1 : w2.cell? ⟨w.heap.size + 1, 1, none⟩ = some (.slice none 0 0) := by
      rw [hb4.cell (p := ⟨w.heap.size + 1, 1, none⟩) (by simp), World.cell?_alloc_lt _ _ ⟨w.heap.size + 1, 1, none⟩ (by simp), World.cell?_alloc_at _ _ _ _ (by simp)]; rfl
    have f0 : w2.frozen? ⟨w.heap.size + 1, 0, none⟩ = false := by
      rw [hb4.frozen (p := ⟨w.heap.size + 1, 0, none⟩) (by simp), World.frozen?_alloc_old _ _ ⟨w.heap.size + 1, 0, none⟩ (by simp)]; exact frozen_new (by simp)
    have f1 : w2.frozen? ⟨w.heap.size + 1, 1, none⟩ = false := by
      rw [hb4.frozen (p := ⟨w.heap.size + 1, 1, none⟩) (by simp), World.frozen?_alloc_old _ _ ⟨w.heap.size + 1, 1, none⟩ (by simp)]; exact frozen_new (by simp)
    obtain rfl : den.natAbs = G := HG.out
    have hG1 : (den.natAbs : Int) = den := by omega
    have hdd : den / den = 1 := Int.ediv_self (by omega)
    have HDD : Hid (den / (den.natAbs : Int) = 1) := by show _ = _; rw [hG1, hdd]
    have HBA : Hid (Below w.heap.size w w2) := hbA
    have hft : fit = true := HFIT.out.2 ⟨by rw [hG1, hdd]; omega, fun x hx => by cases hx⟩
    have HFT := Hid.mk' hft
    clear hrow hnil hb4 hb3 hbA HG hG1 hft
    have y0 : ∀ X, (w2.alloc X).cell? ⟨w.heap.size + 1, 0, none⟩ = some (.int .i64 0) := fun X => by rw [World.cell?_alloc_lt _ _ ⟨w.heap.size + 1, 0, none⟩ (by show w.heap.size + 1 < _; omega)]; exact z0
    have y1 : ∀ X, (w2.alloc X).cell? ⟨w.heap.size + 1, 1, none⟩ = some (.slice none 0 0) := fun X => by rw [World.cell?_alloc_lt _ _ ⟨w.heap.size + 1, 1, none⟩ (by show w.heap.size + 1 < _; omega)]; exact z1
    have g0 : ∀ X, (w2.alloc X).frozen? ⟨w.heap.size + 1, 0, none⟩ = false := fun X => by rw [World.frozen?_alloc_old _ _ ⟨w.heap.size + 1, 0, none⟩ (by show w.heap.size + 1 ≠ _; omega)]; exact f0
    have g1 : ∀ X, (w2.alloc X).frozen? ⟨w.heap.size + 1, 1, none⟩ = false := fun X => by rw [World.frozen?_alloc_old _ _ ⟨w.heap.size + 1, 1, none⟩ (by show w.heap.size + 1 ≠ _; omega)]; exact f1
    go_wp2_with fail
    refine wp_loop_rounds 1 ?_
    rw [rounds_succ]
    go_wp2_with fail
    refine wp_loop_rounds 1 ?_
    rw [rounds_succ]
    go_wp2_with fail
    refine bodyPost_ret (v := .tuple #[.agg #[.int .i64 1, .slice none 0 0], .nilIface]) (by simp [results, Tryz.results105, go_sem, y0, y1]) rfl ⟨Or.inl ⟨HFT.out, .slice none 0 0, by rw [HDD.out], ⟨rfl, Or.inl ⟨rfl, rfl⟩⟩⟩, ?_⟩
    exact ((HBA.out.alloc HBA.out.size _).setCell (by simp) _).setCell (by simp) _
  · have hI : InTold w w2 den b nn D g ks := by
      have hs4 := hb4.size
      simp at hs4
      refine ⟨?_, ?_, ?_, ?_, ?_, ?_, ?_, hb3.trans (hb4.mono (by simp; omega)), by omega, ?_⟩
      · rw [hb4.cell (p := ⟨w.heap.size, 0, none⟩) (by simp; omega), World.cell?_alloc_lt _ _ ⟨w.heap.size, 0, none⟩ (by simp; omega), World.cell?_alloc_lt _ _ ⟨w.heap.size, 0, none⟩ (by simp), World.cell?_alloc_at _ _ _ _ rfl]; rfl
      · rw [hb4.cell (p := ⟨w.heap.size, 1, none⟩) (by simp; omega), World.cell?_alloc_lt _ _ ⟨w.heap.size, 1, none⟩ (by simp; omega), World.cell?_alloc_lt _ _ ⟨w.heap.size, 1, none⟩ (by simp), World.cell?_alloc_at _ _ _ _ rfl]; rfl
      · rw [hb4.cell (p := ⟨w.heap.size + 1, 0, none⟩) (by simp), World.cell?_alloc_lt _ _ ⟨w.heap.size + 1, 0, none⟩ (by simp), World.cell?_alloc_at _ _ _ _ (by simp)]; rfl
      · rw [hb4.cell (p := ⟨w.heap.size + 1, 1, none⟩) (by simp), World.cell?_alloc_lt _ _ ⟨w.heap.size + 1, 1, none⟩ (by simp), World.cell?_alloc_at _ _ _ _ (by simp)]; rfl
      · rw [hb4.frozen (p := ⟨w.heap.size + 1, 0, none⟩) (by simp), World.frozen?_alloc_old _ _ ⟨w.heap.size + 1, 0, none⟩ (by simp)]; exact frozen_new (by simp)
      · rw [hb4.frozen (p := ⟨w.heap.size + 1, 1, none⟩) (by simp), World.frozen?_alloc_old _ _ ⟨w.heap.size + 1, 1, none⟩ (by simp)]; exact frozen_new (by simp)
      · exact ownsMap_later hown ((hb4.block b (by simp; omega)).trans (hb3.block b hbl))
      · intro i hi
        have : w2.cell? ⟨g, i, none⟩ = cur[i]? := by simp [World.cell?, hgb]
        have h5 : cur.toList[i]? = (ks.map encZ)[i]? := by rw [← r4, List.getElem?_take_of_lt (by omega)]
        rw [this, ← Array.getElem?_toList, h5]
        simp [encZ, hi]
    have HI : Hid (InTold w w2 den b nn D g ks) := hI
    clear hI hrow hnil hgb r4 r3 hb4 hb3
    have x0 := HI.out.box0
    go_wp2_with fail
    clear x0
    go_loopw [5, 20] (fun t i wr => ∃ k : Nat, k ≤ ks.length ∧ t = .int .i64 (gcdL den cf ks k) ∧ i = .int .i64 k ∧ Hid (InTold w wr den b nn D g ks)) (fun _ i _ => ks.length - (intOf i).toNat)
    case atStart => exact ⟨0, Nat.zero_le _, by show _ = Value.int IntKind.i64 ((den.natAbs : Nat) : Int); congr 1; omega, rfl, HI⟩
    case round =>
      clear HI
      obtain ⟨k, hk, rfl, rfl, HI⟩ := hrel
      have hgp := gcdTo_pos den (fun i => cf (ks.getD i 0)) hd1 k
      have HGP : Hid (1 ≤ gcdL den cf ks k ∧ gcdL den cf ks k ≤ den.natAbs) := hgp
      clear hgp
      have hg1 : 1 ≤ gcdL den cf ks k := HGP.out.1
      have hg2 : (gcdL den cf ks k : Int) ≤ 1000000000000 := by have := HGP.out.2; omega
      have x0 := HI.out.box0
      have x1 := HI.out.box1
      by_cases hlt : k < ks.length
      · have hck := HI.out.keys k hlt
        have hc1 := (HCF.out (ks.getD k 0)).1
        have hc2 := (HCF.out (ks.getD k 0)).2
        have hmem : ks.getD k 0 ∈ ks := by
          rw [List.getD_eq_getElem?_getD, List.getElem?_eq_getElem hlt]; exact List.getElem_mem hlt
        have hkey : keyOf Tryz.prog 3 (.int .i64 (ks.getD k 0)) = some (.int .i64 (ks.getD k 0)) := keyOf_int_mk Tryz.underlying3 (HWF.out _ hmem)
        have HKEY : Hid (keyOf Tryz.prog 3 (.int .i64 (ks.getD k 0)) = some (.int .i64 (ks.getD k 0))) := hkey
        obtain ⟨p, hp⟩ : ∃ p, p = ks.getD k 0 := ⟨_, rfl⟩
        have HP : Hid (p = ks.getD k 0) := hp
        rw [← hp] at hck hc1 hc2 HKEY
        clear hkey hmem hp
        go_wp2_with (first
          | (at_lookup; go_must (refine wpList_lookup_own_int _ rfl _ _ 143 rfl 3 3 .i64 Tryz.lawInt Tryz.underlying143 Tryz.underlying3 (Tryz.zeroInt _) b nn D rfl HI.out.own _ _ rfl HKEY.out ?_; intro c hat hwc; have hcc := coef_of HAT.out hat; clear hat hwc; subst hcc))
          | (go_at_call 115; refine (GCD_any _ _ _ (by omega) (by omega) (by omega) (by omega)).mono ?_; rintro e w' ⟨rfl, mm, rfl⟩))
        exact ⟨⟨k + 1, by omega, by show _ = Value.int IntKind.i64 ((Int.gcd (gcdL den cf ks k : Int) (cf (ks.getD k 0)) : Nat) : Int); rw [← HP.out], by go_num, HI.out.drewN mm⟩, by simp [intOf]; omega⟩
      · obtain rfl : k = ks.length := by omega
        have HG' := HG.out
        rw [HG'] at hg1 hg2 HGP ⊢
        clear HG'
        obtain ⟨i0, hi, hz0, hz1, hz2⟩ := info_parts Tryz.infoTerm
        have HINF : Hid (Tryz.prog.info? 99 = some i0 ∧ i0.zero = some (.agg #[.int .i64 0, .int .i64 0]) ∧ i0.size = 2 ∧ i0.bytes = 16) := ⟨hi, hz0, hz1, hz2⟩
        clear hi hz0 hz1 hz2
        have HS0 : Hid (InOut wr (wr.alloc (.cells #[.int .i64 (den / (G : Int)), .slice none 0 0] 30)) (den / (G : Int)) (.slice none 0 0) 0 []) := InOut.start wr _
        have hdq0 : 0 ≤ den / (G : Int) := Int.ediv_nonneg (by omega) (by omega)
        have HIN : Hid (InTold w wr den b nn D g ks) := HI.out
        clear HI
        by_cases hdq : den / (G : Int) ≤ 1000000
        case neg =>
          have hff : fit = false := not_true_of HFIT.out (fun h => hdq h.1)
          have hdq2 : den / (G : Int) ≤ 1000000000000 := Int.le_trans (Int.ediv_le_self _ (by omega)) hd2
          have hdq3 : 1000000 < den / (G : Int) := by omega
          have hbg := HIN.out.big
          have y0 : ∀ X, (wr.alloc X).cell? ⟨w.heap.size + 1, 0, none⟩ = some (.int .i64 0) := fun X => by rw [World.cell?_alloc_lt _ _ ⟨w.heap.size + 1, 0, none⟩ (cell_lt HIN.out.res0)]; exact HIN.out.res0
          have y1 : ∀ X, (wr.alloc X).cell? ⟨w.heap.size + 1, 1, none⟩ = some (.slice none 0 0) := fun X => by rw [World.cell?_alloc_lt _ _ ⟨w.heap.size + 1, 1, none⟩ (cell_lt HIN.out.res1)]; exact HIN.out.res1
          have g0 : ∀ X, (wr.alloc X).frozen? ⟨w.heap.size + 1, 0, none⟩ = false := fun X => by rw [World.frozen?_alloc_old _ _ ⟨w.heap.size + 1, 0, none⟩ (Nat.ne_of_lt (cell_lt HIN.out.res0))]; exact HIN.out.fr0
          have g1 : ∀ X, (wr.alloc X).frozen? ⟨w.heap.size + 1, 1, none⟩ = false := fun X => by rw [World.frozen?_alloc_old _ _ ⟨w.heap.size + 1, 1, none⟩ (Nat.ne_of_lt (cell_lt HIN.out.res1))]; exact HIN.out.fr1
          have ye : ∀ X, (wr.alloc X).cell? ⟨2, 0, none⟩ = some (.iface 245 (.pointer (some (a 1)))) := fun X => (HERR.out.below (HIN.out.below.alloc HIN.out.below.size X)).c1
          have ys : ∀ X, ((wr.alloc X).setCell ⟨w.heap.size + 1, 0, none⟩ (.int .i64 0)).cell? ⟨2, 0, none⟩ = some (.iface 245 (.pointer (some (a 1)))) := fun X => by rw [World.cell?_setCell_other _ _ _ _ (fun e => by have h : 2 < w.heap.size := cell_lt HERR.out.c1; have e' : w.heap.size + 1 = 2 := congrArg Addr.block e; omega)]; exact ye X
          clear hdq
          go_wp2_with fail
          go_region
          go_wp2_with fail
          refine bodyPost_ret (v := .tuple #[.agg #[.int .i64 0, .slice none 0 0], .iface 245 (.pointer (some (a 1)))]) (by simp [results, Tryz.results105, go_sem, y0, y1]) rfl ⟨Or.inr ⟨hff, rfl⟩, ?_⟩
          exact (((HIN.out.below.alloc HIN.out.below.size _).setCell (by simp) _).setCell (by simp) _).drew
        go_wp2_with fail
        clear x0 x1
        obtain ⟨w1, hw1⟩ : ∃ w1, w1 = wr := ⟨_, rfl⟩
        rw [← hw1] at HS0 HIN ⊢
        clear hw1
        go_loopw [43] (fun i wr => ∃ (k : Nat) (sv : Value), k ≤ ks.length ∧ i = .int .i64 k ∧ Hid (∀ x ∈ ks.take k, (quo cf G x).natAbs ≤ 1099511627776) ∧ Hid (InOut w1 wr (den / (G : Int)) sv (countOf (quo cf G) (ks.take k)) (termsOf (quo cf G) (ks.take k)))) (fun i _ => ks.length - (intOf i).toNat)
        case atStart => exact ⟨0, .slice none 0 0, Nat.zero_le _, rfl, (fun x hx => by simp at hx), HS0.out⟩
        case round =>
          clear HS0
          obtain ⟨k, sv, hk, rfl, HAL, HO⟩ := hrel
          have HI : Hid (InTold w wr den b nn D g ks) := HIN.out.later HO.out.keep
          have x0 := HI.out.box0
          have x1 := HI.out.box1
          have y0 := HO.out.o0
          have y1 := HO.out.o1
          have yf := HO.out.fz
          by_cases hlt : k < ks.length
          · have hck := HI.out.keys k hlt
            have hmem : ks.getD k 0 ∈ ks := by
              rw [List.getD_eq_getElem?_getD, List.getElem?_eq_getElem hlt]; exact List.getElem_mem hlt
            have HKEY : Hid (keyOf Tryz.prog 3 (.int .i64 (ks.getD k 0)) = some (.int .i64 (ks.getD k 0))) := keyOf_int_mk Tryz.underlying3 (HWF.out _ hmem)
            have hc1 := (HCF.out (ks.getD k 0)).1
            have hc2 := (HCF.out (ks.getD k 0)).2
            obtain ⟨p, hp⟩ : ∃ p, p = ks.getD k 0 := ⟨_, rfl⟩
            have HP : Hid (p = ks.getD k 0) := hp
            rw [← hp] at hck HKEY hc1 hc2
            have HMEM : Hid (p ∈ ks) := by rw [← hp] at hmem; exact hmem
            clear hmem hp
            obtain ⟨q, hqq⟩ : ∃ q, q = quo cf G p := ⟨_, rfl⟩
            have HQQ : Hid (q = quo cf G p) := hqq
            have hqe : (cf p).tdiv (G : Int) = q := hqq.symm
            clear hqq
            have htake : Hid (ks.take (k + 1) = ks.take k ++ [p]) := by
              show _ = _
              rw [List.take_succ_eq_append_getElem hlt, HP.out, List.getD_eq_getElem?_getD, List.getElem?_eq_getElem hlt]
              rfl
            by_cases hqb : q.natAbs ≤ 1099511627776
            case neg =>
              have hff : fit = false := not_true_of HFIT.out (fun h => hqb (by have := h.2 p HMEM.out; rwa [← HQQ.out] at this))
              have hqs : q.natAbs ≤ (cf p).natAbs := by rw [← hqe]; exact Int.natAbs_tdiv_le_natAbs _ _
              have hqB : (1099511627776 : Int) < (q.natAbs : Int) := by omega
              have z0 := HI.out.res0
              have z1 := HI.out.res1
              have f0 := HI.out.fr0
              have f1 := HI.out.fr1
              have ye := (HERR.out.below HI.out.below).c1
              have ys : (wr.setCell ⟨w.heap.size + 1, 0, none⟩ (.int .i64 0)).cell? ⟨2, 0, none⟩ = some (.iface 245 (.pointer (some (a 1)))) := by rw [World.cell?_setCell_other _ _ _ _ (fun e => by have h : 2 < w.heap.size := cell_lt HERR.out.c1; have e' : w.heap.size + 1 = 2 := congrArg Addr.block e; omega)]; exact ye
              clear hqb
              go_wp2_with (first
                | (at_lookup; go_must (refine wpList_lookup_own_int _ rfl _ _ 143 rfl 3 3 .i64 Tryz.lawInt Tryz.underlying143 Tryz.underlying3 (Tryz.zeroInt _) b nn D rfl HI.out.own _ _ rfl HKEY.out ?_; intro c hat hwc; have hcc := coef_of HAT.out hat; clear hat hwc; subst hcc))
                | (go_at_call 134; refine (size_any _ _ (by omega) (by omega)).mono ?_; rintro e w' ⟨rfl, hw'⟩; rw [hw']; clear hw'))
              go_region
              go_wp2_with fail
              refine bodyPost_ret (v := .tuple #[.agg #[.int .i64 0, .slice none 0 0], .iface 245 (.pointer (some (a 1)))]) (by simp [results, Tryz.results105, go_sem, z0, z1]) rfl ⟨Or.inr ⟨hff, rfl⟩, ?_⟩
              exact ((HI.out.below.setCell (by simp) _).setCell (by simp) _).drew
            by_cases hq0 : q = 0
            · subst hq0
              go_wp2_with (first
                | (at_lookup; go_must (refine wpList_lookup_own_int _ rfl _ _ 143 rfl 3 3 .i64 Tryz.lawInt Tryz.underlying143 Tryz.underlying3 (Tryz.zeroInt _) b nn D rfl HI.out.own _ _ rfl HKEY.out ?_; intro c hat hwc; have hcc := coef_of HAT.out hat; clear hat hwc; subst hcc))
                | (go_at_call 134; refine (size_any _ _ (by omega) (by omega)).mono ?_; rintro e w' ⟨rfl, hw'⟩; rw [hw']; clear hw'))
              exact ⟨⟨k + 1, sv, by omega, by go_num, all_next htake.out HAL.out (by rw [← HQQ.out]; omega), by
                show InOut _ _ _ _ _ _
                rw [htake.out, termsOf_append, countOf_append]
                have h0 : quo cf G p = 0 := HQQ.out.symm
                simpa [termsOf, countOf, h0] using HO.out⟩, by simp [intOf]; omega⟩
            · have hqn : (q != 0) = true := by simp [hq0]
              have HQ0 : Hid (¬ q = 0) := hq0
              clear hq0
              have hcn := countOf_le (quo cf G) (ks.take k)
              have hcn2 : countOf (quo cf G) (ks.take k) ≤ 100000 := by have := List.length_take_le k ks; omega
              have HSZ : Hid (w1.heap.size < wr.heap.size) := cell_lt HO.out.o0
              have hsz := HSZ.out
              go_wp2_with (first
                | (at_lookup; go_must (refine wpList_lookup_own_int _ rfl _ _ 143 rfl 3 3 .i64 Tryz.lawInt Tryz.underlying143 Tryz.underlying3 (Tryz.zeroInt _) b nn D rfl HI.out.own _ _ rfl HKEY.out ?_; intro c hat hwc; have hcc := coef_of HAT.out hat; clear hat hwc; subst hcc))
                | (go_at_call 134; refine (size_any _ _ (by omega) (by omega)).mono ?_; rintro e w' ⟨rfl, hw'⟩; rw [hw']; clear hw')
                | (at_builtin; go_must (refine wpList_append_lies _ rfl _ _ _ rfl (w1.heap.size + 1) 99 i0 _ 2 16 Tryz.underlying28 HINF.out.1 HINF.out.2.1 HINF.out.2.2.1 HINF.out.2.2.2 rfl (by omega) sv _ _ rfl (HO.out.row.alloc _) ⟨wr.heap.size, 0, none⟩ 1 1 [.int .i64 p, .int .i64 q] rfl rfl (two_new _ _ _ _) (by simp [Value.oneCell']) (by omega) (by unfold maxLen; omega) (by omega) (by simp; omega) _ rfl ?_; intro g' cap' w3 hown3 hgrow3 hat3 hlt3; obtain ⟨z1, z2, HP3⟩ := HO.out.pushed hgrow3 hown3; have HPU := Hid.mk' HP3; clear hown3 hgrow3 hat3 HP3)))
              exact ⟨⟨k + 1, _, by omega, by go_num, all_next htake.out HAL.out (by rw [← HQQ.out]; omega), by
                show InOut _ _ _ _ _ _
                rw [htake.out, termsOf_append, countOf_append]
                have h0 : quo cf G p = q := HQQ.out.symm
                have h1 : ¬ q = 0 := HQ0.out
                simpa [termsOf, countOf, h0, h1] using HPU.out⟩, by simp [intOf]; omega⟩
          · obtain rfl : k = ks.length := by omega
            have z0 := HI.out.res0
            have z1 := HI.out.res1
            have f0 := HI.out.fr0
            have f1 := HI.out.fr1
            have hlt1 : w.heap.size + 1 < w1.heap.size := by have := HIN.out.big; omega
            have hfull : ks.take ks.length = ks := List.take_length
            have HOO : Hid (InOut w1 wr (den / (G : Int)) sv (countOf (quo cf G) ks) (termsOf (quo cf G) ks)) := by have := HO.out; rwa [hfull] at this
            have HFT : Hid (fit = true) := HFIT.out.2 ⟨hdq, by have := HAL.out; rwa [hfull] at this⟩
            clear hfull HO
            obtain ⟨ad, n', c', rfl⟩ : ∃ ad n' c', sv = .slice ad n' c' := by
              rcases HOO.out.row.2 with ⟨rfl, _⟩ | ⟨gg, cap', cur', rfl, _⟩
              · exact ⟨_, _, _, rfl⟩
              · exact ⟨_, _, _, rfl⟩
            go_wp2_with fail
            refine bodyPost_ret (v := .tuple #[.agg #[.int .i64 (den / (G : Int)), .slice ad n' c'], .nilIface]) (by simp [results, Tryz.results105, go_sem, z0, z1]) rfl ⟨Or.inl ⟨HFT.out, .slice ad n' c', rfl, ?_⟩, ?_⟩
            · have h1 := ownsRow_setCell_below HOO.out.row (a := ⟨w.heap.size + 1, 0, none⟩) (by show w.heap.size + 1 < _; omega) (.int .i64 (den / (G : Int)))
              have h2 := ownsRow_setCell_below h1 (a := ⟨w.heap.size + 1, 1, none⟩) (by show w.heap.size + 1 < _; omega) (.slice ad n' c')
              exact row_base h2 (by omega)
            · exact (HI.out.below.setCell (by simp) _).setCell (by simp) _
end Go.Proofs.YtphecjjblnnjdaaGreatDoor
