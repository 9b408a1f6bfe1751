/- dist.cells and dist.Table. -/
import Derived.Test.YtdlbnolnkmhdcaaDoorTabCopy
namespace Go.Proofs.YtdlbnolnkmhdcaaDoor
open Go.RowKit

set_option maxRecDepth 100000 in
set_option maxHeartbeats 2000000 in
theorem Concat_some (b o cap R : Nat) (vs : Nat → Value) (ns : Nat → Nat) (zs : Nat → Nat → Int) (w : World) (h0 : 0 < R) (hr : ∀ i, i < R → w.cell? ⟨b, o + i, none⟩ = some (vs i) ∧ NumsAt w (vs i) (ns i) (zs i)) (hR : R ≤ 1000) (hs : sumT ns R ≤ 1000) :
    Calls Tryd.prog 45 #[.slice (some ⟨b, o, none⟩) R cap] w fun e w' => ∃ v', e = .returned v' ∧ w'.ownsRow w.heap.size 3 1 v' (flatL ns zs R).length (cellL (flatL ns zs R)) ∧ Below w.heap.size w w' := by
  obtain ⟨i0, hi, hz0, hz1, hz2⟩ := info_parts Tryd.infoInt
  have HINF : Hid (Tryd.prog.info? 3 = some i0 ∧ i0.zero = some (.int .i64 0) ∧ i0.size = 1 ∧ i0.bytes = 8) := ⟨hi, hz0, hz1, hz2⟩
  have HR := Hid.mk' hr
  have HG : Hid (Calls Tryd.prog 56 #[.slice none 0 0, .int .i64 (sumT ns R : Int)] w fun e w' => ∃ v, e = .returned v ∧ w'.ownsRow w.heap.size 3 1 v 0 [] ∧ Below w.heap.size w w') := by
    rcases Nat.eq_zero_or_pos (sumT ns R) with h1 | h1
    · rw [h1]
      refine (Any8.slices_Grow_room (ρ := Tryd.growA_ren) Tryd.growA none 0 0 0 w (Nat.le_refl _) (by omega) (by omega) (Nat.le_refl _)).mono ?_
      rintro e w' ⟨rfl, rfl⟩
      exact ⟨_, rfl, ⟨rfl, Or.inl ⟨rfl, rfl⟩⟩, Below.refl _ _⟩
    · exact grow_none (sumT ns R) w h1 (by omega)
  clear hi hz0 hz1 hz2 hr
  go_enter Tryd.func45, Tryd.ntmps45
  go_wp2_with fail
  go_loopw [3, 5, 11] (fun s _ i wr => ∃ k : Nat, k ≤ R ∧ s = .int .i64 (sumT ns k : Int) ∧ i = .int .i64 k ∧ wr = w) (fun _ _ i _ => R - (intOf i).toNat)
  case atStart => exact ⟨0, Nat.zero_le _, rfl, rfl, rfl⟩
  case round =>
    obtain ⟨k, hk, rfl, rfl, hwr⟩ := hrel
    rw [hwr]
    clear hwr
    rcases Nat.lt_or_ge k R with h1 | h1
    · have hc := (HR.out k h1).1
      obtain ⟨ad1, cap1, hv1⟩ := (HR.out k h1).2.form
      rw [hv1] at hc
      have hkn : (k : Int) < (R : Int) := by omega
      have hm : sumT ns k + ns k ≤ sumT ns R := sumT_mono ns h1
      have HE : Hid (sumT ns (k + 1) = sumT ns k + ns k) := rfl
      clear hv1
      generalize sumT ns k = sk at *
      generalize ns k = nk at *
      go_wp2_with fail
      exact ⟨⟨k + 1, h1, by rw [HE.out]; go_num, by go_num, trivial⟩, by simp [intOf]; omega⟩
    · obtain rfl : k = R := by omega
      go_wp2_with fail
      refine HG.out.mono ?_
      rintro e w1 ⟨v1, rfl, hown1, hb1⟩
      have HO1 := Hid.mk' hown1
      have HB1 := Hid.mk' hb1
      clear hown1 hb1
      go_wp2_with fail
      go_loopw [6, 8, 27] (fun u _ i wr => ∃ j : Nat, j ≤ k ∧ i = .int .i64 j ∧ Hid (wr.ownsRow w.heap.size 3 1 u (flatL ns zs j).length (cellL (flatL ns zs j))) ∧ Hid (Below w.heap.size w wr)) (fun _ _ i _ => k - (intOf i).toNat)
      case atStart => exact ⟨0, Nat.zero_le _, rfl, HO1, HB1⟩
      case round =>
        obtain ⟨j, hj, rfl, HO, HB⟩ := hrel
        rcases Nat.lt_or_ge j k with h2 | h2
        · have hc := (HR.out j h2).1
          have hc' : wr.cell? ⟨b, o + j, none⟩ = some (vs j) := by rw [HB.out.cell (cell_lt hc)]; exact hc
          have hkn : (j : Int) < (k : Int) := by omega
          have hm1 := sumT_mono ns (Nat.le_of_lt h2)
          have hm2 : sumT ns j + ns j ≤ sumT ns k := sumT_mono ns h2
          have hfb : (flatL ns zs j).length ≤ 1000 ∧ (flatL ns zs j).length + ns j ≤ 1000 := by rw [flatL_length]; omega
          clear hm1 hm2
          rcases (HR.out j h2).2.later HB.out with ⟨ad1, cap1, hv1, hn1⟩ | ⟨b1, o1, cap1, hv1, hn1, hr1⟩
          · rw [hv1] at hc'
            obtain ⟨ao, cc, hu, hlc⟩ := row_shape HO.out
            rw [hu] at HO ⊢
            have HE : Hid (flatL ns zs (j + 1) = flatL ns zs j) := by show flatL ns zs j ++ rowL (zs j) (ns j) = _; rw [hn1]; simp [rowL]
            clear hc hu
            go_wp2_with (at_builtin; go_must (refine wpList_append_nothing rfl _ _ rfl ao _ cc hlc ad1 cap1 rfl rfl ?_))
            exact ⟨⟨j + 1, h2, by go_num, by rw [HE.out]; exact HO, HB⟩, by simp [intOf]; omega⟩
          · rw [hv1] at hc'
            have HR1 := Hid.mk' hr1
            have HC : Hid (∀ u, u ∈ numCells (zs j) (ns j) → u.oneCell' = true) := fun u hu => by obtain ⟨x, rfl⟩ := numCells_ints (zs j) (ns j) u hu; rfl
            have HL : Hid ((numCells (zs j) (ns j)).length = ns j * 1) := by show _ = _; rw [numCells_length, Nat.mul_one]
            have HE : Hid (cellL (flatL ns zs (j + 1)) = cellL (flatL ns zs j) ++ numCells (zs j) (ns j) ∧ (flatL ns zs (j + 1)).length = (flatL ns zs j).length + ns j) := by
              refine ⟨?_, ?_⟩
              · show cellL (flatL ns zs j ++ rowL (zs j) (ns j)) = _
                rw [cellL_append, cellL_row]
              · show (flatL ns zs j ++ rowL (zs j) (ns j)).length = _
                rw [List.length_append, rowL_length]
            have hzB := HB.out.size
            clear hc hr1
            go_wp2_with (at_builtin; go_must (refine wpList_append_lies _ rfl _ _ _ rfl w.heap.size 3 i0 _ 1 8 Tryd.underlying22 HINF.out.1 HINF.out.2.1 HINF.out.2.2.1 HINF.out.2.2.2 rfl (by omega) u6 _ _ rfl HO.out ⟨b1, o1, none⟩ (ns j) cap1 (numCells (zs j) (ns j)) rfl HL.out (fun j u hu => numCells_news HR1.out j u hu) HC.out hn1 (by unfold maxLen; omega) (by omega) (by omega) _ rfl ?_; intro g' cap2 w3 hown3 hgrow3 hat3 hlt3; have HO3 := Hid.mk' hown3; have HG3 := Hid.mk' hgrow3; clear hown3 hgrow3 hat3))
            refine ⟨⟨j + 1, h2, by go_num, ?_, below_grow HB.out HO.out HG3.out⟩, by simp [intOf]; omega⟩
            rw [HE.out.1, HE.out.2]
            exact HO3
        · obtain rfl : j = k := by omega
          go_wp2_with fail
          go_ret
          exact ⟨_, rfl, HO.out, HB.out⟩
set_option maxRecDepth 100000 in
set_option maxHeartbeats 2000000 in
theorem cells_any (v : Value) (R : Nat) (vs : Nat → Value) (ns : Nat → Nat) (zs : Nat → Nat → Int) (w : World) (h : TabAt w v R vs ns zs) (hR : R ≤ 1000) (hs : sumT ns R ≤ 1000) :
    Calls Tryd.prog 38 #[v] w fun e w' => ∃ v', e = .returned v' ∧ w'.ownsRow w.heap.size 3 1 v' (flatL ns zs R).length (cellL (flatL ns zs R)) ∧ Below w.heap.size w w' := by
  have hC : Calls Tryd.prog 45 #[v] w fun e w' => ∃ v', e = .returned v' ∧ w'.ownsRow w.heap.size 3 1 v' (flatL ns zs R).length (cellL (flatL ns zs R)) ∧ Below w.heap.size w w' := by
    rcases h with ⟨ad, cap, rfl, rfl⟩ | ⟨b, o, cap, rfl, h0, hr⟩
    · have hG := Any8.slices_Grow_room (ρ := Tryd.growA_ren) Tryd.growA none 0 0 0 w (Nat.le_refl _) (by omega) (by omega) (Nat.le_refl _)
      have hG' : Calls Tryd.prog 56 #[.slice none 0 0, .int .i64 0] w fun e w' => e = .returned (.slice none 0 0) ∧ w' = w := hG
      clear hG
      go_enter Tryd.func45, Tryd.ntmps45
      go_wp2_with fail
      refine wp_loop_rounds 1 ?_
      rw [rounds_succ]
      go_wp2_with fail
      refine hG'.mono ?_
      rintro e w1 ⟨rfl, hw1⟩
      rw [hw1]
      clear hw1
      go_wp2_with fail
      refine wp_loop_rounds 1 ?_
      rw [rounds_succ]
      go_wp2_with fail
      go_ret
      exact ⟨_, rfl, ⟨rfl, Or.inl ⟨rfl, rfl⟩⟩, Below.refl _ _⟩
    · exact Concat_some b o cap R vs ns zs w h0 hr hR hs
  obtain ⟨ad, cap, rfl⟩ := h.form
  clear h
  go_enter Tryd.func38, Tryd.ntmps38
  go_wp2_with fail
  refine hC.mono ?_
  clear hC
  rintro e w1 ⟨v1, rfl, hrow, hb1⟩
  have HO := Hid.mk' hrow
  have HB := Hid.mk' hb1
  clear hrow hb1
  go_wp2_with fail
  go_ret
  exact ⟨_, rfl, HO.out, HB.out⟩

set_option maxRecDepth 100000 in
set_option maxHeartbeats 2000000 in
theorem Table_any (a : Nat → Addr) (v : Value) (R : Nat) (vs : Nat → Value) (ns : Nat → Nat) (zs : Nat → Nat → Int) (w : World) (hE : Errs w a) (h : TabAt w v R vs ns zs) (hR : R ≤ 40) (hs : sumT ns R ≤ 400) :
    Calls Tryd.prog 25 #[v] w fun e w' => e = .returned (errV a (tabErr R ns zs)) ∧ Below w.heap.size w w' := by
  have e1 := hE.c1
  have e2 := hE.c2
  by_cases hR16 : 16 < R
  · obtain ⟨ad, cap, rfl⟩ := h.form
    have HE := Hid.mk' (tabErr_many (ns := ns) (zs := zs) hR16)
    clear h hE
    go_enter Tryd.func25, Tryd.ntmps25
    go_wp2_with fail
    go_ret
    exact ⟨by rw [HE.out]; rfl, Below.refl _ _⟩
  · have hcl := cells_any v R vs ns zs w h (by omega) (by omega)
    have HLE : Hid ((flatL ns zs R).length ≤ 400) := by show _ ≤ _; rw [flatL_length]; exact hs
    have HEE := Hid.mk' hE
    rcases h with ⟨ad, cap, rfl, rfl⟩ | ⟨b, o, cap, rfl, h0, hr⟩
    · have HE : Hid (tabErr 0 ns zs = listErr (atF (flatL ns zs 0)) (flatL ns zs 0).length) := tabErr_even (by omega) rfl rfl
      clear hE
      go_enter Tryd.func25, Tryd.ntmps25
      go_wp2_with fail
      refine wp_loop_rounds 1 ?_
      rw [rounds_succ]
      go_wp2_with fail
      refine wp_loop_rounds 1 ?_
      rw [rounds_succ]
      go_wp2_with fail
      refine hcl.mono ?_
      clear hcl
      rintro e w1 ⟨v1, rfl, hrow, hb1⟩
      have hcw := checkWeights_any a v1 _ _ w1 (HEE.out.below hb1) (numsAt_row hrow) (by have := HLE.out; omega)
      obtain ⟨ao, cc, hu, hlc⟩ := row_shape hrow
      have HB1 := Hid.mk' hb1
      rw [hu] at hcw ⊢
      clear hrow hb1 hlc hu
      go_wp2_with (go_at_call 36; refine hcw.mono ?_; rintro e w2 ⟨rfl, hw2⟩; rw [hw2]; clear hw2)
      go_ret
      exact ⟨by rw [HE.out]; rfl, HB1.out⟩
    · have HR := Hid.mk' (fun (i : Nat) (hi : i < R) => (hr i hi).1)
      have HF : Hid (∀ i, i < R → ∃ ad cap, vs i = .slice ad (ns i) cap) := fun i hi => (hr i hi).2.form
      obtain ⟨ad0, cap0, hv0⟩ := HF.out 0 h0
      have hc0 : w.cell? ⟨b, o, none⟩ = some (.slice ad0 (ns 0) cap0) := by have := HR.out 0 h0; rw [hv0, Nat.add_zero] at this; exact this
      have HN : Hid (∀ i, i < R → ns i ≤ 400) := fun i hi => by have h2 : sumT ns i + ns i ≤ sumT ns R := sumT_mono ns hi; omega
      have HTB : Hid (longB ns R = false → unevenB ns R = true → tabErr R ns zs = 3) := fun h1 h2 => tabErr_uneven hR16 h1 h2
      have HTE : Hid (longB ns R = false → unevenB ns R = false → tabErr R ns zs = listErr (atF (flatL ns zs R)) (flatL ns zs R).length) := fun h1 h2 => tabErr_even hR16 h1 h2
      have HTL : Hid (∀ k, k < R → 16 < ns k → tabErr R ns zs = 2) := fun k hk hl => tabErr_long hR16 (longB_mono hk hl)
      have hn0 := HN.out 0 h0
      clear hr hv0 hE
      go_enter Tryd.func25, Tryd.ntmps25
      go_wp2_with fail
      go_loopw [4, 13] (fun _ i wr => ∃ k : Nat, k ≤ R ∧ i = .int .i64 k ∧ wr = w ∧ Hid (longB ns k = false)) (fun _ i _ => R - (intOf i).toNat)
      case atStart => exact ⟨0, Nat.zero_le _, rfl, rfl, rfl⟩
      case round =>
        obtain ⟨k, hk, rfl, hwr, HL⟩ := hrel
        rw [hwr]
        clear hwr
        rcases Nat.lt_or_ge k R with h1 | h1
        · obtain ⟨ad1, cap1, hv1⟩ := HF.out k h1
          have hc := HR.out k h1
          rw [hv1] at hc
          have hkn : (k : Int) < (R : Int) := by omega
          have hnk := HN.out k h1
          have HTK := Hid.mk' (HTL.out k h1)
          have HLK : Hid (longB ns (k + 1) = decide (16 < ns k)) := by show (longB ns k || _) = _; rw [HL.out, Bool.false_or]
          clear hv1
          generalize ns k = nk at hc hnk HTK HLK
          rcases Nat.lt_or_ge 16 nk with hl | hl
          · have hlI : (16 : Int) < (nk : Int) := by omega
            go_wp2_with fail
            go_ret
            exact ⟨by rw [HTK.out hl]; rfl, Below.refl _ _⟩
          · have hlI : (nk : Int) ≤ 16 := by omega
            have HL1 : Hid (longB ns (k + 1) = false) := by show _ = _; rw [HLK.out]; exact decide_eq_false (by omega)
            go_wp2_with fail
            exact ⟨⟨k + 1, h1, by go_num, trivial, HL1⟩, by simp [intOf]; omega⟩
        · obtain rfl : k = R := by omega
          go_wp2_with fail
          go_loopw [6, 24] (fun _ i wr => ∃ j : Nat, j ≤ k ∧ i = .int .i64 j ∧ wr = w ∧ Hid (unevenB ns j = false)) (fun _ i _ => k - (intOf i).toNat)
          case atStart => exact ⟨0, Nat.zero_le _, rfl, rfl, rfl⟩
          case round =>
            obtain ⟨j, hj, rfl, hwr, HU⟩ := hrel
            rw [hwr]
            clear hwr
            rcases Nat.lt_or_ge j k with h2 | h2
            · obtain ⟨ad1, cap1, hv1⟩ := HF.out j h2
              have hc := HR.out j h2
              rw [hv1] at hc
              have hkn : (j : Int) < (k : Int) := by omega
              have hnk := HN.out j h2
              have HUK : Hid (unevenB ns (j + 1) = !decide (ns j = ns 0)) := by show (unevenB ns j || _) = _; rw [HU.out, Bool.false_or]
              have HTU : Hid (ns j ≠ ns 0 → tabErr k ns zs = 3) := fun hne => HTB.out HL.out (unevenB_mono h2 hne)
              clear hv1
              generalize ns j = nk at hc hnk HUK HTU
              generalize ns 0 = n0 at hc0 hn0 HUK HTU
              by_cases he : nk = n0
              · subst he
                have HU1 : Hid (unevenB ns (j + 1) = false) := by show _ = _; rw [HUK.out]; simp
                go_wp2_with fail
                exact ⟨⟨j + 1, h2, by go_num, trivial, HU1⟩, by simp [intOf]; omega⟩
              · have heb : ((nk : Int) == (n0 : Int)) = false := by simp; omega
                have HT3 := Hid.mk' (HTU.out he)
                go_wp2_with fail
                go_ret
                exact ⟨by rw [HT3.out]; rfl, Below.refl _ _⟩
            · obtain rfl : j = k := by omega
              have HE := Hid.mk' (HTE.out HL.out HU.out)
              go_wp2_with fail
              refine hcl.mono ?_
              clear hcl
              rintro e w1 ⟨v1, rfl, hrow, hb1⟩
              have hcw := checkWeights_any a v1 _ _ w1 (HEE.out.below hb1) (numsAt_row hrow) (by have := HLE.out; omega)
              obtain ⟨ao, cc, hu, hlc⟩ := row_shape hrow
              have HB1 := Hid.mk' hb1
              rw [hu] at hcw ⊢
              clear hrow hb1 hlc hu
              go_wp2_with (go_at_call 36; refine hcw.mono ?_; rintro e w2 ⟨rfl, hw2⟩; rw [hw2]; clear hw2)
              go_ret
              exact ⟨by rw [HE.out]; rfl, HB1.out⟩
end Go.Proofs.YtdlbnolnkmhdcaaDoor
