/- The program's pairError, surplus and Above. -/
import Derived.Test.YtgopohbombnflaaDoorOrSort
namespace Go.Proofs.YtgopohbombnflaaDoor
open Go.RowKit

theorem right_sums {z : Nat → Int} {n : Nat} (hn : n ≤ 16) (h : ∀ k, k < n → 0 ≤ z k ∧ z k ≤ 4096) : (∀ k, k ≤ n → -1000000 ≤ sumN z k ∧ sumN z k ≤ 1000000) ∧ ∀ i, i < n → -1000000 ≤ z i ∧ z i ≤ 1000000 := by
  refine ⟨fun k hk => ?_, fun i hi => by have := h i hi; omega⟩
  have := sum_right (z := z) (n := k) (fun i hi => h i (by omega))
  omega
theorem total_right (v : Value) (n : Nat) (z : Nat → Int) (w : World) (h : NumsAt w v n z) (h0 : 0 < n) (hn : n ≤ 16) (hz : ∀ k, k < n → 0 ≤ z k ∧ z k ≤ 4096) :
    Calls Tryd.prog 42 #[v] w fun e w' => e = .returned (.int .i64 (sumN z n)) ∧ w' = w := by
  rcases h with ⟨_, _, _, h1⟩ | ⟨b, o, cap, rfl, _, hr⟩
  · omega
  · exact total_some b o cap n z w hr (right_sums hn hz).1 (right_sums hn hz).2 (by omega)

set_option maxRecDepth 100000 in
set_option maxHeartbeats 2000000 in
theorem pairError_any (a : Nat → Addr) (pv qv : Value) (n m : Nat) (p q : Nat → Int) (w : World) (hE : Errs w a) (hp : NumsAt w pv n p) (hq : NumsAt w qv m q) (hn : n ≤ 100000) (hm : m ≤ 100000) :
    Calls Tryd.prog 31 #[pv, qv] w fun e w' => e = .returned (errV a (prE n p m q)) ∧ w' = w := by
  have hCp := ContainsFunc_num pv n p w hp (by omega)
  have hCq := ContainsFunc_num qv m q w hq (by omega)
  have HP := Hid.mk' hp
  have HQ := Hid.mk' hq
  have e1 := hE.c1
  have e2 := hE.c2
  obtain ⟨pad, pcap, rfl⟩ := hp.form
  obtain ⟨qad, qcap, rfl⟩ := hq.form
  clear hp hq hE
  by_cases h1 : 16 < n ∨ 16 < m
  · have HV : Hid (errV a (prE n p m q) = .iface 120 (.pointer (some (a 1)))) := by show _ = _; unfold prE; rw [if_pos h1]; rfl
    have hd : (16 : Int) < (n : Int) ∨ (¬ (16 : Int) < (n : Int) ∧ (16 : Int) < (m : Int)) := by omega
    clear hCp hCq h1
    rcases hd with h1 | ⟨h1, h2⟩
    all_goals
      go_enter Tryd.func31, Tryd.ntmps31
      go_wp2_with fail
      go_ret
      exact ⟨by rw [HV.out]; rfl, rfl⟩
  · have hn16 : ¬ (16 : Int) < (n : Int) := by omega
    have hm16 : ¬ (16 : Int) < (m : Int) := by omega
    have HV0 : Hid (prE n p m q = if n = 0 ∨ n ≠ m ∨ noN p n = true ∨ noN q m = true ∨ sumN p n ≠ sumN q m then 3 else 0) := by show _ = _; unfold prE; rw [if_neg h1]
    have hnn : n ≤ 16 ∧ m ≤ 16 := by omega
    clear h1
    have H3 : Hid ((n = 0 ∨ n ≠ m ∨ noN p n = true ∨ noN q m = true ∨ sumN p n ≠ sumN q m) → errV a (prE n p m q) = .iface 120 (.pointer (some (a 2)))) := fun h => by rw [HV0.out, if_pos h]; rfl
    by_cases c1 : n = 0
    · have HV := Hid.mk' (H3.out (Or.inl c1))
      have k1 : ((n : Int) == 0) = true := by simp; exact c1
      clear hCp hCq c1
      go_enter Tryd.func31, Tryd.ntmps31
      go_wp2_with fail
      go_ret
      exact ⟨by rw [HV.out]; rfl, rfl⟩
    · have k1 : ((n : Int) == 0) = false := by simp; exact c1
      by_cases c2 : n ≠ m
      · have HV := Hid.mk' (H3.out (Or.inr (Or.inl c2)))
        have k2 : ((n : Int) != (m : Int)) = true := by simp; omega
        clear hCp hCq c1 c2
        go_enter Tryd.func31, Tryd.ntmps31
        go_wp2_with fail
        go_ret
        exact ⟨by rw [HV.out]; rfl, rfl⟩
      · have k2 : ((n : Int) != (m : Int)) = false := by simp; omega
        cases hcp : noN p n with
        | true =>
          have HV := Hid.mk' (H3.out (Or.inr (Or.inr (Or.inl hcp))))
          rw [hcp] at hCp
          clear hCq c1 c2 hcp
          go_enter Tryd.func31, Tryd.ntmps31
          go_wp2_with fail
          refine hCp.mono ?_
          clear hCp
          rintro e w2 ⟨rfl, rfl⟩
          go_wp2_with fail
          go_ret
          exact ⟨by rw [HV.out]; rfl, rfl⟩
        | false =>
          cases hcq : noN q m with
          | true =>
            have HV := Hid.mk' (H3.out (Or.inr (Or.inr (Or.inr (Or.inl hcq)))))
            rw [hcp] at hCp
            rw [hcq] at hCq
            clear c1 c2 hcp hcq
            go_enter Tryd.func31, Tryd.ntmps31
            go_wp2_with fail
            refine hCp.mono ?_
            clear hCp
            rintro e w2 ⟨rfl, rfl⟩
            go_wp2_with fail
            refine hCq.mono ?_
            clear hCq
            rintro e w2 ⟨rfl, rfl⟩
            go_wp2_with fail
            go_ret
            exact ⟨by rw [HV.out]; rfl, rfl⟩
          | false =>
            have HTP := Hid.mk' (total_right _ n p w HP.out (by omega) hnn.1 (noN_none hcp))
            have HTQ := Hid.mk' (total_right _ m q w HQ.out (by omega) hnn.2 (noN_none hcq))
            by_cases c3 : sumN p n = sumN q m
            · have HV : Hid (errV a (prE n p m q) = .nilIface) := by
                show _ = _
                rw [HV0.out, if_neg (by rw [hcp, hcq]; simp; exact ⟨c1, by omega, c3⟩)]; rfl
              have k3 : (sumN p n != sumN q m) = false := by simp; exact c3
              rw [hcp] at hCp
              rw [hcq] at hCq
              clear c1 c2 hcp hcq c3
              go_enter Tryd.func31, Tryd.ntmps31
              go_wp2_with fail
              refine hCp.mono ?_
              clear hCp
              rintro e w2 ⟨rfl, rfl⟩
              go_wp2_with fail
              refine hCq.mono ?_
              clear hCq
              rintro e w2 ⟨rfl, rfl⟩
              go_wp2_with fail
              refine HTP.out.mono ?_
              rintro e w2 ⟨rfl, rfl⟩
              go_wp2_with fail
              refine HTQ.out.mono ?_
              rintro e w2 ⟨rfl, rfl⟩
              go_wp2_with fail
              go_ret
              exact ⟨by rw [HV.out]; rfl, rfl⟩
            · have HV := Hid.mk' (H3.out (Or.inr (Or.inr (Or.inr (Or.inr c3)))))
              have k3 : (sumN p n != sumN q m) = true := by simp; exact c3
              rw [hcp] at hCp
              rw [hcq] at hCq
              clear c1 c2 hcp hcq c3
              go_enter Tryd.func31, Tryd.ntmps31
              go_wp2_with fail
              refine hCp.mono ?_
              clear hCp
              rintro e w2 ⟨rfl, rfl⟩
              go_wp2_with fail
              refine hCq.mono ?_
              clear hCq
              rintro e w2 ⟨rfl, rfl⟩
              go_wp2_with fail
              refine HTP.out.mono ?_
              rintro e w2 ⟨rfl, rfl⟩
              go_wp2_with fail
              refine HTQ.out.mono ?_
              rintro e w2 ⟨rfl, rfl⟩
              go_wp2_with fail
              go_ret
              exact ⟨by rw [HV.out]; rfl, rfl⟩

theorem perm_lt {D : List Nat} {n j : Nat} (h : D.Perm (List.range n)) (hj : j < n) : D.getD j 0 < n := by
  have hl : D.length = n := by rw [h.length_eq, List.length_range]
  have hm : D.getD j 0 ∈ D := by
    rw [List.getD_eq_getElem?_getD, List.getElem?_eq_getElem (by omega)]
    exact List.getElem_mem _
  exact List.mem_range.1 (h.mem_iff.1 hm)

set_option maxRecDepth 100000 in
set_option maxHeartbeats 2000000 in
theorem surplus_any (pv qv : Value) (n : Nat) (p q : Nat → Int) (w : World) (hp : NumsAt w pv n p) (hq : NumsAt w qv n q) (h0 : 0 < n) (hn : n ≤ 16) (hpr : ∀ k, k < n → 0 ≤ p k ∧ p k ≤ 4096) (hqr : ∀ k, k < n → 0 ≤ q k ∧ q k ≤ 4096) :
    Calls Tryd.prog 32 #[pv, qv] w fun e w' => ∃ g, e = .returned (.slice (some ⟨g, 0, none⟩) n n) ∧ Fills w w' g n (surF p q n) := by
  obtain ⟨i0, hii, hz0, hz1, hz2⟩ := info_parts Tryd.infoInt
  have HINF : Hid (Tryd.prog.info? 3 = some i0 ∧ i0.zero = some (.int .i64 0) ∧ i0.size = 1 ∧ i0.bytes = 8) := ⟨hii, hz0, hz1, hz2⟩
  clear hii hz0 hz1 hz2
  have hF1 := falling_any pv n p w hp h0 hn
  have HF2 := Hid.mk' (fun (W : World) (hb : Below w.heap.size w W) => falling_any qv n q W (hq.later hb) h0 hn)
  rcases hp with ⟨_, _, _, h1⟩ | ⟨pb, po, pcap, rfl, _, hpr'⟩
  · omega
  rcases hq with ⟨_, _, _, h1⟩ | ⟨qb, qo, qcap, rfl, _, hqr'⟩
  · omega
  have HPR := Hid.mk' (fun (W : World) (hb : Below w.heap.size w W) => hpr'.later hb)
  have HQR := Hid.mk' (fun (W : World) (hb : Below w.heap.size w W) => hqr'.later hb)
  have HPZ := Hid.mk' hpr
  have HQZ := Hid.mk' hqr
  clear hpr' hqr' hpr hqr
  go_enter Tryd.func32, Tryd.ntmps32
  go_wp2_with fail
  refine hF1.mono ?_
  clear hF1
  rintro e w1 ⟨g1, D1, rfl, d1, d2, d3, d4⟩
  have HD1 := Hid.mk' (And.intro d1 d2)
  have HG1 := Hid.mk' d3
  have HB1 := Hid.mk' d4
  clear d1 d2 d3 d4
  go_wp2_with fail
  refine (HF2.out w1 HB1.out).mono ?_
  clear HF2
  rintro e w2 ⟨g2, D2, rfl, d1, d2, d3, d4⟩
  have HD2 := Hid.mk' (And.intro d1 d2)
  have HG2 := Hid.mk' d3
  have HG12 := Hid.mk' (HG1.out.later d4)
  have HB2 := Hid.mk' (below_chain HB1.out d4)
  clear d1 d2 d3 d4 HG1
  go_wp2_with (at_make; go_must (refine wpList_make_full _ rfl _ _ _ rfl w2.heap.size 3 i0 _ 1 Tryd.underlying22 HINF.out.1 HINF.out.2.1 HINF.out.2.2.1 .i64 .i64 _ _ n rfl rfl rfl rfl (by rw [HINF.out.2.2.2]; omega) (by unfold maxLen; omega) (Nat.le_refl _) ?_; intro w3 hown3 hgrow3; have HF3 := Hid.mk' (fills_made hown3 (made_zero n) hgrow3); clear hown3 hgrow3))
  go_loopw [18] (fun t wr => ∃ k : Nat, k ≤ n ∧ t = .int .i64 k ∧ Hid (Fills w2 wr w2.heap.size n (fun j => if j < k then surF p q n j else 0))) (fun t _ => n - (intOf t).toNat)
  case atStart => exact ⟨0, Nat.zero_le _, rfl, by simpa using HF3⟩
  case round =>
    clear HF3
    obtain ⟨k, hk, rfl, HF⟩ := hrel
    rcases Nat.lt_or_ge k n with h1 | h1
    · have hkn : (k : Int) < (n : Int) := by omega
      have hk0 : (0 : Int) ≤ (k : Int) := by omega
      have hcF := HF.out.row k h1
      have hfz := HF.out.fz k h1
      rw [Nat.zero_add] at hcF hfz
      rw [if_neg (by omega)] at hcF
      have hx1 : wr.cell? ⟨g1, k, none⟩ = some (.int .i64 ((D1.getD k 0 : Nat) : Int)) := by have := (HG12.out.later HF.out.below) k h1; rw [Nat.zero_add] at this; exact this
      have hx2 : wr.cell? ⟨g2, k, none⟩ = some (.int .i64 ((D2.getD k 0 : Nat) : Int)) := by have := (HG2.out.later HF.out.below) k h1; rw [Nat.zero_add] at this; exact this
      have hi1 := perm_lt HD1.out.1 h1
      have hi2 := perm_lt HD2.out.1 h1
      have hy1 := HPR.out wr (below_chain HB2.out HF.out.below) _ hi1
      have hy2 := HQR.out wr (below_chain HB2.out HF.out.below) _ hi2
      have hv1 := fall_at HD1.out.2 h1
      have hv2 := fall_at HD2.out.2 h1
      have b1 := HPZ.out _ hi1
      have b2 := HQZ.out _ hi2
      have HSU : Hid (surF p q n k = p (D1.getD k 0) - q (D2.getD k 0)) := by show _ = _; rw [hv1, hv2]; rfl
      have HS := Hid.mk' (HF.out.set h1 (p (D1.getD k 0) - q (D2.getD k 0)) (f' := fun j => if j < k + 1 then surF p q n j else 0) (fun c hc => by
        by_cases h5 : c = k
        · rw [if_pos (by omega), if_pos h5, h5, HSU.out]
        · rw [if_neg h5]
          by_cases h6 : c < k
          · rw [if_pos (by omega), if_pos h6]
          · rw [if_neg (by omega), if_neg h6]))
      have hi1I : ((D1.getD k 0 : Nat) : Int) < (n : Int) := by omega
      have hi2I : ((D2.getD k 0 : Nat) : Int) < (n : Int) := by omega
      clear hv1 hv2 HSU
      generalize D1.getD k 0 = j1 at *
      generalize D2.getD k 0 = j2 at *
      generalize p j1 = x1 at *
      generalize q j2 = x2 at *
      go_wp2_with fail
      go_region
      go_wp2_with fail
      exact ⟨⟨k + 1, h1, by go_num, by first | exact HS.out | exact HS.out.drew⟩, by simp [intOf]; omega⟩
    · obtain rfl : k = n := by omega
      have hkI : ¬ (k : Int) < (k : Int) := by omega
      go_wp2_with fail
      go_ret
      exact ⟨_, rfl, fun j hj => by have := HF.out.row j hj; rwa [if_pos hj] at this, HF.out.fz, below_chain HB2.out HF.out.below, HB2.out.size⟩

set_option maxRecDepth 100000 in
set_option maxHeartbeats 2000000 in
theorem Above_any (a : Nat → Addr) (pv qv : Value) (n m : Nat) (p q : Nat → Int) (w : World) (hE : Errs w a) (hp : NumsAt w pv n p) (hq : NumsAt w qv m q) (hn : n ≤ 100000) (hm : m ≤ 100000) :
    Calls Tryd.prog 10 #[pv, qv] w fun e w' => e = .returned (.tuple #[.bool (decide (prE n p m q = 0) && !dipN (surF p q n) n), errV a (prE n p m q)]) ∧ Below w.heap.size w w' := by
  have hPE := pairError_any a pv qv n m p q w hE hp hq hn hm
  by_cases h : prE n p m q = 0
  · obtain ⟨h16, h0, rfl, hpr, hqr, hsum⟩ := prE_ok h
    have hSu := surplus_any pv qv n p q w hp hq h0 h16 hpr hqr
    have HRNG := Hid.mk' (fun k (hk : k < n) => (show -4096 ≤ surF p q n k ∧ surF p q n k ≤ 4096 from by
      have h1 := fall_right hpr hk
      have h2 := fall_right hqr hk
      unfold surF; omega))
    have HSB : Hid (∀ k, k ≤ n → -1000000 ≤ sumN (surF p q n) k ∧ sumN (surF p q n) k ≤ 1000000) := fun k hk => by
      rw [sur_sum]
      have h1 := sum_right (z := atF (fallL p n)) (n := k) (fun i hi => fall_right hpr (by omega))
      have h2 := sum_right (z := atF (fallL q n)) (n := k) (fun i hi => fall_right hqr (by omega))
      omega
    obtain ⟨pad, pcap, rfl⟩ := hp.form
    obtain ⟨qad, qcap, rfl⟩ := hq.form
    rw [h, errV_zero] at hPE
    have HV : Hid (∀ b, (decide (prE n p n q = 0) && b) = b) := fun b => by rw [h]; simp
    have HEV : Hid (errV a (prE n p n q) = .nilIface) := by show _ = _; rw [h]; rfl
    generalize surF p q n = d at *
    clear hp hq hpr hqr hsum h hE
    go_enter Tryd.func10, Tryd.ntmps10
    go_wp2_with fail
    refine hPE.mono ?_
    clear hPE
    rintro e w1 ⟨rfl, rfl⟩
    go_wp2_with fail
    refine hSu.mono ?_
    clear hSu
    rintro e w2 ⟨g, rfl, hF⟩
    have HF := Hid.mk' hF
    clear hF
    go_wp2_with fail
    go_loopw [7, 20] (fun s t wr => ∃ k : Nat, k ≤ n ∧ s = .int .i64 (sumN d k) ∧ t = .int .i64 (k : Int) ∧ wr = w2 ∧ Hid (∀ j, j ≤ k → 0 ≤ sumN d j)) (fun _ t _ => n - (intOf t).toNat)
    case atStart => exact ⟨0, Nat.zero_le _, rfl, rfl, rfl, fun j hj => by obtain rfl : j = 0 := by omega
                                                                           exact Int.le_refl _⟩
    case round =>
      obtain ⟨k, hk, rfl, rfl, rfl, HK⟩ := hrel
      rcases Nat.lt_or_ge k n with h1 | h1
      · have hkI : (k : Int) < (n : Int) := by omega
        have hk0 : (0 : Int) ≤ (k : Int) := by omega
        have hc := HF.out.row k h1
        rw [Nat.zero_add] at hc
        have hr := HRNG.out k h1
        have hs := HSB.out k hk
        have HS1 : Hid (sumN d (k + 1) = sumN d k + d k) := rfl
        have HDIP : Hid (sumN d (k + 1) < 0 → dipN d n = true) := fun hh => dipN_at hh h1
        have HK0 := HK.out
        obtain ⟨s1, hs1⟩ : ∃ s1, s1 = sumN d (k + 1) := ⟨_, rfl⟩
        obtain ⟨s0, hs0⟩ : ∃ s0, s0 = sumN d k := ⟨_, rfl⟩
        obtain ⟨x, hx⟩ : ∃ x, x = d k := ⟨_, rfl⟩
        have HN : Hid (0 ≤ s1 → ∀ j, j ≤ k + 1 → 0 ≤ sumN d j) := fun hh j hj => by
          rcases Nat.lt_or_ge j (k + 1) with h' | h'
          · exact HK.out j (by omega)
          · obtain rfl : j = k + 1 := by omega
            rw [← hs1]; exact hh
        have HE1 := Hid.mk' hs1
        rw [← hs1] at HDIP
        rw [← hs1, ← hs0, ← hx] at HS1
        rw [← hs0] at hs
        rw [← hs0]
        rw [← hx] at hc hr
        obtain rfl := HS1.out
        clear hs0 hx hs1 HS1
        by_cases hneg : s0 + x < 0
        · have HD := Hid.mk' (HDIP.out hneg)
          go_wp2_with fail
          go_ret2
          exact ⟨by rw [HV.out, HEV.out, HD.out]; rfl, HF.out.below⟩
        · have HNN := Hid.mk' (HN.out (by omega))
          go_wp2_with fail
          exact ⟨⟨k + 1, h1, by rw [HE1.out], by go_num, trivial, HNN.out⟩, by simp [intOf]; omega⟩
      · obtain rfl : k = n := by omega
        have hkI : ¬ (k : Int) < (k : Int) := by omega
        have HD : Hid (dipN d k = false) := dipN_of HK.out
        clear HSB HRNG
        generalize sumN d k = sk at *
        go_wp2_with fail
        go_ret2
        exact ⟨by rw [HV.out, HEV.out, HD.out]; rfl, HF.out.below⟩
  · have h0 := h
    obtain ⟨e, he⟩ : ∃ e, errV a (prE n p m q) = e := ⟨_, rfl⟩
    obtain ⟨t, x, rfl⟩ : ∃ t x, e = .iface t x := by rw [← he, errV_pos a h]; exact ⟨_, _, rfl⟩
    rw [he] at hPE
    have HV : Hid ((decide (prE n p m q = 0) && !dipN (surF p q n) n) = false) := by show _ = _; rw [decide_eq_false h]; rfl
    have HE2 := Hid.mk' he
    obtain ⟨pad, pcap, rfl⟩ := hp.form
    obtain ⟨qad, qcap, rfl⟩ := hq.form
    clear hp hq h h0 he hE
    go_enter Tryd.func10, Tryd.ntmps10
    go_wp2_with fail
    refine hPE.mono ?_
    clear hPE
    rintro e w1 ⟨rfl, rfl⟩
    go_wp2_with fail
    go_ret2
    exact ⟨by rw [HV.out, HE2.out]; rfl, Below.refl _ _⟩
end Go.Proofs.YtgopohbombnflaaDoor
