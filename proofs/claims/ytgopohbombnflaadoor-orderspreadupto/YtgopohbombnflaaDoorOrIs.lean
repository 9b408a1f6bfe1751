/- The document's ListsError and IsAbove. -/
import Derived.Test.YtgopohbombnflaaDoorOrFa
import Derived.Test.YtgopohbombnflaaDoorOrAb
namespace Go.Proofs.YtgopohbombnflaaDoor
open Go.RowKit

theorem sum_right_any (v : Value) (n : Nat) (z : Nat → Int) (w : World) (h : NumsAt w v n z) (h0 : 0 < n) (hn : n ≤ 16) (hz : ∀ k, k < n → 0 ≤ z k ∧ z k ≤ 4096) :
    Calls Tryd.prog 30 #[v] w fun e w' => e = .returned (.int .i64 (sumN z n)) ∧ w' = w := by
  rcases h with ⟨_, _, _, h1⟩ | ⟨b, o, cap, rfl, _, hr⟩
  · omega
  · exact Sum_some b o cap n z w hr (right_sums hn hz).1 (right_sums hn hz).2 (by omega)

set_option maxRecDepth 100000 in
set_option maxHeartbeats 2000000 in
theorem ListsError_any (pv qv : Value) (n m : Nat) (p q : Nat → Int) (w : World) (hp : NumsAt w pv n p) (hq : NumsAt w qv m q) (hn : n ≤ 100000) (hm : m ≤ 100000) :
    Calls Tryd.prog 9 #[pv, qv] w fun e w' => e = .returned (.int .i64 (prE n p m q : Int)) ∧ w' = w := by
  have hCp := Numbers_any pv n p w hp (by omega)
  have hCq := Numbers_any qv m q w hq (by omega)
  have HP := Hid.mk' hp
  have HQ := Hid.mk' hq
  obtain ⟨pad, pcap, rfl⟩ := hp.form
  obtain ⟨qad, qcap, rfl⟩ := hq.form
  clear hp hq
  by_cases h1 : 16 < n ∨ 16 < m
  · have HV : Hid ((prE n p m q : Int) = 2) := by show _ = _; unfold prE; rw [if_pos h1]; rfl
    have hd : (16 : Int) < (n : Int) ∨ (¬ (16 : Int) < (n : Int) ∧ (16 : Int) < (m : Int)) := by omega
    clear hCp hCq h1
    rcases hd with h1 | ⟨h1, h2⟩
    all_goals
      go_enter Tryd.func9, Tryd.ntmps9
      go_wp2_with fail
      go_ret
      exact ⟨by rw [HV.out]; rfl, rfl⟩
  · have hn16 : ¬ (16 : Int) < (n : Int) := by omega
    have hm16 : ¬ (16 : Int) < (m : Int) := by omega
    have HV0 : Hid (prE n p m q = if n = 0 ∨ n ≠ m ∨ noN p n = true ∨ noN q m = true ∨ sumN p n ≠ sumN q m then 3 else 0) := by show _ = _; unfold prE; rw [if_neg h1]
    have hnn : n ≤ 16 ∧ m ≤ 16 := by omega
    clear h1
    have H3 : Hid ((n = 0 ∨ n ≠ m ∨ noN p n = true ∨ noN q m = true ∨ sumN p n ≠ sumN q m) → (prE n p m q : Int) = 3) := fun h => by rw [HV0.out, if_pos h]; rfl
    cases hcp : noN p n with
    | true =>
      have HV := Hid.mk' (H3.out (Or.inr (Or.inr (Or.inl hcp))))
      rw [hcp] at hCp
      clear hcp
      go_enter Tryd.func9, Tryd.ntmps9
      go_wp2_with fail
      refine hCp.mono ?_
      clear hCp
      rintro e w2 ⟨rfl, rfl⟩
      go_wp2_with fail
      refine hCq.mono ?_
      clear hCq
      rintro e w2 ⟨rfl, rfl⟩
      go_wp2_with fail
      go_ret
      exact ⟨by rw [HV.out]; rfl, rfl⟩
    | false =>
      rw [hcp] at hCp
      cases hcq : noN q m with
      | true =>
        have HV := Hid.mk' (H3.out (Or.inr (Or.inr (Or.inr (Or.inl hcq)))))
        rw [hcq] at hCq
        clear hcp hcq
        go_enter Tryd.func9, Tryd.ntmps9
        go_wp2_with fail
        refine hCp.mono ?_
        clear hCp
        rintro e w2 ⟨rfl, rfl⟩
        go_wp2_with fail
        refine hCq.mono ?_
        clear hCq
        rintro e w2 ⟨rfl, rfl⟩
        go_wp2_with fail
        go_ret
        exact ⟨by rw [HV.out]; rfl, rfl⟩
      | false =>
        rw [hcq] at hCq
        by_cases c1 : n = 0
        · have HV := Hid.mk' (H3.out (Or.inl c1))
          have k1 : ((n : Int) == 0) = true := by simp; exact c1
          clear c1 hcp hcq
          go_enter Tryd.func9, Tryd.ntmps9
          go_wp2_with fail
          refine hCp.mono ?_
          clear hCp
          rintro e w2 ⟨rfl, rfl⟩
          go_wp2_with fail
          refine hCq.mono ?_
          clear hCq
          rintro e w2 ⟨rfl, rfl⟩
          go_wp2_with fail
          go_ret
          exact ⟨by rw [HV.out]; rfl, rfl⟩
        · have k1 : ((n : Int) == 0) = false := by simp; exact c1
          by_cases c2 : n ≠ m
          · have HV := Hid.mk' (H3.out (Or.inr (Or.inl c2)))
            have k2 : ((n : Int) != (m : Int)) = true := by simp; omega
            clear c1 c2 hcp hcq
            go_enter Tryd.func9, Tryd.ntmps9
            go_wp2_with fail
            refine hCp.mono ?_
            clear hCp
            rintro e w2 ⟨rfl, rfl⟩
            go_wp2_with fail
            refine hCq.mono ?_
            clear hCq
            rintro e w2 ⟨rfl, rfl⟩
            go_wp2_with fail
            go_ret
            exact ⟨by rw [HV.out]; rfl, rfl⟩
          · have k2 : ((n : Int) != (m : Int)) = false := by simp; omega
            have HTP := Hid.mk' (sum_right_any _ n p w HP.out (by omega) hnn.1 (noN_none hcp))
            have HTQ := Hid.mk' (sum_right_any _ m q w HQ.out (by omega) hnn.2 (noN_none hcq))
            have hk : (∃ b, (sumN p n != sumN q m) = b ∧ (prE n p m q : Int) = if b = true then 3 else 0) := by
              by_cases c3 : sumN p n = sumN q m
              · exact ⟨false, by simp; exact c3, by rw [HV0.out, if_neg (by rw [hcp, hcq]; simp; exact ⟨c1, by omega, c3⟩)]; rfl⟩
              · exact ⟨true, by simp; exact c3, H3.out (Or.inr (Or.inr (Or.inr (Or.inr c3))))⟩
            obtain ⟨b, k3, k4⟩ := hk
            have HV := Hid.mk' k4
            clear c1 c2 hcp hcq k4
            cases b
            all_goals
              go_enter Tryd.func9, Tryd.ntmps9
              go_wp2_with fail
              refine hCp.mono ?_
              clear hCp
              rintro e w2 ⟨rfl, rfl⟩
              go_wp2_with fail
              refine hCq.mono ?_
              clear hCq
              rintro e w2 ⟨rfl, rfl⟩
              go_wp2_with fail
              refine HTP.out.mono ?_
              rintro e w2 ⟨rfl, rfl⟩
              go_wp2_with fail
              refine HTQ.out.mono ?_
              rintro e w2 ⟨rfl, rfl⟩
              go_wp2_with fail
              go_ret
              exact ⟨by rw [HV.out]; rfl, rfl⟩

set_option maxRecDepth 100000 in
set_option maxHeartbeats 2000000 in
theorem IsAbove_any (pv qv : Value) (n : Nat) (p q : Nat → Int) (w : World) (hp : NumsAt w pv n p) (hq : NumsAt w qv n q) (h0 : 0 < n) (hn : n ≤ 16) (hpr : ∀ k, k < n → 0 ≤ p k ∧ p k ≤ 4096) (hqr : ∀ k, k < n → 0 ≤ q k ∧ q k ≤ 4096) :
    Calls Tryd.prog 13 #[pv, qv] w fun e w' => e = .returned (.bool (!dipN (surF p q n) n)) ∧ Below w.heap.size w w' := by
  have hFp := Falling_any pv n p w hp (by omega)
  have HFq := Hid.mk' (fun (W : World) (hb : Below w.heap.size w W) => Falling_any qv n q W (hq.later hb) (by omega))
  obtain ⟨pad, pcap, rfl⟩ := hp.form
  obtain ⟨qad, qcap, rfl⟩ := hq.form
  have hpl := fallL_length p n
  have hql := fallL_length q n
  have HPR := Hid.mk' (fun k (hk : k < n) => fall_right hpr hk)
  have HQR := Hid.mk' (fun k (hk : k < n) => fall_right hqr hk)
  have HSU := Hid.mk' (fun k => sur_sum p q n k)
  clear hp hq hpr hqr
  go_enter Tryd.func13, Tryd.ntmps13
  go_wp2_with fail
  refine hFp.mono ?_
  clear hFp
  rintro e w1 ⟨v1, rfl, hr1, hb1⟩
  rcases hr1 with ⟨h1, _⟩ | ⟨b, cp, rfl, _, hcp, hrow1⟩
  · rw [h1] at hpl; simp at hpl; omega
  rw [hpl] at hcp hrow1 ⊢
  have HB1 := Hid.mk' hb1
  have HR1 := Hid.mk' hrow1
  clear hb1 hrow1
  go_wp2_with fail
  refine (HFq.out w1 HB1.out).mono ?_
  clear HFq
  rintro e w2 ⟨v2, rfl, hr2, hb2⟩
  rcases hr2 with ⟨h1, _⟩ | ⟨b', cp', rfl, _, hcp', hrow2⟩
  · rw [h1] at hql; simp at hql; omega
  rw [hql] at hcp' hrow2 ⊢
  have HB2 := Hid.mk' (below_chain HB1.out hb2)
  have HR2 := Hid.mk' hrow2
  have HR1' := Hid.mk' (HR1.out.later hb2)
  clear hb2 hrow2 HR1 hpl hql
  go_wp2_with fail
  go_loopw [7] (fun t wr => ∃ k : Nat, k ≤ n + 1 ∧ t = .int .i64 (k : Int) ∧ Hid (Below w2.heap.size w2 wr) ∧ Hid (∀ j, j < k → 0 ≤ sumN (surF p q n) j)) (fun t _ => n + 1 - (intOf t).toNat)
  case atStart => exact ⟨0, Nat.zero_le _, rfl, Below.refl _ _, fun j hj => by omega⟩
  case round =>
    obtain ⟨k, hk, rfl, HB, HK⟩ := hrel
    rcases Nat.lt_or_ge k (n + 1) with h1 | h1
    · have hkI : (k : Int) ≤ (n : Int) := by omega
      have hk0 : (0 : Int) ≤ (k : Int) := by omega
      have hkc : (k : Int) ≤ (cp : Int) := by omega
      have hkc' : (k : Int) ≤ (cp' : Int) := by omega
      have HS1 : Hid (∀ (v : Value) (m : Nat), v = .slice (some ⟨b, 0, none⟩) k cp → Calls Tryd.prog 30 #[v] (wr.drewN m) fun e w' => e = .returned (.int .i64 (sumN (atF (fallL p n)) k)) ∧ w' = wr.drewN m) := by
        rintro v m rfl
        have hz : ∀ i, i < k → 0 ≤ atF (fallL p n) i ∧ atF (fallL p n) i ≤ 4096 := fun i hi => HPR.out i (by omega)
        exact Sum_some b 0 cp k _ _ (fun i hi => (HR1'.out.later (below_drewN HB.out m)) i (by omega)) (right_sums (by omega) hz).1 (right_sums (by omega) hz).2 (by omega)
      have HS2 : Hid (∀ (v : Value) (m : Nat), v = .slice (some ⟨b', 0, none⟩) k cp' → Calls Tryd.prog 30 #[v] (wr.drewN m) fun e w' => e = .returned (.int .i64 (sumN (atF (fallL q n)) k)) ∧ w' = wr.drewN m) := by
        rintro v m rfl
        have hz : ∀ i, i < k → 0 ≤ atF (fallL q n) i ∧ atF (fallL q n) i ≤ 4096 := fun i hi => HQR.out i (by omega)
        exact Sum_some b' 0 cp' k _ _ (fun i hi => (HR2.out.later (below_drewN HB.out m)) i (by omega)) (right_sums (by omega) hz).1 (right_sums (by omega) hz).2 (by omega)
      have HSK : Hid (sumN (surF p q n) k = sumN (atF (fallL p n)) k - sumN (atF (fallL q n)) k) := HSU.out k
      have HDIP : Hid (sumN (surF p q n) k < 0 → dipN (surF p q n) n = true) := fun hh => dipN_at hh (by omega)
      have HNX : Hid (0 ≤ sumN (surF p q n) k → ∀ j, j < k + 1 → 0 ≤ sumN (surF p q n) j) := fun hh j hj => by
        rcases Nat.lt_or_ge j k with h' | h'
        · exact HK.out j h'
        · obtain rfl : j = k := by omega
          exact hh
      generalize sumN (atF (fallL p n)) k = x at *
      generalize sumN (atF (fallL q n)) k = y at *
      by_cases hxy : x < y
      · have HD := Hid.mk' (HDIP.out (by rw [HSK.out]; omega))
        have d1 : decide (x < y) = true := by simp; exact hxy
        go_wp2_with fail
        go_quiet ((go_at_call 30; first | exact Calls.quiet_of_same (HS1.out _ _ rfl) | exact Calls.quiet_of_same (HS2.out _ _ rfl)))
        go_wp2_with fail
        go_ret
        exact ⟨by rw [HD.out]; rfl, below_drewN (below_chain HB2.out HB.out) _⟩
      · have HN := Hid.mk' (HNX.out (by rw [HSK.out]; omega))
        have d1 : decide (x < y) = false := by simp; omega
        go_wp2_with fail
        go_quiet ((go_at_call 30; first | exact Calls.quiet_of_same (HS1.out _ _ rfl) | exact Calls.quiet_of_same (HS2.out _ _ rfl)))
        go_wp2_with fail
        exact ⟨⟨k + 1, by omega, by go_num, below_drewN HB.out _, HN.out⟩, by simp [intOf]; omega⟩
    · obtain rfl : k = n + 1 := by omega
      have hkI : ¬ ((n + 1 : Nat) : Int) ≤ (n : Int) := by omega
      have HD : Hid (dipN (surF p q n) n = false) := dipN_of (fun j hj => HK.out j (by omega))
      go_wp2_with fail
      go_ret
      exact ⟨by rw [HD.out]; rfl, below_chain HB2.out HB.out⟩
end Go.Proofs.YtgopohbombnflaaDoor
