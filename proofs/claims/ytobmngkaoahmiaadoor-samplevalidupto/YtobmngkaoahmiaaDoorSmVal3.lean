/- Rules: the document's error. -/
import Derived.Test.YtobmngkaoahmiaaDoorSmVal2
namespace Go.Proofs.YtobmngkaoahmiaaDoor
open Go.RowKit

set_option maxRecDepth 100000 in
set_option maxHeartbeats 4000000 in
theorem RulesError_any (v : Value) (n : Nat) (vs : Nat → Value) (ns : Nat → Nat) (zs : Nat → Nat → Int) (w : World) (h : TabAt w v n vs ns zs) (hn : n ≤ 1000000) (hns : ∀ i, i < n → ns i ≤ 1000000) :
    Calls Tryd.prog 22 #[v] w fun e w' => e = .returned (.int .i64 ((rlE n ns zs : Nat) : Int)) ∧ Below w.heap.size w w' := by
  obtain ⟨ad, cap, rfl⟩ := h.form
  by_cases h8 : 16 < n
  · have hI : (16 : Int) < (n : Int) := by omega
    rw [show rlE n ns zs = 2 by unfold rlE; rw [if_pos h8]]
    clear h hns
    go_enter Tryd.func22, Tryd.ntmps22
    go_wp2_with fail
    go_ret
    exact ⟨rfl, Below.refl _ _⟩
  have hI3 : ¬ (16 : Int) < (n : Int) := by omega
  rcases Nat.eq_zero_or_pos n with h0 | h0
  · subst h0
    rw [show rlE 0 ns zs = 3 by unfold rlE; rw [if_neg h8, show longB ns 0 = false from rfl, if_neg (by simp), if_pos rfl]]
    clear h hns
    go_enter Tryd.func22, Tryd.ntmps22
    go_wp2_with fail
    refine wp_loop_rounds 1 ?_
    rw [rounds_succ]
    go_wp2_with fail
    go_ret
    exact ⟨rfl, Below.refl _ _⟩
  have hz : ((n : Int) == 0) = false := by rw [beq_eq_false_iff_ne]; omega
  obtain ⟨b, o, rfl, hrows⟩ : ∃ b o, ad = some ⟨b, o, none⟩ ∧ ∀ i, i < n → w.cell? ⟨b, o + i, none⟩ = some (vs i) ∧ NumsAt w (vs i) (ns i) (zs i) := by
    rcases h with ⟨_, _, _, h1⟩ | ⟨b, o, c, h1, _, h2⟩
    · omega
    · simp only [Value.slice.injEq, true_and] at h1
      exact ⟨b, o, h1.1, h2⟩
  have HR := Hid.mk' (fun (W : World) (hb : Below w.heap.size w W) (i : Nat) (hi : i < n) => (show W.cell? ⟨b, o + i, none⟩ = some (vs i) ∧ NumsAt W (vs i) (ns i) (zs i) from ⟨by rw [hb.cell (cell_lt (hrows i hi).1)]; exact (hrows i hi).1, (hrows i hi).2.later hb⟩))
  obtain ⟨rad0, rcap0, hre0⟩ := (hrows 0 h0).2.form
  have HC0 : Hid (∀ W, Below w.heap.size w W → W.cell? ⟨b, o, none⟩ = some (.slice rad0 (ns 0) rcap0)) := fun W hb => by
    have := (HR.out W hb 0 h0).1
    rw [hre0, Nat.add_zero] at this
    exact this
  have HNS := Hid.mk' hns
  have HL2 : Hid (∀ k, k < n → 16 < ns k → rlE n ns zs = 2) := fun k hk hl => by unfold rlE; rw [if_neg h8, if_pos (longB_mono hk hl)]
  have HE : Hid (longB ns n = false → ns 0 ≠ 0 → rlE n ns zs = if rlBad n ns zs = true then 3 else if rlDn n ns zs = true then 7 else 0) := fun hl hm => by unfold rlE; rw [if_neg h8, hl, if_neg (by simp), if_neg (by omega), if_neg hm]
  have HE0 : Hid (longB ns n = false → ns 0 = 0 → rlE n ns zs = 3) := fun hl hm => by unfold rlE; rw [if_neg h8, hl, if_neg (by simp), if_neg (by omega), if_pos hm]
  have HNP : Hid (0 < n) := h0
  have hnI : (0 : Int) < (n : Int) := by omega
  clear h hrows hre0 hns
  go_enter Tryd.func22, Tryd.ntmps22
  go_wp2_with fail
  go_loopw [3] (fun t wr => ∃ k : Nat, k ≤ n ∧ t = .int .i64 k ∧ Hid (longB ns k = false) ∧ wr = w) (fun t _ => n - (intOf t).toNat)
  case atStart => exact ⟨0, Nat.zero_le _, rfl, rfl, rfl⟩
  case round =>
    obtain ⟨k, hk, rfl, HS, hwr⟩ := hrel
    rw [hwr]
    clear hwr
    have hk0 : (0 : Int) ≤ (k : Int) := by omega
    rcases Nat.lt_or_ge k n with h1 | h1
    · have hkI : (k : Int) < (n : Int) := by omega
      obtain ⟨hc, hnum⟩ := HR.out w (Below.refl _ _) k h1
      obtain ⟨rad, rcap, hre⟩ := hnum.form
      rw [hre] at hc
      have hnk := HNS.out k h1
      have HLK := Hid.mk' (HL2.out k h1)
      have HNX : Hid (¬ 16 < ns k → longB ns (k + 1) = false) := fun hq => by show (longB ns k || _) = false; rw [HS.out, decide_eq_false hq]; rfl
      clear hre hnum
      generalize ns k = nk at *
      by_cases hl : 16 < nk
      · have hlI : (16 : Int) < (nk : Int) := by omega
        have HF := Hid.mk' (HLK.out hl)
        go_wp2_with fail
        go_ret
        exact ⟨by rw [HF.out]; rfl, Below.refl _ _⟩
      · have hlI : ¬ (16 : Int) < (nk : Int) := by omega
        have HF := Hid.mk' (HNX.out hl)
        go_wp2_with fail
        exact ⟨⟨k + 1, h1, by go_num, HF.out, trivial⟩, by simp [intOf]; omega⟩
    · obtain rfl : k = n := by omega
      have hkI : ¬ ((k : Int) < (k : Int)) := by omega
      have HLN := Hid.mk' (not_long HS.out)
      have HE3 := Hid.mk' (HE0.out HS.out)
      have HEM := Hid.mk' (HE.out HS.out)
      have HBA : Hid (∀ i, i < k → ruB ns zs i = true → rlE k ns zs = 3) := fun i hi hb => by
        by_cases hm : ns 0 = 0
        · exact HE3.out hm
        · rw [HEM.out hm, if_pos (show rlBad k ns zs = true from anyS_at hb hi)]
      have HB0 : Hid (∀ i, i < k → ns i = 0 → rlE k ns zs = 3) := fun i hi hb => by
        by_cases hm : ns 0 = 0
        · exact HE3.out hm
        · exact HBA.out i hi (by rw [ruB, decide_eq_true (by omega)]; rfl)
      clear HS HL2 HE HE0
      go_wp2_with fail
      go_loopw [4, 5] (fun u t wr => ∃ (i : Nat) (ub : Bool), i ≤ k ∧ u = .bool ub ∧ t = .int .i64 i ∧ Hid (anyS (ruB ns zs) i = false ∧ (0 < i → ns 0 ≠ 0)) ∧ Hid (anyS (dwB ns zs) i = ub) ∧ Hid (Below w.heap.size w wr)) (fun _ t _ => k - (intOf t).toNat)
      case atStart => exact ⟨0, false, Nat.zero_le _, rfl, rfl, ⟨rfl, fun h => by omega⟩, rfl, Below.refl _ _⟩
      case round =>
        obtain ⟨i, ub, hi, rfl, rfl, HS, HU, HB⟩ := hrel
        have hi0 : (0 : Int) ≤ (i : Int) := by omega
        rcases Nat.lt_or_ge i k with h2 | h2
        · have hiI : (i : Int) < (k : Int) := by omega
          obtain ⟨hc, hnum⟩ := HR.out wr HB.out i h2
          obtain ⟨rad, rcap, hre⟩ := hnum.form
          rw [hre] at hc hnum
          have hc0 := HC0.out wr HB.out
          have hni := HLN.out i h2
          have hn0 := HLN.out 0 HNP.out
          by_cases hz0 : ns i = 0
          · have HF := Hid.mk' (HB0.out i h2 hz0)
            have hzb : ((ns i : Int) == 0) = true := by rw [beq_iff_eq]; omega
            clear hre hnum hz0
            generalize ns i = ni at *
            go_wp2_with fail
            go_quiet (fail)
            go_wp2_with fail
            go_ret
            exact ⟨by rw [HF.out]; rfl, below_drewN HB.out _⟩
          · have hzb : ((ns i : Int) == 0) = false := by rw [beq_eq_false_iff_ne]; omega
            by_cases hsh : ns i = ns 0
            · have hsb : ((ns i : Int) != (ns 0 : Int)) = false := by rw [hsh]; simp
              obtain ⟨rb, ro, rfl, hrow⟩ : ∃ rb ro, rad = some ⟨rb, ro, none⟩ ∧ RowAt wr rb ro (ns i) (zs i) := by
                rcases hnum with ⟨_, _, _, h6⟩ | ⟨rb, ro, c, h6, _, h7⟩
                · omega
                · simp only [Value.slice.injEq, true_and] at h6
                  exact ⟨rb, ro, h6.1, h7⟩
              have HBK : Hid (∀ j, j < ns i → outB (ns i) (zs i) j = true → rlE k ns zs = 3) := fun j hj hb => HBA.out i h2 (by rw [ruB, show rowBad (ns i) (zs i) = true from anyS_at hb hj, Bool.or_true])
              have HNX : Hid ((∀ j, j < ns i → outB (ns i) (zs i) j = false) → anyS (ruB ns zs) (i + 1) = false ∧ (0 < i + 1 → ns 0 ≠ 0)) := fun hq => ⟨by
                rw [anyS, HS.out.1, ruB, show rowBad (ns i) (zs i) = false from anyS_none hq]
                simp [hsh], fun _ => by omega⟩
              have HUX : Hid (anyS (dwB ns zs) (i + 1) = (ub || anyS (dnB (zs i)) (ns i - 1))) := by show (anyS (dwB ns zs) i || rowDn (ns i) (zs i)) = _; rw [HU.out]; rfl
              have HROW : Hid (∀ W, Below w.heap.size w W → RowAt W rb ro (ns i) (zs i)) := fun W hb => by
                have h9 := (HR.out W hb i h2).2
                rw [hre] at h9
                rcases h9 with ⟨_, _, _, h6⟩ | ⟨rb', ro', c, h6, _, h7⟩
                · omega
                · simp only [Value.slice.injEq, Option.some.injEq, Addr.mk.injEq, and_true, true_and] at h6
                  obtain ⟨⟨rfl, rfl⟩, _⟩ := h6
                  exact h7
              have HCW := Hid.mk' (fun (W : World) (hb : Below w.heap.size w W) => (show W.cell? ⟨b, o + i, none⟩ = some (.slice (some ⟨rb, ro, none⟩) (ns i) rcap) by have := (HR.out W hb i h2).1; rw [hre] at this; exact this))
              have HZP : Hid (0 < ns i) := by show _ < _; omega
              clear hre hnum hz0 hrow HS HU
              rw [hsh] at hc hni hzb hsb HBK HNX HUX HROW HCW HZP
              clear hsh HLN
              generalize ns 0 = m at *
              go_wp2_with fail
              go_quiet (fail)
              obtain ⟨wq, hwq⟩ : ∃ wq, wq = wr.drewN nq := ⟨_, rfl⟩
              rw [← hwq]
              have HBQ : Hid (Below w.heap.size w wq) := by show Below _ _ _; rw [hwq]; exact below_drewN HB.out _
              clear hwq hc hc0
              go_wp2_with fail
              go_loopw [4, 6] (fun u t wi => ∃ (q : Nat) (ub2 : Bool), q ≤ m ∧ u = .bool ub2 ∧ t = .int .i64 q ∧ Hid (∀ j, j < q → outB m (zs i) j = false) ∧ Hid ((ub || anyS (dnB (zs i)) (q - 1)) = ub2) ∧ Hid (Below w.heap.size w wi)) (fun _ t _ => m - (intOf t).toNat)
              case atStart => exact ⟨0, ub, Nat.zero_le _, rfl, rfl, fun j hj => by omega, by show _ = _; simp [anyS], HBQ.out⟩
              case round =>
                clear HBQ
                obtain ⟨q, ub2, hq, rfl, rfl, HO, HU, HB⟩ := hrel
                have hc := HCW.out wr HB.out
                have hq0 : (0 : Int) ≤ (q : Int) := by omega
                rcases Nat.lt_or_ge q m with h3 | h3
                · have hqI : (q : Int) < (m : Int) := by omega
                  have hcq := HROW.out wr HB.out q h3
                  have HBQ := Hid.mk' (HBK.out q h3)
                  have HOD : Hid (outB m (zs i) q = (decide (zs i q < 0) || decide ((m : Int) ≤ zs i q))) := rfl
                  have HON : Hid (outB m (zs i) q = false → ∀ j, j < q + 1 → outB m (zs i) j = false) := fun hh j hj => by
                    rcases Nat.lt_or_ge j q with h4 | h4
                    · exact HO.out j h4
                    · obtain rfl : j = q := by omega
                      exact hh
                  by_cases hneg : zs i q < 0
                  · have hnd : decide (zs i q < 0) = true := decide_eq_true hneg
                    have HF := Hid.mk' (HBQ.out (by rw [HOD.out, hnd]; rfl))
                    clear HOD HON HBQ
                    generalize zs i q = zq at *
                    go_wp2_with fail
                    go_quiet (fail)
                    go_wp2_with fail
                    go_ret
                    exact ⟨by rw [HF.out]; rfl, below_drewN HB.out _⟩
                  · have hnd : decide (zs i q < 0) = false := decide_eq_false hneg
                    by_cases hbig : (m : Int) ≤ zs i q
                    · have hbd : decide ((m : Int) ≤ zs i q) = true := decide_eq_true hbig
                      have HF := Hid.mk' (HBQ.out (by rw [HOD.out, hbd, Bool.or_true]))
                      clear HOD HON HBQ
                      generalize zs i q = zq at *
                      go_wp2_with fail
                      go_quiet (fail)
                      go_wp2_with fail
                      go_ret
                      exact ⟨by rw [HF.out]; rfl, below_drewN HB.out _⟩
                    · have hbd : decide ((m : Int) ≤ zs i q) = false := decide_eq_false hbig
                      have HON2 := Hid.mk' (HON.out (by rw [HOD.out, hnd, hbd]; rfl))
                      clear HOD HON HBQ hneg hbig
                      have HZQ : Hid (∀ p, q = p + 1 → ∀ W, Below w.heap.size w W → W.cell? ⟨rb, ro + p, none⟩ = some (.int .i64 (zs i p))) := fun p hp W hb => HROW.out W hb p (by omega)
                      have HUQ : Hid (∀ p, q = p + 1 → (ub || anyS (dnB (zs i)) q) = (ub2 || decide (zs i (p + 1) < zs i p))) := fun p hp => by
                        have h9 := HU.out
                        rw [hp, Nat.add_sub_cancel] at h9
                        rw [hp, anyS, ← Bool.or_assoc, h9]; rfl
                      have HU0 : Hid (q = 0 → (ub || anyS (dnB (zs i)) q) = ub2) := fun hp => by
                        have h9 := HU.out
                        rw [hp] at h9 ⊢
                        exact h9
                      cases ub2 with
                      | true =>
                        have HUN : Hid ((ub || anyS (dnB (zs i)) (q + 1 - 1)) = true) := by
                          show _ = _
                          rw [Nat.add_sub_cancel]
                          rcases Nat.eq_zero_or_pos q with h5 | h5
                          · exact HU0.out h5
                          · rw [HUQ.out (q - 1) (by omega)]; rfl
                        clear HU HUQ HU0 HZQ
                        generalize zs i q = zq at *
                        go_wp2_with fail
                        go_quiet (fail)
                        go_wp2_with fail
                        go_quiet (fail)
                        go_wp2_with fail
                        exact ⟨⟨q + 1, true, h3, rfl, by go_num, HON2.out, HUN.out, below_drewN HB.out _⟩, by simp [intOf]; omega⟩
                      | false =>
                        rcases Nat.eq_zero_or_pos q with h5 | h5
                        · have HUN : Hid ((ub || anyS (dnB (zs i)) (q + 1 - 1)) = false) := by show _ = _; rw [Nat.add_sub_cancel]; exact HU0.out h5
                          have hqd : decide ((0 : Int) < (q : Int)) = false := decide_eq_false (by omega)
                          have hqn : ¬ (0 : Int) < (q : Int) := by omega
                          have hqN : decide (0 < q) = false := decide_eq_false (by omega)
                          have hqM : ¬ 0 < q := by omega
                          clear HU HUQ HU0 HZQ h5
                          generalize zs i q = zq at *
                          go_wp2_with fail
                          go_quiet (fail)
                          go_wp2_with fail
                          go_quiet (fail)
                          go_wp2_with fail
                          exact ⟨⟨q + 1, false, h3, rfl, by go_num, HON2.out, HUN.out, below_drewN HB.out _⟩, by simp [intOf]; omega⟩
                        · obtain ⟨p, rfl⟩ : ∃ p, q = p + 1 := ⟨q - 1, by omega⟩
                          have hcp := HZQ.out p rfl wr HB.out
                          have HUN : Hid ((ub || anyS (dnB (zs i)) (p + 1 + 1 - 1)) = decide (zs i (p + 1) < zs i p)) := by show _ = _; rw [Nat.add_sub_cancel, HUQ.out p rfl]; rfl
                          have hqd : decide ((0 : Int) < ((p + 1 : Nat) : Int)) = true := decide_eq_true (by omega)
                          have hqd2 : decide ((0 : Int) < (p : Int) + 1) = true := decide_eq_true (by omega)
                          have hqn : (0 : Int) < (p : Int) + 1 := by omega
                          have hp0 : (0 : Int) ≤ (p : Int) := by omega
                          have hpm : (p : Int) < (m : Int) := by omega
                          clear HU HUQ HU0 HZQ
                          generalize zs i (p + 1) = zq at *
                          generalize zs i p = zp at *
                          have hdd := Bool.eq_false_or_eq_true (decide (zq < zp))
                          obtain ⟨bd, hbdd⟩ : ∃ bd, bd = decide (zq < zp) := ⟨_, rfl⟩
                          cases hdx : decide (zq < zp) with
                          | true =>
                            have hdp : zq < zp := of_decide_eq_true hdx
                            rw [hdx] at HUN
                            clear hdd hbdd
                            go_wp2_with fail
                            go_quiet (fail)
                            go_wp2_with fail
                            go_quiet (fail)
                            go_wp2_with fail
                            exact ⟨⟨p + 1 + 1, true, h3, rfl, by go_num, HON2.out, HUN.out, below_drewN HB.out _⟩, by simp [intOf]; omega⟩
                          | false =>
                            have hdp : ¬ zq < zp := of_decide_eq_false hdx
                            rw [hdx] at HUN
                            clear hdd hbdd
                            go_wp2_with fail
                            go_quiet (fail)
                            go_wp2_with fail
                            go_quiet (fail)
                            go_wp2_with fail
                            exact ⟨⟨p + 1 + 1, false, h3, rfl, by go_num, HON2.out, HUN.out, below_drewN HB.out _⟩, by simp [intOf]; omega⟩
                · obtain rfl : q = m := by omega
                  have hqI : ¬ ((q : Int) < (q : Int)) := by omega
                  have HS2 := Hid.mk' (HNX.out HO.out)
                  have HU2 : Hid (anyS (dwB ns zs) (i + 1) = ub2) := by show _ = _; rw [HUX.out]; exact HU.out
                  clear HNX HUX HU HO HROW
                  go_wp2_with fail
                  exact ⟨⟨i + 1, ub2, h2, rfl, by go_num, HS2.out, HU2.out, HB.out⟩, by simp [intOf]; omega⟩
            · have HF := Hid.mk' (HBA.out i h2 (by rw [ruB, decide_eq_true hsh]; rfl))
              have hsb : ((ns i : Int) != (ns 0 : Int)) = true := by rw [bne_iff_ne]; omega
              clear hre hnum hz0 hsh
              generalize ns i = ni at *
              generalize ns 0 = n0 at *
              go_wp2_with fail
              go_quiet (fail)
              go_wp2_with fail
              go_ret
              exact ⟨by rw [HF.out]; rfl, below_drewN HB.out _⟩
        · obtain rfl : i = k := by omega
          have hiI : ¬ ((i : Int) < (i : Int)) := by omega
          have HRZ : Hid (rlE i ns zs = if ub = true then 7 else 0) := by
            show _ = _
            rw [HEM.out (HS.out.2 HNP.out), show rlBad i ns zs = false from HS.out.1, show rlDn i ns zs = ub from HU.out]; simp
          cases ub with
          | true =>
            go_wp2_with fail
            go_ret
            exact ⟨by rw [HRZ.out]; rfl, HB.out⟩
          | false =>
            go_wp2_with fail
            go_ret
            exact ⟨by rw [HRZ.out]; rfl, HB.out⟩
end Go.Proofs.YtobmngkaoahmiaaDoor
