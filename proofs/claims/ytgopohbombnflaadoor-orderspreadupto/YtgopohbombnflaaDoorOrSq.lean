/- The document's SquareError. -/
import Derived.Test.YtgopohbombnflaaDoorOrTab
import Derived.Test.YtgopohbombnflaaDoorOrIs
namespace Go.Proofs.YtgopohbombnflaaDoor
open Go.RowKit

set_option maxRecDepth 100000 in
set_option maxHeartbeats 4000000 in
theorem SquareError_any (v : Value) (R : Nat) (vs : Nat → Value) (ns : Nat → Nat) (zs : Nat → Nat → Int) (w : World) (h : TabAt w v R vs ns zs) (hR : R ≤ 1000) (hns : ∀ i, i < R → ns i ≤ 100000) :
    Calls Tryd.prog 22 #[v] w fun e w' => e = .returned (.int .i64 (sqE R ns zs : Int)) ∧ Below w.heap.size w w' := by
  obtain ⟨ad, cap, rfl⟩ := h.form
  have HT := Hid.mk' h
  have HNS := Hid.mk' hns
  by_cases h1 : 8 < R
  · have HV : Hid ((sqE R ns zs : Int) = 2) := by show _ = _; unfold sqE; rw [if_pos h1]; rfl
    have hI : (8 : Int) < (R : Int) := by omega
    clear h hns h1
    go_enter Tryd.func22, Tryd.ntmps22
    go_wp2_with fail
    go_ret
    exact ⟨by rw [HV.out]; rfl, Below.refl _ _⟩
  · have hI : ¬ (8 : Int) < (R : Int) := by omega
    by_cases h2 : R = 0
    · have HV : Hid ((sqE R ns zs : Int) = 3) := by show _ = _; unfold sqE; rw [if_neg h1, if_pos h2]; rfl
      have hI2 : ((R : Int) == 0) = true := by simp; exact h2
      clear h hns h1 h2
      go_enter Tryd.func22, Tryd.ntmps22
      go_wp2_with fail
      go_ret
      exact ⟨by rw [HV.out]; rfl, Below.refl _ _⟩
    · have hI2 : ((R : Int) == 0) = false := by simp; exact h2
      have HS0 : Hid (sqE R ns zs = if anyO (rwB R ns zs) R = true then 3 else if anyO (smB R zs) R = true then 3 else 0) := by show _ = _; unfold sqE; rw [if_neg h1, if_neg h2]
      have hR8 : R ≤ 8 ∧ 0 < R := by omega
      clear h hns h1 h2
      go_enter Tryd.func22, Tryd.ntmps22
      go_wp2_with fail
      go_loop [3] (fun t => ∃ k : Nat, k ≤ R ∧ t = .int .i64 (k : Int) ∧ Hid (∀ j, j < k → rwB R ns zs j = false)) (fun t => R - (intOf t).toNat)
      case atStart => exact ⟨0, Nat.zero_le _, rfl, fun j hj => by omega⟩
      case round =>
        obtain ⟨k, hk, rfl, HK⟩ := hrel
        rcases Nat.lt_or_ge k R with h1 | h1
        · have hkI : (k : Int) < (R : Int) := by omega
          have hk0 : (0 : Int) ≤ (k : Int) := by omega
          obtain ⟨b, o, rfl, hcv, hnum⟩ := HT.out.row h1
          have hcf := Numbers_any (vs k) (ns k) (zs k) w hnum (by have := HNS.out k h1; omega)
          obtain ⟨rad, rcap, hv⟩ := hnum.form
          rw [hv] at hcv hcf
          have HBAD : Hid (rwB R ns zs k = true → (sqE R ns zs : Int) = 3) := fun hb => by rw [HS0.out, if_pos (anyO_at hb h1)]; rfl
          have HGO : Hid (rwB R ns zs k = false → ∀ j, j < k + 1 → rwB R ns zs j = false) := fun hb j hj => by
            rcases Nat.lt_or_ge j k with h' | h'
            · exact HK.out j h'
            · obtain rfl : j = k := by omega
              exact hb
          have HRW : Hid (rwB R ns zs k = (decide (ns k ≠ R) || noN (zs k) (ns k))) := rfl
          clear hnum hv
          generalize ns k = nk at *
          cases hno : noN (zs k) nk with
          | true =>
            have HV := Hid.mk' (HBAD.out (by rw [HRW.out, hno, Bool.or_true]))
            rw [hno] at hcf
            clear hno
            go_wp2_with fail
            refine hcf.mono ?_
            clear hcf
            rintro e w2 ⟨rfl, rfl⟩
            go_wp2_with fail
            go_ret
            exact ⟨by rw [HV.out]; rfl, Below.refl _ _⟩
          | false =>
            rw [hno] at hcf
            by_cases hlen : nk = R
            · have k2 : ((nk : Int) != (R : Int)) = false := by simp; omega
              have HN := Hid.mk' (HGO.out (by rw [HRW.out, hno]; simp; exact hlen))
              clear hno hlen
              go_wp2_with fail
              refine hcf.mono ?_
              clear hcf
              rintro e w2 ⟨rfl, hw2⟩
              rw [hw2]
              clear hw2
              go_wp2_with fail
              exact ⟨⟨k + 1, h1, by go_num, HN.out⟩, by simp [intOf]; omega⟩
            · have HV := Hid.mk' (HBAD.out (by rw [HRW.out]; simp; exact Or.inl hlen))
              have k2 : ((nk : Int) != (R : Int)) = true := by simp; omega
              clear hlen hno
              go_wp2_with fail
              refine hcf.mono ?_
              clear hcf
              rintro e w2 ⟨rfl, rfl⟩
              go_wp2_with fail
              go_ret
              exact ⟨by rw [HV.out]; rfl, Below.refl _ _⟩
        · obtain rfl : k = R := by omega
          have hkI : ¬ (k : Int) < (k : Int) := by omega
          have HS1 : Hid (sqE k ns zs = if anyO (smB k zs) k = true then 3 else 0) := by show _ = _; rw [HS0.out, anyO_none HK.out, if_neg (by decide)]
          have HLN := Hid.mk' (fun i (hi : i < k) => (rwB_no (HK.out i hi)).1)
          have HNM := Hid.mk' (fun i (hi : i < k) => (rwB_no (HK.out i hi)).2)
          obtain ⟨b, o, rfl, hcv0, hnum0⟩ := HT.out.row hR8.2
          rw [HLN.out 0 hR8.2] at hnum0
          rw [Nat.add_zero] at hcv0
          have hk00 : (0 : Int) < (k : Int) := by omega
          have HTL := Hid.mk' (fun (W : World) (hb : Below w.heap.size w W) => HT.out.later hb)
          have HC0 := Hid.mk' (fun (W : World) (hb : Below w.heap.size w W) => (by rw [hb.cell (cell_lt hcv0)]; exact hcv0 : W.cell? ⟨b, o, none⟩ = some (vs 0)))
          have HSUM : Hid (∀ (x : Value) (i : Nat) (W : World), x = vs i → i < k → Below w.heap.size w W → Calls Tryd.prog 30 #[x] W fun e w' => e = .returned (.int .i64 (sumN (zs i) k)) ∧ w' = W) := by
            rintro x i W rfl hi hb
            obtain ⟨_, _, _, _, hx⟩ := (HTL.out W hb).row hi
            rw [HLN.out i hi] at hx
            exact sum_right_any _ k (zs i) W hx hR8.2 (by omega) (HNM.out i hi)
          obtain ⟨T, hT⟩ : ∃ T, T = sumN (zs 0) k := ⟨_, rfl⟩
          have HTQ := Hid.mk' hT
          clear HS0 HK HNS hnum0 hcv0 hT
          go_wp2_with fail
          go_loopw [5] (fun t wr => ∃ j : Nat, j ≤ k ∧ t = .int .i64 (j : Int) ∧ Hid (∀ i, i < j → smB k zs i = false) ∧ Hid (Below w.heap.size w wr)) (fun t _ => k - (intOf t).toNat)
          case atStart => exact ⟨0, Nat.zero_le _, rfl, (fun j hj => by omega), Below.refl _ _⟩
          case round =>
            obtain ⟨j, hj, rfl, HJ, HB⟩ := hrel
            rcases Nat.lt_or_ge j k with h2 | h2
            · have hjI : (j : Int) < (k : Int) := by omega
              have hj0 : (0 : Int) ≤ (j : Int) := by omega
              have HSB : Hid (∀ m, m ≤ k → 0 ≤ sumN (fun r => zs r j) m ∧ sumN (fun r => zs r j) m ≤ (m : Int) * 4096) := fun m hm => sum_right (fun i hi => HNM.out i (by omega) j h2)
              go_wp2_with fail
              go_loopw [6, 7] (fun s t wr => ∃ m : Nat, m ≤ k ∧ s = .int .i64 (sumN (fun r => zs r j) m) ∧ t = .int .i64 (m : Int) ∧ Hid (Below w.heap.size w wr)) (fun _ t _ => k - (intOf t).toNat)
              case atStart => exact ⟨0, Nat.zero_le _, rfl, rfl, HB.out⟩
              case round =>
                clear HB
                obtain ⟨m, hm, rfl, rfl, HB⟩ := hrel
                have hs := HSB.out m hm
                rcases Nat.lt_or_ge m k with h3 | h3
                · have hmI : (m : Int) < (k : Int) := by omega
                  have hm0 : (0 : Int) ≤ (m : Int) := by omega
                  obtain ⟨b', o', e, hcv, hnum⟩ := (HTL.out wr HB.out).row h3
                  obtain ⟨rfl, rfl⟩ : b = b' ∧ o = o' := by simpa using e
                  rw [HLN.out m h3] at hnum
                  have hx := HNM.out m h3 j h2
                  have HS2 : Hid (sumN (fun r => zs r j) (m + 1) = sumN (fun r => zs r j) m + zs m j) := rfl
                  rcases hnum with ⟨_, _, _, h0⟩ | ⟨rb, ro, rc, hv, _, hrow⟩
                  · omega
                  have hcx := hrow j h2
                  rw [hv] at hcv
                  clear hv hrow e
                  generalize zs m j = x at *
                  obtain ⟨s, hs'⟩ : ∃ s, s = sumN (fun r => zs r j) m := ⟨_, rfl⟩
                  rw [← hs'] at hs HS2 ⊢
                  clear hs'
                  go_wp2_with fail
                  exact ⟨⟨m + 1, h3, by rw [HS2.out], by go_num, HB.out⟩, by simp [intOf]; omega⟩
                · obtain rfl : m = k := by omega
                  have hmI : ¬ (m : Int) < (m : Int) := by omega
                  obtain ⟨b', o', e, hcv, hnum⟩ := (HTL.out wr HB.out).row h2
                  obtain ⟨rfl, rfl⟩ : b = b' ∧ o = o' := by simpa using e
                  have hc0 := HC0.out wr HB.out
                  have HCL : Hid (colN zs j m = sumN (fun r => zs r j) m) := rfl
                  have HS1' : Hid (∀ (x : Value) (q : Nat), x = vs j → Calls Tryd.prog 30 #[x] (wr.drewN q) fun e w' => e = .returned (.int .i64 (sumN (zs j) m)) ∧ w' = wr.drewN q) := fun x q hx => HSUM.out x j _ hx h2 (below_drewN HB.out q)
                  have HS0' : Hid (∀ (x : Value) (q : Nat), x = vs 0 → Calls Tryd.prog 30 #[x] (wr.drewN q) fun e w' => e = .returned (.int .i64 T) ∧ w' = wr.drewN q) := fun x q hx => by rw [HTQ.out]; exact HSUM.out x 0 _ hx hR8.2 (below_drewN HB.out q)
                  have HBAD : Hid (smB m zs j = true → (sqE m ns zs : Int) = 3) := fun hb => by rw [HS1.out, if_pos (anyO_at hb h2)]; rfl
                  have HGO : Hid (smB m zs j = false → ∀ i, i < j + 1 → smB m zs i = false) := fun hb i hi => by
                    rcases Nat.lt_or_ge i j with h' | h'
                    · exact HJ.out i h'
                    · obtain rfl : i = j := by omega
                      exact hb
                  have HSM : Hid (smB m zs j = (decide (sumN (zs j) m ≠ T) || decide (colN zs j m ≠ T))) := by show _ = _; rw [HTQ.out]; rfl
                  rw [HCL.out] at HSM
                  clear hnum e hs
                  generalize sumN (zs j) m = x at *
                  generalize sumN (fun r => zs r j) m = y at *
                  generalize vs j = vj at *
                  generalize vs 0 = v0 at *
                  by_cases hx : x = T
                  · have k1 : (x != T) = false := by simp; exact hx
                    by_cases hy : y = T
                    · have HN := Hid.mk' (HGO.out (by rw [HSM.out]; simp; exact ⟨hx, hy⟩))
                      have k2 : (y != T) = false := by simp; exact hy
                      clear hx hy
                      go_wp2_with fail
                      go_quiet ((go_at_call 30; first | exact Calls.quiet_of_same (HS1'.out _ _ rfl) | exact Calls.quiet_of_same (HS0'.out _ _ rfl)))
                      go_wp2_with fail
                      exact ⟨⟨j + 1, h2, by go_num, HN.out, below_drewN HB.out _⟩, by simp [intOf]; omega⟩
                    · have HV := Hid.mk' (HBAD.out (by rw [HSM.out]; simp; exact Or.inr hy))
                      have k2 : (y != T) = true := by simp; exact hy
                      clear hx hy
                      go_wp2_with fail
                      go_quiet ((go_at_call 30; first | exact Calls.quiet_of_same (HS1'.out _ _ rfl) | exact Calls.quiet_of_same (HS0'.out _ _ rfl)))
                      go_wp2_with fail
                      go_ret
                      exact ⟨by rw [HV.out]; rfl, below_drewN HB.out _⟩
                  · have HV := Hid.mk' (HBAD.out (by rw [HSM.out]; simp; exact Or.inl hx))
                    have k1 : (x != T) = true := by simp; exact hx
                    clear hx
                    go_wp2_with fail
                    go_quiet ((go_at_call 30; first | exact Calls.quiet_of_same (HS1'.out _ _ rfl) | exact Calls.quiet_of_same (HS0'.out _ _ rfl)))
                    go_wp2_with fail
                    go_ret
                    exact ⟨by rw [HV.out]; rfl, below_drewN HB.out _⟩
            · obtain rfl : j = k := by omega
              have hjI : ¬ (j : Int) < (j : Int) := by omega
              have HV : Hid ((sqE j ns zs : Int) = 0) := by show _ = _; rw [HS1.out, anyO_none HJ.out, if_neg (by decide)]; rfl
              go_wp2_with fail
              go_ret
              exact ⟨by rw [HV.out]; rfl, HB.out⟩
end Go.Proofs.YtgopohbombnflaaDoor
