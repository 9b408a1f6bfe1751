/- Square tables: the program's tableError. -/
import Derived.Test.YtgopohbombnflaaDoorOrAb
import Derived.Test.YtgopohbombnflaaDoorTab
namespace Go.Proofs.YtgopohbombnflaaDoor
open Go.RowKit

/-- Is there one of n? -/
def anyO (p : Nat → Bool) : Nat → Bool
  | 0 => false
  | n + 1 => anyO p n || p n
theorem anyO_at {p : Nat → Bool} : ∀ {n k : Nat}, p k = true → k < n → anyO p n = true
  | 0, k, _, h => by omega
  | n + 1, k, hk, h => by
    show (anyO p n || _) = true
    rcases Nat.lt_or_ge k n with h' | h'
    · rw [anyO_at hk h', Bool.true_or]
    · obtain rfl : k = n := by omega
      rw [hk, Bool.or_true]
theorem anyO_no {p : Nat → Bool} : ∀ {n : Nat}, anyO p n = false → ∀ k, k < n → p k = false
  | 0, _, k, h => by omega
  | n + 1, hn, k, h => by
    have h1 : (anyO p n || p n) = false := hn
    rw [Bool.or_eq_false_iff] at h1
    rcases Nat.lt_or_ge k n with h' | h'
    · exact anyO_no h1.1 k h'
    · obtain rfl : k = n := by omega
      exact h1.2
theorem anyO_none {p : Nat → Bool} : ∀ {n : Nat}, (∀ k, k < n → p k = false) → anyO p n = false
  | 0, _ => rfl
  | n + 1, h => by show (anyO p n || p n) = false; rw [anyO_none (fun k hk => h k (by omega)), h n (by omega)]; rfl
/-- What a column sums to. -/
def colN (zs : Nat → Nat → Int) (i : Nat) (R : Nat) : Int := sumN (fun r => zs r i) R
def rwB (R : Nat) (ns : Nat → Nat) (zs : Nat → Nat → Int) (i : Nat) : Bool := decide (ns i ≠ R) || noN (zs i) (ns i)
def smB (R : Nat) (zs : Nat → Nat → Int) (i : Nat) : Bool := decide (sumN (zs i) R ≠ sumN (zs 0) R) || decide (colN zs i R ≠ sumN (zs 0) R)
/-- What is wrong with a table. -/
def sqE (R : Nat) (ns : Nat → Nat) (zs : Nat → Nat → Int) : Nat :=
  if 8 < R then 2 else if R = 0 then 3 else if anyO (rwB R ns zs) R = true then 3 else if anyO (smB R zs) R = true then 3 else 0
/-- A right one. -/
structure SqOk (R : Nat) (ns : Nat → Nat) (zs : Nat → Nat → Int) : Prop where
  pos : 0 < R
  le : R ≤ 8
  len : ∀ i, i < R → ns i = R
  num : ∀ i, i < R → ∀ k, k < R → 0 ≤ zs i k ∧ zs i k ≤ 4096
  row : ∀ i, i < R → sumN (zs i) R = sumN (zs 0) R
  col : ∀ i, i < R → colN zs i R = sumN (zs 0) R
theorem rwB_no {R : Nat} {ns : Nat → Nat} {zs : Nat → Nat → Int} {i : Nat} (h : rwB R ns zs i = false) : ns i = R ∧ ∀ k, k < R → 0 ≤ zs i k ∧ zs i k ≤ 4096 := by
  unfold rwB at h
  rw [Bool.or_eq_false_iff] at h
  have e : ns i = R := by have := h.1; simpa using this
  exact ⟨e, fun k hk => noN_none h.2 k (by omega)⟩
theorem smB_no {R : Nat} {zs : Nat → Nat → Int} {i : Nat} (h : smB R zs i = false) : sumN (zs i) R = sumN (zs 0) R ∧ colN zs i R = sumN (zs 0) R := by
  unfold smB at h
  rw [Bool.or_eq_false_iff] at h
  exact ⟨by have := h.1; simpa using this, by have := h.2; simpa using this⟩
theorem sqE_ok {R : Nat} {ns : Nat → Nat} {zs : Nat → Nat → Int} (h : sqE R ns zs = 0) : SqOk R ns zs := by
  unfold sqE at h
  by_cases h1 : 8 < R
  · rw [if_pos h1] at h; cases h
  · rw [if_neg h1] at h
    by_cases h2 : R = 0
    · rw [if_pos h2] at h; cases h
    · rw [if_neg h2] at h
      cases h3 : anyO (rwB R ns zs) R with
      | true => rw [h3, if_pos rfl] at h; cases h
      | false =>
        rw [h3, if_neg (by decide)] at h
        cases h4 : anyO (smB R zs) R with
        | true => rw [h4, if_pos rfl] at h; cases h
        | false =>
          exact ⟨by omega, by omega, fun i hi => (rwB_no (anyO_no h3 i hi)).1, fun i hi => (rwB_no (anyO_no h3 i hi)).2, fun i hi => (smB_no (anyO_no h4 i hi)).1, fun i hi => (smB_no (anyO_no h4 i hi)).2⟩
theorem sqE_le (R : Nat) (ns : Nat → Nat) (zs : Nat → Nat → Int) : sqE R ns zs ≤ 8 := by
  unfold sqE
  split
  · omega
  · split
    · omega
    · split
      · omega
      · split <;> omega
theorem TabAt.row {w : World} {ad : Option Addr} {R cap : Nat} {vs : Nat → Value} {ns : Nat → Nat} {zs : Nat → Nat → Int} (h : TabAt w (.slice ad R cap) R vs ns zs) {i : Nat} (hi : i < R) : ∃ b o, ad = some ⟨b, o, none⟩ ∧ w.cell? ⟨b, o + i, none⟩ = some (vs i) ∧ NumsAt w (vs i) (ns i) (zs i) := by
  rcases h with ⟨_, _, h1', h2'⟩ | ⟨b, o, c, h1', _, h2⟩
  · omega
  · simp only [Value.slice.injEq, true_and] at h1'
    exact ⟨b, o, h1'.1, h2 i hi⟩

set_option maxRecDepth 100000 in
set_option maxHeartbeats 2000000 in
theorem columnTotal_any (v : Value) (R : Nat) (vs : Nat → Value) (ns : Nat → Nat) (zs : Nat → Nat → Int) (w : World) (h : TabAt w v R vs ns zs) (hR : R ≤ 8) (hn : ∀ i, i < R → ns i = R) (hz : ∀ i, i < R → ∀ k, k < R → 0 ≤ zs i k ∧ zs i k ≤ 4096) (c : Nat) (hc : c < R) :
    Calls Tryd.prog 53 #[v, .int .i64 c] w fun e w' => e = .returned (.int .i64 (colN zs c R)) ∧ w' = w := by
  obtain ⟨ad, cap, rfl⟩ := h.form
  have HT := Hid.mk' h
  have HN := Hid.mk' hn
  have HZ := Hid.mk' hz
  have HSB : Hid (∀ k, k ≤ R → 0 ≤ sumN (fun r => zs r c) k ∧ sumN (fun r => zs r c) k ≤ (k : Int) * 4096) := fun k hk => sum_right (fun i hi => hz i (by omega) c hc)
  clear h hn hz
  go_enter Tryd.func53, Tryd.ntmps53
  go_wp2_with fail
  go_loop [5, 10] (fun s t => ∃ k : Nat, k ≤ R ∧ s = .int .i64 (sumN (fun r => zs r c) k) ∧ t = .int .i64 (k : Int)) (fun _ t => R - (intOf t).toNat)
  case atStart => exact ⟨0, Nat.zero_le _, rfl, rfl⟩
  case round =>
    obtain ⟨k, hk, rfl, rfl⟩ := hrel
    have hs := HSB.out k hk
    rcases Nat.lt_or_ge k R with h1 | h1
    · have hkI : (k : Int) < (R : Int) := by omega
      have hk0 : (0 : Int) ≤ (k : Int) := by omega
      obtain ⟨b, o, rfl, hcv, hnum⟩ := HT.out.row h1
      rw [HN.out k h1] at hnum
      have hx := HZ.out k h1 c hc
      have HS1 : Hid (sumN (fun r => zs r c) (k + 1) = sumN (fun r => zs r c) k + zs k c) := rfl
      rcases hnum with ⟨_, _, _, h0⟩ | ⟨rb, ro, rc, hv, _, hrow⟩
      · omega
      have hcx := hrow c hc
      rw [hv] at hcv
      have hcI : (c : Int) < (R : Int) := by omega
      have hc0 : (0 : Int) ≤ (c : Int) := by omega
      clear hv hrow
      generalize zs k c = x at *
      obtain ⟨s, hs'⟩ : ∃ s, s = sumN (fun r => zs r c) k := ⟨_, rfl⟩
      rw [← hs'] at hs HS1 ⊢
      clear hs'
      go_wp2_with fail
      exact ⟨⟨k + 1, h1, by rw [HS1.out], by go_num⟩, by simp [intOf]; omega⟩
    · obtain rfl : k = R := by omega
      have hkI : ¬ (k : Int) < (k : Int) := by omega
      go_wp2_with fail
      go_ret
      exact ⟨rfl, rfl⟩

set_option maxRecDepth 100000 in
set_option maxHeartbeats 4000000 in
theorem tableError_any (a : Nat → Addr) (v : Value) (R : Nat) (vs : Nat → Value) (ns : Nat → Nat) (zs : Nat → Nat → Int) (w : World) (hE : Errs w a) (h : TabAt w v R vs ns zs) (hR : R ≤ 1000) (hns : ∀ i, i < R → ns i ≤ 100000) :
    Calls Tryd.prog 41 #[v] w fun e w' => e = .returned (errV a (sqE R ns zs)) ∧ w' = w := by
  have e1 := hE.c1
  have e2 := hE.c2
  obtain ⟨ad, cap, rfl⟩ := h.form
  have HT := Hid.mk' h
  have HNS := Hid.mk' hns
  have hEV2 : errV a 2 = .iface 120 (.pointer (some (a 1))) := rfl
  have hEV3 : errV a 3 = .iface 120 (.pointer (some (a 2))) := rfl
  by_cases h1 : 8 < R
  · have HV : Hid (errV a (sqE R ns zs) = .iface 120 (.pointer (some (a 1)))) := by show _ = _; unfold sqE; rw [if_pos h1]; rfl
    have hI : (8 : Int) < (R : Int) := by omega
    clear h hns h1 hE hEV2 hEV3
    go_enter Tryd.func41, Tryd.ntmps41
    go_wp2_with fail
    go_ret
    exact ⟨by rw [HV.out]; rfl, rfl⟩
  · have hI : ¬ (8 : Int) < (R : Int) := by omega
    by_cases h2 : R = 0
    · have HV : Hid (errV a (sqE R ns zs) = .iface 120 (.pointer (some (a 2)))) := by show _ = _; unfold sqE; rw [if_neg h1, if_pos h2]; rfl
      have hI2 : ((R : Int) == 0) = true := by simp; exact h2
      clear h hns h1 h2 hE hEV2 hEV3
      go_enter Tryd.func41, Tryd.ntmps41
      go_wp2_with fail
      go_ret
      exact ⟨by rw [HV.out]; rfl, rfl⟩
    · have hI2 : ((R : Int) == 0) = false := by simp; exact h2
      have HS0 : Hid (sqE R ns zs = if anyO (rwB R ns zs) R = true then 3 else if anyO (smB R zs) R = true then 3 else 0) := by show _ = _; unfold sqE; rw [if_neg h1, if_neg h2]
      have hR8 : R ≤ 8 ∧ 0 < R := by omega
      clear h hns h1 h2 hE hEV2 hEV3
      go_enter Tryd.func41, Tryd.ntmps41
      go_wp2_with fail
      go_loop [18] (fun t => ∃ k : Nat, k ≤ R ∧ t = .int .i64 (k : Int) ∧ Hid (∀ j, j < k → rwB R ns zs j = false)) (fun t => R - (intOf t).toNat)
      case atStart => exact ⟨0, Nat.zero_le _, rfl, fun j hj => by omega⟩
      case round =>
        obtain ⟨k, hk, rfl, HK⟩ := hrel
        rcases Nat.lt_or_ge k R with h1 | h1
        · have hkI : (k : Int) < (R : Int) := by omega
          have hk0 : (0 : Int) ≤ (k : Int) := by omega
          obtain ⟨b, o, rfl, hcv, hnum⟩ := HT.out.row h1
          have hcf := ContainsFunc_num (vs k) (ns k) (zs k) w hnum (by have := HNS.out k h1; omega)
          obtain ⟨rad, rcap, hv⟩ := hnum.form
          rw [hv] at hcv hcf
          have HBAD : Hid (rwB R ns zs k = true → errV a (sqE R ns zs) = .iface 120 (.pointer (some (a 2)))) := fun hb => by rw [HS0.out, if_pos (anyO_at hb h1)]; rfl
          have HGO : Hid (rwB R ns zs k = false → ∀ j, j < k + 1 → rwB R ns zs j = false) := fun hb j hj => by
            rcases Nat.lt_or_ge j k with h' | h'
            · exact HK.out j h'
            · obtain rfl : j = k := by omega
              exact hb
          have HRW : Hid (rwB R ns zs k = (decide (ns k ≠ R) || noN (zs k) (ns k))) := rfl
          clear hnum hv
          generalize ns k = nk at *
          by_cases hlen : nk = R
          · have k2 : ((nk : Int) != (R : Int)) = false := by simp; omega
            cases hno : noN (zs k) nk with
            | true =>
              have HV := Hid.mk' (HBAD.out (by rw [HRW.out, hno, Bool.or_true]))
              rw [hno] at hcf
              clear hno hlen
              go_wp2_with fail
              refine hcf.mono ?_
              clear hcf
              rintro e w2 ⟨rfl, rfl⟩
              go_wp2_with fail
              go_ret
              exact ⟨by rw [HV.out]; rfl, rfl⟩
            | false =>
              have HN := Hid.mk' (HGO.out (by rw [HRW.out, hno]; simp; exact hlen))
              rw [hno] at hcf
              clear hno hlen
              go_wp2_with fail
              refine hcf.mono ?_
              clear hcf
              rintro e w2 ⟨rfl, hw2⟩
              rw [hw2]
              clear hw2
              go_wp2_with fail
              exact ⟨⟨k + 1, h1, by go_num, HN.out⟩, by simp [intOf]; omega⟩
          · have HV := Hid.mk' (HBAD.out (by rw [HRW.out]; simp; exact Or.inl hlen))
            have k2 : ((nk : Int) != (R : Int)) = true := by simp; omega
            clear hlen hcf
            go_wp2_with fail
            go_ret
            exact ⟨by rw [HV.out]; rfl, rfl⟩
        · obtain rfl : k = R := by omega
          have hkI : ¬ (k : Int) < (k : Int) := by omega
          have HS1 : Hid (sqE k ns zs = if anyO (smB k zs) k = true then 3 else 0) := by show _ = _; rw [HS0.out, anyO_none HK.out, if_neg (by decide)]
          have HLN := Hid.mk' (fun i (hi : i < k) => (rwB_no (HK.out i hi)).1)
          have HNM := Hid.mk' (fun i (hi : i < k) => (rwB_no (HK.out i hi)).2)
          have HCT := Hid.mk' (fun c (hc : c < k) => columnTotal_any (.slice ad k cap) k vs ns zs w HT.out hR8.1 HLN.out HNM.out c hc)
          have HTT := Hid.mk' (fun c (hc : c < k) => total_right (vs c) k (zs c) w (by have := (HT.out.row hc); obtain ⟨_, _, _, _, hx⟩ := this; rw [HLN.out c hc] at hx; exact hx) hR8.2 (by omega) (HNM.out c hc))
          obtain ⟨b, o, rfl, hcv, hnum⟩ := HT.out.row hR8.2
          have ht0 := HTT.out 0 hR8.2
          obtain ⟨rad, rcap, hv⟩ := hnum.form
          rw [HLN.out 0 hR8.2] at hv
          rw [hv] at hcv ht0
          rw [Nat.add_zero] at hcv
          have hk00 : (0 : Int) < (k : Int) := by omega
          clear HS0 HK HNS hnum hv
          go_wp2_with fail
          refine ht0.mono ?_
          clear ht0
          rintro e w2 ⟨rfl, hw2⟩
          rw [hw2]
          clear hw2 hcv
          obtain ⟨T, hT⟩ : ∃ T, T = sumN (zs 0) k := ⟨_, rfl⟩
          rw [← hT]
          have HTQ := Hid.mk' hT
          clear hT
          go_wp2_with fail
          go_loop [39] (fun t => ∃ j : Nat, j ≤ k ∧ t = .int .i64 (j : Int) ∧ Hid (∀ i, i < j → smB k zs i = false)) (fun t => k - (intOf t).toNat)
          case atStart => exact ⟨0, Nat.zero_le _, rfl, fun j hj => by omega⟩
          case round =>
            obtain ⟨j, hj, rfl, HJ⟩ := hrel
            rcases Nat.lt_or_ge j k with h2 | h2
            · have hjI : (j : Int) < (k : Int) := by omega
              have hj0 : (0 : Int) ≤ (j : Int) := by omega
              obtain ⟨b', o', e, hcv, hnum⟩ := HT.out.row h2
              obtain ⟨rfl, rfl⟩ : b = b' ∧ o = o' := by simpa using e
              have htj := HTT.out j h2
              have hcj := HCT.out j h2
              obtain ⟨rad, rcap, hv⟩ := hnum.form
              rw [HLN.out j h2] at hv
              rw [hv] at hcv htj
              have HBAD : Hid (smB k zs j = true → errV a (sqE k ns zs) = .iface 120 (.pointer (some (a 2)))) := fun hb => by rw [HS1.out, if_pos (anyO_at hb h2)]; rfl
              have HGO : Hid (smB k zs j = false → ∀ i, i < j + 1 → smB k zs i = false) := fun hb i hi => by
                rcases Nat.lt_or_ge i j with h' | h'
                · exact HJ.out i h'
                · obtain rfl : i = j := by omega
                  exact hb
              have HSM : Hid (smB k zs j = (decide (sumN (zs j) k ≠ T) || decide (colN zs j k ≠ T))) := by show _ = _; rw [HTQ.out]; rfl
              clear hnum hv e
              generalize sumN (zs j) k = x at *
              generalize colN zs j k = y at *
              by_cases hx : x = T
              · have k1 : (x != T) = false := by simp; exact hx
                by_cases hy : y = T
                · have HN := Hid.mk' (HGO.out (by rw [HSM.out]; simp; exact ⟨hx, hy⟩))
                  have k2 : (y != T) = false := by simp; exact hy
                  clear hx hy
                  go_wp2_with fail
                  refine htj.mono ?_
                  clear htj
                  rintro e w2 ⟨rfl, hw2⟩
                  rw [hw2]
                  clear hw2
                  go_wp2_with fail
                  refine hcj.mono ?_
                  clear hcj
                  rintro e w2 ⟨rfl, hw2⟩
                  rw [hw2]
                  clear hw2
                  go_wp2_with fail
                  exact ⟨⟨j + 1, h2, by go_num, HN.out⟩, by simp [intOf]; omega⟩
                · have HV := Hid.mk' (HBAD.out (by rw [HSM.out]; simp; exact Or.inr hy))
                  have k2 : (y != T) = true := by simp; exact hy
                  clear hx hy
                  go_wp2_with fail
                  refine htj.mono ?_
                  clear htj
                  rintro e w2 ⟨rfl, rfl⟩
                  go_wp2_with fail
                  refine hcj.mono ?_
                  clear hcj
                  rintro e w2 ⟨rfl, rfl⟩
                  go_wp2_with fail
                  go_ret
                  exact ⟨by rw [HV.out]; rfl, rfl⟩
              · have HV := Hid.mk' (HBAD.out (by rw [HSM.out]; simp; exact Or.inl hx))
                have k1 : (x != T) = true := by simp; exact hx
                clear hx hcj
                go_wp2_with fail
                refine htj.mono ?_
                clear htj
                rintro e w2 ⟨rfl, rfl⟩
                go_wp2_with fail
                go_ret
                exact ⟨by rw [HV.out]; rfl, rfl⟩
            · obtain rfl : j = k := by omega
              have hjI : ¬ (j : Int) < (j : Int) := by omega
              have HV : Hid (errV a (sqE j ns zs) = .nilIface) := by show _ = _; rw [HS1.out, anyO_none HJ.out, if_neg (by decide)]; rfl
              go_wp2_with fail
              go_ret
              exact ⟨by rw [HV.out]; rfl, rfl⟩
end Go.Proofs.YtgopohbombnflaaDoor
