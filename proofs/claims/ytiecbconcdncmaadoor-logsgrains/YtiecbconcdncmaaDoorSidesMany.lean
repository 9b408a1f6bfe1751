/- The document's TooGreat and Sides at 32 times, as Sides has them at once. -/
import Derived.Test.YtiecbconcdncmaaDoorSides
namespace Go.Proofs.YtiecbconcdncmaaDoor
open Go.RowKit

set_option maxRecDepth 10000 in
set_option maxHeartbeats 1000000 in
theorem TooGreat_many (den : Int) (ad : Option Addr) (n cap : Nat) (p c : Nat → Int) (r : Bool) (hr : r = true ↔ 1250 < cost p c n) (w : World) (hl : LogAt w (.slice ad n cap) n p c) (hn : n ≤ 30) (hbd : Bounded n p c) :
    Calls Tryd.prog 17 #[.agg #[.int .i64 den, .slice ad n cap], .int .i64 32] w fun e w' => e = .returned (.bool r) ∧ Below w.heap.size w w' := by
  have HB0 : Hid (Below w.heap.size w (w.alloc (.cells #[.int .i64 den, .slice ad n cap] 39))) := (Below.refl _ _).alloc (Nat.le_refl _) _
  have HL := Hid.mk' (hl.later HB0.out)
  have HBD := Hid.mk' hbd
  have HR := Hid.mk' hr
  clear hl hbd hr
  go_enter Tryd.func17, Tryd.ntmps17
  go_wp2_with fail
  go_loop [5, 6] (fun s t => ∃ left k : Nat, k ≤ n ∧ left ≤ 1250 ∧ s = .int .i64 left ∧ t = .int .i64 k ∧ Hid (left + cost p c k = 1250)) (fun _ t => n - (intOf t).toNat)
  case atStart => exact ⟨1250, 0, by omega, by omega, rfl, rfl, rfl⟩
  case round =>
    obtain ⟨left, k, hk, hleft, rfl, rfl, HE⟩ := hrel
    by_cases hlt : k < n
    · obtain ⟨b, o, rfl, hc0, hc1⟩ := HL.out.cellsAt hlt
      have hkI : (k : Int) < (n : Int) := by omega
      have hk0 : (0 : Int) ≤ (k : Int) := by omega
      obtain ⟨hp2, hp6, hcl, hcu, _⟩ := HBD.out k hlt
      obtain ⟨q, hq⟩ := Int.eq_ofNat_of_zero_le (show 0 ≤ p k by omega)
      have hdig := digits_any q (w.alloc (.cells #[.int .i64 den, .slice (some ⟨b, o, none⟩) n cap] 39)) (by omega)
      have HQ := Hid.mk' hq
      rw [hq] at hc0 hp2 hp6
      clear hq
      have hbp := bitLen_pos (n := q) (by omega)
      have hbz : ¬ bitLen q = 0 := by omega
      have hb20 := bitLen_million (n := q) (by omega)
      obtain ⟨B, hB⟩ : ∃ B, bitLen q = B := ⟨_, rfl⟩
      have HCS : Hid (cost p c (k + 1) = cost p c k + (c k).natAbs * B) := by
        show cost p c k + _ = _
        rw [HQ.out, ← hB]; simp
      rw [hB] at hdig hbp hbz hb20
      clear hB
      by_cases hneg : c k < 0
      · have hx : -c k = ((c k).natAbs : Int) := by omega
        have HX := Hid.mk' hx
        clear hx
        by_cases hmore : left < (c k).natAbs * B
        · have hbr := too_more HX.out hbp (by omega) hmore
          have hrt : r = true := HR.out.2 (by have := cost_mono p c (show k + 1 ≤ n by omega); rw [HCS.out] at this; have := HE.out; omega)
          subst hrt
          clear hmore
          go_wp2_with fail
          refine hdig.mono ?_
          clear hdig
          rintro e w1 ⟨rfl, hw1⟩
          go_wp2_with fail
          go_ret
          exact ⟨rfl, HB0.out⟩
        · have hbr := too_less HX.out hbp (by omega) (Nat.le_of_not_lt hmore)
          have hpr := too_prod (b := B) HX.out
          have hpb : (0 : Int) ≤ -c k * (B : Int) ∧ -c k * (B : Int) ≤ 40000 := by omega
          have HPR := Hid.mk' hpr
          have HMO := Hid.mk' hmore
          clear hmore hpr
          go_wp2_with fail
          refine hdig.mono ?_
          clear hdig
          rintro e w1 ⟨rfl, hw1⟩
          go_wp2_with fail
          have h1 := HMO.out
          have h2 := HPR.out
          have h3 := HCS.out
          have h4 := HE.out
          generalize (c k).natAbs * B = M at h1 h2 h3
          exact ⟨⟨left - M, k + 1, by omega, by omega, by rw [h2]; congr 1; omega, by go_num, by show _ = _; omega⟩, by simp [intOf]; omega⟩
      · have hx : c k = ((c k).natAbs : Int) := by omega
        have HX := Hid.mk' hx
        clear hx
        by_cases hmore : left < (c k).natAbs * B
        · have hbr := too_more HX.out hbp (by omega) hmore
          have hrt : r = true := HR.out.2 (by have := cost_mono p c (show k + 1 ≤ n by omega); rw [HCS.out] at this; have := HE.out; omega)
          subst hrt
          clear hmore
          go_wp2_with fail
          refine hdig.mono ?_
          clear hdig
          rintro e w1 ⟨rfl, hw1⟩
          go_wp2_with fail
          go_ret
          exact ⟨rfl, HB0.out⟩
        · have hbr := too_less HX.out hbp (by omega) (Nat.le_of_not_lt hmore)
          have hpr := too_prod (b := B) HX.out
          have hpb : (0 : Int) ≤ c k * (B : Int) ∧ c k * (B : Int) ≤ 40000 := by omega
          have HPR := Hid.mk' hpr
          have HMO := Hid.mk' hmore
          clear hmore hpr
          go_wp2_with fail
          refine hdig.mono ?_
          clear hdig
          rintro e w1 ⟨rfl, hw1⟩
          go_wp2_with fail
          have h1 := HMO.out
          have h2 := HPR.out
          have h3 := HCS.out
          have h4 := HE.out
          generalize (c k).natAbs * B = M at h1 h2 h3
          exact ⟨⟨left - M, k + 1, by omega, by omega, by rw [h2]; congr 1; omega, by go_num, by show _ = _; omega⟩, by simp [intOf]; omega⟩
    · obtain rfl : k = n := by omega
      have hrf : r = false := not_true_of HR.out (by have := HE.out; omega)
      subst hrf
      go_wp2_with fail
      go_ret
      exact ⟨rfl, HB0.out⟩


set_option maxRecDepth 10000 in
set_option maxHeartbeats 1000000 in
theorem Sides_many (den : Int) (ad : Option Addr) (n cap E : Nat) (p c : Nat → Int) (w : World) (hl : LogAt w (.slice ad n cap) n p c) (hn : n ≤ 30) (hbd : Bounded n p c) (hcost : 32 * cost p c n ≤ 40000) (hE : E ≤ 1000000) (hEb : 2 ^ (32 * cost p c n) < 1000000 ^ E) :
    Calls Tryd.prog 33 #[.agg #[.int .i64 den, .slice ad n cap], .int .i64 32] w fun e w' => ∃ u v, e = .returned (.tuple #[u, v]) ∧ BigAt w' u (sideUp p c 32 n) ∧ BigAt w' v (sideDown p c 32 n) ∧ Below w.heap.size w w' := by
  have hb0 : Below w.heap.size w (w.alloc (.cells #[.int .i64 den, .slice ad n cap] 39)) := (Below.refl _ _).alloc (Nat.le_refl _) _
  have hc1 : (w.alloc (.cells #[.int .i64 den, .slice ad n cap] 39)).cell? ⟨w.heap.size, 1, none⟩ = some (.slice ad n cap) := by simp
  have HL := Hid.mk' (hl.later hb0)
  have HBD := Hid.mk' hbd
  have HEB := Hid.mk' hEb
  have HC1 := Hid.mk' hc1
  have HB0 := Hid.mk' hb0
  have hsz : ∀ i, i < n → (c i).natAbs ≤ 40000 := fun i hi => by have := size_le_cost hi hbd; omega
  have HSZ := Hid.mk' hsz
  clear hl hbd hEb hsz hc1 hb0
  have hone := BigOf_any 1 (w.alloc (.cells #[.int .i64 den, .slice ad n cap] 39)) (by omega)
  generalize hw0 : w.alloc (.cells #[.int .i64 den, .slice ad n cap] 39) = w0 at HL HC1 HB0 hone
  have HW0 := Hid.mk' hw0
  clear hw0
  go_enter Tryd.func33, Tryd.ntmps33
  go_wp2_with fail
  rw [HW0.out]
  refine hone.mono ?_
  clear hone
  rintro e w1 ⟨v1, rfl, hv1, hb1⟩
  have hone := BigOf_any 1 w1 (by omega)
  have HV1 := Hid.mk' hv1
  have HB1 := Hid.mk' hb1
  clear hv1 hb1
  go_wp2_with fail
  refine hone.mono ?_
  clear hone
  rintro e w2 ⟨v2, rfl, hv2, hb2⟩
  have HB2 := Hid.mk' (below_chain HB1.out hb2)
  have HV2 := Hid.mk' hv2
  have HV1' := Hid.mk' (HV1.out.later hb2)
  clear hv2 hb2 HV1 HB1
  go_wp2_with fail
  go_loopw [6, 7, 8] (fun s t i wr => ∃ k : Nat, k ≤ n ∧ i = .int .i64 k ∧ Hid (BigAt wr s (sideUp p c 32 k)) ∧ Hid (BigAt wr t (sideDown p c 32 k)) ∧ Hid (Below w0.heap.size w0 wr)) (fun _ _ i _ => n - (intOf i).toNat)
  case atStart => exact ⟨0, by omega, rfl, HV1', HV2, HB2⟩
  case round =>
    clear HV1' HV2 HB2
    obtain ⟨k, hk, rfl, HU, HD, HB⟩ := hrel
    have hcl := HB.out.cell (cell_lt HC1.out)
    rw [HC1.out] at hcl
    have hk0 : (0 : Int) ≤ (k : Int) := by omega
    by_cases hlt : k < n
    · obtain ⟨b, o, rfl, hc0, hc1⟩ := (HL.out.later HB.out).cellsAt hlt
      have hkI : (k : Int) < (n : Int) := by omega
      obtain ⟨hp2, hp6, _, _, hcz⟩ := HBD.out k hlt
      have hs := HSZ.out k hlt
      have hcR : -40000 ≤ c k ∧ c k ≤ 40000 := by omega
      obtain ⟨q, hq⟩ := Int.eq_ofNat_of_zero_le (show 0 ≤ p k by omega)
      have hqt : (p k).toNat = q := by omega
      have htl := term_lt hlt HEB.out
      have hsl := sides_le p c 32 k
      have hkl := cost_lt (t := 32) (Nat.le_of_lt hlt) HEB.out
      rw [hqt] at htl
      have hpow := power_any q E (by omega) (by omega) hE ((c k).natAbs * 32) wr (by omega) htl
      have HQT := Hid.mk' hqt
      have HTL := Hid.mk' htl
      have HUL := Hid.mk' (Nat.lt_of_le_of_lt hsl.1 hkl)
      have HDL := Hid.mk' (Nat.lt_of_le_of_lt hsl.2 hkl)
      rw [hq] at hc0
      clear hqt hsl hkl htl hq hp2 hp6 hs
      by_cases hpos : 0 < c k
      · rw [show (((c k).natAbs * 32 : Nat) : Int) = c k * 32 by omega] at hpow
        go_wp2_with fail
        refine hpow.mono ?_
        clear hpow
        rintro e w3 ⟨v3, rfl, hv3, hb3⟩
        have hmul := BigMul_any u6 v3 _ _ E w3 (HU.out.later hb3) hv3 HUL.out HTL.out hE
        have HB3 := Hid.mk' (below_chain HB.out hb3)
        have HD3 := Hid.mk' (HD.out.later hb3)
        clear hv3 hb3
        go_wp2_with fail
        refine hmul.mono ?_
        clear hmul
        rintro e w4 ⟨v4, rfl, hv4, hb4⟩
        go_wp2_with fail
        exact ⟨⟨k + 1, by omega, by go_num, by show BigAt _ _ _; rw [sideUp_pos hpos, HQT.out]; exact hv4, by show BigAt _ _ _; rw [sideDown_pos hpos]; exact HD3.out.later hb4, below_chain HB3.out hb4⟩, by simp [intOf]; omega⟩
      · rw [show (((c k).natAbs * 32 : Nat) : Int) = -(c k * 32) by omega] at hpow
        go_wp2_with fail
        refine hpow.mono ?_
        clear hpow
        rintro e w3 ⟨v3, rfl, hv3, hb3⟩
        have hmul := BigMul_any u7 v3 _ _ E w3 (HD.out.later hb3) hv3 HDL.out HTL.out hE
        have HB3 := Hid.mk' (below_chain HB.out hb3)
        have HU3 := Hid.mk' (HU.out.later hb3)
        clear hv3 hb3
        go_wp2_with fail
        refine hmul.mono ?_
        clear hmul
        rintro e w4 ⟨v4, rfl, hv4, hb4⟩
        go_wp2_with fail
        exact ⟨⟨k + 1, by omega, by go_num, by show BigAt _ _ _; rw [sideUp_neg (Int.not_lt.2 (by omega))]; exact HU3.out.later hb4, by show BigAt _ _ _; rw [sideDown_neg (Int.not_lt.2 (by omega)), HQT.out]; exact hv4, below_chain HB3.out hb4⟩, by simp [intOf]; omega⟩
    · obtain rfl : k = n := by omega
      go_wp2_with fail
      go_ret2
      exact ⟨u6, u7, rfl, HU.out, HD.out, below_chain HB0.out HB.out⟩
end Go.Proofs.YtiecbconcdncmaaDoor
