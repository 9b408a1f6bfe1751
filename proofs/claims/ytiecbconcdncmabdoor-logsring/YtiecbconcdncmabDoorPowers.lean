/- logs.checkPowers and powers: the powers that are compared, in the program's numbers without a bound. -/
import Derived.Test.YtiecbconcdncmabDoorWordsCmp
import Derived.Test.YtiecbconcdncmabDoorSignOf
import Derived.Test.YtiecbconcdncmabDoorValidLog
namespace Go.Proofs.YtiecbconcdncmabDoor
open Go.RowKit

def powErr : Bool → Bool → (Nat → Addr) → Value
  | false, _, a => .iface 102 (.pointer (some (a 2)))
  | true, false, a => .iface 102 (.pointer (some (a 1)))
  | true, true, _ => .nilIface
def powCode : Bool → Bool → Int
  | false, _ => 3
  | true, false => 2
  | true, true => 0

theorem cost_le {n : Nat} {p c : Nat → Int} (hb : Bounded n p c) : ∀ k, k ≤ n → cost p c k ≤ k * 21990232555520
  | 0, _ => by simp [cost]
  | k + 1, h => by
    have ih := cost_le hb k (by omega)
    obtain ⟨h1, h2, h3, h4, _⟩ := hb k (by omega)
    have hm := Nat.mul_le_mul (show (c k).natAbs ≤ 1099511627776 by omega) (bitLen_million (n := (p k).toNat) (by omega))
    have e : cost p c (k + 1) = cost p c k + (c k).natAbs * bitLen (p k).toNat := rfl
    omega

theorem log_of_own {w : World} {sv : Value} {n : Nat} {p c : Nat → Int} (h : (sv = .slice none 0 0 ∧ n = 0) ∨ ∃ g cap, sv = .slice (some ⟨g, 0, none⟩) n cap ∧ TermsAt w g 0 n p c) : ∃ ad cap, sv = .slice ad n cap ∧ LogAt w (.slice ad n cap) n p c := by
  rcases h with ⟨rfl, rfl⟩ | ⟨g, cap, rfl, ht⟩
  · exact ⟨none, 0, rfl, Or.inl ⟨none, 0, rfl, rfl⟩⟩
  · rcases Nat.eq_zero_or_pos n with rfl | hp
    · exact ⟨_, cap, rfl, Or.inl ⟨_, cap, rfl, rfl⟩⟩
    · exact ⟨_, cap, rfl, Or.inr ⟨g, 0, cap, rfl, hp, ht⟩⟩

theorem checkPowers_bad (den : Int) (sv : Value) (n most : Nat) (p c : Nat → Int) (a : Nat → Addr) (hok : ¬ OkLog den n p c) (w : World) (h : Errs w a) (hs : LogAt w sv n p c) (hn : n ≤ 100) :
    Calls Tryd.prog 20 #[.agg #[.int .i64 den, sv], .int .i64 most] w fun e w' => e = .returned (.iface 102 (.pointer (some (a 2)))) ∧ Below w.heap.size w w' := by
  have hb0 : Below w.heap.size w (w.alloc (.cells #[.int .i64 den, sv] 25)) := (Below.refl _ _).alloc (Nat.le_refl _) _
  have hv := Valid_log den sv n p c a false ⟨(fun e => by cases e), (fun e => absurd e hok)⟩ (w.alloc (.cells #[.int .i64 den, sv] 25)) (h.below hb0) (hs.later hb0) (by omega)
  simp only [shapeErr] at hv
  have HB0 := Hid.mk' hb0
  clear hb0 h hs hok
  go_enter Tryd.func20, Tryd.ntmps20
  go_wp2_with fail
  refine hv.mono ?_
  clear hv
  rintro e w1 ⟨rfl, hb1⟩
  go_wp2_with fail
  go_ret
  exact ⟨rfl, below_chain HB0.out hb1⟩

set_option maxRecDepth 10000 in
set_option maxHeartbeats 1000000 in
theorem checkPowers_ok (den : Int) (sv : Value) (n most : Nat) (p c : Nat → Int) (a : Nat → Addr) (hok : OkLog den n p c) (fit : Bool) (hfit : fit = true ↔ cost p c n ≤ most) (w : World) (h : Errs w a) (hs : LogAt w sv n p c) (hn : n ≤ 100) :
    Calls Tryd.prog 20 #[.agg #[.int .i64 den, sv], .int .i64 most] w fun e w' => e = .returned (powErr true fit a) ∧ Below w.heap.size w w' := by
  have hb0 : Below w.heap.size w (w.alloc (.cells #[.int .i64 den, sv] 25)) := (Below.refl _ _).alloc (Nat.le_refl _) _
  have hv := Valid_log den sv n p c a true ⟨fun _ => hok, fun _ => rfl⟩ (w.alloc (.cells #[.int .i64 den, sv] 25)) (h.below hb0) (hs.later hb0) (by omega)
  simp only [shapeErr] at hv
  obtain ⟨ad, cap, rfl⟩ := hs.slice
  have hl := hs
  have HB0 := Hid.mk' hb0
  have HL := Hid.mk' hl
  have HE := Hid.mk' h
  have HBD := Hid.mk' hok.2.2.1.bounded
  have HF := Hid.mk' hfit
  clear hb0 h hs hok hl hfit
  go_enter Tryd.func20, Tryd.ntmps20
  go_wp2_with fail
  refine hv.mono ?_
  clear hv
  rintro e w1 ⟨rfl, hb1⟩
  have hc1 := hb1.cell (p := ⟨w.heap.size, 1, none⟩) (by simp)
  simp at hc1
  have HB1 := Hid.mk' (below_chain HB0.out hb1)
  clear hb1 HB0
  go_wp2_with fail
  go_loopw [6, 17] (fun s i wr => ∃ k : Nat, k ≤ n ∧ s = .int .i64 (cost p c k : Nat) ∧ i = .int .i64 k ∧ Hid (Below w.heap.size w wr)) (fun _ i _ => n - (intOf i).toNat)
  case atStart => exact ⟨0, Nat.zero_le _, rfl, rfl, HB1⟩
  case round =>
    clear HB1 hc1
    obtain ⟨k, hk, rfl, rfl, HW⟩ := hrel
    have hw := HW.out.size
    have hcl := cost_le HBD.out k hk
    have hcl' : cost p c k ≤ 2199023255552000 := by omega
    by_cases hlt : k < n
    · obtain ⟨b, o, rfl, hc0, hc1⟩ := (HL.out.later HW.out).cellsAt hlt
      have hkI : (k : Int) < (n : Int) := by omega
      have hk0 : (0 : Int) ≤ (k : Int) := by omega
      obtain ⟨hp2, hp6, hlo, hhi, _⟩ := HBD.out k hlt
      obtain ⟨q, hq⟩ := Int.eq_ofNat_of_zero_le (show 0 ≤ p k by omega)
      have HCS : Hid (cost p c (k + 1) = cost p c k + (c k).natAbs * bitLen q) := by
        show cost p c k + _ = _
        rw [hq]; simp
      rw [hq] at hc0
      have hq6 : q ≤ 1000000 := by omega
      have hb20 := bitLen_million hq6
      have hsz := fun W => size_any (c k) W (by omega) (by omega)
      have hlen := fun W => Len_any q W (by omega)
      obtain ⟨M, hM⟩ : ∃ M, (c k).natAbs = M := ⟨_, rfl⟩
      have hM40 : M ≤ 1099511627776 := by omega
      obtain ⟨B, hB⟩ : ∃ B, bitLen q = B := ⟨_, rfl⟩
      rw [hM, hB] at HCS
      rw [hB] at hlen hb20
      rw [hM] at hsz
      clear hB hM hq hp2 hp6
      have hpr : M * B ≤ 21990232555520 := Nat.le_trans (Nat.mul_le_mul hM40 hb20) (by decide)
      have hpi : (0 : Int) ≤ (M : Int) * (B : Int) ∧ (M : Int) * (B : Int) ≤ 21990232555520 := by
        rw [show (M : Int) * (B : Int) = ((M * B : Nat) : Int) by simp]
        omega
      have HB1 := Hid.mk' (HW.out.alloc hw (.cells #[.int .i64 q, .int .i64 (c k)] 41))
      go_wp2_with fail
      go_quiet ((first | (go_at_call 29; exact (hsz _).mono fun _ _ h => ⟨h.1, _, h.2⟩) | (go_at_call 31; exact (hlen _).mono fun _ _ h => ⟨h.1, _, h.2⟩)))
      go_wp2_with fail
      exact ⟨⟨k + 1, by omega, by rw [HCS.out]; simp, by go_num, below_drewN HB1.out _⟩, by simp [intOf]; omega⟩
    · obtain rfl : k = n := by omega
      have he := (HE.out.below HW.out).c1
      cases fit
      · have hmore : ¬ cost p c k ≤ most := fun h => by have := HF.out.2 h; cases this
        go_wp2_with fail
        go_ret
        exact ⟨rfl, HW.out⟩
      · have hless : cost p c k ≤ most := HF.out.1 rfl
        go_wp2_with fail
        go_ret
        exact ⟨rfl, HW.out⟩

theorem wpow_room (m : Nat) : 2 ^ m < 18446744073709551616 ^ (m + 1) :=
  Nat.lt_of_le_of_lt (Nat.pow_le_pow_left (show 2 ≤ 18446744073709551616 by decide) m) (Nat.pow_lt_pow_right (by decide) (Nat.lt_succ_self m))

theorem sides_lt {p c : Nat → Int} {t k n K : Nat} (hk : k ≤ n) (h : 2 ^ (t * cost p c n) < 18446744073709551616 ^ K) : sideUp p c t k < 18446744073709551616 ^ K ∧ sideDown p c t k < 18446744073709551616 ^ K := by
  have h1 := sides_le p c t k
  have h2 : 2 ^ (t * cost p c k) ≤ 2 ^ (t * cost p c n) := Nat.pow_le_pow_right (by decide) (Nat.mul_le_mul_left _ (cost_mono p c hk))
  exact ⟨Nat.lt_of_le_of_lt (Nat.le_trans h1.1 h2) h, Nat.lt_of_le_of_lt (Nat.le_trans h1.2 h2) h⟩

set_option maxRecDepth 10000 in
set_option maxHeartbeats 1000000 in
theorem powers_any (den : Int) (ad : Option Addr) (n cap t K : Nat) (p c : Nat → Int) (w : World) (hl : LogAt w (.slice ad n cap) n p c) (hn : n ≤ 100) (hbd : Bounded n p c) (hcost : t * cost p c n ≤ 40000) (hK : K ≤ 1000000) (hKb : 2 ^ (t * cost p c n) < 18446744073709551616 ^ K) :
    Calls Tryd.prog 21 #[.agg #[.int .i64 den, .slice ad n cap], .int .i64 t] w fun e w' => ∃ u v, e = .returned (.tuple #[u, v]) ∧ NatAt w' u (sideUp p c t n) ∧ NatAt w' v (sideDown p c t n) ∧ Below w.heap.size w w' := by
  have hb0 : Below w.heap.size w (w.alloc (.cells #[.int .i64 den, .slice ad n cap] 25)) := (Below.refl _ _).alloc (Nat.le_refl _) _
  have hc1 : (w.alloc (.cells #[.int .i64 den, .slice ad n cap] 25)).cell? ⟨w.heap.size, 1, none⟩ = some (.slice ad n cap) := by simp
  have HL := Hid.mk' (hl.later hb0)
  have HBD := Hid.mk' hbd
  have HKB := Hid.mk' hKb
  have HC1 := Hid.mk' hc1
  have HB0 := Hid.mk' hb0
  have hsz : ∀ i, i < n → (c i).natAbs * t ≤ 40000 := fun i hi => by
    have h1 := Nat.mul_le_mul_left t (size_le_cost hi hbd)
    rw [Nat.mul_comm t (c i).natAbs] at h1
    omega
  have HSZ := Hid.mk' hsz
  clear hl hbd hKb hsz hc1 hb0 hcost
  have hone := NatOf_any 1 (w.alloc (.cells #[.int .i64 den, .slice ad n cap] 25)) (by omega) (by omega)
  generalize hw0 : w.alloc (.cells #[.int .i64 den, .slice ad n cap] 25) = w0 at HL HC1 HB0 hone
  have HW0 := Hid.mk' hw0
  clear hw0
  go_enter Tryd.func21, Tryd.ntmps21
  go_wp2_with fail
  rw [HW0.out]
  refine hone.mono ?_
  clear hone
  rintro e w1 ⟨v1, rfl, hv1, hb1⟩
  have hone := NatOf_any 1 w1 (by omega) (by omega)
  have HV1 := Hid.mk' hv1
  have HB1 := Hid.mk' hb1
  clear hv1 hb1
  go_wp2_with fail
  refine hone.mono ?_
  clear hone
  rintro e w2 ⟨v2, rfl, hv2, hb2⟩
  have HB2 := Hid.mk' (below_chain HB1.out hb2)
  have HV2 := Hid.mk' hv2
  have HV1' := Hid.mk' (HV1.out.later hb2)
  have hcl := HB2.out.cell (cell_lt HC1.out)
  rw [HC1.out] at hcl
  clear hv2 hb2 HV1 HB1
  go_wp2_with fail
  go_loopw [4, 5, 14] (fun s r i wr => ∃ k : Nat, k ≤ n ∧ i = .int .i64 k ∧ Hid (NatAt wr s (sideUp p c t k)) ∧ Hid (NatAt wr r (sideDown p c t k)) ∧ Hid (Below w0.heap.size w0 wr)) (fun _ _ i _ => n - (intOf i).toNat)
  case atStart => exact ⟨0, by omega, rfl, HV1', HV2, HB2⟩
  case round =>
    clear HV1' HV2 HB2 hcl
    obtain ⟨k, hk, rfl, HU, HD, HB⟩ := hrel
    have hk0 : (0 : Int) ≤ (k : Int) := by omega
    by_cases hlt : k < n
    · obtain ⟨b, o, rfl, hc0, hc1⟩ := (HL.out.later HB.out).cellsAt hlt
      have hkI : (k : Int) < (n : Int) := by omega
      obtain ⟨hp2, hp6, hlo, hhi, hcz⟩ := HBD.out k hlt
      have hs := HSZ.out k hlt
      obtain ⟨q, hq⟩ := Int.eq_ofNat_of_zero_le (show 0 ≤ p k by omega)
      have hqt : (p k).toNat = q := by omega
      have hsl := sides_lt (t := t) (show k + 1 ≤ n by omega) HKB.out
      have HQT := Hid.mk' hqt
      rw [hq] at hc0
      have hq2 : 2 ≤ q := by omega
      have hq6 : q ≤ 1000000 := by omega
      have hbx : Below wr.heap.size wr (wr.alloc (.cells #[.int .i64 q, .int .i64 (c k)] 41)) := (Below.refl _ _).alloc (Nat.le_refl _) _
      clear hq hp2 hp6
      by_cases hpos : 0 < c k
      · rw [sideUp_pos hpos, hqt] at hsl
        have hpow := TimesPower_any u4 (sideUp p c t k) q ((c k).natAbs * t) K (wr.alloc (.cells #[.int .i64 q, .int .i64 (c k)] 41)) (HU.out.later hbx) (by omega) (by omega) (by omega) hsl.1 hK
        have hcc : (((c k).natAbs * t : Nat) : Int) = c k * (t : Int) := by
          rw [Int.natCast_mul, show ((c k).natAbs : Int) = c k by omega]
        rw [hcc] at hpow
        have hpb : (0 : Int) ≤ c k * (t : Int) ∧ c k * (t : Int) ≤ 40000 := by rw [← hcc]; omega
        have HBX := Hid.mk' (below_chain HB.out hbx)
        have HDX := Hid.mk' (HD.out.later hbx)
        clear hsl hcc hqt hbx hs
        go_wp2_with fail
        refine hpow.mono ?_
        clear hpow
        rintro e w3 ⟨v3, rfl, hv3, hb3⟩
        go_wp2_with fail
        exact ⟨⟨k + 1, by omega, by go_num, by show NatAt _ _ _; rw [sideUp_pos hpos, HQT.out]; exact hv3, by show NatAt _ _ _; rw [sideDown_pos hpos]; exact HDX.out.later hb3, below_chain HBX.out hb3⟩, by simp [intOf]; omega⟩
      · rw [sideDown_neg hpos, hqt] at hsl
        have hpow := TimesPower_any u5 (sideDown p c t k) q ((c k).natAbs * t) K (wr.alloc (.cells #[.int .i64 q, .int .i64 (c k)] 41)) (HD.out.later hbx) (by omega) (by omega) (by omega) hsl.2 hK
        have hcc : (((c k).natAbs * t : Nat) : Int) = -c k * (t : Int) := by
          rw [Int.natCast_mul, show ((c k).natAbs : Int) = -c k by omega]
        rw [hcc] at hpow
        have hpb : (0 : Int) ≤ -c k * (t : Int) ∧ -c k * (t : Int) ≤ 40000 := by rw [← hcc]; omega
        have HBX := Hid.mk' (below_chain HB.out hbx)
        have HUX := Hid.mk' (HU.out.later hbx)
        clear hsl hcc hqt hbx hs
        go_wp2_with fail
        refine hpow.mono ?_
        clear hpow
        rintro e w3 ⟨v3, rfl, hv3, hb3⟩
        go_wp2_with fail
        exact ⟨⟨k + 1, by omega, by go_num, by show NatAt _ _ _; rw [sideUp_neg (Int.not_lt.2 (by omega))]; exact HUX.out.later hb3, by show NatAt _ _ _; rw [sideDown_neg (Int.not_lt.2 (by omega)), HQT.out]; exact hv3, below_chain HBX.out hb3⟩, by simp [intOf]; omega⟩
    · obtain rfl : k = n := by omega
      go_wp2_with fail
      go_ret2
      exact ⟨u4, u5, rfl, HU.out, HD.out, below_chain HB0.out HB.out⟩

set_option maxRecDepth 10000 in
set_option maxHeartbeats 1000000 in
/-- Sign: an error, or how the two products compare. -/
theorem Sign_log (den : Int) (sv : Value) (n : Nat) (p c : Nat → Int) (a : Nat → Addr) (ok fit : Bool) (hok : ok = true ↔ OkLog den n p c) (hfit : fit = true ↔ cost p c n ≤ 40000) (w : World) (h : Errs w a) (hs : LogAt w sv n p c) (hn : n ≤ 100) :
    Calls Tryd.prog 8 #[.agg #[.int .i64 den, sv]] w fun e w' => e = .returned (.tuple #[.int .i64 (if ok && fit then cmpOf (sideUp p c 1 n) (sideDown p c 1 n) else 0), powErr ok fit a]) ∧ Below w.heap.size w w' := by
  have hb0 : Below w.heap.size w (w.alloc (.cells #[.int .i64 den, sv] 25)) := (Below.refl _ _).alloc (Nat.le_refl _) _
  have HB0 := Hid.mk' hb0
  by_cases h1 : OkLog den n p c
  · obtain rfl : ok = true := hok.2 h1
    have hck := checkPowers_ok den sv n 40000 p c a h1 fit hfit (w.alloc (.cells #[.int .i64 den, sv] 25)) (h.below hb0) (hs.later hb0) (by omega)
    obtain ⟨ad, cap, rfl⟩ := hs.slice
    have hl := hs
    have HL := Hid.mk' hl
    have HBD := Hid.mk' h1.2.2.1.bounded
    have HF := Hid.mk' hfit
    clear hok h h1 hs hl hfit hb0
    cases fit
    · simp only [powErr] at hck
      simp only [powErr, Bool.and_false]
      go_enter Tryd.func8, Tryd.ntmps8
      go_wp2_with fail
      refine hck.mono ?_
      clear hck
      rintro e w1 ⟨rfl, hb1⟩
      go_wp2_with fail
      go_ret2
      exact ⟨rfl, below_chain HB0.out hb1⟩
    · simp only [powErr] at hck
      simp only [powErr, Bool.and_true]
      have hcost := HF.out.1 rfl
      obtain ⟨K, hK, hKb⟩ : ∃ K, K ≤ 1000000 ∧ 2 ^ (1 * cost p c n) < 18446744073709551616 ^ K := ⟨1 * cost p c n + 1, by omega, wpow_room _⟩
      have hsl := sides_lt (t := 1) (Nat.le_refl n) hKb
      have HSL := Hid.mk' hsl
      have HKB := Hid.mk' hKb
      clear hsl hKb
      go_enter Tryd.func8, Tryd.ntmps8
      go_wp2_with fail
      refine hck.mono ?_
      clear hck
      rintro e w1 ⟨rfl, hb1⟩
      have hc0 := hb1.cell (p := ⟨w.heap.size, 0, none⟩) (by simp)
      have hc1 := hb1.cell (p := ⟨w.heap.size, 1, none⟩) (by simp)
      simp at hc0 hc1
      have HB1 := Hid.mk' (below_chain HB0.out hb1)
      have hpw := powers_any den ad n cap 1 K p c w1 (HL.out.later HB1.out) hn HBD.out (by omega) hK HKB.out
      clear hb1 HB0
      go_wp2_with fail
      refine hpw.mono ?_
      clear hpw hc0 hc1
      rintro e w2 ⟨u, v, rfl, hu, hv, hb2⟩
      have hcmp := NatCmp_any u v _ _ K w2 hu hv HSL.out.1 HSL.out.2 hK
      have HB2 := Hid.mk' (below_chain HB1.out hb2)
      clear hu hv hb2 HB1
      go_wp2_with fail
      refine hcmp.mono ?_
      clear hcmp
      rintro e w3 ⟨rfl, m, hw3⟩
      go_wp2_with fail
      go_ret2
      exact ⟨by simp, below_drewN HB2.out _⟩
  · obtain rfl : ok = false := not_true_of hok h1
    have hck := checkPowers_bad den sv n 40000 p c a h1 (w.alloc (.cells #[.int .i64 den, sv] 25)) (h.below hb0) (hs.later hb0) (by omega)
    simp only [powErr, Bool.false_and]
    clear hok h h1 hs hfit hb0
    go_enter Tryd.func8, Tryd.ntmps8
    go_wp2_with fail
    refine hck.mono ?_
    clear hck
    rintro e w1 ⟨rfl, hb1⟩
    go_wp2_with fail
    go_ret2
    exact ⟨rfl, below_chain HB0.out hb1⟩
/-- Sign of a copy. -/
theorem Sign_any (den : Int) (sv : Value) (n : Nat) (p c : Nat → Int) (a : Nat → Addr) (ok fit : Bool) (hok : ok = true ↔ OkLog den n p c) (hfit : fit = true ↔ cost p c n ≤ 40000) (w : World) (h : Errs w a) (hs : (sv = .slice none 0 0 ∧ n = 0) ∨ ∃ g cap, sv = .slice (some ⟨g, 0, none⟩) n cap ∧ TermsAt w g 0 n p c) (hn : n ≤ 30) :
    Calls Tryd.prog 8 #[.agg #[.int .i64 den, sv]] w fun e w' => e = .returned (.tuple #[.int .i64 (if ok && fit then cmpOf (sideUp p c 1 n) (sideDown p c 1 n) else 0), powErr ok fit a]) ∧ Below w.heap.size w w' := by
  obtain ⟨ad, cap, rfl, hl⟩ := log_of_own hs
  exact Sign_log den _ n p c a ok fit hok hfit w h hl (by omega)
end Go.Proofs.YtiecbconcdncmabDoor
