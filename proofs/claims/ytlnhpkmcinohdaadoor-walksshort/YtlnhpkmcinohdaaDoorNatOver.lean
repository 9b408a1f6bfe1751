/- How often a number without a bound goes into another one, and what is left. -/
import Derived.Test.YtlnhpkmcinohdaaDoorNatBy
namespace Go.Proofs.YtlnhpkmcinohdaaDoor
open Go.RowKit

theorem below_drewsN {B : Nat} {a w : World} (h : Below B a w) : ∀ m, Below B a (w.drewN m)
  | 0 => h
  | m + 1 => by
    have := (below_drewsN h m).drew
    exact ⟨this.os, this.tape, this.output, this.size, this.block⟩
theorem Bits_zero (ad : Option Addr) (cap : Nat) (w : World) :
    Calls Tryd.prog 52 #[.slice ad 0 cap] w fun e w' => e = .returned (.int .i64 0) ∧ w' = w := by
  go_enter Tryd.func52, Tryd.ntmps52
  go_wp2_with fail
  go_ret
  exact ⟨rfl, rfl⟩
theorem NatAt.nought {w : World} {v : Value} (h : NatAt w v 0) : ∃ ad cap, v = .slice ad 0 cap := by
  obtain ⟨l, h1, h2, h3, h4⟩ := h
  rcases h4 with ⟨ad, cap, h, _⟩ | ⟨b, o, cap, _, _, hp, _⟩
  · exact ⟨_, _, h⟩
  · have := h2.take_le hp
    rw [h3] at this
    have h5 : 0 < 18446744073709551616 ^ (l.length - 1) := Nat.pow_pos (by decide)
    omega
theorem Bits_all (u : Value) (n k : Nat) (w : World) (h : NatAt w u n) (hk : n < 18446744073709551616 ^ k) (hk6 : k ≤ 1000000) :
    Calls Tryd.prog 52 #[u] w fun e w' => e = .returned (.int .i64 (bitLen n : Nat)) ∧ w' = w := by
  rcases Nat.eq_zero_or_pos n with rfl | h0
  · obtain ⟨ad, cap, rfl⟩ := h.nought
    rw [bitLen_zero]
    exact Bits_zero ad cap w
  · exact Bits_any u n k w h h0 hk hk6
theorem bitLen_words {n k : Nat} (h : n < 18446744073709551616 ^ k) : bitLen n ≤ 64 * k := bitLen_le_of_lt (by rw [word_pow] at h; exact h)

/-- What the bits of both tell of the quotient. -/
theorem quot_great {a b : Nat} (ha : 0 < a) (h : (64 : Int) ≤ (bitLen a : Int) - (bitLen b : Int)) (hb : 0 < b) : 4611686018427387904 < a / b := by
  have h1 : le2 63 a b := le2_anti (le2_low (b := b) ha) (by omega)
  have h2 : b * 9223372036854775808 ≤ a := by
    have := (le2_iff (k := 63) (x := 63) (y := 0) (by omega)).1 h1
    simpa using this
  have h3 : 9223372036854775808 ≤ a / b := (Nat.le_div_iff_mul_le hb).2 (by rw [Nat.mul_comm]; exact h2)
  omega
theorem quot_small {a b : Nat} (hb : 0 < b) (h : (bitLen a : Int) - (bitLen b : Int) < 0) : a < b := by
  have h1 := le2_high (a := a) (b := b) hb
  have h2 : ¬ le2 0 a b := fun h' => h1 (le2_anti h' (by omega))
  have h3 := mt (le2_iff (k := 0) (x := 0) (y := 0) (a := a) (b := b) (by omega)).2 h2
  simp at h3
  exact h3
theorem quot_room {a b j : Nat} (hb : 0 < b) (h : (bitLen a : Int) - (bitLen b : Int) = (j : Int)) : a < b * 2 ^ (j + 1) := by
  have h1 := le2_high (a := a) (b := b) hb
  have h3 := mt (le2_iff (k := (bitLen a : Int) - (bitLen b : Int) + 1) (x := j + 1) (y := 0) (a := a) (b := b) (by omega)).2 h1
  simp at h3
  exact h3

set_option maxRecDepth 10000 in
set_option maxHeartbeats 2000000 in
theorem Over_any (u v : Value) (a b k : Nat) (w : World) (ha : NatAt w u a) (hb : NatAt w v b) (hb0 : 0 < b) (hka : a < 18446744073709551616 ^ k) (hkb : b < 18446744073709551616 ^ k) (hk : k ≤ 100000) :
    Calls Tryd.prog 38 #[u, v] w fun e w' => ∃ (t : Nat) (r : Value) (f : Bool), e = .returned (.tuple #[.int .u64 t, r, .bool f]) ∧ (f = true → t = a / b ∧ t < 18446744073709551616 ∧ NatAt w' r (a % b)) ∧ (f = false → 4611686018427387904 < a / b) ∧ Below w.heap.size w w' := by
  have hba := Bits_all u a k w ha hka (by omega)
  have hbb := Bits_all v b k w hb hkb (by omega)
  have hla := bitLen_words hka
  have hlb := bitLen_words hkb
  have HGR : Hid (0 < a → (64 : Int) ≤ (bitLen a : Int) - (bitLen b : Int) → 4611686018427387904 < a / b) := fun h1 h2 => quot_great h1 h2 hb0
  have HSM : Hid ((bitLen a : Int) - (bitLen b : Int) < 0 → a < b) := quot_small hb0
  have HRM : Hid (∀ j : Nat, (bitLen a : Int) - (bitLen b : Int) = (j : Int) → a < b * 2 ^ (j + 1)) := fun j => quot_room hb0
  have HZ : Hid (a = 0 → bitLen a = 0) := fun h => by rw [h]; exact bitLen_zero
  generalize bitLen a = la at *
  generalize bitLen b = lb at *
  have HA := Hid.mk' ha
  have HB := Hid.mk' hb
  have HKA := Hid.mk' hka
  have HKB := Hid.mk' hkb
  clear ha hb hka hkb
  by_cases h63 : (63 : Int) < (la : Int) - (lb : Int)
  · have HG : Hid (4611686018427387904 < a / b) := HGR.out (by
      rcases Nat.eq_zero_or_pos a with h0 | h0
      · have := HZ.out h0; omega
      · exact h0) (by omega)
    clear HGR HSM HRM HZ
    go_enter Tryd.func38, Tryd.ntmps38
    go_wp2_with fail
    refine hba.mono ?_
    clear hba
    rintro e w2 ⟨rfl, hw2⟩
    go_wp2_with fail
    refine hbb.mono ?_
    clear hbb
    rintro e w3 ⟨rfl, hw3⟩
    go_wp2_with fail
    exact bodyPost_ret (v := .tuple #[.int .u64 0, .slice none 0 0, .bool false]) (by simp [results, Tryd.results38, go_sem]) rfl ⟨0, _, false, rfl, fun h => (by cases h), fun _ => HG.out, Below.refl _ _⟩
  rcases Int.lt_or_le ((la : Int) - (lb : Int)) 0 with hneg | hpos
  · have HS : Hid (a < b) := HSM.out hneg
    clear HGR HSM HRM HZ
    go_enter Tryd.func38, Tryd.ntmps38
    go_wp2_with fail
    refine hba.mono ?_
    clear hba
    rintro e w2 ⟨rfl, hw2⟩
    go_wp2_with fail
    refine hbb.mono ?_
    clear hbb
    rintro e w3 ⟨rfl, hw3⟩
    go_wp2_with fail
    refine wp_loop_rounds 1 ?_
    rw [rounds_succ]
    go_wp2_with fail
    refine bodyPost_ret (v := .tuple #[.int .u64 0, u, .bool true]) (by simp [results, Tryd.results38, go_sem]) rfl ⟨0, _, true, rfl, fun _ => ⟨(Nat.div_eq_of_lt HS.out).symm, by decide, ?_⟩, fun h => (by cases h), Below.refl _ _⟩
    rw [Nat.mod_eq_of_lt HS.out]; exact HA.out
  · obtain ⟨j0, hj0⟩ : ∃ j : Nat, (la : Int) - (lb : Int) = (j : Int) := ⟨((la : Int) - (lb : Int)).toNat, by omega⟩
    have HR0 := Hid.mk' (HRM.out j0 hj0)
    have hj63 : j0 ≤ 63 := by omega
    have HJ := Hid.mk' hj0
    clear HGR HSM HRM HZ hpos h63 hj0
    go_enter Tryd.func38, Tryd.ntmps38
    go_wp2_with fail
    refine hba.mono ?_
    clear hba
    rintro e w2 ⟨rfl, hw2⟩
    go_wp2_with fail
    refine hbb.mono ?_
    clear hbb
    rintro e w3 ⟨rfl, hw3⟩
    have hj0 := HJ.out
    go_wp2_with fail
    clear hj0
    go_loopw [0, 7, 8] (fun s i t wr => ∃ (m cur T : Nat), i = .int .i64 ((m : Int) - 1) ∧ m ≤ 64 ∧ t = .int .u64 T ∧ T < 18446744073709551616 ∧ Hid (cur + T * b = a ∧ cur < b * 2 ^ m ∧ 2 ^ m ∣ T) ∧ Hid (NatAt wr s cur) ∧ Hid (Below w.heap.size w wr)) (fun _ i _ _ => (intOf i + 1).toNat)
    case atStart => exact ⟨j0 + 1, a, 0, by have := HJ.out; congr 1; omega, by omega, rfl, by decide, ⟨by simp, HR0.out, Nat.dvd_zero _⟩, HA, Below.refl _ _⟩
    case round =>
      obtain ⟨m, cur, T, rfl, hm, rfl, hT, HI, HC, HBL⟩ := hrel
      rcases Nat.eq_zero_or_pos m with rfl | hp
      · go_wp2_with fail
        have h := HI.out
        rw [Nat.pow_zero, Nat.mul_one] at h
        obtain ⟨e1, e2⟩ := over_end h.1 h.2.1
        exact bodyPost_ret (v := .tuple #[.int .u64 T, u0, .bool true]) (by simp [results, Tryd.results38, go_sem]) rfl ⟨T, _, true, rfl, fun _ => ⟨e1, hT, by rw [← e2]; exact HC.out⟩, fun h => (by cases h), HBL.out⟩
      · obtain ⟨j, rfl⟩ : ∃ j, m = j + 1 := ⟨m - 1, by omega⟩
        have hjj : ((j + 1 : Nat) : Int) - 1 = (j : Int) := by omega
        rw [hjj]
        have hj0 : (0 : Int) ≤ (j : Int) := by omega
        have hsh := Shift_any v b j k wr (HB.out.later HBL.out) hb0 HKB.out (by omega) (by omega)
        have hst := over_step HI.out.1 HI.out.2.1 HI.out.2.2
        have hpw : 2 ^ j < 18446744073709551616 := (shl_word (show j < 64 by omega)).2
        have HROOM : Hid (b * 2 ^ j < 18446744073709551616 ^ (k + 1) ∧ cur < 18446744073709551616 ^ (k + 1)) := by
          have h1 := HKB.out
          have h2 := HKA.out
          have h3 := HI.out.1
          refine ⟨by rw [Nat.pow_succ]; exact Nat.mul_lt_mul'' h1 hpw, ?_⟩
          have h4 : 18446744073709551616 ^ k ≤ 18446744073709551616 ^ (k + 1) := Nat.pow_le_pow_right (by decide) (by omega)
          have h5 : cur ≤ a := by rw [← h3]; exact Nat.le_add_right _ _
          omega
        have HOR : Hid (T ||| 2 ^ j = T + 2 ^ j) := or_bit HI.out.2.2
        have HT2 : Hid (b * 2 ^ j ≤ cur → T + 2 ^ j < 18446744073709551616) := fun hle => by
          have h1 := (hst.1 hle).1
          have h2 := HR0.out
          have h3 : 2 ^ (j0 + 1) ≤ 2 ^ 64 := Nat.pow_le_pow_right (by decide) (by omega)
          have h4 : (T + 2 ^ j) * b ≤ a := by rw [← h1]; exact Nat.le_add_left _ _
          have h5 : (T + 2 ^ j) * b < 2 ^ 64 * b := by
            have := Nat.mul_le_mul_left b h3
            rw [Nat.mul_comm (2 ^ 64) b]
            omega
          have := Nat.lt_of_mul_lt_mul_right h5
          omega
        have HST := Hid.mk' hst
        clear hjj hst
        go_wp2_with fail
        refine hsh.mono ?_
        clear hsh
        rintro e w2 ⟨pv, rfl, hpn, hb2⟩
        have hcm := NatCmp_any pv _ (b * 2 ^ j) cur (k + 1) w2 hpn (HC.out.later hb2) HROOM.out.1 HROOM.out.2 (by omega)
        have HBL2 := Hid.mk' (below_chain HBL.out hb2)
        have HC2 := Hid.mk' (HC.out.later hb2)
        have HPN := Hid.mk' hpn
        clear hpn hb2 HC HBL
        by_cases hle : b * 2 ^ j ≤ cur
        · have hcv : cmpOf (b * 2 ^ j) cur ≤ 0 := by
            rcases Nat.lt_or_ge (b * 2 ^ j) cur with h' | h'
            · rw [cmpOf_lt h']; decide
            · rw [cmpOf_eq (by omega)]; decide
          have HLE := Hid.mk' hle
          generalize cmpOf (b * 2 ^ j) cur = z at *
          clear hle
          go_wp2_with fail
          refine hcm.mono ?_
          clear hcm
          rintro e w4 ⟨rfl, md, rfl⟩
          have hmi := Minus_any _ _ cur (b * 2 ^ j) (k + 1) (w2.drewN md) (HC2.out.later (below_drewsN (Below.refl _ _) md)) (HPN.out.later (below_drewsN (Below.refl _ _) md)) HLE.out HROOM.out.2 (by omega)
          have HBL3 := Hid.mk' (below_drewsN HBL2.out md)
          go_wp2_with fail
          refine hmi.mono ?_
          clear hmi
          rintro e w5 ⟨rv, rfl, hrn, hb5⟩
          have HRN := Hid.mk' hrn
          have HBL5 := Hid.mk' (below_chain HBL3.out hb5)
          clear hrn hb5
          go_wp2_with fail
          have h6 := HST.out.1 HLE.out
          have hbits := bits_or_u64_nat T (2 ^ j) hT hpw
          refine ⟨⟨j, cur - b * 2 ^ j, T + 2 ^ j, by go_num, by omega, ?_, HT2.out HLE.out, ⟨h6.1, h6.2.1, h6.2.2⟩, HRN, HBL5⟩, by simp [intOf]⟩
          rw [← HOR.out, ← hbits, ← (shl_word (show j < 64 by omega)).1]
        · have hcv : ¬ cmpOf (b * 2 ^ j) cur ≤ 0 := by rw [cmpOf_gt (by omega)]; decide
          have HLE := Hid.mk' hle
          generalize cmpOf (b * 2 ^ j) cur = z at *
          clear hle
          go_wp2_with fail
          refine hcm.mono ?_
          clear hcm
          rintro e w4 ⟨rfl, md, rfl⟩
          have HBL3 := Hid.mk' (below_drewsN HBL2.out md)
          have HC3 := Hid.mk' (HC2.out.later (below_drewsN (Below.refl w2.heap.size w2) md))
          go_wp2_with fail
          have h6 := HST.out.2 HLE.out
          exact ⟨⟨j, cur, T, by go_num, by omega, rfl, hT, ⟨HI.out.1, h6.1, h6.2⟩, HC3, HBL3⟩, by simp [intOf]⟩
end Go.Proofs.YtlnhpkmcinohdaaDoor
