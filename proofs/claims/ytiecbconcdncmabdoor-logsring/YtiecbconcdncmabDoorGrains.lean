/- The program's Floor, FloorLog and Grains. -/
import Derived.Test.YtiecbconcdncmabDoorShift
namespace Go.Proofs.YtiecbconcdncmabDoor
open Go.RowKit

theorem floor_less {a b : Int} (hb : 0 < b) (h : a.tmod b < 0) : a.tdiv b - 1 = a / b := by
  have h1 := Int.mul_tdiv_add_tmod a b
  have h2 : -b < a.tmod b := by have := tmod_small a b (by omega); omega
  have h3 := (Int.ediv_emod_unique (a := a) (b := b) (r := a.tmod b + b) (q := a.tdiv b - 1) hb).2 ⟨by rw [Int.mul_sub]; omega, by omega, by omega⟩
  exact h3.1.symm
theorem floor_same {a b : Int} (hb : 0 < b) (h : ¬ a.tmod b < 0) : a.tdiv b = a / b := by
  have h1 := Int.mul_tdiv_add_tmod a b
  have h2 := Int.tmod_lt_of_pos a hb
  exact ((Int.ediv_emod_unique (a := a) (b := b) (r := a.tmod b) (q := a.tdiv b) hb).2 ⟨by omega, by omega, by omega⟩).1.symm
theorem tdiv_bound {a b : Int} (h0 : -1000000 ≤ a) (h1 : a ≤ 1000000) : -1000000 ≤ a.tdiv b ∧ a.tdiv b ≤ 1000000 := by
  have := Int.natAbs_tdiv_le_natAbs a b
  omega

set_option maxRecDepth 10000 in
set_option maxHeartbeats 1000000 in
theorem Floor_any (a b : Int) (w : World) (h0 : -1000000 ≤ a) (h1 : a ≤ 1000000) (hb : 0 < b) (hb6 : b ≤ 1000000) :
    Calls Tryd.prog 25 #[.int .i64 a, .int .i64 b] w fun e w' => e = .returned (.int .i64 (a / b)) ∧ w' = w := by
  have hbz : ¬ b = 0 := by omega
  have hq := tdiv_bound (b := b) h0 h1
  by_cases h : a.tmod b < 0
  · rw [← floor_less hb h]
    go_enter Tryd.func25, Tryd.ntmps25
    go_wp2_with fail
    go_ret
    exact ⟨rfl, rfl⟩
  · rw [← floor_same hb h]
    go_enter Tryd.func25, Tryd.ntmps25
    go_wp2_with fail
    go_ret
    exact ⟨rfl, rfl⟩

set_option maxRecDepth 10000 in
set_option maxHeartbeats 1000000 in
theorem FloorLog_any (u v : Value) (a b k : Nat) (w : World) (hu : NatAt w u a) (hv : NatAt w v b) (ha : 0 < a) (hb : 0 < b) (hka : a < 18446744073709551616 ^ k) (hkb : b < 18446744073709551616 ^ k) (hk6 : k ≤ 100000) (hla : bitLen a ≤ 50000) (hlb : bitLen b ≤ 50000) :
    Calls Tryd.prog 26 #[u, v] w fun e w' => ∃ z : Int, e = .returned (.int .i64 z) ∧ IsLog z a b ∧ -50001 ≤ z ∧ z ≤ 50001 ∧ Below w.heap.size w w' := by
  have hba := Bits_any u a k w hu ha hka (by omega)
  have hbb := Bits_any v b k w hv hb hkb (by omega)
  obtain ⟨la, hda⟩ : ∃ la, bitLen a = la := ⟨_, rfl⟩
  obtain ⟨lb, hdb⟩ : ∃ lb, bitLen b = lb := ⟨_, rfl⟩
  have HDA := Hid.mk' hda
  have HDB := Hid.mk' hdb
  rw [hda] at hba hla
  rw [hdb] at hbb hlb
  have hsa := Shift_any u a (lb - la) k w hu ha hka (by omega) (by omega)
  have HV := Hid.mk' hv
  have HKA := Hid.mk' hka
  have HKB := Hid.mk' hkb
  obtain ⟨R, hR⟩ : ∃ R, R = 100001 := ⟨_, rfl⟩
  have hroom : ∀ z s : Nat, z < 18446744073709551616 ^ k → s ≤ 100000 → z * 2 ^ s < 18446744073709551616 ^ (k + R) := fun z s hz hs => by
    rw [Nat.pow_add]
    exact Nat.mul_lt_mul'' hz (Nat.lt_of_le_of_lt (Nat.pow_le_pow_left (show 2 ≤ 18446744073709551616 by decide) s) (Nat.pow_lt_pow_right (by decide) (by omega)))
  have HR := Hid.mk' hroom
  clear hda hdb hu hv hka hkb hroom
  have e1 : max 0 (-((la : Int) - (lb : Int))) = ((lb - la : Nat) : Int) := by omega
  have e2 : max 0 ((la : Int) - (lb : Int)) = ((la - lb : Nat) : Int) := by omega
  have HE1 := Hid.mk' e1
  have HE2 := Hid.mk' e2
  clear e1 e2
  go_enter Tryd.func26, Tryd.ntmps26
  go_wp2_with fail
  refine hba.mono ?_
  clear hba
  rintro e w1 ⟨rfl, hw1⟩
  rw [hw1]
  clear hw1
  go_wp2_with fail
  refine hbb.mono ?_
  clear hbb
  rintro e w1 ⟨rfl, hw1⟩
  rw [hw1]
  clear hw1
  go_wp2_with fail
  rw [HE1.out]
  refine hsa.mono ?_
  clear hsa
  rintro e w2 ⟨u2, rfl, hu2, hb2⟩
  have hsb := Shift_any v b (la - lb) k w2 (HV.out.later hb2) hb HKB.out (by omega) (by omega)
  have HU2 := Hid.mk' hu2
  have HB2 := Hid.mk' hb2
  clear hu2 hb2
  go_wp2_with fail
  rw [HE2.out]
  refine hsb.mono ?_
  clear hsb
  rintro e w3 ⟨v2, rfl, hv2, hb3⟩
  have hcmp := NatCmp_any u2 v2 _ _ (k + R) w3 (HU2.out.later hb3) hv2 (HR.out _ _ HKA.out (by omega)) (HR.out _ _ HKB.out (by omega)) (by omega)
  have HB3 := Hid.mk' (below_chain HB2.out hb3)
  clear hv2 hb3
  by_cases hle : le2 ((la : Int) - (lb : Int)) a b
  · have hz : 0 ≤ cmpOf (a * 2 ^ (lb - la)) (b * 2 ^ (la - lb)) := by
      have := (le2_iff (x := la - lb) (y := lb - la) (by omega)).1 hle
      unfold cmpOf
      split
      · omega
      · split <;> omega
    have hlog := isLog_of (a := a) hb (by rw [HDA.out, HDB.out]; exact hle)
    rw [HDA.out, HDB.out] at hlog
    have HLOG := Hid.mk' hlog
    clear hle hlog
    generalize cmpOf (a * 2 ^ (lb - la)) (b * 2 ^ (la - lb)) = z at hcmp hz
    go_wp2_with fail
    refine hcmp.mono ?_
    clear hcmp
    rintro e w4 ⟨rfl, m, hw4⟩
    go_wp2_with fail
    go_ret
    exact ⟨_, rfl, HLOG.out, by omega, by omega, below_drewN HB3.out _⟩
  · have hz : cmpOf (a * 2 ^ (lb - la)) (b * 2 ^ (la - lb)) < 0 := by
      have := fun h => hle ((le2_iff (x := la - lb) (y := lb - la) (by omega)).2 h)
      rw [cmpOf_lt (Nat.lt_of_not_le this)]
      omega
    have hlog := isLog_less (b := b) ha (by rw [HDA.out, HDB.out]; exact hle)
    rw [HDA.out, HDB.out] at hlog
    have HLOG := Hid.mk' hlog
    clear hle hlog
    generalize cmpOf (a * 2 ^ (lb - la)) (b * 2 ^ (la - lb)) = z at hcmp hz
    go_wp2_with fail
    refine hcmp.mono ?_
    clear hcmp
    rintro e w4 ⟨rfl, m, hw4⟩
    go_wp2_with fail
    go_ret
    exact ⟨_, rfl, HLOG.out, by omega, by omega, below_drewN HB3.out _⟩

theorem isGr_of {z den : Int} {U D : Nat} (h : IsLog z U D) (h0 : -50001 ≤ z) (h1 : z ≤ 50001) (hd : 0 < den) (hd6 : den ≤ 1000000) : le2 (z / den * den) U D ∧ ¬ le2 ((z / den + 1) * den) U D ∧ -50001 ≤ z / den ∧ z / den ≤ 50001 ∧ -1050001 ≤ z / den * den ∧ z / den * den ≤ 1050001 ∧ -1050001 ≤ (z / den + 1) * den ∧ (z / den + 1) * den ≤ 1050001 := by
  obtain ⟨h2, h3⟩ := isLog_floor hd h rfl
  have h4 : z / den * den ≤ z := Int.ediv_mul_le z (by omega)
  have h5 : z < (z / den + 1) * den := Int.lt_ediv_add_one_mul_self z hd
  have h6 : (z / den + 1) * den = z / den * den + den := by rw [Int.add_mul, Int.one_mul]
  have h7 : -50001 ≤ z / den := by
    rw [Int.le_ediv_iff_mul_le hd]
    have : den * 50001 ≥ 1 * 50001 := Int.mul_le_mul_of_nonneg_right (by omega) (by omega)
    omega
  have h8 : z / den ≤ 50001 := by
    have : z / den < 50002 := by
      rw [Int.ediv_lt_iff_lt_mul hd]
      have : den * 50002 ≥ 1 * 50002 := Int.mul_le_mul_of_nonneg_right (by omega) (by omega)
      omega
    omega
  exact ⟨h2, h3, h7, h8, by omega, by omega, by omega, by omega⟩
theorem side_pos {p c : Nat → Int} {t n : Nat} (hb : Bounded n p c) : ∀ k, k ≤ n → 0 < sideUp p c t k ∧ 0 < sideDown p c t k
  | 0, _ => ⟨Nat.one_pos, Nat.one_pos⟩
  | k + 1, h => by
    have ih := side_pos (t := t) hb k (by omega)
    have hp : 0 < (p k).toNat ^ ((c k).natAbs * t) := Nat.pow_pos (by have := (hb k (by omega)).1; omega)
    by_cases hc : 0 < c k
    · rw [sideUp_pos hc, sideDown_pos hc]; exact ⟨Nat.mul_pos ih.1 hp, ih.2⟩
    · rw [sideUp_neg hc, sideDown_neg hc]; exact ⟨ih.1, Nat.mul_pos ih.2 hp⟩
theorem side_bits {p c : Nat → Int} {t n : Nat} (h : t * cost p c n ≤ 40000) : bitLen (sideUp p c t n) ≤ 50000 ∧ bitLen (sideDown p c t n) ≤ 50000 := by
  have h1 := sides_le p c t n
  have h2 : 2 ^ (t * cost p c n) < 2 ^ (t * cost p c n + 1) := Nat.pow_lt_pow_right (by decide) (by omega)
  have h3 := bitLen_le_of_lt (Nat.lt_of_le_of_lt h1.1 h2)
  have h4 := bitLen_le_of_lt (Nat.lt_of_le_of_lt h1.2 h2)
  omega

set_option maxRecDepth 10000 in
set_option maxHeartbeats 1000000 in
theorem Grains_fit_log (den : Int) (sv : Value) (n : Nat) (p c : Nat → Int) (a : Nat → Addr) (hok : OkLog den n p c) (hfit : cost p c n ≤ 1250) (w : World) (h : Errs w a) (hs : LogAt w sv n p c) (hn : n ≤ 100) :
    Calls Tryd.prog 12 #[.agg #[.int .i64 den, sv]] w fun e w' => ∃ z : Int, e = .returned (.tuple #[.int .i64 (z / den), .nilIface]) ∧ IsLog z (sideUp p c 32 n) (sideDown p c 32 n) ∧ -50001 ≤ z ∧ z ≤ 50001 ∧ Below w.heap.size w w' := by
  have hb0 : Below w.heap.size w (w.alloc (.cells #[.int .i64 den, sv] 25)) := (Below.refl _ _).alloc (Nat.le_refl _) _
  have hck := checkPowers_ok den sv n 1250 p c a hok true ⟨fun _ => hfit, fun _ => rfl⟩ (w.alloc (.cells #[.int .i64 den, sv] 25)) (h.below hb0) (hs.later hb0) (by omega)
  simp only [powErr] at hck
  obtain ⟨ad, cap, rfl⟩ := hs.slice
  have hl := hs
  have hbd := hok.2.2.1.bounded
  have hd1 : 0 < den := hok.1
  have hd6 : den ≤ 1000000 := hok.2.1
  obtain ⟨K, hK, hKb⟩ : ∃ K, K ≤ 100000 ∧ 2 ^ (32 * cost p c n) < 18446744073709551616 ^ K := ⟨32 * cost p c n + 1, by omega, wpow_room _⟩
  have HSL := Hid.mk' (sides_lt (t := 32) (Nat.le_refl n) hKb)
  have HPO := Hid.mk' (side_pos (t := 32) hbd n (Nat.le_refl n))
  have HBI := Hid.mk' (side_bits (p := p) (c := c) (t := 32) (n := n) (by omega))
  have HKB := Hid.mk' hKb
  have HB0 := Hid.mk' hb0
  have HL := Hid.mk' hl
  have HBD := Hid.mk' hbd
  clear hb0 hl hbd hKb hok h hs
  go_enter Tryd.func12, Tryd.ntmps12
  go_wp2_with fail
  refine hck.mono ?_
  clear hck
  rintro e w1 ⟨rfl, hb1⟩
  have hc0 := hb1.cell (p := ⟨w.heap.size, 0, none⟩) (by simp)
  have hc1 := hb1.cell (p := ⟨w.heap.size, 1, none⟩) (by simp)
  simp at hc0 hc1
  have HB1 := Hid.mk' (below_chain HB0.out hb1)
  have hpw := powers_any den ad n cap 32 K p c w1 (HL.out.later HB1.out) hn HBD.out (by omega) (by omega) HKB.out
  have HC0 := Hid.mk' hc0
  clear hb1 HB0
  go_wp2_with fail
  refine hpw.mono ?_
  clear hpw hc0 hc1
  rintro e w2 ⟨u, v, rfl, hu, hv, hb2⟩
  have hc0 := hb2.cell (cell_lt HC0.out)
  rw [HC0.out] at hc0
  have HFL := Hid.mk' (fun (W : World) (hb : Below w2.heap.size w2 W) => FloorLog_any u v _ _ K W (hu.later hb) (hv.later hb) HPO.out.1 HPO.out.2 HSL.out.1 HSL.out.2 hK HBI.out.1 HBI.out.2)
  have HKC : Hid (∀ W, Below w2.heap.size w2 W → W.cell? ⟨w.heap.size, 0, none⟩ = some (.int .i64 den)) := fun W hb => by rw [hb.cell (cell_lt hc0)]; exact hc0
  have HB2 := Hid.mk' (below_chain HB1.out hb2)
  have hcur : Below w2.heap.size w2 w2.drew := (Below.refl _ _).drew
  have hcur0 : Below w2.heap.size w2 w2 := Below.refl _ _
  clear hu hv hb2 HB1 HC0
  go_wp2_with fail
  go_region_held3 (fun W => W.cell? ⟨w.heap.size, 0, none⟩ = some (.int .i64 den))
    (exact HKC.out _ (by assumption))
    (first
      | (go_at_call 26; refine (HFL.out _ (by assumption)).mono ?_; rintro e w3 ⟨z, rfl, hlog, hz0, hz1, hbL⟩; have hcL := below_chain (by assumption) hbL)
      | (go_at_call 25; refine (Floor_any _ den _ (by omega) (by omega) hd1 hd6).mono ?_; rintro e w4 ⟨rfl, hw4⟩))
  go_wp2_with fail
  go_ret2
  exact ⟨z, rfl, hlog, hz0, hz1, below_chain HB2.out hcL⟩

set_option maxRecDepth 10000 in
set_option maxHeartbeats 1000000 in
theorem Grains_err_log (den : Int) (sv : Value) (n : Nat) (p c : Nat → Int) (a : Nat → Addr) (ok : Bool) (hok : ok = true ↔ OkLog den n p c) (hbad : ok = true → ¬ cost p c n ≤ 1250) (w : World) (h : Errs w a) (hs : LogAt w sv n p c) (hn : n ≤ 100) :
    Calls Tryd.prog 12 #[.agg #[.int .i64 den, sv]] w fun e w' => e = .returned (.tuple #[.int .i64 0, powErr ok false a]) ∧ Below w.heap.size w w' := by
  have hb0 : Below w.heap.size w (w.alloc (.cells #[.int .i64 den, sv] 25)) := (Below.refl _ _).alloc (Nat.le_refl _) _
  have HB0 := Hid.mk' hb0
  cases ok
  · have hck := checkPowers_bad den sv n 1250 p c a (fun h => by have := hok.2 h; cases this) (w.alloc (.cells #[.int .i64 den, sv] 25)) (h.below hb0) (hs.later hb0) (by omega)
    simp only [powErr]
    clear hok hbad h hs hb0
    go_enter Tryd.func12, Tryd.ntmps12
    go_wp2_with fail
    refine hck.mono ?_
    clear hck
    rintro e w1 ⟨rfl, hb1⟩
    go_wp2_with fail
    go_ret2
    exact ⟨rfl, below_chain HB0.out hb1⟩
  · have hck := checkPowers_ok den sv n 1250 p c a (hok.1 rfl) false ⟨(fun e => by cases e), (fun e => absurd e (hbad rfl))⟩ (w.alloc (.cells #[.int .i64 den, sv] 25)) (h.below hb0) (hs.later hb0) (by omega)
    simp only [powErr] at hck
    simp only [powErr]
    clear hok hbad h hs hb0
    go_enter Tryd.func12, Tryd.ntmps12
    go_wp2_with fail
    refine hck.mono ?_
    clear hck
    rintro e w1 ⟨rfl, hb1⟩
    go_wp2_with fail
    go_ret2
    exact ⟨rfl, below_chain HB0.out hb1⟩
theorem Grains_fit (den : Int) (sv : Value) (n : Nat) (p c : Nat → Int) (a : Nat → Addr) (hok : OkLog den n p c) (hfit : cost p c n ≤ 1250) (w : World) (h : Errs w a) (hs : (sv = .slice none 0 0 ∧ n = 0) ∨ ∃ g cap, sv = .slice (some ⟨g, 0, none⟩) n cap ∧ TermsAt w g 0 n p c) (hn : n ≤ 30) :
    Calls Tryd.prog 12 #[.agg #[.int .i64 den, sv]] w fun e w' => ∃ z : Int, e = .returned (.tuple #[.int .i64 (z / den), .nilIface]) ∧ IsLog z (sideUp p c 32 n) (sideDown p c 32 n) ∧ -50001 ≤ z ∧ z ≤ 50001 ∧ Below w.heap.size w w' := by
  obtain ⟨ad, cap, rfl, hl⟩ := log_of_own hs
  exact Grains_fit_log den _ n p c a hok hfit w h hl (by omega)
theorem Grains_err (den : Int) (sv : Value) (n : Nat) (p c : Nat → Int) (a : Nat → Addr) (ok : Bool) (hok : ok = true ↔ OkLog den n p c) (hbad : ok = true → ¬ cost p c n ≤ 1250) (w : World) (h : Errs w a) (hs : (sv = .slice none 0 0 ∧ n = 0) ∨ ∃ g cap, sv = .slice (some ⟨g, 0, none⟩) n cap ∧ TermsAt w g 0 n p c) (hn : n ≤ 30) :
    Calls Tryd.prog 12 #[.agg #[.int .i64 den, sv]] w fun e w' => e = .returned (.tuple #[.int .i64 0, powErr ok false a]) ∧ Below w.heap.size w w' := by
  obtain ⟨ad, cap, rfl, hl⟩ := log_of_own hs
  exact Grains_err_log den _ n p c a ok hok hbad w h hl (by omega)
end Go.Proofs.YtiecbconcdncmabDoor
