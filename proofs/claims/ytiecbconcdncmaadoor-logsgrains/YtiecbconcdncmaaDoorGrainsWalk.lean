/- The document's under and IsGrains; demonlaw1.LogsGrains walked. -/
import Derived.Test.YtiecbconcdncmaaDoorGrains
import Derived.Test.YtiecbconcdncmaaDoorSidesMany
import Derived.Test.YtiecbconcdncmaaDoorSignsWalk
namespace Go.Proofs.YtiecbconcdncmaaDoor
open Go.RowKit Go.Maps

theorem pow_room19 (m : Nat) : 2 ^ m < 1000000 ^ (m / 19 + 1) := by
  have h : m = 19 * (m / 19) + m % 19 := by omega
  have h1 : 2 ^ m = (2 ^ 19) ^ (m / 19) * 2 ^ (m % 19) := by rw [← Nat.pow_mul, ← Nat.pow_add, ← h]
  rw [h1, Nat.pow_succ]
  refine Nat.lt_of_le_of_lt (Nat.mul_le_mul_right _ (Nat.pow_le_pow_left (show 2 ^ 19 ≤ 1000000 by decide) (m / 19))) ?_
  refine Nat.mul_lt_mul_of_pos_left ?_ (Nat.pow_pos (by decide))
  refine Nat.lt_of_le_of_lt (Nat.pow_le_pow_right (by decide) (show m % 19 ≤ 18 by omega)) (by decide)
theorem pow_fits (E m : Nat) (hE : E = 100000) (hm : m ≤ 1500000) : 2 ^ m < 1000000 ^ E :=
  Nat.lt_of_lt_of_le (pow_room19 m) (Nat.pow_le_pow_right (by decide) (by omega))
theorem cmp_le (a b : Nat) : (cmpOf a b ≤ 0) ↔ a ≤ b := by
  unfold cmpOf
  split
  · constructor <;> intro <;> omega
  · split
    · constructor <;> intro <;> omega
    · constructor <;> intro <;> omega

set_option maxRecDepth 10000 in
set_option maxHeartbeats 1000000 in
theorem under_any (k : Int) (u v : Value) (U D E : Nat) (r : Bool) (hr : r = true ↔ le2 k U D) (w : World) (hE : E = 100000) (hu : BigAt w u U) (hv : BigAt w v D) (hU : U < 1000000 ^ E) (hD : D < 1000000 ^ E) (h0 : -1500000 ≤ k) (h1 : k ≤ 1500000) :
    Calls Tryd.prog 40 #[.int .i64 k, u, v] w fun e w' => e = .returned (.bool r) ∧ Below w.heap.size w w' := by
  have hUU : U < 1000000 ^ (E + E) := Nat.lt_of_lt_of_le hU (Nat.pow_le_pow_right (by decide) (by omega))
  have hDD : D < 1000000 ^ (E + E) := Nat.lt_of_lt_of_le hD (Nat.pow_le_pow_right (by decide) (by omega))
  have HR := Hid.mk' hr
  have HU := Hid.mk' hu
  have HV := Hid.mk' hv
  have HUB := Hid.mk' (And.intro hU hUU)
  have HDB := Hid.mk' (And.intro hD hDD)
  clear hr hu hv hU hD hUU hDD
  by_cases hk : 0 ≤ k
  · obtain ⟨m, rfl⟩ := Int.eq_ofNat_of_zero_le hk
    have hp := pow_fits E m hE (by omega)
    have hpw := power_any 2 E (by omega) (by omega) (by omega) m w (by omega) hp
    have HP := Hid.mk' hp
    have hle : le2 (m : Int) U D ↔ D * 2 ^ m ≤ U := by
      rw [le2_iff (x := m) (y := 0) (by omega), Nat.pow_zero, Nat.mul_one]
    have HLE := Hid.mk' hle
    clear hp hle
    go_enter Tryd.func40, Tryd.ntmps40
    go_wp2_with fail
    refine hpw.mono ?_
    clear hpw
    rintro e w1 ⟨v1, rfl, hv1, hb1⟩
    have hmul := BigMul_any v v1 _ _ E w1 (HV.out.later hb1) hv1 HDB.out.1 HP.out (by omega)
    have HB1 := Hid.mk' hb1
    clear hv1 hb1
    go_wp2_with fail
    refine hmul.mono ?_
    clear hmul
    rintro e w2 ⟨v2, rfl, hv2, hb2⟩
    have HB2 := Hid.mk' (below_chain HB1.out hb2)
    have hcmp := BigCmp_any v2 u _ _ (E + E) w2 hv2 (HU.out.later HB2.out) (by rw [Nat.pow_add]; exact Nat.mul_lt_mul'' HDB.out.1 HP.out) HUB.out.2 (by omega)
    have hz : r = true ↔ cmpOf (D * 2 ^ m) U ≤ 0 := HR.out.trans (HLE.out.trans (cmp_le _ _).symm)
    generalize cmpOf (D * 2 ^ m) U = z at hcmp hz
    clear hv2 hb2
    go_wp2_with fail
    refine hcmp.mono ?_
    clear hcmp
    rintro e w3 ⟨rfl, q, hw3⟩
    go_wp2_with fail
    go_ret
    exact ⟨ret_bool (by by_cases h : z ≤ 0
                        · rw [hz.2 h]; simpa using h
                        · rw [not_true_of hz h]; simpa using h), below_drewN HB2.out _⟩
  · obtain ⟨m, rfl⟩ : ∃ m : Nat, k = -(m : Int) := ⟨(-k).toNat, by omega⟩
    have hp := pow_fits E m hE (by omega)
    have hpw := power_any 2 E (by omega) (by omega) (by omega) m w (by omega) hp
    have HP := Hid.mk' hp
    have hle : le2 (-(m : Int)) U D ↔ D ≤ U * 2 ^ m := by
      rw [le2_iff (x := 0) (y := m) (by omega), Nat.pow_zero, Nat.mul_one]
    have HLE := Hid.mk' hle
    clear hp hle
    go_enter Tryd.func40, Tryd.ntmps40
    go_wp2_with fail
    refine hpw.mono ?_
    clear hpw
    rintro e w1 ⟨v1, rfl, hv1, hb1⟩
    have hmul := BigMul_any u v1 _ _ E w1 (HU.out.later hb1) hv1 HUB.out.1 HP.out (by omega)
    have HB1 := Hid.mk' hb1
    clear hv1 hb1
    go_wp2_with fail
    refine hmul.mono ?_
    clear hmul
    rintro e w2 ⟨v2, rfl, hv2, hb2⟩
    have HB2 := Hid.mk' (below_chain HB1.out hb2)
    have hcmp := BigCmp_any v v2 _ _ (E + E) w2 (HV.out.later HB2.out) hv2 HDB.out.2 (by rw [Nat.pow_add]; exact Nat.mul_lt_mul'' HUB.out.1 HP.out) (by omega)
    have hz : r = true ↔ cmpOf D (U * 2 ^ m) ≤ 0 := HR.out.trans (HLE.out.trans (cmp_le _ _).symm)
    generalize cmpOf D (U * 2 ^ m) = z at hcmp hz
    clear hv2 hb2
    go_wp2_with fail
    refine hcmp.mono ?_
    clear hcmp
    rintro e w3 ⟨rfl, q, hw3⟩
    go_wp2_with fail
    go_ret
    exact ⟨ret_bool (by by_cases h : z ≤ 0
                        · rw [hz.2 h]; simpa using h
                        · rw [not_true_of hz h]; simpa using h), below_drewN HB2.out _⟩

set_option maxRecDepth 10000 in
set_option maxHeartbeats 1000000 in
theorem IsGrains_true (den z : Int) (ad : Option Addr) (n cap : Nat) (p c : Nat → Int) (w : World) (hl : LogAt w (.slice ad n cap) n p c) (hn : n ≤ 30) (hbd : Bounded n p c) (hcost : cost p c n ≤ 1250) (hd1 : 0 < den) (hd6 : den ≤ 1000000) (hlog : IsLog z (sideUp p c 32 n) (sideDown p c 32 n)) (hz0 : -50001 ≤ z) (hz1 : z ≤ 50001) :
    Calls Tryd.prog 21 #[.agg #[.int .i64 den, .slice ad n cap], .int .i64 (z / den)] w fun e w' => e = .returned (.bool true) ∧ Below w.heap.size w w' := by
  obtain ⟨E, hE⟩ : ∃ E, E = 100000 := ⟨_, rfl⟩
  have hEb := pow_fits E (32 * cost p c n) hE (by omega)
  have hb0 : Below w.heap.size w (w.alloc (.cells #[.int .i64 den, .slice ad n cap] 39)) := (Below.refl _ _).alloc (Nat.le_refl _) _
  have hsd := Sides_many den ad n cap E p c (w.alloc (.cells #[.int .i64 den, .slice ad n cap] 39)) (hl.later hb0) hn hbd (by omega) (by omega) hEb
  have hle := sides_le p c 32 n
  have hU := Nat.lt_of_le_of_lt hle.1 hEb
  have hD := Nat.lt_of_le_of_lt hle.2 hEb
  obtain ⟨g1, g2, g3, g4, g5, g6, g7, g8⟩ := isGr_of hlog hz0 hz1 hd1 hd6
  generalize z / den = g at *
  obtain ⟨U, hUe⟩ : ∃ U, U = sideUp p c 32 n := ⟨_, rfl⟩
  obtain ⟨D, hDe⟩ : ∃ D, D = sideDown p c 32 n := ⟨_, rfl⟩
  rw [← hUe] at hsd hU g1 g2
  rw [← hDe] at hsd hD g1 g2
  have HB0 := Hid.mk' hb0
  have HU := Hid.mk' hU
  have HD := Hid.mk' hD
  have G1 := Hid.mk' g1
  have G2 := Hid.mk' g2
  clear hb0 hl hbd hEb hle hU hD g1 g2 hlog hUe hDe hz0 hz1 hcost
  go_enter Tryd.func21, Tryd.ntmps21
  go_wp2_with fail
  refine hsd.mono ?_
  clear hsd
  rintro e w1 ⟨u, v, rfl, hu, hv, hb1⟩
  have hc0 := hb1.cell (p := ⟨w.heap.size, 0, none⟩) (by simp)
  simp at hc0
  have hun := under_any (g * den) u v U D E true ⟨fun _ => G1.out, fun _ => rfl⟩ w1 hE hu hv HU.out HD.out (by omega) (by omega)
  have HUV := Hid.mk' (And.intro hu hv)
  have HB1 := Hid.mk' (below_chain HB0.out hb1)
  have HC0 := Hid.mk' hc0
  clear hu hv hb1 HB0
  go_wp2_with fail
  refine hun.mono ?_
  clear hun hc0
  rintro e w2 ⟨rfl, hb2⟩
  have hc0 := hb2.cell (cell_lt HC0.out)
  rw [HC0.out] at hc0
  have hun := under_any ((g + 1) * den) u v U D E false ⟨(fun e => by cases e), (fun e => absurd e G2.out)⟩ w2 hE (HUV.out.1.later hb2) (HUV.out.2.later hb2) HU.out HD.out (by omega) (by omega)
  have HB2 := Hid.mk' (below_chain HB1.out hb2)
  clear hb2 HB1 HC0 HUV
  go_wp2_with fail
  refine hun.mono ?_
  clear hun hc0
  rintro e w3 ⟨rfl, hb3⟩
  go_wp2_with fail
  go_ret
  exact ⟨rfl, below_chain HB2.out hb3⟩

set_option maxRecDepth 10000 in
set_option maxHeartbeats 2000000 in
theorem LogsGrains_short (den : Int) (ad : Option Addr) (n cap : Nat) (p c : Nat → Int) (a : Nat → Addr) (w : World) (h : Errs w a) (hl : LogAt w (.slice ad n cap) n p c) (hn : n ≤ 30) :
    Calls Tryd.prog 6 #[.agg #[.int .i64 den, .slice ad n cap]] w fun e w' => e = .returned (.bool true) ∧ Below w.heap.size w w' := by
  obtain ⟨ok, hok⟩ := bool_of (OkLog den n p c)
  obtain ⟨fit, hfit⟩ := bool_of (cost p c n ≤ 1250)
  have HOK := Hid.mk' hok
  have HF := Hid.mk' hfit
  clear hok hfit
  have hb0 : Below w.heap.size w (w.alloc (.cells #[.int .i64 den, .slice ad n cap] 39)) := (Below.refl _ _).alloc (Nat.le_refl _) _
  have hst : Stays (w.alloc (.cells #[.int .i64 den, .slice ad n cap] 39)) a den (.slice ad n cap) n p c w.heap.size (w.alloc (.cells #[.int .i64 den, .slice ad n cap] 39)) := ⟨h.below hb0, hl.later hb0, by simp, by simp⟩
  have hE := eighth_any (w.alloc (.cells #[.int .i64 den, .slice ad n cap] 39))
  have HS := Hid.mk' hst
  have HB0 := Hid.mk' hb0
  clear h hl hst hb0
  go_enter Tryd.func6, Tryd.ntmps6
  go_wp2_with fail
  refine hE.mono ?_
  clear hE
  rintro e w1 ⟨rfl, hb1⟩
  have HS1 := Hid.mk' (HS.out.next hb1)
  have c0 := HS1.out.c0
  have c1 := HS1.out.c1
  have HB1 := Hid.mk' (below_chain HB0.out hb1)
  have hsh := short_any den ad n cap true (by simpa using hn) (by unfold maxLen; omega) w1
  clear HS HB0 hb1
  go_wp2_with fail
  refine hsh.mono ?_
  clear hsh c0 c1
  rintro e w2 ⟨rfl, hb2⟩
  have HS2 := Hid.mk' (HS1.out.next hb2)
  have HB2 := Hid.mk' (below_chain HB1.out hb2)
  have c0 := HS2.out.c0
  have c1 := HS2.out.c1
  have hle := LogError_at den _ n ok p c HOK.out w2 HS2.out.log hn
  clear HS1 HB1 hb2
  go_wp2_with fail
  refine hle.mono ?_
  clear hle c0 c1
  rintro e w3 ⟨rfl, hb3⟩
  have HS3 := Hid.mk' (HS2.out.next hb3)
  have HB3 := Hid.mk' (below_chain HB2.out hb3)
  have c0 := HS3.out.c0
  have c1 := HS3.out.c1
  clear HS2 HB2 hb3
  cases ok
  · simp only [shapeCode]
    have how := own_at den _ n p c w3 HS3.out.log hn
    go_wp2_with fail
    refine how.mono ?_
    clear how c0 c1
    rintro e w4 ⟨sv', rfl, hso, hb4⟩
    have HS4 := Hid.mk' (HS3.out.next hb4)
    have HB4 := Hid.mk' (below_chain HB3.out hb4)
    have hsg := Grains_err den sv' n p c a false (by simpa using HOK.out) (fun e => by cases e) w4 HS4.out.errs hso hn
    clear hso hb4 HS3 HB3
    go_wp2_with fail
    refine hsg.mono ?_
    clear hsg
    rintro e w5 ⟨rfl, hb5⟩
    have hcd := coded_pow false false a w5 (HS4.out.next hb5).errs
    simp only [powCode] at hcd
    have HB5 := Hid.mk' (below_chain HB4.out hb5)
    clear hb5 HS4 HB4
    go_wp2_with fail
    refine hcd.mono ?_
    clear hcd
    rintro e w6 ⟨rfl, hb6⟩
    go_wp2_with fail
    go_ret
    exact ⟨rfl, below_chain HB5.out hb6⟩
  · simp only [shapeCode]
    have hokl : OkLog den n p c := HOK.out.1 rfl
    have htg := TooGreat_many den ad n cap p c (!fit) (bool_not HF.out) w3 HS3.out.log hn hokl.2.2.1.bounded
    have HOL := Hid.mk' hokl
    clear hokl
    go_wp2_with fail
    refine htg.mono ?_
    clear htg c0 c1
    rintro e w9 ⟨rfl, hb9⟩
    have HS9 := Hid.mk' (HS3.out.next hb9)
    have HB9 := Hid.mk' (below_chain HB3.out hb9)
    have c0 := HS9.out.c0
    have c1 := HS9.out.c1
    have how := own_at den _ n p c w9 HS9.out.log hn
    clear HS3 HB3 hb9
    cases fit
    · simp only [Bool.not_false]
      go_wp2_with fail
      refine how.mono ?_
      clear how c0 c1
      rintro e w4 ⟨sv', rfl, hso, hb4⟩
      have HS4 := Hid.mk' (HS9.out.next hb4)
      have HB4 := Hid.mk' (below_chain HB9.out hb4)
      have hsg := Grains_err den sv' n p c a true (by simpa using HOK.out) (fun _ h => by have := HF.out.2 h; simp at this) w4 HS4.out.errs hso hn
      clear hso hb4 HS9 HB9
      go_wp2_with fail
      refine hsg.mono ?_
      clear hsg
      rintro e w5 ⟨rfl, hb5⟩
      have hcd := coded_pow true false a w5 (HS4.out.next hb5).errs
      simp only [powCode] at hcd
      have HB5 := Hid.mk' (below_chain HB4.out hb5)
      clear hb5 HS4 HB4
      go_wp2_with fail
      refine hcd.mono ?_
      clear hcd
      rintro e w6 ⟨rfl, hb6⟩
      go_wp2_with fail
      go_ret
      exact ⟨rfl, below_chain HB5.out hb6⟩
    · simp only [Bool.not_true]
      go_wp2_with fail
      refine how.mono ?_
      clear how c0 c1
      rintro e w4 ⟨sv', rfl, hso, hb4⟩
      have HS4 := Hid.mk' (HS9.out.next hb4)
      have HB4 := Hid.mk' (below_chain HB9.out hb4)
      have hsg := Grains_fit den sv' n p c a HOL.out (by simpa using HF.out) w4 HS4.out.errs hso hn
      clear hso hb4 HS9 HB9
      go_wp2_with fail
      refine hsg.mono ?_
      clear hsg
      rintro e w5 ⟨z, rfl, hlog, hz0, hz1, hb5⟩
      have HS5 := Hid.mk' (HS4.out.next hb5)
      have c0 := HS5.out.c0
      have c1 := HS5.out.c1
      have HB5 := Hid.mk' (below_chain HB4.out hb5)
      have hig := IsGrains_true den z ad n cap p c w5 HS5.out.log hn HOL.out.2.2.1.bounded (by simpa using HF.out) HOL.out.1 HOL.out.2.1 hlog hz0 hz1
      generalize z / den = g at hig
      clear hb5 HS4 HB4 hlog
      go_wp2_with fail
      refine hig.mono ?_
      clear hig
      rintro e w6 ⟨rfl, hb6⟩
      go_wp2_with fail
      go_ret
      exact ⟨rfl, below_chain HB5.out hb6⟩

set_option maxRecDepth 10000 in
set_option maxHeartbeats 2000000 in
theorem LogsGrains_long (den : Int) (ad : Option Addr) (n cap : Nat) (w : World) (hn : ¬ n ≤ 30) (hm : n ≤ maxLen) :
    Calls Tryd.prog 6 #[.agg #[.int .i64 den, .slice ad n cap]] w fun e w' => e = .returned (.bool true) ∧ Below w.heap.size w w' := by
  have hb0 : Below w.heap.size w (w.alloc (.cells #[.int .i64 den, .slice ad n cap] 39)) := (Below.refl _ _).alloc (Nat.le_refl _) _
  have hE := eighth_any (w.alloc (.cells #[.int .i64 den, .slice ad n cap] 39))
  have HB0 := Hid.mk' hb0
  clear hb0
  go_enter Tryd.func6, Tryd.ntmps6
  go_wp2_with fail
  refine hE.mono ?_
  clear hE
  rintro e w1 ⟨rfl, hb1⟩
  have c0 := hb1.cell (p := ⟨w.heap.size, 0, none⟩) (by simp)
  have c1 := hb1.cell (p := ⟨w.heap.size, 1, none⟩) (by simp)
  simp at c0 c1
  have HB1 := Hid.mk' (below_chain HB0.out hb1)
  have hsh := short_any den ad n cap false (by simpa using hn) hm w1
  clear HB0 hb1
  go_wp2_with fail
  refine hsh.mono ?_
  clear hsh c0 c1
  rintro e w2 ⟨rfl, hb2⟩
  go_wp2_with fail
  go_ret
  exact ⟨rfl, below_chain HB1.out hb2⟩
end Go.Proofs.YtiecbconcdncmaaDoor
