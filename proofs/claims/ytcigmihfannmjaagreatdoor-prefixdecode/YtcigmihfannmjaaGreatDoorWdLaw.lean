/- The law PrefixDecode. -/
import Derived.Test.YtcigmihfannmjaaGreatDoorDecD
import Derived.Test.YtcigmihfannmjaaGreatDoorWordsD
import Derived.Test.YtcigmihfannmjaaGreatDoorCodedV
import Derived.Test.YtcigmihfannmjaaGreatDoorSameN
namespace Go.Proofs.YtcigmihfannmjaaGreatDoor
open Go.RowKit

set_option maxRecDepth 100000 in
set_option maxHeartbeats 16000000 in
theorem PrefixDecode_all (a : Nat → Addr) (ad : Option Addr) (n cap : Nat) (f : Nat → ByteArray) (T : ByteArray) (w : World) (hE : Errs w a) (hd : w.cell? ⟨14, 1, none⟩ = some (.int .u8 1)) (h : TxtAt w ad n f) (hm : n ≤ maxLen) (hl : ∀ i, i < n → (f i).size ≤ maxLen) (hx : T.size ≤ maxLen) :
    Calls Tryz.prog 5 #[.slice ad n cap, .string T] w fun e w' => e = .returned (.bool true) ∧ Below w.heap.size w w' := by
  have hH := halves_any a w hE hd
  have HSO := Hid.mk' (fun (W : World) (hb : Below w.heap.size w W) => some_any ad cap n f W (h.later hb) hm)
  have HWE : Hid (n ≤ 40 → ∀ W, Below w.heap.size w W → Calls Tryz.prog 8 #[.slice ad n cap] W fun e w' => e = .returned (.int .i64 (wdErr n f : Nat)) ∧ Below W.heap.size W w') := fun h40 W hb => WordsError_any ad cap n f W (h.later hb) (by omega) (fun i hi => by have := hl i hi; unfold maxLen at this; omega)
  have HST : Hid (n ≤ 40 → ∀ W, Below w.heap.size w W → Calls Tryz.prog 10 #[.slice ad n cap] W fun e w' => ∃ ad' cap', e = .returned (.slice ad' n cap') ∧ TxtAt w' ad' n f ∧ Below W.heap.size W w') := fun h40 W hb => strs_any ad cap n f W (h.later hb) (by omega)
  have HIP : Hid (n ≤ 40 → ∀ W, Below w.heap.size w W → Calls Tryz.prog 11 #[.slice ad n cap] W fun e w' => e = .returned (.bool (apB f n)) ∧ Below W.heap.size W w') := fun h40 W hb => IsPrefix_any ad cap n f (apB f n) W (apB_iff f n) (by omega) (h.later hb)
  have HDW := Hid.mk' (fun (W : World) (ad' : Option Addr) (cap' : Nat) (hb : Below w.heap.size w W) (ht : TxtAt W ad' n f) (hc : wdErr n f ≠ 0) (h40 : n ≤ 40) => Decode_words a ad' cap' n f T W (hE.below hb) ht (by omega) hc)
  have HDK := Hid.mk' (fun (W : World) (ad' : Option Addr) (cap' : Nat) (hb : Below w.heap.size w W) (ht : TxtAt W ad' n f) (hc : wdErr n f = 0) (hap : apB f n = false) (h40 : n ≤ 40) => Decode_kind a ad' cap' n f T W (hE.below hb) ht (by omega) hc hap)
  have HDL := Hid.mk' (fun (W : World) (ad' : Option Addr) (cap' : Nat) (hb : Below w.heap.size w W) (ht : TxtAt W ad' n f) (hc : wdErr n f = 0) (hap : apB f n = true) (hT : 4000 < T.size) (h40 : n ≤ 40) => Decode_long a ad' cap' n f T W (hE.below hb) ht (by omega) hc hap hT)
  have HDR := Hid.mk' (fun (J : Nat) (ok : Bool) (W : World) (ad' : Option Addr) (cap' : Nat) (hb : Below w.heap.size w W) (ht : TxtAt W ad' n f) (hc : wdErr n f = 0) (hap : apB f n = true) (hT : T.size ≤ 4000) (hJ : EndsD f T n J ok) => Decode_read a ad' cap' n f T J ok W (hE.below hb) ht hc hap hT hJ)
  have HDO := Hid.mk' (fun (J : Nat) (ok : Bool) (W : World) (hb : Below w.heap.size w W) (hc : wdErr n f = 0) (hT : T.size ≤ 4000) (hJ : EndsD f T n J ok) => DecodeOf_any ad cap n f T J ok W (h.later hb) (wdErr_ok hc).1 (wdErr_ok hc).2.1 (fun i hi => ((wdErr_ok hc).2.2 i hi).2.2) (fun i hi => ((wdErr_ok hc).2.2 i hi).1) hT hJ)
  have HEX : Hid (wdErr n f = 0 → ∃ J ok, EndsD f T n J ok) := fun hc => ends_is (fun i hi => ((wdErr_ok hc).2.2 i hi).2.2)
  have HSH : Hid (wdErr n f = 0 → ∀ J ok, EndsD f T n J ok → J ≤ T.size) := fun hc J ok hJ => ends_short (fun i hi => ((wdErr_ok hc).2.2 i hi).2.2) hJ
  have HCC : Hid (∀ W, Below w.heap.size w W → Calls Tryz.prog 12 #[errV a (wdErr n f), .int .i64 (wdErr n f : Int)] W fun e w' => e = .returned (.bool true) ∧ Below W.heap.size W w') := fun W hb => coded_errV a _ (wdErr_le n f) W (hE.below hb)
  have HC8 : Hid (∀ W, Below w.heap.size w W → Calls Tryz.prog 12 #[errV a 8, .int .i64 8] W fun e w' => e = .returned (.bool true) ∧ Below W.heap.size W w') := fun W hb => coded_errV a 8 (by omega) W (hE.below hb)
  have HC2 : Hid (∀ W, Below w.heap.size w W → Calls Tryz.prog 12 #[errV a 2, .int .i64 2] W fun e w' => e = .returned (.bool true) ∧ Below W.heap.size W w') := fun W hb => coded_errV a 2 (by omega) W (hE.below hb)
  have HC1 : Hid (∀ W, Below w.heap.size w W → Calls Tryz.prog 12 #[errV a (decOut false), .int .i64 1] W fun e w' => e = .returned (.bool true) ∧ Below W.heap.size W w') := fun W hb => coded_errV a 1 (by omega) W (hE.below hb)
  have HC0 : Hid (∀ W, Below w.heap.size w W → Calls Tryz.prog 12 #[errV a (decOut true), .int .i64 0] W fun e w' => e = .returned (.bool true) ∧ Below W.heap.size W w') := fun W hb => coded_errV a 0 (by omega) W (hE.below hb)
  have hle := wdErr_le n f
  clear hE hd h hl
  unfold maxLen at hx
  rcases (show T.size ≤ 1000 ∨ (1000 < T.size ∧ T.size ≤ 4000) ∨ 4000 < T.size by omega) with hz | ⟨hz, hz2⟩ | hz
  · have hzI : (T.size : Int) ≤ 1000 := by omega
    go_enter Tryz.func5, Tryz.ntmps5
    go_wp2_with fail
    refine hH.mono ?_
    rintro e w1 ⟨rfl, hb1⟩
    have HB1 := Hid.mk' hb1
    clear hb1 hH
    go_wp2_with fail
    refine (HSO.out w1 HB1.out).mono ?_
    rintro e w2 ⟨hs, hw2⟩
    rw [hw2]
    clear hw2
    unfold SomeAt at hs
    obtain ⟨r, rfl, hr⟩ := hs
    cases r with
    | false =>
      clear hr
      go_wp2_with fail
      go_ret
      exact ⟨rfl, HB1.out⟩
    | true =>
      have h40 := hr rfl
      clear hr
      have HWE := Hid.mk' (HWE.out h40)
      have HST := Hid.mk' (HST.out h40)
      have HIP := Hid.mk' (HIP.out h40)
      go_wp2_with fail
      refine (HWE.out w1 HB1.out).mono ?_
      rintro e w3 ⟨rfl, hb3⟩
      have HB3 := Hid.mk' (below_chain HB1.out hb3)
      clear hb3
      by_cases hc : wdErr n f = 0
      · have HP := Hid.mk' hc
        rw [hc]
        clear hc
        cases hap : apB f n with
        | false =>
          rw [hap] at HIP
          go_wp2_with fail
          refine (HIP.out w3 HB3.out).mono ?_
          rintro e w4 ⟨rfl, hb4⟩
          have HB4 := Hid.mk' (below_chain HB3.out hb4)
          clear hb4
          go_wp2_with fail
          refine (HST.out w4 HB4.out).mono ?_
          rintro e w5 ⟨ad5, cap5, rfl, ht5, hb5⟩
          have HB5 := Hid.mk' (below_chain HB4.out hb5)
          have HT5 := Hid.mk' ht5
          clear hb5 ht5
          go_wp2_with fail
          refine (HDK.out w5 ad5 cap5 HB5.out HT5.out HP.out hap h40).mono ?_
          rintro e w6 ⟨rfl, hb6⟩
          have HB6 := Hid.mk' (below_chain HB5.out hb6)
          clear hb6
          go_wp2_with fail
          refine (HC8.out w6 HB6.out).mono ?_
          rintro e w7 ⟨rfl, hb7⟩
          have HB7 := Hid.mk' (below_chain HB6.out hb7)
          clear hb7
          go_wp2_with fail
          refine (SameInts_any (.slice none 0 0) (.slice none 0 0) 0 (fun _ => 0) w7 (Or.inl ⟨_, _, rfl, rfl⟩) (Or.inl ⟨_, _, rfl, rfl⟩) (by omega)).mono ?_
          rintro e w8 ⟨rfl, hb8⟩
          have HB8 := Hid.mk' (below_chain HB7.out hb8)
          clear hb8
          go_wp2_with fail
          go_ret
          exact ⟨rfl, HB8.out⟩
        | true =>
          rw [hap] at HIP
          go_wp2_with fail
          refine (HIP.out w3 HB3.out).mono ?_
          rintro e w4 ⟨rfl, hb4⟩
          have HB4 := Hid.mk' (below_chain HB3.out hb4)
          clear hb4
          obtain ⟨J, ok, hJ⟩ := HEX.out HP.out
          have hJ4 : J ≤ 1000000 := by have := HSH.out HP.out J ok hJ; omega
          have hdo := HDO.out J ok w4 HB4.out HP.out (by omega) hJ
          have HDR := Hid.mk' (fun (W : World) (ad' : Option Addr) (cap' : Nat) (hb : Below w.heap.size w W) (ht : TxtAt W ad' n f) => HDR.out J ok W ad' cap' hb ht HP.out hap (by omega) hJ)
          have HLO : Hid (lenOut ok J ≤ 1000000) := by show _ ≤ _; unfold lenOut; split <;> omega
          clear hJ
          cases ok with
          | false =>
            go_wp2_with fail
            refine hdo.mono ?_
            rintro e w9 ⟨v9, rfl, hv9, hb9⟩
            have HB9 := Hid.mk' (below_chain HB4.out hb9)
            have HV9 := Hid.mk' hv9
            clear hb9 hv9 hdo
            go_wp2_with fail
            refine (HST.out w9 HB9.out).mono ?_
            rintro e w5 ⟨ad5, cap5, rfl, ht5, hb5⟩
            have HB5 := Hid.mk' (below_chain HB9.out hb5)
            have HT5 := Hid.mk' ht5
            have HV5 := Hid.mk' (HV9.out.later hb5)
            clear hb5 ht5
            go_wp2_with fail
            refine (HDR.out w5 ad5 cap5 HB5.out HT5.out).mono ?_
            rintro e w6 ⟨v6, rfl, hv6, hb6⟩
            have HB6 := Hid.mk' (below_chain HB5.out hb6)
            have HV6 := Hid.mk' hv6
            have HV7 := Hid.mk' (HV5.out.later hb6)
            clear hb6 hv6
            go_wp2_with fail
            refine (HC1.out w6 HB6.out).mono ?_
            rintro e w7 ⟨rfl, hb7⟩
            have HB7 := Hid.mk' (below_chain HB6.out hb7)
            have HV8 := Hid.mk' (HV7.out.later hb7)
            have HV10 := Hid.mk' (HV6.out.later hb7)
            clear hb7
            go_wp2_with fail
            refine (SameInts_any _ _ _ _ w7 HV10.out HV8.out HLO.out).mono ?_
            rintro e w8 ⟨rfl, hb8⟩
            have HB8 := Hid.mk' (below_chain HB7.out hb8)
            clear hb8
            go_wp2_with fail
            go_ret
            exact ⟨rfl, HB8.out⟩
          | true =>
            go_wp2_with fail
            refine hdo.mono ?_
            rintro e w9 ⟨v9, rfl, hv9, hb9⟩
            have HB9 := Hid.mk' (below_chain HB4.out hb9)
            have HV9 := Hid.mk' hv9
            clear hb9 hv9 hdo
            go_wp2_with fail
            refine (HST.out w9 HB9.out).mono ?_
            rintro e w5 ⟨ad5, cap5, rfl, ht5, hb5⟩
            have HB5 := Hid.mk' (below_chain HB9.out hb5)
            have HT5 := Hid.mk' ht5
            have HV5 := Hid.mk' (HV9.out.later hb5)
            clear hb5 ht5
            go_wp2_with fail
            refine (HDR.out w5 ad5 cap5 HB5.out HT5.out).mono ?_
            rintro e w6 ⟨v6, rfl, hv6, hb6⟩
            have HB6 := Hid.mk' (below_chain HB5.out hb6)
            have HV6 := Hid.mk' hv6
            have HV7 := Hid.mk' (HV5.out.later hb6)
            clear hb6 hv6
            go_wp2_with fail
            refine (HC0.out w6 HB6.out).mono ?_
            rintro e w7 ⟨rfl, hb7⟩
            have HB7 := Hid.mk' (below_chain HB6.out hb7)
            have HV8 := Hid.mk' (HV7.out.later hb7)
            have HV10 := Hid.mk' (HV6.out.later hb7)
            clear hb7
            go_wp2_with fail
            refine (SameInts_any _ _ _ _ w7 HV10.out HV8.out HLO.out).mono ?_
            rintro e w8 ⟨rfl, hb8⟩
            have HB8 := Hid.mk' (below_chain HB7.out hb8)
            clear hb8
            go_wp2_with fail
            go_ret
            exact ⟨rfl, HB8.out⟩
      · have hcI : ((wdErr n f : Int) == 0) = false := by rw [beq_eq_false_iff_ne]; omega
        have HD := Hid.mk' (fun (W : World) (ad5 : Option Addr) (cap5 : Nat) (hb : Below w.heap.size w W) (ht : TxtAt W ad5 n f) => HDW.out W ad5 cap5 hb ht hc h40)
        clear hc
        generalize wdErr n f = c at *
        generalize errV a c = ec at *
        go_wp2_with fail
        refine (HST.out w3 HB3.out).mono ?_
        rintro e w5 ⟨ad5, cap5, rfl, ht5, hb5⟩
        have HB5 := Hid.mk' (below_chain HB3.out hb5)
        have HT5 := Hid.mk' ht5
        clear hb5 ht5
        go_wp2_with fail
        refine (HD.out w5 ad5 cap5 HB5.out HT5.out).mono ?_
        rintro e w6 ⟨rfl, hb6⟩
        have HB6 := Hid.mk' (below_chain HB5.out hb6)
        clear hb6
        go_wp2_with fail
        refine (HCC.out w6 HB6.out).mono ?_
        rintro e w7 ⟨rfl, hb7⟩
        have HB7 := Hid.mk' (below_chain HB6.out hb7)
        clear hb7
        go_wp2_with fail
        refine (SameInts_any (.slice none 0 0) (.slice none 0 0) 0 (fun _ => 0) w7 (Or.inl ⟨_, _, rfl, rfl⟩) (Or.inl ⟨_, _, rfl, rfl⟩) (by omega)).mono ?_
        rintro e w8 ⟨rfl, hb8⟩
        have HB8 := Hid.mk' (below_chain HB7.out hb8)
        clear hb8
        go_wp2_with fail
        go_ret
        exact ⟨rfl, HB8.out⟩
  · have hzI : (1000 : Int) < (T.size : Int) := by omega
    have hzI2 : (T.size : Int) ≤ 4000 := by omega
    go_enter Tryz.func5, Tryz.ntmps5
    go_wp2_with fail
    refine hH.mono ?_
    rintro e w1 ⟨rfl, hb1⟩
    have HB1 := Hid.mk' hb1
    clear hb1 hH
    go_wp2_with fail
    refine (HSO.out w1 HB1.out).mono ?_
    rintro e w2 ⟨hs, hw2⟩
    rw [hw2]
    clear hw2
    unfold SomeAt at hs
    obtain ⟨r, rfl, hr⟩ := hs
    cases r with
    | false =>
      clear hr
      go_wp2_with fail
      go_ret
      exact ⟨rfl, HB1.out⟩
    | true =>
      have h40 := hr rfl
      clear hr
      go_wp2_with fail
      go_ret
      exact ⟨rfl, HB1.out⟩
  · have hzI : (4000 : Int) < (T.size : Int) := by omega
    go_enter Tryz.func5, Tryz.ntmps5
    go_wp2_with fail
    refine hH.mono ?_
    rintro e w1 ⟨rfl, hb1⟩
    have HB1 := Hid.mk' hb1
    clear hb1 hH
    go_wp2_with fail
    refine (HSO.out w1 HB1.out).mono ?_
    rintro e w2 ⟨hs, hw2⟩
    rw [hw2]
    clear hw2
    unfold SomeAt at hs
    obtain ⟨r, rfl, hr⟩ := hs
    cases r with
    | false =>
      clear hr
      go_wp2_with fail
      go_ret
      exact ⟨rfl, HB1.out⟩
    | true =>
      have h40 := hr rfl
      clear hr
      have HWE := Hid.mk' (HWE.out h40)
      have HST := Hid.mk' (HST.out h40)
      have HIP := Hid.mk' (HIP.out h40)
      go_wp2_with fail
      refine (HWE.out w1 HB1.out).mono ?_
      rintro e w3 ⟨rfl, hb3⟩
      have HB3 := Hid.mk' (below_chain HB1.out hb3)
      clear hb3
      by_cases hc : wdErr n f = 0
      · have HP := Hid.mk' hc
        rw [hc]
        clear hc
        cases hap : apB f n with
        | false =>
          rw [hap] at HIP
          go_wp2_with fail
          refine (HIP.out w3 HB3.out).mono ?_
          rintro e w4 ⟨rfl, hb4⟩
          have HB4 := Hid.mk' (below_chain HB3.out hb4)
          clear hb4
          go_wp2_with fail
          refine (HST.out w4 HB4.out).mono ?_
          rintro e w5 ⟨ad5, cap5, rfl, ht5, hb5⟩
          have HB5 := Hid.mk' (below_chain HB4.out hb5)
          have HT5 := Hid.mk' ht5
          clear hb5 ht5
          go_wp2_with fail
          refine (HDK.out w5 ad5 cap5 HB5.out HT5.out HP.out hap h40).mono ?_
          rintro e w6 ⟨rfl, hb6⟩
          have HB6 := Hid.mk' (below_chain HB5.out hb6)
          clear hb6
          go_wp2_with fail
          refine (HC8.out w6 HB6.out).mono ?_
          rintro e w7 ⟨rfl, hb7⟩
          have HB7 := Hid.mk' (below_chain HB6.out hb7)
          clear hb7
          go_wp2_with fail
          refine (SameInts_any (.slice none 0 0) (.slice none 0 0) 0 (fun _ => 0) w7 (Or.inl ⟨_, _, rfl, rfl⟩) (Or.inl ⟨_, _, rfl, rfl⟩) (by omega)).mono ?_
          rintro e w8 ⟨rfl, hb8⟩
          have HB8 := Hid.mk' (below_chain HB7.out hb8)
          clear hb8
          go_wp2_with fail
          go_ret
          exact ⟨rfl, HB8.out⟩
        | true =>
          rw [hap] at HIP
          go_wp2_with fail
          refine (HIP.out w3 HB3.out).mono ?_
          rintro e w4 ⟨rfl, hb4⟩
          have HB4 := Hid.mk' (below_chain HB3.out hb4)
          clear hb4
          go_wp2_with fail
          refine (HST.out w4 HB4.out).mono ?_
          rintro e w5 ⟨ad5, cap5, rfl, ht5, hb5⟩
          have HB5 := Hid.mk' (below_chain HB4.out hb5)
          have HT5 := Hid.mk' ht5
          clear hb5 ht5
          go_wp2_with fail
          refine (HDL.out w5 ad5 cap5 HB5.out HT5.out HP.out hap hz h40).mono ?_
          rintro e w6 ⟨rfl, hb6⟩
          have HB6 := Hid.mk' (below_chain HB5.out hb6)
          clear hb6
          go_wp2_with fail
          refine (HC2.out w6 HB6.out).mono ?_
          rintro e w7 ⟨rfl, hb7⟩
          have HB7 := Hid.mk' (below_chain HB6.out hb7)
          clear hb7
          go_wp2_with fail
          refine (SameInts_any (.slice none 0 0) (.slice none 0 0) 0 (fun _ => 0) w7 (Or.inl ⟨_, _, rfl, rfl⟩) (Or.inl ⟨_, _, rfl, rfl⟩) (by omega)).mono ?_
          rintro e w8 ⟨rfl, hb8⟩
          have HB8 := Hid.mk' (below_chain HB7.out hb8)
          clear hb8
          go_wp2_with fail
          go_ret
          exact ⟨rfl, HB8.out⟩
      · have hcI : ((wdErr n f : Int) == 0) = false := by rw [beq_eq_false_iff_ne]; omega
        have HD := Hid.mk' (fun (W : World) (ad5 : Option Addr) (cap5 : Nat) (hb : Below w.heap.size w W) (ht : TxtAt W ad5 n f) => HDW.out W ad5 cap5 hb ht hc h40)
        clear hc
        generalize wdErr n f = c at *
        generalize errV a c = ec at *
        go_wp2_with fail
        refine (HST.out w3 HB3.out).mono ?_
        rintro e w5 ⟨ad5, cap5, rfl, ht5, hb5⟩
        have HB5 := Hid.mk' (below_chain HB3.out hb5)
        have HT5 := Hid.mk' ht5
        clear hb5 ht5
        go_wp2_with fail
        refine (HD.out w5 ad5 cap5 HB5.out HT5.out).mono ?_
        rintro e w6 ⟨rfl, hb6⟩
        have HB6 := Hid.mk' (below_chain HB5.out hb6)
        clear hb6
        go_wp2_with fail
        refine (HCC.out w6 HB6.out).mono ?_
        rintro e w7 ⟨rfl, hb7⟩
        have HB7 := Hid.mk' (below_chain HB6.out hb7)
        clear hb7
        go_wp2_with fail
        refine (SameInts_any (.slice none 0 0) (.slice none 0 0) 0 (fun _ => 0) w7 (Or.inl ⟨_, _, rfl, rfl⟩) (Or.inl ⟨_, _, rfl, rfl⟩) (by omega)).mono ?_
        rintro e w8 ⟨rfl, hb8⟩
        have HB8 := Hid.mk' (below_chain HB7.out hb8)
        clear hb8
        go_wp2_with fail
        go_ret
        exact ⟨rfl, HB8.out⟩
end Go.Proofs.YtcigmihfannmjaaGreatDoor
