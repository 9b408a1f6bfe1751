/- The law PrefixValid. -/
import Derived.Test.YtcigmihfannmjaaGreatDoorWordsA
import Derived.Test.YtcigmihfannmjaaGreatDoorWordsD
import Derived.Test.YtcigmihfannmjaaGreatDoorCodedV
namespace Go.Proofs.YtcigmihfannmjaaGreatDoor
open Go.RowKit

set_option maxRecDepth 100000 in
set_option maxHeartbeats 4000000 in
theorem PrefixValid_all (a : Nat → Addr) (ad : Option Addr) (n cap : Nat) (f : Nat → ByteArray) (w : World) (hE : Errs w a) (hd : w.cell? ⟨14, 1, none⟩ = some (.int .u8 1)) (h : TxtAt w ad n f) (hm : n ≤ maxLen) (hl : ∀ i, i < n → (f i).size ≤ maxLen) :
    Calls Tryz.prog 3 #[.slice ad n cap] w fun e w' => e = .returned (.bool true) ∧ Below w.heap.size w w' := by
  have hH := halves_any a w hE hd
  have HSO := Hid.mk' (fun (W : World) (hb : Below w.heap.size w W) => some_any ad cap n f W (h.later hb) hm)
  have HWE : Hid (n ≤ 40 → ∀ W, Below w.heap.size w W → Calls Tryz.prog 8 #[.slice ad n cap] W fun e w' => e = .returned (.int .i64 (wdErr n f : Nat)) ∧ Below W.heap.size W w') := fun h40 W hb => WordsError_any ad cap n f W (h.later hb) (by omega) (fun i hi => by have := hl i hi; unfold maxLen at this; omega)
  have HST : Hid (n ≤ 40 → ∀ W, Below w.heap.size w W → Calls Tryz.prog 10 #[.slice ad n cap] W fun e w' => ∃ ad' cap', e = .returned (.slice ad' n cap') ∧ TxtAt w' ad' n f ∧ Below W.heap.size W w') := fun h40 W hb => strs_any ad cap n f W (h.later hb) (by omega)
  have HIP : Hid (n ≤ 40 → ∀ W, Below w.heap.size w W → Calls Tryz.prog 11 #[.slice ad n cap] W fun e w' => e = .returned (.bool (apB f n)) ∧ Below W.heap.size W w') := fun h40 W hb => IsPrefix_any ad cap n f (apB f n) W (apB_iff f n) (by omega) (h.later hb)
  have HPR : Hid (n ≤ 40 → ∀ W ad' cap', Below w.heap.size w W → TxtAt W ad' n f → Calls Tryz.prog 9 #[.slice ad' n cap'] W fun e w' => e = .returned (.tuple #[.bool (preB n f), errV a (wdErr n f)]) ∧ Below W.heap.size W w') := fun h40 W ad' cap' hb ht => Prefix_any a ad' cap' n f W (hE.below hb) ht (by omega)
  have HVA : Hid (n ≤ 40 → ∀ W ad' cap', Below w.heap.size w W → TxtAt W ad' n f → Calls Tryz.prog 13 #[.slice ad' n cap'] W fun e w' => e = .returned (errV a (wdErr n f)) ∧ Below W.heap.size W w') := fun h40 W ad' cap' hb ht => Valid_any a ad' cap' n f W (hE.below hb) ht (by omega)
  have hle := wdErr_le n f
  have HCD : Hid (∀ W, Below w.heap.size w W → Calls Tryz.prog 12 #[errV a (wdErr n f), .int .i64 (wdErr n f : Int)] W fun e w' => e = .returned (.bool true) ∧ Below W.heap.size W w') := fun W hb => coded_errV a _ hle W (hE.below hb)
  have HPB : Hid (preB n f = (wdErr n f == 0 && apB f n)) := rfl
  clear hE hd h hl
  generalize preB n f = pb at *
  generalize apB f n = ab at *
  generalize wdErr n f = c at *
  generalize errV a c = ec at *
  go_enter Tryz.func3, Tryz.ntmps3
  go_wp2_with fail
  refine hH.mono ?_
  rintro e w1 ⟨rfl, hb1⟩
  have HB1 := Hid.mk' hb1
  clear hb1 hH
  go_wp2_with fail
  refine (HSO.out w1 HB1.out).mono ?_
  rintro e w2 ⟨hs, hw2⟩
  rw [hw2]
  clear hw2
  unfold SomeAt at hs
  obtain ⟨r, rfl, hr⟩ := hs
  cases r with
  | false =>
    clear hr
    go_wp2_with fail
    go_ret
    exact ⟨rfl, HB1.out⟩
  | true =>
    have h40 := hr rfl
    have HWE := Hid.mk' (HWE.out h40)
    have HST := Hid.mk' (HST.out h40)
    have HIP := Hid.mk' (HIP.out h40)
    have HPR := Hid.mk' (HPR.out h40)
    have HVA := Hid.mk' (HVA.out h40)
    clear hr HSO
    go_wp2_with fail
    refine (HWE.out w1 HB1.out).mono ?_
    rintro e w3 ⟨rfl, hb3⟩
    have HB3 := Hid.mk' (below_chain HB1.out hb3)
    clear hb3
    go_wp2_with fail
    refine (HST.out w3 HB3.out).mono ?_
    rintro e w4 ⟨ad4, cap4, rfl, ht4, hb4⟩
    have HB4 := Hid.mk' (below_chain HB3.out hb4)
    have HT4 := Hid.mk' ht4
    clear hb4 ht4
    go_wp2_with fail
    refine (HPR.out w4 ad4 cap4 HB4.out HT4.out).mono ?_
    rintro e w5 ⟨rfl, hb5⟩
    have HB5 := Hid.mk' (below_chain HB4.out hb5)
    clear hb5
    by_cases hc : c = 0
    · subst hc
      have HPE : Hid (pb = ab) := by show _ = _; rw [HPB.out]; simp
      rw [HPE.out]
      clear HPB HPE
      go_wp2_with fail
      refine (HIP.out w5 HB5.out).mono ?_
      rintro e w6 ⟨rfl, hb6⟩
      have HB6 := Hid.mk' (below_chain HB5.out hb6)
      clear hb6
      go_wp2_with fail
      refine (HST.out w6 HB6.out).mono ?_
      rintro e w7 ⟨ad7, cap7, rfl, ht7, hb7⟩
      have HB7 := Hid.mk' (below_chain HB6.out hb7)
      have HT7 := Hid.mk' ht7
      clear hb7 ht7
      go_wp2_with fail
      refine (HVA.out w7 ad7 cap7 HB7.out HT7.out).mono ?_
      rintro e w8 ⟨rfl, hb8⟩
      have HB8 := Hid.mk' (below_chain HB7.out hb8)
      clear hb8
      go_wp2_with fail
      refine (HCD.out w8 HB8.out).mono ?_
      rintro e w9 ⟨rfl, hb9⟩
      have HB9 := Hid.mk' (below_chain HB8.out hb9)
      clear hb9
      go_wp2_with fail
      refine (HCD.out w9 HB9.out).mono ?_
      rintro e w10 ⟨rfl, hb10⟩
      have HB10 := Hid.mk' (below_chain HB9.out hb10)
      clear hb10
      go_wp2_with fail
      go_ret
      exact ⟨ret_bool2 (by simp), HB10.out⟩
    · have hcI : ((c : Int) == 0) = false := by rw [beq_eq_false_iff_ne]; omega
      have HPE : Hid (pb = false) := by show _ = _; rw [HPB.out, beq_eq_false_iff_ne.2 hc]; rfl
      rw [HPE.out]
      clear HPB HPE hc
      go_wp2_with fail
      refine (HST.out w5 HB5.out).mono ?_
      rintro e w7 ⟨ad7, cap7, rfl, ht7, hb7⟩
      have HB7 := Hid.mk' (below_chain HB5.out hb7)
      have HT7 := Hid.mk' ht7
      clear hb7 ht7
      go_wp2_with fail
      refine (HVA.out w7 ad7 cap7 HB7.out HT7.out).mono ?_
      rintro e w8 ⟨rfl, hb8⟩
      have HB8 := Hid.mk' (below_chain HB7.out hb8)
      clear hb8
      go_wp2_with fail
      refine (HCD.out w8 HB8.out).mono ?_
      rintro e w9 ⟨rfl, hb9⟩
      have HB9 := Hid.mk' (below_chain HB8.out hb9)
      clear hb9
      go_wp2_with fail
      refine (HCD.out w9 HB9.out).mono ?_
      rintro e w10 ⟨rfl, hb10⟩
      have HB10 := Hid.mk' (below_chain HB9.out hb10)
      clear hb10
      go_wp2_with fail
      go_ret
      exact ⟨rfl, HB10.out⟩
end Go.Proofs.YtcigmihfannmjaaGreatDoor
