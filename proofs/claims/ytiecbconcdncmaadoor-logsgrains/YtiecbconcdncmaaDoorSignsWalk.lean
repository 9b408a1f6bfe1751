/- demonlaw1.LogsSigns walked. -/
import Derived.Test.YtiecbconcdncmaaDoorPowers
namespace Go.Proofs.YtiecbconcdncmaaDoor
open Go.RowKit Go.Maps

theorem Stays.next {w0 W : World} {a : Nat → Addr} {den : Int} {sv : Value} {n : Nat} {p c : Nat → Int} {B : Nat} (h : Stays w0 a den sv n p c B w0) (hb : Below w0.heap.size w0 W) : Stays W a den sv n p c B W :=
  have S := h.of hb
  ⟨S.errs, S.log, S.c0, S.c1⟩

theorem coded_pow (ok fit : Bool) (a : Nat → Addr) (w : World) (h : Errs w a) :
    Calls Tryd.prog 10 #[powErr ok fit a, .int .i64 (powCode ok fit)] w fun e w' => e = .returned (.bool true) ∧ Below w.heap.size w w' := by
  cases ok
  · exact coded_err a 2 (by decide) 3 w h
  · cases fit
    · exact coded_err a 1 (by decide) 2 w h
    · exact (coded_nil 0 w).mono fun e w' ⟨he, hw⟩ => ⟨he, by rw [hw]; exact Below.refl _ _⟩

theorem bool_of (P : Prop) : ∃ b : Bool, b = true ↔ P := by
  by_cases h : P
  · exact ⟨true, ⟨fun _ => h, fun _ => rfl⟩⟩
  · exact ⟨false, ⟨(fun e => by cases e), (fun e => absurd e h)⟩⟩
theorem bool_not {b : Bool} {x y : Nat} (h : b = true ↔ x ≤ y) : (!b) = true ↔ y < x := by
  rcases Nat.lt_or_ge y x with h' | h'
  · have hb : b = false := not_true_of h (by omega)
    subst hb
    exact ⟨fun _ => h', fun _ => rfl⟩
  · have hb : b = true := h.2 h'
    subst hb
    exact ⟨(fun e => by cases e), (fun e => by omega)⟩

set_option maxRecDepth 10000 in
set_option maxHeartbeats 2000000 in
theorem LogsSigns_short (den : Int) (ad : Option Addr) (n cap : Nat) (p c : Nat → Int) (a : Nat → Addr) (w : World) (h : Errs w a) (hl : LogAt w (.slice ad n cap) n p c) (hn : n ≤ 30) :
    Calls Tryd.prog 5 #[.agg #[.int .i64 den, .slice ad n cap]] w fun e w' => e = .returned (.bool true) ∧ Below w.heap.size w w' := by
  obtain ⟨ok, hok⟩ := bool_of (OkLog den n p c)
  obtain ⟨fit, hfit⟩ := bool_of (cost p c n ≤ 40000)
  have HOK := Hid.mk' hok
  have HF := Hid.mk' hfit
  clear hok hfit
  have hb0 : Below w.heap.size w (w.alloc (.cells #[.int .i64 den, .slice ad n cap] 39)) := (Below.refl _ _).alloc (Nat.le_refl _) _
  have hst : Stays (w.alloc (.cells #[.int .i64 den, .slice ad n cap] 39)) a den (.slice ad n cap) n p c w.heap.size (w.alloc (.cells #[.int .i64 den, .slice ad n cap] 39)) := ⟨h.below hb0, hl.later hb0, by simp, by simp⟩
  have hE := eighth_any (w.alloc (.cells #[.int .i64 den, .slice ad n cap] 39))
  have HS := Hid.mk' hst
  have HB0 := Hid.mk' hb0
  clear h hl hst hb0
  go_enter Tryd.func5, Tryd.ntmps5
  go_wp2_with fail
  refine hE.mono ?_
  clear hE
  rintro e w1 ⟨rfl, hb1⟩
  have HS1 := Hid.mk' (HS.out.next hb1)
  have c0 := HS1.out.c0
  have c1 := HS1.out.c1
  have HB1 := Hid.mk' (below_chain HB0.out hb1)
  have hsh := short_any den ad n cap true (by simpa using hn) (by unfold maxLen; omega) w1
  clear HS HB0 hb1
  go_wp2_with fail
  refine hsh.mono ?_
  clear hsh c0 c1
  rintro e w2 ⟨rfl, hb2⟩
  have HS2 := Hid.mk' (HS1.out.next hb2)
  have HB2 := Hid.mk' (below_chain HB1.out hb2)
  have c0 := HS2.out.c0
  have c1 := HS2.out.c1
  have hle := LogError_at den _ n ok p c HOK.out w2 HS2.out.log hn
  clear HS1 HB1 hb2
  go_wp2_with fail
  refine hle.mono ?_
  clear hle c0 c1
  rintro e w3 ⟨rfl, hb3⟩
  have HS3 := Hid.mk' (HS2.out.next hb3)
  have HB3 := Hid.mk' (below_chain HB2.out hb3)
  have c0 := HS3.out.c0
  have c1 := HS3.out.c1
  clear HS2 HB2 hb3
  cases ok
  · simp only [shapeCode]
    have how := own_at den _ n p c w3 HS3.out.log hn
    go_wp2_with fail
    refine how.mono ?_
    clear how c0 c1
    rintro e w4 ⟨sv', rfl, hso, hb4⟩
    have HS4 := Hid.mk' (HS3.out.next hb4)
    have HB4 := Hid.mk' (below_chain HB3.out hb4)
    have hsg := Sign_any den sv' n p c a false fit (by simpa using HOK.out) (by simpa using HF.out) w4 HS4.out.errs hso hn
    simp only [Bool.false_and] at hsg
    clear hso hb4 HS3 HB3
    go_wp2_with fail
    refine hsg.mono ?_
    clear hsg
    rintro e w5 ⟨rfl, hb5⟩
    have hcd := coded_pow false fit a w5 (HS4.out.next hb5).errs
    simp only [powCode] at hcd
    have HB5 := Hid.mk' (below_chain HB4.out hb5)
    clear hb5 HS4 HB4
    go_wp2_with fail
    refine hcd.mono ?_
    clear hcd
    rintro e w6 ⟨rfl, hb6⟩
    go_wp2_with fail
    go_ret
    exact ⟨rfl, below_chain HB5.out hb6⟩
  · simp only [shapeCode]
    have hbd : Bounded n p c := (HOK.out.1 rfl).2.2.1.bounded
    have htg := TooGreat_one den ad n cap p c (!fit) (bool_not HF.out) w3 HS3.out.log hn hbd
    have HBD := Hid.mk' hbd
    clear hbd
    go_wp2_with fail
    refine htg.mono ?_
    clear htg c0 c1
    rintro e w9 ⟨rfl, hb9⟩
    have HS9 := Hid.mk' (HS3.out.next hb9)
    have HB9 := Hid.mk' (below_chain HB3.out hb9)
    have c0 := HS9.out.c0
    have c1 := HS9.out.c1
    clear HS3 HB3 hb9
    cases fit
    · have how := own_at den _ n p c w9 HS9.out.log hn
      simp only [Bool.not_false]
      go_wp2_with fail
      refine how.mono ?_
      clear how c0 c1
      rintro e w4 ⟨sv', rfl, hso, hb4⟩
      have HS4 := Hid.mk' (HS9.out.next hb4)
      have HB4 := Hid.mk' (below_chain HB9.out hb4)
      have hsg := Sign_any den sv' n p c a true false (by simpa using HOK.out) (by simpa using HF.out) w4 HS4.out.errs hso hn
      simp only [Bool.and_false] at hsg
      clear hso hb4 HS9 HB9
      go_wp2_with fail
      refine hsg.mono ?_
      clear hsg
      rintro e w5 ⟨rfl, hb5⟩
      have hcd := coded_pow true false a w5 (HS4.out.next hb5).errs
      simp only [powCode] at hcd
      have HB5 := Hid.mk' (below_chain HB4.out hb5)
      clear hb5 HS4 HB4
      go_wp2_with fail
      refine hcd.mono ?_
      clear hcd
      rintro e w6 ⟨rfl, hb6⟩
      go_wp2_with fail
      go_ret
      exact ⟨rfl, below_chain HB5.out hb6⟩
    · have hsn := SignOf_any den ad n cap p c w9 HS9.out.log hn HBD.out (HF.out.1 rfl)
      simp only [Bool.not_true]
      obtain ⟨z, hz⟩ : ∃ z, z = cmpOf (sideUp p c 1 n) (sideDown p c 1 n) := ⟨_, rfl⟩
      rw [← hz] at hsn
      have HZ := Hid.mk' hz
      clear hz
      go_wp2_with fail
      refine hsn.mono ?_
      clear hsn c0 c1
      rintro e w8 ⟨rfl, hb8⟩
      have HS8 := Hid.mk' (HS9.out.next hb8)
      have HB8 := Hid.mk' (below_chain HB9.out hb8)
      have c0 := HS8.out.c0
      have c1 := HS8.out.c1
      have how := own_at den _ n p c w8 HS8.out.log hn
      have hzz : (z == z) = true := by simp
      clear HS9 HB9 hb8
      go_wp2_with fail
      refine how.mono ?_
      clear how c0 c1
      rintro e w4 ⟨sv', rfl, hso, hb4⟩
      have HS4 := Hid.mk' (HS8.out.next hb4)
      have HB4 := Hid.mk' (below_chain HB8.out hb4)
      have hsg := Sign_any den sv' n p c a true true (by simpa using HOK.out) (by simpa using HF.out) w4 HS4.out.errs hso hn
      simp only [Bool.and_true, if_true, ← HZ.out] at hsg
      clear hso hb4 HS8 HB8
      go_wp2_with fail
      refine hsg.mono ?_
      clear hsg
      rintro e w5 ⟨rfl, hb5⟩
      have hcd := coded_pow true true a w5 (HS4.out.next hb5).errs
      simp only [powCode] at hcd
      have HB5 := Hid.mk' (below_chain HB4.out hb5)
      clear hb5 HS4 HB4
      go_wp2_with fail
      refine hcd.mono ?_
      clear hcd
      rintro e w6 ⟨rfl, hb6⟩
      go_wp2_with fail
      go_ret
      exact ⟨rfl, below_chain HB5.out hb6⟩

set_option maxRecDepth 10000 in
set_option maxHeartbeats 2000000 in
theorem LogsSigns_long (den : Int) (ad : Option Addr) (n cap : Nat) (w : World) (hn : ¬ n ≤ 30) (hm : n ≤ maxLen) :
    Calls Tryd.prog 5 #[.agg #[.int .i64 den, .slice ad n cap]] w fun e w' => e = .returned (.bool true) ∧ Below w.heap.size w w' := by
  have hb0 : Below w.heap.size w (w.alloc (.cells #[.int .i64 den, .slice ad n cap] 39)) := (Below.refl _ _).alloc (Nat.le_refl _) _
  have hE := eighth_any (w.alloc (.cells #[.int .i64 den, .slice ad n cap] 39))
  have HB0 := Hid.mk' hb0
  clear hb0
  go_enter Tryd.func5, Tryd.ntmps5
  go_wp2_with fail
  refine hE.mono ?_
  clear hE
  rintro e w1 ⟨rfl, hb1⟩
  have c0 := hb1.cell (p := ⟨w.heap.size, 0, none⟩) (by simp)
  have c1 := hb1.cell (p := ⟨w.heap.size, 1, none⟩) (by simp)
  simp at c0 c1
  have HB1 := Hid.mk' (below_chain HB0.out hb1)
  have hsh := short_any den ad n cap false (by simpa using hn) hm w1
  clear HB0 hb1
  go_wp2_with fail
  refine hsh.mono ?_
  clear hsh c0 c1
  rintro e w2 ⟨rfl, hb2⟩
  go_wp2_with fail
  go_ret
  exact ⟨rfl, below_chain HB1.out hb2⟩
end Go.Proofs.YtiecbconcdncmaaDoor
