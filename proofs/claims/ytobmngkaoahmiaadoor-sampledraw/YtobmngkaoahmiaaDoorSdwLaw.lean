/- SampleDraw: the law, a theorem a way. -/
import Derived.Test.YtobmngkaoahmiaaDoorSmThird
import Derived.Test.YtobmngkaoahmiaaDoorSmDo
import Derived.Test.YtobmngkaoahmiaaDoorCodedV
import Derived.Test.YtobmngkaoahmiaaDoorCopy
namespace Go.Proofs.YtobmngkaoahmiaaDoor
open Go.RowKit

set_option maxRecDepth 100000 in
set_option maxHeartbeats 4000000 in
theorem Sdw_few (a : Nat → Addr) (ad : Option Addr) (n cap : Nat) (z : Nat → Int) (t : ByteArray) (w : World) (hE : Errs w a) (_ : NumsAt w (.slice ad n cap) n z) (hm : n ≤ maxLen) (hq : 400 < n) :
    Calls Tryd.prog 3 #[.slice ad n cap, .string t] w fun e w' => e = .returned (.bool true) ∧ Below w.heap.size w w' := by
  have HTH := Hid.mk' (third_any a w hE)
  unfold maxLen at hm
  have hmI : (n : Int) ≤ 9223372036854775807 := by omega
  have hqI : (400 : Int) < (n : Int) := by omega
  have hqd : decide ((400 : Int) < (n : Int)) = true := decide_eq_true hqI
  clear hE
  go_enter Tryd.func3, Tryd.ntmps3
  go_wp2_with fail
  refine HTH.out.mono ?_
  rintro e w2 ⟨rfl, hb2⟩
  have HB2 := Hid.mk' hb2
  clear hb2 HTH
  go_wp2_with fail
  go_ret
  exact ⟨rfl, HB2.out⟩
set_option maxRecDepth 100000 in
set_option maxHeartbeats 4000000 in
theorem Sdw_long (a : Nat → Addr) (ad : Option Addr) (n cap : Nat) (z : Nat → Int) (t : ByteArray) (w : World) (hE : Errs w a) (_ : NumsAt w (.slice ad n cap) n z) (hq : n ≤ 400) (h3 : 300 < t.size) (h4 : t.size ≤ 4000) :
    Calls Tryd.prog 3 #[.slice ad n cap, .string t] w fun e w' => e = .returned (.bool true) ∧ Below w.heap.size w w' := by
  have HTH := Hid.mk' (third_any a w hE)
  have hqI : ¬ (400 : Int) < (n : Int) := by omega
  have hqd : decide ((400 : Int) < (n : Int)) = false := decide_eq_false hqI
  have h3d : decide ((300 : Int) < (t.size : Int)) = true := decide_eq_true (by omega)
  have h4d : decide ((t.size : Int) ≤ 4000) = true := decide_eq_true (by omega)
  have h3I : (300 : Int) < (t.size : Int) := by omega
  have h4I : (t.size : Int) ≤ 4000 := by omega
  clear hE
  go_enter Tryd.func3, Tryd.ntmps3
  go_wp2_with fail
  refine HTH.out.mono ?_
  rintro e w2 ⟨rfl, hb2⟩
  have HB2 := Hid.mk' hb2
  clear hb2 HTH
  go_wp2_with fail
  go_ret
  exact ⟨rfl, HB2.out⟩
set_option maxRecDepth 100000 in
set_option maxHeartbeats 4000000 in
theorem Sdw_weights (a : Nat → Addr) (ad : Option Addr) (n cap : Nat) (z : Nat → Int) (t : ByteArray) (w : World) (hE : Errs w a) (h : NumsAt w (.slice ad n cap) n z) (hq : n ≤ 400) (hT : t.size ≤ maxLen) (hL : ¬ (300 < t.size ∧ t.size ≤ 4000)) (h0 : weightsErr z n ≠ 0) :
    Calls Tryd.prog 3 #[.slice ad n cap, .string t] w fun e w' => e = .returned (.bool true) ∧ Below w.heap.size w w' := by
  have HTH := Hid.mk' (third_any a w hE)
  have hqI : ¬ (400 : Int) < (n : Int) := by omega
  have hqd : decide ((400 : Int) < (n : Int)) = false := decide_eq_false hqI
  unfold maxLen at hT
  have hTI : (t.size : Int) ≤ 9223372036854775807 := by omega
  have hde : dwE z n t = weightsErr z n := if_neg h0
  have HWE := Hid.mk' (fun (W : World) (hb : Below w.heap.size w W) => WeightsError_any (.slice ad n cap) n z W (h.later hb) (by omega))
  have HIN := Hid.mk' (fun (W : World) (hb : Below w.heap.size w W) => ints_any (.slice ad n cap) n z W (h.later hb) (by omega))
  have HDR := Hid.mk' (fun (W : World) (v : Value) (hb : Below w.heap.size w W) (hv : NumsAt W v n z) => Draw_bad a v n z t W (hE.below hb) hv (by omega) (by omega) (by rw [hde]; exact h0))
  have HCD := Hid.mk' (fun (W : World) (hb : Below w.heap.size w W) => coded_errV a (weightsErr z n) (by have := weightsErr_le z n; omega) W (hE.below hb))
  rw [hde] at HDR
  have hcb : (((weightsErr z n : Nat) : Int) == 0) = false := by rw [beq_eq_false_iff_ne]; omega
  have hgd : (decide ((300 : Int) < (t.size : Int)) && decide ((t.size : Int) ≤ 4000)) = false := by
    rw [Bool.and_eq_false_iff, decide_eq_false_iff_not, decide_eq_false_iff_not]; omega
  generalize weightsErr z n = ce at *
  clear hde h0
  obtain ⟨ev, hev⟩ : ∃ ev, ev = errV a (ce) := ⟨_, rfl⟩
  rw [← hev] at HDR HCD
  clear hev hE h
  rcases Nat.lt_or_ge 300 t.size with h3 | h3
  · have h3I : (300 : Int) < (t.size : Int) := by omega
    have h4I : ¬ (t.size : Int) ≤ 4000 := by omega
    have h3d : decide ((300 : Int) < (t.size : Int)) = true := decide_eq_true h3I
    have h4d : decide ((t.size : Int) ≤ 4000) = false := decide_eq_false h4I
    clear hgd
    go_enter Tryd.func3, Tryd.ntmps3
    go_wp2_with fail
    refine HTH.out.mono ?_
    rintro e w2 ⟨rfl, hb2⟩
    have HB2 := Hid.mk' hb2
    clear hb2 HTH
    go_wp2_with fail
    refine (HWE.out _ HB2.out).mono ?_
    rintro e w3 ⟨rfl, hw3⟩
    rw [hw3]
    clear hw3 HWE
    have HB3 := Hid.mk' HB2.out
    go_wp2_with fail
    refine (HIN.out _ HB3.out).mono ?_
    rintro e w4 ⟨v4, rfl, hv4, hb4⟩
    have HB4 := Hid.mk' (below_chain HB3.out hb4)
    have HD4 := Hid.mk' (HDR.out _ _ HB4.out hv4)
    clear hv4 hb4 HIN HDR
    go_wp2_with fail
    refine HD4.out.mono ?_
    rintro e w5 ⟨rfl, hb5⟩
    have HB5 := Hid.mk' (below_chain HB4.out hb5)
    clear hb5 HD4
    go_wp2_with fail
    refine (HCD.out _ HB5.out).mono ?_
    rintro e w6 ⟨rfl, hb6⟩
    have HB6 := Hid.mk' (below_chain HB5.out hb6)
    clear hb6 HCD
    go_wp2_with fail
    go_ret
    exact ⟨rfl, HB6.out⟩
  · have h3I : ¬ (300 : Int) < (t.size : Int) := by omega
    have h3d : decide ((300 : Int) < (t.size : Int)) = false := decide_eq_false h3I
    clear hgd
    go_enter Tryd.func3, Tryd.ntmps3
    go_wp2_with fail
    refine HTH.out.mono ?_
    rintro e w2 ⟨rfl, hb2⟩
    have HB2 := Hid.mk' hb2
    clear hb2 HTH
    go_wp2_with fail
    refine (HWE.out _ HB2.out).mono ?_
    rintro e w3 ⟨rfl, hw3⟩
    rw [hw3]
    clear hw3 HWE
    have HB3 := Hid.mk' HB2.out
    go_wp2_with fail
    refine (HIN.out _ HB3.out).mono ?_
    rintro e w4 ⟨v4, rfl, hv4, hb4⟩
    have HB4 := Hid.mk' (below_chain HB3.out hb4)
    have HD4 := Hid.mk' (HDR.out _ _ HB4.out hv4)
    clear hv4 hb4 HIN HDR
    go_wp2_with fail
    refine HD4.out.mono ?_
    rintro e w5 ⟨rfl, hb5⟩
    have HB5 := Hid.mk' (below_chain HB4.out hb5)
    clear hb5 HD4
    go_wp2_with fail
    refine (HCD.out _ HB5.out).mono ?_
    rintro e w6 ⟨rfl, hb6⟩
    have HB6 := Hid.mk' (below_chain HB5.out hb6)
    clear hb6 HCD
    go_wp2_with fail
    go_ret
    exact ⟨rfl, HB6.out⟩
set_option maxRecDepth 100000 in
set_option maxHeartbeats 4000000 in
theorem Sdw_bound (a : Nat → Addr) (ad : Option Addr) (n cap : Nat) (z : Nat → Int) (t : ByteArray) (w : World) (hE : Errs w a) (h : NumsAt w (.slice ad n cap) n z) (hq : n ≤ 400) (hT : t.size ≤ maxLen) (h4 : 4000 < t.size) (h0 : weightsErr z n = 0) :
    Calls Tryd.prog 3 #[.slice ad n cap, .string t] w fun e w' => e = .returned (.bool true) ∧ Below w.heap.size w w' := by
  have HTH := Hid.mk' (third_any a w hE)
  have hqI : ¬ (400 : Int) < (n : Int) := by omega
  have hqd : decide ((400 : Int) < (n : Int)) = false := decide_eq_false hqI
  unfold maxLen at hT
  have hTI : (t.size : Int) ≤ 9223372036854775807 := by omega
  have hde : dwE z n t = 2 := by unfold dwE; rw [if_pos h0, if_pos h4]
  have HWE := Hid.mk' (fun (W : World) (hb : Below w.heap.size w W) => WeightsError_any (.slice ad n cap) n z W (h.later hb) (by omega))
  have HIN := Hid.mk' (fun (W : World) (hb : Below w.heap.size w W) => ints_any (.slice ad n cap) n z W (h.later hb) (by omega))
  have HDR := Hid.mk' (fun (W : World) (v : Value) (hb : Below w.heap.size w W) (hv : NumsAt W v n z) => Draw_bad a v n z t W (hE.below hb) hv (by omega) (by omega) (by rw [hde]; decide))
  have HCD := Hid.mk' (fun (W : World) (hb : Below w.heap.size w W) => coded_errV a (2) (by decide) W (hE.below hb))
  rw [hde] at HDR
  have h3I : (300 : Int) < (t.size : Int) := by omega
  have h4I : ¬ (t.size : Int) ≤ 4000 := by omega
  have h4J : (4000 : Int) < (t.size : Int) := by omega
  have h3d : decide ((300 : Int) < (t.size : Int)) = true := decide_eq_true h3I
  have h4d : decide ((t.size : Int) ≤ 4000) = false := decide_eq_false h4I
  have h5d : decide ((4000 : Int) < (t.size : Int)) = true := decide_eq_true h4J
  rw [h0] at HWE
  clear hde h0
  obtain ⟨ev, hev⟩ : ∃ ev, ev = errV a (2) := ⟨_, rfl⟩
  rw [← hev] at HDR HCD
  clear hev hE h
  go_enter Tryd.func3, Tryd.ntmps3
  go_wp2_with fail
  refine HTH.out.mono ?_
  rintro e w2 ⟨rfl, hb2⟩
  have HB2 := Hid.mk' hb2
  clear hb2 HTH
  go_wp2_with fail
  refine (HWE.out _ HB2.out).mono ?_
  rintro e w3 ⟨rfl, hw3⟩
  rw [hw3]
  clear hw3 HWE
  have HB3 := Hid.mk' HB2.out
  go_wp2_with fail
  refine (HIN.out _ HB3.out).mono ?_
  rintro e w4 ⟨v4, rfl, hv4, hb4⟩
  have HB4 := Hid.mk' (below_chain HB3.out hb4)
  have HD4 := Hid.mk' (HDR.out _ _ HB4.out hv4)
  clear hv4 hb4 HIN HDR
  go_wp2_with fail
  refine HD4.out.mono ?_
  rintro e w5 ⟨rfl, hb5⟩
  have HB5 := Hid.mk' (below_chain HB4.out hb5)
  clear hb5 HD4
  go_wp2_with fail
  refine (HCD.out _ HB5.out).mono ?_
  rintro e w6 ⟨rfl, hb6⟩
  have HB6 := Hid.mk' (below_chain HB5.out hb6)
  clear hb6 HCD
  go_wp2_with fail
  go_ret
  exact ⟨rfl, HB6.out⟩
set_option maxRecDepth 100000 in
set_option maxHeartbeats 4000000 in
theorem Sdw_text (a : Nat → Addr) (ad : Option Addr) (n cap : Nat) (z : Nat → Int) (t : ByteArray) (w : World) (hE : Errs w a) (h : NumsAt w (.slice ad n cap) n z) (hq : n ≤ 400) (h4 : t.size ≤ 300) (h0 : weightsErr z n = 0) (hb : bitB t = false) :
    Calls Tryd.prog 3 #[.slice ad n cap, .string t] w fun e w' => e = .returned (.bool true) ∧ Below w.heap.size w w' := by
  have HTH := Hid.mk' (third_any a w hE)
  have hqI : ¬ (400 : Int) < (n : Int) := by omega
  have hqd : decide ((400 : Int) < (n : Int)) = false := decide_eq_false hqI
  have hde : dwE z n t = 1 := by unfold dwE; rw [if_pos h0, if_neg (by omega), if_neg (by rw [hb]; simp)]
  have HWE := Hid.mk' (fun (W : World) (hb : Below w.heap.size w W) => WeightsError_any (.slice ad n cap) n z W (h.later hb) (by omega))
  have HIN := Hid.mk' (fun (W : World) (hb : Below w.heap.size w W) => ints_any (.slice ad n cap) n z W (h.later hb) (by omega))
  have HDR := Hid.mk' (fun (W : World) (v : Value) (hb : Below w.heap.size w W) (hv : NumsAt W v n z) => Draw_bad a v n z t W (hE.below hb) hv (by omega) (by omega) (by rw [hde]; decide))
  have HCD := Hid.mk' (fun (W : World) (hb : Below w.heap.size w W) => coded_errV a (1) (by decide) W (hE.below hb))
  rw [hde] at HDR
  have h3I : ¬ (300 : Int) < (t.size : Int) := by omega
  have h4J : ¬ (4000 : Int) < (t.size : Int) := by omega
  have h3d : decide ((300 : Int) < (t.size : Int)) = false := decide_eq_false h3I
  have h5d : decide ((4000 : Int) < (t.size : Int)) = false := decide_eq_false h4J
  have HBI := Hid.mk' (fun (W : World) => DocBits_any t W (by omega))
  rw [hb] at HBI
  rw [h0] at HWE
  clear hde h0 hb
  obtain ⟨ev, hev⟩ : ∃ ev, ev = errV a (1) := ⟨_, rfl⟩
  rw [← hev] at HDR HCD
  clear hev hE h
  go_enter Tryd.func3, Tryd.ntmps3
  go_wp2_with fail
  refine HTH.out.mono ?_
  rintro e w2 ⟨rfl, hb2⟩
  have HB2 := Hid.mk' hb2
  clear hb2 HTH
  go_wp2_with fail
  refine (HWE.out _ HB2.out).mono ?_
  rintro e w3 ⟨rfl, hw3⟩
  rw [hw3]
  clear hw3 HWE
  go_wp2_with fail
  refine (HBI.out _).mono ?_
  rintro e w3 ⟨rfl, hb3⟩
  have HB3 := Hid.mk' (below_chain HB2.out hb3)
  clear hb3 HBI
  go_wp2_with fail
  refine (HIN.out _ HB3.out).mono ?_
  rintro e w4 ⟨v4, rfl, hv4, hb4⟩
  have HB4 := Hid.mk' (below_chain HB3.out hb4)
  have HD4 := Hid.mk' (HDR.out _ _ HB4.out hv4)
  clear hv4 hb4 HIN HDR
  go_wp2_with fail
  refine HD4.out.mono ?_
  rintro e w5 ⟨rfl, hb5⟩
  have HB5 := Hid.mk' (below_chain HB4.out hb5)
  clear hb5 HD4
  go_wp2_with fail
  refine (HCD.out _ HB5.out).mono ?_
  rintro e w6 ⟨rfl, hb6⟩
  have HB6 := Hid.mk' (below_chain HB5.out hb6)
  clear hb6 HCD
  go_wp2_with fail
  go_ret
  exact ⟨rfl, HB6.out⟩
set_option maxRecDepth 100000 in
set_option maxHeartbeats 4000000 in
theorem Sdw_ok (a : Nat → Addr) (ad : Option Addr) (n cap : Nat) (z : Nat → Int) (t : ByteArray) (w : World) (hE : Errs w a) (h : NumsAt w (.slice ad n cap) n z) (h4 : t.size ≤ 300) (h0 : weightsErr z n = 0) (hb : bitB t = true) :
    Calls Tryd.prog 3 #[.slice ad n cap, .string t] w fun e w' => e = .returned (.bool true) ∧ Below w.heap.size w w' := by
  have HTH := Hid.mk' (third_any a w hE)
  obtain ⟨h16, hok⟩ := weightsErr_ok h0
  have hp := hok.pos
  have hl := hok.le
  obtain ⟨S, hS⟩ : ∃ S : Nat, sumN z n = (S : Int) := ⟨(sumN z n).toNat, by omega⟩
  have hqI : ¬ (400 : Int) < (n : Int) := by omega
  have hqd : decide ((400 : Int) < (n : Int)) = false := decide_eq_false hqI
  have h3I : ¬ (300 : Int) < (t.size : Int) := by omega
  have h4J : ¬ (4000 : Int) < (t.size : Int) := by omega
  have h3d : decide ((300 : Int) < (t.size : Int)) = false := decide_eq_false h3I
  have h5d : decide ((4000 : Int) < (t.size : Int)) = false := decide_eq_false h4J
  have hde : dwE z n t = 0 := by unfold dwE; rw [if_pos h0, if_neg (by omega), if_pos hb]
  have HBI := Hid.mk' (fun (W : World) => DocBits_any t W (by omega))
  rw [hb] at HBI
  have HWE := Hid.mk' (fun (W : World) (hb : Below w.heap.size w W) => WeightsError_any (.slice ad n cap) n z W (h.later hb) (by omega))
  rw [h0] at HWE
  have HIN := Hid.mk' (fun (W : World) (hb : Below w.heap.size w W) => ints_any (.slice ad n cap) n z W (h.later hb) (by omega))
  have HDR := Hid.mk' (fun (W : World) (v : Value) (hb : Below w.heap.size w W) (hv : NumsAt W v n z) => Draw_ok a v n S z t W (hE.below hb) hv hS hde)
  have HDO : Hid (∀ W, Below w.heap.size w W → Calls Tryd.prog 12 #[.slice ad n cap, .string t] W fun e w' => (∃ r, e = .returned (docV r) ∧ Comes (xT z n S) n (dpT S) t.size (bitN t) 0 0 0 r) ∧ Below W.heap.size W w') := fun W hbw => by
    obtain ⟨b, o, c, hv, hr⟩ := row_ofS (h.later hbw) hok.posN
    simp only [Value.slice.injEq, true_and] at hv
    obtain ⟨rfl, rfl⟩ := hv
    exact DrawOf_any b o cap n S z t W hr hok hS h16 (by omega) (bits_of hb)
  have HC6 := Hid.mk' (fun (W : World) (hb : Below w.heap.size w W) => coded_errV a 6 (by decide) W (hE.below hb))
  have HC0 := Hid.mk' (fun (W : World) (hb : Below w.heap.size w W) => coded_errV a 0 (by decide) W (hE.below hb))
  rw [errV_zero] at HC0
  have HSAME : Hid (∀ r r', Comes (xT z n S) n (dpT S) t.size (bitN t) 0 0 0 r → Comes (xT z n S) n (dpT S) t.size (bitN t) 0 0 0 r' → r = r') := fun r r' h1 h2 => h1.same h2
  generalize xT z n S = x at *
  generalize dpT S = D at *
  clear hE h hok hp hl hS h0 hb hde
  have HE6 : Hid (∀ r, drawV a r = match r with | some (k, u) => .tuple #[.int .i64 (k : Int), .int .i64 (u : Int), .nilIface] | none => .tuple #[.int .i64 0, .int .i64 0, errV a 6]) := fun r => by rcases r with _ | ⟨k, u⟩ <;> rfl
  obtain ⟨ev, hev⟩ : ∃ ev, ev = errV a 6 := ⟨_, rfl⟩
  rw [← hev] at HC6
  have HEV := Hid.mk' hev
  clear hev
  go_enter Tryd.func3, Tryd.ntmps3
  go_wp2_with fail
  refine HTH.out.mono ?_
  rintro e w2 ⟨rfl, hb2⟩
  have HB2 := Hid.mk' hb2
  clear hb2 HTH
  go_wp2_with fail
  refine (HWE.out _ HB2.out).mono ?_
  rintro e w3 ⟨rfl, hw3⟩
  rw [hw3]
  clear hw3 HWE
  go_wp2_with fail
  refine (HBI.out _).mono ?_
  rintro e w3 ⟨rfl, hb3⟩
  have HB3 := Hid.mk' (below_chain HB2.out hb3)
  clear hb3 HBI
  go_wp2_with fail
  refine (HDO.out _ HB3.out).mono ?_
  rintro e w4 ⟨⟨r, rfl, hr⟩, hb4⟩
  have HR := Hid.mk' hr
  have HB4 := Hid.mk' (below_chain HB3.out hb4)
  clear hr hb4 HDO
  rcases r with _ | ⟨k, u⟩
  · unfold docV
    go_wp2_with fail
    refine (HIN.out _ HB4.out).mono ?_
    rintro e w5 ⟨v5, rfl, hv5, hb5⟩
    have HB5 := Hid.mk' (below_chain HB4.out hb5)
    have HD5 := Hid.mk' (HDR.out _ _ HB5.out hv5)
    clear hv5 hb5 HIN HDR
    go_wp2_with fail
    refine HD5.out.mono ?_
    rintro e w6 ⟨⟨r', rfl, hr'⟩, hb6⟩
    obtain rfl := HSAME.out _ _ HR.out hr'
    have HB6 := Hid.mk' (below_chain HB5.out hb6)
    clear hb6 HD5 hr' HR
    rw [HE6.out]
    dsimp only
    rw [← HEV.out]
    go_wp2_with fail
    refine (HC6.out _ HB6.out).mono ?_
    rintro e w7 ⟨rfl, hb7⟩
    have HB7 := Hid.mk' (below_chain HB6.out hb7)
    clear hb7 HC0 HC6
    go_wp2_with fail
    go_ret
    exact ⟨rfl, HB7.out⟩
  · unfold docV
    go_wp2_with fail
    refine (HIN.out _ HB4.out).mono ?_
    rintro e w5 ⟨v5, rfl, hv5, hb5⟩
    have HB5 := Hid.mk' (below_chain HB4.out hb5)
    have HD5 := Hid.mk' (HDR.out _ _ HB5.out hv5)
    clear hv5 hb5 HIN HDR
    go_wp2_with fail
    refine HD5.out.mono ?_
    rintro e w6 ⟨⟨r', rfl, hr'⟩, hb6⟩
    obtain rfl := HSAME.out _ _ HR.out hr'
    have HB6 := Hid.mk' (below_chain HB5.out hb6)
    clear hb6 HD5 hr' HR
    rw [HE6.out]
    dsimp only
    go_wp2_with fail
    refine (HC0.out _ HB6.out).mono ?_
    rintro e w7 ⟨rfl, hb7⟩
    have HB7 := Hid.mk' (below_chain HB6.out hb7)
    clear hb7 HC0 HC6
    go_wp2_with fail
    go_ret
    exact ⟨rfl, HB7.out⟩
theorem SampleDraw_all (a : Nat → Addr) (ad : Option Addr) (n cap : Nat) (z : Nat → Int) (t : ByteArray) (w : World) (hE : Errs w a) (h : NumsAt w (.slice ad n cap) n z) (hm : n ≤ maxLen) (hT : t.size ≤ maxLen) :
    Calls Tryd.prog 3 #[.slice ad n cap, .string t] w fun e w' => e = .returned (.bool true) ∧ Below w.heap.size w w' := by
  by_cases hq : 400 < n
  · exact Sdw_few a ad n cap z t w hE h hm hq
  · by_cases hL : 300 < t.size ∧ t.size ≤ 4000
    · exact Sdw_long a ad n cap z t w hE h (by omega) hL.1 hL.2
    · by_cases h0 : weightsErr z n = 0
      · by_cases h4 : 4000 < t.size
        · exact Sdw_bound a ad n cap z t w hE h (by omega) hT h4 h0
        · cases hb : bitB t with
          | true => exact Sdw_ok a ad n cap z t w hE h (by omega) h0 hb
          | false => exact Sdw_text a ad n cap z t w hE h (by omega) (by omega) h0 hb
      · exact Sdw_weights a ad n cap z t w hE h (by omega) hT hL h0
end Go.Proofs.YtobmngkaoahmiaaDoor
