/- The law MachineLeast. -/
import Derived.Test.YtdfcipdknfebpaaDoorMacZ
import Derived.Test.YtdfcipdknfebpaaDoorMacW
import Derived.Test.YtdfcipdknfebpaaDoorErrZ
namespace Go.Proofs.YtdfcipdknfebpaaDoor
open Go.RowKit

theorem twice_B {a : Nat → Addr} {W : World} (h : Errs W a) : Calls Tryd.prog 7 #[] W fun e w' => e = .returned (.bool true) ∧ Below W.heap.size W w' :=
  twice_any (errV a 2) (errV a 1) W (by rw [errV_pos a (by decide)]; exact h.c0) (by rw [errV_pos a (by decide)]; exact h.c1) (by rw [errV_pos a (by decide)]; exact ⟨_, _, rfl⟩) (by rw [errV_pos a (by decide)]; exact ⟨_, _, rfl⟩)
theorem Bits_btB (s : List UInt8) (w : World) (hs : s.length ≤ 1000000) : Calls Tryd.prog 13 #[.string (bt s)] w fun e w' => e = .returned (.bool (bitL s)) ∧ Below w.heap.size w w' := by
  have := DocBits_any (bt s) w (by rw [bt_size]; omega)
  rwa [bitB_bt] at this
theorem empty_list : ((⟨#[]⟩ : ByteArray).toList).isEmpty = true := bt_none
set_option maxRecDepth 100000 in
set_option maxHeartbeats 4000000 in
theorem Ml_far (a : Nat → Addr) (x : List UInt8) (w : World) (hE : Errs w a) (hx : 400 < x.length) (hx2 : x.length ≤ 9223372036854775807) :
    Calls Tryd.prog 4 #[.string (bt x)] w fun e w' => e = .returned (.bool true) ∧ Below w.heap.size w w' := by
  have HT := Hid.mk' (twice_B hE)
  have hz := bt_size x
  generalize bt x = X at *
  have j1 : (400 : Int) < (X.size : Int) := by omega
  have j2 : (X.size : Int) ≤ 9223372036854775807 := by omega
  clear hE hz
  go_enter Tryd.func4, Tryd.ntmps4
  go_wp2_with fail
  refine HT.out.mono ?_
  rintro e w1 ⟨rfl, hB1⟩
  have HB1 := Hid.mk' hB1
  clear hB1 HT
  go_wp2_with fail
  go_ret
  exact ⟨rfl, HB1.out⟩
set_option maxRecDepth 100000 in
set_option maxHeartbeats 4000000 in
theorem Ml_long (a : Nat → Addr) (x : List UInt8) (w : World) (hE : Errs w a) (hx : 8 < x.length) (hx2 : x.length ≤ 400) :
    Calls Tryd.prog 4 #[.string (bt x)] w fun e w' => e = .returned (.bool true) ∧ Below w.heap.size w w' := by
  have HT := Hid.mk' (twice_B hE)
  have HL : Hid (∀ W, Below w.heap.size w W → Calls Tryd.prog 11 #[.string (bt x)] W fun e w' => e = .returned (.tuple #[.string ⟨#[]⟩, errV a 2]) ∧ Below W.heap.size W w') := fun W hb => Least_long x (errV a 2) W hx (by omega) (by rw [errV_pos a (by decide)]; exact (hE.below hb).c1)
  have HC : Hid (∀ W, Below w.heap.size w W → Calls Tryd.prog 12 #[errV a 2, .int .i64 2] W fun e w' => e = .returned (.bool true) ∧ Below W.heap.size W w') := fun W hb => coded_errV a 2 (by decide) W (hE.below hb)
  have hev : ∃ t y, errV a 2 = .iface t y := by rw [errV_pos a (by decide)]; exact ⟨_, _, rfl⟩
  have hz := bt_size x
  generalize errV a 2 = V at *
  obtain ⟨t, y, rfl⟩ := hev
  generalize bt x = X at *
  have j1 : ¬ (400 : Int) < (X.size : Int) := by omega
  have j2 : (8 : Int) < (X.size : Int) := by omega
  have j3 : (X.size : Int) ≤ 400 := by omega
  have hem := empty_list
  clear hE hz
  go_enter Tryd.func4, Tryd.ntmps4
  go_wp2_with fail
  refine HT.out.mono ?_
  rintro e w1 ⟨rfl, hB1⟩
  have HB1 := Hid.mk' hB1
  clear hB1 HT
  go_wp2_with fail
  refine (HL.out w1 HB1.out).mono ?_
  clear HL
  rintro e w2 ⟨rfl, hB2⟩
  have HB2 := Hid.mk' (below_chain HB1.out hB2)
  clear hB2
  go_wp2_with fail
  refine (HC.out w2 HB2.out).mono ?_
  clear HC
  rintro e w3 ⟨rfl, hB3⟩
  have HB3 := Hid.mk' (below_chain HB2.out hB3)
  clear hB3
  go_wp2_with fail
  go_ret
  exact ⟨rfl, HB3.out⟩
set_option maxRecDepth 100000 in
set_option maxHeartbeats 4000000 in
theorem Ml_text (a : Nat → Addr) (x : List UInt8) (w : World) (hE : Errs w a) (hx : x.length ≤ 8) (hb : bitL x = false) :
    Calls Tryd.prog 4 #[.string (bt x)] w fun e w' => e = .returned (.bool true) ∧ Below w.heap.size w w' := by
  have HT := Hid.mk' (twice_B hE)
  have HL : Hid (∀ W, Below w.heap.size w W → Calls Tryd.prog 11 #[.string (bt x)] W fun e w' => e = .returned (.tuple #[.string ⟨#[]⟩, errV a 1]) ∧ Below W.heap.size W w') := fun W hbb => Least_text x (errV a 1) W hx hb (by rw [errV_pos a (by decide)]; exact (hE.below hbb).c0)
  have HC : Hid (∀ W, Below w.heap.size w W → Calls Tryd.prog 12 #[errV a 1, .int .i64 1] W fun e w' => e = .returned (.bool true) ∧ Below W.heap.size W w') := fun W hb => coded_errV a 1 (by decide) W (hE.below hb)
  have HBI := Hid.mk' (fun W => Bits_btB x W (by omega))
  rw [hb] at HBI
  have hev : ∃ t y, errV a 1 = .iface t y := by rw [errV_pos a (by decide)]; exact ⟨_, _, rfl⟩
  have hz := bt_size x
  generalize errV a 1 = V at *
  obtain ⟨t, y, rfl⟩ := hev
  generalize bt x = X at *
  have j1 : ¬ (400 : Int) < (X.size : Int) := by omega
  have j2 : ¬ (8 : Int) < (X.size : Int) := by omega
  have j3 : (X.size : Int) ≤ 400 := by omega
  have hem := empty_list
  clear hE hz hb
  go_enter Tryd.func4, Tryd.ntmps4
  go_wp2_with fail
  refine HT.out.mono ?_
  rintro e w1 ⟨rfl, hB1⟩
  have HB1 := Hid.mk' hB1
  clear hB1 HT
  go_wp2_with fail
  refine (HL.out w1 HB1.out).mono ?_
  clear HL
  rintro e w2 ⟨rfl, hB2⟩
  have HB2 := Hid.mk' (below_chain HB1.out hB2)
  clear hB2
  go_wp2_with fail
  refine (HBI.out w2).mono ?_
  clear HBI
  rintro e w3 ⟨rfl, hB3⟩
  have HB3 := Hid.mk' (below_chain HB2.out hB3)
  clear hB3
  go_wp2_with fail
  refine (HC.out w3 HB3.out).mono ?_
  clear HC
  rintro e w4 ⟨rfl, hB4⟩
  have HB4 := Hid.mk' (below_chain HB3.out hB4)
  clear hB4
  go_wp2_with fail
  go_ret
  exact ⟨rfl, HB4.out⟩
set_option maxRecDepth 100000 in
set_option maxHeartbeats 4000000 in
theorem Ml_good (a : Nat → Addr) (x : List UInt8) (w : World) (hE : Errs w a) (hx : x.length ≤ 8) (hb : bitL x = true) :
    Calls Tryd.prog 4 #[.string (bt x)] w fun e w' => e = .returned (.bool true) ∧ Below w.heap.size w w' := by
  have HT := Hid.mk' (twice_B hE)
  have HL := Hid.mk' (fun W => Least_ok x W hx hb)
  have HBI := Hid.mk' (fun W => Bits_btB x W (by omega))
  rw [hb] at HBI
  have HD : Hid (x.length ≤ 5 → ∀ W, Calls Tryd.prog 14 #[.string (bt x)] W fun e w' => e = .returned (.string (bt (fla (lstM x)))) ∧ Below W.heap.size W w') := fun h5 W => LeastOf_any x (lstM x) W (doc_least hb h5)
  have hl2 := (lst_all hb hx).2.1
  have hzp := bt_size (fla (lstM x))
  have heq : ((bt (fla (lstM x))).toList == (bt (fla (lstM x))).toList) = true := by rw [bt_eqB]; simp
  have hz := bt_size x
  obtain ⟨nx, hnx⟩ : ∃ nx, nx = x.length := ⟨_, rfl⟩
  obtain ⟨np, hnp⟩ : ∃ np, np = (fla (lstM x)).length := ⟨_, rfl⟩
  rw [← hnx] at hz hx hl2 HD
  rw [← hnp] at hzp hl2
  clear hnx hnp
  generalize bt (fla (lstM x)) = P at *
  generalize bt x = X at *
  have j1 : ¬ (400 : Int) < (nx : Int) := by omega
  have j2 : ¬ (8 : Int) < (nx : Int) := by omega
  have j3 : (nx : Int) ≤ 400 := by omega
  have j4 : (np : Int) ≤ 2 * (nx : Int) := by omega
  have j5 : (np : Int) ≤ 100 := by omega
  clear hE hb
  go_enter Tryd.func4, Tryd.ntmps4
  go_wp2_with fail
  refine HT.out.mono ?_
  rintro e w1 ⟨rfl, hB1⟩
  have HB1 := Hid.mk' hB1
  clear hB1 HT
  go_wp2_with fail
  refine (HL.out w1).mono ?_
  clear HL
  rintro e w2 ⟨rfl, hB2⟩
  have HB2 := Hid.mk' (below_chain HB1.out hB2)
  clear hB2
  go_wp2_with fail
  refine (HBI.out w2).mono ?_
  clear HBI
  rintro e w3 ⟨rfl, hB3⟩
  have HB3 := Hid.mk' (below_chain HB2.out hB3)
  clear hB3
  rcases Nat.lt_or_ge 5 nx with h5 | h5
  · have k1 : (5 : Int) < (nx : Int) := by omega
    go_wp2_with fail
    go_ret
    exact ⟨rfl, HB3.out⟩
  · have k1 : ¬ (5 : Int) < (nx : Int) := by omega
    have HDD := Hid.mk' (HD.out h5 w3)
    clear HD
    go_wp2_with fail
    refine HDD.out.mono ?_
    clear HDD
    rintro e w4 ⟨rfl, hB4⟩
    have HB4 := Hid.mk' (below_chain HB3.out hB4)
    clear hB4
    go_wp2_with fail
    go_ret
    exact ⟨rfl, HB4.out⟩
theorem MachineLeast_any (a : Nat → Addr) (x : ByteArray) (w : World) (hE : Errs w a) (hx : x.size ≤ 9223372036854775807) :
    Calls Tryd.prog 4 #[.string x] w fun e w' => e = .returned (.bool true) ∧ Below w.heap.size w w' := by
  rw [← bt_of x, bt_size] at hx
  rw [← bt_of x]
  generalize x.data.toList = X at *
  rcases Nat.lt_or_ge 400 X.length with h | h
  · exact Ml_far a X w hE h hx
  · rcases Nat.lt_or_ge 8 X.length with h8 | h8
    · exact Ml_long a X w hE h8 h
    · cases hb : bitL X with
      | true => exact Ml_good a X w hE h8 hb
      | false => exact Ml_text a X w hE h8 hb
end Go.Proofs.YtdfcipdknfebpaaDoor
