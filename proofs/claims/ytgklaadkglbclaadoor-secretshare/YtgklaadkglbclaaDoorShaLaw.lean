/- The law SecretShare. -/
import Derived.Test.YtgklaadkglbclaaDoorSkSh
import Derived.Test.YtgklaadkglbclaaDoorSkPerf
import Derived.Test.YtgklaadkglbclaaDoorCodedV
import Derived.Test.YtgklaadkglbclaaDoorSameN
namespace Go.Proofs.YtgklaadkglbclaaDoor
open Go.RowKit

set_option maxRecDepth 100000 in
set_option maxHeartbeats 4000000 in
theorem SecretShare_all (a : Nat → Addr) (p : Int) (ad : Option Addr) (n cap : Nat) (z : Nat → Int) (x : Int) (w : World) (hE : Errs w a) (hz : NumsAt w (.slice ad n cap) n z) (hm : n ≤ maxLen) :
    Calls Tryd.prog 4 #[.int .i64 p, .slice ad n cap, .int .i64 x] w fun e w' => e = .returned (.bool true) ∧ Below w.heap.size w w' := by
  have HE := Hid.mk' (fun (W : World) (hb : Below w.heap.size w W) => hE.below hb)
  have HZ := Hid.mk' (fun (W : World) (hb : Below w.heap.size w W) => hz.later hb)
  have HP := Hid.mk' (pad_any a w hE)
  unfold maxLen at hm
  by_cases h100 : 100 < n
  · have hI : (100 : Int) < (n : Int) := by omega
    clear hE hz
    go_enter Tryd.func4, Tryd.ntmps4
    go_wp2_with fail
    refine HP.out.mono ?_
    rintro e w1 ⟨rfl, hb1⟩
    have HB1 := Hid.mk' hb1
    clear hb1
    go_wp2_with fail
    go_ret
    exact ⟨rfl, HB1.out⟩
  · have hI : (n : Int) ≤ 100 := by omega
    have HSE := Hid.mk' (fun (W : World) (hb : Below w.heap.size w W) => ShareError_any p _ n z x W (HZ.out W hb) (by omega))
    have HIN := Hid.mk' (fun (W : World) (hb : Below w.heap.size w W) => ints_any _ n z W (HZ.out W hb) (by omega))
    have hle := shE_le p n z x
    have HCD : Hid (∀ W, Below w.heap.size w W → Calls Tryd.prog 14 #[errV a (shE p n z x), .int .i64 (shE p n z x : Nat)] W fun e w' => e = .returned (.bool true) ∧ Below W.heap.size W w') := fun W hb => coded_errV a (shE p n z x) hle W (HE.out W hb)
    by_cases he : shE p n z x ≠ 0
    · have HSB := Hid.mk' (fun (v : Value) (W : World) (hb : Below w.heap.size w W) (hv : NumsAt W v n z) => Share_bad a p v n z x W (HE.out W hb) hv (by omega) he)
      have HSI : Hid (∀ W, Calls Tryd.prog 11 #[.slice none 0 0, .slice none 0 0] W fun e w' => e = .returned (.bool true) ∧ Below W.heap.size W w') := fun W => SameInts_any _ _ 0 (fun _ => 0) W (Or.inl ⟨none, 0, rfl, rfl⟩) (Or.inl ⟨none, 0, rfl, rfl⟩) (by omega)
      rw [errV_pos a he] at HSB HCD
      have hq0 : ((shE p n z x : Int) == 0) = false := by rw [beq_eq_false_iff_ne]; omega
      generalize shE p n z x = q at *
      clear hE hz he
      go_enter Tryd.func4, Tryd.ntmps4
      go_wp2_with fail
      refine HP.out.mono ?_
      rintro e w1 ⟨rfl, hb1⟩
      have HB1 := Hid.mk' hb1
      clear hb1
      go_wp2_with fail
      refine (HSE.out _ HB1.out).mono ?_
      rintro e w2 ⟨rfl, hw2⟩
      rw [hw2]
      clear hw2 w2
      go_wp2_with fail
      refine (HIN.out _ HB1.out).mono ?_
      rintro e w3 ⟨v3, rfl, hv3, hb3⟩
      have HB3 := Hid.mk' (below_chS HB1.out hb3)
      have HV3 := Hid.mk' hv3
      obtain ⟨a3, c3, rfl⟩ := hv3.form
      clear hb3 hv3
      go_wp2_with fail
      refine (HSB.out _ _ HB3.out HV3.out).mono ?_
      rintro e w4 ⟨rfl, hb4⟩
      have HB4 := Hid.mk' (below_chS HB3.out hb4)
      clear hb4
      go_wp2_with fail
      refine (HCD.out _ HB4.out).mono ?_
      rintro e w5 ⟨rfl, hb5⟩
      have HB5 := Hid.mk' (below_chS HB4.out hb5)
      clear hb5
      go_wp2_with fail
      refine (HSI.out _).mono ?_
      rintro e w6 ⟨rfl, hb6⟩
      have HB6 := Hid.mk' (below_chS HB5.out hb6)
      clear hb6
      go_wp2_with fail
      go_ret
      exact ⟨rfl, HB6.out⟩
    · have he0 : shE p n z x = 0 := by omega
      obtain ⟨P, X, c, rfl, rfl, hP2, hP9, hpr, hX1, hXP, hX24, h0, h12, hc, hzc⟩ := shE_ok he0
      obtain ⟨b, o, rfl, hrow⟩ : ∃ b o, ad = some ⟨b, o, none⟩ ∧ RowAt w b o n z := by
        rcases hz with ⟨_, _, _, hx⟩ | ⟨b, o, cap', hx, _, hr⟩
        · omega
        · obtain ⟨rfl, _⟩ : ad = _ ∧ _ := by simpa using hx
          exact ⟨b, o, rfl, hr⟩
      have HVA := Hid.mk' (fun (W : World) (hb : Below w.heap.size w W) (i : Nat) (hi : i ≤ 24) => ValueAt_any P i n b o cap c W (fun j hj => by have := hrow.later hb j hj; rw [this, hzc j hj]) hc hP2 hP9 (by omega) h12)
      have HSO := Hid.mk' (fun (v : Value) (W : World) (hv : NumsAt W v n z) => (show ∃ b3 o3 c3, v = .slice (some ⟨b3, o3, none⟩) n c3 ∧ Calls Tryd.prog 18 #[.int .i64 (P : Int), .slice (some ⟨b3, o3, none⟩) n c3, .int .i64 (X : Int)] W fun e w' => ∃ g, e = .returned (.tuple #[.slice (some ⟨g, 0, none⟩) X X, .nilIface]) ∧ RowAt w' g 0 X (shaN P n c) ∧ Below W.heap.size W w' by
        rcases hv with ⟨_, _, _, hx⟩ | ⟨b3, o3, c3, rfl, _, hr3⟩
        · omega
        · exact ⟨b3, o3, c3, rfl, Share_ok P X n b3 o3 c3 c W (fun j hj => by rw [hr3 j hj, hzc j hj]) hc hP2 hP9 hpr hX1 hXP hX24 h0 h12⟩))
      rw [he0] at HSE HCD
      rw [errV_zero] at HCD
      obtain ⟨i0, hi, hz0, hz1, hz2⟩ := info_parts Tryd.infoInt
      have HINF : Hid (Tryd.prog.info? 3 = some i0 ∧ i0.zero = some (.int .i64 0) ∧ i0.size = 1 ∧ i0.bytes = 8) := ⟨hi, hz0, hz1, hz2⟩
      have hXI : (X : Int) ≤ 24 := by omega
      clear hE hz he he0 hle hi hz0 hz1 hz2 hrow hzc hc
      go_enter Tryd.func4, Tryd.ntmps4
      go_wp2_with fail
      refine HP.out.mono ?_
      rintro e w1 ⟨rfl, hb1⟩
      have HB1 := Hid.mk' hb1
      clear hb1
      go_wp2_with fail
      refine (HSE.out _ HB1.out).mono ?_
      rintro e w2 ⟨rfl, hw2⟩
      rw [hw2]
      clear hw2 w2
      go_wp2_with fail
      go_loopw [9, 10] (fun v t wr => ∃ k : Nat, k ≤ X ∧ t = .int .i64 ((k : Int) + 1) ∧ Hid (wr.ownsRow w1.heap.size 3 1 v k (numCells (shaN P n c) k)) ∧ Hid (Below w1.heap.size w1 wr)) (fun _ t _ => ((X : Int) + 1 - intOf t).toNat)
      case atStart => exact ⟨0, Nat.zero_le _, rfl, ⟨rfl, Or.inl ⟨rfl, rfl⟩⟩, Below.refl _ _⟩
      case round =>
        obtain ⟨k, hk, rfl, HO, HB⟩ := hrel
        rcases Nat.lt_or_ge k X with h1 | h1
        · have hkX : (k : Int) + 1 ≤ (X : Int) := by omega
          have hV := HVA.out wr (below_chS HB1.out HB.out) (k + 1) (by omega)
          rw [Int.natCast_add] at hV
          have HY : Hid (shaN P n c k = (valN P c (k + 1) n : Int)) := rfl
          have hzB := HB.out.size
          generalize valN P c (k + 1) n = y at *
          go_wp2_with fail
          refine hV.mono ?_
          rintro e w3 ⟨rfl, hw3⟩
          rw [hw3]
          clear hw3 hV w3
          go_wp2_with (at_builtin; go_must (refine wpList_append_lies _ rfl _ _ _ rfl w1.heap.size 3 i0 _ 1 8 Tryd.underlying22 HINF.out.1 HINF.out.2.1 HINF.out.2.2.1 HINF.out.2.2.2 rfl (by omega) u9 _ _ rfl (HO.out.alloc _) ⟨wr.heap.size, 0, none⟩ 1 1 [.int .i64 (y : Int)] rfl rfl (one_new _ _ _) (by simp [Value.oneCell']) (by omega) (by unfold maxLen; omega) (by omega) (by simp; omega) _ rfl ?_; intro g' cap2 w3 hown3 hgrow3 hat3 hlt3; have HO3 := Hid.mk' hown3; have HG3 := Hid.mk' hgrow3; clear hown3 hgrow3 hat3))
          refine ⟨⟨k + 1, by omega, by go_num, ?_, below_push HB.out HO.out HG3.out⟩, by simp [intOf]; omega⟩
          show World.ownsRow _ _ _ _ _ _ _
          have h9 := HO3.out
          rw [← HY.out] at h9
          exact h9
        · obtain rfl : k = X := by omega
          have hzB := below_chS HB1.out HB.out
          have HBR := Hid.mk' hzB
          have HW := Hid.mk' (numsAt_own HO.out)
          obtain ⟨wa, wc, hwv⟩ := (numsAt_own HO.out).form
          have HWV := Hid.mk' hwv
          clear hzB hwv
          go_wp2_with fail
          refine (HIN.out _ HBR.out).mono ?_
          rintro e w3 ⟨v3, rfl, hv3, hb3⟩
          have HB3 := Hid.mk' (below_chS HBR.out hb3)
          have HW3 := Hid.mk' (HW.out.later hb3)
          obtain ⟨b3, o3, c3, hv3e, hS⟩ := HSO.out v3 w3 hv3
          rw [hv3e]
          clear hb3 hv3 hv3e v3
          go_wp2_with fail
          refine hS.mono ?_
          rintro e w4 ⟨g4, rfl, hr4, hb4⟩
          have HB4 := Hid.mk' (below_chS HB3.out hb4)
          have HW4 := Hid.mk' (HW3.out.later hb4)
          have HR4 := Hid.mk' hr4
          clear hb4 hr4 hS
          go_wp2_with fail
          refine (HCD.out _ HB4.out).mono ?_
          rintro e w5 ⟨rfl, hb5⟩
          have HB5 := Hid.mk' (below_chS HB4.out hb5)
          have HW5 := Hid.mk' (HW4.out.later hb5)
          have HR5 := Hid.mk' (HR4.out.later hb5)
          clear hb5
          go_wp2_with fail
          refine (SameInts_any _ _ k (shaN P n c) w5 (Or.inr ⟨g4, 0, k, rfl, by omega, HR5.out⟩) HW5.out (by omega)).mono ?_
          rintro e w6 ⟨rfl, hb6⟩
          have HB6 := Hid.mk' (below_chS HB5.out hb6)
          clear hb6
          go_wp2_with fail
          go_ret
          exact ⟨rfl, HB6.out⟩
end Go.Proofs.YtgklaadkglbclaaDoor
