/- The law RenyiFamilies. -/
import Derived.Test.YtiegobkbinojeaaDoorRyFm
import Derived.Test.YtiegobkbinojeaaDoorRyRef
import Derived.Test.YtiegobkbinojeaaDoorRyUd
import Derived.Test.YtiegobkbinojeaaDoorRyGs
import Derived.Test.YtiegobkbinojeaaDoorCodedV
namespace Go.Proofs.YtiegobkbinojeaaDoor
open Go.RowKit

set_option maxRecDepth 100000 in
set_option maxHeartbeats 8000000 in
theorem RenyiFamilies_all (a : Nat → Addr) (M : Int) (la : Option Addr) (R lc : Nat) (vs : Nat → Value) (ns : Nat → Nat) (zs : Nat → Nat → Int) (w : World) (hE : Errs w a) (hl : TabAt w (.slice la R lc) R vs ns zs) (hM : R ≤ maxLen) (hs : sumT ns R ≤ 2000000) :
    Calls Tryd.prog 3 #[.agg #[.int .i64 M, .slice la R lc]] w fun e w' => e = .returned (.bool true) ∧ Below w.heap.size w w' := by
  obtain ⟨w1, hw1⟩ : ∃ w1, w1 = w.alloc (.cells #[.int .i64 M, .slice la R lc] 24) := ⟨_, rfl⟩
  have hb1 : Below w.heap.size w w1 := by rw [hw1]; exact (Below.refl _ _).alloc (Nat.le_refl _) _
  have hc0 : w1.cell? ⟨w.heap.size, 0, none⟩ = some (.int .i64 M) := by rw [hw1]; go_simp
  have hc1 : w1.cell? ⟨w.heap.size, 1, none⟩ = some (.slice la R lc) := by rw [hw1]; go_simp
  have HB1 := Hid.mk' hb1
  have HW1 := Hid.mk' hw1
  have HC : Hid (∀ W, Below w1.heap.size w1 W → W.cell? ⟨w.heap.size, 0, none⟩ = some (.int .i64 M) ∧ W.cell? ⟨w.heap.size, 1, none⟩ = some (.slice la R lc)) := fun W hb => ⟨by rw [hb.cell (cell_lt hc0)]; exact hc0, by rw [hb.cell (cell_lt hc1)]; exact hc1⟩
  have HE := Hid.mk' (fun (W : World) (hb : Below w1.heap.size w1 W) => (hE.below hb1).below hb)
  have HL := Hid.mk' (fun (W : World) (hb : Below w1.heap.size w1 W) => (hl.later hb1).later hb)
  have HP := Hid.mk' (dice_any a w1 (hE.below hb1))
  have HFW := Hid.mk' (fun (W : World) (hb : Below w1.heap.size w1 W) => few_any _ R vs ns zs W (HL.out W hb) hM hs (decide (R ≤ 70 ∧ sumT ns R ≤ 1200)) (by simp))
  clear hE hl hb1 hw1 hc0 hc1
  by_cases hfw : R ≤ 70 ∧ sumT ns R ≤ 1200
  · rw [decide_eq_true hfw] at HFW
    obtain ⟨hR, hS⟩ := hfw
    have hns : ∀ i, i < R → ns i ≤ 1200 := fun i hi => by
      have h2 : sumT ns i + ns i ≤ sumT ns R := sumT_mono ns hi
      omega
    have HFE := Hid.mk' (fun (W : World) (hb : Below w1.heap.size w1 W) => FamilyError_any M _ R vs ns zs W (HL.out W hb) (by omega) (fun i hi => by have := hns i hi; omega))
    have HFM := Hid.mk' (fun (W : World) (hb : Below w1.heap.size w1 W) => family_any M _ R vs ns zs W (HL.out W hb) hR hS)
    have HVL := Hid.mk' (fun (v : Value) (us : Nat → Value) (W : World) (hb : Below w1.heap.size w1 W) (ht : TabAt W v R us ns zs) => Valid_fam a M v R us ns zs W (HE.out W hb) ht (by omega) (fun i hi => by have := hns i hi; omega))
    have hle := famErr_le M R ns zs
    have HCD : Hid (∀ W, Below w1.heap.size w1 W → Calls Tryd.prog 12 #[errV a (famErr M R ns zs), .int .i64 (famErr M R ns zs : Nat)] W fun e w' => e = .returned (.bool true) ∧ Below W.heap.size W w') := fun W hb => coded_errV a (famErr M R ns zs) hle W (HE.out W hb)
    by_cases he : famErr M R ns zs ≠ 0
    · have HUN := Hid.mk' (fun (v : Value) (us : Nat → Value) (W : World) (hb : Below w1.heap.size w1 W) (ht : TabAt W v R us ns zs) => Universal_bad a M v R us ns zs W (HE.out W hb) ht (by omega) (fun i hi => by have := hns i hi; omega) he)
      rw [errV_pos a he] at HUN HVL HCD
      have hq0 : ((famErr M R ns zs : Int) == 0) = false := by rw [beq_eq_false_iff_ne]; omega
      generalize famErr M R ns zs = q at *
      clear he hns hR hS hle
      go_enter Tryd.func3, Tryd.ntmps3
      go_upto_region 1 with fail
      rw [← HW1.out]
      go_wp2_with fail
      refine HP.out.mono ?_
      rintro e w2 ⟨rfl, hb2⟩
      have HB2 := Hid.mk' hb2
      have c0 := (HC.out w2 hb2).1
      have c1 := (HC.out w2 hb2).2
      clear hb2
      go_wp2_with fail
      refine (HFW.out w2 HB2.out).mono ?_
      rintro e w3 ⟨rfl, hb3⟩
      have hb3' := below_chain HB2.out hb3
      have HB3 := Hid.mk' hb3'
      clear hb3 c0 c1
      have c0 := (HC.out w3 hb3').1
      have c1 := (HC.out w3 hb3').2
      clear hb3'
      go_wp2_with fail
      refine (HFE.out w3 HB3.out).mono ?_
      rintro e w4 ⟨rfl, hb4⟩
      have hb4' := below_chain HB3.out hb4
      have HB4 := Hid.mk' hb4'
      clear hb4 c0 c1
      have c0 := (HC.out w4 hb4').1
      have c1 := (HC.out w4 hb4').2
      clear hb4'
      go_wp2_with fail
      refine (HFM.out w4 HB4.out).mono ?_
      rintro e w5 ⟨lv5, us5, rfl, ht5, hb5⟩
      have hb5' := below_chain HB4.out hb5
      have HB5 := Hid.mk' hb5'
      have hU5 := HUN.out lv5 us5 w5 hb5' ht5
      clear hb5 c0 c1 ht5 hb5'
      go_wp2_with fail
      refine hU5.mono ?_
      rintro e w6 ⟨rfl, hb6⟩
      have hb6' := below_chain HB5.out hb6
      have HB6 := Hid.mk' hb6'
      have c0 := (HC.out w6 hb6').1
      have c1 := (HC.out w6 hb6').2
      clear hb6 hb6' hU5
      go_wp2_with fail
      refine (HFM.out w6 HB6.out).mono ?_
      rintro e w7 ⟨lv7, us7, rfl, ht7, hb7⟩
      have hb7' := below_chain HB6.out hb7
      have HB7 := Hid.mk' hb7'
      have hV7 := HVL.out lv7 us7 w7 hb7' ht7
      clear hb7 c0 c1 ht7 hb7'
      go_wp2_with fail
      refine hV7.mono ?_
      rintro e w8 ⟨rfl, hb8⟩
      have HB8 := Hid.mk' (below_chain HB7.out hb8)
      clear hb8 hV7
      go_wp2_with fail
      refine (HCD.out w8 HB8.out).mono ?_
      rintro e w9 ⟨rfl, hb9⟩
      have HB9 := Hid.mk' (below_chain HB8.out hb9)
      clear hb9
      go_wp2_with fail
      refine (HCD.out w9 HB9.out).mono ?_
      rintro e w10 ⟨rfl, hb10⟩
      have HB10 := Hid.mk' (below_chain HB9.out hb10)
      clear hb10
      go_wp2_with fail
      go_ret
      exact ⟨rfl, below_chain HB1.out HB10.out⟩
    · have he0 : famErr M R ns zs = 0 := by omega
      have hok := famErr_ok he0
      obtain ⟨m, rfl⟩ : ∃ m : Nat, M = (m : Int) := ⟨M.toNat, by have := hok.m1; omega⟩
      have HUN := Hid.mk' (fun (v : Value) (us : Nat → Value) (W : World) (hb : Below w1.heap.size w1 W) (ht : TabAt W v R us ns zs) => Universal_ok a (m : Int) v R us ns zs W (HE.out W hb) ht he0 (fun i hi => by have := hns i hi; omega))
      have HUD := Hid.mk' (fun (W : World) (hb : Below w1.heap.size w1 W) => IsUniversal_any m _ R vs ns zs W (HL.out W hb) hok)
      rw [he0, errV_zero] at HVL HCD
      rw [he0] at HFE
      generalize uniB (m : Int) R (ns 0) zs = u at *
      have huu : (u == u) = true := by simp
      clear he he0 hok hns hR hS hle
      go_enter Tryd.func3, Tryd.ntmps3
      go_upto_region 1 with fail
      rw [← HW1.out]
      go_wp2_with fail
      refine HP.out.mono ?_
      rintro e w2 ⟨rfl, hb2⟩
      have HB2 := Hid.mk' hb2
      have c0 := (HC.out w2 hb2).1
      have c1 := (HC.out w2 hb2).2
      clear hb2
      go_wp2_with fail
      refine (HFW.out w2 HB2.out).mono ?_
      rintro e w3 ⟨rfl, hb3⟩
      have hb3' := below_chain HB2.out hb3
      have HB3 := Hid.mk' hb3'
      clear hb3 c0 c1
      have c0 := (HC.out w3 hb3').1
      have c1 := (HC.out w3 hb3').2
      clear hb3'
      go_wp2_with fail
      refine (HFE.out w3 HB3.out).mono ?_
      rintro e w4 ⟨rfl, hb4⟩
      have hb4' := below_chain HB3.out hb4
      have HB4 := Hid.mk' hb4'
      clear hb4 c0 c1
      have c0 := (HC.out w4 hb4').1
      have c1 := (HC.out w4 hb4').2
      clear hb4'
      go_wp2_with fail
      refine (HFM.out w4 HB4.out).mono ?_
      rintro e w5 ⟨lv5, us5, rfl, ht5, hb5⟩
      have hb5' := below_chain HB4.out hb5
      have HB5 := Hid.mk' hb5'
      have hU5 := HUN.out lv5 us5 w5 hb5' ht5
      clear hb5 c0 c1 ht5 hb5'
      go_wp2_with fail
      refine hU5.mono ?_
      rintro e w6 ⟨rfl, hb6⟩
      have hb6' := below_chain HB5.out hb6
      have HB6 := Hid.mk' hb6'
      have c0 := (HC.out w6 hb6').1
      have c1 := (HC.out w6 hb6').2
      clear hb6 hb6' hU5
      go_wp2_with fail
      refine (HFM.out w6 HB6.out).mono ?_
      rintro e w7 ⟨lv7, us7, rfl, ht7, hb7⟩
      have hb7' := below_chain HB6.out hb7
      have HB7 := Hid.mk' hb7'
      have hV7 := HVL.out lv7 us7 w7 hb7' ht7
      clear hb7 c0 c1 ht7 hb7'
      go_wp2_with fail
      refine hV7.mono ?_
      rintro e w8 ⟨rfl, hb8⟩
      have HB8 := Hid.mk' (below_chain HB7.out hb8)
      clear hb8 hV7
      go_wp2_with fail
      refine (HCD.out w8 HB8.out).mono ?_
      rintro e w9 ⟨rfl, hb9⟩
      have HB9 := Hid.mk' (below_chain HB8.out hb9)
      clear hb9
      go_wp2_with fail
      refine (HCD.out w9 HB9.out).mono ?_
      rintro e w10 ⟨rfl, hb10⟩
      have hb10' := below_chain HB9.out hb10
      have HB10 := Hid.mk' hb10'
      have c0 := (HC.out w10 hb10').1
      have c1 := (HC.out w10 hb10').2
      clear hb10 hb10'
      go_wp2_with fail
      refine (HUD.out w10 HB10.out).mono ?_
      rintro e w11 ⟨rfl, hb11⟩
      have HB11 := Hid.mk' (below_chain HB10.out hb11)
      clear hb11 c0 c1
      go_wp2_with fail
      go_ret
      exact ⟨rfl, below_chain HB1.out HB11.out⟩
  · rw [decide_eq_false hfw] at HFW
    clear hfw
    go_enter Tryd.func3, Tryd.ntmps3
    go_upto_region 1 with fail
    rw [← HW1.out]
    go_wp2_with fail
    refine HP.out.mono ?_
    rintro e w2 ⟨rfl, hb2⟩
    have HB2 := Hid.mk' hb2
    have c0 := (HC.out w2 hb2).1
    have c1 := (HC.out w2 hb2).2
    clear hb2
    go_wp2_with fail
    refine (HFW.out w2 HB2.out).mono ?_
    rintro e w3 ⟨rfl, hb3⟩
    have HB3 := Hid.mk' (below_chain HB2.out hb3)
    clear hb3 c0 c1
    go_wp2_with fail
    go_ret
    exact ⟨rfl, below_chain HB1.out HB3.out⟩
end Go.Proofs.YtiegobkbinojeaaDoor
