/- The law SecretPerfect. -/
import Derived.Test.YtgklaadkglbclaaDoorSkSo
import Derived.Test.YtgklaadkglbclaaDoorSkCi
import Derived.Test.YtgklaadkglbclaaDoorCodedV
namespace Go.Proofs.YtgklaadkglbclaaDoor
open Go.RowKit

theorem fewB_ok {n R : Nat} {ns : Nat → Nat} (h : fewB n R ns = true) : n ≤ 100 ∧ R ≤ 40 ∧ sumT ns R ≤ 400 ∧ ∀ i, i < R → ns i ≤ 400 := by
  unfold fewB at h
  simp only [Bool.and_eq_true, decide_eq_true_eq] at h
  refine ⟨h.1, h.2.1, h.2.2, fun i hi => ?_⟩
  have h2 : sumT ns i + ns i ≤ sumT ns R := sumT_mono ns hi
  omega
set_option maxRecDepth 100000 in
set_option maxHeartbeats 8000000 in
theorem SecretPerfect_all (a : Nat → Addr) (ka : Option Addr) (n kc : Nat) (z : Nat → Int) (la : Option Addr) (R lc : Nat) (vs : Nat → Value) (ns : Nat → Nat) (zs : Nat → Nat → Int) (w : World) (hE : Errs w a) (hk : NumsAt w (.slice ka n kc) n z) (hm : n ≤ maxLen) (hl : TabAt w (.slice la R lc) R vs ns zs) (hM : R ≤ maxLen) (hroom : Roomy R vs ns) (hs : sumT ns R ≤ 2000000) :
    Calls Tryd.prog 3 #[.agg #[.slice ka n kc, .slice la R lc]] w fun e w' => e = .returned (.bool true) ∧ Below w.heap.size w w' := by
  obtain ⟨w1, hw1⟩ : ∃ w1, w1 = w.alloc (.cells #[.slice ka n kc, .slice la R lc] 25) := ⟨_, rfl⟩
  have hb1 : Below w.heap.size w w1 := by rw [hw1]; exact (Below.refl _ _).alloc (Nat.le_refl _) _
  have hc0 : w1.cell? ⟨w.heap.size, 0, none⟩ = some (.slice ka n kc) := by rw [hw1]; go_simp
  have hc1 : w1.cell? ⟨w.heap.size, 1, none⟩ = some (.slice la R lc) := by rw [hw1]; go_simp
  have HB1 := Hid.mk' hb1
  have HW1 := Hid.mk' hw1
  have HC : Hid (∀ W, Below w1.heap.size w1 W → W.cell? ⟨w.heap.size, 0, none⟩ = some (.slice ka n kc) ∧ W.cell? ⟨w.heap.size, 1, none⟩ = some (.slice la R lc)) := fun W hb => ⟨by rw [hb.cell (cell_lt hc0)]; exact hc0, by rw [hb.cell (cell_lt hc1)]; exact hc1⟩
  have HE := Hid.mk' (fun (W : World) (hb : Below w1.heap.size w1 W) => (hE.below hb1).below hb)
  have HK := Hid.mk' (fun (W : World) (hb : Below w1.heap.size w1 W) => (hk.later hb1).later hb)
  have HL := Hid.mk' (fun (W : World) (hb : Below w1.heap.size w1 W) => (hl.later hb1).later hb)
  have HP := Hid.mk' (pad_any a w1 (hE.below hb1))
  have HFK := Hid.mk' (fun (W : World) (hb : Below w1.heap.size w1 W) => fewKeys_any _ _ n z R vs ns zs W (HK.out W hb) (HL.out W hb) hm hM hs)
  clear hE hk hl hb1 hw1 hc0 hc1
  cases hfw : fewB n R ns with
  | false =>
    rw [hfw] at HFK
    clear hfw
    go_enter Tryd.func3, Tryd.ntmps3
    go_wp2_with fail
    rw [← HW1.out]
    refine HP.out.mono ?_
    rintro e w2 ⟨rfl, hb2⟩
    have HB2 := Hid.mk' hb2
    have c0 := (HC.out w2 hb2).1
    have c1 := (HC.out w2 hb2).2
    clear hb2
    go_wp2_with fail
    refine (HFK.out w2 HB2.out).mono ?_
    rintro e w3 ⟨rfl, hb3⟩
    have HB3 := Hid.mk' (below_chS HB2.out hb3)
    clear hb3 c0 c1
    go_wp2_with fail
    go_ret
    exact ⟨rfl, below_chS HB1.out HB3.out⟩
  | true =>
    obtain ⟨hn100, hR40, hs400, hns⟩ := fewB_ok hfw
    rw [hfw] at HFK
    have HCE := Hid.mk' (fun (W : World) (hb : Below w1.heap.size w1 W) => CipherError_any _ _ n z R vs ns zs W (HK.out W hb) (HL.out W hb) hroom (by omega) (by omega) (fun i hi => by have := hns i hi; omega))
    have HCI := Hid.mk' (fun (W : World) (hb : Below w1.heap.size w1 W) => cipher_any _ _ n z R vs ns zs W (HK.out W hb) (HL.out W hb) hn100 hR40 hs400)
    have HPF := Hid.mk' (fun (kv lv : Value) (us : Nat → Value) (W : World) (hb : Below w1.heap.size w1 W) (hu : NumsAt W kv n z) (ht : TabAt W lv R us ns zs) => Perfect_any a kv lv n z R us ns zs W (HE.out W hb) hu ht (by omega) (by omega) (fun i hi => by have := hns i hi; omega))
    have HVL := Hid.mk' (fun (kv lv : Value) (us : Nat → Value) (W : World) (hb : Below w1.heap.size w1 W) (hu : NumsAt W kv n z) (ht : TabAt W lv R us ns zs) => SkValid_any a kv lv n z R us ns zs W (HE.out W hb) hu ht (by omega) (by omega) (fun i hi => by have := hns i hi; omega))
    have hle := ciErr_le n z R ns zs
    have HCD : Hid (∀ W, Below w1.heap.size w1 W → Calls Tryd.prog 14 #[errV a (ciErr n z R ns zs), .int .i64 (ciErr n z R ns zs : Nat)] W fun e w' => e = .returned (.bool true) ∧ Below W.heap.size W w') := fun W hb => coded_errV a (ciErr n z R ns zs) (by omega) W (HE.out W hb)
    by_cases he : ciErr n z R ns zs ≠ 0
    · have hPA : perfA n z R ns zs = false := by unfold perfA; rw [decide_eq_false he]; rfl
      rw [hPA] at HPF
      rw [errV_pos a he] at HPF HVL HCD
      have hq0 : ((ciErr n z R ns zs : Int) == 0) = false := by rw [beq_eq_false_iff_ne]; omega
      generalize ciErr n z R ns zs = q at *
      clear hfw he hPA hroom hns hn100 hR40 hs400
      go_enter Tryd.func3, Tryd.ntmps3
      go_wp2_with fail
      rw [← HW1.out]
      refine HP.out.mono ?_
      rintro e w2 ⟨rfl, hb2⟩
      have HB2 := Hid.mk' hb2
      have c0 := (HC.out w2 hb2).1
      have c1 := (HC.out w2 hb2).2
      clear hb2
      go_wp2_with fail
      refine (HFK.out w2 HB2.out).mono ?_
      rintro e w3 ⟨rfl, hb3⟩
      have hb3' := below_chS HB2.out hb3
      have HB3 := Hid.mk' hb3'
      clear hb3 c0 c1
      have c0 := (HC.out w3 hb3').1
      have c1 := (HC.out w3 hb3').2
      clear hb3'
      go_wp2_with fail
      refine (HCE.out w3 HB3.out).mono ?_
      rintro e w4 ⟨rfl, hb4⟩
      have hb4' := below_chS HB3.out hb4
      have HB4 := Hid.mk' hb4'
      clear hb4 c0 c1
      have c0 := (HC.out w4 hb4').1
      have c1 := (HC.out w4 hb4').2
      clear hb4'
      go_wp2_with fail
      refine (HCI.out w4 HB4.out).mono ?_
      rintro e w5 ⟨kv5, lv5, us5, rfl, hu5, ht5, hb5⟩
      have hb5' := below_chS HB4.out hb5
      have HB5 := Hid.mk' hb5'
      have hP5 := HPF.out kv5 lv5 us5 w5 hb5' hu5 ht5
      clear hb5 c0 c1 hu5 ht5 hb5'
      go_wp2_with fail
      refine hP5.mono ?_
      rintro e w6 ⟨rfl, hb6⟩
      have hb6' := below_chS HB5.out hb6
      have HB6 := Hid.mk' hb6'
      have c0 := (HC.out w6 hb6').1
      have c1 := (HC.out w6 hb6').2
      clear hb6 hb6' hP5
      go_wp2_with fail
      refine (HCI.out w6 HB6.out).mono ?_
      rintro e w7 ⟨kv7, lv7, us7, rfl, hu7, ht7, hb7⟩
      have hb7' := below_chS HB6.out hb7
      have HB7 := Hid.mk' hb7'
      have hV7 := HVL.out kv7 lv7 us7 w7 hb7' hu7 ht7
      clear hb7 c0 c1 hu7 ht7 hb7'
      go_wp2_with fail
      refine hV7.mono ?_
      rintro e w8 ⟨rfl, hb8⟩
      have HB8 := Hid.mk' (below_chS HB7.out hb8)
      clear hb8 hV7
      go_wp2_with fail
      refine (HCD.out w8 HB8.out).mono ?_
      rintro e w9 ⟨rfl, hb9⟩
      have HB9 := Hid.mk' (below_chS HB8.out hb9)
      clear hb9
      go_wp2_with fail
      refine (HCD.out w9 HB9.out).mono ?_
      rintro e w10 ⟨rfl, hb10⟩
      have HB10 := Hid.mk' (below_chS HB9.out hb10)
      clear hb10
      go_wp2_with fail
      go_ret
      exact ⟨rfl, below_chS HB1.out HB10.out⟩
    · have he0 : ciErr n z R ns zs = 0 := by omega
      have hok := ciErr_ok he0
      have hPA : perfA n z R ns zs = perfB (fun m s => wayZ z zs m s n) (topN (ns 0) zs n) (ns 0) := by unfold perfA; rw [decide_eq_true he0]; rfl
      have HSO := Hid.mk' (fun (W : World) (hb : Below w1.heap.size w1 W) => SignsOf_any _ _ n z R vs ns zs W (HK.out W hb) (HL.out W hb) hok)
      rw [hPA, he0, errV_zero] at HPF
      rw [he0, errV_zero] at HVL HCD
      rw [he0] at HCE
      have h0 := hok.len0
      have hC16 : ns 0 ≤ 16 := rowB_short (hok.row 0 hok.w.posN)
      have hT16 := topN_le hok.row h0 n (Nat.le_refl _)
      have hT0 : 0 < topN (ns 0) zs n := Nat.lt_of_le_of_lt (Nat.zero_le _) (topN_at (i := 0) (m := 0) hok.w.posN h0)
      generalize topN (ns 0) zs n = T at *
      generalize ns 0 = C at *
      generalize hZe : (fun m s => wayZ z zs m s n) = Z at HPF
      have HZ : Hid (∀ i s, wayZ z zs i s n = Z i s) := fun i s => by rw [← hZe]
      have hCI : (C : Int) ≤ 16 := by omega
      have h0I : (0 : Int) < (C : Int) := by omega
      clear hfw he he0 hPA hroom hns hn100 hR40 hs400 hok hZe hle
      go_enter Tryd.func3, Tryd.ntmps3
      go_wp2_with fail
      rw [← HW1.out]
      refine HP.out.mono ?_
      rintro e w2 ⟨rfl, hb2⟩
      have HB2 := Hid.mk' hb2
      have c0 := (HC.out w2 hb2).1
      have c1 := (HC.out w2 hb2).2
      clear hb2
      go_wp2_with fail
      refine (HFK.out w2 HB2.out).mono ?_
      rintro e w3 ⟨rfl, hb3⟩
      have hb3' := below_chS HB2.out hb3
      have HB3 := Hid.mk' hb3'
      clear hb3 c0 c1
      have c0 := (HC.out w3 hb3').1
      have c1 := (HC.out w3 hb3').2
      clear hb3'
      go_wp2_with fail
      refine (HCE.out w3 HB3.out).mono ?_
      rintro e w4 ⟨rfl, hb4⟩
      have hb4' := below_chS HB3.out hb4
      have HB4 := Hid.mk' hb4'
      clear hb4 c0 c1
      have c0 := (HC.out w4 hb4').1
      have c1 := (HC.out w4 hb4').2
      clear hb4'
      go_wp2_with fail
      refine (HSO.out w4 HB4.out).mono ?_
      rintro e w5 ⟨g, gc, rb, cp, rfl, hG⟩
      have HG : Hid (GridC w4 w5 g C T rb cp (fun i s => .int .i64 (Z i s))) := hG.cast fun i s _ _ => by rw [HZ.out]
      have HB5 := Hid.mk' (below_chS HB4.out hG.below)
      clear hG c0 c1
      go_wp2_with fail
      go_loopw [5, 7] (fun q t wr => ∃ k : Nat, k ≤ C ∧ t = .int .i64 k ∧ q = .bool (perfB Z T k) ∧ Hid (Below w5.heap.size w5 wr)) (fun _ t _ => C - (intOf t).toNat)
      case atStart => exact ⟨0, Nat.zero_le _, rfl, rfl, Below.refl _ _⟩
      case round =>
        obtain ⟨k, hk, rfl, rfl, HX⟩ := hrel
        rcases Nat.lt_or_ge k C with h1 | h1
        · have hkI : (k : Int) < (C : Int) := by omega
          have hk0 : (0 : Int) ≤ (k : Int) := by omega
          have HN : Hid (perfB Z T (k + 1) = (perfB Z T k && sameB (Z k) (Z 0) T)) := rfl
          cases hq : perfB Z T k with
          | false =>
            rw [hq] at HN
            clear hq
            go_wp2_with fail
            go_quiet (fail)
            go_wp2_with fail
            exact ⟨⟨k + 1, h1, by go_num, by rw [HN.out]; rfl, Hid.mk' (below_drewN HX.out _)⟩, by simp [intOf]; omega⟩
          | true =>
            rw [hq] at HN
            clear hq
            have HCC : Hid (∀ W, Below w5.heap.size w5 W → W.cell? ⟨g, k, none⟩ = some (.slice (some ⟨rb k, 0, none⟩) T (cp k)) ∧ W.cell? ⟨g, 0, none⟩ = some (.slice (some ⟨rb 0, 0, none⟩) T (cp 0))) := fun W hb => ⟨(HG.out.later hb).made k h1, (HG.out.later hb).made 0 h0⟩
            have HSI : Hid (∀ W, Below w5.heap.size w5 W → Calls Tryd.prog 11 #[.slice (some ⟨rb k, 0, none⟩) T (cp k), .slice (some ⟨rb 0, 0, none⟩) T (cp 0)] W fun e w' => e = .returned (.bool (sameB (Z k) (Z 0) T)) ∧ Below W.heap.size W w') := fun W hb => SameInts_gen (rb k) 0 (cp k) (rb 0) 0 (cp 0) T (Z k) (Z 0) W (fun i hi => by rw [Nat.zero_add]; exact ((HG.out.later hb).rows k h1).row i hi) (fun i hi => by rw [Nat.zero_add]; exact ((HG.out.later hb).rows 0 h0).row i hi) (by omega)
            have hcur0 : Below w5.heap.size w5 wr := HX.out
            have hcur : Below w5.heap.size w5 wr.drew := HX.out.drew
            have y0 := (HCC.out wr hcur0).1
            have y1 := (HCC.out wr hcur0).2
            generalize sameB (Z k) (Z 0) T = q at *
            go_wp2_with fail
            go_region_held3 (fun W => W.cell? ⟨g, k, none⟩ = some (.slice (some ⟨rb k, 0, none⟩) T (cp k)) ∧ W.cell? ⟨g, 0, none⟩ = some (.slice (some ⟨rb 0, 0, none⟩) T (cp 0))) (first | exact HCC.out _ hcur0 | exact HCC.out _ hcur | exact HCC.out _ hcu5) (first
              | (go_at_call 11; refine (HSI.out _ hcur).mono ?_; rintro e w9 ⟨rfl, hb9⟩; have hcu5 := below_chS hcur hb9; clear hb9))
            go_wp2_with fail
            exact ⟨⟨k + 1, h1, by go_num, by rw [HN.out]; simp, Hid.mk' hcu5⟩, by simp [intOf]; omega⟩
        · obtain rfl : k = C := by omega
          have hb6' := below_chS HB5.out HX.out
          have HB6 := Hid.mk' hb6'
          have c0 := (HC.out wr hb6').1
          have c1 := (HC.out wr hb6').2
          generalize perfB Z T k = q at *
          have hqq : (q == q) = true := by simp
          clear hb6'
          go_wp2_with fail
          refine (HCI.out wr HB6.out).mono ?_
          rintro e w7 ⟨kv5, lv5, us5, rfl, hu5, ht5, hb5⟩
          have hb5' := below_chS HB6.out hb5
          have HB7 := Hid.mk' hb5'
          have hP5 := HPF.out kv5 lv5 us5 w7 hb5' hu5 ht5
          clear hb5 c0 c1 hu5 ht5 hb5'
          go_wp2_with fail
          refine hP5.mono ?_
          rintro e w8 ⟨rfl, hb8⟩
          have hb8' := below_chS HB7.out hb8
          have HB8 := Hid.mk' hb8'
          have c0 := (HC.out w8 hb8').1
          have c1 := (HC.out w8 hb8').2
          clear hb8 hb8' hP5
          go_wp2_with fail
          refine (HCI.out w8 HB8.out).mono ?_
          rintro e w9 ⟨kv7, lv7, us7, rfl, hu7, ht7, hb7⟩
          have hb7' := below_chS HB8.out hb7
          have HB9 := Hid.mk' hb7'
          have hV7 := HVL.out kv7 lv7 us7 w9 hb7' hu7 ht7
          clear hb7 c0 c1 hu7 ht7 hb7'
          go_wp2_with fail
          refine hV7.mono ?_
          rintro e w10 ⟨rfl, hb10⟩
          have HB10 := Hid.mk' (below_chS HB9.out hb10)
          clear hb10 hV7
          go_wp2_with fail
          refine (HCD.out w10 HB10.out).mono ?_
          rintro e w11 ⟨rfl, hb11⟩
          have HB11 := Hid.mk' (below_chS HB10.out hb11)
          clear hb11
          go_wp2_with fail
          refine (HCD.out w11 HB11.out).mono ?_
          rintro e w12 ⟨rfl, hb12⟩
          have HB12 := Hid.mk' (below_chS HB11.out hb12)
          clear hb12
          go_wp2_with fail
          go_ret
          exact ⟨rfl, below_chS HB1.out HB12.out⟩
end Go.Proofs.YtgklaadkglbclaaDoor
