/- The law SecretTable. -/
import Derived.Test.YtdlbnolnkmhdcaaDoorSkTab
import Derived.Test.YtdlbnolnkmhdcaaDoorSkSo
import Derived.Test.YtdlbnolnkmhdcaaDoorSkCi
import Derived.Test.YtdlbnolnkmhdcaaDoorCodedV
import Derived.Test.YtdlbnolnkmhdcaaDoorLol
import Derived.Test.YtdlbnolnkmhdcaaDoorTabErr
namespace Go.Proofs.YtdlbnolnkmhdcaaDoor
open Go.RowKit

theorem fewB_okT {n R : Nat} {ns : Nat → Nat} (h : fewB n R ns = true) : n ≤ 100 ∧ R ≤ 40 ∧ sumT ns R ≤ 400 ∧ ∀ i, i < R → ns i ≤ 400 := by
  unfold fewB at h
  simp only [Bool.and_eq_true, decide_eq_true_eq] at h
  refine ⟨h.1, h.2.1, h.2.2, fun i hi => ?_⟩
  have h2 : sumT ns i + ns i ≤ sumT ns R := sumT_mono ns hi
  omega
/-- The rows of a table as lists. -/
def tabS (R : Nat) (ns : Nat → Nat) (zs : Nat → Nat → Int) : List (List Int) := (List.range R).map fun i => rowL (zs i) (ns i)
theorem atF_rowS {z : Nat → Int} {n i : Nat} (hi : i < n) : atF (rowL z n) i = z i := by
  unfold atF rowL
  rw [List.getD_eq_getElem?_getD, List.getElem?_map, List.getElem?_range hi]; rfl
theorem tab_lolS {w : World} {v : Value} {R : Nat} {vs : Nat → Value} {ns : Nat → Nat} {zs : Nat → Nat → Int} (h : TabAt w v R vs ns zs) : LolAt w v (tabS R ns zs) := by
  have hl : (tabS R ns zs).length = R := by simp [tabS]
  rcases h with ⟨ad, cap, rfl, rfl⟩ | ⟨b, o, cap, rfl, h0, hr⟩
  · exact ⟨ad, cap, by simp [tabS], fun i r hr => by simp [tabS] at hr⟩
  · refine ⟨some ⟨b, o, none⟩, cap, by rw [hl], fun i r hi => ?_⟩
    have hiR : i < R := by rw [← hl]; exact (List.getElem?_eq_some_iff.mp hi).1
    have e : r = rowL (zs i) (ns i) := by
      unfold tabS at hi
      rw [List.getElem?_map, List.getElem?_range hiR] at hi
      exact (Option.some.inj hi).symm
    subst e
    refine ⟨b, o, vs i, rfl, (hr i hiR).1, ?_⟩
    rw [rowL_length]
    exact (hr i hiR).2.congr fun k hk => (atF_rowS hk).symm
theorem lol_nil (w : World) : LolAt w (.slice none 0 0) [] := ⟨none, 0, rfl, fun i r h => by simp at h⟩
theorem tabS_row {R T : Nat} {zs : Nat → Nat → Int} (r : List Int) (hr : r ∈ tabS R (fun _ => T) zs) : r.length = T := by
  obtain ⟨i, hi, rfl⟩ := List.mem_map.mp hr
  rw [rowL_length]

set_option maxRecDepth 100000 in
set_option maxHeartbeats 8000000 in
theorem SecretTable_all (a : Nat → Addr) (ka : Option Addr) (n kc : Nat) (z : Nat → Int) (la : Option Addr) (R lc : Nat) (vs : Nat → Value) (ns : Nat → Nat) (zs : Nat → Nat → Int) (ua : Option Addr) (k uc : Nat) (y : Nat → Int) (w : World) (hE : Errs w a) (hk : NumsAt w (.slice ka n kc) n z) (hm : n ≤ maxLen) (hl : TabAt w (.slice la R lc) R vs ns zs) (hM : R ≤ maxLen) (hroom : Roomy R vs ns) (hu : NumsAt w (.slice ua k uc) k y) (hkm : k ≤ maxLen) (hs : sumT ns R ≤ 2000000) :
    Calls Tryd.prog 3 #[.agg #[.slice ka n kc, .slice la R lc], .slice ua k uc] w fun e w' => e = .returned (.bool true) ∧ Below w.heap.size w w' := by
  obtain ⟨w1, hw1⟩ : ∃ w1, w1 = w.alloc (.cells #[.slice ka n kc, .slice la R lc] 25) := ⟨_, rfl⟩
  have hb1 : Below w.heap.size w w1 := by rw [hw1]; exact (Below.refl _ _).alloc (Nat.le_refl _) _
  have hc0 : w1.cell? ⟨w.heap.size, 0, none⟩ = some (.slice ka n kc) := by rw [hw1]; go_simp
  have hc1 : w1.cell? ⟨w.heap.size, 1, none⟩ = some (.slice la R lc) := by rw [hw1]; go_simp
  have HB1 := Hid.mk' hb1
  have HW1 := Hid.mk' hw1
  have HC : Hid (∀ W, Below w1.heap.size w1 W → W.cell? ⟨w.heap.size, 0, none⟩ = some (.slice ka n kc) ∧ W.cell? ⟨w.heap.size, 1, none⟩ = some (.slice la R lc)) := fun W hb => ⟨by rw [hb.cell (cell_lt hc0)]; exact hc0, by rw [hb.cell (cell_lt hc1)]; exact hc1⟩
  have HE := Hid.mk' (fun (W : World) (hb : Below w1.heap.size w1 W) => (hE.below hb1).below hb)
  have HK := Hid.mk' (fun (W : World) (hb : Below w1.heap.size w1 W) => (hk.later hb1).later hb)
  have HL := Hid.mk' (fun (W : World) (hb : Below w1.heap.size w1 W) => (hl.later hb1).later hb)
  have HU := Hid.mk' (fun (W : World) (hb : Below w1.heap.size w1 W) => (hu.later hb1).later hb)
  have HP := Hid.mk' (pad_any a w1 (hE.below hb1))
  have HFK := Hid.mk' (fun (W : World) (hb : Below w1.heap.size w1 W) => fewKeys_any _ _ n z R vs ns zs W (HK.out W hb) (HL.out W hb) hm hM hs)
  clear hE hk hl hu hb1 hw1 hc0 hc1
  unfold maxLen at hkm
  cases hfw : fewB n R ns with
  | false =>
    rw [hfw] at HFK
    clear hfw
    go_enter Tryd.func3, Tryd.ntmps3
    go_wp2_with fail
    rw [← HW1.out]
    refine HP.out.mono ?_
    rintro e w2 ⟨rfl, hb2⟩
    have HB2 := Hid.mk' hb2
    have c0 := (HC.out w2 hb2).1
    have c1 := (HC.out w2 hb2).2
    clear hb2
    go_wp2_with fail
    refine (HFK.out w2 HB2.out).mono ?_
    rintro e w3 ⟨rfl, hb3⟩
    have HB3 := Hid.mk' (below_chS HB2.out hb3)
    clear hb3 c0 c1
    go_wp2_with fail
    go_ret
    exact ⟨rfl, below_chS HB1.out HB3.out⟩
  | true =>
  by_cases hk100 : 100 < k
  · rw [hfw] at HFK
    have hkI : (100 : Int) < (k : Int) := by omega
    clear hfw
    go_enter Tryd.func3, Tryd.ntmps3
    go_wp2_with fail
    rw [← HW1.out]
    refine HP.out.mono ?_
    rintro e w2 ⟨rfl, hb2⟩
    have HB2 := Hid.mk' hb2
    have c0 := (HC.out w2 hb2).1
    have c1 := (HC.out w2 hb2).2
    clear hb2
    go_wp2_with fail
    refine (HFK.out w2 HB2.out).mono ?_
    rintro e w3 ⟨rfl, hb3⟩
    have HB3 := Hid.mk' (below_chS HB2.out hb3)
    clear hb3 c0 c1
    go_wp2_with fail
    go_ret
    exact ⟨rfl, below_chS HB1.out HB3.out⟩
  have hkI : decide ((100 : Int) < (k : Int)) = false := decide_eq_false (by omega)
  obtain ⟨hn100, hR40, hs400, hns⟩ := fewB_okT hfw
  rw [hfw] at HFK
  have HCE := Hid.mk' (fun (W : World) (hb : Below w1.heap.size w1 W) => CipherError_any _ _ n z R vs ns zs W (HK.out W hb) (HL.out W hb) hroom (by omega) (by omega) (fun i hi => by have := hns i hi; omega))
  have HCI := Hid.mk' (fun (W : World) (hb : Below w1.heap.size w1 W) => cipher_any _ _ n z R vs ns zs W (HK.out W hb) (HL.out W hb) hn100 hR40 hs400)
  have HIN := Hid.mk' (fun (W : World) (hb : Below w1.heap.size w1 W) => ints_any _ k y W (HU.out W hb) (by omega))
  have HWE := Hid.mk' (fun (W : World) (hb : Below w1.heap.size w1 W) => WeightsError_any _ k y W (HU.out W hb) (by omega))
  have HTB := Hid.mk' (fun (kv lv u : Value) (us : Nat → Value) (W : World) (hb : Below w1.heap.size w1 W) (hu : NumsAt W kv n z) (ht : TabAt W lv R us ns zs) (hv : NumsAt W u k y) => SkTable_any a kv lv u n z R us ns zs k y W (HE.out W hb) hu ht hv (by omega) (by omega) (fun i hi => by have := hns i hi; omega) (by omega))
  have hle := tbErr_le n z R ns zs k y
  have HCD : Hid (∀ W, Below w1.heap.size w1 W → Calls Tryd.prog 14 #[errV a (tbErr n z R ns zs k y), .int .i64 (tbErr n z R ns zs k y : Nat)] W fun e w' => e = .returned (.bool true) ∧ Below W.heap.size W w') := fun W hb => coded_errV a (tbErr n z R ns zs k y) (by omega) W (HE.out W hb)
  have HSN : Hid (∀ W, Calls Tryd.prog 15 #[.slice none 0 0, .slice none 0 0] W fun e w' => e = .returned (.bool true) ∧ Below W.heap.size W w') := fun W => SameLists_any _ _ [] W (lol_nil W) (lol_nil W) (by simp) (fun r h => by simp at h)
  by_cases he : ciErr n z R ns zs ≠ 0
  · have het : tbErr n z R ns zs k y = ciErr n z R ns zs := by unfold tbErr; rw [if_pos he]
    rw [het] at HTB HCD
    have HNE := Hid.mk' he
    rw [errV_pos a he] at HTB HCD
    have hq0 : ((ciErr n z R ns zs : Int) == 0) = false := by rw [beq_eq_false_iff_ne]; omega
    generalize ciErr n z R ns zs = q at *
    clear hfw he het hroom hns hn100 hR40 hs400 hle
    go_enter Tryd.func3, Tryd.ntmps3
    go_wp2_with fail
    rw [← HW1.out]
    refine HP.out.mono ?_
    rintro e w2 ⟨rfl, hb2⟩
    have HB2 := Hid.mk' hb2
    have c0 := (HC.out w2 hb2).1
    have c1 := (HC.out w2 hb2).2
    clear hb2
    go_wp2_with fail
    refine (HFK.out w2 HB2.out).mono ?_
    rintro e w3 ⟨rfl, hb3⟩
    have hb3' := below_chS HB2.out hb3
    have HB3 := Hid.mk' hb3'
    clear hb3 c0 c1
    have c0 := (HC.out w3 hb3').1
    have c1 := (HC.out w3 hb3').2
    clear hb3'
    go_wp2_with fail
    refine (HCE.out w3 HB3.out).mono ?_
    rintro e w4 ⟨rfl, hb4⟩
    have hb4' := below_chS HB3.out hb4
    have HB4 := Hid.mk' hb4'
    clear hb4 c0 c1
    have c0 := (HC.out w4 hb4').1
    have c1 := (HC.out w4 hb4').2
    clear hb4'
    go_wp2_with fail
    refine (HCI.out w4 HB4.out).mono ?_
    rintro e w6 ⟨kv5, lv5, us5, rfl, hu5, ht5, hb5⟩
    have HB6 := Hid.mk' (below_chS HB4.out hb5)
    have HU5 := Hid.mk' hu5
    have HV5 := Hid.mk' ht5
    clear hb5 c0 c1 hu5 ht5
    go_wp2_with fail
    refine (HIN.out w6 HB6.out).mono ?_
    rintro e w7 ⟨v7, rfl, hv7, hb7⟩
    have hb7' := below_chS HB6.out hb7
    have HB7 := Hid.mk' hb7'
    have hTB7 := HTB.out kv5 lv5 v7 us5 w7 hb7' (HU5.out.later hb7) (HV5.out.later hb7) hv7
    obtain ⟨a7, c7, rfl⟩ := hv7.form
    clear hb7 hb7' hv7
    go_wp2_with fail
    refine hTB7.mono ?_
    rintro e w8 ⟨t8, rfl, ht8, _, hb8⟩
    obtain rfl := ht8 HNE.out
    have HB8 := Hid.mk' (below_chS HB7.out hb8)
    clear hb8 hTB7 ht8
    go_wp2_with fail
    refine (HCD.out w8 HB8.out).mono ?_
    rintro e w9 ⟨rfl, hb9⟩
    have HB9 := Hid.mk' (below_chS HB8.out hb9)
    clear hb9
    go_wp2_with fail
    refine (HSN.out w9).mono ?_
    rintro e w10 ⟨rfl, hb10⟩
    have HB10 := Hid.mk' (below_chS HB9.out hb10)
    clear hb10
    go_wp2_with fail
    go_ret
    exact ⟨rfl, below_chS HB1.out HB10.out⟩
  have he0 : ciErr n z R ns zs = 0 := by omega
  have hok := ciErr_ok he0
  rw [he0] at HCE
  by_cases he2 : weightsErr y k ≠ 0
  · have het : tbErr n z R ns zs k y = weightsErr y k := by unfold tbErr; rw [if_neg he, if_pos he2]
    rw [het] at HTB HCD
    have HNE := Hid.mk' he2
    rw [errV_pos a he2] at HTB HCD
    have hq0 : ((weightsErr y k : Int) == 0) = false := by rw [beq_eq_false_iff_ne]; omega
    generalize weightsErr y k = q at *
    clear hfw he he0 he2 het hroom hns hn100 hR40 hs400 hle hok
    go_enter Tryd.func3, Tryd.ntmps3
    go_wp2_with fail
    rw [← HW1.out]
    refine HP.out.mono ?_
    rintro e w2 ⟨rfl, hb2⟩
    have HB2 := Hid.mk' hb2
    have c0 := (HC.out w2 hb2).1
    have c1 := (HC.out w2 hb2).2
    clear hb2
    go_wp2_with fail
    refine (HFK.out w2 HB2.out).mono ?_
    rintro e w3 ⟨rfl, hb3⟩
    have hb3' := below_chS HB2.out hb3
    have HB3 := Hid.mk' hb3'
    clear hb3 c0 c1
    have c0 := (HC.out w3 hb3').1
    have c1 := (HC.out w3 hb3').2
    clear hb3'
    go_wp2_with fail
    refine (HCE.out w3 HB3.out).mono ?_
    rintro e w4 ⟨rfl, hb4⟩
    have hb4' := below_chS HB3.out hb4
    have HB4 := Hid.mk' hb4'
    clear hb4 c0 c1
    have c0 := (HC.out w4 hb4').1
    have c1 := (HC.out w4 hb4').2
    clear hb4'
    go_wp2_with fail
    refine (HWE.out w4 HB4.out).mono ?_
    rintro e w14 ⟨rfl, hw14⟩
    rw [hw14]
    clear hw14 w14
    go_wp2_with fail
    refine (HCI.out w4 HB4.out).mono ?_
    rintro e w6 ⟨kv5, lv5, us5, rfl, hu5, ht5, hb5⟩
    have HB6 := Hid.mk' (below_chS HB4.out hb5)
    have HU5 := Hid.mk' hu5
    have HV5 := Hid.mk' ht5
    clear hb5 c0 c1 hu5 ht5
    go_wp2_with fail
    refine (HIN.out w6 HB6.out).mono ?_
    rintro e w7 ⟨v7, rfl, hv7, hb7⟩
    have hb7' := below_chS HB6.out hb7
    have HB7 := Hid.mk' hb7'
    have hTB7 := HTB.out kv5 lv5 v7 us5 w7 hb7' (HU5.out.later hb7) (HV5.out.later hb7) hv7
    obtain ⟨a7, c7, rfl⟩ := hv7.form
    clear hb7 hb7' hv7
    go_wp2_with fail
    refine hTB7.mono ?_
    rintro e w8 ⟨t8, rfl, ht8, _, hb8⟩
    obtain rfl := ht8 HNE.out
    have HB8 := Hid.mk' (below_chS HB7.out hb8)
    clear hb8 hTB7 ht8
    go_wp2_with fail
    refine (HCD.out w8 HB8.out).mono ?_
    rintro e w9 ⟨rfl, hb9⟩
    have HB9 := Hid.mk' (below_chS HB8.out hb9)
    clear hb9
    go_wp2_with fail
    refine (HSN.out w9).mono ?_
    rintro e w10 ⟨rfl, hb10⟩
    have HB10 := Hid.mk' (below_chS HB9.out hb10)
    clear hb10
    go_wp2_with fail
    go_ret
    exact ⟨rfl, below_chS HB1.out HB10.out⟩
  have he20 : weightsErr y k = 0 := by omega
  rw [he20] at HWE
  have hR0 : 0 < R := by have := hok.w.posN; have := hok.same; omega
  obtain ⟨b, o, rfl⟩ : ∃ b o, la = some ⟨b, o, none⟩ := by
    rcases HL.out w1 (Below.refl _ _) with ⟨_, _, _, h1⟩ | ⟨b, o, c, h1, _, h2⟩
    · omega
    · simp only [Value.slice.injEq, true_and] at h1
      exact ⟨b, o, h1.1⟩
  obtain ⟨a0, c9, hv0⟩ : ∃ a0 c0, vs 0 = .slice a0 (ns 0) c0 := by
    rcases HL.out w1 (Below.refl _ _) with ⟨_, _, _, h1⟩ | ⟨b', o', c, h1, _, h2⟩
    · omega
    · exact (h2 0 hR0).2.form
  have HCZ : Hid (∀ W, Below w1.heap.size w1 W → W.cell? ⟨b, o, none⟩ = some (.slice a0 (ns 0) c9)) := fun W hb => by
    rcases HL.out W hb with ⟨_, _, _, h1⟩ | ⟨b', o', c, h1, _, h2⟩
    · omega
    · simp only [Value.slice.injEq, true_and, Option.some.injEq, Addr.mk.injEq] at h1
      obtain ⟨⟨rfl, rfl, -⟩, rfl⟩ := h1
      have := (h2 0 hR0).1
      rwa [Nat.add_zero, hv0] at this
  have hRI : (0 : Int) < (R : Int) := by omega
  by_cases hkC : k ≠ ns 0
  · have het : tbErr n z R ns zs k y = 3 := by unfold tbErr; rw [if_neg he, if_neg he2, if_pos hkC]
    rw [het] at HTB HCD
    have HNE : Hid ((3 : Nat) ≠ 0) := Hid.mk' (by decide)
    rw [errV_three] at HTB HCD
    have hne : ((k : Int) != (ns 0 : Int)) = true := by rw [bne_iff_ne]; omega
    clear hfw he he0 he2 he20 het hroom hns hn100 hR40 hs400 hle hok hkC hv0
    generalize ns 0 = C at *
    go_enter Tryd.func3, Tryd.ntmps3
    go_wp2_with fail
    rw [← HW1.out]
    refine HP.out.mono ?_
    rintro e w2 ⟨rfl, hb2⟩
    have HB2 := Hid.mk' hb2
    have c0 := (HC.out w2 hb2).1
    have c1 := (HC.out w2 hb2).2
    clear hb2
    go_wp2_with fail
    refine (HFK.out w2 HB2.out).mono ?_
    rintro e w3 ⟨rfl, hb3⟩
    have hb3' := below_chS HB2.out hb3
    have HB3 := Hid.mk' hb3'
    clear hb3 c0 c1
    have c0 := (HC.out w3 hb3').1
    have c1 := (HC.out w3 hb3').2
    clear hb3'
    go_wp2_with fail
    refine (HCE.out w3 HB3.out).mono ?_
    rintro e w4 ⟨rfl, hb4⟩
    have hb4' := below_chS HB3.out hb4
    have HB4 := Hid.mk' hb4'
    clear hb4 c0 c1
    have c0 := (HC.out w4 hb4').1
    have c1 := (HC.out w4 hb4').2
    clear hb4'
    have cz := HCZ.out w4 HB4.out
    go_wp2_with fail
    refine (HWE.out w4 HB4.out).mono ?_
    rintro e w14 ⟨rfl, hw14⟩
    rw [hw14]
    clear hw14 w14
    go_wp2_with fail
    refine (HCI.out w4 HB4.out).mono ?_
    rintro e w6 ⟨kv5, lv5, us5, rfl, hu5, ht5, hb5⟩
    have HB6 := Hid.mk' (below_chS HB4.out hb5)
    have HU5 := Hid.mk' hu5
    have HV5 := Hid.mk' ht5
    clear hb5 c0 c1 hu5 ht5
    go_wp2_with fail
    refine (HIN.out w6 HB6.out).mono ?_
    rintro e w7 ⟨v7, rfl, hv7, hb7⟩
    have hb7' := below_chS HB6.out hb7
    have HB7 := Hid.mk' hb7'
    have hTB7 := HTB.out kv5 lv5 v7 us5 w7 hb7' (HU5.out.later hb7) (HV5.out.later hb7) hv7
    obtain ⟨a7, c7, rfl⟩ := hv7.form
    clear hb7 hb7' hv7
    go_wp2_with fail
    refine hTB7.mono ?_
    rintro e w8 ⟨t8, rfl, ht8, _, hb8⟩
    obtain rfl := ht8 HNE.out
    have HB8 := Hid.mk' (below_chS HB7.out hb8)
    clear hb8 hTB7 ht8
    go_wp2_with fail
    refine (HCD.out w8 HB8.out).mono ?_
    rintro e w9 ⟨rfl, hb9⟩
    have HB9 := Hid.mk' (below_chS HB8.out hb9)
    clear hb9
    go_wp2_with fail
    refine (HSN.out w9).mono ?_
    rintro e w10 ⟨rfl, hb10⟩
    have HB10 := Hid.mk' (below_chS HB9.out hb10)
    clear hb10
    go_wp2_with fail
    go_ret
    exact ⟨rfl, below_chS HB1.out HB10.out⟩
  have hkC' : k = ns 0 := by omega
  subst hkC'
  have het : tbErr n z R ns zs (ns 0) y = tabErr (ns 0) (fun _ => topN (ns 0) zs n) (tbZ n z zs y) := by unfold tbErr; rw [if_neg he, if_neg he2, if_neg hkC]
  rw [het] at HTB HCD hle
  have hne : ((ns 0 : Int) != (ns 0 : Int)) = false := by simp
  have HSO := Hid.mk' (fun (W : World) (hb : Below w1.heap.size w1 W) => SignsOf_any _ _ n z R vs ns zs W (HK.out W hb) (HL.out W hb) hok)
  have h0 := hok.len0
  have hC16 : ns 0 ≤ 16 := rowB_short (hok.row 0 hok.w.posN)
  have hT16 := topN_le hok.row h0 n (Nat.le_refl _)
  have hT0 : 0 < topN (ns 0) zs n := Nat.lt_of_le_of_lt (Nat.zero_le _) (topN_at (i := 0) (m := 0) hok.w.posN h0)
  have HWL : Hid (∀ m s, 0 ≤ wayZ z zs m s n ∧ wayZ z zs m s n ≤ 4096) := fun m s => by
    have h1 := wayZ_le (zs := zs) (m := m) (s := s) hok.w.nn n (Nat.le_refl _)
    have h2 := hok.w.le
    exact ⟨h1.1, by omega⟩
  have hoky := (weightsErr_ok he20).2
  have HYL : Hid (∀ m, m < ns 0 → 0 ≤ y m ∧ y m ≤ 4096) := fun m hm => hoky.lt hm
  obtain ⟨ub, uo, rfl⟩ : ∃ ub uo, ua = some ⟨ub, uo, none⟩ := by
    rcases HU.out w1 (Below.refl _ _) with ⟨_, _, _, h1⟩ | ⟨b', o', c, h1, _, h2⟩
    · omega
    · simp only [Value.slice.injEq, true_and] at h1
      exact ⟨b', o', h1.1⟩
  have HUR : Hid (∀ W, Below w1.heap.size w1 W → RowAt W ub uo (ns 0) y) := fun W hb => by
    rcases HU.out W hb with ⟨_, _, _, h1⟩ | ⟨b', o', c, h1, _, h2⟩
    · omega
    · simp only [Value.slice.injEq, true_and, Option.some.injEq, Addr.mk.injEq] at h1
      obtain ⟨⟨rfl, rfl, -⟩, rfl⟩ := h1
      exact h2
  clear he he0 he2 he20 hok hkC hv0 hoky hfw het hroom hns hn100 hR40 hs400
  generalize topN (ns 0) zs n = T at *
  generalize ns 0 = C at *
  have HTE : Hid (∀ (W : World) (vs' : Nat → Value) (v : Value), TabAt W v C vs' (fun _ => T) (tbZ n z zs y) → Calls Tryd.prog 10 #[v] W fun e w' => e = .returned (.int .i64 (tabErr C (fun _ => T) (tbZ n z zs y) : Nat)) ∧ Below W.heap.size W w') := fun W vs' v ht => TableError_any v C vs' (fun _ => T) (tbZ n z zs y) W ht (by omega) (by rw [sumT_const]; exact Nat.le_trans (Nat.mul_le_mul hC16 hT16) (by decide))
  have hCI : (C : Int) ≤ 16 := by omega
  have hTI : (T : Int) ≤ 16 := by omega
  have h0I : (0 : Int) < (C : Int) := by omega
  go_enter Tryd.func3, Tryd.ntmps3
  go_wp2_with fail
  rw [← HW1.out]
  refine HP.out.mono ?_
  rintro e w2 ⟨rfl, hb2⟩
  have HB2 := Hid.mk' hb2
  have c0 := (HC.out w2 hb2).1
  have c1 := (HC.out w2 hb2).2
  clear hb2
  go_wp2_with fail
  refine (HFK.out w2 HB2.out).mono ?_
  rintro e w3 ⟨rfl, hb3⟩
  have hb3' := below_chS HB2.out hb3
  have HB3 := Hid.mk' hb3'
  clear hb3 c0 c1
  have c0 := (HC.out w3 hb3').1
  have c1 := (HC.out w3 hb3').2
  clear hb3'
  go_wp2_with fail
  refine (HCE.out w3 HB3.out).mono ?_
  rintro e w4 ⟨rfl, hb4⟩
  have hb4' := below_chS HB3.out hb4
  have HB4 := Hid.mk' hb4'
  clear hb4 c0 c1
  have c0 := (HC.out w4 hb4').1
  have c1 := (HC.out w4 hb4').2
  clear hb4'
  have cz := HCZ.out w4 HB4.out
  go_wp2_with fail
  refine (HWE.out w4 HB4.out).mono ?_
  rintro e w14 ⟨rfl, hw14⟩
  rw [hw14]
  clear hw14 w14
  go_wp2_with fail
  refine (HSO.out w4 HB4.out).mono ?_
  rintro e w5 ⟨g, gc, rb, cp, rfl, hG⟩
  have HG5 : Hid (GridC w4 w5 g C T rb cp (fun i s => .int .i64 (tbH n z zs y 0 0 i s))) := hG.cast fun i s _ _ => by rw [tbH_start]
  clear hG c0 c1 cz
  go_wp2_with fail
  go_loopw [8] (fun t wr => ∃ m : Nat, m ≤ C ∧ t = .int .i64 m ∧ Hid (GridC w4 wr g C T rb cp (fun i s => .int .i64 (tbH n z zs y m 0 i s)))) (fun t _ => C - (intOf t).toNat)
  case atStart => exact ⟨0, Nat.zero_le _, rfl, HG5⟩
  case round =>
    clear HG5
    obtain ⟨m, hm, rfl, HG⟩ := hrel
    rcases Nat.lt_or_ge m C with h1 | h1
    · have hmI : (m : Int) < (C : Int) := by omega
      have hm0 : (0 : Int) ≤ (m : Int) := by omega
      obtain ⟨wo, hwo⟩ : ∃ wo, wo = wr := ⟨_, rfl⟩
      rw [← hwo] at HG ⊢
      clear hwo
      go_wp2_with fail
      go_loopw [9] (fun t wx => ∃ j : Nat, j ≤ T ∧ t = .int .i64 j ∧ Hid (GridC w4 wx g C T rb cp (fun i s => .int .i64 (tbH n z zs y m j i s)))) (fun t _ => T - (intOf t).toNat)
      case atStart => exact ⟨0, Nat.zero_le _, rfl, HG⟩
      case round =>
        clear HG
        obtain ⟨j, hj, rfl, HX⟩ := hrel
        have hmd := HX.out.made m h1
        rcases Nat.lt_or_ge j T with h2 | h2
        · have hjI : (j : Int) < (T : Int) := by omega
          have hj0 : (0 : Int) ≤ (j : Int) := by omega
          have hcell := (HX.out.rows m h1).row j h2
          have hfz := (HX.out.rows m h1).fz j h2
          have e1 : tbH n z zs y m j m j = wayZ z zs m j n := by unfold tbH; rw [if_neg (by omega)]
          rw [e1] at hcell
          have hcy := HUR.out wr (below_chS HB4.out HX.out.below) m h1
          have HN := Hid.mk' (HX.out.set (i := m) (k := j) h1 h2 (.int .i64 (wayZ z zs m j n * y m)) (f' := fun i s => .int .i64 (tbH n z zs y m (j + 1) i s)) (fun i s _ _ => by
            rw [tbH_next]
            by_cases e : i = m ∧ s = j
            · rw [if_pos e, if_pos e]; rfl
            · rw [if_neg e, if_neg e]))
          have hwl := HWL.out m j
          have hyl := HYL.out m h1
          obtain ⟨x1, hx1⟩ : ∃ x1 : Nat, wayZ z zs m j n = (x1 : Int) := ⟨_, (Int.toNat_of_nonneg hwl.1).symm⟩
          obtain ⟨x2, hx2⟩ : ∃ x2 : Nat, y m = (x2 : Int) := ⟨_, (Int.toNat_of_nonneg hyl.1).symm⟩
          rw [hx1] at hcell HN hwl
          rw [hx2] at hcy HN hyl
          have m1 : x1 * x2 ≤ 4096 * 4096 := Nat.mul_le_mul (by omega) (by omega)
          clear e1 hx1 hx2 HX
          go_wp2_with fail
          go_region
          all_goals
            go_wp2_with fail
            exact ⟨⟨j + 1, h2, by go_num, Hid.mk' (HN.out.later (Below.refl _ _).drew)⟩, by simp [intOf]; omega⟩
        · obtain rfl : j = T := by omega
          go_wp2_with fail
          exact ⟨⟨m + 1, h1, by go_num, Hid.mk' (HX.out.cast fun i s _ hs => by rw [tbH_row hs])⟩, by simp [intOf]; omega⟩
    · obtain rfl : m = C := by omega
      have HG' : Hid (GridC w4 wr g m T rb cp (fun i s => .int .i64 (tbZ n z zs y i s))) := HG.out.cast fun i s hi _ => by rw [tbH_end hi]
      have htab := HG'.out.tab (cap := gc) h0 hT0
      have hbw := below_chS HB4.out HG'.out.below
      have HBW := Hid.mk' hbw
      have hTE := HTE.out wr _ _ htab
      have HTA := Hid.mk' htab
      clear HG htab hbw
      by_cases hq : tabErr m (fun _ => T) (tbZ n z zs y) ≠ 0
      · rw [errV_pos a hq] at HTB HCD
        have HNE := Hid.mk' hq
        generalize tabErr m (fun _ => T) (tbZ n z zs y) = q at *
        have hqp : (0 : Int) < (q : Int) := by omega
        clear hq
        go_wp2_with fail
        refine hTE.mono ?_
        rintro e w15 ⟨rfl, hb15⟩
        have hb15' := below_chS HBW.out hb15
        have HB15 := Hid.mk' hb15'
        clear hb15 hTE
        have c0 := (HC.out w15 hb15').1
        have c1 := (HC.out w15 hb15').2
        clear hb15'
        go_wp2_with fail
        refine (HCI.out w15 HB15.out).mono ?_
        rintro e w6 ⟨kv5, lv5, us5, rfl, hu5, ht5, hb5⟩
        have HB6 := Hid.mk' (below_chS HB15.out hb5)
        have HU5 := Hid.mk' hu5
        have HV5 := Hid.mk' ht5
        clear hb5 c0 c1 hu5 ht5
        go_wp2_with fail
        refine (HIN.out w6 HB6.out).mono ?_
        rintro e w7 ⟨v7, rfl, hv7, hb7⟩
        have hb7' := below_chS HB6.out hb7
        have HB7 := Hid.mk' hb7'
        have hTB7 := HTB.out kv5 lv5 v7 us5 w7 hb7' (HU5.out.later hb7) (HV5.out.later hb7) hv7
        obtain ⟨a7, c7, rfl⟩ := hv7.form
        clear hb7 hb7' hv7
        go_wp2_with fail
        refine hTB7.mono ?_
        rintro e w8 ⟨t8, rfl, ht8, _, hb8⟩
        obtain rfl := ht8 HNE.out
        have HB8 := Hid.mk' (below_chS HB7.out hb8)
        clear hb8 hTB7 ht8
        go_wp2_with fail
        refine (HCD.out w8 HB8.out).mono ?_
        rintro e w9 ⟨rfl, hb9⟩
        have HB9 := Hid.mk' (below_chS HB8.out hb9)
        clear hb9
        go_wp2_with fail
        refine (HSN.out w9).mono ?_
        rintro e w10 ⟨rfl, hb10⟩
        have HB10 := Hid.mk' (below_chS HB9.out hb10)
        clear hb10
        go_wp2_with fail
        go_ret
        exact ⟨rfl, below_chS HB1.out HB10.out⟩
      · have hq0 : tabErr m (fun _ => T) (tbZ n z zs y) = 0 := by omega
        rw [hq0] at hTE HTB HCD
        rw [errV_zero] at HTB HCD
        clear hq hq0
        go_wp2_with fail
        refine hTE.mono ?_
        rintro e w15 ⟨rfl, hb15⟩
        have hb15' := below_chS HBW.out hb15
        have HB15 := Hid.mk' hb15'
        have HT15 := Hid.mk' (HTA.out.later hb15)
        clear hb15 hTE
        have c0 := (HC.out w15 hb15').1
        have c1 := (HC.out w15 hb15').2
        clear hb15'
        go_wp2_with fail
        refine (HCI.out w15 HB15.out).mono ?_
        rintro e w6 ⟨kv5, lv5, us5, rfl, hu5, ht5, hb5⟩
        have HB6 := Hid.mk' (below_chS HB15.out hb5)
        have HT6 := Hid.mk' (HT15.out.later hb5)
        have HU5 := Hid.mk' hu5
        have HV5 := Hid.mk' ht5
        clear hb5 c0 c1 hu5 ht5
        go_wp2_with fail
        refine (HIN.out w6 HB6.out).mono ?_
        rintro e w7 ⟨v7, rfl, hv7, hb7⟩
        have hb7' := below_chS HB6.out hb7
        have HB7 := Hid.mk' hb7'
        have HT7 := Hid.mk' (HT6.out.later hb7)
        have hTB7 := HTB.out kv5 lv5 v7 us5 w7 hb7' (HU5.out.later hb7) (HV5.out.later hb7) hv7
        obtain ⟨a7, c7, rfl⟩ := hv7.form
        clear hb7 hb7' hv7
        go_wp2_with fail
        refine hTB7.mono ?_
        rintro e w8 ⟨t8, rfl, _, ht8, hb8⟩
        obtain ⟨vs8, ht8⟩ := ht8 trivial
        have HB8 := Hid.mk' (below_chS HB7.out hb8)
        have HT8 := Hid.mk' (HT7.out.later hb8)
        have HS8 := Hid.mk' ht8
        obtain ⟨a8, c8, rfl⟩ := ht8.form
        clear hb8 ht8 hTB7
        go_wp2_with fail
        refine (HCD.out w8 HB8.out).mono ?_
        rintro e w9 ⟨rfl, hb9⟩
        have HB9 := Hid.mk' (below_chS HB8.out hb9)
        have HT9 := Hid.mk' (HT8.out.later hb9)
        have HS9 := Hid.mk' (HS8.out.later hb9)
        clear hb9
        go_wp2_with fail
        refine (SameLists_any _ _ (tabS m (fun _ => T) (tbZ n z zs y)) w9 (tab_lolS HS9.out) (tab_lolS HT9.out) (by simp [tabS]; omega) (fun r hr => by rw [tabS_row r hr]; omega)).mono ?_
        rintro e w10 ⟨rfl, hb10⟩
        have HB10 := Hid.mk' (below_chS HB9.out hb10)
        clear hb10
        go_wp2_with fail
        go_ret
        exact ⟨rfl, below_chS HB1.out HB10.out⟩
end Go.Proofs.YtdlbnolnkmhdcaaDoor
