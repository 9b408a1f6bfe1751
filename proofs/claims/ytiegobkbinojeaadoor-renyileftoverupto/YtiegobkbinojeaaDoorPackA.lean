/- The law RenyiLeftover. -/
import Derived.Test.YtiegobkbinojeaaDoorRyFm
import Derived.Test.YtiegobkbinojeaaDoorRyFa
import Derived.Test.YtiegobkbinojeaaDoorRyLo
import Derived.Test.YtiegobkbinojeaaDoorRySq
import Derived.Test.YtiegobkbinojeaaDoorRyCmp
import Derived.Test.YtiegobkbinojeaaDoorRyGs
import Derived.Test.YtiegobkbinojeaaDoorCopy
import Derived.Test.YtiegobkbinojeaaDoorRows
import Derived.Test.YtiegobkbinojeaaDoorErrs
import Derived.ChangeSame
import Derived.ChangeVars
import Derived.JoinedOf
import Derived.LaidLaws
import Derived.LaidHandle
import Derived.LaidMore
import Derived.Stop.Joined
import Derived.Test.YtiegobkbinojeaaDoorInts
import Derived.Test.YtiegobkbinojeaaDoorCards
import Derived.Test.YtiegobkbinojeaaDoorTie
import Derived.SevenTiedAt
import Derived.ProofKit
import Derived.OpenShut
import Derived.ChangeOld
import Derived.Lib.SmallJoins
import Derived.Deep.Matrix
import Derived.Test.YtiegobkbinojeaaDoorTab
import Derived.Deep.DeepHandedRow
import Derived.Deep.DeepWitnessRowRef
namespace Go.Proofs.YtiegobkbinojeaaDoor
open Go.RowKit

theorem sqN_I {z : Nat → Int} : ∀ {n : Nat}, (∀ i, i < n → 0 ≤ z i) → (sqNR z n : Int) = sqI z n
  | 0, _ => rfl
  | n + 1, h => by
    have ih := sqN_I (z := z) (n := n) (fun i hi => h i (by omega))
    have h1 : (wN z n : Int) = z n := by have := h n (by omega); unfold wN; omega
    show ((sqNR z n + wN z n * wN z n : Nat) : Int) = sqI z n + z n * z n
    rw [Int.natCast_add, Int.natCast_mul, ih, h1]
theorem uniB_all {M : Int} {R n : Nat} {zs : Nat → Nat → Int} (h : uniB M R n zs = true) : ∀ x y, x < y → y < n → (togN zs x y R : Int) * M ≤ (R : Int) := fun x y hxy hy => by
  have h1 : (!anyR (fun x => anyR (fun y => tooB M R zs x y) x) n) = true := h
  have h2 : anyR (fun x => anyR (fun y => tooB M R zs x y) x) n = false := by simpa using h1
  have h3 := anyR_no (anyR_no h2 y hy) x hxy
  unfold tooB at h3
  have h4 := of_decide_eq_false h3
  rw [togN_sym] at h4
  omega
theorem Rlo_sgn {R m S T A : Nat} (h : (A : Int) * (A : Int) ≤ (R : Int) * (R : Int) * ((m : Int) * (m : Int) * (m : Int)) * (T : Int)) : sgnZ ((A : Int) * (A : Int) * ((S * S : Nat) : Int) - (m : Int) * (T : Int) * ((R * m * S * (R * m * S) : Nat) : Int)) ≤ 0 := by
  have h1 := Int.mul_le_mul_of_nonneg_right h (show (0 : Int) ≤ ((S * S : Nat) : Int) by omega)
  have e : (R : Int) * (R : Int) * ((m : Int) * (m : Int) * (m : Int)) * (T : Int) * ((S * S : Nat) : Int) = (m : Int) * (T : Int) * ((R * m * S * (R * m * S) : Nat) : Int) := by
    simp only [Int.natCast_mul]
    grind
  rw [e] at h1
  rcases Int.lt_or_le 0 (sgnZ ((A : Int) * (A : Int) * ((S * S : Nat) : Int) - (m : Int) * (T : Int) * ((R * m * S * (R * m * S) : Nat) : Int))) with h2 | h2
  · have := (sgnZ_posR _).1 h2; omega
  · exact h2
theorem cross_gcd (A B : Nat) : A / Nat.gcd A B * B = A * (B / Nat.gcd A B) := by
  rw [Nat.div_mul_right_comm (Nat.gcd_dvd_left A B), Nat.mul_div_assoc _ (Nat.gcd_dvd_right A B)]
set_option maxRecDepth 100000 in
set_option maxHeartbeats 8000000 in
theorem RenyiLeftover_all (a : Nat → Addr) (M : Int) (la : Option Addr) (R lc : Nat) (vs : Nat → Value) (ns : Nat → Nat) (zs : Nat → Nat → Int) (wa : Option Addr) (n wc : Nat) (z : Nat → Int) (w : World) (hE : Errs w a) (hl : TabAt w (.slice la R lc) R vs ns zs) (hM : R ≤ maxLen) (hwn : NumsAt w (.slice wa n wc) n z) (hwm : n ≤ maxLen) (hs : sumT ns R ≤ 2000000) :
    Calls Tryd.prog 6 #[.agg #[.int .i64 M, .slice la R lc], .slice wa n wc] w fun e w' => e = .returned (.bool true) ∧ Below w.heap.size w w' := by
  obtain ⟨w1, hw1⟩ : ∃ w1, w1 = w.alloc (.cells #[.int .i64 M, .slice la R lc] 24) := ⟨_, rfl⟩
  have hb1 : Below w.heap.size w w1 := by rw [hw1]; exact (Below.refl _ _).alloc (Nat.le_refl _) _
  have hc0 : w1.cell? ⟨w.heap.size, 0, none⟩ = some (.int .i64 M) := by rw [hw1]; go_simp
  have hc1 : w1.cell? ⟨w.heap.size, 1, none⟩ = some (.slice la R lc) := by rw [hw1]; go_simp
  have HB1 := Hid.mk' hb1
  have HW1 := Hid.mk' hw1
  have HC : Hid (∀ W, Below w1.heap.size w1 W → W.cell? ⟨w.heap.size, 0, none⟩ = some (.int .i64 M) ∧ W.cell? ⟨w.heap.size, 1, none⟩ = some (.slice la R lc)) := fun W hb => ⟨by rw [hb.cell (cell_lt hc0)]; exact hc0, by rw [hb.cell (cell_lt hc1)]; exact hc1⟩
  have HE := Hid.mk' (fun (W : World) (hb : Below w1.heap.size w1 W) => (hE.below hb1).below hb)
  have HL := Hid.mk' (fun (W : World) (hb : Below w1.heap.size w1 W) => (hl.later hb1).later hb)
  have HN := Hid.mk' (fun (W : World) (hb : Below w1.heap.size w1 W) => (hwn.later hb1).later hb)
  have HP := Hid.mk' (dice_any a w1 (hE.below hb1))
  have HFW := Hid.mk' (fun (W : World) (hb : Below w1.heap.size w1 W) => few_any _ R vs ns zs W (HL.out W hb) hM hs (decide (R ≤ 70 ∧ sumT ns R ≤ 1200)) (by simp))
  unfold maxLen at hwm
  clear hE hl hb1 hw1 hc0 hc1 hwn
  by_cases hfw : R ≤ 70 ∧ sumT ns R ≤ 1200
  · rw [decide_eq_true hfw] at HFW
    obtain ⟨hR, hS⟩ := hfw
    by_cases hn : n ≤ 16
    · have hnI : decide ((16 : Int) < (n : Int)) = false := decide_eq_false (by omega)
      have hns : ∀ i, i < R → ns i ≤ 1200 := fun i hi => by
        have h2 : sumT ns i + ns i ≤ sumT ns R := sumT_mono ns hi
        omega
      have HFM := Hid.mk' (fun (W : World) (hb : Below w1.heap.size w1 W) => family_any M _ R vs ns zs W (HL.out W hb) hR hS)
      have HIN := Hid.mk' (fun (W : World) (hb : Below w1.heap.size w1 W) => ints_any (.slice wa n wc) n z W (HN.out W hb) (by omega))
      by_cases he : famErr M R ns zs ≠ 0
      · have HUN := Hid.mk' (fun (v : Value) (us : Nat → Value) (W : World) (hb : Below w1.heap.size w1 W) (ht : TabAt W v R us ns zs) => Universal_bad a M v R us ns zs W (HE.out W hb) ht (by omega) (fun i hi => by have := hns i hi; omega) he)
        rw [errV_pos a he] at HUN
        generalize famErr M R ns zs = q at *
        clear he hns hR hS
        go_enter Tryd.func6, Tryd.ntmps6
        go_upto_region 1 with fail
        rw [← HW1.out]
        go_wp2_with fail
        refine HP.out.mono ?_
        rintro e w2 ⟨rfl, hb2⟩
        have HB2 := Hid.mk' hb2
        have c1 := (HC.out w2 hb2).2
        clear hb2
        go_wp2_with fail
        refine (HFW.out w2 HB2.out).mono ?_
        rintro e w3 ⟨rfl, hb3⟩
        have hb3' := below_chain HB2.out hb3
        have HB3 := Hid.mk' hb3'
        clear hb3 c1
        have c0 := (HC.out w3 hb3').1
        have c1 := (HC.out w3 hb3').2
        clear hb3'
        go_wp2_with fail
        refine (HFM.out w3 HB3.out).mono ?_
        rintro e w5 ⟨lv5, us5, rfl, ht5, hb5⟩
        have hb5' := below_chain HB3.out hb5
        have HB5 := Hid.mk' hb5'
        have hU5 := HUN.out lv5 us5 w5 hb5' ht5
        clear hb5 c0 c1 ht5 hb5'
        go_wp2_with fail
        refine hU5.mono ?_
        rintro e w6 ⟨rfl, hb6⟩
        have HB6 := Hid.mk' (below_chain HB5.out hb6)
        clear hb6 hU5
        go_wp2_with fail
        go_ret
        exact ⟨rfl, below_chain HB1.out HB6.out⟩
      · have he0 : famErr M R ns zs = 0 := by omega
        have hok := famErr_ok he0
        obtain ⟨m, rfl⟩ : ∃ m : Nat, M = (m : Int) := ⟨M.toNat, by have := hok.m1; omega⟩
        have HUN := Hid.mk' (fun (v : Value) (us : Nat → Value) (W : World) (hb : Below w1.heap.size w1 W) (ht : TabAt W v R us ns zs) => Universal_ok a (m : Int) v R us ns zs W (HE.out W hb) ht he0 (fun i hi => by have := hns i hi; omega))
        cases hu : uniB (m : Int) R (ns 0) zs with
        | false =>
          rw [hu] at HUN
          clear hu he he0 hok hns hR hS
          go_enter Tryd.func6, Tryd.ntmps6
          go_upto_region 1 with fail
          rw [← HW1.out]
          go_wp2_with fail
          refine HP.out.mono ?_
          rintro e w2 ⟨rfl, hb2⟩
          have HB2 := Hid.mk' hb2
          have c1 := (HC.out w2 hb2).2
          clear hb2
          go_wp2_with fail
          refine (HFW.out w2 HB2.out).mono ?_
          rintro e w3 ⟨rfl, hb3⟩
          have hb3' := below_chain HB2.out hb3
          have HB3 := Hid.mk' hb3'
          clear hb3 c1
          have c0 := (HC.out w3 hb3').1
          have c1 := (HC.out w3 hb3').2
          clear hb3'
          go_wp2_with fail
          refine (HFM.out w3 HB3.out).mono ?_
          rintro e w5 ⟨lv5, us5, rfl, ht5, hb5⟩
          have hb5' := below_chain HB3.out hb5
          have HB5 := Hid.mk' hb5'
          have hU5 := HUN.out lv5 us5 w5 hb5' ht5
          clear hb5 c0 c1 ht5 hb5'
          go_wp2_with fail
          refine hU5.mono ?_
          rintro e w6 ⟨rfl, hb6⟩
          have HB6 := Hid.mk' (below_chain HB5.out hb6)
          clear hb6 hU5
          go_wp2_with fail
          go_ret
          exact ⟨rfl, below_chain HB1.out HB6.out⟩
        | true =>
          rw [hu] at HUN
          by_cases hf : farErr (m : Int) R ns zs n z ≠ 0
          · have HFA := Hid.mk' (fun (v wv : Value) (us : Nat → Value) (W : World) (hb : Below w1.heap.size w1 W) (ht : TabAt W v R us ns zs) (hv : NumsAt W wv n z) => Far_bad a (m : Int) v wv R n us ns zs z W (HE.out W hb) ht hv (by omega) (by omega) (fun i hi => by have := hns i hi; omega) hf)
            rw [errV_pos a hf] at HFA
            generalize farErr (m : Int) R ns zs n z = q at *
            clear hu he he0 hok hns hR hS hf
            go_enter Tryd.func6, Tryd.ntmps6
            go_upto_region 1 with fail
            rw [← HW1.out]
            go_wp2_with fail
            refine HP.out.mono ?_
            rintro e w2 ⟨rfl, hb2⟩
            have HB2 := Hid.mk' hb2
            have c1 := (HC.out w2 hb2).2
            clear hb2
            go_wp2_with fail
            refine (HFW.out w2 HB2.out).mono ?_
            rintro e w3 ⟨rfl, hb3⟩
            have hb3' := below_chain HB2.out hb3
            have HB3 := Hid.mk' hb3'
            clear hb3 c1
            have c0 := (HC.out w3 hb3').1
            have c1 := (HC.out w3 hb3').2
            clear hb3'
            go_wp2_with fail
            refine (HFM.out w3 HB3.out).mono ?_
            rintro e w5 ⟨lv5, us5, rfl, ht5, hb5⟩
            have hb5' := below_chain HB3.out hb5
            have HB5 := Hid.mk' hb5'
            have hU5 := HUN.out lv5 us5 w5 hb5' ht5
            clear hb5 c0 c1 ht5 hb5'
            go_wp2_with fail
            refine hU5.mono ?_
            rintro e w6 ⟨rfl, hb6⟩
            have hb6' := below_chain HB5.out hb6
            have HB6 := Hid.mk' hb6'
            have c0 := (HC.out w6 hb6').1
            have c1 := (HC.out w6 hb6').2
            clear hb6 hb6' hU5
            go_wp2_with fail
            refine (HFM.out w6 HB6.out).mono ?_
            rintro e w7 ⟨lv7, us7, rfl, ht7, hb7⟩
            have HB7 := Hid.mk' (below_chain HB6.out hb7)
            have HT7 := Hid.mk' ht7
            clear hb7 c0 c1 ht7
            go_wp2_with fail
            refine (HIN.out w7 HB7.out).mono ?_
            rintro e w8 ⟨v8, rfl, hv8, hb8⟩
            have HB8 := Hid.mk' (below_chain HB7.out hb8)
            have hF8 := HFA.out lv7 v8 us7 w8 HB8.out (HT7.out.later hb8) hv8
            clear hb8 hv8
            go_wp2_with fail
            refine hF8.mono ?_
            rintro e w9 ⟨rfl, hb9⟩
            have HB9 := Hid.mk' (below_chain HB8.out hb9)
            clear hb9 hF8
            go_wp2_with fail
            go_ret
            exact ⟨rfl, (below_chain HB1.out HB9.out).alloc (by have := (below_chain HB1.out HB9.out).size; omega) _⟩
          · have hf0 : farErr (m : Int) R ns zs n z = 0 := by omega
            have hwe : weightsErr z n = 0 := by
              rcases Nat.eq_zero_or_pos (weightsErr z n) with h | h
              · exact h
              · exfalso
                unfold farErr at hf0
                rw [if_neg (by omega), if_pos (by omega)] at hf0
                omega
            have hlen : n = ns 0 := by
              by_cases h : n = ns 0
              · exact h
              · exfalso
                unfold farErr at hf0
                rw [if_neg (by omega), if_neg (by omega), if_pos h] at hf0
                omega
            obtain ⟨h16, hokw⟩ := weightsErr_ok hwe
            obtain ⟨S, hSS⟩ : ∃ S : Nat, sumN z n = (S : Int) := ⟨(sumN z n).toNat, by have := hokw.pos; omega⟩
            have HFA := Hid.mk' (fun (v wv : Value) (us : Nat → Value) (W : World) (hb : Below w1.heap.size w1 W) (ht : TabAt W v R us ns zs) (hv : NumsAt W wv n z) => Far_ok a m v wv R n S us ns zs z W (HE.out W hb) ht hv (fun i hi => by have := hns i hi; omega) he0 hwe hlen hSS)
            have HSQ := Hid.mk' (fun (W : World) (hb : Below w1.heap.size w1 W) => SquaresOf_any (.slice wa n wc) n S z W (HN.out W hb) hSS hwe)
            have hS0 : 0 < S := by have := hokw.pos; omega
            have hS4 : S ≤ 4096 := by have := hokw.le; omega
            have hpos := hok.pos
            have hR64 := hok.le
            have hm1 : 1 ≤ m := by have := hok.m1; omega
            have hm16 : m ≤ 16 := by have := hok.m16; omega
            have hX := leftover (zs := zs) (z := z) (R := R) (n := n) (m := m) (S := S) (fun i hi x hx => hok.num i hi x (by omega)) hokw.nn hSS (uniB_all (by rw [hlen]; exact hu))
            rw [← sqN_I hokw.nn] at hX
            have hA : apA (m : Int) (S : Int) n zs z R ≤ 71680000 := by
              have hLB : ∀ i v, 0 ≤ ldF (zs i) z n v ∧ ldF (zs i) z n v ≤ 4096 := fun i v => by
                have h1 := ldF_part (zr := zs i) hokw.nn v n (Nat.le_refl _)
                have := hokw.le
                omega
              have := apA_le (M := (m : Int)) (S := (S : Int)) (n := n) (zs := zs) (z := z) hLB (by omega) (by omega) (by omega) (by omega) R
              omega
            have hT : sqNR z n ≤ 16777216 := by
              have hw := wN_sum hokw.nn
              have h1 := sqN_leR (z := z) (S := S) (n := n) (by omega)
              rw [show sumA (wN z) n = S by omega] at h1
              have : S * S ≤ 4096 * 4096 := Nat.mul_le_mul hS4 hS4
              omega
            have hSg := Rlo_sgn (S := S) hX
            generalize apA (m : Int) (S : Int) n zs z R = A at *
            generalize sqNR z n = T at *
            have hRm : R * m ≤ 1024 := Nat.mul_le_mul (show R ≤ 64 from hR64) hm16
            have hRm0 : 0 < R * m := Nat.mul_pos hpos hm1
            have hD1 : R * m * S ≤ 4194304 := Nat.mul_le_mul hRm hS4
            have hD0 : 0 < R * m * S := Nat.mul_pos hRm0 hS0
            have hD2 : 2 * R * m * S = 2 * (R * m * S) := by rw [Nat.mul_assoc 2, Nat.mul_assoc 2]
            have hSQ0 : 0 < S * S := Nat.mul_pos hS0 hS0
            have hSQ1 : S * S ≤ 16777216 := Nat.mul_le_mul (show S ≤ 4096 from hS4) hS4
            obtain ⟨D, hDe⟩ : ∃ D, D = R * m * S := ⟨_, rfl⟩
            rw [hD2] at HFA
            rw [← hDe] at HFA hD0 hD1 hSg
            have hDD0 : 0 < D * D := Nat.mul_pos hD0 hD0
            have hDD1 : D * D ≤ 4194304 * 4194304 := Nat.mul_le_mul hD1 hD1
            obtain ⟨Q, hQe⟩ : ∃ Q, Q = S * S := ⟨_, rfl⟩
            rw [← hQe] at HSQ hSQ0 hSQ1 hSg
            have hg : 0 < Nat.gcd A (2 * D) := Nat.gcd_pos_of_pos_right _ (by omega)
            have hq0 : 0 < 2 * D / Nat.gcd A (2 * D) := Nat.div_pos (Nat.gcd_le_right _ (by omega)) hg
            have hq1 : 2 * D / Nat.gcd A (2 * D) ≤ 2 * D := Nat.div_le_self _ _
            have hp1 : A / Nat.gcd A (2 * D) ≤ A := Nat.div_le_self _ _
            have hcr : ((A / Nat.gcd A (2 * D) : Nat) : Int) * ((2 * D : Nat) : Int) = (A : Int) * ((2 * D / Nat.gcd A (2 * D) : Nat) : Int) := by
              have h1 := cross_gcd A (2 * D)
              exact_mod_cast h1
            have hgv : gueV A (2 * D) = .agg #[.int .i64 ((A / Nat.gcd A (2 * D) : Nat) : Int), .int .i64 ((2 * D / Nat.gcd A (2 * D) : Nat) : Int)] := rfl
            rw [hgv] at HFA
            generalize A / Nat.gcd A (2 * D) = p at *
            generalize 2 * D / Nat.gcd A (2 * D) = q at *
            have HR1 : Hid (∀ W, Calls Tryd.prog 22 #[.int .i64 2, .int .i64 1] W fun e w' => ∃ r, e = .returned r ∧ LR w' r 1 2 ∧ Below W.heap.size W w') := fun W => RatioOf_to 2 1 1 2 W (by decide) (by decide) (by decide) (by decide) (by decide) rfl
            have HR2 : Hid (∀ W, Calls Tryd.prog 22 #[.int .i64 (m : Int), .int .i64 1] W fun e w' => ∃ r, e = .returned r ∧ LR w' r 1 (m : Int) ∧ Below W.heap.size W w') := fun W => RatioOf_to (m : Int) 1 1 (m : Int) W (by omega) (by omega) (by decide) (by decide) (by decide) rfl
            have HOF : Hid (∀ W, Calls Tryd.prog 23 #[.agg #[.int .i64 (p : Int), .int .i64 (q : Int)]] W fun e w' => ∃ r, e = .returned r ∧ LR w' r (2 * D) (A : Int) ∧ Below W.heap.size W w') := fun W => OfFrac_to (p : Int) q (2 * D) (A : Int) W (by omega) (by omega) hq0 (by omega) (by omega) hcr
            have HT1 : Hid (∀ W u u', LR W u 1 2 → LR W u' (2 * D) (A : Int) → Calls Tryd.prog 21 #[u, u'] W fun e w' => ∃ r, e = .returned r ∧ LR w' r D (A : Int) ∧ Below W.heap.size W w') := fun W u u' hu hu' => RTimes_to u u' 1 (2 * D) D 2 (A : Int) (A : Int) W hu hu' ⟨by decide, by decide, by decide⟩ ⟨by omega, by omega, by omega⟩ hD0 (by rw [Int.natCast_mul]; grind)
            have HT2 : Hid (∀ W u u', LR W u D (A : Int) → LR W u' D (A : Int) → Calls Tryd.prog 21 #[u, u'] W fun e w' => ∃ r, e = .returned r ∧ LR w' r (D * D) ((A : Int) * (A : Int)) ∧ Below W.heap.size W w') := fun W u u' hu hu' => RTimes_to u u' D D (D * D) (A : Int) (A : Int) ((A : Int) * (A : Int)) W hu hu' ⟨hD0, by omega, by omega⟩ ⟨hD0, by omega, by omega⟩ hDD0 (by rw [Int.natCast_mul])
            have HT3 : Hid (∀ W u u', LR W u 1 (m : Int) → LR W u' Q (T : Int) → Calls Tryd.prog 21 #[u, u'] W fun e w' => ∃ r, e = .returned r ∧ LR w' r Q ((m : Int) * (T : Int)) ∧ Below W.heap.size W w') := fun W u u' hu hu' => RTimes_to u u' 1 Q Q (m : Int) (T : Int) ((m : Int) * (T : Int)) W hu hu' ⟨by decide, by decide, by omega⟩ ⟨hSQ0, by omega, by omega⟩ hSQ0 (by simp)
            have hAA : ((A : Int) * (A : Int)).natAbs ≤ 71680000 * 71680000 := by rw [← Int.natCast_mul, Int.natAbs_natCast]; exact Nat.mul_le_mul hA hA
            have hmT : ((m : Int) * (T : Int)).natAbs ≤ 16 * 16777216 := by rw [← Int.natCast_mul, Int.natAbs_natCast]; exact Nat.mul_le_mul hm16 hT
            obtain ⟨sg, hsg, HCM⟩ : ∃ sg : Int, sg ≤ 0 ∧ Hid (∀ W u u', LR W u (D * D) ((A : Int) * (A : Int)) → LR W u' Q ((m : Int) * (T : Int)) → Calls Tryd.prog 24 #[u, u'] W fun e w' => e = .returned (.int .i64 sg) ∧ Below W.heap.size W w') := ⟨_, hSg, fun W u u' hu hu' => RCmp_toR u u' (D * D) Q _ _ W hu hu' ⟨hDD0, by omega, by omega⟩ ⟨hSQ0, by omega, by omega⟩⟩
            have hsd : decide (sg ≤ 0) = true := decide_eq_true hsg
            clear hu he he0 hok hns hR hS hf hf0 hwe hlen h16 hokw hSS hS0 hS4 hpos hR64 hm1 hm16 hX hA hT hSg hRm hRm0 hD0 hD1 hD2 hSQ0 hSQ1 hDe hDD0 hDD1 hQe hg hq0 hq1 hp1 hcr hgv hAA hmT
            go_enter Tryd.func6, Tryd.ntmps6
            go_upto_region 1 with fail
            rw [← HW1.out]
            go_wp2_with fail
            refine HP.out.mono ?_
            rintro e w2 ⟨rfl, hb2⟩
            have HB2 := Hid.mk' hb2
            have c1 := (HC.out w2 hb2).2
            clear hb2
            go_wp2_with fail
            refine (HFW.out w2 HB2.out).mono ?_
            rintro e w3 ⟨rfl, hb3⟩
            have hb3' := below_chain HB2.out hb3
            have HB3 := Hid.mk' hb3'
            clear hb3 c1
            have c0 := (HC.out w3 hb3').1
            have c1 := (HC.out w3 hb3').2
            clear hb3'
            go_wp2_with fail
            refine (HFM.out w3 HB3.out).mono ?_
            rintro e w5 ⟨lv5, us5, rfl, ht5, hb5⟩
            have hb5' := below_chain HB3.out hb5
            have HB5 := Hid.mk' hb5'
            have hU5 := HUN.out lv5 us5 w5 hb5' ht5
            clear hb5 c0 c1 ht5 hb5'
            go_wp2_with fail
            refine hU5.mono ?_
            rintro e w6 ⟨rfl, hb6⟩
            have hb6' := below_chain HB5.out hb6
            have HB6 := Hid.mk' hb6'
            have c0 := (HC.out w6 hb6').1
            have c1 := (HC.out w6 hb6').2
            clear hb6 hb6' hU5
            go_wp2_with fail
            refine (HFM.out w6 HB6.out).mono ?_
            rintro e w7 ⟨lv7, us7, rfl, ht7, hb7⟩
            have HB7 := Hid.mk' (below_chain HB6.out hb7)
            have HT7 := Hid.mk' ht7
            clear hb7 c0 c1 ht7
            go_wp2_with fail
            refine (HIN.out w7 HB7.out).mono ?_
            rintro e w8 ⟨v8, rfl, hv8, hb8⟩
            have HB8 := Hid.mk' (below_chain HB7.out hb8)
            have hF8 := HFA.out lv7 v8 us7 w8 HB8.out (HT7.out.later hb8) hv8
            clear hb8 hv8
            go_wp2_with fail
            refine hF8.mono ?_
            rintro e w9 ⟨rfl, hb9⟩
            have HB9 := Hid.mk' (below_chain (below_chain HB8.out hb9) (new_below w9 (.cells #[.int .i64 (p : Int), .int .i64 (q : Int)] 43)))
            have hf0 : (w9.alloc (.cells #[.int .i64 (p : Int), .int .i64 (q : Int)] 43)).cell? ⟨w9.heap.size, 0, none⟩ = some (.int .i64 (p : Int)) := by simp
            have hf1 : (w9.alloc (.cells #[.int .i64 (p : Int), .int .i64 (q : Int)] 43)).cell? ⟨w9.heap.size, 1, none⟩ = some (.int .i64 (q : Int)) := by simp
            clear hb9 hF8
            go_upto_region 8 with fail
            generalize w9.alloc (.cells #[.int .i64 (p : Int), .int .i64 (q : Int)] 43) = wy at *
            generalize w9.heap.size = By at *
            go_upto_region 10 with fail
            have HKS : Hid (∀ W, Below wy.heap.size wy W → W.cell? ⟨By, 0, none⟩ = some (.int .i64 (p : Int)) ∧ W.cell? ⟨By, 1, none⟩ = some (.int .i64 (q : Int))) := fun W hb => ⟨by rw [hb.cell (cell_lt hf0)]; exact hf0, by rw [hb.cell (cell_lt hf1)]; exact hf1⟩
            have hcur0 : Below wy.heap.size wy wy := Below.refl _ _
            have hcur : Below wy.heap.size wy wy.drew := (Below.refl _ _).drew
            have hcurA : ∀ X, Below wy.heap.size wy (wy.alloc X).drew := fun X => (new_below _ _).drew
            go_cut [9] from 47 (fun s' wx => ∃ Bs : Nat, s' = .pointer (some ⟨Bs, 0, none⟩) ∧ Hid (DBx wy wx Bs D (A : Int)))
            case first =>
              go_region_held3 (fun W => W.cell? ⟨By, 0, none⟩ = some (.int .i64 (p : Int)) ∧ W.cell? ⟨By, 1, none⟩ = some (.int .i64 (q : Int)))
                (first | exact HKS.out _ hcur0 | exact HKS.out _ hcur | exact HKS.out _ (hcurA _) | (refine HKS.out _ ?_; assumption) | (refine HKS.out _ (more_below ?_ _); assumption) | (refine HKS.out _ (set3_below ?_ NB.hB _ _ _); assumption))
                (first
                  | (go_at_call 21; refine (HT1.out _ _ _ ?hu ?hv).mono ?_; (case hu => first | exact HRA.out.later hq12 | exact (HRA.out.later hq12).later (new_below _ _)); (case hv => first | exact HRC.out | exact HRC.out.later (new_below _ _)); rintro e w163 ⟨rv3, rfl, hrv3, hb3⟩; obtain ⟨sg3, xg3, lg3, cg3, xh3, lh3, ch3, rfl⟩ := hrv3.sl; (first | (have hbw3 := below_chain hbw2 hb3; (try have NB := NB.later hb3)) | (have hbw3 := below_chain (more_below hbw2 _) hb3; have NB := nbx_of hbw2 hb3)); (try (have y0 := NB.box.c0; have y1 := NB.box.c1; have y2 := NB.box.c2; have y3 := NB.box.fz 0 (by decide); have y4 := NB.box.fz 1 (by decide); have y5 := NB.box.fz 2 (by decide))); have HRV := Hid.mk' hrv3; clear hrv3)
                  | (go_at_call 23; (have hz7 := hbw1; clear hz7); refine (HOF.out _).mono ?_; rintro e w162 ⟨rv2, rfl, hrv2, hb2⟩; obtain ⟨sg2, xg2, lg2, cg2, xh2, lh2, ch2, rfl⟩ := hrv2.sl; (first | (have hbw2 := below_chain hbw1 hb2; (try have NB := NB.later hb2)) | (have hbw2 := below_chain (more_below hbw1 _) hb2; have NB := nbx_of hbw1 hb2)); (first | have hq12 : Below w161.heap.size w161 w162 := hb2 | have hq12 : Below w161.heap.size w161 w162 := below_chain (new_below _ _) hb2); have HRC := Hid.mk' hrv2; clear hrv2)
                  | (go_at_call 22; refine (HR1.out _).mono ?_; rintro e w161 ⟨rv1, rfl, hrv1, hb1⟩; obtain ⟨sg1, xg1, lg1, cg1, xh1, lh1, ch1, rfl⟩ := hrv1.sl; (first | (have hbw1 := below_chain hcur hb1) | (have hbw1 := below_chain (hcurA _) hb1; have NB := nbx_of hcur0 (below_chain ((Below.refl _ _).drew) hb1))); have HRA := Hid.mk' hrv1; clear hrv1))
              all_goals
                go_wp2_with fail
                go_meet
                first | exact ⟨_, rfl, dbx_late hbw3 HRV.out⟩ | exact ⟨_, rfl, dbx_soon hbw3 HRV.out NB⟩
            case rest =>
            obtain ⟨Bq, rfl, HRB⟩ := hcut
            obtain ⟨Wq, hWq⟩ : ∃ W, W = wc := ⟨_, rfl⟩
            rw [← hWq] at HRB ⊢
            clear hWq hcur0 hcur hcurA HKS hf0 hf1
            have hbx := HRB.out.below
            obtain ⟨sq, xq, lq, cq, yq, mq, kq, hbox⟩ := HRB.out.box
            have HXq := Hid.mk' hbox
            have HBq := Hid.mk' (below_chain HB9.out hbx)
            clear hbx hbox HRB
            have HKS : Hid (∀ W, Below Wq.heap.size Wq W → (W.cell? ⟨Bq, 0, none⟩ = some (.bool sq) ∧ W.cell? ⟨Bq, 1, none⟩ = some (.slice xq lq cq) ∧ W.cell? ⟨Bq, 2, none⟩ = some (.slice yq mq kq)) ∧ W.cell? ⟨w.heap.size, 0, none⟩ = some (.int .i64 (m : Int))) := fun W hb => ⟨⟨(HXq.out.later hb).c0, (HXq.out.later hb).c1, (HXq.out.later hb).c2⟩, (HC.out W (below_chain HBq.out hb)).1⟩
            have HSQ' := Hid.mk' (fun (W : World) (hb : Below Wq.heap.size Wq W) => HSQ.out W (below_chain HBq.out hb))
            have HTT : Hid (∀ W, Below Wq.heap.size Wq W → Calls Tryd.prog 21 #[.agg #[.bool sq, .slice xq lq cq, .slice yq mq kq], .agg #[.bool sq, .slice xq lq cq, .slice yq mq kq]] W fun e w' => ∃ r, e = .returned r ∧ LR w' r (D * D) ((A : Int) * (A : Int)) ∧ Below W.heap.size W w') := fun W hb => HT2.out W _ _ (HXq.out.later hb).rat (HXq.out.later hb).rat
            have hcur0 : Below Wq.heap.size Wq Wq := Below.refl _ _
            have hcur : Below Wq.heap.size Wq Wq.drew := (Below.refl _ _).drew
            clear HXq HT1 HT2 HR1 HOF
            go_upto_region 11 with fail
            go_region_held3 (fun W => (W.cell? ⟨Bq, 0, none⟩ = some (.bool sq) ∧ W.cell? ⟨Bq, 1, none⟩ = some (.slice xq lq cq) ∧ W.cell? ⟨Bq, 2, none⟩ = some (.slice yq mq kq)) ∧ W.cell? ⟨w.heap.size, 0, none⟩ = some (.int .i64 (m : Int)))
              (first | exact HKS.out _ hcur0 | exact HKS.out _ hcur | (refine HKS.out _ ?_; assumption))
              (first
                | (go_at_call 24; refine (HCM.out _ _ _ (HV1.out.later hq14) HV4.out).mono ?_; rintro e w5 ⟨rfl, hb5⟩; have hbw5 := below_chain hbw4 hb5; clear hb5)
                | (go_at_call 21; (have hz7 := hbw3; clear hz7); refine (HT3.out _ _ _ (HV2.out.later hq23) HV3.out).mono ?_; rintro e w4 ⟨rv4, rfl, hrv4, hb4⟩; obtain ⟨sg4, xg4, lg4, cg4, xh4, lh4, ch4, rfl⟩ := hrv4.sl; have hbw4 := below_chain hbw3 hb4; have hq14 := below_chain hq13 hb4; have HV4 := Hid.mk' hrv4; clear hrv4 hb4)
                | (go_at_call 25; refine (HSQ'.out _ hbw2).mono ?_; rintro e w3 ⟨rv3, rfl, hrv3, hb3⟩; obtain ⟨sg3, xg3, lg3, cg3, xh3, lh3, ch3, rfl⟩ := hrv3.sl; have hbw3 := below_chain hbw2 hb3; have hq13 := below_chain hq12 hb3; have hq23 := hb3; have HV3 := Hid.mk' hrv3; clear hrv3 hb3)
                | (go_at_call 22; refine (HR2.out _).mono ?_; rintro e w2 ⟨rv2, rfl, hrv2, hb2⟩; obtain ⟨sg2, xg2, lg2, cg2, xh2, lh2, ch2, rfl⟩ := hrv2.sl; have hbw2 := below_chain hbw1 hb2; have hq12 := hb2; have HV2 := Hid.mk' hrv2; clear hrv2 hb2)
                | (go_at_call 21; refine (HTT.out _ hcur).mono ?_; rintro e w1' ⟨rv1, rfl, hrv1, hb1⟩; obtain ⟨sg1, xg1, lg1, cg1, xh1, lh1, ch1, rfl⟩ := hrv1.sl; have hbw1 := below_chain hcur hb1; have HV1 := Hid.mk' hrv1; clear hrv1 hb1))
            all_goals
              go_wp2_with fail
              go_ret
              exact ⟨rfl, below_chain HB1.out (below_chain HBq.out hbw5)⟩
    · have hnI : decide ((16 : Int) < (n : Int)) = true := decide_eq_true (by omega)
      clear hn hR hS
      go_enter Tryd.func6, Tryd.ntmps6
      go_upto_region 1 with fail
      rw [← HW1.out]
      go_wp2_with fail
      refine HP.out.mono ?_
      rintro e w2 ⟨rfl, hb2⟩
      have HB2 := Hid.mk' hb2
      have c1 := (HC.out w2 hb2).2
      clear hb2
      go_wp2_with fail
      refine (HFW.out w2 HB2.out).mono ?_
      rintro e w3 ⟨rfl, hb3⟩
      have HB3 := Hid.mk' (below_chain HB2.out hb3)
      clear hb3 c1
      go_wp2_with fail
      go_ret
      exact ⟨rfl, below_chain HB1.out HB3.out⟩
  · rw [decide_eq_false hfw] at HFW
    clear hfw
    go_enter Tryd.func6, Tryd.ntmps6
    go_upto_region 1 with fail
    rw [← HW1.out]
    go_wp2_with fail
    refine HP.out.mono ?_
    rintro e w2 ⟨rfl, hb2⟩
    have HB2 := Hid.mk' hb2
    have c1 := (HC.out w2 hb2).2
    clear hb2
    go_wp2_with fail
    refine (HFW.out w2 HB2.out).mono ?_
    rintro e w3 ⟨rfl, hb3⟩
    have HB3 := Hid.mk' (below_chain HB2.out hb3)
    clear hb3 c1
    go_wp2_with fail
    go_ret
    exact ⟨rfl, below_chain HB1.out HB3.out⟩
end Go.Proofs.YtiegobkbinojeaaDoor

/- What the rows' condition on package variables gives a walk: two sentinels. -/
namespace Go.Proofs.YtiegobkbinojeaaDoor
open Go.ChangeShapes Go.WideShapes Go.RowKit

theorem Tryd.own : ownKnob Tryd.prog.godebug = none := by kernel_rfl
theorem Tryd.star : ("*" ++ "errors.errorString" : String) = "*errors.errorString" := by decide
theorem Tryd.rowE (u : TypeId) (h : Tryd.prog.typeName? 3 u = some "*errors.errorString") : u = 149 :=
  typeName_ptr_named (nm := "errors.errorString") (by rw [Tryd.star]; kernel_rfl) (by kernel_rfl) (by decide) u (by rw [Tryd.star]; exact h)
theorem Tryd.cellsE : Tryd.prog.cellsOf 170 = 1 := by kernel_rfl
theorem Tryd.cellsS : Tryd.prog.cellsOf 9 = 1 := by kernel_rfl
theorem Tryd.g1 : Tryd.prog.globalNamed "demon/api.ErrBound" = some 0 := by kernel_rfl
theorem Tryd.g2 : Tryd.prog.globalNamed "demon/api.ErrShape" = some 1 := by kernel_rfl

/-- Any number of listed sentinels of one type: each one's pointer, text and row; no two are one. -/
theorem laid_list {P : Program} {W : World} {nm : String} {ti tp te ts : TypeId} {ms : Array (String × TypeId)} {f : Field}
    (hi : P.underlying ti = some (.interface ms)) (hrow : ∀ u, P.typeName? 3 u = some nm → u = tp)
    (hp : P.underlying tp = some (.pointer te)) (he : P.underlying te = some (.struct #[f])) (hft : f.type = ts) (hfo : f.offset = 0) (hs : P.underlying ts = some .string) (hc : P.cellsOf te = 1) (hcs : P.cellsOf ts = 1) :
    ∀ (L : List (String × List UInt8)) (ps : List MemPlace), (∀ x, x ∈ L → ∃ g, P.globalNamed x.1 = some g ∧ (P.globals[g]?).map (·.type) = some ti) →
      DataW.LaidVars P W (L.map fun x => (x.1, .iface nm (.ptr (.agg [.lit (.string x.2)])))) ps → ps.Nodup →
      (∀ b off, MemPlace.cell b off ∈ ps → (∃ c t, W.heap[b]? = some (.cells c t (0, 0))) ∧ ∀ u v, W.cell? ⟨b, off, none⟩ = some (.iface u v) → Value.okWide P W .any 0 u v) →
      ∃ a : Nat → Addr, (∀ i x, L[i]? = some x → W.var? P x.1 = some #[.iface tp (.pointer (some (a i)))] ∧ (∃ s, W.cell? (a i) = some (.string s) ∧ s.data.toList = x.2) ∧
          (∃ c t, W.heap[(a i).block]? = some (.cells c t (0, 0))) ∧ MemPlace.cell (a i).block (a i).off ∈ ps) ∧
        ∀ i j, i < L.length → j < L.length → i ≠ j → a i ≠ a j := by
  intro L
  induction L with
  | nil => intro ps _ _ _ _; exact ⟨fun _ => default, fun i x h => by simp at h, fun i j h => by simp at h⟩
  | cons x r ih =>
    intro ps hgs hv hnd hrows
    obtain ⟨n, text⟩ := x
    obtain ⟨g0, t0, cs0, f0, p0, q0, hg0, ht0, hv0, hd0, hvr, e0⟩ := hv
    obtain ⟨g, hg, ht⟩ := hgs (n, text) (List.mem_cons_self ..)
    obtain rfl := Option.some.inj (hg.symm.trans hg0)
    obtain rfl := Option.some.inj (ht.symm.trans ht0)
    subst e0
    obtain ⟨l0⟩ := cs0
    have ok0 : ∀ u v, l0 = [.iface u v] → Value.okWide P W .any 0 u v := fun u v e => by
      subst e
      exact (hrows g 0 (by simp [MemPlace.row])).2 u v (by simpa using World.var?_cell hg0 hv0 0)
    obtain ⟨a0, s0, rfl, hc0, hs0, hz0, rfl⟩ := errorString_of_trod hi hrow hp he hft hfo hs hc hcs hd0 ok0
    obtain ⟨c0, tt0, hb0⟩ := (hrows a0.block a0.off (by simp [MemPlace.row])).1
    have hnq : q0.Nodup := List.Nodup.sublist (List.sublist_append_right _ _) hnd
    obtain ⟨a', ha', hne'⟩ := ih q0 (fun x hx => hgs x (List.mem_cons_of_mem _ hx)) hvr hnq (fun b off hm => hrows b off (List.mem_append_right _ hm))
    have hnot : MemPlace.cell a0.block a0.off ∉ q0 := by
      intro hm
      have := (List.nodup_append.1 hnd).2.2
      exact this (.cell a0.block a0.off) (by simp [MemPlace.row]) (.cell a0.block a0.off) hm rfl
    refine ⟨fun i => match i with | 0 => a0 | k + 1 => a' k, ?_, ?_⟩
    · intro i x hx
      cases i with
      | zero =>
        simp only [List.getElem?_cons_zero, Option.some.injEq] at hx
        subst hx
        exact ⟨hv0, ⟨s0, hc0, hs0⟩, ⟨c0, tt0, hb0⟩, by simp [MemPlace.row]⟩
      | succ k =>
        simp only [List.getElem?_cons_succ] at hx
        obtain ⟨h1, h2, h3, h4⟩ := ha' k x hx
        exact ⟨h1, h2, h3, List.mem_append_right _ h4⟩
    · have far : ∀ k, k < r.length → a0 ≠ a' k := fun k hk e => by
        obtain ⟨_, _, _, h4⟩ := ha' k r[k] (by simp [hk])
        rw [← e] at h4
        exact hnot h4
      intro i j hi' hj' hij
      cases i with
      | zero =>
        cases j with
        | zero => exact absurd rfl hij
        | succ k => exact far k (by simpa using hj')
      | succ m =>
        cases j with
        | zero => exact (far m (by simpa using hi')).symm
        | succ k => exact hne' m k (by simpa using hi') (by simpa using hj') (by omega)

/-- The names and texts, in the rows' order. -/
def twoNames : List (String × List UInt8) := [("demon/api.ErrBound", [100, 101, 109, 111, 110, 58, 32, 98, 111, 117, 110, 100]), ("demon/api.ErrShape", [100, 101, 109, 111, 110, 58, 32, 115, 104, 97, 112, 101])]
def laidAll : List (String × DataW Unit) := [("demon/api.ErrBound", Rows.laid_demon_api_ErrBound), ("demon/api.ErrShape", Rows.laid_demon_api_ErrShape)]
theorem laidAll_parts (W : World) : laidMetH Tryd.prog laidAll W = laidMet Tryd.prog (twoNames.map fun x => (x.1, .iface "*errors.errorString" (.ptr (.agg [.lit (.string x.2)])))) W := by kernel_rfl

theorem var_at {W : World} {n : String} {g : Nat} {v : Value} (hg : Tryd.prog.globalNamed n = some g) (h : W.var? Tryd.prog n = some #[v]) : W.cell? ⟨g, 0, none⟩ = some v := by
  simpa using World.var?_cell hg h 0

theorem errs_of_laid {W : World} (h : laidMetH Tryd.prog laidAll W) : ∃ a : Nat → Addr, Errs W a := by
  rw [laidAll_parts] at h
  obtain ⟨ps, hv, hnd, hrows⟩ := h
  obtain ⟨a, ha, hne⟩ := laid_list Tryd.underlying29 Tryd.rowE Tryd.underlying149 Tryd.underlying170 rfl rfl Tryd.underlying9 Tryd.cellsE Tryd.cellsS twoNames ps
    (fun x hx => by
      simp only [twoNames, List.mem_cons, List.not_mem_nil, or_false] at hx
      rcases hx with rfl | rfl
      · exact ⟨_, Tryd.g1, by kernel_rfl⟩
      · exact ⟨_, Tryd.g2, by kernel_rfl⟩) hv hnd hrows
  exact ⟨fun i => a (i - 1), ⟨var_at Tryd.g1 (ha 0 _ rfl).1, var_at Tryd.g2 (ha 1 _ rfl).1⟩⟩

/-- The door's own heap meets the condition. -/
theorem door_met (os : Os) (args : Array Value) : laidMetH Tryd.prog laidAll ((World.doorLaid Tryd.prog 168 os).forCall (fun _ _ => 0) ⟨#[], args, []⟩).memory := by
  rw [laidAll_parts]
  exact laidMet_of_run' 8 (by kernel_rfl) (by kernel_rfl)
end Go.Proofs.YtiegobkbinojeaaDoor

/- A parameter of type []int opened. -/
namespace Go.Proofs.YtiegobkbinojeaaDoor
open Go.ChangeShapes Go.WideShapes Go.ChangeAt Go.RowKit Go.Joins Go.Deep

theorem Tryd.laidOut : laidOutB Tryd.prog = true := by kernel_rfl
theorem Tryd.cellsInt : Tryd.prog.cellsOf 3 = 1 := by kernel_rfl
theorem Tryd.cellsInts : Tryd.prog.cellsOf 39 = 1 := by kernel_rfl

set_option maxRecDepth 100000 in
/-- What a parameter of type []int gives: its slice, its numbers. -/
theorem open_nums {H : Type} {enc : TypeId × Value → H} {W : World} {base : Nat} {v : Value} {d : DataW H} {p : List MemPlace} (hv : Value.okWide Tryd.prog W .any base 39 v)
    (h : DataW.Trod enc Tryd.prog W 0 (fun _ => true) true 39 v d p) :
    ∃ (ad : Option Addr) (n cap : Nat) (z : Nat → Int), v = .slice ad n cap ∧ n ≤ maxLen ∧ NumsAt W (.slice ad n cap) n z := by
  obtain ⟨ad, n, cap, rfl⟩ := okWide_slice Tryd.underlying39 hv
  obtain ⟨fuel, hf⟩ := h
  rcases open_ints Tryd.underlying39 Tryd.underlying3 Tryd.cellsInt hf with ⟨hc, _⟩ | ⟨a, len, cap', zs, hc, _, hl, hm, hz, _, hcell, _⟩
  · simp [Value.cells] at hc
    obtain ⟨rfl, rfl, rfl⟩ := hc
    exact ⟨none, 0, 0, fun _ => 0, rfl, Nat.zero_le _, Or.inl ⟨none, 0, rfl, rfl⟩⟩
  · simp [Value.cells] at hc
    obtain ⟨rfl, rfl, rfl⟩ := hc
    simp only [if_true] at hz
    rcases Nat.eq_zero_or_pos n with rfl | hpos
    · exact ⟨some a, 0, cap, fun _ => 0, rfl, Nat.zero_le _, Or.inl ⟨some a, cap, rfl, rfl⟩⟩
    · obtain ⟨b, o, spot⟩ := a
      have hspot : spot = none := by simpa [Addr.add] using World.cell?_spot (hcell 0 (by omega))
      subst hspot
      refine ⟨_, n, cap, fun i => zs.getD i 0, rfl, by omega, Or.inr ⟨b, o, cap, rfl, hpos, fun i hi => ?_⟩⟩
      have := hcell i (by omega)
      rw [Go.Proofs.YtiegobkbinojeaaDoor.add_plain] at this
      exact this
end Go.Proofs.YtiegobkbinojeaaDoor

/- A parameter of type [][]int opened; how many numbers it holds at the most. -/
namespace Go.Proofs.YtiegobkbinojeaaDoor
open Go.ChangeShapes Go.WideShapes Go.ChangeAt Go.RowKit Go.Joins Go.Deep

theorem bulk_one {H : Type} (d : DataW H) : 1 ≤ Rows.uptoBulk d := by
  cases d with
  | lit l => cases l <;> simp [Rows.uptoBulk]
  | _ => simp [Rows.uptoBulk]
theorem bulk_len {H : Type} : ∀ l : List (DataW H), l.length ≤ Rows.uptoBulkAll l
  | [] => by simp [Rows.uptoBulkAll]
  | x :: r => by
    have h1 := bulk_one x
    have h2 := bulk_len r
    simp only [Rows.uptoBulkAll, List.length_cons]
    omega
theorem bulk_mem {H : Type} {d : DataW H} : ∀ {l : List (DataW H)}, d ∈ l → Rows.uptoBulk d ≤ Rows.uptoBulkAll l
  | x :: r, h => by
    simp only [Rows.uptoBulkAll]
    rcases List.mem_cons.1 h with rfl | h'
    · omega
    · have := bulk_mem h'; omega
theorem bulk_append {H : Type} : ∀ l r : List (DataW H), Rows.uptoBulkAll (l ++ r) = Rows.uptoBulkAll l + Rows.uptoBulkAll r
  | [], r => by simp [Rows.uptoBulkAll]
  | x :: l, r => by simp only [List.cons_append, Rows.uptoBulkAll, bulk_append l r]; omega
theorem bulk_sum {H : Type} (f : Nat → DataW H) (L : Nat → Nat) : ∀ n, (∀ r, r < n → L r ≤ Rows.uptoBulk (f r)) → sumT L n ≤ Rows.uptoBulkAll ((List.range n).map f)
  | 0, _ => Nat.zero_le _
  | n + 1, h => by
    have h1 := bulk_sum f L n (fun r hr => h r (by omega))
    have h2 := h n (by omega)
    show sumT L n + L n ≤ _
    rw [List.range_succ, List.map_append, bulk_append]
    simp only [List.map_cons, List.map_nil, Rows.uptoBulkAll]
    omega

set_option maxRecDepth 100000 in
theorem open_table {H : Type} {enc : TypeId × Value → H} {W : World} {base : Nat} {v : Value} {d : DataW H} {p : List MemPlace} (hv : Value.okWide Tryd.prog W .any base 22 v)
    (h : DataW.Trod enc Tryd.prog W 0 (fun _ => true) true 22 v d p) :
    ∃ (ad : Option Addr) (R cap : Nat) (vs : Nat → Value) (ns : Nat → Nat) (zs : Nat → Nat → Int), v = .slice ad R cap ∧ R ≤ maxLen ∧ TabAt W (.slice ad R cap) R vs ns zs ∧ sumT ns R ≤ Rows.uptoBulk d := by
  obtain ⟨ad, R, cap, rfl⟩ := okWide_slice Tryd.underlying22 hv
  obtain ⟨fuel, hf⟩ := h
  rcases open_int_rows Tryd.underlying22 Tryd.underlying39 Tryd.underlying3 Tryd.cellsInts Tryd.cellsInt hf with ⟨hc, _⟩ | ⟨a, len, cap', A, L, C, Z, hc, _, hl, hm, hx, hr⟩
  · simp [Value.cells] at hc
    obtain ⟨rfl, rfl, rfl⟩ := hc
    exact ⟨none, 0, 0, fun _ => .slice none 0 0, fun _ => 0, fun _ _ => 0, rfl, Nat.zero_le _, Or.inl ⟨none, 0, rfl, rfl⟩, Nat.zero_le _⟩
  · simp [Value.cells] at hc
    obtain ⟨rfl, rfl, rfl⟩ := hc
    simp only [Prod.mk.injEq] at hx
    obtain ⟨rfl, _⟩ := hx
    have hbulk : sumT L R ≤ Rows.uptoBulk (DataW.slice ((List.range R).map fun r => intRow .i64 (A r) (L r) (Z r)) ((List.range (cap - R)).map fun j => intRow .i64 (A (R + j)) (L (R + j)) (Z (R + j))) : DataW H) := by
      have h1 := bulk_sum (H := H) (fun r => intRow .i64 (A r) (L r) (Z r)) L R (fun r hr' => by
        obtain ⟨_, h2, _, h4, _, h6, _⟩ := hr r (by omega)
        cases hA : A r with
        | none => have := h6 hA; omega
        | some a' =>
          have h7 := bulk_len (H := H) (lits .i64 ((Z r).take (L r)))
          have h8 : (lits (H := H) .i64 ((Z r).take (L r))).length = L r := by simp [lits]; omega
          simp only [intRow, Rows.uptoBulk]
          omega)
      simp only [Rows.uptoBulk]
      omega
    rcases Nat.eq_zero_or_pos R with rfl | hpos
    · exact ⟨some a, 0, cap, fun _ => .slice none 0 0, L, fun _ _ => 0, rfl, Nat.zero_le _, Or.inl ⟨some a, cap, rfl, rfl⟩, hbulk⟩
    · obtain ⟨b, o, spot⟩ := a
      have hspot : spot = none := by simpa [Addr.add] using World.cell?_spot (hr 0 (by omega)).1
      subst hspot
      refine ⟨_, R, cap, fun r => .slice (A r) (L r) (C r), L, fun r i => (Z r).getD i 0, rfl, by omega, Or.inr ⟨b, o, cap, rfl, hpos, fun i hi => ?_⟩, hbulk⟩
      obtain ⟨h1, h2, _, h4, _, h6, h7⟩ := hr i (by omega)
      rw [Go.Proofs.YtiegobkbinojeaaDoor.add_plain] at h1
      refine ⟨h1, ?_⟩
      rcases Nat.eq_zero_or_pos (L i) with h0 | h0
      · exact Or.inl ⟨A i, C i, by dsimp only; rw [h0], h0⟩
      · cases hA : A i with
        | none => have := h6 hA; omega
        | some a' =>
          obtain ⟨_, h8⟩ := h7 a' hA
          obtain ⟨b', o', spot'⟩ := a'
          have hs' : spot' = none := by simpa [Addr.add] using World.cell?_spot (h8 0 (by omega))
          subst hs'
          refine Or.inr ⟨b', o', C i, by dsimp only; rw [hA], h0, fun j hj => ?_⟩
          have := h8 j (by omega)
          rw [Go.Proofs.YtiegobkbinojeaaDoor.add_plain] at this
          exact this
theorem bulk_bound {H : Type} {l : List (DataW H)} (hk : Rows.uptoSmall H l = true) : Rows.uptoBulkAll l ≤ 1048576 := of_decide_eq_true hk
end Go.Proofs.YtiegobkbinojeaaDoor

/- A parameter of type demonref5.Family opened: its number, its rows; how many numbers it holds at the most. -/
namespace Go.Proofs.YtiegobkbinojeaaDoor
open Go.ChangeShapes Go.WideShapes Go.ChangeAt Go.RowKit Go.Joins Go.Deep

theorem Tryd.cellsFam : Tryd.prog.cellsOf 24 = 2 := by kernel_rfl
set_option maxRecDepth 100000 in
theorem open_fam {H : Type} {enc : TypeId × Value → H} {W : World} {base : Nat} {v : Value} {d : DataW H} {p : List MemPlace} (hv : Value.okWide Tryd.prog W .any base 24 v)
    (h : DataW.Trod enc Tryd.prog W 0 (fun _ => true) true 24 v d p) :
    ∃ (M : Int) (la : Option Addr) (R lc : Nat) (vs : Nat → Value) (ns : Nat → Nat) (zs : Nat → Nat → Int), v = .agg #[.int .i64 M, .slice la R lc] ∧ TabAt W (.slice la R lc) R vs ns zs ∧ R ≤ maxLen ∧ sumT ns R ≤ Rows.uptoBulk d := by
  obtain ⟨c0, c1, y0, y1, m, rfl, rfl, rfl, hy0, hy1⟩ := open_agg2 Tryd.underlying24 (by kernel_rfl) Tryd.cellsFam hv h
  obtain ⟨M, e0, _, _⟩ := DataW.trod_int Tryd.underlying3 hy0
  simp at e0
  subst e0
  rcases open_int_rows Tryd.underlying22 Tryd.underlying39 Tryd.underlying3 Tryd.cellsInts Tryd.cellsInt hy1 with ⟨hc, _⟩ | ⟨a, R, cap, A, L, C, Z, hc, _, hl, hm, hx, hr⟩
  · simp at hc
    subst hc
    exact ⟨M, none, 0, 0, fun _ => .slice none 0 0, fun _ => 0, fun _ _ => 0, rfl, Or.inl ⟨none, 0, rfl, rfl⟩, Nat.zero_le _, Nat.zero_le _⟩
  · simp at hc
    subst hc
    obtain ⟨d1, p1⟩ := y1
    simp only [Prod.mk.injEq] at hx
    obtain ⟨rfl, _⟩ := hx
    have hbulk : sumT L R ≤ Rows.uptoBulk (DataW.slice ((List.range R).map fun r => intRow .i64 (A r) (L r) (Z r)) ((List.range (cap - R)).map fun j => intRow .i64 (A (R + j)) (L (R + j)) (Z (R + j))) : DataW H) := by
      have h1 := bulk_sum (H := H) (fun r => intRow .i64 (A r) (L r) (Z r)) L R (fun r hr' => by
        obtain ⟨_, h2, _, h4, _, h6, _⟩ := hr r (by omega)
        cases hA : A r with
        | none => have := h6 hA; omega
        | some a' =>
          have h7 := bulk_len (H := H) (lits .i64 ((Z r).take (L r)))
          have h8 : (lits (H := H) .i64 ((Z r).take (L r))).length = L r := by simp [lits]; omega
          simp only [intRow, Rows.uptoBulk]
          omega)
      simp only [Rows.uptoBulk]
      omega
    have hall : sumT L R ≤ Rows.uptoBulk (.agg [y0.1, DataW.slice ((List.range R).map fun r => intRow .i64 (A r) (L r) (Z r)) ((List.range (cap - R)).map fun j => intRow .i64 (A (R + j)) (L (R + j)) (Z (R + j)))] : DataW H) := by
      have h1 := bulk_mem (H := H) (d := DataW.slice ((List.range R).map fun r => intRow .i64 (A r) (L r) (Z r)) ((List.range (cap - R)).map fun j => intRow .i64 (A (R + j)) (L (R + j)) (Z (R + j)))) (l := [y0.1, DataW.slice ((List.range R).map fun r => intRow .i64 (A r) (L r) (Z r)) ((List.range (cap - R)).map fun j => intRow .i64 (A (R + j)) (L (R + j)) (Z (R + j)))]) (by simp)
      have h2 : Rows.uptoBulkAll [y0.1, DataW.slice ((List.range R).map fun r => intRow .i64 (A r) (L r) (Z r)) ((List.range (cap - R)).map fun j => intRow .i64 (A (R + j)) (L (R + j)) (Z (R + j)))] ≤ Rows.uptoBulk (.agg [y0.1, DataW.slice ((List.range R).map fun r => intRow .i64 (A r) (L r) (Z r)) ((List.range (cap - R)).map fun j => intRow .i64 (A (R + j)) (L (R + j)) (Z (R + j)))] : DataW H) := by
        simp only [Rows.uptoBulk]; omega
      omega
    rcases Nat.eq_zero_or_pos R with rfl | hpos
    · exact ⟨M, some a, 0, cap, fun _ => .slice none 0 0, L, fun _ _ => 0, rfl, Or.inl ⟨some a, cap, rfl, rfl⟩, Nat.zero_le _, hall⟩
    · obtain ⟨b, o, spot⟩ := a
      have hspot : spot = none := by simpa [Addr.add] using World.cell?_spot (hr 0 (by omega)).1
      subst hspot
      refine ⟨M, _, R, cap, fun r => .slice (A r) (L r) (C r), L, fun r i => (Z r).getD i 0, rfl, Or.inr ⟨b, o, cap, rfl, hpos, fun i hi => ?_⟩, by omega, hall⟩
      obtain ⟨h1, h2, _, h4, _, h6, h7⟩ := hr i (by omega)
      rw [Go.Proofs.YtiegobkbinojeaaDoor.add_plain] at h1
      refine ⟨h1, ?_⟩
      rcases Nat.eq_zero_or_pos (L i) with h0 | h0
      · exact Or.inl ⟨A i, C i, by dsimp only; rw [h0], h0⟩
      · cases hA : A i with
        | none => have := h6 hA; omega
        | some a' =>
          obtain ⟨_, h8⟩ := h7 a' hA
          obtain ⟨b', o', spot'⟩ := a'
          have hs' : spot' = none := by simpa [Addr.add] using World.cell?_spot (h8 0 (by omega))
          subst hs'
          refine Or.inr ⟨b', o', C i, by dsimp only; rw [hA], h0, fun j hj => ?_⟩
          have := h8 j (by omega)
          rw [Go.Proofs.YtiegobkbinojeaaDoor.add_plain] at this
          exact this
end Go.Proofs.YtiegobkbinojeaaDoor
