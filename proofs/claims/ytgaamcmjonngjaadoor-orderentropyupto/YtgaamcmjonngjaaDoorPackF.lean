/- The law OrderEntropy. -/
import Derived.Test.YtgaamcmjonngjaaDoorPackE
import Derived.Test.YtgaamcmjonngjaaDoorRows
import Derived.Test.YtgaamcmjonngjaaDoorErrs
import Derived.ChangeSame
import Derived.ChangeVars
import Derived.JoinedOf
import Derived.LaidLaws
import Derived.LaidHandle
import Derived.LaidMore
import Derived.Stop.Joined
import Derived.Test.YtgaamcmjonngjaaDoorInts
import Derived.Test.YtgaamcmjonngjaaDoorCards
import Derived.Test.YtgaamcmjonngjaaDoorTie
import Derived.SevenTiedAt
import Derived.ProofKit
import Derived.OpenShut
import Derived.ChangeOld
import Derived.Lib.SmallJoins
import Derived.Deep.Matrix
import Derived.Test.YtgaamcmjonngjaaDoorPackD
import Derived.Deep.DeepHandedRow
import Derived.Deep.DeepWitnessRowRef
namespace Go.Proofs.YtgaamcmjonngjaaDoor
open Go.RowKit

theorem row_leE {R : Nat} {ns : Nat → Nat} (h : sumT ns R ≤ 600) (i : Nat) (hi : i < R) : ns i ≤ 600 := by
  have h2 : sumT ns i + ns i ≤ sumT ns R := sumT_mono ns hi
  omega
/-- Entropy, whether it is told or not. -/
theorem Entropy_anyE (a : Nat → Addr) (v : Value) (n : Nat) (z : Nat → Int) (w : World) (hE : Errs w a) (h : NumsAt w v n z) (hn : n ≤ 16) (hz : ∀ i, i < n → 0 ≤ z i) :
    Calls Tryd.prog 14 #[v] w fun e w' => ∃ d x y c er, e = .returned (.tuple #[.agg #[.int .i64 d, .slice x y c], er]) ∧ (er = .nilIface ∨ ∃ t u, er = .iface t u) ∧ Below w.heap.size w w' := by
  by_cases h0 : weightsErr z n = 0
  · refine (Entropy_lvO a v n (sumN z n).toNat z w hE h h0 (by have := sumN_nonneg (z := z) (n := n) hz; omega)).mono ?_
    rintro e w' ⟨dn, u, rfl, hu, hb⟩
    obtain ⟨x, y, c, rfl⟩ := hu.form
    exact ⟨dn, x, y, c, _, rfl, Or.inl rfl, hb⟩
  · refine (Entropy_bad a v n z w hE h (by omega) h0).mono ?_
    rintro e w' ⟨rfl, hb⟩
    exact ⟨0, none, 0, 0, _, rfl, Or.inr (by rw [errV_pos a h0]; exact ⟨_, _, rfl⟩), hb⟩

set_option maxRecDepth 100000 in
set_option maxHeartbeats 8000000 in
theorem OrderEntropy_all (a : Nat → Addr) (ad : Option Addr) (R cap : Nat) (vs : Nat → Value) (ns : Nat → Nat) (zs : Nat → Nat → Int) (uad : Option Addr) (n ucap : Nat) (z : Nat → Int) (w : World) (hE : Errs w a) (h : TabAt w (.slice ad R cap) R vs ns zs) (hm : R ≤ maxLen) (hs : sumT ns R ≤ 2000000) (hu : NumsAt w (.slice uad n ucap) n z) :
    Calls Tryd.prog 5 #[.slice ad R cap, .slice uad n ucap] w fun e w' => e = .returned (.bool true) ∧ Below w.heap.size w w' := by
  have hU := unlike_any a w hE
  have HT := Hid.mk' (fun (W : World) (hb : Below w.heap.size w W) => h.later hb)
  have HN := Hid.mk' (fun (W : World) (hb : Below w.heap.size w W) => hu.later hb)
  have HE := Hid.mk' (fun (W : World) (hb : Below w.heap.size w W) => hE.below hb)
  by_cases hf : R ≤ 70 ∧ sumT ns R ≤ 600
  · have HFW : Hid (∀ W, Below w.heap.size w W → Calls Tryd.prog 16 #[.slice ad R cap] W fun e w' => e = .returned (.bool true) ∧ Below W.heap.size W w') := fun W hb => few_any _ R vs ns zs W (HT.out W hb) hm hs true ⟨fun _ => hf, fun _ => rfl⟩
    by_cases hn : 16 < n
    · have hI : (16 : Int) < (n : Int) := by omega
      clear h hu hE hf hn HE HT HN hm hs
      go_enter Tryd.func5, Tryd.ntmps5
      go_wp2_with fail
      refine hU.mono ?_
      rintro e w1 ⟨rfl, hb1⟩
      have HB1 := Hid.mk' hb1
      clear hb1 hU
      go_wp2_with fail
      refine (HFW.out w1 HB1.out).mono ?_
      rintro e w2 ⟨rfl, hb2⟩
      have HB2 := Hid.mk' (below_chain HB1.out hb2)
      clear hb2
      go_wp2_with fail
      go_ret
      exact ⟨rfl, HB2.out⟩
    · have hI : ¬ (16 : Int) < (n : Int) := by omega
      have hlen := fun i (hi : i < R) => (show ns i ≤ 100000 by have := row_leE hf.2 i hi; omega)
      have HLI := Hid.mk' (fun (W : World) (hb : Below w.heap.size w W) => lists_any _ R vs ns zs W (HT.out W hb) hf.1 hf.2)
      have HIN := Hid.mk' (fun (W : World) (hb : Below w.heap.size w W) => ints_any _ n z W (HN.out W hb) (by omega))
      by_cases hsp : spE R ns zs n z = 0
      · obtain ⟨hsq, rfl, hno⟩ := spE_ok hsp
        have hpos := hsq.pos
        have hle := hsq.le
        have HSPR := Hid.mk' (fun (W : World) (x : Value) (xs : Nat → Value) (y : Value) (hb : Below w.heap.size w W) (hx : TabAt W x n xs ns zs) (hy : NumsAt W y n z) => Spread_ok a x n xs ns zs y n z W (HE.out W hb) hx hy hlen hsp)
        have hz0 := fun i (hi : i < n) => (noN_none hno i hi).1
        have hsp0 : ∀ i, i < n → 0 ≤ sprF n zs z i := fun i hi => (sprF_bnd hsq (noN_none hno) hi n (Nat.le_refl _)).1
        by_cases hboth : weightsErr z n = 0 ∧ weightsErr (sprF n zs z) n = 0
        · obtain ⟨S, hS⟩ : ∃ S : Nat, sumN (zs 0) n = (S : Int) := ⟨(sumN (zs 0) n).toNat, by have := sumN_nonneg (z := zs 0) (n := n) (fun i hi => (hsq.num 0 hpos i hi).1); omega⟩
          obtain ⟨T, hT⟩ : ∃ T : Nat, sumN z n = (T : Int) := ⟨(sumN z n).toNat, by have := sumN_nonneg (z := z) (n := n) hz0; omega⟩
          obtain ⟨_, hok1⟩ := weightsErr_ok hboth.1
          obtain ⟨_, hok2⟩ := weightsErr_ok hboth.2
          have hsum := sprF_sum (w := z) hsq
          rw [hS, hT, ← Int.natCast_mul] at hsum
          have p1 := hok1.pos
          have p2 := hok2.pos
          have l2 := hok2.le
          rw [hT] at p1
          rw [hsum] at p2 l2
          have hT0 : 0 < T := by omega
          have hST0 : 0 < S * T := by omega
          have hS0 : 0 < S := Nat.pos_of_mul_pos_right hST0
          have hprd := spread_prd (w := z) hsq hS hz0 (by rw [hT, ← Int.natCast_mul]; omega)
          rw [hT, Int.toNat_natCast] at hprd
          have HEP := Hid.mk' (fun (W : World) (y : Value) (hb : Below w.heap.size w W) (hy : NumsAt W y n z) => Entropy_lvO a y n T z W (HE.out W hb) hy hboth.1 hT)
          have HEQ := Hid.mk' (fun (W : World) (y : Value) (hb : Below w.heap.size w W) (hy : NumsAt W y n (sprF n zs z)) => Entropy_lvO a y n (S * T) (sprF n zs z) W (HE.out W hb) hy hboth.2 hsum)
          have HLS := Hid.mk' (fun (W : World) (d1 d2 : Int) (u1 u2 : Value) (hb : Below w.heap.size w W) (k1 : LV W T (fun x => sumN (entV z T x) n) 4096 d1 u1) (k2 : LV W (S * T) (fun x => sumN (entV (sprF n zs z) (S * T) x) n) 4096 d2 u2) => less_any (U := S ^ (S * T) * prdO z n ^ S) (D := prdO (sprF n zs z) n) a W (HE.out W hb) (k1.wide S) k2 (by decide) hST0 (Nat.mul_pos (Nat.pow_pos hS0) (Nat.pow_pos (prdO_pos z n))) (prdO_pos _ n) hprd (fun q hq => by
            rw [ent_prd hq hz0, ent_prd hq hsp0, hsum, hT, mult_mul hq _ _ hS0 hT0, mult_mul hq _ _ (Nat.pow_pos hS0) (Nat.pow_pos (prdO_pos z n)), mult_power hq hS0, mult_power hq (prdO_pos z n)]
            simp only [Int.natCast_add, Int.natCast_mul]
            grind))
          clear h hu hE hf hn hsp hsq hno hlen HE HT HN hm hs hz0 hsp0 hboth hS hT hok1 hok2 hsum p1 p2 l2 hT0 hST0 hS0 hprd
          generalize (fun x => sumN (entV z T x) n) = Fz at *
          generalize (fun x => sumN (entV (sprF n zs z) (S * T) x) n) = Ff at *
          generalize S * T = M at *
          go_enter Tryd.func5, Tryd.ntmps5
          go_wp2_with fail
          refine hU.mono ?_
          rintro e w1 ⟨rfl, hb1⟩
          have HB1 := Hid.mk' hb1
          clear hb1 hU
          go_wp2_with fail
          refine (HFW.out w1 HB1.out).mono ?_
          rintro e w2 ⟨rfl, hb2⟩
          have HB2 := Hid.mk' (below_chain HB1.out hb2)
          clear hb2
          go_wp2_with fail
          refine (HLI.out w2 HB2.out).mono ?_
          rintro e w3 ⟨v3, vs3, rfl, ht3, hb3⟩
          have HT3 := Hid.mk' ht3
          have HB3 := Hid.mk' (below_chain HB2.out hb3)
          clear ht3 hb3
          go_wp2_with fail
          refine (HIN.out w3 HB3.out).mono ?_
          rintro e w4 ⟨v4, rfl, hn4, hb4⟩
          have HN4 := Hid.mk' hn4
          have HT4 := Hid.mk' (HT3.out.later hb4)
          have HB4 := Hid.mk' (below_chain HB3.out hb4)
          clear hn4 hb4
          go_wp2_with fail
          refine (HSPR.out w4 v3 vs3 v4 HB4.out HT4.out HN4.out).mono ?_
          rintro e w5 ⟨r5, rfl, hr5, hb5⟩
          have HR5 := Hid.mk' hr5
          have HB5 := Hid.mk' (below_chain HB4.out hb5)
          clear hr5 hb5
          go_wp2_with fail
          refine (HIN.out w5 HB5.out).mono ?_
          rintro e w9 ⟨v9, rfl, hn9, hb9⟩
          have HN9 := Hid.mk' hn9
          have HR9 := Hid.mk' (HR5.out.later hb9)
          have HB9 := Hid.mk' (below_chain HB5.out hb9)
          clear hn9 hb9
          go_wp2_with fail
          refine (HEP.out w9 v9 HB9.out HN9.out).mono ?_
          rintro e w10 ⟨d1, u1, rfl, hu1, hb10⟩
          obtain ⟨x1, y1, c1, rfl⟩ := hu1.form
          have HB10 := Hid.mk' (below_chain HB9.out hb10)
          have hbA : Below w10.heap.size w10 (w10.alloc (.cells #[.int .i64 d1, .slice x1 y1 c1] 36)) := (Below.refl _ _).alloc (Nat.le_refl _) _
          have HUA := Hid.mk' (hu1.later hbA)
          have HRA := Hid.mk' ((HR9.out.later hb10).later hbA)
          have HBA := Hid.mk' (below_chain HB10.out hbA)
          have HCA := Hid.mk' (res_past (x := .int .i64 d1) (y := .slice x1 y1 c1) (w := w10) (t := 36) (Below.refl _ _))
          obtain ⟨wA, hwA⟩ : ∃ wA, wA = w10.alloc (.cells #[.int .i64 d1, .slice x1 y1 c1] 36) := ⟨_, rfl⟩
          obtain ⟨bA, hbAe⟩ : ∃ bA, bA = w10.heap.size := ⟨_, rfl⟩
          rw [← hwA] at HUA HRA HBA HCA
          rw [← hbAe] at HCA
          clear hu1 hb10 hbA HB10 HN9 HR9 HR5
          go_upto_region 8 with fail
          rw [← hwA, ← hbAe]
          clear hwA hbAe
          go_wp2_with fail
          refine (HEQ.out wA r5 HBA.out HRA.out).mono ?_
          rintro e w12 ⟨d2, u2, rfl, hu2, hb12⟩
          obtain ⟨x2, y2, c2, rfl⟩ := hu2.form
          have HB12 := Hid.mk' (below_chain HBA.out hb12)
          have hbB : Below w12.heap.size w12 (w12.alloc (.cells #[.int .i64 d2, .slice x2 y2 c2] 36)) := (Below.refl _ _).alloc (Nat.le_refl _) _
          have hbAB := below_chain hb12 hbB
          have HUB := Hid.mk' (hu2.later hbB)
          have HUA2 := Hid.mk' (HUA.out.later hbAB)
          have HBB := Hid.mk' (below_chain HB12.out hbB)
          have p0 : (w12.alloc (.cells #[.int .i64 d2, .slice x2 y2 c2] 36)).cell? ⟨bA, 0, none⟩ = some (.int .i64 d1) := by rw [hbAB.cell (cell_lt HCA.out.1)]; exact HCA.out.1
          have p1 : (w12.alloc (.cells #[.int .i64 d2, .slice x2 y2 c2] 36)).cell? ⟨bA, 1, none⟩ = some (.slice x1 y1 c1) := by rw [hbAB.cell (cell_lt HCA.out.2.1)]; exact HCA.out.2.1
          obtain ⟨r0, r1, _, _⟩ := res_past (x := .int .i64 d2) (y := .slice x2 y2 c2) (w := w12) (t := 36) (Below.refl _ _)
          obtain ⟨wB, hwB⟩ : ∃ wB, wB = w12.alloc (.cells #[.int .i64 d2, .slice x2 y2 c2] 36) := ⟨_, rfl⟩
          obtain ⟨bB, hbBe⟩ : ∃ bB, bB = w12.heap.size := ⟨_, rfl⟩
          rw [← hwB] at HUB HUA2 HBB p0 p1 r0 r1
          rw [← hbBe] at r0 r1
          have HLL := Hid.mk' (HLS.out wB _ _ _ _ HBB.out HUA2.out HUB.out)
          clear hu2 hb12 hbB hbAB HCA
          go_upto_region 9 with fail
          rw [← hwB, ← hbBe]
          clear hwB hbBe
          go_wp2_with fail
          refine HLL.out.mono ?_
          rintro e w13 ⟨rfl, hb13⟩
          have HB13 := Hid.mk' (below_chain HBB.out hb13)
          clear hb13
          go_wp2_with fail
          go_ret
          exact ⟨rfl, HB13.out⟩
        · have HEP := Hid.mk' (fun (W : World) (y : Value) (hb : Below w.heap.size w W) (hy : NumsAt W y n z) => (show Calls Tryd.prog 14 #[y] W fun e w' => ∃ d x y c er, e = .returned (.tuple #[.agg #[.int .i64 d, .slice x y c], er]) ∧ (er = .nilIface → weightsErr z n = 0) ∧ (er = .nilIface ∨ ∃ t u, er = .iface t u) ∧ Below W.heap.size W w' from by
            by_cases h0 : weightsErr z n = 0
            · refine (Entropy_anyE a y n z W (HE.out W hb) hy (by omega) hz0).mono ?_
              rintro e w' ⟨d, x, y, c, er, rfl, h1, h2⟩
              exact ⟨d, x, y, c, er, rfl, fun _ => h0, h1, h2⟩
            · refine (Entropy_bad a y n z W (HE.out W hb) hy (by omega) h0).mono ?_
              rintro e w' ⟨rfl, hb⟩
              exact ⟨0, none, 0, 0, _, rfl, fun h9 => (by rw [errV_pos a h0] at h9; cases h9), Or.inr (by rw [errV_pos a h0]; exact ⟨_, _, rfl⟩), hb⟩))
          have HEQ := Hid.mk' (fun (W : World) (y : Value) (hb : Below w.heap.size w W) (hy : NumsAt W y n (sprF n zs z)) => Entropy_anyE a y n (sprF n zs z) W (HE.out W hb) hy (by omega) hsp0)
          have HEB := Hid.mk' (fun (W : World) (y : Value) (hb : Below w.heap.size w W) (hy : NumsAt W y n (sprF n zs z)) (h9 : weightsErr z n = 0) => (show Calls Tryd.prog 14 #[y] W fun e w' => ∃ t u, e = .returned (.tuple #[.agg #[.int .i64 0, .slice none 0 0], .iface t u]) ∧ Below W.heap.size W w' from by
            have h0 : weightsErr (sprF n zs z) n ≠ 0 := fun h8 => hboth ⟨h9, h8⟩
            refine (Entropy_bad a y n (sprF n zs z) W (HE.out W hb) hy (by omega) h0).mono ?_
            rintro e w' ⟨rfl, hb⟩
            rw [errV_pos a h0]
            exact ⟨_, _, rfl, hb⟩))
          clear h hu hE hf hn hsp hsq hno hlen HE HT HN hm hs hz0 hsp0 hboth
          go_enter Tryd.func5, Tryd.ntmps5
          go_wp2_with fail
          refine hU.mono ?_
          rintro e w1 ⟨rfl, hb1⟩
          have HB1 := Hid.mk' hb1
          clear hb1 hU
          go_wp2_with fail
          refine (HFW.out w1 HB1.out).mono ?_
          rintro e w2 ⟨rfl, hb2⟩
          have HB2 := Hid.mk' (below_chain HB1.out hb2)
          clear hb2
          go_wp2_with fail
          refine (HLI.out w2 HB2.out).mono ?_
          rintro e w3 ⟨v3, vs3, rfl, ht3, hb3⟩
          have HT3 := Hid.mk' ht3
          have HB3 := Hid.mk' (below_chain HB2.out hb3)
          clear ht3 hb3
          go_wp2_with fail
          refine (HIN.out w3 HB3.out).mono ?_
          rintro e w4 ⟨v4, rfl, hn4, hb4⟩
          have HN4 := Hid.mk' hn4
          have HT4 := Hid.mk' (HT3.out.later hb4)
          have HB4 := Hid.mk' (below_chain HB3.out hb4)
          clear hn4 hb4
          go_wp2_with fail
          refine (HSPR.out w4 v3 vs3 v4 HB4.out HT4.out HN4.out).mono ?_
          rintro e w5 ⟨r5, rfl, hr5, hb5⟩
          have HR5 := Hid.mk' hr5
          have HB5 := Hid.mk' (below_chain HB4.out hb5)
          clear hr5 hb5
          go_wp2_with fail
          refine (HIN.out w5 HB5.out).mono ?_
          rintro e w9 ⟨v9, rfl, hn9, hb9⟩
          have HN9 := Hid.mk' hn9
          have HR9 := Hid.mk' (HR5.out.later hb9)
          have HB9 := Hid.mk' (below_chain HB5.out hb9)
          clear hn9 hb9
          go_wp2_with fail
          refine (HEP.out w9 v9 HB9.out HN9.out).mono ?_
          rintro e w10 ⟨d1, x1, y1, c1, er, rfl, her0, her, hb10⟩
          have HB10 := Hid.mk' (below_chain HB9.out hb10)
          have hbA : Below w10.heap.size w10 (w10.alloc (.cells #[.int .i64 d1, .slice x1 y1 c1] 36)) := (Below.refl _ _).alloc (Nat.le_refl _) _
          have HRA := Hid.mk' ((HR9.out.later hb10).later hbA)
          have HBA := Hid.mk' (below_chain HB10.out hbA)
          obtain ⟨wA, hwA⟩ : ∃ wA, wA = w10.alloc (.cells #[.int .i64 d1, .slice x1 y1 c1] 36) := ⟨_, rfl⟩
          rw [← hwA] at HRA HBA
          rcases her with rfl | ⟨t, u, rfl⟩
          · have HEB' := Hid.mk' (fun W y hb hy => HEB.out W y hb hy (her0 rfl))
            clear hb10 hbA HB10 HN9 HR9 HR5 her0 HEB
            go_upto_region 8 with fail
            rw [← hwA]
            clear hwA
            go_wp2_with fail
            refine (HEB'.out wA r5 HBA.out HRA.out).mono ?_
            rintro e w12 ⟨t, u, rfl, hb12⟩
            have HB12 := Hid.mk' (below_chain HBA.out hb12)
            have hle12 := HB12.out.size
            clear hb12
            go_wp2_with fail
            go_ret
            exact ⟨rfl, HB12.out.alloc hle12 _⟩
          · clear hb10 hbA HB10 HN9 HR9 HR5 her0 HEB
            go_upto_region 8 with fail
            rw [← hwA]
            clear hwA
            go_wp2_with fail
            refine (HEQ.out wA r5 HBA.out HRA.out).mono ?_
            rintro e w12 ⟨d2, x2, y2, c2, er2, rfl, _, hb12⟩
            have HB12 := Hid.mk' (below_chain HBA.out hb12)
            have hle12 := HB12.out.size
            clear hb12
            go_wp2_with fail
            go_ret
            exact ⟨rfl, HB12.out.alloc hle12 _⟩
      · have HSPR := Hid.mk' (fun (W : World) (x : Value) (xs : Nat → Value) (y : Value) (hb : Below w.heap.size w W) (hx : TabAt W x R xs ns zs) (hy : NumsAt W y n z) => Spread_bad a x R xs ns zs y n z W (HE.out W hb) hx hy (by omega) hlen (by omega) hsp)
        obtain ⟨er, he⟩ : ∃ e, errV a (spE R ns zs n z) = e := ⟨_, rfl⟩
        obtain ⟨t, x, rfl⟩ : ∃ t x, er = .iface t x := by rw [← he, errV_pos a hsp]; exact ⟨_, _, rfl⟩
        rw [he] at HSPR
        clear h hu hE hf hn hsp hlen HE HT HN hm hs he
        go_enter Tryd.func5, Tryd.ntmps5
        go_wp2_with fail
        refine hU.mono ?_
        rintro e w1 ⟨rfl, hb1⟩
        have HB1 := Hid.mk' hb1
        clear hb1 hU
        go_wp2_with fail
        refine (HFW.out w1 HB1.out).mono ?_
        rintro e w2 ⟨rfl, hb2⟩
        have HB2 := Hid.mk' (below_chain HB1.out hb2)
        clear hb2
        go_wp2_with fail
        refine (HLI.out w2 HB2.out).mono ?_
        rintro e w3 ⟨v3, vs3, rfl, ht3, hb3⟩
        have HT3 := Hid.mk' ht3
        have HB3 := Hid.mk' (below_chain HB2.out hb3)
        clear ht3 hb3
        go_wp2_with fail
        refine (HIN.out w3 HB3.out).mono ?_
        rintro e w4 ⟨v4, rfl, hn4, hb4⟩
        have HN4 := Hid.mk' hn4
        have HT4 := Hid.mk' (HT3.out.later hb4)
        have HB4 := Hid.mk' (below_chain HB3.out hb4)
        clear hn4 hb4
        go_wp2_with fail
        refine (HSPR.out w4 v3 vs3 v4 HB4.out HT4.out HN4.out).mono ?_
        rintro e w5 ⟨rfl, hb5⟩
        have HB5 := Hid.mk' (below_chain HB4.out hb5)
        clear hb5
        go_wp2_with fail
        go_ret
        exact ⟨rfl, HB5.out⟩
  · have HFW : Hid (∀ W, Below w.heap.size w W → Calls Tryd.prog 16 #[.slice ad R cap] W fun e w' => e = .returned (.bool false) ∧ Below W.heap.size W w') := fun W hb => few_any _ R vs ns zs W (HT.out W hb) hm hs false ⟨(fun h => by cases h), (fun h => absurd h hf)⟩
    clear h hu hE hf HE HT HN hm hs
    go_enter Tryd.func5, Tryd.ntmps5
    go_wp2_with fail
    refine hU.mono ?_
    rintro e w1 ⟨rfl, hb1⟩
    have HB1 := Hid.mk' hb1
    clear hb1 hU
    go_wp2_with fail
    refine (HFW.out w1 HB1.out).mono ?_
    rintro e w2 ⟨rfl, hb2⟩
    have HB2 := Hid.mk' (below_chain HB1.out hb2)
    clear hb2
    go_wp2_with fail
    go_ret
    exact ⟨rfl, HB2.out⟩
theorem OrderEntropy_main (a : Nat → Addr) (ad : Option Addr) (R cap : Nat) (vs : Nat → Value) (ns : Nat → Nat) (zs : Nat → Nat → Int) (uad : Option Addr) (n ucap : Nat) (z : Nat → Int) (w : World) (hE : Errs w a) (h : TabAt w (.slice ad R cap) R vs ns zs) (hm : R ≤ maxLen) (hu : NumsAt w (.slice uad n ucap) n z) (_ : n ≤ maxLen) (hs : sumT ns R ≤ 2000000) :
    Calls Tryd.prog 5 #[.slice ad R cap, .slice uad n ucap] w fun e w' => e = .returned (.bool true) ∧ Below w.heap.size w w' :=
  OrderEntropy_all a ad R cap vs ns zs uad n ucap z w hE h hm hs hu
end Go.Proofs.YtgaamcmjonngjaaDoor

/- What the rows' condition on package variables gives a walk: two sentinels. -/
namespace Go.Proofs.YtgaamcmjonngjaaDoor
open Go.ChangeShapes Go.WideShapes Go.RowKit

theorem Tryd.own : ownKnob Tryd.prog.godebug = none := by kernel_rfl
theorem Tryd.star : ("*" ++ "errors.errorString" : String) = "*errors.errorString" := by decide
theorem Tryd.rowE (u : TypeId) (h : Tryd.prog.typeName? 3 u = some "*errors.errorString") : u = 227 :=
  typeName_ptr_named (nm := "errors.errorString") (by rw [Tryd.star]; kernel_rfl) (by kernel_rfl) (by decide) u (by rw [Tryd.star]; exact h)
theorem Tryd.cellsE : Tryd.prog.cellsOf 248 = 1 := by kernel_rfl
theorem Tryd.cellsS : Tryd.prog.cellsOf 9 = 1 := by kernel_rfl
theorem Tryd.g1 : Tryd.prog.globalNamed "demon/api.ErrBound" = some 0 := by kernel_rfl
theorem Tryd.g2 : Tryd.prog.globalNamed "demon/api.ErrShape" = some 1 := by kernel_rfl

/-- Any number of listed sentinels of one type: each one's pointer, text and row; no two are one. -/
theorem laid_list {P : Program} {W : World} {nm : String} {ti tp te ts : TypeId} {ms : Array (String × TypeId)} {f : Field}
    (hi : P.underlying ti = some (.interface ms)) (hrow : ∀ u, P.typeName? 3 u = some nm → u = tp)
    (hp : P.underlying tp = some (.pointer te)) (he : P.underlying te = some (.struct #[f])) (hft : f.type = ts) (hfo : f.offset = 0) (hs : P.underlying ts = some .string) (hc : P.cellsOf te = 1) (hcs : P.cellsOf ts = 1) :
    ∀ (L : List (String × List UInt8)) (ps : List MemPlace), (∀ x, x ∈ L → ∃ g, P.globalNamed x.1 = some g ∧ (P.globals[g]?).map (·.type) = some ti) →
      DataW.LaidVars P W (L.map fun x => (x.1, .iface nm (.ptr (.agg [.lit (.string x.2)])))) ps → ps.Nodup →
      (∀ b off, MemPlace.cell b off ∈ ps → (∃ c t, W.heap[b]? = some (.cells c t (0, 0))) ∧ ∀ u v, W.cell? ⟨b, off, none⟩ = some (.iface u v) → Value.okWide P W .any 0 u v) →
      ∃ a : Nat → Addr, (∀ i x, L[i]? = some x → W.var? P x.1 = some #[.iface tp (.pointer (some (a i)))] ∧ (∃ s, W.cell? (a i) = some (.string s) ∧ s.data.toList = x.2) ∧
          (∃ c t, W.heap[(a i).block]? = some (.cells c t (0, 0))) ∧ MemPlace.cell (a i).block (a i).off ∈ ps) ∧
        ∀ i j, i < L.length → j < L.length → i ≠ j → a i ≠ a j := by
  intro L
  induction L with
  | nil => intro ps _ _ _ _; exact ⟨fun _ => default, fun i x h => by simp at h, fun i j h => by simp at h⟩
  | cons x r ih =>
    intro ps hgs hv hnd hrows
    obtain ⟨n, text⟩ := x
    obtain ⟨g0, t0, cs0, f0, p0, q0, hg0, ht0, hv0, hd0, hvr, e0⟩ := hv
    obtain ⟨g, hg, ht⟩ := hgs (n, text) (List.mem_cons_self ..)
    obtain rfl := Option.some.inj (hg.symm.trans hg0)
    obtain rfl := Option.some.inj (ht.symm.trans ht0)
    subst e0
    obtain ⟨l0⟩ := cs0
    have ok0 : ∀ u v, l0 = [.iface u v] → Value.okWide P W .any 0 u v := fun u v e => by
      subst e
      exact (hrows g 0 (by simp [MemPlace.row])).2 u v (by simpa using World.var?_cell hg0 hv0 0)
    obtain ⟨a0, s0, rfl, hc0, hs0, hz0, rfl⟩ := errorString_of_trod hi hrow hp he hft hfo hs hc hcs hd0 ok0
    obtain ⟨c0, tt0, hb0⟩ := (hrows a0.block a0.off (by simp [MemPlace.row])).1
    have hnq : q0.Nodup := List.Nodup.sublist (List.sublist_append_right _ _) hnd
    obtain ⟨a', ha', hne'⟩ := ih q0 (fun x hx => hgs x (List.mem_cons_of_mem _ hx)) hvr hnq (fun b off hm => hrows b off (List.mem_append_right _ hm))
    have hnot : MemPlace.cell a0.block a0.off ∉ q0 := by
      intro hm
      have := (List.nodup_append.1 hnd).2.2
      exact this (.cell a0.block a0.off) (by simp [MemPlace.row]) (.cell a0.block a0.off) hm rfl
    refine ⟨fun i => match i with | 0 => a0 | k + 1 => a' k, ?_, ?_⟩
    · intro i x hx
      cases i with
      | zero =>
        simp only [List.getElem?_cons_zero, Option.some.injEq] at hx
        subst hx
        exact ⟨hv0, ⟨s0, hc0, hs0⟩, ⟨c0, tt0, hb0⟩, by simp [MemPlace.row]⟩
      | succ k =>
        simp only [List.getElem?_cons_succ] at hx
        obtain ⟨h1, h2, h3, h4⟩ := ha' k x hx
        exact ⟨h1, h2, h3, List.mem_append_right _ h4⟩
    · have far : ∀ k, k < r.length → a0 ≠ a' k := fun k hk e => by
        obtain ⟨_, _, _, h4⟩ := ha' k r[k] (by simp [hk])
        rw [← e] at h4
        exact hnot h4
      intro i j hi' hj' hij
      cases i with
      | zero =>
        cases j with
        | zero => exact absurd rfl hij
        | succ k => exact far k (by simpa using hj')
      | succ m =>
        cases j with
        | zero => exact (far m (by simpa using hi')).symm
        | succ k => exact hne' m k (by simpa using hi') (by simpa using hj') (by omega)

/-- The names and texts, in the rows' order. -/
def twoNames : List (String × List UInt8) := [("demon/api.ErrBound", [100, 101, 109, 111, 110, 58, 32, 98, 111, 117, 110, 100]), ("demon/api.ErrShape", [100, 101, 109, 111, 110, 58, 32, 115, 104, 97, 112, 101])]
def laidAll : List (String × DataW Unit) := [("demon/api.ErrBound", Rows.laid_demon_api_ErrBound), ("demon/api.ErrShape", Rows.laid_demon_api_ErrShape)]
theorem laidAll_parts (W : World) : laidMetH Tryd.prog laidAll W = laidMet Tryd.prog (twoNames.map fun x => (x.1, .iface "*errors.errorString" (.ptr (.agg [.lit (.string x.2)])))) W := by kernel_rfl

theorem var_at {W : World} {n : String} {g : Nat} {v : Value} (hg : Tryd.prog.globalNamed n = some g) (h : W.var? Tryd.prog n = some #[v]) : W.cell? ⟨g, 0, none⟩ = some v := by
  simpa using World.var?_cell hg h 0

theorem errs_of_laid {W : World} (h : laidMetH Tryd.prog laidAll W) : ∃ a : Nat → Addr, Errs W a := by
  rw [laidAll_parts] at h
  obtain ⟨ps, hv, hnd, hrows⟩ := h
  obtain ⟨a, ha, hne⟩ := laid_list Tryd.underlying26 Tryd.rowE Tryd.underlying227 Tryd.underlying248 rfl rfl Tryd.underlying9 Tryd.cellsE Tryd.cellsS twoNames ps
    (fun x hx => by
      simp only [twoNames, List.mem_cons, List.not_mem_nil, or_false] at hx
      rcases hx with rfl | rfl
      · exact ⟨_, Tryd.g1, by kernel_rfl⟩
      · exact ⟨_, Tryd.g2, by kernel_rfl⟩) hv hnd hrows
  exact ⟨fun i => a (i - 1), ⟨var_at Tryd.g1 (ha 0 _ rfl).1, var_at Tryd.g2 (ha 1 _ rfl).1⟩⟩

/-- The door's own heap meets the condition. -/
theorem door_met (os : Os) (args : Array Value) : laidMetH Tryd.prog laidAll ((World.doorLaid Tryd.prog 168 os).forCall (fun _ _ => 0) ⟨#[], args, []⟩).memory := by
  rw [laidAll_parts]
  exact laidMet_of_run' 8 (by kernel_rfl) (by kernel_rfl)
end Go.Proofs.YtgaamcmjonngjaaDoor

/- A parameter of type []int opened. -/
namespace Go.Proofs.YtgaamcmjonngjaaDoor
open Go.ChangeShapes Go.WideShapes Go.ChangeAt Go.RowKit Go.Joins Go.Deep

theorem Tryd.laidOut : laidOutB Tryd.prog = true := by kernel_rfl
theorem Tryd.cellsInt : Tryd.prog.cellsOf 3 = 1 := by kernel_rfl
theorem Tryd.cellsInts : Tryd.prog.cellsOf 22 = 1 := by kernel_rfl

set_option maxRecDepth 100000 in
/-- What a parameter of type []int gives: its slice, its numbers. -/
theorem open_nums {H : Type} {enc : TypeId × Value → H} {W : World} {base : Nat} {v : Value} {d : DataW H} {p : List MemPlace} (hv : Value.okWide Tryd.prog W .any base 22 v)
    (h : DataW.Trod enc Tryd.prog W 0 (fun _ => true) true 22 v d p) :
    ∃ (ad : Option Addr) (n cap : Nat) (z : Nat → Int), v = .slice ad n cap ∧ n ≤ maxLen ∧ NumsAt W (.slice ad n cap) n z := by
  obtain ⟨ad, n, cap, rfl⟩ := okWide_slice Tryd.underlying22 hv
  obtain ⟨fuel, hf⟩ := h
  rcases open_ints Tryd.underlying22 Tryd.underlying3 Tryd.cellsInt hf with ⟨hc, _⟩ | ⟨a, len, cap', zs, hc, _, hl, hm, hz, _, hcell, _⟩
  · simp [Value.cells] at hc
    obtain ⟨rfl, rfl, rfl⟩ := hc
    exact ⟨none, 0, 0, fun _ => 0, rfl, Nat.zero_le _, Or.inl ⟨none, 0, rfl, rfl⟩⟩
  · simp [Value.cells] at hc
    obtain ⟨rfl, rfl, rfl⟩ := hc
    simp only [if_true] at hz
    rcases Nat.eq_zero_or_pos n with rfl | hpos
    · exact ⟨some a, 0, cap, fun _ => 0, rfl, Nat.zero_le _, Or.inl ⟨some a, cap, rfl, rfl⟩⟩
    · obtain ⟨b, o, spot⟩ := a
      have hspot : spot = none := by simpa [Addr.add] using World.cell?_spot (hcell 0 (by omega))
      subst hspot
      refine ⟨_, n, cap, fun i => zs.getD i 0, rfl, by omega, Or.inr ⟨b, o, cap, rfl, hpos, fun i hi => ?_⟩⟩
      have := hcell i (by omega)
      rw [Go.Proofs.YtgaamcmjonngjaaDoor.add_plain] at this
      exact this
end Go.Proofs.YtgaamcmjonngjaaDoor

/- A parameter of type [][]int opened; how many numbers it holds at the most. -/
namespace Go.Proofs.YtgaamcmjonngjaaDoor
open Go.ChangeShapes Go.WideShapes Go.ChangeAt Go.RowKit Go.Joins Go.Deep

theorem bulk_one {H : Type} (d : DataW H) : 1 ≤ Rows.uptoBulk d := by
  cases d with
  | lit l => cases l <;> simp [Rows.uptoBulk]
  | _ => simp [Rows.uptoBulk]
theorem bulk_len {H : Type} : ∀ l : List (DataW H), l.length ≤ Rows.uptoBulkAll l
  | [] => by simp [Rows.uptoBulkAll]
  | x :: r => by
    have h1 := bulk_one x
    have h2 := bulk_len r
    simp only [Rows.uptoBulkAll, List.length_cons]
    omega
theorem bulk_mem {H : Type} {d : DataW H} : ∀ {l : List (DataW H)}, d ∈ l → Rows.uptoBulk d ≤ Rows.uptoBulkAll l
  | x :: r, h => by
    simp only [Rows.uptoBulkAll]
    rcases List.mem_cons.1 h with rfl | h'
    · omega
    · have := bulk_mem h'; omega
theorem bulk_append {H : Type} : ∀ l r : List (DataW H), Rows.uptoBulkAll (l ++ r) = Rows.uptoBulkAll l + Rows.uptoBulkAll r
  | [], r => by simp [Rows.uptoBulkAll]
  | x :: l, r => by simp only [List.cons_append, Rows.uptoBulkAll, bulk_append l r]; omega
theorem bulk_sum {H : Type} (f : Nat → DataW H) (L : Nat → Nat) : ∀ n, (∀ r, r < n → L r ≤ Rows.uptoBulk (f r)) → sumT L n ≤ Rows.uptoBulkAll ((List.range n).map f)
  | 0, _ => Nat.zero_le _
  | n + 1, h => by
    have h1 := bulk_sum f L n (fun r hr => h r (by omega))
    have h2 := h n (by omega)
    show sumT L n + L n ≤ _
    rw [List.range_succ, List.map_append, bulk_append]
    simp only [List.map_cons, List.map_nil, Rows.uptoBulkAll]
    omega

set_option maxRecDepth 100000 in
theorem open_table {H : Type} {enc : TypeId × Value → H} {W : World} {base : Nat} {v : Value} {d : DataW H} {p : List MemPlace} (hv : Value.okWide Tryd.prog W .any base 41 v)
    (h : DataW.Trod enc Tryd.prog W 0 (fun _ => true) true 41 v d p) :
    ∃ (ad : Option Addr) (R cap : Nat) (vs : Nat → Value) (ns : Nat → Nat) (zs : Nat → Nat → Int), v = .slice ad R cap ∧ R ≤ maxLen ∧ TabAt W (.slice ad R cap) R vs ns zs ∧ sumT ns R ≤ Rows.uptoBulk d := by
  obtain ⟨ad, R, cap, rfl⟩ := okWide_slice Tryd.underlying41 hv
  obtain ⟨fuel, hf⟩ := h
  rcases open_int_rows Tryd.underlying41 Tryd.underlying22 Tryd.underlying3 Tryd.cellsInts Tryd.cellsInt hf with ⟨hc, _⟩ | ⟨a, len, cap', A, L, C, Z, hc, _, hl, hm, hx, hr⟩
  · simp [Value.cells] at hc
    obtain ⟨rfl, rfl, rfl⟩ := hc
    exact ⟨none, 0, 0, fun _ => .slice none 0 0, fun _ => 0, fun _ _ => 0, rfl, Nat.zero_le _, Or.inl ⟨none, 0, rfl, rfl⟩, Nat.zero_le _⟩
  · simp [Value.cells] at hc
    obtain ⟨rfl, rfl, rfl⟩ := hc
    simp only [Prod.mk.injEq] at hx
    obtain ⟨rfl, _⟩ := hx
    have hbulk : sumT L R ≤ Rows.uptoBulk (DataW.slice ((List.range R).map fun r => intRow .i64 (A r) (L r) (Z r)) ((List.range (cap - R)).map fun j => intRow .i64 (A (R + j)) (L (R + j)) (Z (R + j))) : DataW H) := by
      have h1 := bulk_sum (H := H) (fun r => intRow .i64 (A r) (L r) (Z r)) L R (fun r hr' => by
        obtain ⟨_, h2, _, h4, _, h6, _⟩ := hr r (by omega)
        cases hA : A r with
        | none => have := h6 hA; omega
        | some a' =>
          have h7 := bulk_len (H := H) (lits .i64 ((Z r).take (L r)))
          have h8 : (lits (H := H) .i64 ((Z r).take (L r))).length = L r := by simp [lits]; omega
          simp only [intRow, Rows.uptoBulk]
          omega)
      simp only [Rows.uptoBulk]
      omega
    rcases Nat.eq_zero_or_pos R with rfl | hpos
    · exact ⟨some a, 0, cap, fun _ => .slice none 0 0, L, fun _ _ => 0, rfl, Nat.zero_le _, Or.inl ⟨some a, cap, rfl, rfl⟩, hbulk⟩
    · obtain ⟨b, o, spot⟩ := a
      have hspot : spot = none := by simpa [Addr.add] using World.cell?_spot (hr 0 (by omega)).1
      subst hspot
      refine ⟨_, R, cap, fun r => .slice (A r) (L r) (C r), L, fun r i => (Z r).getD i 0, rfl, by omega, Or.inr ⟨b, o, cap, rfl, hpos, fun i hi => ?_⟩, hbulk⟩
      obtain ⟨h1, h2, _, h4, _, h6, h7⟩ := hr i (by omega)
      rw [Go.Proofs.YtgaamcmjonngjaaDoor.add_plain] at h1
      refine ⟨h1, ?_⟩
      rcases Nat.eq_zero_or_pos (L i) with h0 | h0
      · exact Or.inl ⟨A i, C i, by dsimp only; rw [h0], h0⟩
      · cases hA : A i with
        | none => have := h6 hA; omega
        | some a' =>
          obtain ⟨_, h8⟩ := h7 a' hA
          obtain ⟨b', o', spot'⟩ := a'
          have hs' : spot' = none := by simpa [Addr.add] using World.cell?_spot (h8 0 (by omega))
          subst hs'
          refine Or.inr ⟨b', o', C i, by dsimp only; rw [hA], h0, fun j hj => ?_⟩
          have := h8 j (by omega)
          rw [Go.Proofs.YtgaamcmjonngjaaDoor.add_plain] at this
          exact this
theorem bulk_bound {H : Type} {l : List (DataW H)} (hk : Rows.uptoSmall H l = true) : Rows.uptoBulkAll l ≤ 1048576 := of_decide_eq_true hk
end Go.Proofs.YtgaamcmjonngjaaDoor
