/- The law OrderSpread. -/
import Derived.Test.YtgopohbombnflaaDoorOrSd
import Derived.Test.YtgopohbombnflaaDoorOrSq
import Derived.Test.YtgopohbombnflaaDoorOrUn
import Derived.Test.YtgopohbombnflaaDoorTabCopy
import Derived.Test.YtgopohbombnflaaDoorCodedV
import Derived.Test.YtgopohbombnflaaDoorSameN
namespace Go.Proofs.YtgopohbombnflaaDoor
open Go.RowKit

theorem row_leO {R : Nat} {ns : Nat → Nat} (h : sumT ns R ≤ 600) (i : Nat) (hi : i < R) : ns i ≤ 600 := by
  have h2 : sumT ns i + ns i ≤ sumT ns R := sumT_mono ns hi
  omega
theorem nums_nilO (w : World) : NumsAt w (.slice none 0 0) 0 (fun _ => 0) := Or.inl ⟨_, _, rfl, rfl⟩
theorem err_or (a : Nat → Addr) (c : Nat) : (c = 0 ∧ errV a c = .nilIface) ∨ (c ≠ 0 ∧ ∃ t x, errV a c = .iface t x) := by
  by_cases h : c = 0
  · exact Or.inl ⟨h, by rw [h]; rfl⟩
  · exact Or.inr ⟨h, by rw [errV_pos a h]; exact ⟨_, _, rfl⟩⟩

set_option maxRecDepth 100000 in
set_option maxHeartbeats 8000000 in
theorem OrderSpread_all (a : Nat → Addr) (ad : Option Addr) (R cap : Nat) (vs : Nat → Value) (ns : Nat → Nat) (zs : Nat → Nat → Int) (uad : Option Addr) (n ucap : Nat) (z : Nat → Int) (w : World) (hE : Errs w a) (h : TabAt w (.slice ad R cap) R vs ns zs) (hm : R ≤ maxLen) (hs : sumT ns R ≤ 2000000) (hu : NumsAt w (.slice uad n ucap) n z) :
    Calls Tryd.prog 7 #[.slice ad R cap, .slice uad n ucap] w fun e w' => e = .returned (.bool true) ∧ Below w.heap.size w w' := by
  have hU := unlike_any a w hE
  have HT := Hid.mk' (fun (W : World) (hb : Below w.heap.size w W) => h.later hb)
  have HN := Hid.mk' (fun (W : World) (hb : Below w.heap.size w W) => hu.later hb)
  have HE := Hid.mk' (fun (W : World) (hb : Below w.heap.size w W) => hE.below hb)
  by_cases hf : R ≤ 70 ∧ sumT ns R ≤ 600
  · have HFW : Hid (∀ W, Below w.heap.size w W → Calls Tryd.prog 21 #[.slice ad R cap] W fun e w' => e = .returned (.bool true) ∧ Below W.heap.size W w') := fun W hb => few_any _ R vs ns zs W (HT.out W hb) hm hs true ⟨fun _ => hf, fun _ => rfl⟩
    by_cases hn : 200 < n
    · have hI : (200 : Int) < (n : Int) := by omega
      clear h hu hE hf hn HE HT HN hm hs
      go_enter Tryd.func7, Tryd.ntmps7
      go_wp2_with fail
      refine hU.mono ?_
      rintro e w1 ⟨rfl, hb1⟩
      have HB1 := Hid.mk' hb1
      clear hb1 hU
      go_wp2_with fail
      refine (HFW.out w1 HB1.out).mono ?_
      rintro e w2 ⟨rfl, hb2⟩
      have HB2 := Hid.mk' (below_chain HB1.out hb2)
      clear hb2
      go_wp2_with fail
      go_ret
      exact ⟨rfl, HB2.out⟩
    · have hI : ¬ (200 : Int) < (n : Int) := by omega
      have hlen := fun i (hi : i < R) => (show ns i ≤ 100000 by have := row_leO hf.2 i hi; omega)
      have HSQ := Hid.mk' (fun (W : World) (hb : Below w.heap.size w W) => SquareError_any _ R vs ns zs W (HT.out W hb) (by omega) hlen)
      have HNU := Hid.mk' (fun (W : World) (hb : Below w.heap.size w W) => Numbers_any _ n z W (HN.out W hb) (by omega))
      have HLI := Hid.mk' (fun (W : World) (hb : Below w.heap.size w W) => lists_any _ R vs ns zs W (HT.out W hb) hf.1 hf.2)
      have HIN := Hid.mk' (fun (W : World) (hb : Below w.heap.size w W) => ints_any _ n z W (HN.out W hb) (by omega))
      have HCD := Hid.mk' (fun (W : World) (hb : Below w.heap.size w W) => coded_errV a (spE R ns zs n z) (spE_le R ns zs n z) W (HE.out W hb))
      have HSI := Hid.mk' (fun (W : World) (x y : Value) (m : Nat) (f : Nat → Int) (hx : NumsAt W x m f) (hy : NumsAt W y m f) (hm : m ≤ 1000000) => SameInts_any x y m f W hx hy hm)
      by_cases hsp : spE R ns zs n z = 0
      · obtain ⟨hsq, rfl, hno⟩ := spE_ok hsp
        have hs0 : sqE n ns zs = 0 := by
          unfold spE at hsp
          by_cases h1 : sqE n ns zs = 0
          · exact h1
          · rw [if_neg h1] at hsp; exact hsp
        have hpos := hsq.pos
        have hle := hsq.le
        have HSPO := Hid.mk' (fun (W : World) (hb : Below w.heap.size w W) => SpreadOf_any _ n vs ns zs _ z W (HT.out W hb) (HN.out W hb) hsq (noN_none hno))
        have HSPR := Hid.mk' (fun (W : World) (x : Value) (xs : Nat → Value) (y : Value) (hb : Below w.heap.size w W) (hx : TabAt W x n xs ns zs) (hy : NumsAt W y n z) => Spread_ok a x n xs ns zs y n z W (HE.out W hb) hx hy hlen hsp)
        have HSUM : Hid (∀ (x : Value) (W : World), x = vs 0 → Below w.heap.size w W → Calls Tryd.prog 30 #[x] W fun e w' => e = .returned (.int .i64 (sumN (zs 0) n)) ∧ w' = W) := by
          rintro x W rfl hb
          obtain ⟨_, _, _, _, hx⟩ := (HT.out W hb).row hpos
          rw [hsq.len 0 hpos] at hx
          exact sum_right_any _ n (zs 0) W hx hpos (by omega) (hsq.num 0 hpos)
        have HABV := Hid.mk' (fun (W : World) (x y : Value) (hb : Below w.heap.size w W) (hx : NumsAt W x n (fun i => z i * sumN (zs 0) n)) (hy : NumsAt W y n (sprF n zs z)) => Above_any a x y n n _ _ W (HE.out W hb) hx hy (by omega) (by omega))
        rw [spread_below hsq] at HABV
        have HINR := Hid.mk' (fun (W : World) (y : Value) (hy : NumsAt W y n (sprF n zs z)) => ints_any y n (sprF n zs z) W hy (by omega))
        have HSB := Hid.mk' (show 0 ≤ sumN (zs 0) n ∧ sumN (zs 0) n ≤ 32768 from by have := sum_right (z := zs 0) (n := n) (hsq.num 0 hpos); omega)
        have HZB := Hid.mk' (noN_none hno)
        obtain ⟨b, o, rfl, hc0, hr0⟩ := h.row hpos
        rw [hsq.len 0 hpos] at hr0
        rw [Nat.add_zero] at hc0
        rcases hr0 with ⟨_, _, _, hx⟩ | ⟨rb, ro, rc, hv0, _, _⟩
        · omega
        rcases hu with ⟨_, _, _, hx⟩ | ⟨ub, uo, uc, huv, _, hur⟩
        · omega
        obtain ⟨rfl, rfl⟩ : uad = some ⟨ub, uo, none⟩ ∧ ucap = uc := by simpa using huv
        have HC0 := Hid.mk' (fun (W : World) (hb : Below w.heap.size w W) => (by rw [hb.cell (cell_lt hc0), hc0, hv0] : W.cell? ⟨b, o, none⟩ = some (.slice (some ⟨rb, ro, none⟩) n rc)))
        rw [hv0] at HSUM
        have HUR := Hid.mk' (fun (W : World) (hb : Below w.heap.size w W) => hur.later hb)
        rw [hsp, errV_zero] at HCD
        rw [hno] at HNU
        rw [hs0] at HSQ
        have k2 : ((n : Int) != (n : Int)) = false := by simp
        have HERR := Hid.mk' (err_or a (prE n (fun i => z i * sumN (zs 0) n) n (sprF n zs z)))
        generalize prE n (fun i => z i * sumN (zs 0) n) n (sprF n zs z) = pe at *
        clear h hE hf hn hsp hsq hno hs0 hlen hc0 hv0 hur huv HE HT HN hm hs
        go_enter Tryd.func7, Tryd.ntmps7
        go_wp2_with fail
        refine hU.mono ?_
        rintro e w1 ⟨rfl, hb1⟩
        have HB1 := Hid.mk' hb1
        clear hb1 hU
        go_wp2_with fail
        refine (HFW.out w1 HB1.out).mono ?_
        rintro e w2 ⟨rfl, hb2⟩
        have HB2 := Hid.mk' (below_chain HB1.out hb2)
        clear hb2
        go_wp2_with fail
        refine (HSQ.out w2 HB2.out).mono ?_
        rintro e w3 ⟨rfl, hb3⟩
        have HB3 := Hid.mk' (below_chain HB2.out hb3)
        clear hb3
        go_wp2_with fail
        refine (HNU.out w3 HB3.out).mono ?_
        rintro e w4 ⟨rfl, hw4⟩
        rw [hw4]
        clear hw4
        go_wp2_with fail
        refine (HSPO.out w3 HB3.out).mono ?_
        rintro e w5 ⟨r5, rfl, hr5, hb5⟩
        have HR5 := Hid.mk' hr5
        have HB5 := Hid.mk' (below_chain HB3.out hb5)
        clear hr5 hb5
        go_wp2_with fail
        refine (HLI.out w5 HB5.out).mono ?_
        rintro e w6 ⟨v6, vs6, rfl, ht6, hb6⟩
        have HT6 := Hid.mk' ht6
        have HR6 := Hid.mk' (HR5.out.later hb6)
        have HB6 := Hid.mk' (below_chain HB5.out hb6)
        clear ht6 hb6
        go_wp2_with fail
        refine (HIN.out w6 HB6.out).mono ?_
        rintro e w7 ⟨v7, rfl, hn7, hb7⟩
        have HN7 := Hid.mk' hn7
        have HT7 := Hid.mk' (HT6.out.later hb7)
        have HR7 := Hid.mk' (HR6.out.later hb7)
        have HB7 := Hid.mk' (below_chain HB6.out hb7)
        clear hn7 hb7
        go_wp2_with fail
        refine (HSPR.out w7 v6 vs6 v7 HB7.out HT7.out HN7.out).mono ?_
        rintro e w8 ⟨r8, rfl, hr8, hb8⟩
        have HR8 := Hid.mk' hr8
        have HR5' := Hid.mk' (HR7.out.later hb8)
        have HB8 := Hid.mk' (below_chain HB7.out hb8)
        clear hr8 hb8
        go_wp2_with fail
        refine (HCD.out w8 HB8.out).mono ?_
        rintro e w9 ⟨rfl, hb9⟩
        have HR9 := Hid.mk' (HR8.out.later hb9)
        have HS9 := Hid.mk' (HSI.out w9 r8 r5 n (sprF n zs z) HR9.out (HR5'.out.later hb9) (by omega))
        have HB9 := Hid.mk' (below_chain HB8.out hb9)
        clear hb9
        go_wp2_with fail
        refine HS9.out.mono ?_
        rintro e w10 ⟨rfl, hb10⟩
        have HR10 := Hid.mk' (HR9.out.later hb10)
        have HB10 := Hid.mk' (below_chain HB9.out hb10)
        clear hb10 HS9 HR9 HR5' HR8 HR7 HR6 HR5 HT6 HT7 HN7 HSPR HSPO HLI HIN HCD HNU HSQ HFW
        obtain ⟨S, hS⟩ : ∃ S, S = sumN (zs 0) n := ⟨_, rfl⟩
        rw [← hS] at HSUM HABV HSB
        clear hS
        go_wp2_with fail
        go_loopw [10, 11] (fun s t wr => ∃ k : Nat, k ≤ n ∧ t = .int .i64 (k : Int) ∧ Hid (wr.ownsRow w10.heap.size 3 1 s k (numCells (fun i => z i * S) k)) ∧ Hid (Below w10.heap.size w10 wr)) (fun _ t _ => n - (intOf t).toNat)
        case atStart => exact ⟨0, Nat.zero_le _, rfl, World.ownsRow_nil _ _ _ _, Below.refl _ _⟩
        case round =>
          obtain ⟨k, hk, rfl, HO, HB⟩ := hrel
          have hle2 := HB.out.size
          rcases Nat.lt_or_ge k n with h1 | h1
          · have hkI : (k : Int) < (n : Int) := by omega
            have hk0 : (0 : Int) ≤ (k : Int) := by omega
            have hn0 : (0 : Int) < (n : Int) := by omega
            have HKK : Hid (∀ W, Below w10.heap.size w10 W → W.cell? ⟨ub, uo + k, none⟩ = some (.int .i64 (z k)) ∧ W.cell? ⟨b, o, none⟩ = some (.slice (some ⟨rb, ro, none⟩) n rc)) := fun W hb => ⟨HUR.out W (below_chain HB10.out hb) k h1, HC0.out W (below_chain HB10.out hb)⟩
            obtain ⟨x0, x1⟩ := HKK.out wr HB.out
            have HSM := Hid.mk' (fun (W : World) (hb : Below w10.heap.size w10 W) => HSUM.out _ W rfl (below_chain HB10.out hb))
            have b1 := HZB.out k h1
            have b2 := HSB.out
            have b5 : 0 ≤ z k * S := Int.mul_nonneg b1.1 b2.1
            have b6 : z k * S ≤ 134217728 := by
              have := Int.mul_le_mul b1.2 b2.2 b2.1 (by decide : (0 : Int) ≤ 4096)
              omega
            have HCL : Hid (numCells (fun i => z i * S) (k + 1) = numCells (fun i => z i * S) k ++ [.int .i64 (z k * S)]) := rfl
            generalize z k = zk at *
            have HWR : Hid (IntKind.i64.wrap (zk * S) = zk * S) := by show _ = _; rw [IntKind.wrap_i64]; omega
            rw [← HWR.out] at HCL
            have HRR := Hid.mk' (HO.out.alloc (.cells #[.int .i64 (IntKind.i64.wrap (zk * S))] 3))
            have HBB : Hid (Below w10.heap.size w10 (wr.alloc (.cells #[.int .i64 (IntKind.i64.wrap (zk * S))] 3))) := HB.out.alloc hle2 _
            have HPU : Hid (∀ w3, World.grownBy (wr.alloc (.cells #[.int .i64 (IntKind.i64.wrap (zk * S))] 3)).drew w3 u10.ownBlock → Below w10.heap.size w10 w3) := fun w3 hg => ow_push HBB.out.drew (by show w10.heap.size ≤ (wr.alloc (.cells #[.int .i64 (IntKind.i64.wrap (zk * S))] 3)).heap.size; simp; omega) (HRR.out.drew) hg
            obtain ⟨i0, hii, hz0, hz1, hz2⟩ := info_parts Tryd.infoInt
            have HINF : Hid (Tryd.prog.info? 3 = some i0 ∧ i0.zero = some (.int .i64 0) ∧ i0.size = 1 ∧ i0.bytes = 8) := ⟨hii, hz0, hz1, hz2⟩
            clear hii hz0 hz1 hz2
            go_wp2_with fail
            go_region_held3 (fun W => W.cell? ⟨ub, uo + k, none⟩ = some (.int .i64 zk) ∧ W.cell? ⟨b, o, none⟩ = some (.slice (some ⟨rb, ro, none⟩) n rc))
              (first | exact HKK.out _ HB.out.drew | exact HKK.out _ (HPU.out _ (by assumption)) | go_keep)
              (first
                | (go_at_call 30; refine (HSM.out _ HB.out.drew).mono ?_; rintro e w13 ⟨rfl, hw13⟩; subst hw13)
                | (refine step_append_lies _ (by rfl) _ _ _ (by rfl) w10.heap.size 3 i0 _ 1 8 Tryd.underlying22 HINF.out.1 HINF.out.2.1 HINF.out.2.2.1 HINF.out.2.2.2 rfl (by omega) u10 k (numCells (fun i => z i * S) k) (by rfl) HRR.out ⟨wr.heap.size, 0, none⟩ 1 1 [.int .i64 (IntKind.i64.wrap (zk * S))] (by rfl) rfl (one_new _ _ _) (by simp [Value.oneCell']) (by omega) (by unfold maxLen; omega) (by omega) (by simp; omega) _ rfl ?_; intro g' cap' w3 hown3 hgrow3 hat3 hlt3))
            have HW3 := Hid.mk' hown3
            have HB3 := Hid.mk' (HPU.out _ hgrow3)
            clear hown3 hgrow3 hat3
            go_wp2_with fail
            exact ⟨⟨k + 1, h1, by go_num, by show World.ownsRow _ _ _ _ _ _ _; rw [HCL.out]; exact HW3.out, HB3.out⟩, by simp [intOf]; omega⟩
          · obtain rfl : k = n := by omega
            have hkI : ¬ (k : Int) < (k : Int) := by omega
            have HV := Hid.mk' (numsAt_own HO.out)
            have HB11 := Hid.mk' (below_chain HB10.out HB.out)
            have HIR := Hid.mk' (HINR.out wr r8 (HR10.out.later HB.out))
            clear HO
            go_wp2_with fail
            refine HIR.out.mono ?_
            rintro e w12 ⟨v12, rfl, hn12, hb12⟩
            have HB12 := Hid.mk' (below_chain HB11.out hb12)
            have HA12 := Hid.mk' (HABV.out w12 _ v12 HB12.out (HV.out.later hb12) hn12)
            clear hn12 hb12
            go_wp2_with fail
            refine HA12.out.mono ?_
            rintro e w13 ⟨rfl, hb13⟩
            have HB13 := Hid.mk' (below_chain HB12.out hb13)
            clear hb13
            rcases HERR.out with ⟨hp0, hpe⟩ | ⟨hp0, t, x, hpe⟩
            · have hd : (decide (pe = 0) && !false) = true := by simp [hp0]
              rw [hpe, hd]
              clear hp0 hpe hd HERR
              go_wp2_with fail
              go_ret
              exact ⟨rfl, HB13.out⟩
            · rw [hpe]
              clear hp0 hpe HERR
              generalize (decide (pe = 0) && !false) = bb at *
              go_wp2_with fail
              go_ret
              exact ⟨rfl, HB13.out⟩
      · have HSPR := Hid.mk' (fun (W : World) (x : Value) (xs : Nat → Value) (y : Value) (hb : Below w.heap.size w W) (hx : TabAt W x R xs ns zs) (hy : NumsAt W y n z) => Spread_bad a x R xs ns zs y n z W (HE.out W hb) hx hy (by omega) hlen (by omega) hsp)
        by_cases hs0 : sqE R ns zs = 0
        · have hbad : n ≠ R ∨ noN z n = true := Decidable.byContradiction fun hc => hsp (by unfold spE; rw [if_pos hs0, if_neg hc])
          have hc3 : spE R ns zs n z = 3 := by unfold spE; rw [if_pos hs0, if_pos hbad]
          rw [hc3] at HSPR HCD
          rw [hs0] at HSQ
          generalize errV a 3 = er at *
          by_cases hnR : n = R
          · have k2 : ((n : Int) != (R : Int)) = false := by simp; omega
            rw [hbad.resolve_left (fun h => h hnR)] at HNU
            clear h hu hE hf hn hsp hs0 hlen HE HT HN hm hs hbad hc3 hnR
            go_enter Tryd.func7, Tryd.ntmps7
            go_wp2_with fail
            refine hU.mono ?_
            rintro e w1 ⟨rfl, hb1⟩
            have HB1 := Hid.mk' hb1
            clear hb1 hU
            go_wp2_with fail
            refine (HFW.out w1 HB1.out).mono ?_
            rintro e w2 ⟨rfl, hb2⟩
            have HB2 := Hid.mk' (below_chain HB1.out hb2)
            clear hb2
            go_wp2_with fail
            refine (HSQ.out w2 HB2.out).mono ?_
            rintro e w3 ⟨rfl, hb3⟩
            have HB3 := Hid.mk' (below_chain HB2.out hb3)
            clear hb3
            go_wp2_with fail
            refine (HNU.out w3 HB3.out).mono ?_
            rintro e w4 ⟨rfl, hw4⟩
            rw [hw4]
            clear hw4
            go_wp2_with fail
            refine (HLI.out w3 HB3.out).mono ?_
            rintro e w6 ⟨v6, vs6, rfl, ht6, hb6⟩
            have HT6 := Hid.mk' ht6
            have HB6 := Hid.mk' (below_chain HB3.out hb6)
            clear ht6 hb6
            go_wp2_with fail
            refine (HIN.out w6 HB6.out).mono ?_
            rintro e w7 ⟨v7, rfl, hn7, hb7⟩
            have HN7 := Hid.mk' hn7
            have HT7 := Hid.mk' (HT6.out.later hb7)
            have HB7 := Hid.mk' (below_chain HB6.out hb7)
            clear hn7 hb7
            go_wp2_with fail
            refine (HSPR.out w7 v6 vs6 v7 HB7.out HT7.out HN7.out).mono ?_
            rintro e w8 ⟨rfl, hb8⟩
            have HB8 := Hid.mk' (below_chain HB7.out hb8)
            clear hb8
            go_wp2_with fail
            refine (HCD.out w8 HB8.out).mono ?_
            rintro e w9 ⟨rfl, hb9⟩
            have HS9 := Hid.mk' (HSI.out w9 _ _ 0 (fun _ => 0) (nums_nilO w9) (nums_nilO w9) (by omega))
            have HB9 := Hid.mk' (below_chain HB8.out hb9)
            clear hb9
            go_wp2_with fail
            refine HS9.out.mono ?_
            rintro e w10 ⟨rfl, hb10⟩
            have HB10 := Hid.mk' (below_chain HB9.out hb10)
            clear hb10
            go_wp2_with fail
            go_ret
            exact ⟨rfl, HB10.out⟩
          · have k2 : ((n : Int) != (R : Int)) = true := by simp; omega
            clear h hu hE hf hn hsp hs0 hlen HE HT HN hm hs hbad hc3 hnR HNU
            go_enter Tryd.func7, Tryd.ntmps7
            go_wp2_with fail
            refine hU.mono ?_
            rintro e w1 ⟨rfl, hb1⟩
            have HB1 := Hid.mk' hb1
            clear hb1 hU
            go_wp2_with fail
            refine (HFW.out w1 HB1.out).mono ?_
            rintro e w2 ⟨rfl, hb2⟩
            have HB2 := Hid.mk' (below_chain HB1.out hb2)
            clear hb2
            go_wp2_with fail
            refine (HSQ.out w2 HB2.out).mono ?_
            rintro e w3 ⟨rfl, hb3⟩
            have HB3 := Hid.mk' (below_chain HB2.out hb3)
            clear hb3
            go_wp2_with fail
            refine (HLI.out w3 HB3.out).mono ?_
            rintro e w6 ⟨v6, vs6, rfl, ht6, hb6⟩
            have HT6 := Hid.mk' ht6
            have HB6 := Hid.mk' (below_chain HB3.out hb6)
            clear ht6 hb6
            go_wp2_with fail
            refine (HIN.out w6 HB6.out).mono ?_
            rintro e w7 ⟨v7, rfl, hn7, hb7⟩
            have HN7 := Hid.mk' hn7
            have HT7 := Hid.mk' (HT6.out.later hb7)
            have HB7 := Hid.mk' (below_chain HB6.out hb7)
            clear hn7 hb7
            go_wp2_with fail
            refine (HSPR.out w7 v6 vs6 v7 HB7.out HT7.out HN7.out).mono ?_
            rintro e w8 ⟨rfl, hb8⟩
            have HB8 := Hid.mk' (below_chain HB7.out hb8)
            clear hb8
            go_wp2_with fail
            refine (HCD.out w8 HB8.out).mono ?_
            rintro e w9 ⟨rfl, hb9⟩
            have HS9 := Hid.mk' (HSI.out w9 _ _ 0 (fun _ => 0) (nums_nilO w9) (nums_nilO w9) (by omega))
            have HB9 := Hid.mk' (below_chain HB8.out hb9)
            clear hb9
            go_wp2_with fail
            refine HS9.out.mono ?_
            rintro e w10 ⟨rfl, hb10⟩
            have HB10 := Hid.mk' (below_chain HB9.out hb10)
            clear hb10
            go_wp2_with fail
            go_ret
            exact ⟨rfl, HB10.out⟩
        · have hc3 : spE R ns zs n z = sqE R ns zs := by unfold spE; rw [if_neg hs0]
          rw [hc3] at HSPR HCD
          have k1 : ((sqE R ns zs : Int) == 0) = false := by simp; exact hs0
          have k2 : (0 : Int) < (sqE R ns zs : Int) := by omega
          generalize sqE R ns zs = c at *
          generalize errV a c = er at *
          clear h hu hE hf hn hsp hs0 hlen HE HT HN hm hs hc3 HNU
          go_enter Tryd.func7, Tryd.ntmps7
          go_wp2_with fail
          refine hU.mono ?_
          rintro e w1 ⟨rfl, hb1⟩
          have HB1 := Hid.mk' hb1
          clear hb1 hU
          go_wp2_with fail
          refine (HFW.out w1 HB1.out).mono ?_
          rintro e w2 ⟨rfl, hb2⟩
          have HB2 := Hid.mk' (below_chain HB1.out hb2)
          clear hb2
          go_wp2_with fail
          refine (HSQ.out w2 HB2.out).mono ?_
          rintro e w3 ⟨rfl, hb3⟩
          have HB3 := Hid.mk' (below_chain HB2.out hb3)
          clear hb3
          go_wp2_with fail
          refine (HLI.out w3 HB3.out).mono ?_
          rintro e w6 ⟨v6, vs6, rfl, ht6, hb6⟩
          have HT6 := Hid.mk' ht6
          have HB6 := Hid.mk' (below_chain HB3.out hb6)
          clear ht6 hb6
          go_wp2_with fail
          refine (HIN.out w6 HB6.out).mono ?_
          rintro e w7 ⟨v7, rfl, hn7, hb7⟩
          have HN7 := Hid.mk' hn7
          have HT7 := Hid.mk' (HT6.out.later hb7)
          have HB7 := Hid.mk' (below_chain HB6.out hb7)
          clear hn7 hb7
          go_wp2_with fail
          refine (HSPR.out w7 v6 vs6 v7 HB7.out HT7.out HN7.out).mono ?_
          rintro e w8 ⟨rfl, hb8⟩
          have HB8 := Hid.mk' (below_chain HB7.out hb8)
          clear hb8
          go_wp2_with fail
          refine (HCD.out w8 HB8.out).mono ?_
          rintro e w9 ⟨rfl, hb9⟩
          have HS9 := Hid.mk' (HSI.out w9 _ _ 0 (fun _ => 0) (nums_nilO w9) (nums_nilO w9) (by omega))
          have HB9 := Hid.mk' (below_chain HB8.out hb9)
          clear hb9
          go_wp2_with fail
          refine HS9.out.mono ?_
          rintro e w10 ⟨rfl, hb10⟩
          have HB10 := Hid.mk' (below_chain HB9.out hb10)
          clear hb10
          go_wp2_with fail
          go_ret
          exact ⟨rfl, HB10.out⟩
  · have HFW : Hid (∀ W, Below w.heap.size w W → Calls Tryd.prog 21 #[.slice ad R cap] W fun e w' => e = .returned (.bool false) ∧ Below W.heap.size W w') := fun W hb => few_any _ R vs ns zs W (HT.out W hb) hm hs false ⟨(fun h => by cases h), (fun h => absurd h hf)⟩
    clear h hu hE hf HE HT HN hm hs
    go_enter Tryd.func7, Tryd.ntmps7
    go_wp2_with fail
    refine hU.mono ?_
    rintro e w1 ⟨rfl, hb1⟩
    have HB1 := Hid.mk' hb1
    clear hb1 hU
    go_wp2_with fail
    refine (HFW.out w1 HB1.out).mono ?_
    rintro e w2 ⟨rfl, hb2⟩
    have HB2 := Hid.mk' (below_chain HB1.out hb2)
    clear hb2
    go_wp2_with fail
    go_ret
    exact ⟨rfl, HB2.out⟩
theorem OrderSpread_main (a : Nat → Addr) (ad : Option Addr) (R cap : Nat) (vs : Nat → Value) (ns : Nat → Nat) (zs : Nat → Nat → Int) (uad : Option Addr) (n ucap : Nat) (z : Nat → Int) (w : World) (hE : Errs w a) (h : TabAt w (.slice ad R cap) R vs ns zs) (hm : R ≤ maxLen) (hu : NumsAt w (.slice uad n ucap) n z) (_ : n ≤ maxLen) (hs : sumT ns R ≤ 2000000) :
    Calls Tryd.prog 7 #[.slice ad R cap, .slice uad n ucap] w fun e w' => e = .returned (.bool true) ∧ Below w.heap.size w w' :=
  OrderSpread_all a ad R cap vs ns zs uad n ucap z w hE h hm hs hu
end Go.Proofs.YtgopohbombnflaaDoor
