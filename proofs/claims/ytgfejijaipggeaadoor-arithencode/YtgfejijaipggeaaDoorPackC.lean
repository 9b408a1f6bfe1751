/- The law ArithEncode. -/
import Derived.Test.YtgfejijaipggeaaDoorPackB
import Derived.Test.YtgfejijaipggeaaDoorValueD
import Derived.Test.YtgfejijaipggeaaDoorRows
import Derived.Test.YtgfejijaipggeaaDoorCode
import Derived.ChangeSame
import Derived.ChangeVars
import Derived.JoinedOf
import Derived.LaidLaws
import Derived.LaidHandle
import Derived.LaidMore
import Derived.Stop.Joined
import Derived.Test.YtgfejijaipggeaaDoorInts
import Derived.Test.YtgfejijaipggeaaDoorCards
import Derived.Test.YtgfejijaipggeaaDoorTie
import Derived.SevenTiedAt
import Derived.ProofKit
import Derived.OpenShut
import Derived.ChangeOld
import Derived.Lib.SmallJoins
import Derived.Deep.Matrix
namespace Go.Proofs.YtgfejijaipggeaaDoor
open Go.RowKit

theorem pow_144 {S m : Nat} (hS : S ≤ 4096) (hm : m ≤ 12) : S ^ m ≤ 2 ^ 144 := by
  refine Nat.le_trans (Nat.pow_le_pow_left hS m) ?_
  rw [show (4096 : Nat) = 2 ^ 12 by decide, ← Nat.pow_mul]
  exact Nat.pow_le_pow_right (by decide) (by omega)
theorem EncodeOf_any (b o cap : Nat) (ad : Option Addr) (n m S cap' : Nat) (z l : Nat → Int) (w : World) (hrw : RowAt w b o n z) (hcap : n ≤ cap) (hl : NumsAt w (.slice ad m cap') m l) (hS : sumN z n = (S : Int)) (hok : (mesE z n m l).1 = 0) (hm : m ≤ 12) :
    Calls Tryd.prog 10 #[.slice (some ⟨b, o, none⟩) n cap, .slice ad m cap'] w fun e w' => ∃ J u, e = .returned (.string (txt (bitsL u J))) ∧ Txt (cutL z l S m) (cutW z l m) (S ^ m) J u ∧ Below w.heap.size w w' := by
  obtain ⟨hwe, hz, hn, hm2, hli, hpos⟩ := mesE_ok hok
  have hS4 : 0 < S ∧ S ≤ 4096 := by have h1 := hz.pos; have h2 := hz.le; rw [hS] at h1 h2; exact ⟨by omega, by omega⟩
  have hle := cut_le hz hS hli m (Nat.le_refl _)
  have hwp : 0 < cutW z l m := cutW_pos hpos
  exact EncodeOf_loop _ _ (cutL z l S m) (cutW z l m) (S ^ m) w (IntervalOf_any b o cap _ n m S z l w hrw hcap hl hz (by omega) (by omega) hS hli) ⟨_, _, _, rfl⟩ ⟨_, _, _, rfl⟩ (by omega) hwp hle (pow_144 hS4.2 hm) ValueOf_any

set_option maxRecDepth 100000 in
set_option maxHeartbeats 8000000 in
theorem ArithEncode_all (a : Nat → Addr) (ad : Option Addr) (n cap : Nat) (z : Nat → Int) (ad' : Option Addr) (m cap' : Nat) (l : Nat → Int) (w : World) (hE : Errs w a) (h : NumsAt w (.slice ad n cap) n z) (hn : n ≤ maxLen) (hcap : n ≤ cap) (h' : NumsAt w (.slice ad' m cap') m l) (hm : m ≤ maxLen) :
    Calls Tryd.prog 3 #[.slice ad n cap, .slice ad' m cap'] w fun e w' => e = .returned (.bool true) ∧ Below w.heap.size w w' := by
  have hQ := quarter_any a w hE
  unfold maxLen at hn hm
  have HBR := Hid.mk' (fun (W : World) => brief_any ad ad' n cap m cap' W hn hm)
  cases hb : briefB n m with
  | false =>
    rw [hb] at HBR
    clear hb hE h h'
    go_enter Tryd.func3, Tryd.ntmps3
    go_wp2_with fail
    refine hQ.mono ?_
    clear hQ
    rintro e w1 ⟨rfl, hb1⟩
    have HB1 := Hid.mk' hb1
    clear hb1
    go_wp2_with fail
    refine (HBR.out _).mono ?_
    rintro e w2 ⟨rfl, hw2⟩
    rw [hw2]
    clear hw2 w2
    go_wp2_with fail
    go_ret
    exact ⟨rfl, HB1.out⟩
  | true =>
    rw [hb] at HBR
    obtain ⟨hn1, hm1⟩ := briefB_true hb
    have hm2 : m ≤ 1000 := by omega
    clear hb
    by_cases hmid : 12 < m ∧ m ≤ 200
    · have hI1 : (12 : Int) < (m : Int) := by omega
      have hI2 : (m : Int) ≤ 200 := by omega
      clear hE h h' hmid
      go_enter Tryd.func3, Tryd.ntmps3
      go_wp2_with fail
      refine hQ.mono ?_
      clear hQ
      rintro e w1 ⟨rfl, hb1⟩
      have HB1 := Hid.mk' hb1
      clear hb1
      go_wp2_with fail
      refine (HBR.out _).mono ?_
      rintro e w2 ⟨rfl, hw2⟩
      rw [hw2]
      clear hw2 w2
      go_wp2_with fail
      go_ret
      exact ⟨rfl, HB1.out⟩
    · have hI : (¬ (12 : Int) < (m : Int)) ∨ ((12 : Int) < (m : Int) ∧ ¬ (m : Int) ≤ 200) := by omega
      have HWE := Hid.mk' (fun (W : World) (hb : Below w.heap.size w W) => WeightsError_any _ n z W (h.later hb) (by omega))
      have HMF := Hid.mk' (fun (W : World) (hb : Below w.heap.size w W) => MessageFault_any _ _ n m z l W (h.later hb) (h'.later hb) (by omega) (by omega))
      have HIW := Hid.mk' (fun (W : World) (hb : Below w.heap.size w W) => ints_full _ n z W (h.later hb) (by omega))
      have HIL := Hid.mk' (fun (W : World) (hb : Below w.heap.size w W) => ints_full _ m l W (h'.later hb) (by omega))
      have HFT := Hid.mk' (fun (W : World) (v : Value) (hb : Below w.heap.size w W) (hv : ErrIs a W v (mesE z n m l)) => faulted_is a v (mesE z n m l) W (hE.below hb) hv)
      by_cases hc : (mesE z n m l).1 = 0
      · have HOK := Hid.mk' (mesE_ok hc)
        have hm12 : m ≤ 12 := by have := HOK.out.2.2.2.1; omega
        have hI := show ¬ (12 : Int) < (m : Int) by omega
        obtain ⟨S, hS⟩ : ∃ S : Nat, sumN z n = (S : Int) := ⟨(sumN z n).toNat, by have := HOK.out.2.1.pos; omega⟩
        obtain ⟨bw, ow, cw, hvw, hroww⟩ := h.cellAt HOK.out.2.1.posN
        have hcw : cw = cap ∧ ad = some ⟨bw, ow, none⟩ := by simp at hvw; exact ⟨hvw.2.symm, hvw.1⟩
        obtain ⟨rfl, rfl⟩ := hcw
        have HGOOD := Hid.mk' (fun (W : World) (b o c : Nat) (vl : Value) (hb : Below w.heap.size w W) (hr : RowAt W b o n z) (hc' : n ≤ c) (hl : NumsAt W vl m l) => Encode_ok a b o c vl n m S z l W (hE.below hb) hr hc' hl hS hc (by omega))
        have HIO := Hid.mk' (fun (W : World) (hb : Below w.heap.size w W) => EncodeOf_any bw ow cw ad' n m S cap' z l W (hroww.later hb) hcap (h'.later hb) hS hc hm12)
        have HFN := Hid.mk' (fun (W : World) (v : Value) (c : Nat × Int) (hb : Below w.heap.size w W) (hv : ErrIs a W v c) => faulted_is a v c W (hE.below hb) hv)
        generalize cutL z l S m = NL at *
        generalize cutW z l m = NW at *
        generalize S ^ m = ND at *
        have HW0 : Hid (weightsErr z n = 0) := HOK.out.1
        have HME : Hid (msgE z n m l = (0, -1)) := by
          have e : mesE z n m l = msgE z n m l := by unfold mesE; rw [if_pos HW0.out]
          rw [e] at hc
          exact msgE_none hc
        clear hE h h' hroww
        go_enter Tryd.func3, Tryd.ntmps3
        go_wp2_with fail
        refine hQ.mono ?_
        clear hQ
        rintro e w1 ⟨rfl, hb1⟩
        have HB := Hid.mk' hb1
        clear hb1
        go_wp2_with fail
        refine (HBR.out _).mono ?_
        rintro e w2 ⟨rfl, hw2⟩
        rw [hw2]
        clear hw2 w2
        go_wp2_with fail
        refine (HWE.out _ HB.out).mono ?_
        rintro e w3 ⟨rfl, hw3⟩
        rw [hw3, HW0.out]
        clear hw3 w3
        have HF := Hid.mk' (PairAt.fresh w1 0 (-1) 27)
        have HB2 := Hid.mk' (below_chain HB.out ((Below.refl _ _).alloc (Nat.le_refl _) (.cells #[.int .i64 0, .int .i64 (-1)] 27)))
        have HBL : Hid (w.heap.size ≤ w1.heap.size) := HB.out.size
        generalize hWF : w1.alloc (.cells #[.int .i64 0, .int .i64 (-1)] 27) = WF at *
        have y0 := HF.out.c0
        go_wp2_with fail
        clear hWF y0
        generalize w1.heap.size = BF at *
        refine (HMF.out _ HB2.out).mono ?_
        rintro e w4 ⟨rfl, hb4⟩
        rw [HME.out]
        have hF4 := HF.out.later hb4
        have HF := Hid.mk' (hF4.put 0 (-1))
        have HB : Hid (Below w.heap.size w (put2 w4 BF (.int .i64 0) (.int .i64 (-1)))) := by unfold put2; exact ((below_chain HB2.out hb4).setCell HBL.out _).setCell HBL.out _
        have z0 := hF4.c0
        have z1 := hF4.c1
        have z2 := hF4.f0
        have z3 := hF4.f1
        clear hb4 hF4 HB2
        unfold put2 at HF HB
        generalize hWG : (w4.setCell ⟨BF, 0, none⟩ (.int .i64 0)).setCell ⟨BF, 1, none⟩ (.int .i64 (-1)) = WG at *
        have x0 := HF.out.c0
        go_wp2_with fail
        clear hWG z0 z1 z2 z3 x0
        have hne : 0 < n := HOK.out.2.1.posN
        refine (HIO.out _ HB.out).mono ?_
        rintro e w5 ⟨J, u, rfl, htx, hb5⟩
        have HF := Hid.mk' (HF.out.later hb5)
        have HB := Hid.mk' (below_chain HB.out hb5)
        have HTX := Hid.mk' htx
        clear hb5 htx
        go_wp2_with fail
        refine (HIW.out _ HB.out).mono ?_
        rintro e w6 ⟨v5, rfl, hv5, hr5, hb5⟩
        obtain ⟨b5, o5, cap5, rfl, hc5, hrow5⟩ := hr5 hne
        have HF := Hid.mk' (HF.out.later hb5)
        have HB := Hid.mk' (below_chain HB.out hb5)
        have HV5 := Hid.mk' hrow5
        clear hv5 hr5 hb5 hrow5
        go_wp2_with fail
        refine (HIL.out _ HB.out).mono ?_
        rintro e w7 ⟨v6, rfl, hv6, _, hb6⟩
        have HF := Hid.mk' (HF.out.later hb6)
        have HB := Hid.mk' (below_chain HB.out hb6)
        have HV5 := Hid.mk' (HV5.out.later hb6)
        obtain ⟨ad6, cap6, rfl⟩ := hv6.form
        have HV6 := Hid.mk' hv6
        clear hv6 hb6
        go_wp2_with fail
        refine (HGOOD.out _ _ _ _ _ HB.out HV5.out hc5 HV6.out).mono ?_
        rintro e w8 ⟨J', u', rfl, htx', _, hb7⟩
        have HF := Hid.mk' (HF.out.later hb7)
        have HB := Hid.mk' (below_chain HB.out hb7)
        obtain ⟨rfl, rfl⟩ := txt_only HTX.out htx'
        clear hb7 HV5 HV6 htx' HTX
        rw [show (⟨(bitsL u J).toArray⟩ : ByteArray) = txt (bitsL u J) from rfl]
        generalize txt (bitsL u J) = T at *
        have y0 := HF.out.c0
        have y1 := HF.out.c1
        have HNO : Hid (ErrIs a w8 .nilIface (0, -1)) := Or.inl ⟨rfl, rfl, by decide⟩
        go_wp2_with fail
        refine (HFN.out _ _ (0, -1) HB.out HNO.out).mono ?_
        rintro e w9 ⟨rfl, hb9⟩
        have HB := Hid.mk' (below_chain HB.out hb9)
        clear hb9
        go_wp2_with fail
        go_ret
        exact ⟨rfl, HB.out⟩
      · have HBAD := Hid.mk' (fun (W : World) (vw vl : Value) (hb : Below w.heap.size w W) (hw' : NumsAt W vw n z) (hl' : NumsAt W vl m l) => Encode_bad a vw vl n m z l W (hE.below hb) hw' hl' (by omega) (by omega) hc)
        clear hE h h'
        rcases hI with hI | ⟨hI, hI2⟩
        all_goals
          go_enter Tryd.func3, Tryd.ntmps3
          go_wp2_with fail
          refine hQ.mono ?_
          clear hQ
          rintro e w1 ⟨rfl, hb1⟩
          have HB := Hid.mk' hb1
          clear hb1
          go_wp2_with fail
          refine (HBR.out _).mono ?_
          rintro e w2 ⟨rfl, hw2⟩
          rw [hw2]
          clear hw2 w2
          go_wp2_with fail
          refine (HWE.out _ HB.out).mono ?_
          rintro e w3 ⟨rfl, hw3⟩
          rw [hw3]
          clear hw3 w3
          have HBL : Hid (w.heap.size ≤ w1.heap.size) := HB.out.size
          by_cases hwe : weightsErr z n = 0
          · have HME : Hid (mesE z n m l = msgE z n m l) := by show _ = _; unfold mesE; rw [if_pos hwe]
            rw [hwe]
            have HF := Hid.mk' (PairAt.fresh w1 0 (-1) 27)
            have HB2 := Hid.mk' (below_chain HB.out ((Below.refl _ _).alloc (Nat.le_refl _) (.cells #[.int .i64 0, .int .i64 (-1)] 27)))
            generalize hWF : w1.alloc (.cells #[.int .i64 0, .int .i64 (-1)] 27) = WF at *
            have y0 := HF.out.c0
            clear hwe
            go_wp2_with fail
            clear hWF y0
            generalize w1.heap.size = BF at *
            refine (HMF.out _ HB2.out).mono ?_
            rintro e w4 ⟨rfl, hb4⟩
            rw [← HME.out]
            have hF4 := HF.out.later hb4
            have HF := Hid.mk' (hF4.put ((mesE z n m l).1 : Int) (mesE z n m l).2)
            have HB : Hid (Below w.heap.size w (put2 w4 BF (.int .i64 ((mesE z n m l).1 : Int)) (.int .i64 (mesE z n m l).2))) := by unfold put2; exact ((below_chain HB2.out hb4).setCell HBL.out _).setCell HBL.out _
            have z0 := hF4.c0
            have z1 := hF4.c1
            have z2 := hF4.f0
            have z3 := hF4.f1
            clear hb4 hF4 HB2 HME
            unfold put2 at HF HB
            generalize hWG : (w4.setCell ⟨BF, 0, none⟩ (.int .i64 ((mesE z n m l).1 : Int))).setCell ⟨BF, 1, none⟩ (.int .i64 (mesE z n m l).2) = WG at *
            have x0 := HF.out.c0
            have hcb : (((mesE z n m l).1 : Int) == 0) = false := by simp; exact hc
            go_wp2_with fail
            clear hWG z0 z1 z2 z3 x0
            refine (HIW.out _ HB.out).mono ?_
            rintro e w5 ⟨v5, rfl, hv5, _, hb5⟩
            have HF := Hid.mk' (HF.out.later hb5)
            have HB := Hid.mk' (below_chain HB.out hb5)
            obtain ⟨ad5, cap5, rfl⟩ := hv5.form
            have HV5 := Hid.mk' hv5
            clear hv5 hb5
            go_wp2_with fail
            refine (HIL.out _ HB.out).mono ?_
            rintro e w6 ⟨v6, rfl, hv6, _, hb6⟩
            have HF := Hid.mk' (HF.out.later hb6)
            have HB := Hid.mk' (below_chain HB.out hb6)
            have HV5 := Hid.mk' (HV5.out.later hb6)
            obtain ⟨ad6, cap6, rfl⟩ := hv6.form
            have HV6 := Hid.mk' hv6
            clear hv6 hb6
            go_wp2_with fail
            refine (HBAD.out _ _ _ HB.out HV5.out HV6.out).mono ?_
            rintro e w7 ⟨v7, rfl, hv7, hb7⟩
            have HF := Hid.mk' (HF.out.later hb7)
            have HB := Hid.mk' (below_chain HB.out hb7)
            have HV7 := Hid.mk' hv7
            have y0 := HF.out.c0
            have y1 := HF.out.c1
            clear hv7 hb7
            go_wp2_with fail
            refine (HFT.out _ _ HB.out HV7.out).mono ?_
            rintro e w9 ⟨rfl, hb9⟩
            have HB := Hid.mk' (below_chain HB.out hb9)
            clear hb9
            go_wp2_with fail
            go_ret
            exact ⟨rfl, HB.out⟩
          · have HME : Hid (mesE z n m l = (weightsErr z n, -1)) := by show _ = _; unfold mesE; rw [if_neg hwe]
            have HF := Hid.mk' (PairAt.fresh w1 (weightsErr z n : Int) (-1) 27)
            have HB2 := Hid.mk' (below_chain HB.out ((Below.refl _ _).alloc (Nat.le_refl _) (.cells #[.int .i64 (weightsErr z n : Int), .int .i64 (-1)] 27)))
            generalize hWF : w1.alloc (.cells #[.int .i64 (weightsErr z n : Int), .int .i64 (-1)] 27) = WF at *
            have y0 := HF.out.c0
            have hwb : ((weightsErr z n : Int) == 0) = false := by simp; exact hwe
            have HF : Hid (PairAt WF w1.heap.size ((mesE z n m l).1 : Int) (mesE z n m l).2) := by rw [HME.out]; exact HF.out
            clear HB
            have HB := HB2
            clear hwe HB2 HME
            go_wp2_with fail
            clear hWF y0 hwb
            generalize w1.heap.size = BF at *
            refine (HIW.out _ HB.out).mono ?_
            rintro e w5 ⟨v5, rfl, hv5, _, hb5⟩
            have HF := Hid.mk' (HF.out.later hb5)
            have HB := Hid.mk' (below_chain HB.out hb5)
            obtain ⟨ad5, cap5, rfl⟩ := hv5.form
            have HV5 := Hid.mk' hv5
            clear hv5 hb5
            go_wp2_with fail
            refine (HIL.out _ HB.out).mono ?_
            rintro e w6 ⟨v6, rfl, hv6, _, hb6⟩
            have HF := Hid.mk' (HF.out.later hb6)
            have HB := Hid.mk' (below_chain HB.out hb6)
            have HV5 := Hid.mk' (HV5.out.later hb6)
            obtain ⟨ad6, cap6, rfl⟩ := hv6.form
            have HV6 := Hid.mk' hv6
            clear hv6 hb6
            go_wp2_with fail
            refine (HBAD.out _ _ _ HB.out HV5.out HV6.out).mono ?_
            rintro e w7 ⟨v7, rfl, hv7, hb7⟩
            have HF := Hid.mk' (HF.out.later hb7)
            have HB := Hid.mk' (below_chain HB.out hb7)
            have HV7 := Hid.mk' hv7
            have y0 := HF.out.c0
            have y1 := HF.out.c1
            clear hv7 hb7
            go_wp2_with fail
            refine (HFT.out _ _ HB.out HV7.out).mono ?_
            rintro e w9 ⟨rfl, hb9⟩
            have HB := Hid.mk' (below_chain HB.out hb9)
            clear hb9
            go_wp2_with fail
            go_ret
            exact ⟨rfl, HB.out⟩
end Go.Proofs.YtgfejijaipggeaaDoor

/- What the rows' condition on package variables gives a walk: eight different sentinels with their texts, and the handle of the type error. -/
namespace Go.Proofs.YtgfejijaipggeaaDoor
open Go.ChangeShapes Go.WideShapes Go.RowKit

theorem Tryd.own : ownKnob Tryd.prog.godebug = none := by kernel_rfl
theorem Tryd.et : Tryd.prog.globalNamed "errors.errorType" = some 8 := by kernel_rfl
theorem Tryd.rt : (Tryd.prog.cutTypes.find? (·.1 == "internal/reflectlite.rtype")).map (·.2) = some 154 := by kernel_rfl
theorem Tryd.oneRow : ((List.range 214).filter fun t => Tryd.prog.rowNamed t [101, 114, 114, 111, 114]) = [31] := by kernel_rfl
theorem Tryd.size : Tryd.prog.types.size = 214 := by kernel_rfl
theorem Tryd.star : ("*" ++ "errors.errorString" : String) = "*errors.errorString" := by decide
theorem Tryd.rowE (u : TypeId) (h : Tryd.prog.typeName? 3 u = some "*errors.errorString") : u = 182 :=
  typeName_ptr_named (nm := "errors.errorString") (by rw [Tryd.star]; kernel_rfl) (by kernel_rfl) (by decide) u (by rw [Tryd.star]; exact h)
theorem Tryd.cellsE : Tryd.prog.cellsOf 203 = 1 := by kernel_rfl
theorem Tryd.cellsS : Tryd.prog.cellsOf 9 = 1 := by kernel_rfl
theorem Tryd.g0 : Tryd.prog.globalNamed "demon/api.ErrText" = some 3 := by kernel_rfl
theorem Tryd.g1 : Tryd.prog.globalNamed "demon/api.ErrBound" = some 0 := by kernel_rfl
theorem Tryd.g2 : Tryd.prog.globalNamed "demon/api.ErrShape" = some 1 := by kernel_rfl
theorem Tryd.g3 : Tryd.prog.globalNamed "demon/api.ErrZero" = some 2 := by kernel_rfl
theorem Tryd.g4 : Tryd.prog.globalNamed "demon/api.ErrName" = some 4 := by kernel_rfl
theorem Tryd.g5 : Tryd.prog.globalNamed "demon/api.ErrNone" = some 5 := by kernel_rfl
theorem Tryd.g6 : Tryd.prog.globalNamed "demon/api.ErrOrder" = some 6 := by kernel_rfl
theorem Tryd.g7 : Tryd.prog.globalNamed "demon/api.ErrKind" = some 7 := by kernel_rfl

/-- Any number of listed sentinels of one type: each one's pointer, text and row; no two are one. -/
theorem laid_list {P : Program} {W : World} {nm : String} {ti tp te ts : TypeId} {ms : Array (String × TypeId)} {f : Field}
    (hi : P.underlying ti = some (.interface ms)) (hrow : ∀ u, P.typeName? 3 u = some nm → u = tp)
    (hp : P.underlying tp = some (.pointer te)) (he : P.underlying te = some (.struct #[f])) (hft : f.type = ts) (hfo : f.offset = 0) (hs : P.underlying ts = some .string) (hc : P.cellsOf te = 1) (hcs : P.cellsOf ts = 1) :
    ∀ (L : List (String × List UInt8)) (ps : List MemPlace), (∀ x, x ∈ L → ∃ g, P.globalNamed x.1 = some g ∧ (P.globals[g]?).map (·.type) = some ti) →
      DataW.LaidVars P W (L.map fun x => (x.1, .iface nm (.ptr (.agg [.lit (.string x.2)])))) ps → ps.Nodup →
      (∀ b off, MemPlace.cell b off ∈ ps → (∃ c t, W.heap[b]? = some (.cells c t (0, 0))) ∧ ∀ u v, W.cell? ⟨b, off, none⟩ = some (.iface u v) → Value.okWide P W .any 0 u v) →
      ∃ a : Nat → Addr, (∀ i x, L[i]? = some x → W.var? P x.1 = some #[.iface tp (.pointer (some (a i)))] ∧ (∃ s, W.cell? (a i) = some (.string s) ∧ s.data.toList = x.2) ∧
          (∃ c t, W.heap[(a i).block]? = some (.cells c t (0, 0))) ∧ MemPlace.cell (a i).block (a i).off ∈ ps) ∧
        ∀ i j, i < L.length → j < L.length → i ≠ j → a i ≠ a j := by
  intro L
  induction L with
  | nil => intro ps _ _ _ _; exact ⟨fun _ => default, fun i x h => by simp at h, fun i j h => by simp at h⟩
  | cons x r ih =>
    intro ps hgs hv hnd hrows
    obtain ⟨n, text⟩ := x
    obtain ⟨g0, t0, cs0, f0, p0, q0, hg0, ht0, hv0, hd0, hvr, e0⟩ := hv
    obtain ⟨g, hg, ht⟩ := hgs (n, text) (List.mem_cons_self ..)
    obtain rfl := Option.some.inj (hg.symm.trans hg0)
    obtain rfl := Option.some.inj (ht.symm.trans ht0)
    subst e0
    obtain ⟨l0⟩ := cs0
    have ok0 : ∀ u v, l0 = [.iface u v] → Value.okWide P W .any 0 u v := fun u v e => by
      subst e
      exact (hrows g 0 (by simp [MemPlace.row])).2 u v (by simpa using World.var?_cell hg0 hv0 0)
    obtain ⟨a0, s0, rfl, hc0, hs0, hz0, rfl⟩ := errorString_of_trod hi hrow hp he hft hfo hs hc hcs hd0 ok0
    obtain ⟨c0, tt0, hb0⟩ := (hrows a0.block a0.off (by simp [MemPlace.row])).1
    have hnq : q0.Nodup := List.Nodup.sublist (List.sublist_append_right _ _) hnd
    obtain ⟨a', ha', hne'⟩ := ih q0 (fun x hx => hgs x (List.mem_cons_of_mem _ hx)) hvr hnq (fun b off hm => hrows b off (List.mem_append_right _ hm))
    have hnot : MemPlace.cell a0.block a0.off ∉ q0 := by
      intro hm
      have := (List.nodup_append.1 hnd).2.2
      exact this (.cell a0.block a0.off) (by simp [MemPlace.row]) (.cell a0.block a0.off) hm rfl
    refine ⟨fun i => match i with | 0 => a0 | k + 1 => a' k, ?_, ?_⟩
    · intro i x hx
      cases i with
      | zero =>
        simp only [List.getElem?_cons_zero, Option.some.injEq] at hx
        subst hx
        exact ⟨hv0, ⟨s0, hc0, hs0⟩, ⟨c0, tt0, hb0⟩, by simp [MemPlace.row]⟩
      | succ k =>
        simp only [List.getElem?_cons_succ] at hx
        obtain ⟨h1, h2, h3, h4⟩ := ha' k x hx
        exact ⟨h1, h2, h3, List.mem_append_right _ h4⟩
    · have far : ∀ k, k < r.length → a0 ≠ a' k := fun k hk e => by
        obtain ⟨_, _, _, h4⟩ := ha' k r[k] (by simp [hk])
        rw [← e] at h4
        exact hnot h4
      intro i j hi' hj' hij
      cases i with
      | zero =>
        cases j with
        | zero => exact absurd rfl hij
        | succ k => exact far k (by simpa using hj')
      | succ m =>
        cases j with
        | zero => exact (far m (by simpa using hi')).symm
        | succ k => exact hne' m k (by simpa using hi') (by simpa using hj') (by omega)

/-- The names and texts, in the rows' order. -/
def eightNames : List (String × List UInt8) := [("demon/api.ErrText", [100, 101, 109, 111, 110, 58, 32, 116, 101, 120, 116]), ("demon/api.ErrBound", [100, 101, 109, 111, 110, 58, 32, 98, 111, 117, 110, 100]), ("demon/api.ErrShape", [100, 101, 109, 111, 110, 58, 32, 115, 104, 97, 112, 101]), ("demon/api.ErrZero", [100, 101, 109, 111, 110, 58, 32, 122, 101, 114, 111]), ("demon/api.ErrName", [100, 101, 109, 111, 110, 58, 32, 110, 97, 109, 101]), ("demon/api.ErrNone", [100, 101, 109, 111, 110, 58, 32, 110, 111, 110, 101]), ("demon/api.ErrOrder", [100, 101, 109, 111, 110, 58, 32, 111, 114, 100, 101, 114]), ("demon/api.ErrKind", [100, 101, 109, 111, 110, 58, 32, 107, 105, 110, 100])]
def laidAll : List (String × DataW Unit) := [("errors.errorType", Rows.laid_errors_errorType), ("demon/api.ErrText", Rows.laid_demon_api_ErrText), ("demon/api.ErrBound", Rows.laid_demon_api_ErrBound), ("demon/api.ErrShape", Rows.laid_demon_api_ErrShape), ("demon/api.ErrZero", Rows.laid_demon_api_ErrZero), ("demon/api.ErrName", Rows.laid_demon_api_ErrName), ("demon/api.ErrNone", Rows.laid_demon_api_ErrNone), ("demon/api.ErrOrder", Rows.laid_demon_api_ErrOrder), ("demon/api.ErrKind", Rows.laid_demon_api_ErrKind)]
theorem laidAll_parts (W : World) : laidMetH Tryd.prog laidAll W = (laidMet Tryd.prog (eightNames.map fun x => (x.1, .iface "*errors.errorString" (.ptr (.agg [.lit (.string x.2)])))) W ∧ handlesMet Tryd.prog [("errors.errorType", Rows.laid_errors_errorType)] W) := by kernel_rfl

theorem var_at {W : World} {n : String} {g : Nat} {v : Value} (hg : Tryd.prog.globalNamed n = some g) (h : W.var? Tryd.prog n = some #[v]) : W.cell? ⟨g, 0, none⟩ = some v := by
  simpa using World.var?_cell hg h 0

theorem errs_of_laid {W : World} (h : laidMetH Tryd.prog laidAll W) : ∃ a : Nat → Addr, Errs W a ∧ ∀ i x, eightNames[i]? = some x → ∃ s, W.cell? (a i) = some (.string s) ∧ s.data.toList = x.2 := by
  rw [laidAll_parts] at h
  obtain ⟨⟨ps, hv, hnd, hrows⟩, hh⟩ := h
  obtain ⟨name, u, ty, e1, e2, e3, e4, e5⟩ := hh _ (List.mem_singleton.2 rfl)
  have en : name = [101, 114, 114, 111, 114] := (Option.some.inj e1).symm
  subst en
  obtain rfl := Option.some.inj (Tryd.rt.symm.trans e2)
  have hm : ty ∈ (List.range 214).filter fun t => Tryd.prog.rowNamed t [101, 114, 114, 111, 114] := List.mem_filter.2 ⟨List.mem_range.2 (by rw [← Tryd.size]; exact e3), e4⟩
  rw [Tryd.oneRow] at hm
  obtain rfl := List.mem_singleton.1 hm
  have hth : typeHandle Tryd.prog 31 = .pointer (some ⟨12, 31, none⟩) := by kernel_rfl
  rw [hth] at e5
  obtain ⟨a, ha, hne⟩ := laid_list Tryd.underlying31 Tryd.rowE Tryd.underlying182 Tryd.underlying203 rfl rfl Tryd.underlying9 Tryd.cellsE Tryd.cellsS eightNames ps
    (fun x hx => by
      simp only [eightNames, List.mem_cons, List.not_mem_nil, or_false] at hx
      rcases hx with rfl | rfl | rfl | rfl | rfl | rfl | rfl | rfl
      · exact ⟨_, Tryd.g0, by kernel_rfl⟩
      · exact ⟨_, Tryd.g1, by kernel_rfl⟩
      · exact ⟨_, Tryd.g2, by kernel_rfl⟩
      · exact ⟨_, Tryd.g3, by kernel_rfl⟩
      · exact ⟨_, Tryd.g4, by kernel_rfl⟩
      · exact ⟨_, Tryd.g5, by kernel_rfl⟩
      · exact ⟨_, Tryd.g6, by kernel_rfl⟩
      · exact ⟨_, Tryd.g7, by kernel_rfl⟩) hv hnd hrows
  refine ⟨a, ⟨var_at Tryd.g0 (ha 0 _ rfl).1, var_at Tryd.g1 (ha 1 _ rfl).1, var_at Tryd.g2 (ha 2 _ rfl).1, var_at Tryd.g3 (ha 3 _ rfl).1, var_at Tryd.g4 (ha 4 _ rfl).1, var_at Tryd.g5 (ha 5 _ rfl).1, var_at Tryd.g6 (ha 6 _ rfl).1, var_at Tryd.g7 (ha 7 _ rfl).1, var_at Tryd.et e5, ?_, ?_⟩, fun i x hx => (ha i x hx).2.1⟩
  · intro i hi
    have hl : eightNames.length = 8 := rfl
    exact (ha i eightNames[i] (List.getElem?_eq_getElem (by omega))).2.2.1
  · intro i j hi hj hij
    exact hne i j hi hj hij

/-- The door's own heap meets the condition. -/
theorem door_met (os : Os) (args : Array Value) : laidMetH Tryd.prog laidAll ((World.doorLaid Tryd.prog 178 os).forCall (fun _ _ => 0) ⟨#[], args, []⟩).memory :=
  laidMetH_of_parts3 (fuel := 8) (laidMet_of_run' 8 (by kernel_rfl) (by kernel_rfl)) (by kernel_rfl) (by kernel_rfl)
end Go.Proofs.YtgfejijaipggeaaDoor

/- A parameter of type []int opened. -/
namespace Go.Proofs.YtgfejijaipggeaaDoor
open Go.ChangeShapes Go.WideShapes Go.ChangeAt Go.RowKit Go.Joins Go.Deep

theorem Tryd.laidOut : laidOutB Tryd.prog = true := by kernel_rfl
theorem Tryd.cellsInt : Tryd.prog.cellsOf 3 = 1 := by kernel_rfl
theorem Tryd.cellsInts : Tryd.prog.cellsOf 22 = 1 := by kernel_rfl

set_option maxRecDepth 100000 in
/-- What a parameter of type []int gives: its slice, its numbers. -/
theorem open_nums {H : Type} {enc : TypeId × Value → H} {W : World} {base : Nat} {v : Value} {d : DataW H} {p : List MemPlace} (hv : Value.okWide Tryd.prog W .any base 22 v)
    (h : DataW.Trod enc Tryd.prog W 0 (fun _ => true) true 22 v d p) :
    ∃ (ad : Option Addr) (n cap : Nat) (z : Nat → Int), v = .slice ad n cap ∧ n ≤ maxLen ∧ NumsAt W (.slice ad n cap) n z := by
  obtain ⟨ad, n, cap, rfl⟩ := okWide_slice Tryd.underlying22 hv
  obtain ⟨fuel, hf⟩ := h
  rcases open_ints Tryd.underlying22 Tryd.underlying3 Tryd.cellsInt hf with ⟨hc, _⟩ | ⟨a, len, cap', zs, hc, _, hl, hm, hz, _, hcell, _⟩
  · simp [Value.cells] at hc
    obtain ⟨rfl, rfl, rfl⟩ := hc
    exact ⟨none, 0, 0, fun _ => 0, rfl, Nat.zero_le _, Or.inl ⟨none, 0, rfl, rfl⟩⟩
  · simp [Value.cells] at hc
    obtain ⟨rfl, rfl, rfl⟩ := hc
    simp only [if_true] at hz
    rcases Nat.eq_zero_or_pos n with rfl | hpos
    · exact ⟨some a, 0, cap, fun _ => 0, rfl, Nat.zero_le _, Or.inl ⟨some a, cap, rfl, rfl⟩⟩
    · obtain ⟨b, o, spot⟩ := a
      have hspot : spot = none := by simpa [Addr.add] using World.cell?_spot (hcell 0 (by omega))
      subst hspot
      refine ⟨_, n, cap, fun i => zs.getD i 0, rfl, by omega, Or.inr ⟨b, o, cap, rfl, hpos, fun i hi => ?_⟩⟩
      have := hcell i (by omega)
      rw [Go.Proofs.YtgfejijaipggeaaDoor.add_plain] at this
      exact this
end Go.Proofs.YtgfejijaipggeaaDoor

/- A parameter of type []int opened, with its room. -/
namespace Go.Proofs.YtgfejijaipggeaaDoor
open Go.ChangeShapes Go.WideShapes Go.ChangeAt Go.RowKit Go.Joins Go.Deep

set_option maxRecDepth 100000 in
/-- What a parameter of type []int gives: its slice, its numbers, and that there is room for them. -/
theorem open_room {H : Type} {enc : TypeId × Value → H} {W : World} {base : Nat} {v : Value} {d : DataW H} {p : List MemPlace} (hv : Value.okWide Tryd.prog W .any base 22 v)
    (h : DataW.Trod enc Tryd.prog W 0 (fun _ => true) true 22 v d p) :
    ∃ (ad : Option Addr) (n cap : Nat) (z : Nat → Int), v = .slice ad n cap ∧ n ≤ maxLen ∧ NumsAt W (.slice ad n cap) n z ∧ n ≤ cap := by
  obtain ⟨ad, n, cap, rfl⟩ := okWide_slice Tryd.underlying22 hv
  obtain ⟨fuel, hf⟩ := h
  rcases open_ints Tryd.underlying22 Tryd.underlying3 Tryd.cellsInt hf with ⟨hc, _⟩ | ⟨a, len, cap', zs, hc, _, hl, hm, hz, _, hcell, _⟩
  · simp [Value.cells] at hc
    obtain ⟨rfl, rfl, rfl⟩ := hc
    exact ⟨none, 0, 0, fun _ => 0, rfl, Nat.zero_le _, Or.inl ⟨none, 0, rfl, rfl⟩, Nat.zero_le _⟩
  · simp [Value.cells] at hc
    obtain ⟨rfl, rfl, rfl⟩ := hc
    simp only [if_true] at hz
    rcases Nat.eq_zero_or_pos n with rfl | hpos
    · exact ⟨some a, 0, cap, fun _ => 0, rfl, Nat.zero_le _, Or.inl ⟨some a, cap, rfl, rfl⟩, Nat.zero_le _⟩
    · obtain ⟨b, o, spot⟩ := a
      have hspot : spot = none := by simpa [Addr.add] using World.cell?_spot (hcell 0 (by omega))
      subst hspot
      refine ⟨_, n, cap, fun i => zs.getD i 0, rfl, by omega, Or.inr ⟨b, o, cap, rfl, hpos, fun i hi => ?_⟩, by omega⟩
      have := hcell i (by omega)
      rw [Go.Proofs.YtgfejijaipggeaaDoor.add_plain] at this
      exact this
end Go.Proofs.YtgfejijaipggeaaDoor
