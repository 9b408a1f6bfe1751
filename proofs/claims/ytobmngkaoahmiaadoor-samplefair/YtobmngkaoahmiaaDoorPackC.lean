/- SampleFair: the law. -/
import Derived.Test.YtobmngkaoahmiaaDoorSmThird
import Derived.Test.YtobmngkaoahmiaaDoorSmFm
import Derived.Test.YtobmngkaoahmiaaDoorPackB
import Derived.Test.YtobmngkaoahmiaaDoorIsBits
import Derived.Test.YtobmngkaoahmiaaDoorFills
import Derived.Test.YtobmngkaoahmiaaDoorCopy
import Derived.Test.YtobmngkaoahmiaaDoorRows
import Derived.Test.YtobmngkaoahmiaaDoorCode
import Derived.ChangeSame
import Derived.ChangeVars
import Derived.JoinedOf
import Derived.LaidLaws
import Derived.LaidHandle
import Derived.LaidMore
import Derived.Stop.Joined
import Derived.Lay
import Derived.Test.YtobmngkaoahmiaaDoorInts
import Derived.Test.YtobmngkaoahmiaaDoorCards
import Derived.Test.YtobmngkaoahmiaaDoorTie
import Derived.SevenTiedAt
import Derived.ProofKit
import Derived.OpenShut
import Derived.ChangeOld
import Derived.Lib.SmallJoins
import Derived.Deep.Matrix
namespace Go.Proofs.YtobmngkaoahmiaaDoor
open Go.RowKit

theorem Fills.laterF {w wr w' : World} {g T : Nat} {f : Nat → Int} (h : Fills w wr g T f) (hb : Below wr.heap.size wr w') : Fills w w' g T f :=
  ⟨h.row.later hb, fun i hi => by rw [hb.frozen (cell_lt (h.row i hi))]; exact h.fz i hi, h.below.trans (hb.mono h.below.size), h.hg⟩
theorem Fills.congrF {w wr : World} {g T : Nat} {f f' : Nat → Int} (h : Fills w wr g T f) (hf : ∀ i, i < T → f i = f' i) : Fills w wr g T f' :=
  ⟨fun i hi => by rw [← hf i hi]; exact h.row i hi, h.fz, h.below, h.hg⟩
theorem dig_bitF (k i : Nat) : (⟨(Lib.decDigits (k / 2 ^ i % 2)).toArray⟩ : ByteArray) = if k / 2 ^ i % 2 = 0 then ⟨#[48]⟩ else ⟨#[49]⟩ := by
  rcases Nat.mod_two_eq_zero_or_one (k / 2 ^ i) with h | h
  · rw [h, if_pos rfl, show Lib.decDigits 0 = [48] by first | rfl | (unfold Lib.decDigits; rfl) | simp [Lib.decDigits] | decide +kernel]
  · rw [h, if_neg (by decide), show Lib.decDigits 1 = [49] by first | rfl | (unfold Lib.decDigits; rfl) | simp [Lib.decDigits] | decide +kernel]
theorem bit_modF (k j : Nat) : ((k : Int) / 2 ^ j).tmod 2 = ((k / 2 ^ j % 2 : Nat) : Int) := by
  rw [show ((2 : Int) ^ j) = ((2 ^ j : Nat) : Int) by simp, ← Int.natCast_ediv]
  generalize k / 2 ^ j = X
  rw [Int.tmod_eq_emod_of_nonneg (by omega)]
  omega
theorem sml_ofF {M z : Nat} (h0 : 0 < M) (h1 : M ≤ 1000000) (h2 : z ≤ 1000000) : Sml M ((z : Nat) : Int) := by
  have h3 : 1000000 < 1000000 ^ 60 := by decide
  exact ⟨h0, by omega, by rw [Int.natAbs_natCast]; omega⟩
theorem sgn_sameF {x y p q : Int} (hp : 0 < p) (hq : 0 < q) (h : x * p = y * q) : sgnZ x = sgnZ y := by
  unfold sgnZ
  rcases Int.lt_trichotomy x 0 with h1 | h1 | h1
  · have h2 : x * p < 0 := Int.mul_neg_of_neg_of_pos h1 hp
    have h3 : y < 0 := by
      rcases Int.lt_or_le y 0 with h4 | h4
      · exact h4
      · have := Int.mul_nonneg h4 (Int.le_of_lt hq); omega
    rw [if_neg (by omega), if_pos h1, if_neg (by omega), if_pos h3]
  · subst h1
    have h3 : y = 0 := by
      rw [Int.zero_mul] at h
      rcases Int.mul_eq_zero.1 h.symm with h4 | h4
      · exact h4
      · omega
    rw [h3]
  · have h2 : 0 < x * p := Int.mul_pos h1 hp
    have h3 : 0 < y := by
      rcases Int.lt_or_le 0 y with h4 | h4
      · exact h4
      · have := Int.mul_nonneg (show 0 ≤ -y by omega) (Int.le_of_lt hq); rw [Int.neg_mul] at this; omega
    rw [if_neg (by omega), if_neg (by omega), if_neg (by omega), if_neg (by omega)]
theorem RCmp_toF (u v : Value) (M1 M2 : Nat) (z1 z2 : Int) (w : World) (hu : LR w u M1 z1) (hv : LR w v M2 z2) (h1 : Sml M1 z1) (h2 : Sml M2 z2) :
    Calls Tryd.prog 33 #[u, v] w fun e w' => e = .returned (.int .i64 (sgnZ (z1 * (M2 : Int) - z2 * (M1 : Int)))) ∧ Below w.heap.size w w' := by
  have h9 := RCmp_any u v _ _ _ _ 60 w hu hv (Nat.lt_of_le_of_lt (lowN_le h1.1 _) h1.2.2) (Nat.lt_of_le_of_lt (lowN_le h2.1 _) h2.2.2) (Nat.lt_of_le_of_lt (lowD_le _ _) h1.2.1) (Nat.lt_of_le_of_lt (lowD_le _ _) h2.2.1) (by decide)
  have c1 := low_cross h1.1 z1
  have c2 := low_cross h2.1 z2
  have p1 := lowD_pos h1.1 z1
  have p2 := lowD_pos h2.1 z2
  have m1 := h1.1
  have m2 := h2.1
  have hs : sgnZ (lowN M1 z1 * (lowD M2 z2 : Int) - lowN M2 z2 * (lowD M1 z1 : Int)) = sgnZ (z1 * (M2 : Int) - z2 * (M1 : Int)) := by
    refine sgn_sameF (p := (M1 : Int) * (M2 : Int)) (q := (lowD M1 z1 : Int) * (lowD M2 z2 : Int)) (Int.mul_pos (by omega) (by omega)) (Int.mul_pos (by omega) (by omega)) ?_
    generalize lowN M1 z1 = a1 at *
    generalize lowN M2 z2 = a2 at *
    generalize (lowD M1 z1 : Int) = b1 at *
    generalize (lowD M2 z2 : Int) = b2 at *
    generalize (M1 : Int) = N1 at *
    generalize (M2 : Int) = N2 at *
    calc (a1 * b2 - a2 * b1) * (N1 * N2) = (a1 * N1) * b2 * N2 - (a2 * N2) * b1 * N1 := by grind
      _ = (z1 * b1) * b2 * N2 - (z2 * b2) * b1 * N1 := by rw [c1, c2]
      _ = (z1 * N2 - z2 * N1) * (b1 * b2) := by grind
  rw [hs] at h9
  exact h9
theorem sgn_le {z : Int} (h : z ≤ 0) : sgnZ z ≤ 0 := by unfold sgnZ; split; omega; split <;> omega
theorem sgn_ge {z : Int} (h : 0 ≤ z) : 0 ≤ sgnZ z := by unfold sgnZ; split; omega; split <;> omega
/-- What the walk asks of numbers, and of Draw. -/
theorem fair_facts (a : Nat → Addr) (n S B : Nat) (z : Nat → Int) (hok : OkW z n) (hw : weightsErr z n = 0) (hS : sumN z n = (S : Int)) (hB : B ≤ 9) :
    ∃ (G : Nat → Nat → Nat) (O X : Nat → Nat),
      (∀ k, G 0 k = 0) ∧ O 0 = 0 ∧ (∀ m k, G m k ≤ m) ∧ (∀ m, O m ≤ m) ∧ (∀ k, k < n → z k = (X k : Int) ∧ X k ≤ 4096) ∧
      (∀ k, k < n → G (2 ^ B) k * S ≤ X k * 2 ^ B ∧ X k * 2 ^ B ≤ (G (2 ^ B) k + O (2 ^ B)) * S) ∧
      (∀ r W v, Errs W a → NumsAt W v n z → Calls Tryd.prog 13 #[v, .string (txS r B)] W fun e w' => ((e = .returned (.tuple #[.int .i64 0, .int .i64 0, errV a 6]) ∧ (∀ k, G (r + 1) k = G r k) ∧ O (r + 1) = O r + 1) ∨ ∃ k u : Nat, e = .returned (.tuple #[.int .i64 (k : Int), .int .i64 (u : Int), .nilIface]) ∧ (∀ i, G (r + 1) i = if i = k then G r k + 1 else G r i) ∧ O (r + 1) = O r ∧ k < n ∧ u ≤ B) ∧ Below W.heap.size W w') := by
  have hp := hok.pos
  have hl := hok.le
  have hxs := xT_sum hok.nn hS
  have hxn : xT z n S n < 2 ^ dpT S := by
    unfold xT
    rw [if_neg (by omega)]
    have := Nat.two_pow_pos (dpT S)
    omega
  have hxS : sumX (xT z n S) n = S := by
    have h1 := hxs
    rw [sumX] at h1
    have h2 : xT z n S n = 2 ^ dpT S - S := by unfold xT; rw [if_neg (by omega)]
    have h3 := dpT_ge S
    omega
  refine ⟨fun m k => gotS (xT z n S) n (dpT S) B m k, fun m => opnS (xT z n S) n (dpT S) B m, fun k => (z k).toNat, fun k => rfl, rfl, fun m k => got_le _ _ _ _ _ _, fun m => opn_le _ _ _ _ _, fun k hk => ?_, fun k hk => ?_, fun r W v hE hv => ?_⟩
  · have h1 := hok.nn k hk
    have h2 := sumN_ge hok.nn hk
    show z k = (((z k).toNat : Nat) : Int) ∧ (z k).toNat ≤ 4096
    omega
  · have h1 := fair_end (B := B) hxs hxn hxS hk
    have h2 : xT z n S k = (z k).toNat := by unfold xT; rw [if_pos hk]
    rw [h2] at h1
    exact h1
  · have h0 : dwE z n (txS r B) = 0 := by
      unfold dwE
      rw [if_pos hw, if_neg (by rw [txS_size]; omega), if_pos (txS_bitB r B)]
    refine (Draw_ok a v n S z (txS r B) W hE hv hS h0).mono ?_
    rintro e w' ⟨⟨q, rfl, hq⟩, hb⟩
    refine ⟨?_, hb⟩
    rcases row_comes hxs hxn hq with ⟨rfl, h1⟩ | ⟨k, u, rfl, h1, h2, h3⟩
    · exact Or.inl ⟨rfl, fun k => (got_none h1 k).1, (got_none h1 0).2⟩
    · exact Or.inr ⟨k, u, rfl, fun i => (got_some h1 i).1, (got_some h1 0).2, h2, h3⟩

set_option maxRecDepth 100000 in
set_option maxHeartbeats 16000000 in
theorem Sfr_ok (a : Nat → Addr) (ad : Option Addr) (n cap B : Nat) (z : Nat → Int) (w : World) (hE : Errs w a) (h : NumsAt w (.slice ad n cap) n z) (h0 : weightsErr z n = 0) (hB : B ≤ 9) :
    Calls Tryd.prog 8 #[.slice ad n cap, .int .i64 (B : Int)] w fun e w' => e = .returned (.bool true) ∧ Below w.heap.size w w' := by
  have HTH := Hid.mk' (third_any a w hE)
  obtain ⟨h16, hok⟩ := weightsErr_ok h0
  have hp := hok.pos
  have hl := hok.le
  obtain ⟨S, hS⟩ : ∃ S : Nat, sumN z n = (S : Int) := ⟨(sumN z n).toNat, by omega⟩
  have hS0 : 0 < S := by omega
  have hS1 : S ≤ 4096 := by omega
  obtain ⟨G, O, X, hG0, hO0, hGl, hOl, hX, hEND, hDR⟩ := fair_facts a n S B z hok h0 hS hB
  have hT : 2 ^ B ≤ 512 := Nat.pow_le_pow_right (n := 2) (by decide) hB
  have hTp : 0 < 2 ^ B := Nat.two_pow_pos B
  have hsh : IntKind.i64.wrap (2 ^ B : Int) = ((2 ^ B : Nat) : Int) := by rw [shl_wrap B (by omega)]; simp
  generalize 2 ^ B = T at *
  obtain ⟨b, o, c, hv, hr⟩ := row_ofS h hok.posN
  simp only [Value.slice.injEq, true_and] at hv
  obtain ⟨rfl, rfl⟩ := hv
  have HWE := Hid.mk' (fun (W : World) (hb : Below w.heap.size w W) => WeightsError_any (.slice (some ⟨b, o, none⟩) n cap) n z W (h.later hb) (by omega))
  rw [h0] at HWE
  have HIN := Hid.mk' (fun (W : World) (hb : Below w.heap.size w W) => ints_any (.slice (some ⟨b, o, none⟩) n cap) n z W (h.later hb) (by omega))
  have HDR : Hid (∀ (r : Nat) (W : World) (v : Value), Below w.heap.size w W → NumsAt W v n z → _) := fun r W v hb hv => hDR r W v (hE.below hb) hv
  have HCD : Hid (∀ W, Below w.heap.size w W → Calls Tryd.prog 15 #[errV a 6, .int .i64 6] W fun e w' => e = .returned (.bool true) ∧ Below W.heap.size W w') := fun W hb => coded_errV a 6 (by decide) W (hE.below hb)
  rw [errV_6s] at HDR HCD
  have HXC : Hid (∀ k, k < n → ∀ W, Below w.heap.size w W → W.cell? ⟨b, o + k, none⟩ = some (.int .i64 (X k : Int))) := fun k hk W hb => by
    rw [← (hX k hk).1]
    exact hr.later hb k hk
  have HSU : Hid (∀ W, Below w.heap.size w W → Calls Tryd.prog 32 #[.slice (some ⟨b, o, none⟩) n cap] W fun e w' => e = .returned (.int .i64 (S : Int)) ∧ Below W.heap.size W w') := fun W hb => by
    have h1 := Sum_some b o cap n z W (hr.later hb) (fun k hk => by have h1 := sumN_nonneg (z := z) (n := k) (fun j hj => hok.nn j (by omega)); have h2 := sumN_mono hok.nn (k := k) hk; omega) (fun i hi => by have := hok.nn i hi; have := sumN_ge hok.nn hi; omega) (by omega)
    rw [hS] at h1
    refine h1.mono ?_
    rintro e w' ⟨rfl, rfl⟩
    exact ⟨rfl, Below.refl _ _⟩
  have HGL := Hid.mk' hGl
  have HOL := Hid.mk' hOl
  have HG0 := Hid.mk' hG0
  have HO0 := Hid.mk' hO0
  have HXL : Hid (∀ k, k < n → X k ≤ 4096) := fun k hk => (hX k hk).2
  have HEN := Hid.mk' hEND
  have HDC := Hid.mk' (fun (m : Nat) (W : World) (hm : m < 10) => Decimal_small m W hm)
  obtain ⟨i0, hi, hz0, hz1, hz2⟩ := info_parts Tryd.infoInt
  have HINF : Hid (Tryd.prog.info? 3 = some i0 ∧ i0.zero = some (.int .i64 0) ∧ i0.size = 1 ∧ i0.bytes = 8) := ⟨hi, hz0, hz1, hz2⟩
  have hqI : ¬ (16 : Int) < (n : Int) := by omega
  have hqd : decide ((16 : Int) < (n : Int)) = false := decide_eq_false hqI
  have hB0 : (0 : Int) ≤ (B : Int) := by omega
  have hB9 : (B : Int) ≤ 9 := by omega
  have hBn : ¬ (B : Int) < 0 := by omega
  have hBx : ¬ (9 : Int) < (B : Int) := by omega
  have hn0 : 0 < n := hok.posN
  have hn16 : (n : Int) ≤ 16 := by omega
  have hTI : (T : Int) ≤ 512 := by omega
  have HT := Hid.mk' (show 0 < T ∧ T ≤ 512 ∧ 0 < S ∧ S ≤ 4096 from ⟨hTp, hT, hS0, hS1⟩)
  clear hi hz0 hz1 hz2 hE hr hGl hOl hG0 hO0 hX hEND hDR hok hp hl hS hS0 hS1 h0 h hB hT hTp
  go_enter Tryd.func8, Tryd.ntmps8
  go_wp2_with fail
  refine HTH.out.mono ?_
  rintro e w1 ⟨rfl, hb1⟩
  have HB1 := Hid.mk' hb1
  clear hb1 HTH
  go_wp2_with fail
  refine (HWE.out w1 HB1.out).mono ?_
  rintro e w2 ⟨rfl, hw2⟩
  obtain rfl := hw2
  clear HWE
  go_wp2_with (at_make; go_must (refine wpList_make_full _ rfl _ _ _ rfl w2.heap.size 3 i0 _ 1 Tryd.underlying22 HINF.out.1 HINF.out.2.1 HINF.out.2.2.1 .i64 .i64 _ _ n rfl rfl (by go_num) (by go_num) (by rw [HINF.out.2.2.2]; omega) (by unfold maxLen; omega) (Nat.le_refl _) ?_; intro w3 hown3 hgrow3; have HF3 := Hid.mk' (fills_made hown3 (made_zero n) hgrow3); clear hown3 hgrow3))
  have HF0 : Hid (Fills w2 w3 w2.heap.size n (fun k => ((G 0 k : Nat) : Int))) := Fills.congrF HF3.out (fun k _ => by rw [HG0.out]; rfl)
  have HO : Hid (O 0 = 0) := HO0.out
  clear HF3 HG0 HO0
  generalize w2.heap.size = g at *
  go_loopw [7, 8] (fun op iv wr => ∃ m : Nat, m ≤ T ∧ iv = .int .i64 m ∧ op = .int .i64 (O m : Nat) ∧ Hid (Fills w2 wr g n (fun k => ((G m k : Nat) : Int)))) (fun _ iv _ => T - (intOf iv).toNat)
  case atStart => exact ⟨0, Nat.zero_le _, rfl, by rw [HO.out]; rfl, HF0⟩
  case round =>
    clear HF0 HO
    obtain ⟨wx, rfl⟩ : ∃ wx, wx = wr := ⟨_, rfl⟩
    obtain ⟨m, hm, rfl, rfl, HF⟩ := hrel
    have hm0 : (0 : Int) ≤ (m : Int) := by omega
    have HBx := Hid.mk' (below_chain HB1.out HF.out.below)
    rcases Nat.lt_or_ge m T with h1 | h1
    · have hmI : (m : Int) < (T : Int) := by omega
      have hm512 : (m : Int) < 512 := by omega
      go_wp2_with fail
      go_loopw [9, 10] (fun r iv wr => ∃ j : Nat, j ≤ B ∧ iv = .int .i64 j ∧ r = .string (txS m j) ∧ Hid (Below wx.heap.size wx wr)) (fun _ iv _ => B - (intOf iv).toNat)
      case atStart => exact ⟨0, Nat.zero_le _, rfl, rfl, Below.refl _ _⟩
      case round =>
        obtain ⟨wy, rfl⟩ : ∃ wy, wy = wr := ⟨_, rfl⟩
        obtain ⟨j, hj, rfl, rfl, HBY⟩ := hrel
        have hj0 : (0 : Int) ≤ (j : Int) := by omega
        rcases Nat.lt_or_ge j B with h2 | h2
        · have hjI : (j : Int) < (B : Int) := by omega
          have HTX : Hid (txS m (j + 1) = txS m j ++ (⟨(Lib.decDigits (m / 2 ^ j % 2)).toArray⟩ : ByteArray)) := by show _ = _; rw [dig_bitF]; rfl
          have HDJ := Hid.mk' (HDC.out (m / 2 ^ j % 2) wy (by omega))
          have hsz : (txS m j).size ≤ 10 := by rw [txS_size]; omega
          rw [← bit_modF] at HDJ
          generalize (⟨(Lib.decDigits (m / 2 ^ j % 2)).toArray⟩ : ByteArray) = Z at *
          have HZS : Hid (Z.size = 1) := by
            have h5 := congrArg ByteArray.size HTX.out
            rw [ByteArray.size_append, txS_size, txS_size] at h5
            show _ = _
            omega
          have hzs : Z.size ≤ 1 := by have := HZS.out; omega
          generalize txS m j = TT at *
          go_wp2_with fail
          refine HDJ.out.mono ?_
          rintro e w5 ⟨rfl, hb5⟩
          have HB5 := Hid.mk' (below_chain HBY.out hb5)
          clear hb5
          go_wp2_with fail
          exact ⟨⟨j + 1, h2, by go_num, by rw [HTX.out], HB5.out⟩, by simp [intOf]; omega⟩
        · obtain rfl : B = j := by omega
          have hjI : ¬ (B : Int) < (B : Int) := by omega
          have HFY := Hid.mk' (HF.out.laterF HBY.out)
          have HBy := Hid.mk' (below_chain HBx.out HBY.out)
          clear HF HBx HBY
          go_wp2_with fail
          refine (HIN.out wy HBy.out).mono ?_
          rintro e w5 ⟨v5, rfl, hv5, hb5⟩
          have HB5 := Hid.mk' (below_chain HBy.out hb5)
          have HF5 := Hid.mk' (HFY.out.laterF hb5)
          have HD5 := Hid.mk' (HDR.out m w5 v5 HB5.out hv5)
          clear hv5 hb5 HFY HBy
          go_wp2_with fail
          refine HD5.out.mono ?_
          have hO := HOL.out m
          have hOI : ((O m : Nat) : Int) ≤ 512 := by omega
          have hO0 : (0 : Int) ≤ ((O m : Nat) : Int) := by omega
          rintro e w6 ⟨⟨rfl, hg, ho⟩ | ⟨k, u, rfl, hg, ho, hk, hu⟩, hb6⟩
          · have HB6 := Hid.mk' (below_chain HB5.out hb6)
            have HF6 := Hid.mk' (HF5.out.laterF hb6)
            have HGS := Hid.mk' hg
            have HOS := Hid.mk' ho
            clear hb6 HB5 HF5 HD5 hg ho
            go_wp2_with fail
            refine (HCD.out _ HB6.out).mono ?_
            rintro e w7 ⟨rfl, hb7⟩
            have HF7 := Hid.mk' (HF6.out.laterF hb7)
            clear hb7 HF6 HB6
            go_wp2_with fail
            exact ⟨⟨m + 1, h1, by go_num, by rw [HOS.out]; go_num, Fills.congrF HF7.out (fun i _ => by rw [HGS.out])⟩, by simp [intOf]; omega⟩
          · have HB6 := Hid.mk' (below_chain HB5.out hb6)
            have HF6 := Hid.mk' (HF5.out.laterF hb6)
            have HGS := Hid.mk' hg
            have HOS := Hid.mk' ho
            have cu := HF6.out.row k hk
            have fu := HF6.out.fz k hk
            rw [Nat.zero_add] at cu fu
            have hgk := HGL.out m k
            have hgI : ((G m k : Nat) : Int) ≤ 512 := by omega
            have hg0 : (0 : Int) ≤ ((G m k : Nat) : Int) := by omega
            have HN := Hid.mk' (HF6.out.set hk ((G m k : Int) + 1) (f' := fun i => ((G (m + 1) i : Nat) : Int)) (fun i _ => by
              rw [HGS.out i]
              by_cases e : i = k
              · rw [if_pos e, if_pos e]; omega
              · rw [if_neg e, if_neg e]))
            have hkI : (k : Int) < (n : Int) := by omega
            have hkJ : ¬ (n : Int) ≤ (k : Int) := by omega
            have hk0 : (0 : Int) ≤ (k : Int) := by omega
            have hkK : ¬ (k : Int) < 0 := by omega
            have hu0 : ¬ (u : Int) < 0 := by omega
            have huI : ¬ (B : Int) < (u : Int) := by omega
            clear hb6 HB5 HF5 HD5 hg ho HF6
            go_wp2_with fail
            exact ⟨⟨m + 1, h1, by go_num, by rw [HOS.out], HN.out⟩, by simp [intOf]; omega⟩
    · obtain rfl : m = T := by omega
      have hmI : ¬ (m : Int) < (m : Int) := by omega
      have hOm := HOL.out m
      have hmT := HT.out
      clear HDR HCD HIN HDC HINF HOL hm0
      have HG3 : Hid (∀ k, k < n → ∀ W, Below wx.heap.size wx W → W.cell? ⟨g, k, none⟩ = some (.int .i64 ((G m k : Nat) : Int))) := fun k hk W hb => by
        have := (HF.out.laterF hb).row k hk
        rwa [Nat.zero_add] at this
      go_wp2_with fail
      go_loopw [14] (fun iv wr => ∃ k : Nat, k ≤ n ∧ iv = .int .i64 k ∧ Hid (Below wx.heap.size wx wr)) (fun iv _ => n - (intOf iv).toNat)
      case atStart => exact ⟨0, Nat.zero_le _, rfl, Below.refl _ _⟩
      case round =>
        obtain ⟨wy, rfl⟩ : ∃ wy, wy = wr := ⟨_, rfl⟩
        obtain ⟨k, hk, rfl, HBY⟩ := hrel
        have hk0 : (0 : Int) ≤ (k : Int) := by omega
        rcases Nat.lt_or_ge k n with h2 | h2
        · have hkI : (k : Int) < (n : Int) := by omega
          have HKG : Hid (∀ W, Below wy.heap.size wy W → W.cell? ⟨g, k, none⟩ = some (.int .i64 ((G m k : Nat) : Int))) := fun W hb => HG3.out k h2 W (below_chain HBY.out hb)
          have HKX : Hid (∀ W, Below wy.heap.size wy W → W.cell? ⟨b, o + k, none⟩ = some (.int .i64 ((X k : Nat) : Int))) := fun W hb => HXC.out k h2 W (below_chain (below_chain HBx.out HBY.out) hb)
          have HSM : Hid (∀ W, Below wy.heap.size wy W → Calls Tryd.prog 32 #[.slice (some ⟨b, o, none⟩) n cap] W fun e w' => e = .returned (.int .i64 (S : Int)) ∧ Below W.heap.size W w') := fun W hb => HSU.out W (below_chain (below_chain HBx.out HBY.out) hb)
          have hgl := HGL.out m k
          have hxl := HXL.out k h2
          obtain ⟨he1, he2⟩ := HEN.out k h2
          have hOm2 := hOm
          generalize G m k = gk at *
          generalize X k = xk at *
          generalize hom : O m = om at *
          obtain ⟨hm1, hm2, hS1, hS2⟩ := hmT
          have HR1 : Hid (∀ W, Calls Tryd.prog 31 #[.int .i64 (gk : Int), .int .i64 (m : Int)] W fun e w' => ∃ r, e = .returned r ∧ LR w' r m (gk : Int) ∧ Below W.heap.size W w') := fun W => RatioOf_to _ m m _ W (by omega) (by omega) hm1 (by omega) hm1 rfl
          have HR2 : Hid (∀ W, Calls Tryd.prog 31 #[.int .i64 (xk : Int), .int .i64 (S : Int)] W fun e w' => ∃ r, e = .returned r ∧ LR w' r S (xk : Int) ∧ Below W.heap.size W w') := fun W => RatioOf_to _ S S _ W (by omega) (by omega) hS1 (by omega) hS1 rfl
          have HR3 : Hid (∀ W, Calls Tryd.prog 31 #[.int .i64 (om : Int), .int .i64 (m : Int)] W fun e w' => ∃ r, e = .returned r ∧ LR w' r m (om : Int) ∧ Below W.heap.size W w') := fun W => RatioOf_to _ m m _ W (by omega) (by omega) hm1 (by omega) hm1 rfl
          have hsg : Sml m (gk : Int) := sml_ofF hm1 (by omega) (by omega)
          have hso : Sml m (om : Int) := sml_ofF hm1 (by omega) (by omega)
          have hsx : Sml S (xk : Int) := sml_ofF hS1 (by omega) (by omega)
          have hsq : Sml m ((gk + om : Nat) : Int) := sml_ofF hm1 (by omega) (by omega)
          have HPL : Hid (∀ W u v, LR W u m (gk : Int) → LR W v m (om : Int) → Calls Tryd.prog 34 #[u, v] W fun e w' => ∃ r, e = .returned r ∧ LR w' r m ((gk + om : Nat) : Int) ∧ Below W.heap.size W w') := fun W u v hu hv => RPlus_to u v m m m _ _ _ W hu hv hsg hso hm1 (by rw [← Int.add_mul, Int.mul_assoc, Int.natCast_add])
          obtain ⟨c1, hc1, HC1⟩ : ∃ c1 : Int, c1 ≤ 0 ∧ Hid (∀ W u v, LR W u m (gk : Int) → LR W v S (xk : Int) → Calls Tryd.prog 33 #[u, v] W fun e w' => e = .returned (.int .i64 c1) ∧ Below W.heap.size W w') := ⟨_, sgn_le (by
            have h5 : ((gk * S : Nat) : Int) ≤ ((xk * m : Nat) : Int) := by exact_mod_cast he1
            rw [Int.natCast_mul, Int.natCast_mul] at h5
            omega), fun W u v hu hv => RCmp_toF u v m S _ _ W hu hv hsg hsx⟩
          obtain ⟨c2, hc2, HC2⟩ : ∃ c2 : Int, 0 ≤ c2 ∧ Hid (∀ W u v, LR W u m ((gk + om : Nat) : Int) → LR W v S (xk : Int) → Calls Tryd.prog 33 #[u, v] W fun e w' => e = .returned (.int .i64 c2) ∧ Below W.heap.size W w') := ⟨_, sgn_ge (by
            have h5 : ((xk * m : Nat) : Int) ≤ (((gk + om) * S : Nat) : Int) := by exact_mod_cast he2
            rw [Int.natCast_mul, Int.natCast_mul] at h5
            omega), fun W u v hu hv => RCmp_toF u v m S _ _ W hu hv hsq hsx⟩
          have hc1n : ¬ (0 : Int) < c1 := by omega
          have hc1d : decide ((0 : Int) < c1) = false := decide_eq_false hc1n
          have hc2n : ¬ c2 < (0 : Int) := by omega
          have hc2d : decide (c2 < (0 : Int)) = false := decide_eq_false hc2n
          have hgI : (gk : Int) ≤ 512 := by omega
          have hxI : (xk : Int) ≤ 4096 := by omega
          have hoI : (om : Int) ≤ 512 := by omega
          clear he1 he2 hgl hxl hOm2 hsg hso hsx hsq hm1 hm2 hS1 hS2 HEN HGL HXL HXC HSU HG3 hc1 hc2
          go_upto_region 25 with fail
          have HKS := HKG
          have HCA : Hid (∀ (W : World), Below wy.heap.size wy W → Calls Tryd.prog 31 #[.int .i64 (gk : Int), .int .i64 (m : Int)] W fun e w' => ∃ r, e = .returned r ∧ LR w' r m (gk : Int) ∧ Below W.heap.size W w') := fun W _ => HR1.out W
          have hcur0 : Below wy.heap.size wy wy := Below.refl _ _
          have hcur : Below wy.heap.size wy wy.drew := (Below.refl _ _).drew
          have hcurA : ∀ X, Below wy.heap.size wy (wy.alloc X).drew := fun X => (new_below _ _).drew
          go_cut [15] from 98 to 132 (fun s' wx => ∃ Bs : Nat, s' = .pointer (some ⟨Bs, 0, none⟩) ∧ Hid (DBx wy wx Bs m (gk : Int)))
          case first =>
            go_region_held3 (fun W => W.cell? ⟨g, k, none⟩ = some (.int .i64 (gk : Int)))
              (first | exact HKS.out _ hcur0 | exact HKS.out _ hcur | exact HKS.out _ (hcurA _) | (refine HKS.out _ ?_; assumption) | (refine HKS.out _ (more_below ?_ _); assumption) | (refine HKS.out _ (set3_below ?_ NB.hB _ _ _); assumption))
              (first
                | (go_at_call 31; refine (HCA.out _ ?hcw).mono ?_; (case hcw => first | exact hcur0 | exact hcur | exact hcurA _); rintro e w151 ⟨rv1, rfl, hrv1, hb1⟩; obtain ⟨sg1, xg1, lg1, cg1, xh1, lh1, ch1, rfl⟩ := hrv1.sl; (first | (have hbw1 := below_chain hcur hb1) | (have hbw1 := below_chain (hcurA _) hb1; have NB := nbx_of hcur0 (below_chain ((Below.refl _ _).drew) hb1))); (try (have y0 := NB.box.c0; have y1 := NB.box.c1; have y2 := NB.box.c2; have y3 := NB.box.fz 0 (by decide); have y4 := NB.box.fz 1 (by decide); have y5 := NB.box.fz 2 (by decide))); have HRV := Hid.mk' hrv1; clear hrv1))
            all_goals
              go_wp2_with fail
              go_meet
              first | exact ⟨_, rfl, dbx_late hbw1 HRV.out⟩ | exact ⟨_, rfl, dbx_soon hbw1 HRV.out NB⟩
          case rest =>
          obtain ⟨Bp, rfl, HRB⟩ := hcut
          obtain ⟨Wp, hWp⟩ : ∃ W, W = wc := ⟨_, rfl⟩
          rw [← hWp] at HRB ⊢
          clear hWp hcur0 hcur hcurA HKS
          have hbx := HRB.out.below
          obtain ⟨sp, xp, lp, cp, yp, mp, kp, hbox⟩ := HRB.out.box
          have HXp := Hid.mk' hbox
          have HBp := Hid.mk' (below_chain HBY.out hbx)
          have HBq := Hid.mk' (hbx)
          have HKX := Hid.mk' (fun W hb => HKX.out W (below_chain hbx hb))
          have HSM := Hid.mk' (fun W hb => HSM.out W (below_chain hbx hb))
          clear hbx hbox HRB
          clear HCA HKG HR1 HBq
          go_upto_region 26 with fail
          have HKS : Hid (∀ W, Below Wp.heap.size Wp W → W.cell? ⟨b, o + k, none⟩ = some (.int .i64 (xk : Int))) := fun W hb => HKX.out W hb
          have HCA : Hid (∀ (W : World), Below Wp.heap.size Wp W → Calls Tryd.prog 32 #[.slice (some ⟨b, o, none⟩) n cap] W fun e w' => e = .returned (.int .i64 (S : Int)) ∧ Below W.heap.size W w') := fun W hb => HSM.out W hb
          have HCB : Hid (∀ (W : World), Below Wp.heap.size Wp W → Calls Tryd.prog 31 #[.int .i64 (xk : Int), .int .i64 (S : Int)] W fun e w' => ∃ r, e = .returned r ∧ LR w' r S (xk : Int) ∧ Below W.heap.size W w') := fun W _ => HR2.out W
          have hcur0 : Below Wp.heap.size Wp Wp := Below.refl _ _
          have hcur : Below Wp.heap.size Wp Wp.drew := (Below.refl _ _).drew
          have hcurA : ∀ X, Below Wp.heap.size Wp (Wp.alloc X).drew := fun X => (new_below _ _).drew
          go_cut [16] from 98 to 132 (fun s' wx => ∃ Bs : Nat, s' = .pointer (some ⟨Bs, 0, none⟩) ∧ Hid (DBx Wp wx Bs S (xk : Int)))
          case first =>
            go_region_held3 (fun W => W.cell? ⟨b, o + k, none⟩ = some (.int .i64 (xk : Int)))
              (first | exact HKS.out _ hcur0 | exact HKS.out _ hcur | exact HKS.out _ (hcurA _) | (refine HKS.out _ ?_; assumption) | (refine HKS.out _ (more_below ?_ _); assumption) | (refine HKS.out _ (set3_below ?_ NB.hB _ _ _); assumption))
              (first
                | (go_at_call 31; (have hz7 := hbw1; clear hz7); refine (HCB.out _ ?hcw).mono ?_; (case hcw => first | exact hcur0 | exact hcur | exact hcurA _ | exact hbw1 | exact more_below hbw1 _); rintro e w162 ⟨rv2, rfl, hrv2, hb2⟩; obtain ⟨sg2, xg2, lg2, cg2, xh2, lh2, ch2, rfl⟩ := hrv2.sl; (first | (have hbw2 := below_chain hbw1 hb2; (try have NB := NB.later hb2)) | (have hbw2 := below_chain (more_below hbw1 _) hb2; have NB := nbx_of hbw1 hb2)); (first | have hq12 : Below w161.heap.size w161 w162 := hb2 | have hq12 : Below w161.heap.size w161 w162 := below_chain (new_below _ _) hb2); (try (have y0 := NB.box.c0; have y1 := NB.box.c1; have y2 := NB.box.c2; have y3 := NB.box.fz 0 (by decide); have y4 := NB.box.fz 1 (by decide); have y5 := NB.box.fz 2 (by decide))); have HRV := Hid.mk' hrv2; clear hrv2)
                | (go_at_call 32; refine (HCA.out _ ?hcw).mono ?_; (case hcw => first | exact hcur0 | exact hcur | exact hcurA _); rintro e w161 ⟨rfl, hb1⟩; (first | (have hbw1 := below_chain hcur hb1) | (have hbw1 := below_chain (hcurA _) hb1; have NB := nbx_of hcur0 (below_chain ((Below.refl _ _).drew) hb1))); skip))
            all_goals
              go_wp2_with fail
              go_meet
              first | exact ⟨_, rfl, dbx_late hbw2 HRV.out⟩ | exact ⟨_, rfl, dbx_soon hbw2 HRV.out NB⟩
          case rest =>
          obtain ⟨Bq, rfl, HRB⟩ := hcut
          obtain ⟨Wq, hWq⟩ : ∃ W, W = wc := ⟨_, rfl⟩
          rw [← hWq] at HRB ⊢
          clear hWq hcur0 hcur hcurA HKS
          have hbx := HRB.out.below
          obtain ⟨sq, xq, lq, cq, yq, mq, kq, hbox⟩ := HRB.out.box
          have HXq := Hid.mk' hbox
          have HBq := Hid.mk' (below_chain HBp.out hbx)
          have HXp := Hid.mk' (HXp.out.later hbx)
          clear hbx hbox HRB
          clear HCA HCB HKX HSM HR2 HBp
          have HKS : Hid (∀ W, Below Wq.heap.size Wq W → (W.cell? ⟨Bp, 0, none⟩ = some (.bool sp) ∧ W.cell? ⟨Bp, 1, none⟩ = some (.slice xp lp cp) ∧ W.cell? ⟨Bp, 2, none⟩ = some (.slice yp mp kp)) ∧ (W.cell? ⟨Bq, 0, none⟩ = some (.bool sq) ∧ W.cell? ⟨Bq, 1, none⟩ = some (.slice xq lq cq) ∧ W.cell? ⟨Bq, 2, none⟩ = some (.slice yq mq kq))) := fun W hb => ⟨⟨(HXp.out.later hb).c0, (HXp.out.later hb).c1, (HXp.out.later hb).c2⟩, ⟨(HXq.out.later hb).c0, (HXq.out.later hb).c1, (HXq.out.later hb).c2⟩⟩
          have HCA : Hid (∀ W, Below Wq.heap.size Wq W → Calls Tryd.prog 33 #[.agg #[.bool sp, .slice xp lp cp, .slice yp mp kp], .agg #[.bool sq, .slice xq lq cq, .slice yq mq kq]] W fun e w' => e = .returned (.int .i64 c1) ∧ Below W.heap.size W w') := fun W hb => HC1.out W _ _ (HXp.out.later hb).rat (HXq.out.later hb).rat
          have HCB : Hid (∀ W v, Below Wq.heap.size Wq W → LR W v m (om : Int) → Calls Tryd.prog 34 #[.agg #[.bool sp, .slice xp lp cp, .slice yp mp kp], v] W fun e w' => ∃ r, e = .returned r ∧ LR w' r m ((gk + om : Nat) : Int) ∧ Below W.heap.size W w') := fun W v hb hv => HPL.out W _ v (HXp.out.later hb).rat hv
          have HCC : Hid (∀ W u, Below Wq.heap.size Wq W → LR W u m ((gk + om : Nat) : Int) → Calls Tryd.prog 33 #[u, .agg #[.bool sq, .slice xq lq cq, .slice yq mq kq]] W fun e w' => e = .returned (.int .i64 c2) ∧ Below W.heap.size W w') := fun W u hb hu => HC2.out W u _ hu (HXq.out.later hb).rat
          have hcur0 : Below Wq.heap.size Wq Wq := Below.refl _ _
          have hcur : Below Wq.heap.size Wq Wq.drew := (Below.refl _ _).drew
          clear HXp HXq HPL HC1 HC2
          go_upto_region 27 with fail
          go_region_held3 (fun W => (W.cell? ⟨Bp, 0, none⟩ = some (.bool sp) ∧ W.cell? ⟨Bp, 1, none⟩ = some (.slice xp lp cp) ∧ W.cell? ⟨Bp, 2, none⟩ = some (.slice yp mp kp)) ∧ (W.cell? ⟨Bq, 0, none⟩ = some (.bool sq) ∧ W.cell? ⟨Bq, 1, none⟩ = some (.slice xq lq cq) ∧ W.cell? ⟨Bq, 2, none⟩ = some (.slice yq mq kq)))
            (first | exact HKS.out _ hcur0 | exact HKS.out _ hcur | (refine HKS.out _ ?_; assumption))
            (first
              | (go_at_call 33; (have hz7 := hbw3; clear hz7); refine (HCC.out _ _ hbw3 HV3.out).mono ?_; rintro e w274 ⟨rfl, hb4⟩; have hbw4 := below_chain hbw3 hb4; clear hb4)
              | (go_at_call 34; refine (HCB.out _ _ hbw2 HV2.out).mono ?_; rintro e w273 ⟨rv3, rfl, hrv3, hb3⟩; obtain ⟨sg3, xg3, lg3, cg3, xh3, lh3, ch3, rfl⟩ := hrv3.sl; have hbw3 := below_chain hbw2 hb3; have HV3 := Hid.mk' hrv3; clear hrv3 hb3)
              | (go_at_call 31; refine (HR3.out _).mono ?_; rintro e w272 ⟨rv2, rfl, hrv2, hb2⟩; obtain ⟨sg2, xg2, lg2, cg2, xh2, lh2, ch2, rfl⟩ := hrv2.sl; have hbw2 := below_chain hbw1 hb2; have HV2 := Hid.mk' hrv2; clear hrv2 hb2)
              | (go_at_call 33; refine (HCA.out _ hcur).mono ?_; rintro e w271 ⟨rfl, hb1⟩; have hbw1 := below_chain hcur hb1; clear hb1))
          all_goals
            go_wp2_with fail
            exact ⟨⟨k + 1, h2, by go_num, below_chain HBq.out hbw4⟩, by simp [intOf]; omega⟩
        · obtain rfl : k = n := by omega
          have hkI : ¬ ((k : Int) < (k : Int)) := by omega
          go_wp2_with fail
          go_ret
          exact ⟨rfl, below_chain HBx.out HBY.out⟩
end Go.Proofs.YtobmngkaoahmiaaDoor

/- SampleFair: all it may be called with. -/
namespace Go.Proofs.YtobmngkaoahmiaaDoor
open Go.RowKit

set_option maxRecDepth 100000 in
set_option maxHeartbeats 4000000 in
theorem Sfr_few (a : Nat → Addr) (ad : Option Addr) (n cap : Nat) (x : Int) (w : World) (hE : Errs w a) (hm : n ≤ maxLen) (hq : 16 < n) :
    Calls Tryd.prog 8 #[.slice ad n cap, .int .i64 x] w fun e w' => e = .returned (.bool true) ∧ Below w.heap.size w w' := by
  have HTH := Hid.mk' (third_any a w hE)
  unfold maxLen at hm
  have hmI : (n : Int) ≤ 9223372036854775807 := by omega
  have hqI : (16 : Int) < (n : Int) := by omega
  have hqd : decide ((16 : Int) < (n : Int)) = true := decide_eq_true hqI
  clear hE
  go_enter Tryd.func8, Tryd.ntmps8
  go_wp2_with fail
  refine HTH.out.mono ?_
  rintro e w2 ⟨rfl, hb2⟩
  have HB2 := Hid.mk' hb2
  clear hb2 HTH
  go_wp2_with fail
  go_ret
  exact ⟨rfl, HB2.out⟩
set_option maxRecDepth 100000 in
set_option maxHeartbeats 4000000 in
theorem Sfr_bad (a : Nat → Addr) (ad : Option Addr) (n cap : Nat) (z : Nat → Int) (x : Int) (w : World) (hE : Errs w a) (h : NumsAt w (.slice ad n cap) n z) (hq : n ≤ 16) (h0 : weightsErr z n ≠ 0) :
    Calls Tryd.prog 8 #[.slice ad n cap, .int .i64 x] w fun e w' => e = .returned (.bool true) ∧ Below w.heap.size w w' := by
  have HTH := Hid.mk' (third_any a w hE)
  have hqI : ¬ (16 : Int) < (n : Int) := by omega
  have hqd : decide ((16 : Int) < (n : Int)) = false := decide_eq_false hqI
  have HWE := Hid.mk' (fun (W : World) (hb : Below w.heap.size w W) => WeightsError_any (.slice ad n cap) n z W (h.later hb) (by omega))
  have hpos : (0 : Int) < ((weightsErr z n : Nat) : Int) := by omega
  generalize weightsErr z n = ce at *
  clear hE h h0
  go_enter Tryd.func8, Tryd.ntmps8
  go_wp2_with fail
  refine HTH.out.mono ?_
  rintro e w2 ⟨rfl, hb2⟩
  have HB1 := Hid.mk' hb2
  clear hb2 HTH
  go_wp2_with fail
  refine (HWE.out w2 HB1.out).mono ?_
  rintro e w3 ⟨rfl, hw3⟩
  rw [hw3]
  clear hw3 HWE
  go_wp2_with fail
  go_ret
  exact ⟨rfl, HB1.out⟩
set_option maxRecDepth 100000 in
set_option maxHeartbeats 4000000 in
theorem Sfr_out (a : Nat → Addr) (ad : Option Addr) (n cap : Nat) (z : Nat → Int) (x : Int) (w : World) (hE : Errs w a) (h : NumsAt w (.slice ad n cap) n z) (hq : n ≤ 16) (h0 : weightsErr z n = 0) (hx : x < 0 ∨ 9 < x) :
    Calls Tryd.prog 8 #[.slice ad n cap, .int .i64 x] w fun e w' => e = .returned (.bool true) ∧ Below w.heap.size w w' := by
  have HTH := Hid.mk' (third_any a w hE)
  have hqI : ¬ (16 : Int) < (n : Int) := by omega
  have hqd : decide ((16 : Int) < (n : Int)) = false := decide_eq_false hqI
  have HWE := Hid.mk' (fun (W : World) (hb : Below w.heap.size w W) => WeightsError_any (.slice ad n cap) n z W (h.later hb) (by omega))
  rw [h0] at HWE
  clear hE h h0
  rcases hx with hx | hx
  · go_enter Tryd.func8, Tryd.ntmps8
    go_wp2_with fail
    refine HTH.out.mono ?_
    rintro e w2 ⟨rfl, hb2⟩
    have HB1 := Hid.mk' hb2
    clear hb2 HTH
    go_wp2_with fail
    refine (HWE.out w2 HB1.out).mono ?_
    rintro e w3 ⟨rfl, hw3⟩
    rw [hw3]
    clear hw3 HWE
    go_wp2_with fail
    go_ret
    exact ⟨rfl, HB1.out⟩
  · have hx0 : ¬ x < 0 := by omega
    go_enter Tryd.func8, Tryd.ntmps8
    go_wp2_with fail
    refine HTH.out.mono ?_
    rintro e w2 ⟨rfl, hb2⟩
    have HB1 := Hid.mk' hb2
    clear hb2 HTH
    go_wp2_with fail
    refine (HWE.out w2 HB1.out).mono ?_
    rintro e w3 ⟨rfl, hw3⟩
    rw [hw3]
    clear hw3 HWE
    go_wp2_with fail
    go_ret
    exact ⟨rfl, HB1.out⟩
theorem SampleFair_all (a : Nat → Addr) (ad : Option Addr) (n cap : Nat) (z : Nat → Int) (x : Int) (w : World) (hE : Errs w a) (h : NumsAt w (.slice ad n cap) n z) (hm : n ≤ maxLen) :
    Calls Tryd.prog 8 #[.slice ad n cap, .int .i64 x] w fun e w' => e = .returned (.bool true) ∧ Below w.heap.size w w' := by
  by_cases hq : 16 < n
  · exact Sfr_few a ad n cap x w hE hm hq
  · by_cases h0 : weightsErr z n = 0
    · by_cases hx : x < 0 ∨ 9 < x
      · exact Sfr_out a ad n cap z x w hE h (by omega) h0 hx
      · obtain ⟨B, rfl⟩ : ∃ B : Nat, x = (B : Int) := ⟨x.toNat, by omega⟩
        exact Sfr_ok a ad n cap B z w hE h h0 (by omega)
    · exact Sfr_bad a ad n cap z x w hE h (by omega) h0
end Go.Proofs.YtobmngkaoahmiaaDoor

/- What the rows' condition on package variables gives a walk: eight different sentinels with their texts, and the handle of the type error; the tables of unicode/utf8 are listed besides. -/
namespace Go.Proofs.YtobmngkaoahmiaaDoor
open Go.ChangeShapes Go.WideShapes Go.RowKit

theorem Tryd.own : ownKnob Tryd.prog.godebug = none := by kernel_rfl
theorem Tryd.et : Tryd.prog.globalNamed "errors.errorType" = some 8 := by kernel_rfl
theorem Tryd.rt : (Tryd.prog.cutTypes.find? (·.1 == "internal/reflectlite.rtype")).map (·.2) = some 157 := by kernel_rfl
theorem Tryd.oneRow : ((List.range 212).filter fun t => Tryd.prog.rowNamed t [101, 114, 114, 111, 114]) = [29] := by kernel_rfl
theorem Tryd.size : Tryd.prog.types.size = 212 := by kernel_rfl
theorem Tryd.star : ("*" ++ "errors.errorString" : String) = "*errors.errorString" := by decide
theorem Tryd.rowE (u : TypeId) (h : Tryd.prog.typeName? 3 u = some "*errors.errorString") : u = 179 :=
  typeName_ptr_named (nm := "errors.errorString") (by rw [Tryd.star]; kernel_rfl) (by kernel_rfl) (by decide) u (by rw [Tryd.star]; exact h)
theorem Tryd.cellsE : Tryd.prog.cellsOf 200 = 1 := by kernel_rfl
theorem Tryd.cellsS : Tryd.prog.cellsOf 9 = 1 := by kernel_rfl
theorem Tryd.g0 : Tryd.prog.globalNamed "demon/api.ErrText" = some 4 := by kernel_rfl
theorem Tryd.g1 : Tryd.prog.globalNamed "demon/api.ErrBound" = some 1 := by kernel_rfl
theorem Tryd.g2 : Tryd.prog.globalNamed "demon/api.ErrShape" = some 2 := by kernel_rfl
theorem Tryd.g3 : Tryd.prog.globalNamed "demon/api.ErrZero" = some 5 := by kernel_rfl
theorem Tryd.g4 : Tryd.prog.globalNamed "demon/api.ErrName" = some 6 := by kernel_rfl
theorem Tryd.g5 : Tryd.prog.globalNamed "demon/api.ErrNone" = some 0 := by kernel_rfl
theorem Tryd.g6 : Tryd.prog.globalNamed "demon/api.ErrOrder" = some 3 := by kernel_rfl
theorem Tryd.g7 : Tryd.prog.globalNamed "demon/api.ErrKind" = some 7 := by kernel_rfl

/-- Any number of listed sentinels of one type: each one's pointer, text and row; no two are one. -/
theorem laid_list {P : Program} {W : World} {nm : String} {ti tp te ts : TypeId} {ms : Array (String × TypeId)} {f : Field}
    (hi : P.underlying ti = some (.interface ms)) (hrow : ∀ u, P.typeName? 3 u = some nm → u = tp)
    (hp : P.underlying tp = some (.pointer te)) (he : P.underlying te = some (.struct #[f])) (hft : f.type = ts) (hfo : f.offset = 0) (hs : P.underlying ts = some .string) (hc : P.cellsOf te = 1) (hcs : P.cellsOf ts = 1) :
    ∀ (L : List (String × List UInt8)) (ps : List MemPlace), (∀ x, x ∈ L → ∃ g, P.globalNamed x.1 = some g ∧ (P.globals[g]?).map (·.type) = some ti) →
      DataW.LaidVars P W (L.map fun x => (x.1, .iface nm (.ptr (.agg [.lit (.string x.2)])))) ps → ps.Nodup →
      (∀ b off, MemPlace.cell b off ∈ ps → (∃ c t, W.heap[b]? = some (.cells c t (0, 0))) ∧ ∀ u v, W.cell? ⟨b, off, none⟩ = some (.iface u v) → Value.okWide P W .any 0 u v) →
      ∃ a : Nat → Addr, (∀ i x, L[i]? = some x → W.var? P x.1 = some #[.iface tp (.pointer (some (a i)))] ∧ (∃ s, W.cell? (a i) = some (.string s) ∧ s.data.toList = x.2) ∧
          (∃ c t, W.heap[(a i).block]? = some (.cells c t (0, 0))) ∧ MemPlace.cell (a i).block (a i).off ∈ ps) ∧
        ∀ i j, i < L.length → j < L.length → i ≠ j → a i ≠ a j := by
  intro L
  induction L with
  | nil => intro ps _ _ _ _; exact ⟨fun _ => default, fun i x h => by simp at h, fun i j h => by simp at h⟩
  | cons x r ih =>
    intro ps hgs hv hnd hrows
    obtain ⟨n, text⟩ := x
    obtain ⟨g0, t0, cs0, f0, p0, q0, hg0, ht0, hv0, hd0, hvr, e0⟩ := hv
    obtain ⟨g, hg, ht⟩ := hgs (n, text) (List.mem_cons_self ..)
    obtain rfl := Option.some.inj (hg.symm.trans hg0)
    obtain rfl := Option.some.inj (ht.symm.trans ht0)
    subst e0
    obtain ⟨l0⟩ := cs0
    have ok0 : ∀ u v, l0 = [.iface u v] → Value.okWide P W .any 0 u v := fun u v e => by
      subst e
      exact (hrows g 0 (by simp [MemPlace.row])).2 u v (by simpa using World.var?_cell hg0 hv0 0)
    obtain ⟨a0, s0, rfl, hc0, hs0, hz0, rfl⟩ := errorString_of_trod hi hrow hp he hft hfo hs hc hcs hd0 ok0
    obtain ⟨c0, tt0, hb0⟩ := (hrows a0.block a0.off (by simp [MemPlace.row])).1
    have hnq : q0.Nodup := List.Nodup.sublist (List.sublist_append_right _ _) hnd
    obtain ⟨a', ha', hne'⟩ := ih q0 (fun x hx => hgs x (List.mem_cons_of_mem _ hx)) hvr hnq (fun b off hm => hrows b off (List.mem_append_right _ hm))
    have hnot : MemPlace.cell a0.block a0.off ∉ q0 := by
      intro hm
      have := (List.nodup_append.1 hnd).2.2
      exact this (.cell a0.block a0.off) (by simp [MemPlace.row]) (.cell a0.block a0.off) hm rfl
    refine ⟨fun i => match i with | 0 => a0 | k + 1 => a' k, ?_, ?_⟩
    · intro i x hx
      cases i with
      | zero =>
        simp only [List.getElem?_cons_zero, Option.some.injEq] at hx
        subst hx
        exact ⟨hv0, ⟨s0, hc0, hs0⟩, ⟨c0, tt0, hb0⟩, by simp [MemPlace.row]⟩
      | succ k =>
        simp only [List.getElem?_cons_succ] at hx
        obtain ⟨h1, h2, h3, h4⟩ := ha' k x hx
        exact ⟨h1, h2, h3, List.mem_append_right _ h4⟩
    · have far : ∀ k, k < r.length → a0 ≠ a' k := fun k hk e => by
        obtain ⟨_, _, _, h4⟩ := ha' k r[k] (by simp [hk])
        rw [← e] at h4
        exact hnot h4
      intro i j hi' hj' hij
      cases i with
      | zero =>
        cases j with
        | zero => exact absurd rfl hij
        | succ k => exact far k (by simpa using hj')
      | succ m =>
        cases j with
        | zero => exact (far m (by simpa using hi')).symm
        | succ k => exact hne' m k (by simpa using hi') (by simpa using hj') (by omega)

/-- The names and texts, in the rows' order. -/
def eightNames : List (String × List UInt8) := [("demon/api.ErrText", [100, 101, 109, 111, 110, 58, 32, 116, 101, 120, 116]), ("demon/api.ErrBound", [100, 101, 109, 111, 110, 58, 32, 98, 111, 117, 110, 100]), ("demon/api.ErrShape", [100, 101, 109, 111, 110, 58, 32, 115, 104, 97, 112, 101]), ("demon/api.ErrZero", [100, 101, 109, 111, 110, 58, 32, 122, 101, 114, 111]), ("demon/api.ErrName", [100, 101, 109, 111, 110, 58, 32, 110, 97, 109, 101]), ("demon/api.ErrNone", [100, 101, 109, 111, 110, 58, 32, 110, 111, 110, 101]), ("demon/api.ErrOrder", [100, 101, 109, 111, 110, 58, 32, 111, 114, 100, 101, 114]), ("demon/api.ErrKind", [100, 101, 109, 111, 110, 58, 32, 107, 105, 110, 100])]
def laidAll : List (String × DataW Unit) := [("unicode/utf8.acceptRanges", Rows.laid_unicode_utf8_acceptRanges), ("errors.errorType", Rows.laid_errors_errorType), ("demon/api.ErrText", Rows.laid_demon_api_ErrText), ("demon/api.ErrBound", Rows.laid_demon_api_ErrBound), ("demon/api.ErrShape", Rows.laid_demon_api_ErrShape), ("demon/api.ErrZero", Rows.laid_demon_api_ErrZero), ("demon/api.ErrName", Rows.laid_demon_api_ErrName), ("demon/api.ErrNone", Rows.laid_demon_api_ErrNone), ("demon/api.ErrOrder", Rows.laid_demon_api_ErrOrder), ("demon/api.ErrKind", Rows.laid_demon_api_ErrKind), ("unicode/utf8.first", Rows.laid_unicode_utf8_first)]
theorem laidAll_parts (W : World) : laidMetH Tryd.prog laidAll W = (laidMet Tryd.prog ([("unicode/utf8.acceptRanges", Rows.laid_unicode_utf8_acceptRanges)] ++ ((eightNames.map fun x => (x.1, .iface "*errors.errorString" (.ptr (.agg [.lit (.string x.2)])))) ++ [("unicode/utf8.first", Rows.laid_unicode_utf8_first)])) W ∧ handlesMet Tryd.prog [("errors.errorType", Rows.laid_errors_errorType)] W) := by kernel_rfl

theorem var_at {W : World} {n : String} {g : Nat} {v : Value} (hg : Tryd.prog.globalNamed n = some g) (h : W.var? Tryd.prog n = some #[v]) : W.cell? ⟨g, 0, none⟩ = some v := by
  simpa using World.var?_cell hg h 0

theorem laid_tail {P : Program} {W : World} {x : String × DataW Unit} {L : List (String × DataW Unit)} (h : laidMet P (x :: L) W) : laidMet P L W := by
  obtain ⟨n, d⟩ := x
  obtain ⟨ps, hv, hnd, hrows⟩ := h
  obtain ⟨g, t, cs, f, p, q, _, _, _, _, hvr, e⟩ := hv
  subst e
  exact ⟨q, hvr, List.Nodup.sublist (List.sublist_append_right _ _) hnd, fun b off hm => hrows b off (List.mem_append_right _ hm)⟩
theorem vars_front {P : Program} {W : World} : ∀ (L B : List (String × DataW Unit)) (ps : List MemPlace), DataW.LaidVars P W (L ++ B) ps → ∃ p1 p2, ps = p1 ++ p2 ∧ DataW.LaidVars P W L p1
  | [], B, ps, _ => ⟨[], ps, rfl, rfl⟩
  | (n, d) :: L, B, ps, h => by
    obtain ⟨g, t, cs, f, p, q, h1, h2, h3, h4, hvr, e⟩ := h
    obtain ⟨p1, p2, e2, h5⟩ := vars_front L B q hvr
    exact ⟨(MemPlace.row ⟨g, 0, none⟩ cs.size ++ p) ++ p1, p2, by rw [e, e2, ← List.append_assoc], g, t, cs, f, p, p1, h1, h2, h3, h4, h5, rfl⟩
theorem laid_front {P : Program} {W : World} {L B : List (String × DataW Unit)} (h : laidMet P (L ++ B) W) : laidMet P L W := by
  obtain ⟨ps, hv, hnd, hrows⟩ := h
  obtain ⟨p1, p2, e, h5⟩ := vars_front L B ps hv
  subst e
  exact ⟨p1, h5, List.Nodup.sublist (List.sublist_append_left _ _) hnd, fun b off hm => hrows b off (List.mem_append_left _ hm)⟩
theorem errs_of_laid {W : World} (h : laidMetH Tryd.prog laidAll W) : ∃ a : Nat → Addr, Errs W a ∧ ∀ i x, eightNames[i]? = some x → ∃ s, W.cell? (a i) = some (.string s) ∧ s.data.toList = x.2 := by
  rw [laidAll_parts] at h
  obtain ⟨hl0, hh⟩ := h
  obtain ⟨ps, hv, hnd, hrows⟩ := laid_front (L := eightNames.map fun x => (x.1, .iface "*errors.errorString" (.ptr (.agg [.lit (.string x.2)])))) (laid_tail hl0)
  obtain ⟨name, u, ty, e1, e2, e3, e4, e5⟩ := hh _ (List.mem_singleton.2 rfl)
  have en : name = [101, 114, 114, 111, 114] := (Option.some.inj e1).symm
  subst en
  obtain rfl := Option.some.inj (Tryd.rt.symm.trans e2)
  have hm : ty ∈ (List.range 212).filter fun t => Tryd.prog.rowNamed t [101, 114, 114, 111, 114] := List.mem_filter.2 ⟨List.mem_range.2 (by rw [← Tryd.size]; exact e3), e4⟩
  rw [Tryd.oneRow] at hm
  obtain rfl := List.mem_singleton.1 hm
  have hth : typeHandle Tryd.prog 29 = .pointer (some ⟨12, 29, none⟩) := by kernel_rfl
  rw [hth] at e5
  obtain ⟨a, ha, hne⟩ := laid_list Tryd.underlying29 Tryd.rowE Tryd.underlying179 Tryd.underlying200 rfl rfl Tryd.underlying9 Tryd.cellsE Tryd.cellsS eightNames ps
    (fun x hx => by
      simp only [eightNames, List.mem_cons, List.not_mem_nil, or_false] at hx
      rcases hx with rfl | rfl | rfl | rfl | rfl | rfl | rfl | rfl
      · exact ⟨_, Tryd.g0, by kernel_rfl⟩
      · exact ⟨_, Tryd.g1, by kernel_rfl⟩
      · exact ⟨_, Tryd.g2, by kernel_rfl⟩
      · exact ⟨_, Tryd.g3, by kernel_rfl⟩
      · exact ⟨_, Tryd.g4, by kernel_rfl⟩
      · exact ⟨_, Tryd.g5, by kernel_rfl⟩
      · exact ⟨_, Tryd.g6, by kernel_rfl⟩
      · exact ⟨_, Tryd.g7, by kernel_rfl⟩) hv hnd hrows
  refine ⟨a, ⟨var_at Tryd.g0 (ha 0 _ rfl).1, var_at Tryd.g1 (ha 1 _ rfl).1, var_at Tryd.g2 (ha 2 _ rfl).1, var_at Tryd.g3 (ha 3 _ rfl).1, var_at Tryd.g4 (ha 4 _ rfl).1, var_at Tryd.g5 (ha 5 _ rfl).1, var_at Tryd.g6 (ha 6 _ rfl).1, var_at Tryd.g7 (ha 7 _ rfl).1, var_at Tryd.et e5, ?_, ?_⟩, fun i x hx => (ha i x hx).2.1⟩
  · intro i hi
    have hl : eightNames.length = 8 := rfl
    exact (ha i eightNames[i] (List.getElem?_eq_getElem (by omega))).2.2.1
  · intro i j hi hj hij
    exact hne i j hi hj hij

/-- The door's own heap meets the condition. -/
theorem door_met (os : Os) (args : Array Value) : laidMetH Tryd.prog laidAll ((World.layVars Tryd.prog (World.doorLaid Tryd.prog 178 os) [("unicode/utf8.first", Rows.laid_unicode_utf8_first)]).forCall (fun _ _ => 0) ⟨#[], args, []⟩).memory :=
  laidMetH_of_parts3 (fuel := 8) (laidMet_of_run' 8 (by kernel_rfl) (by kernel_rfl)) (by kernel_rfl) (by kernel_rfl)
end Go.Proofs.YtobmngkaoahmiaaDoor

/- A parameter of type []int opened. -/
namespace Go.Proofs.YtobmngkaoahmiaaDoor
open Go.ChangeShapes Go.WideShapes Go.ChangeAt Go.RowKit Go.Joins Go.Deep

theorem Tryd.laidOut : laidOutB Tryd.prog = true := by kernel_rfl
theorem Tryd.cellsInt : Tryd.prog.cellsOf 3 = 1 := by kernel_rfl
theorem Tryd.cellsInts : Tryd.prog.cellsOf 22 = 1 := by kernel_rfl

set_option maxRecDepth 100000 in
/-- What a parameter of type []int gives: its slice, its numbers. -/
theorem open_nums {H : Type} {enc : TypeId × Value → H} {W : World} {base : Nat} {v : Value} {d : DataW H} {p : List MemPlace} (hv : Value.okWide Tryd.prog W .any base 22 v)
    (h : DataW.Trod enc Tryd.prog W 0 (fun _ => true) true 22 v d p) :
    ∃ (ad : Option Addr) (n cap : Nat) (z : Nat → Int), v = .slice ad n cap ∧ n ≤ maxLen ∧ NumsAt W (.slice ad n cap) n z := by
  obtain ⟨ad, n, cap, rfl⟩ := okWide_slice Tryd.underlying22 hv
  obtain ⟨fuel, hf⟩ := h
  rcases open_ints Tryd.underlying22 Tryd.underlying3 Tryd.cellsInt hf with ⟨hc, _⟩ | ⟨a, len, cap', zs, hc, _, hl, hm, hz, _, hcell, _⟩
  · simp [Value.cells] at hc
    obtain ⟨rfl, rfl, rfl⟩ := hc
    exact ⟨none, 0, 0, fun _ => 0, rfl, Nat.zero_le _, Or.inl ⟨none, 0, rfl, rfl⟩⟩
  · simp [Value.cells] at hc
    obtain ⟨rfl, rfl, rfl⟩ := hc
    simp only [if_true] at hz
    rcases Nat.eq_zero_or_pos n with rfl | hpos
    · exact ⟨some a, 0, cap, fun _ => 0, rfl, Nat.zero_le _, Or.inl ⟨some a, cap, rfl, rfl⟩⟩
    · obtain ⟨b, o, spot⟩ := a
      have hspot : spot = none := by simpa [Addr.add] using World.cell?_spot (hcell 0 (by omega))
      subst hspot
      refine ⟨_, n, cap, fun i => zs.getD i 0, rfl, by omega, Or.inr ⟨b, o, cap, rfl, hpos, fun i hi => ?_⟩⟩
      have := hcell i (by omega)
      rw [Go.Proofs.YtobmngkaoahmiaaDoor.add_plain] at this
      exact this
end Go.Proofs.YtobmngkaoahmiaaDoor
