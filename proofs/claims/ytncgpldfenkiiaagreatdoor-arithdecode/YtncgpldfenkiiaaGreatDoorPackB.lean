/- The document's DecodeMessage. -/
import Derived.Test.YtncgpldfenkiiaaGreatDoorDecodeP
import Derived.Test.YtncgpldfenkiiaaGreatDoorDecM
import Derived.Test.YtncgpldfenkiiaaGreatDoorValueD
import Derived.Test.YtncgpldfenkiiaaGreatDoorPackA
import Derived.Test.YtncgpldfenkiiaaGreatDoorIntervalP
import Derived.Test.YtncgpldfenkiiaaGreatDoorCode
import Derived.Test.YtncgpldfenkiiaaGreatDoorWeights
import Derived.Test.YtncgpldfenkiiaaGreatDoorInts
import Derived.BigQuiet
import Derived.Test.YtncgpldfenkiiaaGreatDoorWordsD
import Derived.Test.YtncgpldfenkiiaaGreatDoorRows
import Derived.ChangeSame
import Derived.ChangeVars
import Derived.JoinedOf
import Derived.LaidLaws
import Derived.LaidHandle
import Derived.LaidMore
import Derived.Stop.Joined
import Derived.Lay
import Derived.Test.YtncgpldfenkiiaaGreatDoorCards
import Derived.Test.YtncgpldfenkiiaaGreatDoorTie
import Derived.SevenTiedAt
import Derived.ProofKit
import Derived.OpenShut
import Derived.ChangeOld
import Derived.Lib.SmallJoins
import Derived.Deep.Matrix
namespace Go.Proofs.YtncgpldfenkiiaaGreatDoor
open Go.RowKit

theorem own_no_box {w : World} {base : Nat} {t : TypeId} {v : Value} {n B : Nat} {l : List Int} {b : Bool} (hn : l.length = n) (h : w.ownsRow base t 1 v n (cellL l)) (hsp : Spare0 w v n) (hc : w.cell? ⟨B, 0, none⟩ = some (.bool b)) : v.ownBlock ≠ some B := fun e => by
  rcases Nat.eq_zero_or_pos n with h0 | h0
  · have := hsp B e 0 _ (by omega) hc
    cases this
  · obtain ⟨g, cap, rfl, _, _⟩ := h.form h0
    obtain rfl : g = B := by simpa [Value.ownBlock] using e
    cases l with
    | nil => simp at hn; omega
    | cons x r =>
      have := h.cells (g := g) rfl 0 (.int .i64 x) (by simp [cellL])
      rw [add_plain, Nat.zero_add, hc] at this
      cases this
theorem Spare0.aside {w : World} {v : Value} {n : Nat} (h : Spare0 w v n) (p : Addr) (y : Value) (hne : v.ownBlock ≠ some p.block) : Spare0 (w.setCell p y) v n := fun g hg j x hj hx => by
  refine h g hg j x hj ?_
  rw [World.cell?_setCell_other _ _ _ _ (fun e => hne (by rw [hg, e]))] at hx
  exact hx
theorem own_aside {w : World} {base : Nat} {t : TypeId} {sz : Nat} {v : Value} {n : Nat} {xs : List Value} (h : w.ownsRow base t sz v n xs) (a : Addr) (x : Value) (hne : v.ownBlock ≠ some a.block) : (w.setCell a x).ownsRow base t sz v n xs := by
  refine ⟨h.1, ?_⟩
  rcases h.2 with hn | ⟨g, cap, cur, hv, hg, hh, rest⟩
  · exact Or.inl hn
  · refine Or.inr ⟨g, cap, cur, hv, hg, ?_, rest⟩
    rw [Below.heap_setCell _ _ _ _ (fun e => hne (by rw [hv, ← e]; rfl))]
    exact hh
theorem own_then {w w' : World} {base : Nat} {t : TypeId} {sz : Nat} {v : Value} {n : Nat} {xs : List Value} (h : w.ownsRow base t sz v n xs) (hb : Below w.heap.size w w') : w'.ownsRow base t sz v n xs := by
  obtain ⟨hl, hr⟩ := h
  refine ⟨hl, ?_⟩
  rcases hr with hr | ⟨g, cap, cur, hv, hb1, hh, rest⟩
  · exact Or.inl hr
  · exact Or.inr ⟨g, cap, cur, hv, hb1, by rw [hb.block g (heap_lt hh)]; exact hh, rest⟩
/-- A row of another kind beside the one that is grown. -/
theorem low_pos_nat {S Z : Nat} (hZ : 0 < Z) : ∃ m : Nat, 0 < m ∧ lowN S (Z : Int) = (m : Int) := by
  have hg : 0 < Nat.gcd Z S := Nat.gcd_pos_of_pos_left _ hZ
  refine ⟨Z / Nat.gcd Z S, Nat.div_pos (Nat.le_of_dvd hZ (Nat.gcd_dvd_left _ _)) hg, ?_⟩
  unfold lowN lowG
  rw [Int.natAbs_natCast]
  exact (Int.ofNat_tdiv Z (Nat.gcd Z S)).symm
theorem RBox.grown {w w' : World} {b : Nat} {s : Bool} {x : Option Addr} {l c : Nat} {x' : Option Addr} {l' c' : Nat} {n : Int} {d : Nat} {row : Option Nat} (h : RBox w b s x l c x' l' c' n d) (hne : row ≠ some b) (hg : w.grownBy w' row) (hK : ∀ u N, BigAt w u N → BigAt w' u N) : RBox w' b s x l c x' l' c' n d := by
  have far : ∀ j y, w.cell? ⟨b, j, none⟩ = some y → w'.cell? ⟨b, j, none⟩ = some y := fun j y hx => by
    rw [hg.cell_far _ (cell_lt hx) (fun e => hne e.symm)]; exact hx
  obtain ⟨u, q, hv, hu, hq⟩ := h.rat
  refine ⟨far 0 _ h.c0, far 1 _ h.c1, far 2 _ h.c2, ⟨u, q, hv, hK _ _ hu, hK _ _ hq⟩, fun j hj => ?_⟩
  rw [hg.frozen_far _ (show b < w.heap.size from cell_lt h.c0) (fun e => hne e.symm)]; exact h.fz j hj
theorem rowL_more (z : Nat → Int) (k : Nat) : rowL z (k + 1) = rowL z k ++ [z k] := by
  unfold rowL; rw [List.range_succ]; simp
theorem atF_rowK {z : Nat → Int} {n i : Nat} (hi : i < n) : atF (rowL z n) i = z i := by
  unfold atF rowL
  rw [List.getD_eq_getElem?_getD, List.getElem?_map, List.getElem?_range hi]; rfl
theorem dec_small {D k : Nat} (h : D ≤ 2 ^ 40 * 4096 ^ k) (hk : k ≤ 12) : D * 4096 < 1000000 ^ 20 := by
  have h1 : (4096 : Nat) ^ k ≤ 4096 ^ 12 := Nat.pow_le_pow_right (by decide) hk
  have h2 : (2 : Nat) ^ 40 * 4096 ^ k ≤ 2 ^ 40 * 4096 ^ 12 := Nat.mul_le_mul_left _ h1
  have h3 : (2 : Nat) ^ 40 * 4096 ^ 12 * 4096 < 1000000 ^ 20 := by decide
  exact Nat.lt_of_le_of_lt (Nat.mul_le_mul_right 4096 (Nat.le_trans h h2)) h3

set_option maxRecDepth 100000 in
set_option maxHeartbeats 16000000 in
theorem DecodeMessage_any (b o cap n S N : Nat) (t : ByteArray) (z : Nat → Int) (w : World) (hrw : RowAt w b o n z) (hcap : n ≤ cap) (hz : OkW z n) (hn : n ≤ 16) (hS : sumN z n = (S : Int)) (hN : N ≤ 12) (ht : t.size ≤ 40) (hbits : ∀ i (hi : i < t.size), (t[i]'hi) = 48 ∨ (t[i]'hi) = 49) :
    Calls Tryz.prog 7 #[.slice (some ⟨b, o, none⟩) n cap, .string t, .int .i64 (N : Int)] w fun e w' => ∃ v, e = .returned v ∧ NumsAt w' v N (fun k => (symK z n S (valT t t.size) (2 ^ t.size) k : Int)) ∧ Below w.heap.size w w' := by
  have hV := ValueOf_any t w (by omega) hbits
  have hd0 : 0 < 2 ^ t.size := Nat.pow_pos (by decide)
  have hd40 : 2 ^ t.size ≤ 2 ^ 40 := Nat.pow_le_pow_right (by decide) ht
  have hSp : 0 < S ∧ S ≤ 4096 := by have h1 := hz.pos; have h2 := hz.le; rw [hS] at h1 h2; exact ⟨by omega, by omega⟩
  have HDEC : Hid (∀ k, k ≤ 12 → (decAD z n S (valT t t.size) (2 ^ t.size) k).1 < (decAD z n S (valT t t.size) (2 ^ t.size) k).2 ∧ 0 < (decAD z n S (valT t t.size) (2 ^ t.size) k).2 ∧ (decAD z n S (valT t t.size) (2 ^ t.size) k).2 * 4096 < 1000000 ^ 20) := fun k hk => by
    obtain ⟨h1, h2, h3⟩ := dec_ok hz hS hd0 (valT_lt (t := t) t.size) k
    exact ⟨h1, h2, dec_small (Nat.le_trans h3 (Nat.mul_le_mul_right _ hd40)) hk⟩
  have HSYM : Hid (∀ k, k ≤ 12 → SymIs z n S (decAD z n S (valT t t.size) (2 ^ t.size) k).1 (decAD z n S (valT t t.size) (2 ^ t.size) k).2 (symK z n S (valT t t.size) (2 ^ t.size) k)) := fun k hk => sym_is hz hS (HDEC.out k hk).2.1 (HDEC.out k hk).1
  have HNEXT : Hid (∀ k, decAD z n S (valT t t.size) (2 ^ t.size) (k + 1) = ((decAD z n S (valT t t.size) (2 ^ t.size) k).1 * S - (sumN z (symK z n S (valT t t.size) (2 ^ t.size) k)).toNat * (decAD z n S (valT t t.size) (2 ^ t.size) k).2, (decAD z n S (valT t t.size) (2 ^ t.size) k).2 * (z (symK z n S (valT t t.size) (2 ^ t.size) k)).toNat)) := fun k => rfl
  have HD0 : Hid (decAD z n S (valT t t.size) (2 ^ t.size) 0 = (valT t t.size, 2 ^ t.size)) := rfl
  obtain ⟨i0, hi, hz0, hz1, hz2⟩ := info_parts Tryz.infoInt
  have HINF : Hid (Tryz.prog.info? 3 = some i0 ∧ i0.zero = some (.int .i64 0) ∧ i0.size = 1 ∧ i0.bytes = 8) := ⟨hi, hz0, hz1, hz2⟩
  have HRW := Hid.mk' (fun (W : World) (hb : Below w.heap.size w W) => hrw.later hb)
  have HZ := Hid.mk' hz
  have HSM : Hid (∀ (W : World) (j : Nat), Below w.heap.size w W → j ≤ n → Calls Tryz.prog 16 #[.slice (some ⟨b, o, none⟩) j cap] W fun e w' => e = .returned (.int .i64 ((sumN z j).toNat : Int)) ∧ w' = W) := fun W j hb hj => by
    refine (Sum_some b o cap j z W (fun i hi => hrw.later hb i (by omega)) (fun m hm => by have := hz.part (k := m) (by omega); omega) (fun m hm => by have := hz.lt (i := m) (by omega); omega) (by omega)).mono ?_
    rintro e w1 ⟨rfl, rfl⟩
    exact ⟨by have := hz.part (k := j) hj; congr 2; omega, rfl⟩
  have HSN : Hid ((sumN z n).toNat = S) := by show _ = _; rw [hS]; simp
  clear hi hz0 hz1 hz2 hrw hz hS hd0 hd40
  generalize decAD z n S (valT t t.size) (2 ^ t.size) = AD at *
  generalize symK z n S (valT t t.size) (2 ^ t.size) = sy at *
  have HV2 : Hid (lowN (2 ^ t.size) ((valT t t.size : Nat) : Int) = lowN (AD 0).2 ((AD 0).1 : Nat) ∧ lowD (2 ^ t.size) ((valT t t.size : Nat) : Int) = lowD (AD 0).2 ((AD 0).1 : Nat)) := by rw [HD0.out]; exact ⟨rfl, rfl⟩
  rw [HV2.out.1, HV2.out.2] at hV
  go_enter Tryz.func7, Tryz.ntmps7
  go_wp2_with fail
  refine hV.mono ?_
  clear hV
  rintro e w1 ⟨v1, rfl, hv1, hb1⟩
  obtain ⟨s1, x1, l1, c1, x1', l1', c1', hv1e⟩ := hv1.sl
  subst hv1e
  have HR1 := Hid.mk' (RBox.fresh hv1)
  have HW1 : Hid (w.heap.size ≤ w1.heap.size) := hb1.size
  have HB1 := Hid.mk' (hb1.alloc hb1.size (.cells #[.bool s1, .slice x1 l1 c1, .slice x1' l1' c1'] 44))
  clear hv1 hb1
  go_wp2_with fail
  go_loopw [8, 9] (fun s t wr => ∃ (k : Nat) (s1 : Bool) (x1 : Option Addr) (l1 c1 : Nat) (x1' : Option Addr) (l1' c1' : Nat), k ≤ N ∧ t = .int .i64 k ∧ Hid (wr.ownsRow w.heap.size 3 1 s k (cellL (rowL (fun k => (sy k : Int)) k))) ∧ Hid (Spare0 wr s k) ∧ Hid (RBox wr w1.heap.size s1 x1 l1 c1 x1' l1' c1' (lowN (AD k).2 ((AD k).1 : Nat)) (lowD (AD k).2 ((AD k).1 : Nat))) ∧ Hid (Below w.heap.size w wr)) (fun _ t _ => N - (intOf t).toNat)
  case atStart => exact ⟨0, _, _, _, _, _, _, _, Nat.zero_le _, rfl, World.ownsRow_nil _ _ _ _, spare0_nil _, HR1, HB1⟩
  case round =>
    clear HR1 HB1
    obtain ⟨k, s1, x1, l1, c1, x1', l1', c1', hk, rfl, HO, HSP, HR, HB⟩ := hrel
    rcases Nat.lt_or_ge k N with h1 | h1
    · have hkI : (k : Int) < (N : Int) := by omega
      have hk0 : (0 : Int) ≤ (k : Int) := by omega
      obtain ⟨hAD1, hAD2, hAD3⟩ := HDEC.out k (by omega)
      have hsym := HSYM.out k (by omega)
      have HNX := Hid.mk' (HNEXT.out k)
      have hsn := hsym.lt
      have hspos := hsym.pos
      have hA := hsym.le
      have hAless := hsym.less
      have hAZ := hsym.small
      have HNO := Hid.mk' hsym.no
      have HHI := Hid.mk' hsym.hi
      clear hsym
      obtain ⟨wo, hwo⟩ : ∃ wo, wo = wr := ⟨_, rfl⟩
      rw [← hwo] at HO HSP HR HB ⊢
      clear hwo
      have HRS : Hid (rowL (fun k => (sy k : Int)) (k + 1) = rowL (fun k => (sy k : Int)) k ++ [(sy k : Int)]) := rowL_more _ k
      generalize hq1 : (AD k).1 = q1 at *
      generalize hq2 : (AD k).2 = q2 at *
      have HSYK : Hid (sy k = sy k) := rfl
      generalize hsk : sy k = s at *
      have HSK := Hid.mk' hsk
      clear hq1 hq2 hsk HSYK
      have hq20 : q2 < 1000000 ^ 20 := by omega
      have hS20 : S < 1000000 ^ 20 := Nat.lt_of_le_of_lt hSp.2 (by decide)
      have hqS : q2 * S < 1000000 ^ 20 := Nat.lt_of_le_of_lt (Nat.mul_le_mul_left _ hSp.2) hAD3
      have rv := low_room hAD2 (show q1 ≤ q2 by omega) hq20
      have HZS : Hid (∀ W, Below w.heap.size w W → W.cell? ⟨b, o + s, none⟩ = some (.int .i64 ((z s).toNat : Int))) := fun W hb => by
        have h5 := HRW.out W hb s hsn
        rw [Int.toNat_of_nonneg (by omega)]
        exact h5
      have HSA : Hid (∀ W, Below w.heap.size w W → Calls Tryz.prog 16 #[.slice (some ⟨b, o, none⟩) s cap] W fun e w' => e = .returned (.int .i64 ((sumN z s).toNat : Int)) ∧ w' = W) := fun W hb => HSM.out W s hb (by omega)
      have HSS : Hid (∀ W, Below w.heap.size w W → Calls Tryz.prog 16 #[.slice (some ⟨b, o, none⟩) n cap] W fun e w' => e = .returned (.int .i64 (S : Int)) ∧ w' = W) := fun W hb => by
        have h5 := HSM.out W n hb (Nat.le_refl _)
        rw [HSN.out] at h5
        exact h5
      have hZ0 : 0 < (z s).toNat := by omega
      have hZS := hAZ.1
      have hAS := hAZ.2
      obtain ⟨A, hAe⟩ : ∃ A, A = (sumN z s).toNat := ⟨_, rfl⟩
      obtain ⟨Z, hZe⟩ : ∃ Z, Z = (z s).toNat := ⟨_, rfl⟩
      rw [← hAe] at hA hAless hAS HNX HSA
      rw [← hZe] at hAless hZS HNX HZS hZ0
      clear hAe hZe hAZ
      have HRA : Hid (∀ W, Calls Tryz.prog 15 #[.int .i64 (A : Int), .int .i64 (S : Int)] W fun e w' => ∃ r, e = .returned r ∧ RatioAt w' r (lowN S (A : Int)) (lowD S (A : Int)) ∧ Below W.heap.size W w') := fun W => RatioOf_any (A : Int) S W (by omega) (by omega) hSp.1 (by omega)
      have HRZ : Hid (∀ W, Calls Tryz.prog 15 #[.int .i64 (Z : Int), .int .i64 (S : Int)] W fun e w' => ∃ r, e = .returned r ∧ RatioAt w' r (lowN S (Z : Int)) (lowD S (Z : Int)) ∧ Below W.heap.size W w') := fun W => RatioOf_any (Z : Int) S W (by omega) (by omega) hSp.1 (by omega)
      have hq2S : 0 < q2 * S := Nat.mul_pos hAD2 hSp.1
      have hX : q1 * S - A * q2 ≤ q2 * S := Nat.le_trans (Nat.le_of_lt hAless) (Nat.mul_le_mul_left _ hZS)
      have HMI : Hid (∀ W u v, RatioAt W u (lowN q2 (q1 : Nat)) (lowD q2 (q1 : Nat)) → RatioAt W v (lowN S (A : Int)) (lowD S (A : Int)) → Calls Tryz.prog 19 #[u, v] W fun e w' => ∃ r, e = .returned r ∧ RatioAt w' r (lowN (q2 * S) ((q1 * S - A * q2 : Nat) : Int)) (lowD (q2 * S) ((q1 * S - A * q2 : Nat) : Int)) ∧ Below W.heap.size W w') := fun W u v hu hv => by
        have ra := low_room hSp.1 hAS hS20
        have h3 := Minus_ratio u v _ _ _ _ 20 W hu hv (lowD_pos hAD2 _) (lowD_pos hSp.1 _) rv.1 ra.1 rv.2 ra.2 (by decide)
        have h4 := low_less hAD2 hSp.1 (q1 : Int) (A : Int)
        have e : (q1 : Int) * (S : Int) - (A : Int) * (q2 : Int) = ((q1 * S - A * q2 : Nat) : Int) := by
          rw [Int.natCast_sub hA, Int.natCast_mul, Int.natCast_mul]
        rw [h4.1, h4.2, e] at h3
        exact h3
      have HOV : Hid (∀ W u v, RatioAt W u (lowN (q2 * S) ((q1 * S - A * q2 : Nat) : Int)) (lowD (q2 * S) ((q1 * S - A * q2 : Nat) : Int)) → RatioAt W v (lowN S (Z : Int)) (lowD S (Z : Int)) → Calls Tryz.prog 18 #[u, v] W fun e w' => ∃ r, e = .returned r ∧ RatioAt w' r (lowN (AD (k + 1)).2 ((AD (k + 1)).1 : Nat)) (lowD (AD (k + 1)).2 ((AD (k + 1)).1 : Nat)) ∧ Below W.heap.size W w') := fun W u v hu hv => by
        have rz := low_room hSp.1 hZS hS20
        have rx := low_room hq2S hX hqS
        obtain ⟨m, hm0, hm⟩ := low_pos_nat (S := S) hZ0
        have hm2 := rz.1
        rw [hm, Int.natAbs_natCast] at hm2
        have hv' := hv
        rw [hm] at hv'
        have h3 := Over_ratio u v _ m _ _ 20 W hu hv' (lowD_pos hq2S _) hm0 rx.1 hm2 rx.2 rz.2 (by decide)
        have h4 := low_quot hAD2 hSp.1 hZ0 ((q1 * S - A * q2 : Nat) : Int) hm
        rw [h4.1, h4.2] at h3
        rw [HNX.out]
        exact h3
      go_wp2_with fail
      go_loopw [10] (fun t wr => ∃ j : Nat, j ≤ s ∧ t = .int .i64 j ∧ Hid (Below wo.heap.size wo wr)) (fun t _ => n - (intOf t).toNat)
      case atStart => exact ⟨0, Nat.zero_le _, rfl, Below.refl _ _⟩
      case round =>
        obtain ⟨j, hj, rfl, HC⟩ := hrel
        have hjI : (j : Int) < (n : Int) := by omega
        have hj0 : (0 : Int) ≤ (j : Int) := by omega
        have hjc : (j : Int) + 1 ≤ (cap : Int) := by omega
        have hBW := below_chain HB.out HC.out
        have hsum1 := HSM.out wr (j + 1) hBW (by omega)
        have hsumn := HSM.out wr n hBW (Nat.le_refl _)
        rw [HSN.out] at hsumn
        have hA1 : (sumN z (j + 1)).toNat ≤ S := by
          have h5 := sumN_mono HZ.out.nn (k := j + 1) (n := n) (by omega)
          have h6 := HSN.out
          omega
        have hrt := RatioOf_any ((sumN z (j + 1)).toNat : Int) S wr (by omega) (by omega) hSp.1 (by omega)
        have hzc := HRW.out wr hBW j (by omega)
        have HZC := Hid.mk' (fun (W : World) (hb : Below w.heap.size w W) => HRW.out W hb j (by omega))
        have ra := low_room hSp.1 hA1 hS20
        have hzj := HZ.out.lt (i := j) (by omega)
        have HCM : Hid (∀ W u v, RatioAt W u (lowN q2 (q1 : Nat)) (lowD q2 (q1 : Nat)) → RatioAt W v (lowN S ((sumN z (j + 1)).toNat : Int)) (lowD S ((sumN z (j + 1)).toNat : Int)) → Calls Tryz.prog 17 #[u, v] W fun e w' => (∃ c : Int, e = .returned (.int .i64 c) ∧ (c < 0 ↔ q1 * S < (sumN z (j + 1)).toNat * q2)) ∧ Below W.heap.size W w') := fun W u v hu hv => by
          refine (RCmp_any u v _ _ _ _ 20 W hu hv rv.1 ra.1 rv.2 ra.2 (by decide)).mono ?_
          rintro e w' ⟨rfl, hbw⟩
          refine ⟨⟨_, rfl, ?_⟩, hbw⟩
          rw [sgnZ_neg, low_order hAD2 hSp.1]
          rw [← Int.natCast_mul, ← Int.natCast_mul]
          omega
        have HCMP : Hid (q1 * S < (sumN z (j + 1)).toNat * q2 ↔ ((q1 * S / q2 : Nat) : Int) < sumN z (j + 1)) := by
          have h5 : q1 * S / q2 < (sumN z (j + 1)).toNat ↔ q1 * S < (sumN z (j + 1)).toNat * q2 := Nat.div_lt_iff_lt_mul hAD2
          have h6 := HZ.out.part (k := j + 1) (by omega)
          show _ ↔ _
          rw [← h5]
          omega
        have HZP : Hid (s = j → 0 < z j) := fun e => by rw [← e]; exact hspos
        have HNJ : Hid (j < s → sumN z (j + 1) ≤ ((q1 * S / q2 : Nat) : Int)) := fun h => by have h5 := HNO.out j h; omega
        have HYJ : Hid (j = s → ((q1 * S / q2 : Nat) : Int) < sumN z (j + 1)) := fun e => by rw [e]; exact HHI.out
        generalize (sumN z (j + 1)).toNat = A1 at *
        generalize hxj : z j = xj at *
        clear hxj
        go_wp2_with fail
        refine hsum1.mono ?_
        rintro e w2 ⟨rfl, hw2⟩
        rw [hw2]
        clear hw2 hsum1 w2
        go_wp2_with fail
        refine hsumn.mono ?_
        rintro e w2 ⟨rfl, hw2⟩
        rw [hw2]
        clear hw2 hsumn w2
        go_wp2_with fail
        refine hrt.mono ?_
        clear hrt
        rintro e w3 ⟨r3, rfl, hr3, hb3⟩
        obtain ⟨s3, y3, n3, k3, y3', n3', k3', hr3e⟩ := hr3.sl
        subst hr3e
        have HT := Hid.mk' (RBox.fresh (show RatioAt w3 (.agg #[.bool s3, .slice y3 n3 k3, .slice y3' n3' k3']) (lowN S (A1 : Int)) (lowD S (A1 : Int)) from hr3))
        have hbT : Below wr.heap.size wr (w3.alloc (.cells #[.bool s3, .slice y3 n3 k3, .slice y3' n3' k3'] 44)) := hb3.alloc hb3.size _
        have HBT := Hid.mk' hbT
        have HRT := Hid.mk' ((HR.out.later HC.out).later hbT)
        have hzc3 := HZC.out _ (below_chain hBW hbT)
        have v0 := HRT.out.c0
        have v1 := HRT.out.c1
        have v2 := HRT.out.c2
        clear hr3 hb3 hbT hzc hBW
        rcases Int.lt_or_le 0 xj with hpos | hpos
        · go_wp2_with fail
          refine (HCM.out _ _ _ HRT.out.rat HT.out.rat).mono ?_
          rintro e w4 ⟨⟨cc, rfl, hcc⟩, hb4⟩
          have HB4 := Hid.mk' (below_chain HC.out (below_chain HBT.out hb4))
          rcases Nat.lt_or_ge j s with hlt | hge
          · have hcn : ¬ cc < 0 := fun h => by have h5 := HNJ.out hlt; have h6 := HCMP.out.1 (hcc.1 h); omega
            clear hcc hb4 v0 v1 v2 hzc3
            go_wp2_with fail
            exact ⟨⟨j + 1, hlt, by go_num, HB4⟩, by simp [intOf]; omega⟩
          · obtain rfl : s = j := by omega
            have hcn : cc < 0 := hcc.2 (HCMP.out.2 (HYJ.out rfl))
            clear hcc hb4 v0 v1 v2 hzc3 HCM HT HRT HBT HZC
            have HO4 := Hid.mk' (own_then HO.out HB4.out)
            have HSP4 := Hid.mk' (HSP.out.later (fun g hg => (HO.out.lt g hg).2) HB4.out)
            have HR4 := Hid.mk' (HR.out.later HB4.out)
            have HBW4 := Hid.mk' (below_chain HB.out HB4.out)
            have HNE4 := Hid.mk' (own_no_box (by rw [rowL_length]) HO4.out HSP4.out HR4.out.c0)
            have HPA := Hid.mk' (HR4.out.later ((Below.refl _ _).alloc (Nat.le_refl _) (.cells #[.int .i64 (s : Int)] 3)))
            have HSPA := Hid.mk' (HSP4.out.later (fun g hg => (HO4.out.lt g hg).2) ((Below.refl _ _).alloc (Nat.le_refl _) (.cells #[.int .i64 (s : Int)] 3)))
            have hbz := HBW4.out.size
            clear HO HSP HR HB HC HB4
            go_wp2_with (at_builtin; go_must (refine wpList_append_spare _ rfl _ _ _ rfl w.heap.size 3 i0 _ 8 Tryz.underlying22 HINF.out rfl u8 _ _ rfl (HO4.out.alloc _) ⟨w4.heap.size, 0, none⟩ 1 1 [.int .i64 (s : Int)] rfl rfl (one_new _ _ _) (by simp [Value.oneCell']) (by omega) (by omega) (by omega) (by simp; omega) HSPA.out ?_; intro g8 cap8 w8 hown8 hgrow8 hsp8 hkeep8; have HO8 := Hid.mk' hown8; have HSP8 := Hid.mk' hsp8; have HB8 := Hid.mk' (below_push HBW4.out HO4.out hgrow8); have HR8 := Hid.mk' (HPA.out.grown HNE4.out hgrow8 hkeep8); clear hown8 hgrow8 hsp8 hkeep8))
            clear HO4 HSP4 HR4 HBW4 HNE4 HPA HSPA
            have HNE8 := Hid.mk' (own_no_box (l := rowL (fun k => (sy k : Int)) (k + 1)) (by rw [rowL_length]) (by rw [HRS.out, cellL_append]; exact HO8.out) HSP8.out HR8.out.c0)
            have HZ8 := Hid.mk' (HZS.out _ HB8.out)
            have HB9 := HB8
            have y0 := HR8.out.c0
            have y1 := HR8.out.c1
            have y2 := HR8.out.c2
            have hz8 := HZ8.out
            have HKS : Hid (∀ W, Below w8.heap.size w8 W → ((W.cell? ⟨w1.heap.size, 0, none⟩ = some (.bool s1) ∧ W.cell? ⟨w1.heap.size, 1, none⟩ = some (.slice x1 l1 c1) ∧ W.cell? ⟨w1.heap.size, 2, none⟩ = some (.slice x1' l1' c1')) ∧ W.cell? ⟨b, o + s, none⟩ = some (.int .i64 (Z : Int)))) := fun W hb => ⟨⟨by rw [hb.cell (cell_lt y0)]; exact y0, by rw [hb.cell (cell_lt y1)]; exact y1, by rw [hb.cell (cell_lt y2)]; exact y2⟩, by rw [hb.cell (cell_lt hz8)]; exact hz8⟩
            have HLW := Hid.mk' (fun (W : World) (hb : Below w8.heap.size w8 W) => HR8.out.later hb)
            have hcur : Below w8.heap.size w8 w8.drew := (Below.refl _ _).drew
            have hsn' : (s : Int) < (n : Int) := by omega
            have hsc : (s : Int) ≤ (cap : Int) := by omega
            have hs0 : (0 : Int) ≤ (s : Int) := by omega
            clear y0 y1 y2 hz8
            refine region_but_last (n := 17) (S := fun W => (W.cell? ⟨w1.heap.size, 0, none⟩ = some (.bool s1) ∧ W.cell? ⟨w1.heap.size, 1, none⟩ = some (.slice x1 l1 c1) ∧ W.cell? ⟨w1.heap.size, 2, none⟩ = some (.slice x1' l1' c1')) ∧ W.cell? ⟨b, o + s, none⟩ = some (.int .i64 (Z : Int))) (by kernel_rfl) (by kernel_rfl) (by kernel_rfl) (HKS.out _ hcur) (fun hHeld => ?_)
            refine wpAnyH_take (i := 0) (v := ?v0a) rfl (by kernel_rfl) (by kernel_rfl) (by kernel_rfl) (fun _ _ _ h => h) (Or.inl ⟨by rfl, ?hy0a⟩) (by assumption) ?rest0a
            case hy0a => (intro w hSw; (try dsimp only at hSw); go_simp <;> (try with_reducible rfl))
            simp only [Act.put]
            refine wpAnyH_take (i := 1) (v := ?v1a) rfl (by kernel_rfl) (by kernel_rfl) (by kernel_rfl) (fun _ _ _ h => h) (Or.inl ⟨by rfl, ?hy1a⟩) (by assumption) ?rest1a
            case hy1a => (intro w hSw; (try dsimp only at hSw); go_simp <;> (try with_reducible rfl))
            simp only [Act.put]
            refine wpAnyH_take (i := 2) (v := ?v2a) rfl (by kernel_rfl) (by kernel_rfl) (by kernel_rfl) (fun _ _ _ h => h) (Or.inl ⟨by rfl, ?hy2a⟩) (by assumption) ?rest2a
            case hy2a => (intro w hSw; (try dsimp only at hSw); go_simp <;> (try with_reducible rfl))
            simp only [Act.put]
            refine wpAnyH_take (i := 3) (v := ?v3a) rfl (by kernel_rfl) (by kernel_rfl) (by kernel_rfl) (fun _ _ _ h => h) (Or.inl ⟨by rfl, ?hy3a⟩) (by assumption) ?rest3a
            case hy3a => (intro w hSw; (try dsimp only at hSw); go_simp <;> (try with_reducible rfl))
            simp only [Act.put]
            refine wpAnyH_take (i := 5) (v := ?v5a) rfl (by kernel_rfl) (by kernel_rfl) (by kernel_rfl) (fun _ _ _ h => h) (Or.inl ⟨by rfl, ?hy5a⟩) (by assumption) ?rest5a
            case hy5a => (intro w hSw; (try dsimp only at hSw); go_simp <;> (try with_reducible rfl))
            simp only [Act.put]
            refine wpAnyH_take (i := 9) (v := ?v9a) rfl (by kernel_rfl) (by kernel_rfl) (by kernel_rfl) (fun _ _ _ h => h) (Or.inl ⟨by rfl, ?hy9a⟩) (by assumption) ?rest9a
            case hy9a => (intro w hSw; (try dsimp only at hSw); go_simp <;> (try with_reducible rfl))
            simp only [Act.put]
            refine wpAnyH_take (i := 10) (v := ?v10a) rfl (by kernel_rfl) (by kernel_rfl) (by kernel_rfl) (fun _ _ _ h => h) (Or.inl ⟨by rfl, ?hy10a⟩) (by assumption) ?rest10a
            case hy10a => (intro w hSw; (try dsimp only at hSw); go_simp <;> (try with_reducible rfl))
            simp only [Act.put]
            refine wpAnyH_take (i := 11) (v := ?v11a) rfl (by kernel_rfl) (by kernel_rfl) (by kernel_rfl) (fun _ _ _ h => h) (Or.inl ⟨by rfl, ?hy11a⟩) (by assumption) ?rest11a
            case hy11a => (intro w hSw; (try dsimp only at hSw); go_simp <;> (try with_reducible rfl))
            simp only [Act.put]
            refine wpAnyH_take (i := 12) (v := ?v12a) rfl (by kernel_rfl) (by kernel_rfl) (by kernel_rfl) (fun _ _ _ h => h) (Or.inl ⟨by rfl, ?hy12a⟩) (by assumption) ?rest12a
            case hy12a => (intro w hSw; (try dsimp only at hSw); go_simp <;> (try with_reducible rfl))
            simp only [Act.put]
            refine wpAnyH_take (i := 13) (v := ?v13a) rfl (by kernel_rfl) (by kernel_rfl) (by kernel_rfl) (fun _ _ _ h => h) (Or.inl ⟨by rfl, ?hy13a⟩) (by assumption) ?rest13a
            case hy13a => (intro w hSw; (try dsimp only at hSw); go_simp <;> (try with_reducible rfl))
            simp only [Act.put]
            refine wpAnyH_ready (rs := [4]) (by kernel_rfl) (by simp) ?_
            refine AllReadyH.cons rfl (fun K hK => ?_) AllReadyH.nil
            go_simp
            refine (HSA.out _ (below_chain HB9.out hcur)).mono ?_
            rintro e w4 ⟨rfl, hw4⟩
            rw [hw4]
            clear hw4 w4
            go_wp2_with fail
            refine hK.out _ _ ?_ (fun hHeld => ?_)
            · exact HKS.out _ hcur
            clear hK K
            refine wpAnyH_ready (rs := [6]) (by kernel_rfl) (by simp) ?_
            refine AllReadyH.cons rfl (fun K hK => ?_) AllReadyH.nil
            go_simp
            refine (HSS.out _ (below_chain HB9.out hcur)).mono ?_
            rintro e w4 ⟨rfl, hw4⟩
            rw [hw4]
            clear hw4 w4
            go_wp2_with fail
            refine hK.out _ _ ?_ (fun hHeld => ?_)
            · exact HKS.out _ hcur
            clear hK K
            refine wpAnyH_ready (rs := [7]) (by kernel_rfl) (by simp) ?_
            refine AllReadyH.cons rfl (fun K hK => ?_) AllReadyH.nil
            go_simp
            refine (HRA.out _).mono ?_
            rintro e x1 ⟨r1, rfl, hr1, hb1⟩
            have hcur := below_chain hcur hb1
            have HX1 := Hid.mk' hr1
            obtain ⟨t1, p1, m1, q1, p1', m1', q1', hr1e⟩ := hr1.sl
            subst hr1e
            clear hr1
            go_wp2_with fail
            refine hK.out _ _ ?_ (fun hHeld => ?_)
            · exact HKS.out _ hcur
            clear hK K
            refine wpAnyH_ready (rs := [8]) (by kernel_rfl) (by simp) ?_
            refine AllReadyH.cons rfl (fun K hK => ?_) AllReadyH.nil
            go_simp
            refine (HMI.out _ _ _ (HLW.out _ hcur).rat HX1.out).mono ?_
            rintro e x2 ⟨r2, rfl, hr2, hb2⟩
            have hcur := below_chain hcur hb2
            have HX2 := Hid.mk' hr2
            obtain ⟨t2, p2, m2, q2, p2', m2', q2', hr2e⟩ := hr2.sl
            subst hr2e
            clear hr2
            go_wp2_with fail
            refine hK.out _ _ ?_ (fun hHeld => ?_)
            · exact HKS.out _ hcur
            clear hK K
            refine wpAnyH_ready (rs := [14]) (by kernel_rfl) (by simp) ?_
            refine AllReadyH.cons rfl (fun K hK => ?_) AllReadyH.nil
            go_simp
            refine (HSS.out _ (below_chain HB9.out hcur)).mono ?_
            rintro e w4 ⟨rfl, hw4⟩
            rw [hw4]
            clear hw4 w4
            go_wp2_with fail
            refine hK.out _ _ ?_ (fun hHeld => ?_)
            · exact HKS.out _ hcur
            clear hK K
            refine wpAnyH_ready (rs := [15]) (by kernel_rfl) (by simp) ?_
            refine AllReadyH.cons rfl (fun K hK => ?_) AllReadyH.nil
            go_simp
            refine (HRZ.out _).mono ?_
            rintro e x3 ⟨r3, rfl, hr3, hb3⟩
            have hcur := below_chain hcur hb3
            have HX3 := Hid.mk' hr3
            obtain ⟨t3, p3, m3, q3, p3', m3', q3', hr3e⟩ := hr3.sl
            subst hr3e
            clear hr3
            have HX2 := Hid.mk' (HX2.out.later hb3)
            go_wp2_with fail
            refine hK.out _ _ ?_ (fun hHeld => ?_)
            · exact HKS.out _ hcur
            clear hK K
            refine wpAnyH_ready (rs := [16]) (by kernel_rfl) (by simp) ?_
            refine AllReadyH.cons rfl (fun K hK => ?_) AllReadyH.nil
            go_simp
            refine (HOV.out _ _ _ HX2.out HX3.out).mono ?_
            rintro e x4 ⟨r4, rfl, hr4, hb4⟩
            have hcur := below_chain hcur hb4
            have HX4 := Hid.mk' hr4
            obtain ⟨t4, p4, m4, q4, p4', m4', q4', hr4e⟩ := hr4.sl
            subst hr4e
            clear hr4
            have hL := HLW.out _ hcur
            have fz0 := hL.fz 0 (by decide)
            have fz1 := hL.fz 1 (by decide)
            have fz2 := hL.fz 2 (by decide)
            have k0 := hL.c0
            have k1 := hL.c1
            have k2 := hL.c2
            obtain ⟨⟨g0, g1⟩, ⟨g2, g3⟩, g4⟩ := put_three' (.bool t4) (.slice p4 m4 q4) (.slice p4' m4' q4') k0 k1 k2
            have HSET := Hid.mk' (hL.put HX4.out)
            clear hL
            go_wp2_with fail
            refine hK.out _ _ ?_ (fun hHeld => ?_)
            · exact HKS.out _ hcur
            clear hK K
            refine wpAnyH_done (by kernel_rfl) ?_ _
            refine ahead_last rfl (fun K hK => ?_)
            go_simp
            refine hK _ _ ?_
            clear hK K
            unfold put3 at HSET
            have HB10 : Hid (Below w.heap.size w (((x4.setCell ⟨w1.heap.size, 0, none⟩ (.bool t4)).setCell ⟨w1.heap.size, 1, none⟩ (.slice p4 m4 q4)).setCell ⟨w1.heap.size, 2, none⟩ (.slice p4' m4' q4'))) := (((below_chain HB9.out hcur).setCell HW1.out _).setCell HW1.out _).setCell HW1.out _
            have HO9 := Hid.mk' (own_then HO8.out hcur)
            have HSP9 := Hid.mk' (HSP8.out.later (fun g hg => (HO8.out.lt g hg).2) hcur)
            have HO10 := Hid.mk' (own_aside (own_aside (own_aside HO9.out ⟨w1.heap.size, 0, none⟩ (.bool t4) HNE8.out) ⟨w1.heap.size, 1, none⟩ (.slice p4 m4 q4) HNE8.out) ⟨w1.heap.size, 2, none⟩ (.slice p4' m4' q4') HNE8.out)
            have HSP10 := Hid.mk' (((HSP9.out.aside ⟨w1.heap.size, 0, none⟩ (.bool t4) HNE8.out).aside ⟨w1.heap.size, 1, none⟩ (.slice p4 m4 q4) HNE8.out).aside ⟨w1.heap.size, 2, none⟩ (.slice p4' m4' q4') HNE8.out)
            generalize ((x4.setCell ⟨w1.heap.size, 0, none⟩ (.bool t4)).setCell ⟨w1.heap.size, 1, none⟩ (.slice p4 m4 q4)).setCell ⟨w1.heap.size, 2, none⟩ (.slice p4' m4' q4') = W9 at *
            clear HX1 HX2 HX3 HX4 hHeld g0 g1 g2 g3 g4 k0 k1 k2 fz0 fz1 fz2 hcur HKS HLW hb1 hb2 hb3 hb4
            go_wp2_with fail
            refine ⟨⟨k + 1, t4, _, _, _, _, _, _, h1, by go_num, ?_, HSP10, HSET, HB10⟩, by simp [intOf]; omega⟩
            rw [HRS.out, cellL_append]
            exact HO10
        · have hlt : j < s := by
            rcases Nat.lt_or_ge j s with h | h
            · exact h
            · have := HZP.out (by omega)
              omega
          have hpd : decide (0 < xj) = false := decide_eq_false (by omega)
          have HB4 := Hid.mk' (below_chain HC.out HBT.out)
          clear v0 v1 v2
          go_wp2_with fail
          exact ⟨⟨j + 1, hlt, by go_num, HB4⟩, by simp [intOf]; omega⟩
    · obtain rfl : k = N := by omega
      have HNM := Hid.mk' (numsAt_row (l := rowL (fun k => (sy k : Int)) k) (by rw [rowL_length]; exact HO.out))
      go_wp2_with fail
      go_ret
      refine ⟨_, rfl, ?_, HB.out⟩
      have h6 := HNM.out
      rw [rowL_length] at h6
      exact h6.congr fun j hj => atF_rowK hj
end Go.Proofs.YtncgpldfenkiiaaGreatDoor

/- The closed fact at the head of chapter 5's laws: of two even weights the message 1, 0 begins at a half. -/
namespace Go.Proofs.YtncgpldfenkiiaaGreatDoor
open Go.RowKit

def quZ (_ : Nat) : Int := 1
def quL (i : Nat) : Int := if i = 0 then 1 else 0
theorem qu_ok : (mesE quZ 2 2 quL).1 = 0 := by decide
theorem qu_told (a : Nat → Addr) : ivV a (cutL quZ quL 2 2) (cutW quZ quL 2) (2 ^ 2) = .tuple #[.agg #[.int .i64 1, .int .i64 2], .agg #[.int .i64 1, .int .i64 4], .nilIface] := by
  have e1 : cutL quZ quL 2 2 = 2 := by decide
  have e2 : cutW quZ quL 2 = 1 := by decide
  rw [e1, e2]
  rfl
set_option maxRecDepth 100000 in
theorem quarter_any (a : Nat → Addr) (w : World) (hE : Errs w a) :
    Calls Tryz.prog 4 #[] w fun e w' => e = .returned (.bool true) ∧ Below w.heap.size w w' := by
  have hb0 : Below w.heap.size w ((w.alloc (.cells #[.int .i64 1, .int .i64 1] 3)).alloc (.cells #[.int .i64 1, .int .i64 0] 3)) := ((Below.refl _ _).alloc (Nat.le_refl _) _).alloc (by simp) _
  have hr : RowAt ((w.alloc (.cells #[.int .i64 1, .int .i64 1] 3)).alloc (.cells #[.int .i64 1, .int .i64 0] 3)) w.heap.size 0 2 quZ := fun i hi => by
    rw [World.cell?_alloc_lt _ _ _ (by simp), World.cell?_alloc_at _ _ _ _ rfl]
    rcases (show i = 0 ∨ i = 1 by omega) with rfl | rfl <;> rfl
  have hl : NumsAt ((w.alloc (.cells #[.int .i64 1, .int .i64 1] 3)).alloc (.cells #[.int .i64 1, .int .i64 0] 3)) (.slice (some ⟨w.heap.size + 1, 0, none⟩) 2 2) 2 quL := Or.inr ⟨_, _, _, rfl, by decide, fun i hi => by
    rw [top_cell _ _ _ _ (by simp)]
    rcases (show i = 0 ∨ i = 1 by omega) with rfl | rfl <;> rfl⟩
  have hI := Interval_ok a w.heap.size 0 2 _ 2 2 2 quZ quL _ (hE.below hb0) hr (Nat.le_refl _) hl rfl qu_ok
  rw [qu_told] at hI
  have HB0 := Hid.mk' hb0
  clear hr hl hE hb0
  go_enter Tryz.func4, Tryz.ntmps4
  go_wp2_with fail
  refine hI.mono ?_
  clear hI
  rintro e w1 ⟨rfl, hb1⟩
  have HB1 := Hid.mk' (below_chain HB0.out hb1)
  clear hb1
  go_wp2_with fail
  go_ret
  exact ⟨rfl, (HB1.out.alloc HB1.out.size _).alloc (by have := HB1.out.size; simp; omega) _⟩
end Go.Proofs.YtncgpldfenkiiaaGreatDoor

/- coded of an error by its number. -/
namespace Go.Proofs.YtncgpldfenkiiaaGreatDoor
open Go.RowKit

theorem coded_errV (a : Nat → Addr) (c : Nat) (hc : c ≤ 8) (w : World) (h : Errs w a) :
    Calls Tryz.prog 10 #[errV a c, .int .i64 (c : Int)] w fun e w' => e = .returned (.bool true) ∧ Below w.heap.size w w' := by
  by_cases h0 : c = 0
  · subst h0
    rw [errV_zero]
    refine (coded_nil 0 w).mono ?_
    rintro e w' ⟨rfl, rfl⟩
    exact ⟨rfl, Below.refl _ _⟩
  · rw [errV_pos a h0]
    have h1 := coded_err a (c - 1) (by omega) (c : Int) w h
    have e : decide ((c : Int) = ((c - 1 : Nat) : Int) + 1) = true := decide_eq_true (by omega)
    rw [e] at h1
    exact h1
end Go.Proofs.YtncgpldfenkiiaaGreatDoor

/- The document's SameInts at equal ones. -/
namespace Go.Proofs.YtncgpldfenkiiaaGreatDoor
open Go.RowKit

set_option maxRecDepth 100000 in
set_option maxHeartbeats 1000000 in
theorem SameInts_any (v u : Value) (n : Nat) (z : Nat → Int) (w : World) (h : NumsAt w v n z) (k : NumsAt w u n z) (hn : n ≤ 1000000) :
    Calls Tryz.prog 11 #[v, u] w fun e w' => e = .returned (.bool true) ∧ Below w.heap.size w w' := by
  rcases h with ⟨ad, cap, rfl, rfl⟩ | ⟨b, o, cap, rfl, h0, hr⟩
  · obtain ⟨ad', cap', rfl⟩ := k.form
    clear k
    go_enter Tryz.func11, Tryz.ntmps11
    go_wp2_with fail
    refine wp_loop_rounds 1 ?_
    rw [rounds_succ]
    go_wp2_with fail
    go_ret
    exact ⟨rfl, Below.refl _ _⟩
  · rcases k with ⟨_, _, _, h1⟩ | ⟨b', o', cap', rfl, _, kr⟩
    · omega
    · have HR := Hid.mk' hr
      have HK := Hid.mk' kr
      clear hr kr
      go_enter Tryz.func11, Tryz.ntmps11
      go_wp2_with fail
      go_loopw [5] (fun i wr => ∃ k : Nat, k ≤ n ∧ i = .int .i64 k ∧ Hid (Below w.heap.size w wr)) (fun i _ => n - (intOf i).toNat)
      case atStart => exact ⟨0, Nat.zero_le _, rfl, Below.refl _ _⟩
      case round =>
        obtain ⟨k, hk, rfl, HB⟩ := hrel
        rcases Nat.lt_or_ge k n with h1 | h1
        · have hc := (HR.out.later HB.out) k h1
          have hd := (HK.out.later HB.out) k h1
          have hkn : (k : Int) < (n : Int) := by omega
          go_wp2_with fail
          go_region
          all_goals
            go_wp2_with fail
            exact ⟨⟨k + 1, h1, by go_num, HB.out.drew⟩, by simp [intOf]; omega⟩
        · obtain rfl : k = n := by omega
          go_wp2_with fail
          go_ret
          exact ⟨rfl, HB.out⟩
end Go.Proofs.YtncgpldfenkiiaaGreatDoor

/- The law ArithDecode. -/
namespace Go.Proofs.YtncgpldfenkiiaaGreatDoor
open Go.RowKit

theorem ints_room (v : Value) (n : Nat) (z : Nat → Int) (w : World) (h : NumsAt w v n z) (hn : n ≤ 100000) :
    Calls Tryz.prog 9 #[v] w fun e w' => ∃ ad cap, e = .returned (.slice ad n cap) ∧ NumsAt w' (.slice ad n cap) n z ∧ Below w.heap.size w w' := by
  refine (ints_any v n z w h hn).mono ?_
  rintro e w' ⟨v', rfl, hv', hb⟩
  obtain ⟨ad, cap, rfl⟩ := hv'.form
  exact ⟨ad, cap, rfl, hv', hb⟩
theorem NumsAt.rowOf {w : World} {ad : Option Addr} {n cap : Nat} {z : Nat → Int} (h : NumsAt w (.slice ad n cap) n z) (h0 : 0 < n) : ∃ b o, ad = some ⟨b, o, none⟩ ∧ RowAt w b o n z := by
  rcases h with ⟨_, _, _, h1⟩ | ⟨b, o, c, h1, _, h2⟩
  · omega
  · simp only [Value.slice.injEq, true_and] at h1
    exact ⟨b, o, h1.1, h2⟩
set_option maxRecDepth 100000 in
theorem Decode_weights (a : Nat → Addr) (u : Value) (n : Nat) (z : Nat → Int) (t : ByteArray) (x : Int) (w : World) (hE : Errs w a) (hu : NumsAt w u n z) (hn : n ≤ 1000) (h0 : weightsErr z n ≠ 0) :
    Calls Tryz.prog 8 #[u, .string t, .int .i64 x] w fun e w' => e = .returned (.tuple #[.slice none 0 0, errV a (weightsErr z n)]) ∧ Below w.heap.size w w' := by
  have hV := Valid_weights a u n z w hE hu (by omega)
  obtain ⟨ad, cap, rfl⟩ := hu.form
  rw [errV_pos a h0] at hV ⊢
  generalize a (weightsErr z n - 1) = pa at *
  clear hE hu
  go_enter Tryz.func8, Tryz.ntmps8
  go_wp2_with fail
  refine hV.mono ?_
  clear hV
  rintro e w2 ⟨rfl, hw2⟩
  rw [hw2]
  clear hw2
  go_wp2_with fail
  go_ret2
  exact ⟨rfl, Below.refl _ _⟩
set_option maxRecDepth 100000 in
theorem Decode_bound (a : Nat → Addr) (u : Value) (n : Nat) (z : Nat → Int) (t : ByteArray) (x : Int) (w : World) (hE : Errs w a) (hu : NumsAt w u n z) (hn : n ≤ 1000) (h0 : weightsErr z n = 0) (hx : x < 0 ∨ (¬ x < 0 ∧ 200 < x) ∨ (¬ x < 0 ∧ ¬ 200 < x ∧ (4000 : Int) < (t.size : Int))) :
    Calls Tryz.prog 8 #[u, .string t, .int .i64 x] w fun e w' => e = .returned (.tuple #[.slice none 0 0, errV a 2]) ∧ Below w.heap.size w w' := by
  have hV := Valid_weights a u n z w hE hu (by omega)
  obtain ⟨ad, cap, rfl⟩ := hu.form
  rw [h0, errV_zero] at hV
  rw [errV_two]
  have cB := hE.c1
  clear hE hu h0
  rcases hx with h1 | ⟨h1, h2⟩ | ⟨h1, h2, h3⟩
  all_goals
    go_enter Tryz.func8, Tryz.ntmps8
    go_wp2_with fail
    refine hV.mono ?_
    rintro e w2 ⟨rfl, hw2⟩
    rw [hw2]
    clear hw2
    go_wp2_with fail
    go_region
    all_goals
      go_wp2_with fail
      go_ret2
      exact ⟨rfl, (Below.refl _ _).drew⟩
set_option maxRecDepth 100000 in
theorem Decode_text (a : Nat → Addr) (u : Value) (n : Nat) (z : Nat → Int) (t : ByteArray) (x : Int) (w : World) (hE : Errs w a) (hu : NumsAt w u n z) (hn : n ≤ 1000) (h0 : weightsErr z n = 0) (h1 : ¬ x < 0) (h2 : ¬ 200 < x) (h3 : ¬ (4000 : Int) < (t.size : Int)) (hb : bitB t = false) :
    Calls Tryz.prog 8 #[u, .string t, .int .i64 x] w fun e w' => e = .returned (.tuple #[.slice none 0 0, errV a 1]) ∧ Below w.heap.size w w' := by
  have hV := Valid_weights a u n z w hE hu (by omega)
  have hT := trim_other t w (by omega) hb
  obtain ⟨ad, cap, rfl⟩ := hu.form
  rw [h0, errV_zero] at hV
  have e1 : errV a 1 = .iface 150 (.pointer (some (a 0))) := rfl
  rw [e1]
  have HE := Hid.mk' hE
  clear hE hu h0 e1
  go_enter Tryz.func8, Tryz.ntmps8
  go_wp2_with fail
  refine hV.mono ?_
  clear hV
  rintro e w2 ⟨rfl, hw2⟩
  rw [hw2]
  clear hw2
  go_wp2_with fail
  refine hT.mono ?_
  clear hT
  rintro e w3 ⟨s3, rfl, hs3, hb3⟩
  have cT := (HE.out.below hb3).c0
  have HB3 := Hid.mk' hb3
  clear hb3
  go_wp2_with fail
  go_region
  all_goals
    go_wp2_with fail
    go_ret2
    exact ⟨rfl, HB3.out.drew⟩
set_option maxRecDepth 100000 in
set_option maxHeartbeats 8000000 in
theorem ArithDecode_all (a : Nat → Addr) (ad : Option Addr) (n cap : Nat) (z : Nat → Int) (t : ByteArray) (x : Int) (w : World) (hE : Errs w a) (h : NumsAt w (.slice ad n cap) n z) (hm : n ≤ maxLen) (hcap : n ≤ cap) (ht : t.size ≤ 9223372036854775807) :
    Calls Tryz.prog 3 #[.slice ad n cap, .string t, .int .i64 x] w fun e w' => e = .returned (.bool true) ∧ Below w.heap.size w w' := by
  have hC := quarter_any a w hE
  unfold maxLen at hm
  by_cases hn : n ≤ 100
  · have hd : decide (100 < (n : Int)) = false := decide_eq_false (by omega)
    by_cases hmid : 40 < t.size ∧ t.size ≤ 4000
    · have hI1 : (40 : Int) < (t.size : Int) := by omega
      have hI2 : (t.size : Int) ≤ 4000 := by omega
      clear hE h hmid
      go_enter Tryz.func3, Tryz.ntmps3
      go_wp2_with (first
        | (go_at_call 4; refine hC.mono ?_; rintro e w1 ⟨rfl, hb1⟩; have HB1 := Hid.mk' hb1; clear hb1))
      go_ret
      exact ⟨rfl, HB1.out⟩
    have HN : Hid (∀ W, Below w.heap.size w W → NumsAt W (.slice ad n cap) n z) := fun W hb => h.later hb
    have HWE : Hid (∀ W, Below w.heap.size w W → Calls Tryz.prog 5 #[.slice ad n cap] W fun e w' => e = .returned (.int .i64 (weightsErr z n : Int)) ∧ w' = W) := fun W hb => WeightsError_any _ n z W (h.later hb) (by omega)
    have HBT : Hid (∀ W, Calls Tryz.prog 6 #[.string t] W fun e w' => e = .returned (.bool (bitB t)) ∧ Below W.heap.size W w') := fun W => DocBits_any t W ht
    have hsz : (decide (40 < (t.size : Int)) = false) ∨ (decide (40 < (t.size : Int)) = true ∧ ¬ (t.size : Int) ≤ 4000) := by
      rcases Nat.lt_or_ge 40 t.size with h1 | h1
      · exact Or.inr ⟨decide_eq_true (by omega), by omega⟩
      · exact Or.inl (decide_eq_false (by omega))
    by_cases hwe : weightsErr z n ≠ 0
    · have HC1 := Hid.mk' (weightsErr_le z n)
      have HDE : Hid (∀ (W : World) (v : Value), Below w.heap.size w W → NumsAt W v n z → Calls Tryz.prog 8 #[v, .string t, .int .i64 x] W fun e w' => e = .returned (.tuple #[.slice none 0 0, errV a (weightsErr z n)]) ∧ Below W.heap.size W w') := fun W v hb hv => Decode_weights a v n z t x W (hE.below hb) hv (by omega) hwe
      obtain ⟨ec, hec⟩ : ∃ ec, ec = errV a (weightsErr z n) := ⟨_, rfl⟩
      have HK1 : Hid (∀ W, Below w.heap.size w W → Calls Tryz.prog 10 #[ec, .int .i64 (weightsErr z n : Int)] W fun e w' => e = .returned (.bool true) ∧ Below W.heap.size W w') := fun W hb => by rw [hec]; exact coded_errV a _ (by have := HC1.out; omega) W (hE.below hb)
      rw [← hec] at HDE
      generalize weightsErr z n = c at *
      have hcb : ((c : Int) == 0) = false := by rw [beq_eq_false_iff_ne]; omega
      clear hE h hec
      rcases hsz with hs1 | ⟨hs1, hs2⟩
      all_goals
        go_enter Tryz.func3, Tryz.ntmps3
        go_wp2_with (first
          | (go_at_call 4; refine hC.mono ?_; rintro e w1 ⟨rfl, hb1⟩; have HB1 := Hid.mk' hb1; clear hb1)
          | (go_at_call 5; refine (HWE.out w1 HB1.out).mono ?_; rintro e w2 ⟨rfl, hw2⟩; rw [hw2]; clear hw2)
          | (go_at_call 9; refine (ints_room _ n z w1 (HN.out _ HB1.out) (by omega)).mono ?_; rintro e w4 ⟨ad4, cap4, rfl, hv4, hb4⟩; have HV4 := Hid.mk' hv4; have HB4 := Hid.mk' (below_chain HB1.out hb4); clear hv4 hb4)
          | (go_at_call 8; refine (HDE.out w4 _ HB4.out HV4.out).mono ?_; rintro e w5 ⟨rfl, hb5⟩; have HB5 := Hid.mk' (below_chain HB4.out hb5); clear hb5)
          | (go_at_call_of 10 ec; refine (HK1.out w5 HB5.out).mono ?_; rintro e w6 ⟨rfl, hb6⟩; have HB6 := Hid.mk' (below_chain HB5.out hb6); clear hb6)
          | (go_at_call 11; refine (SameInts_any (.slice none 0 0) (.slice none 0 0) 0 z w6 (Or.inl ⟨_, _, rfl, rfl⟩) (Or.inl ⟨_, _, rfl, rfl⟩) (by omega)).mono ?_; rintro e w7 ⟨rfl, hb7⟩; have HB7 := Hid.mk' (below_chain HB6.out hb7); clear hb7))
        go_ret
        exact ⟨rfl, HB7.out⟩
    have hwe0 : weightsErr z n = 0 := by omega
    rw [hwe0] at HWE
    by_cases hbd : x < 0 ∨ (¬ x < 0 ∧ 200 < x) ∨ (¬ x < 0 ∧ ¬ 200 < x ∧ (4000 : Int) < (t.size : Int))
    · skip
      have HDE : Hid (∀ (W : World) (v : Value), Below w.heap.size w W → NumsAt W v n z → Calls Tryz.prog 8 #[v, .string t, .int .i64 x] W fun e w' => e = .returned (.tuple #[.slice none 0 0, errV a 2]) ∧ Below W.heap.size W w') := fun W v hb hv => Decode_bound a v n z t x W (hE.below hb) hv (by omega) hwe0 hbd
      obtain ⟨ec, hec⟩ : ∃ ec, ec = errV a 2 := ⟨_, rfl⟩
      have HK1 : Hid (∀ W, Below w.heap.size w W → Calls Tryz.prog 10 #[ec, .int .i64 2] W fun e w' => e = .returned (.bool true) ∧ Below W.heap.size W w') := fun W hb => by rw [hec]; exact coded_errV a 2 (by decide) W (hE.below hb)
      rw [← hec] at HDE
      clear hE h hec hwe hwe0
      rcases hsz with hs1 | ⟨hs1, hs2⟩ <;> rcases hbd with b1 | ⟨b1, b2⟩ | ⟨b1, b2, b3⟩
      all_goals
        go_enter Tryz.func3, Tryz.ntmps3
        go_wp2_with (first
          | (go_at_call 4; refine hC.mono ?_; rintro e w1 ⟨rfl, hb1⟩; have HB1 := Hid.mk' hb1; clear hb1)
          | (go_at_call 5; refine (HWE.out w1 HB1.out).mono ?_; rintro e w2 ⟨rfl, hw2⟩; rw [hw2]; clear hw2)
          | (go_at_call 9; refine (ints_room _ n z w1 (HN.out _ HB1.out) (by omega)).mono ?_; rintro e w4 ⟨ad4, cap4, rfl, hv4, hb4⟩; have HV4 := Hid.mk' hv4; have HB4 := Hid.mk' (below_chain HB1.out hb4); clear hv4 hb4)
          | (go_at_call 8; refine (HDE.out w4 _ HB4.out HV4.out).mono ?_; rintro e w5 ⟨rfl, hb5⟩; have HB5 := Hid.mk' (below_chain HB4.out hb5); clear hb5)
          | (go_at_call_of 10 ec; refine (HK1.out w5 HB5.out).mono ?_; rintro e w6 ⟨rfl, hb6⟩; have HB6 := Hid.mk' (below_chain HB5.out hb6); clear hb6)
          | (go_at_call 11; refine (SameInts_any (.slice none 0 0) (.slice none 0 0) 0 z w6 (Or.inl ⟨_, _, rfl, rfl⟩) (Or.inl ⟨_, _, rfl, rfl⟩) (by omega)).mono ?_; rintro e w7 ⟨rfl, hb7⟩; have HB7 := Hid.mk' (below_chain HB6.out hb7); clear hb7))
        go_ret
        exact ⟨rfl, HB7.out⟩
    have hx0 : ¬ x < 0 := fun e => hbd (Or.inl e)
    have hx1 : ¬ 200 < x := fun e => hbd (Or.inr (Or.inl ⟨hx0, e⟩))
    have hx2 : ¬ (4000 : Int) < (t.size : Int) := fun e => hbd (Or.inr (Or.inr ⟨hx0, hx1, e⟩))
    have hs1 : decide (40 < (t.size : Int)) = false := by
      rcases hsz with e | ⟨_, e⟩
      · exact e
      · omega
    have ht40 : t.size ≤ 40 := by have := of_decide_eq_false hs1; omega
    clear hsz hbd hmid
    cases hbit : bitB t with
    | false =>
      have HDE : Hid (∀ (W : World) (v : Value), Below w.heap.size w W → NumsAt W v n z → Calls Tryz.prog 8 #[v, .string t, .int .i64 x] W fun e w' => e = .returned (.tuple #[.slice none 0 0, errV a 1]) ∧ Below W.heap.size W w') := fun W v hb hv => Decode_text a v n z t x W (hE.below hb) hv (by omega) hwe0 hx0 hx1 hx2 hbit
      obtain ⟨ec, hec⟩ : ∃ ec, ec = errV a 1 := ⟨_, rfl⟩
      have HK1 : Hid (∀ W, Below w.heap.size w W → Calls Tryz.prog 10 #[ec, .int .i64 1] W fun e w' => e = .returned (.bool true) ∧ Below W.heap.size W w') := fun W hb => by rw [hec]; exact coded_errV a 1 (by decide) W (hE.below hb)
      rw [← hec] at HDE
      rw [hbit] at HBT
      clear hE h hec hwe hwe0 hbit
      all_goals
        go_enter Tryz.func3, Tryz.ntmps3
        go_wp2_with (first
          | (go_at_call 4; refine hC.mono ?_; rintro e w1 ⟨rfl, hb1⟩; have HB1 := Hid.mk' hb1; clear hb1)
          | (go_at_call 5; refine (HWE.out w1 HB1.out).mono ?_; rintro e w2 ⟨rfl, hw2⟩; rw [hw2]; clear hw2)
          | (go_at_call 6; refine (HBT.out w1).mono ?_; rintro e w3 ⟨rfl, hb3⟩; have HB3 := Hid.mk' (below_chain HB1.out hb3); clear hb3)
          | (go_at_call 9; refine (ints_room _ n z w3 (HN.out _ HB3.out) (by omega)).mono ?_; rintro e w4 ⟨ad4, cap4, rfl, hv4, hb4⟩; have HV4 := Hid.mk' hv4; have HB4 := Hid.mk' (below_chain HB3.out hb4); clear hv4 hb4)
          | (go_at_call 8; refine (HDE.out w4 _ HB4.out HV4.out).mono ?_; rintro e w5 ⟨rfl, hb5⟩; have HB5 := Hid.mk' (below_chain HB4.out hb5); clear hb5)
          | (go_at_call_of 10 ec; refine (HK1.out w5 HB5.out).mono ?_; rintro e w6 ⟨rfl, hb6⟩; have HB6 := Hid.mk' (below_chain HB5.out hb6); clear hb6)
          | (go_at_call 11; refine (SameInts_any (.slice none 0 0) (.slice none 0 0) 0 z w6 (Or.inl ⟨_, _, rfl, rfl⟩) (Or.inl ⟨_, _, rfl, rfl⟩) (by omega)).mono ?_; rintro e w7 ⟨rfl, hb7⟩; have HB7 := Hid.mk' (below_chain HB6.out hb7); clear hb7))
        go_ret
        exact ⟨rfl, HB7.out⟩
    | true =>
      rw [hbit] at HBT
      by_cases hx12 : 12 < x
      · clear hE h hwe hwe0 hbit
        go_enter Tryz.func3, Tryz.ntmps3
        go_wp2_with (first
          | (go_at_call 4; refine hC.mono ?_; rintro e w1 ⟨rfl, hb1⟩; have HB1 := Hid.mk' hb1; clear hb1)
          | (go_at_call 5; refine (HWE.out w1 HB1.out).mono ?_; rintro e w2 ⟨rfl, hw2⟩; rw [hw2]; clear hw2)
          | (go_at_call 6; refine (HBT.out w1).mono ?_; rintro e w3 ⟨rfl, hb3⟩; have HB3 := Hid.mk' (below_chain HB1.out hb3); clear hb3))
        go_ret
        exact ⟨rfl, HB3.out⟩
      · obtain ⟨N, rfl⟩ : ∃ N : Nat, x = (N : Int) := ⟨x.toNat, by omega⟩
        have hN12 : N ≤ 12 := by omega
        have hok : OkW z n ∧ n ≤ 16 := ⟨(weightsErr_ok hwe0).2, (weightsErr_ok hwe0).1⟩
        obtain ⟨S, hS⟩ : ∃ S : Nat, sumN z n = (S : Int) := ⟨(sumN z n).toNat, by have := hok.1.pos; omega⟩
        obtain ⟨b, o, rfl, hrow⟩ := h.rowOf hok.1.posN
        have HDM : Hid (∀ W, Below w.heap.size w W → Calls Tryz.prog 7 #[.slice (some ⟨b, o, none⟩) n cap, .string t, .int .i64 (N : Int)] W fun e w' => ∃ ad5 cap5, e = .returned (.slice ad5 N cap5) ∧ NumsAt w' (.slice ad5 N cap5) N (fun k => (symK z n S (valT t t.size) (2 ^ t.size) k : Int)) ∧ Below W.heap.size W w') := fun W hb => by
          refine (DecodeMessage_any b o cap n S N t z W (hrow.later hb) hcap hok.1 hok.2 hS hN12 ht40 (fun i hi => bit_at hi hbit)).mono ?_
          rintro e w' ⟨v, rfl, hv, hbw⟩
          obtain ⟨a5, c5, rfl⟩ := hv.form
          exact ⟨a5, c5, rfl, hv, hbw⟩
        have HDE : Hid (∀ (W : World) (ad4 : Option Addr) (cap4 : Nat), Below w.heap.size w W → NumsAt W (.slice ad4 n cap4) n z → Calls Tryz.prog 8 #[.slice ad4 n cap4, .string t, .int .i64 (N : Int)] W fun e w' => ∃ ad6 cap6, e = .returned (.tuple #[.slice ad6 N cap6, .nilIface]) ∧ NumsAt w' (.slice ad6 N cap6) N (fun k => (symK z n S (valT t t.size) (2 ^ t.size) k : Int)) ∧ Below W.heap.size W w') := fun W ad4 cap4 hb hv => by
          obtain ⟨b4, o4, rfl, hrow4⟩ := hv.rowOf hok.1.posN
          refine (Decode_ok a b4 o4 cap4 n S N t z W (hE.below hb) hrow4 hwe0 hS (by omega) (by omega) hbit).mono ?_
          rintro e w' ⟨v, rfl, hv6, hbw⟩
          obtain ⟨a6, c6, rfl⟩ := hv6.form
          exact ⟨a6, c6, rfl, hv6, hbw⟩
        have HK1 : Hid (∀ W, Below w.heap.size w W → Calls Tryz.prog 10 #[.nilIface, .int .i64 0] W fun e w' => e = .returned (.bool true) ∧ Below W.heap.size W w') := fun W hb => coded_errV a 0 (by decide) W (hE.below hb)
        generalize (fun k => (symK z n S (valT t t.size) (2 ^ t.size) k : Int)) = sq at *
        clear hE h hwe hwe0 hbit hrow hS hok
        go_enter Tryz.func3, Tryz.ntmps3
        go_wp2_with (first
          | (go_at_call 4; refine hC.mono ?_; rintro e w1 ⟨rfl, hb1⟩; have HB1 := Hid.mk' hb1; clear hb1)
          | (go_at_call 5; refine (HWE.out w1 HB1.out).mono ?_; rintro e w2 ⟨rfl, hw2⟩; rw [hw2]; clear hw2)
          | (go_at_call 6; refine (HBT.out w1).mono ?_; rintro e w3 ⟨rfl, hb3⟩; have HB3 := Hid.mk' (below_chain HB1.out hb3); clear hb3)
          | (go_at_call 7; refine (HDM.out w3 HB3.out).mono ?_; rintro e w4 ⟨ad4, cap4, rfl, hv4, hb4⟩; have HV4 := Hid.mk' hv4; have HB4 := Hid.mk' (below_chain HB3.out hb4); clear hv4 hb4)
          | (go_at_call 9; refine (ints_room _ n z w4 (HN.out _ HB4.out) (by omega)).mono ?_; rintro e w5 ⟨ad5, cap5, rfl, hv5, hb5⟩; have HV5 := Hid.mk' hv5; have HV45 := Hid.mk' (HV4.out.later hb5); have HB5 := Hid.mk' (below_chain HB4.out hb5); clear hv5 hb5)
          | (go_at_call 8; refine (HDE.out w5 _ _ HB5.out HV5.out).mono ?_; rintro e w6 ⟨ad6, cap6, rfl, hv6, hb6⟩; have HV6 := Hid.mk' hv6; have HV46 := Hid.mk' (HV45.out.later hb6); have HB6 := Hid.mk' (below_chain HB5.out hb6); clear hv6 hb6)
          | (go_at_call 10; refine (HK1.out w6 HB6.out).mono ?_; rintro e w7 ⟨rfl, hb7⟩; have HV47 := Hid.mk' (HV46.out.later hb7); have HV67 := Hid.mk' (HV6.out.later hb7); have HB7 := Hid.mk' (below_chain HB6.out hb7); clear hb7)
          | (go_at_call 11; refine (SameInts_any _ _ N sq w7 HV67.out HV47.out (by omega)).mono ?_; rintro e w8 ⟨rfl, hb8⟩; have HB8 := Hid.mk' (below_chain HB7.out hb8); clear hb8))
        go_ret
        exact ⟨rfl, HB8.out⟩
  · have hd : decide (100 < (n : Int)) = true := decide_eq_true (by omega)
    clear hE h
    go_enter Tryz.func3, Tryz.ntmps3
    go_wp2_with (first
      | (go_at_call 4; refine hC.mono ?_; rintro e w1 ⟨rfl, hb1⟩; have HB1 := Hid.mk' hb1; clear hb1))
    go_ret
    exact ⟨rfl, HB1.out⟩
end Go.Proofs.YtncgpldfenkiiaaGreatDoor

/- What the rows' condition on package variables gives a walk: eight different sentinels with their texts, and the handle of the type error; the tables of unicode/utf8 are listed besides. -/
namespace Go.Proofs.YtncgpldfenkiiaaGreatDoor
open Go.ChangeShapes Go.WideShapes Go.RowKit

theorem Tryz.own : ownKnob Tryz.prog.godebug = none := by kernel_rfl
theorem Tryz.et : Tryz.prog.globalNamed "errors.errorType" = some 8 := by kernel_rfl
theorem Tryz.rt : (Tryz.prog.cutTypes.find? (·.1 == "internal/reflectlite.rtype")).map (·.2) = some 128 := by kernel_rfl
theorem Tryz.oneRow : ((List.range 183).filter fun t => Tryz.prog.rowNamed t [101, 114, 114, 111, 114]) = [28] := by kernel_rfl
theorem Tryz.size : Tryz.prog.types.size = 183 := by kernel_rfl
theorem Tryz.star : ("*" ++ "errors.errorString" : String) = "*errors.errorString" := by decide
theorem Tryz.rowE (u : TypeId) (h : Tryz.prog.typeName? 3 u = some "*errors.errorString") : u = 150 :=
  typeName_ptr_named (nm := "errors.errorString") (by rw [Tryz.star]; kernel_rfl) (by kernel_rfl) (by decide) u (by rw [Tryz.star]; exact h)
theorem Tryz.cellsE : Tryz.prog.cellsOf 171 = 1 := by kernel_rfl
theorem Tryz.cellsS : Tryz.prog.cellsOf 9 = 1 := by kernel_rfl
theorem Tryz.g0 : Tryz.prog.globalNamed "demon/api.ErrText" = some 1 := by kernel_rfl
theorem Tryz.g1 : Tryz.prog.globalNamed "demon/api.ErrBound" = some 0 := by kernel_rfl
theorem Tryz.g2 : Tryz.prog.globalNamed "demon/api.ErrShape" = some 2 := by kernel_rfl
theorem Tryz.g3 : Tryz.prog.globalNamed "demon/api.ErrZero" = some 3 := by kernel_rfl
theorem Tryz.g4 : Tryz.prog.globalNamed "demon/api.ErrName" = some 4 := by kernel_rfl
theorem Tryz.g5 : Tryz.prog.globalNamed "demon/api.ErrNone" = some 5 := by kernel_rfl
theorem Tryz.g6 : Tryz.prog.globalNamed "demon/api.ErrOrder" = some 6 := by kernel_rfl
theorem Tryz.g7 : Tryz.prog.globalNamed "demon/api.ErrKind" = some 7 := by kernel_rfl

/-- Any number of listed sentinels of one type: each one's pointer, text and row; no two are one. -/
theorem laid_list {P : Program} {W : World} {nm : String} {ti tp te ts : TypeId} {ms : Array (String × TypeId)} {f : Field}
    (hi : P.underlying ti = some (.interface ms)) (hrow : ∀ u, P.typeName? 3 u = some nm → u = tp)
    (hp : P.underlying tp = some (.pointer te)) (he : P.underlying te = some (.struct #[f])) (hft : f.type = ts) (hfo : f.offset = 0) (hs : P.underlying ts = some .string) (hc : P.cellsOf te = 1) (hcs : P.cellsOf ts = 1) :
    ∀ (L : List (String × List UInt8)) (ps : List MemPlace), (∀ x, x ∈ L → ∃ g, P.globalNamed x.1 = some g ∧ (P.globals[g]?).map (·.type) = some ti) →
      DataW.LaidVars P W (L.map fun x => (x.1, .iface nm (.ptr (.agg [.lit (.string x.2)])))) ps → ps.Nodup →
      (∀ b off, MemPlace.cell b off ∈ ps → (∃ c t, W.heap[b]? = some (.cells c t (0, 0))) ∧ ∀ u v, W.cell? ⟨b, off, none⟩ = some (.iface u v) → Value.okWide P W .any 0 u v) →
      ∃ a : Nat → Addr, (∀ i x, L[i]? = some x → W.var? P x.1 = some #[.iface tp (.pointer (some (a i)))] ∧ (∃ s, W.cell? (a i) = some (.string s) ∧ s.data.toList = x.2) ∧
          (∃ c t, W.heap[(a i).block]? = some (.cells c t (0, 0))) ∧ MemPlace.cell (a i).block (a i).off ∈ ps) ∧
        ∀ i j, i < L.length → j < L.length → i ≠ j → a i ≠ a j := by
  intro L
  induction L with
  | nil => intro ps _ _ _ _; exact ⟨fun _ => default, fun i x h => by simp at h, fun i j h => by simp at h⟩
  | cons x r ih =>
    intro ps hgs hv hnd hrows
    obtain ⟨n, text⟩ := x
    obtain ⟨g0, t0, cs0, f0, p0, q0, hg0, ht0, hv0, hd0, hvr, e0⟩ := hv
    obtain ⟨g, hg, ht⟩ := hgs (n, text) (List.mem_cons_self ..)
    obtain rfl := Option.some.inj (hg.symm.trans hg0)
    obtain rfl := Option.some.inj (ht.symm.trans ht0)
    subst e0
    obtain ⟨l0⟩ := cs0
    have ok0 : ∀ u v, l0 = [.iface u v] → Value.okWide P W .any 0 u v := fun u v e => by
      subst e
      exact (hrows g 0 (by simp [MemPlace.row])).2 u v (by simpa using World.var?_cell hg0 hv0 0)
    obtain ⟨a0, s0, rfl, hc0, hs0, hz0, rfl⟩ := errorString_of_trod hi hrow hp he hft hfo hs hc hcs hd0 ok0
    obtain ⟨c0, tt0, hb0⟩ := (hrows a0.block a0.off (by simp [MemPlace.row])).1
    have hnq : q0.Nodup := List.Nodup.sublist (List.sublist_append_right _ _) hnd
    obtain ⟨a', ha', hne'⟩ := ih q0 (fun x hx => hgs x (List.mem_cons_of_mem _ hx)) hvr hnq (fun b off hm => hrows b off (List.mem_append_right _ hm))
    have hnot : MemPlace.cell a0.block a0.off ∉ q0 := by
      intro hm
      have := (List.nodup_append.1 hnd).2.2
      exact this (.cell a0.block a0.off) (by simp [MemPlace.row]) (.cell a0.block a0.off) hm rfl
    refine ⟨fun i => match i with | 0 => a0 | k + 1 => a' k, ?_, ?_⟩
    · intro i x hx
      cases i with
      | zero =>
        simp only [List.getElem?_cons_zero, Option.some.injEq] at hx
        subst hx
        exact ⟨hv0, ⟨s0, hc0, hs0⟩, ⟨c0, tt0, hb0⟩, by simp [MemPlace.row]⟩
      | succ k =>
        simp only [List.getElem?_cons_succ] at hx
        obtain ⟨h1, h2, h3, h4⟩ := ha' k x hx
        exact ⟨h1, h2, h3, List.mem_append_right _ h4⟩
    · have far : ∀ k, k < r.length → a0 ≠ a' k := fun k hk e => by
        obtain ⟨_, _, _, h4⟩ := ha' k r[k] (by simp [hk])
        rw [← e] at h4
        exact hnot h4
      intro i j hi' hj' hij
      cases i with
      | zero =>
        cases j with
        | zero => exact absurd rfl hij
        | succ k => exact far k (by simpa using hj')
      | succ m =>
        cases j with
        | zero => exact (far m (by simpa using hi')).symm
        | succ k => exact hne' m k (by simpa using hi') (by simpa using hj') (by omega)

/-- The names and texts, in the rows' order. -/
def eightNames : List (String × List UInt8) := [("demon/api.ErrText", [100, 101, 109, 111, 110, 58, 32, 116, 101, 120, 116]), ("demon/api.ErrBound", [100, 101, 109, 111, 110, 58, 32, 98, 111, 117, 110, 100]), ("demon/api.ErrShape", [100, 101, 109, 111, 110, 58, 32, 115, 104, 97, 112, 101]), ("demon/api.ErrZero", [100, 101, 109, 111, 110, 58, 32, 122, 101, 114, 111]), ("demon/api.ErrName", [100, 101, 109, 111, 110, 58, 32, 110, 97, 109, 101]), ("demon/api.ErrNone", [100, 101, 109, 111, 110, 58, 32, 110, 111, 110, 101]), ("demon/api.ErrOrder", [100, 101, 109, 111, 110, 58, 32, 111, 114, 100, 101, 114]), ("demon/api.ErrKind", [100, 101, 109, 111, 110, 58, 32, 107, 105, 110, 100])]
def laidAll : List (String × DataW Unit) := [("unicode/utf8.acceptRanges", Rows.laid_unicode_utf8_acceptRanges), ("errors.errorType", Rows.laid_errors_errorType), ("demon/api.ErrText", Rows.laid_demon_api_ErrText), ("demon/api.ErrBound", Rows.laid_demon_api_ErrBound), ("demon/api.ErrShape", Rows.laid_demon_api_ErrShape), ("demon/api.ErrZero", Rows.laid_demon_api_ErrZero), ("demon/api.ErrName", Rows.laid_demon_api_ErrName), ("demon/api.ErrNone", Rows.laid_demon_api_ErrNone), ("demon/api.ErrOrder", Rows.laid_demon_api_ErrOrder), ("demon/api.ErrKind", Rows.laid_demon_api_ErrKind), ("unicode/utf8.first", Rows.laid_unicode_utf8_first)]
theorem laidAll_parts (W : World) : laidMetH Tryz.prog laidAll W = (laidMet Tryz.prog ([("unicode/utf8.acceptRanges", Rows.laid_unicode_utf8_acceptRanges)] ++ ((eightNames.map fun x => (x.1, .iface "*errors.errorString" (.ptr (.agg [.lit (.string x.2)])))) ++ [("unicode/utf8.first", Rows.laid_unicode_utf8_first)])) W ∧ handlesMet Tryz.prog [("errors.errorType", Rows.laid_errors_errorType)] W) := by kernel_rfl

theorem var_at {W : World} {n : String} {g : Nat} {v : Value} (hg : Tryz.prog.globalNamed n = some g) (h : W.var? Tryz.prog n = some #[v]) : W.cell? ⟨g, 0, none⟩ = some v := by
  simpa using World.var?_cell hg h 0

theorem laid_tail {P : Program} {W : World} {x : String × DataW Unit} {L : List (String × DataW Unit)} (h : laidMet P (x :: L) W) : laidMet P L W := by
  obtain ⟨n, d⟩ := x
  obtain ⟨ps, hv, hnd, hrows⟩ := h
  obtain ⟨g, t, cs, f, p, q, _, _, _, _, hvr, e⟩ := hv
  subst e
  exact ⟨q, hvr, List.Nodup.sublist (List.sublist_append_right _ _) hnd, fun b off hm => hrows b off (List.mem_append_right _ hm)⟩
theorem vars_front {P : Program} {W : World} : ∀ (L B : List (String × DataW Unit)) (ps : List MemPlace), DataW.LaidVars P W (L ++ B) ps → ∃ p1 p2, ps = p1 ++ p2 ∧ DataW.LaidVars P W L p1
  | [], B, ps, _ => ⟨[], ps, rfl, rfl⟩
  | (n, d) :: L, B, ps, h => by
    obtain ⟨g, t, cs, f, p, q, h1, h2, h3, h4, hvr, e⟩ := h
    obtain ⟨p1, p2, e2, h5⟩ := vars_front L B q hvr
    exact ⟨(MemPlace.row ⟨g, 0, none⟩ cs.size ++ p) ++ p1, p2, by rw [e, e2, ← List.append_assoc], g, t, cs, f, p, p1, h1, h2, h3, h4, h5, rfl⟩
theorem laid_front {P : Program} {W : World} {L B : List (String × DataW Unit)} (h : laidMet P (L ++ B) W) : laidMet P L W := by
  obtain ⟨ps, hv, hnd, hrows⟩ := h
  obtain ⟨p1, p2, e, h5⟩ := vars_front L B ps hv
  subst e
  exact ⟨p1, h5, List.Nodup.sublist (List.sublist_append_left _ _) hnd, fun b off hm => hrows b off (List.mem_append_left _ hm)⟩
theorem errs_of_laid {W : World} (h : laidMetH Tryz.prog laidAll W) : ∃ a : Nat → Addr, Errs W a ∧ ∀ i x, eightNames[i]? = some x → ∃ s, W.cell? (a i) = some (.string s) ∧ s.data.toList = x.2 := by
  rw [laidAll_parts] at h
  obtain ⟨hl0, hh⟩ := h
  obtain ⟨ps, hv, hnd, hrows⟩ := laid_front (L := eightNames.map fun x => (x.1, .iface "*errors.errorString" (.ptr (.agg [.lit (.string x.2)])))) (laid_tail hl0)
  obtain ⟨name, u, ty, e1, e2, e3, e4, e5⟩ := hh _ (List.mem_singleton.2 rfl)
  have en : name = [101, 114, 114, 111, 114] := (Option.some.inj e1).symm
  subst en
  obtain rfl := Option.some.inj (Tryz.rt.symm.trans e2)
  have hm : ty ∈ (List.range 183).filter fun t => Tryz.prog.rowNamed t [101, 114, 114, 111, 114] := List.mem_filter.2 ⟨List.mem_range.2 (by rw [← Tryz.size]; exact e3), e4⟩
  rw [Tryz.oneRow] at hm
  obtain rfl := List.mem_singleton.1 hm
  have hth : typeHandle Tryz.prog 28 = .pointer (some ⟨12, 28, none⟩) := by kernel_rfl
  rw [hth] at e5
  obtain ⟨a, ha, hne⟩ := laid_list Tryz.underlying28 Tryz.rowE Tryz.underlying150 Tryz.underlying171 rfl rfl Tryz.underlying9 Tryz.cellsE Tryz.cellsS eightNames ps
    (fun x hx => by
      simp only [eightNames, List.mem_cons, List.not_mem_nil, or_false] at hx
      rcases hx with rfl | rfl | rfl | rfl | rfl | rfl | rfl | rfl
      · exact ⟨_, Tryz.g0, by kernel_rfl⟩
      · exact ⟨_, Tryz.g1, by kernel_rfl⟩
      · exact ⟨_, Tryz.g2, by kernel_rfl⟩
      · exact ⟨_, Tryz.g3, by kernel_rfl⟩
      · exact ⟨_, Tryz.g4, by kernel_rfl⟩
      · exact ⟨_, Tryz.g5, by kernel_rfl⟩
      · exact ⟨_, Tryz.g6, by kernel_rfl⟩
      · exact ⟨_, Tryz.g7, by kernel_rfl⟩) hv hnd hrows
  refine ⟨a, ⟨var_at Tryz.g0 (ha 0 _ rfl).1, var_at Tryz.g1 (ha 1 _ rfl).1, var_at Tryz.g2 (ha 2 _ rfl).1, var_at Tryz.g3 (ha 3 _ rfl).1, var_at Tryz.g4 (ha 4 _ rfl).1, var_at Tryz.g5 (ha 5 _ rfl).1, var_at Tryz.g6 (ha 6 _ rfl).1, var_at Tryz.g7 (ha 7 _ rfl).1, var_at Tryz.et e5, ?_, ?_⟩, fun i x hx => (ha i x hx).2.1⟩
  · intro i hi
    have hl : eightNames.length = 8 := rfl
    exact (ha i eightNames[i] (List.getElem?_eq_getElem (by omega))).2.2.1
  · intro i j hi hj hij
    exact hne i j hi hj hij

/-- The door's own heap meets the condition. -/
theorem door_met (os : Os) (args : Array Value) : laidMetH Tryz.prog laidAll ((World.layVars Tryz.prog (World.doorLaid Tryz.prog 178 os) [("unicode/utf8.first", Rows.laid_unicode_utf8_first)]).forCall (fun _ _ => 0) ⟨#[], args, []⟩).memory :=
  laidMetH_of_parts3 (fuel := 8) (laidMet_of_run' 8 (by kernel_rfl) (by kernel_rfl)) (by kernel_rfl) (by kernel_rfl)
end Go.Proofs.YtncgpldfenkiiaaGreatDoor

/- A parameter of type []int opened. -/
namespace Go.Proofs.YtncgpldfenkiiaaGreatDoor
open Go.ChangeShapes Go.WideShapes Go.ChangeAt Go.RowKit Go.Joins Go.Deep

theorem Tryz.laidOut : laidOutB Tryz.prog = true := by kernel_rfl
theorem Tryz.cellsInt : Tryz.prog.cellsOf 3 = 1 := by kernel_rfl
theorem Tryz.cellsInts : Tryz.prog.cellsOf 22 = 1 := by kernel_rfl

set_option maxRecDepth 100000 in
/-- What a parameter of type []int gives: its slice, its numbers. -/
theorem open_nums {H : Type} {enc : TypeId × Value → H} {W : World} {base : Nat} {v : Value} {d : DataW H} {p : List MemPlace} (hv : Value.okWide Tryz.prog W .any base 22 v)
    (h : DataW.Trod enc Tryz.prog W 0 (fun _ => true) true 22 v d p) :
    ∃ (ad : Option Addr) (n cap : Nat) (z : Nat → Int), v = .slice ad n cap ∧ n ≤ maxLen ∧ NumsAt W (.slice ad n cap) n z := by
  obtain ⟨ad, n, cap, rfl⟩ := okWide_slice Tryz.underlying22 hv
  obtain ⟨fuel, hf⟩ := h
  rcases open_ints Tryz.underlying22 Tryz.underlying3 Tryz.cellsInt hf with ⟨hc, _⟩ | ⟨a, len, cap', zs, hc, _, hl, hm, hz, _, hcell, _⟩
  · simp [Value.cells] at hc
    obtain ⟨rfl, rfl, rfl⟩ := hc
    exact ⟨none, 0, 0, fun _ => 0, rfl, Nat.zero_le _, Or.inl ⟨none, 0, rfl, rfl⟩⟩
  · simp [Value.cells] at hc
    obtain ⟨rfl, rfl, rfl⟩ := hc
    simp only [if_true] at hz
    rcases Nat.eq_zero_or_pos n with rfl | hpos
    · exact ⟨some a, 0, cap, fun _ => 0, rfl, Nat.zero_le _, Or.inl ⟨some a, cap, rfl, rfl⟩⟩
    · obtain ⟨b, o, spot⟩ := a
      have hspot : spot = none := by simpa [Addr.add] using World.cell?_spot (hcell 0 (by omega))
      subst hspot
      refine ⟨_, n, cap, fun i => zs.getD i 0, rfl, by omega, Or.inr ⟨b, o, cap, rfl, hpos, fun i hi => ?_⟩⟩
      have := hcell i (by omega)
      rw [Go.Proofs.YtncgpldfenkiiaaGreatDoor.add_plain] at this
      exact this
end Go.Proofs.YtncgpldfenkiiaaGreatDoor

/- A parameter of type []int opened, with its room. -/
namespace Go.Proofs.YtncgpldfenkiiaaGreatDoor
open Go.ChangeShapes Go.WideShapes Go.ChangeAt Go.RowKit Go.Joins Go.Deep

set_option maxRecDepth 100000 in
/-- What a parameter of type []int gives: its slice, its numbers, and that there is room for them. -/
theorem open_room {H : Type} {enc : TypeId × Value → H} {W : World} {base : Nat} {v : Value} {d : DataW H} {p : List MemPlace} (hv : Value.okWide Tryz.prog W .any base 22 v)
    (h : DataW.Trod enc Tryz.prog W 0 (fun _ => true) true 22 v d p) :
    ∃ (ad : Option Addr) (n cap : Nat) (z : Nat → Int), v = .slice ad n cap ∧ n ≤ maxLen ∧ NumsAt W (.slice ad n cap) n z ∧ n ≤ cap := by
  obtain ⟨ad, n, cap, rfl⟩ := okWide_slice Tryz.underlying22 hv
  obtain ⟨fuel, hf⟩ := h
  rcases open_ints Tryz.underlying22 Tryz.underlying3 Tryz.cellsInt hf with ⟨hc, _⟩ | ⟨a, len, cap', zs, hc, _, hl, hm, hz, _, hcell, _⟩
  · simp [Value.cells] at hc
    obtain ⟨rfl, rfl, rfl⟩ := hc
    exact ⟨none, 0, 0, fun _ => 0, rfl, Nat.zero_le _, Or.inl ⟨none, 0, rfl, rfl⟩, Nat.zero_le _⟩
  · simp [Value.cells] at hc
    obtain ⟨rfl, rfl, rfl⟩ := hc
    simp only [if_true] at hz
    rcases Nat.eq_zero_or_pos n with rfl | hpos
    · exact ⟨some a, 0, cap, fun _ => 0, rfl, Nat.zero_le _, Or.inl ⟨some a, cap, rfl, rfl⟩, Nat.zero_le _⟩
    · obtain ⟨b, o, spot⟩ := a
      have hspot : spot = none := by simpa [Addr.add] using World.cell?_spot (hcell 0 (by omega))
      subst hspot
      refine ⟨_, n, cap, fun i => zs.getD i 0, rfl, by omega, Or.inr ⟨b, o, cap, rfl, hpos, fun i hi => ?_⟩, by omega⟩
      have := hcell i (by omega)
      rw [Go.Proofs.YtncgpldfenkiiaaGreatDoor.add_plain] at this
      exact this
end Go.Proofs.YtncgpldfenkiiaaGreatDoor
