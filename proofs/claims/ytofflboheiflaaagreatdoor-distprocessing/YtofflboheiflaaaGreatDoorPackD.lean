/- dist.Merge. -/
import Derived.Test.YtofflboheiflaaaGreatDoorPackC
import Derived.Test.YtofflboheiflaaaGreatDoorPackB
import Derived.Test.YtofflboheiflaaaGreatDoorCode
import Derived.Test.YtofflboheiflaaaGreatDoorWeights
import Derived.Test.YtofflboheiflaaaGreatDoorRows
import Derived.ChangeSame
import Derived.ChangeVars
import Derived.JoinedOf
import Derived.LaidLaws
import Derived.LaidHandle
import Derived.LaidMore
import Derived.Stop.Joined
import Derived.Test.YtofflboheiflaaaGreatDoorInts
import Derived.Test.YtofflboheiflaaaGreatDoorCards
import Derived.Test.YtofflboheiflaaaGreatDoorTie
import Derived.SevenTiedAt
import Derived.ProofKit
import Derived.OpenShut
import Derived.ChangeOld
import Derived.Lib.SmallJoins
import Derived.Deep.Matrix
namespace Go.Proofs.YtofflboheiflaaaGreatDoor
open Go.RowKit

set_option maxRecDepth 100000 in
theorem Merge_weights (a : Nat → Addr) (v u : Value) (n m : Nat) (z t : Nat → Int) (w : World) (hE : Errs w a) (h : NumsAt w v n z) (k : NumsAt w u m t) (hn : n ≤ 400) (h0 : weightsErr z n ≠ 0) :
    Calls Tryz.prog 21 #[v, u] w fun e w' => e = .returned (.tuple #[.slice none 0 0, errV a (weightsErr z n)]) ∧ w' = w := by
  have hv := Valid_weights a v n z w hE h (by omega)
  obtain ⟨ad, cap, rfl⟩ := h.form
  obtain ⟨ad', cap', rfl⟩ := k.form
  rw [errV_pos a h0] at hv ⊢
  clear hE h k
  go_enter Tryz.func21, Tryz.ntmps21
  go_wp2_with (go_at_call 49; refine hv.mono ?_; rintro e w1 ⟨rfl, hw1⟩; rw [hw1]; clear hw1)
  go_ret2
  exact ⟨rfl, rfl⟩
set_option maxRecDepth 100000 in
theorem Merge_ne (a : Nat → Addr) (v u : Value) (n m : Nat) (z t : Nat → Int) (w : World) (hE : Errs w a) (h : NumsAt w v n z) (k : NumsAt w u m t) (hn : n ≤ 400) (h0 : weightsErr z n = 0) (hnm : n ≠ m) :
    Calls Tryz.prog 21 #[v, u] w fun e w' => e = .returned (.tuple #[.slice none 0 0, errV a (mergeErr t n m)]) ∧ Below w.heap.size w w' := by
  have hv := Valid_weights a v n z w hE h (by omega)
  obtain ⟨ad, cap, rfl⟩ := h.form
  obtain ⟨ad', cap', rfl⟩ := k.form
  rw [h0, errV_zero] at hv
  have e2 := hE.c2
  have hb : ((m : Int) == (n : Int)) = false := by simp; omega
  have HE := Hid.mk' (mergeErr_ne (t := t) hnm).1
  clear hE h k
  go_enter Tryz.func21, Tryz.ntmps21
  go_wp2_with (go_at_call 49; refine hv.mono ?_; rintro e w1 ⟨rfl, hw1⟩; rw [hw1]; clear hw1)
  go_region
  all_goals
    go_wp2_with fail
    go_ret2
    exact ⟨by rw [HE.out]; rfl, (Below.refl _ _).drew⟩
theorem farB_min (t : Nat → Int) (k : Nat) : farB t (k + 1) = (decide (minTo t k < 0) || decide (16 ≤ maxTo t k)) := by
  have h1 := minTo_neg t k
  rw [negB_iff] at h1
  cases hf : farB t (k + 1) with
  | true =>
    obtain ⟨i, hi, h2⟩ := (farB_iff t (k + 1)).1 hf
    symm
    rw [Bool.or_eq_true, decide_eq_true_eq, decide_eq_true_eq]
    rcases h2 with h2 | h2
    · exact Or.inl (h1.2 ⟨i, hi, h2⟩)
    · have := maxTo_ge t k i (by omega); exact Or.inr (by omega)
  | false =>
    have hno : ∀ i, i < k + 1 → 0 ≤ t i ∧ t i ≤ 15 := fun i hi => by
      rcases Int.lt_or_le (t i) 0 with h | h
      · have := (farB_iff t (k + 1)).2 ⟨i, hi, Or.inl h⟩; rw [hf] at this; cases this
      · rcases Int.lt_or_le 15 (t i) with h' | h'
        · have := (farB_iff t (k + 1)).2 ⟨i, hi, Or.inr h'⟩; rw [hf] at this; cases this
        · exact ⟨h, h'⟩
    symm
    rw [Bool.or_eq_false_iff]
    refine ⟨decide_eq_false (fun h => ?_), decide_eq_false (fun h => ?_)⟩
    · obtain ⟨i, hi, h2⟩ := h1.1 h
      have := hno i hi; omega
    · obtain ⟨i, hi, h2⟩ := maxTo_mem t k
      have := hno i (by omega); omega
set_option maxRecDepth 100000 in
theorem Merge_far (a : Nat → Addr) (b o cap b' o' cap' n : Nat) (z t : Nat → Int) (w : World) (hE : Errs w a) (h : RowAt w b o n z) (k : RowAt w b' o' n t) (h0n : 0 < n) (hn : n ≤ 400) (h0 : weightsErr z n = 0) (hf : farB t n = true) :
    Calls Tryz.prog 21 #[.slice (some ⟨b, o, none⟩) n cap, .slice (some ⟨b', o', none⟩) n cap'] w fun e w' => e = .returned (.tuple #[.slice none 0 0, errV a (mergeErr t n n)]) ∧ Below w.heap.size w w' := by
  have hv := Valid_weights a _ n z w hE (Or.inr ⟨b, o, cap, rfl, h0n, h⟩) (by omega)
  rw [h0, errV_zero] at hv
  have hmin := Min_some b' o' cap' n t w k h0n (by omega)
  have hmax := Max_some b' o' cap' n t w k h0n (by omega)
  have hfm := farB_min t (n - 1)
  rw [Nat.sub_add_cancel h0n, hf] at hfm
  have e2 := hE.c2
  have HE := Hid.mk' (mergeErr_far hf).1
  generalize minTo t (n - 1) = lo at *
  generalize maxTo t (n - 1) = hi at *
  clear hE h k hf
  have hnb : ((n : Int) == (n : Int)) = true := by simp
  rcases Int.lt_or_le lo 0 with hl | hl
  · clear hfm
    go_enter Tryz.func21, Tryz.ntmps21
    go_wp2_with (first
      | (go_at_call 49; refine hv.mono ?_; rintro e w1 ⟨rfl, hw1⟩; rw [hw1]; clear hw1)
      | (go_at_call 50; refine hmin.mono ?_; rintro e w1 ⟨rfl, hw1⟩; rw [hw1]; clear hw1))
    go_region
    all_goals
      go_wp2_with fail
      go_ret2
      exact ⟨by rw [HE.out]; rfl, (Below.refl _ _).drew⟩
  · have hld : decide (lo < 0) = false := decide_eq_false (by omega)
    rw [hld, Bool.false_or] at hfm
    have hhi : 16 ≤ hi := of_decide_eq_true hfm.symm
    clear hfm
    go_enter Tryz.func21, Tryz.ntmps21
    go_wp2_with (first
      | (go_at_call 49; refine hv.mono ?_; rintro e w1 ⟨rfl, hw1⟩; rw [hw1]; clear hw1)
      | (go_at_call 50; refine hmin.mono ?_; rintro e w1 ⟨rfl, hw1⟩; rw [hw1]; clear hw1)
      | (go_at_call 51; refine hmax.mono ?_; rintro e w1 ⟨rfl, hw1⟩; rw [hw1]; clear hw1))
    go_region
    all_goals
      go_wp2_with fail
      go_ret2
      exact ⟨by rw [HE.out]; rfl, (Below.refl _ _).drew⟩

theorem mergeV_next (z t : Nat → Int) (k j : Nat) {T : Nat} (ht : t k = (j : Int)) : ∀ i, i < T → mergeV z t (k + 1) i = if i = j then mergeV z t k j + z k else mergeV z t k i := fun i _ => by
  show mergeV z t k i + (if t k = (i : Int) then z k else 0) = _
  rw [ht]
  by_cases h : i = j
  · subst h; simp
  · rw [if_neg h, if_neg (by omega)]; omega
set_option maxRecDepth 100000 in
set_option maxHeartbeats 2000000 in
theorem Merge_ok (a : Nat → Addr) (b o cap b' o' cap' n : Nat) (z t : Nat → Int) (w : World) (hE : Errs w a) (h : RowAt w b o n z) (k : RowAt w b' o' n t) (h0n : 0 < n) (hn : n ≤ 16) (h0 : weightsErr z n = 0) (hz : ∀ i, i < n → 0 ≤ z i) (hs : sumN z n ≤ 4096) (hf : farB t n = false) :
    Calls Tryz.prog 21 #[.slice (some ⟨b, o, none⟩) n cap, .slice (some ⟨b', o', none⟩) n cap'] w fun e w' => ∃ v, e = .returned (.tuple #[v, errV a (mergeErr t n n)]) ∧ NumsAt w' v (mergeLen t n n) (mergeV z t n) ∧ Below w.heap.size w w' := by
  have hv := Valid_weights a _ n z w hE (Or.inr ⟨b, o, cap, rfl, h0n, h⟩) (by omega)
  rw [h0, errV_zero] at hv
  have hmin := Min_some b' o' cap' n t w k h0n (by omega)
  have hmax := Max_some b' o' cap' n t w k h0n (by omega)
  have hfm := farB_min t (n - 1)
  rw [Nat.sub_add_cancel h0n, hf] at hfm
  obtain ⟨hf1, hf2⟩ := Bool.or_eq_false_iff.1 hfm.symm
  have HFAR : Hid (∀ i, i < n → 0 ≤ t i ∧ t i ≤ 15) := fun i hi => by
    rcases Int.lt_or_le (t i) 0 with h | h
    · have := (farB_iff t n).2 ⟨i, hi, Or.inl h⟩; rw [hf] at this; cases this
    · rcases Int.lt_or_le 15 (t i) with h' | h'
      · have := (farB_iff t n).2 ⟨i, hi, Or.inr h'⟩; rw [hf] at this; cases this
      · exact ⟨h, h'⟩
  have htop : topTo t n = maxTo t (n - 1) := by
    have := topTo_max t (n - 1) (fun i hi => (HFAR.out i (by omega)).1)
    rwa [Nat.sub_add_cancel h0n] at this
  have HGE : Hid (∀ i, i < n → t i ≤ topTo t n) := fun i hi => topTo_ge hi
  obtain ⟨T, hT⟩ := Int.eq_ofNat_of_zero_le (topTo_nonneg t n)
  have hT15 : T ≤ 15 := by have := topTo_le (t := t) (k := n) (fun i hi => (HFAR.out i hi).2); omega
  have HE : Hid (mergeErr t n n = 0 ∧ mergeLen t n n = T + 1) := by
    obtain ⟨e1, e2⟩ := mergeErr_no hf
    refine ⟨e1, ?_⟩
    rw [e2, hT]; simp
  rw [← htop, hT] at hmax hf2
  rw [hT] at HGE
  obtain ⟨lo, hlo⟩ : ∃ lo, lo = minTo t (n - 1) := ⟨_, rfl⟩
  rw [← hlo] at hmin hf1
  have HT := Hid.mk' k
  have HR := Hid.mk' h
  have HML := Hid.mk' (fun k j (hk : k ≤ n) => mergeV_le (t := t) (j := j) hz hk)
  have HZ := Hid.mk' hz
  obtain ⟨i0, hi, hz0, hz1, hz2⟩ := info_parts Tryz.infoInt
  have HINF : Hid (Tryz.prog.info? 3 = some i0 ∧ i0.zero = some (.int .i64 0) ∧ i0.size = 1 ∧ i0.bytes = 8) := ⟨hi, hz0, hz1, hz2⟩
  clear hE h k hf hfm htop hT hlo hz hi hz0 hz1 hz2
  have hnb : ((n : Int) == (n : Int)) = true := by simp
  go_enter Tryz.func21, Tryz.ntmps21
  go_wp2_with (first
    | (go_at_call 49; refine hv.mono ?_; rintro e w1 ⟨rfl, hw1⟩; rw [hw1]; clear hw1)
    | (go_at_call 50; refine hmin.mono ?_; rintro e w1 ⟨rfl, hw1⟩; rw [hw1]; clear hw1)
    | (go_at_call 51; refine hmax.mono ?_; rintro e w1 ⟨rfl, hw1⟩; rw [hw1]; clear hw1)
    | (at_make; go_must (refine wpList_make_full _ rfl _ _ _ rfl w.heap.size 3 i0 _ 1 Tryz.underlying22 HINF.out.1 HINF.out.2.1 HINF.out.2.2.1 .i64 .i64 _ _ (T + 1) rfl rfl (by omega) (by omega) (by rw [HINF.out.2.2.2]; omega) (by unfold maxLen; omega) (Nat.le_refl _) ?_; intro w2 hown2 hgrow2; have HF2 := Hid.mk' (fills_made hown2 (made_zero (T + 1)) hgrow2); clear hown2 hgrow2)))
  clear hv hmin hmax
  go_loopw [8, 9, 37] (fun _ _ i wr => ∃ k : Nat, k ≤ n ∧ i = .int .i64 k ∧ Hid (Fills w wr w.heap.size (T + 1) (mergeV z t k))) (fun _ _ i _ => n - (intOf i).toNat)
  case atStart => exact ⟨0, Nat.zero_le _, rfl, HF2⟩
  case round =>
    obtain ⟨k, hk, rfl, HF⟩ := hrel
    rcases Nat.lt_or_ge k n with h1 | h1
    · have hcT := (HT.out.later HF.out.below) k h1
      have hcR := (HR.out.later HF.out.below) k h1
      have hkn : (k : Int) < (n : Int) := by omega
      have htk := HFAR.out k h1
      have htg := HGE.out k h1
      obtain ⟨j, hj⟩ := Int.eq_ofNat_of_zero_le htk.1
      have HN := Hid.mk' (mergeV_next z t k j (T := T + 1) hj)
      rw [hj] at hcT htg
      have hjT : j < T + 1 := by omega
      have hzk := HZ.out k h1
      have hbj := HML.out (k + 1) j h1
      rw [HN.out j hjT, if_pos rfl] at hbj
      have hbk := HML.out k j hk
      have hcF := HF.out.row j hjT
      have hfz := HF.out.fz j hjT
      rw [Nat.zero_add] at hcF hfz
      have hjl : (j : Int) < (T : Int) + 1 := by omega
      obtain ⟨y, hy⟩ : ∃ y, y = mergeV z t k j := ⟨_, rfl⟩
      rw [← hy] at hcF hbk hbj HN
      obtain ⟨x, hx⟩ : ∃ x, x = z k := ⟨_, rfl⟩
      rw [← hx] at hcR hzk hbj HN
      clear hx hy htk hj
      have HS := Hid.mk' (HF.out.set hjT (y + x) HN.out)
      go_wp2_with fail
      go_region
      all_goals
        go_wp2_with fail
        exact ⟨⟨k + 1, h1, by go_num, HS.out.drew⟩, by simp [intOf]; omega⟩
    · obtain rfl : k = n := by omega
      go_wp2_with fail
      go_ret2
      refine ⟨_, by rw [HE.out.1]; rfl, ?_, HF.out.below⟩
      rw [HE.out.2]
      exact Or.inr ⟨w.heap.size, 0, T + 1, by simp, by omega, HF.out.row⟩
end Go.Proofs.YtofflboheiflaaaGreatDoor

/- The law's closed fact: of a fair coin the entropy is 1. -/
namespace Go.Proofs.YtofflboheiflaaaGreatDoor
open Go.RowKit Go.Maps

theorem pr_two' : Pr 2 := (isPr_iff 2).1 (by decide)
theorem coin_val (x : Int) : sumN (entV (fun _ => 3) 6 x) 2 = atL [((2 : Int), (6 : Int))] x := by
  have h := multI_step x (n := 6) (d := 2) (by decide) pr_two' (by decide)
  have e : 6 / 2 = 3 := by decide
  rw [e] at h
  show 0 + (3 * multI x 6 - 3 * multI x (3 : Int).toNat) + (3 * multI x 6 - 3 * multI x (3 : Int).toNat) = if (2 : Int) = x then 6 else 0
  have e3 : (3 : Int).toNat = 3 := rfl
  rw [e3, h]
  rw [show ((2 : Nat) : Int) = 2 from rfl]
  by_cases hx : x = 2
  · subst hx; simp; omega
  · rw [if_neg hx, if_neg (fun e => hx e.symm)]; omega
theorem coin_list {base : Nat} {w : World} {dn : Int} {v : Value} (h : LogBy base 6 (fun x => sumN (entV (fun _ => 3) 6 x) 2) w dn v) : dn = 1 ∧ OwnAt w v 1 (fun _ => 2) (fun _ => 1) := by
  obtain ⟨l, hr, hv, _, hd, hl⟩ := h.list
  have he : ∀ x, atL l x = atL [((2 : Int), (6 : Int))] x := fun x => by rw [hv, coin_val]
  have hr' : Rising [((2 : Int), (6 : Int))] := List.pairwise_singleton _ _
  rw [gList_same hr hr' he, over_same hr hr' he] at hl
  rw [gList_same hr hr' he] at hd
  have e1 : overL (gList 6 (List.map Prod.snd [((2 : Int), (6 : Int))])) [((2 : Int), (6 : Int))] = [(2, 1)] := by decide
  rw [e1] at hl
  refine ⟨by rw [hd]; decide, ?_⟩
  rcases hl with ⟨_, h0⟩ | ⟨g, cap, h1, h2⟩
  · cases h0
  · refine Or.inr ⟨g, cap, h1, fun k hk => ?_⟩
    obtain rfl : k = 0 := by omega
    exact h2 0 (by decide)

set_option maxRecDepth 100000 in
set_option maxHeartbeats 1000000 in
theorem coin_any (a : Nat → Addr) (w : World) (hE : Errs w a) : Calls Tryz.prog 6 #[] w fun e w' => e = .returned (.bool true) ∧ Below w.heap.size w w' := by
  have hb0 : Below w.heap.size w (w.alloc (.cells #[.int .i64 3, .int .i64 3] 3)) := new_below _ _
  have hent := Entropy_ok a w.heap.size 0 2 2 6 (fun _ => 3) (w.alloc (.cells #[.int .i64 3, .int .i64 3] 3)) (hE.below hb0) (fun i hi => by
    rcases (show i = 0 ∨ i = 1 by omega) with rfl | rfl
    · simp
    · simp) (by decide) (by decide) (fun i _ => by decide) (by decide) (by decide) (by decide) (by decide)
  have HB0 := Hid.mk' hb0
  clear hE hb0
  go_enter Tryz.func6, Tryz.ntmps6
  go_wp2_with fail
  refine hent.mono ?_
  clear hent
  rintro e w1 ⟨dn, v, rfl, hlb, hb1⟩
  obtain ⟨rfl, hown⟩ := coin_list hlb
  obtain ⟨ad, m, cap, rfl⟩ := own_form hown
  have hbW : Below w1.heap.size w1 ((w1.alloc (.cells #[.int .i64 1, .slice ad m cap] 45)).alloc (.cells #[.int .i64 2, .int .i64 1] 64)) := below_chain (new_below _ _) (new_below _ _)
  have hS := same_own 1 (.slice ad m cap) (.slice (some ⟨w1.heap.size + 1, 0, none⟩) 1 1) 1 (fun _ => 2) (fun _ => 1) ((w1.alloc (.cells #[.int .i64 1, .slice ad m cap] 45)).alloc (.cells #[.int .i64 2, .int .i64 1] 64)) (OwnAt.later hown hbW)
    (Or.inr ⟨w1.heap.size + 1, 1, rfl, fun k hk => by
      obtain rfl : k = 0 := by omega
      exact ⟨by simp, by simp⟩⟩) (by decide)
  have HB := Hid.mk' (below_chain (below_chain HB0.out hb1) hbW)
  clear hlb hown hb1 hbW HB0
  go_wp2_with fail
  refine hS.mono ?_
  clear hS
  rintro e w2 ⟨rfl, hb2⟩
  go_wp2_with fail
  go_ret
  exact ⟨rfl, below_chain HB.out hb2⟩
end Go.Proofs.YtofflboheiflaaaGreatDoor

/- coded of an error by its number. -/
namespace Go.Proofs.YtofflboheiflaaaGreatDoor
open Go.RowKit

theorem coded_errV (a : Nat → Addr) (c : Nat) (hc : c ≤ 8) (w : World) (h : Errs w a) :
    Calls Tryz.prog 10 #[errV a c, .int .i64 (c : Int)] w fun e w' => e = .returned (.bool true) ∧ Below w.heap.size w w' := by
  by_cases h0 : c = 0
  · subst h0
    rw [errV_zero]
    refine (coded_nil 0 w).mono ?_
    rintro e w' ⟨rfl, rfl⟩
    exact ⟨rfl, Below.refl _ _⟩
  · rw [errV_pos a h0]
    have h1 := coded_err a (c - 1) (by omega) (c : Int) w h
    have e : decide ((c : Int) = ((c - 1 : Nat) : Int) + 1) = true := decide_eq_true (by omega)
    rw [e] at h1
    exact h1
end Go.Proofs.YtofflboheiflaaaGreatDoor

/- The law DistProcessing. -/
namespace Go.Proofs.YtofflboheiflaaaGreatDoor
open Go.RowKit

set_option maxRecDepth 100000 in
set_option maxHeartbeats 2000000 in
theorem DistProcessing_long (a : Nat → Addr) (ad ad' ad'' : Option Addr) (n cap m cap' l cap'' : Nat) (w : World) (hE : Errs w a) (hn : ¬ (n ≤ 16 ∧ m ≤ 16 ∧ l ≤ 16)) (hm : n ≤ maxLen) (hm' : m ≤ maxLen) (hm'' : l ≤ maxLen) :
    Calls Tryz.prog 5 #[.slice ad n cap, .slice ad' m cap', .slice ad'' l cap''] w fun e w' => e = .returned (.bool true) ∧ Below w.heap.size w w' := by
  have hC := coin_any a w hE
  unfold maxLen at hm hm' hm''
  clear hE
  by_cases h1 : n ≤ 16
  · have hd : decide (16 < (n : Int)) = false := decide_eq_false (by omega)
    by_cases h2 : m ≤ 16
    · have hd2 : decide (16 < (m : Int)) = false := decide_eq_false (by omega)
      have h3 : ¬ l ≤ 16 := fun h => hn ⟨h1, h2, h⟩
      clear hn
      have hd' : (16 : Int) < (l : Int) := by omega
      go_enter Tryz.func5, Tryz.ntmps5
      go_wp2_with (go_at_call 6; refine hC.mono ?_; rintro e w1 ⟨rfl, hb1⟩; have HB1 := Hid.mk' hb1; clear hb1)
      go_ret
      exact ⟨rfl, HB1.out⟩
    · clear hn
      have hd' : (16 : Int) < (m : Int) := by omega
      go_enter Tryz.func5, Tryz.ntmps5
      go_wp2_with (go_at_call 6; refine hC.mono ?_; rintro e w1 ⟨rfl, hb1⟩; have HB1 := Hid.mk' hb1; clear hb1)
      go_ret
      exact ⟨rfl, HB1.out⟩
  · clear hn
    have hd' : (16 : Int) < (n : Int) := by omega
    go_enter Tryz.func5, Tryz.ntmps5
    go_wp2_with (go_at_call 6; refine hC.mono ?_; rintro e w1 ⟨rfl, hb1⟩; have HB1 := Hid.mk' hb1; clear hb1)
    go_ret
    exact ⟨rfl, HB1.out⟩

set_option maxRecDepth 100000 in
set_option maxHeartbeats 2000000 in
theorem DistProcessing_bad (a : Nat → Addr) (ad ad' ad'' : Option Addr) (n cap m cap' l cap'' : Nat) (p q : Nat → Int) (w : World) (hE : Errs w a) (h : NumsAt w (.slice ad n cap) n p) (k : NumsAt w (.slice ad' m cap') m q) (hn : n ≤ 16) (hm : m ≤ 16) (hl : l ≤ 16) (h0 : twoErr p n q m ≠ 0) :
    Calls Tryz.prog 5 #[.slice ad n cap, .slice ad' m cap', .slice ad'' l cap''] w fun e w' => e = .returned (.bool true) ∧ Below w.heap.size w w' := by
  have hC := coin_any a w hE
  have HWE : Hid (∀ W, Below w.heap.size w W → Calls Tryz.prog 7 #[.slice ad n cap, .slice ad' m cap'] W fun e w' => e = .returned (.int .i64 (twoErr p n q m : Int)) ∧ w' = W) := fun W hb => TwoError_any _ _ n m p q W (h.later hb) (k.later hb) (by omega) (by omega)
  have hd : decide (16 < (n : Int)) = false := decide_eq_false (by omega)
  have hd' : decide (16 < (m : Int)) = false := decide_eq_false (by omega)
  have hd'' : decide (16 < (l : Int)) = false := decide_eq_false (by omega)
  generalize twoErr p n q m = c at *
  clear hE h k
  have hcb : (0 : Int) < (c : Int) := by omega
  go_enter Tryz.func5, Tryz.ntmps5
  go_wp2_with (first
    | (go_at_call 6; refine hC.mono ?_; rintro e w1 ⟨rfl, hb1⟩; have HB1 := Hid.mk' hb1; clear hb1)
    | (go_at_call 7; refine (HWE.out w1 HB1.out).mono ?_; rintro e w2 ⟨rfl, hw2⟩; rw [hw2]; clear hw2))
  go_ret
  exact ⟨rfl, HB1.out⟩
theorem numsAt_row2 {w : World} {v : Value} {n : Nat} {z : Nat → Int} (h : NumsAt w v n z) (h0 : 0 < n) : ∃ b o cap, v = .slice (some ⟨b, o, none⟩) n cap ∧ RowAt w b o n z := by
  rcases h with ⟨_, _, _, h1⟩ | ⟨b, o, cap, hv, _, hr⟩
  · omega
  · exact ⟨b, o, cap, hv, hr⟩

set_option maxRecDepth 100000 in
set_option maxHeartbeats 2000000 in
/-- What cannot be merged. -/
theorem DistProcessing_far (a : Nat → Addr) (ad ad' ad'' : Option Addr) (n cap cap' l cap'' : Nat) (p q t : Nat → Int) (w : World) (hE : Errs w a) (h : NumsAt w (.slice ad n cap) n p) (k : NumsAt w (.slice ad' n cap') n q) (j : NumsAt w (.slice ad'' l cap'') l t) (hn : n ≤ 16) (hl : l ≤ 16) (h0 : twoErr p n q n = 0) (hf : mergeErr t n l ≠ 0) :
    Calls Tryz.prog 5 #[.slice ad n cap, .slice ad' n cap', .slice ad'' l cap''] w fun e w' => e = .returned (.bool true) ∧ Below w.heap.size w w' := by
  have hC := coin_any a w hE
  obtain ⟨_, _, hok1, _⟩ := twoErr_ok h0
  have hw0 := weights_of hn hok1
  have HN : Hid (∀ W, Below w.heap.size w W → NumsAt W (.slice ad n cap) n p) := fun W hb => h.later hb
  have HJ : Hid (∀ W, Below w.heap.size w W → NumsAt W (.slice ad'' l cap'') l t) := fun W hb => j.later hb
  have HWE : Hid (∀ W, Below w.heap.size w W → Calls Tryz.prog 7 #[.slice ad n cap, .slice ad' n cap'] W fun e w' => e = .returned (.int .i64 0) ∧ w' = W) := fun W hb => by
    have := TwoError_any _ _ n n p q W (h.later hb) (k.later hb) (by omega) (by omega)
    rw [h0] at this
    exact this
  have HME : Hid (∀ (W : World) (v u : Value), Below w.heap.size w W → NumsAt W v n p → NumsAt W u l t → Calls Tryz.prog 21 #[v, u] W fun e w' => ∃ v' ea, e = .returned (.tuple #[v', .iface 179 (.pointer (some ea))]) ∧ Below W.heap.size W w') := fun W v u hb hv hu => by
    by_cases hnl : n = l
    · subst hnl
      have hp := hok1.posN
      obtain ⟨b1, o1, c1, rfl, hr1⟩ := numsAt_row2 hv hp
      obtain ⟨b2, o2, c2, rfl, hr2⟩ := numsAt_row2 hu hp
      have hfar : farB t n = true := by
        cases hx : farB t n with
        | true => rfl
        | false => exact absurd (mergeErr_no hx).1 hf
      refine (Merge_far a b1 o1 c1 b2 o2 c2 n p t W (hE.below hb) hr1 hr2 hp (by omega) hw0 hfar).mono ?_
      rintro e w' ⟨rfl, hb'⟩
      exact ⟨_, _, by rw [errV_pos a hf], hb'⟩
    · refine (Merge_ne a v u n l p t W (hE.below hb) hv hu (by omega) hw0 hnl).mono ?_
      rintro e w' ⟨rfl, hb'⟩
      exact ⟨_, _, by rw [errV_pos a hf], hb'⟩
  have hd : decide (16 < (n : Int)) = false := decide_eq_false (by omega)
  have hd'' : decide (16 < (l : Int)) = false := decide_eq_false (by omega)
  clear hE h k j h0 hok1 hw0 hf
  go_enter Tryz.func5, Tryz.ntmps5
  go_wp2_with (first
    | (go_at_call 6; refine hC.mono ?_; rintro e w1 ⟨rfl, hb1⟩; have HB1 := Hid.mk' hb1; clear hb1)
    | (go_at_call 7; refine (HWE.out w1 HB1.out).mono ?_; rintro e w2 ⟨rfl, hw2⟩; rw [hw2]; clear hw2)
    | (go_at_call_of 9 cap; refine (ints_any _ n p _ (HN.out _ HB1.out) (by omega)).mono ?_; rintro e w3 ⟨v3, rfl, hv3, hb3⟩; obtain ⟨ad3, cap3, rfl⟩ := hv3.form; have HV3 := Hid.mk' hv3; have HB3 := Hid.mk' hb3; clear hv3 hb3)
    | (go_at_call_of 9 cap''; refine (ints_any _ l t w3 (HJ.out _ (below_chain HB1.out HB3.out)) (by omega)).mono ?_; rintro e w4 ⟨v4, rfl, hv4, hb4⟩; obtain ⟨ad4, cap4, rfl⟩ := hv4.form; have HV4 := Hid.mk' hv4; have HB4 := Hid.mk' hb4; clear hv4 hb4)
    | (go_at_call 21; refine (HME.out w4 _ _ (below_chain (below_chain HB1.out HB3.out) HB4.out) (HV3.out.later HB4.out) HV4.out).mono ?_; rintro e w5 ⟨v5, ea, rfl, hb5⟩; have HB5 := Hid.mk' (below_chain (below_chain (below_chain HB1.out HB3.out) HB4.out) hb5); clear hb5))
  go_ret
  exact ⟨rfl, HB5.out⟩

/-- What a law holds of a list in memory, wherever the walk has come to. -/
structure LBox (W : World) (B : Nat) (d : Int) (ad : Option Addr) (n cap base N : Nat) (f : Int → Int) : Prop where
  c0 : W.cell? ⟨B, 0, none⟩ = some (.int .i64 d)
  c1 : W.cell? ⟨B, 1, none⟩ = some (.slice ad n cap)
  log : LogBy base N f W d (.slice ad n cap)
theorem LBox.later {W W' : World} {B : Nat} {d : Int} {ad : Option Addr} {n cap base N : Nat} {f : Int → Int} (h : LBox W B d ad n cap base N f) (hb : Below W.heap.size W W') : LBox W' B d ad n cap base N f :=
  ⟨(cell_past h.c0 hb).2, (cell_past h.c1 hb).2, h.log.later hb⟩
theorem lBox_new {w : World} {d : Int} {ad : Option Addr} {n cap base N : Nat} {f : Int → Int} (h : LogBy base N f w d (.slice ad n cap)) : LBox (w.alloc (.cells #[.int .i64 d, .slice ad n cap] 45)) w.heap.size d ad n cap base N f :=
  ⟨by simp, by simp, h.later (new_below _ _)⟩

set_option maxRecDepth 100000 in
set_option maxHeartbeats 4000000 in
theorem DistProcessing_ok (a : Nat → Addr) (ad ad' ad'' : Option Addr) (n cap cap' cap'' P Q K : Nat) (p q t : Nat → Int) (w : World) (hE : Errs w a) (h : NumsAt w (.slice ad n cap) n p) (k : NumsAt w (.slice ad' n cap') n q) (j : NumsAt w (.slice ad'' n cap'') n t) (hn : n ≤ 16) (h0 : twoErr p n q n = 0) (hf : farB t n = false) (hP : sumN p n = P) (hQ : sumN q n = Q) (hK : K = (topTo t n).toNat + 1) :
    Calls Tryz.prog 5 #[.slice ad n cap, .slice ad' n cap', .slice ad'' n cap''] w fun e w' => e = .returned (.bool true) ∧ Below w.heap.size w w' := by
  have hC := coin_any a w hE
  obtain ⟨_, _, hok1, hok2⟩ := twoErr_ok h0
  have h0n := hok1.posN
  have hw1 := weights_of hn hok1
  have hw2 := weights_of hn hok2
  have hP1 : 1 ≤ P ∧ P ≤ 4096 := by have := hok1.pos; have := hok1.le; omega
  have hQ1 : 1 ≤ Q ∧ Q ≤ 4096 := by have := hok2.pos; have := hok2.le; omega
  have hP6 : P ≤ 1000000 := by omega
  have ht : ∀ i, i < n → 0 ≤ t i ∧ t i ≤ 15 := fun i hi => by
    rcases Int.lt_or_le (t i) 0 with h1 | h1
    · rw [(farB_iff t n).2 ⟨i, hi, Or.inl h1⟩] at hf; cases hf
    · rcases Int.lt_or_le 15 (t i) with h2 | h2
      · rw [(farB_iff t n).2 ⟨i, hi, Or.inr h2⟩] at hf; cases hf
      · exact ⟨h1, h2⟩
  have htK : ∀ i, i < n → 0 ≤ t i ∧ (t i).toNat < K := fun i hi => by
    have h1 := topTo_ge (t := t) hi
    have h2 := ht i hi
    exact ⟨h2.1, by omega⟩
  have hK16 : K ≤ 16 := by
    have := topTo_le (t := t) (k := n) (fun i hi => (ht i hi).2)
    omega
  have hK0 : 0 < K := by omega
  obtain ⟨mo1, ms1⟩ := merge_ok hok1 hP htK
  obtain ⟨mo2, ms2⟩ := merge_ok hok2 hQ htK
  have mw1 := weights_of hK16 mo1
  have mw2 := weights_of hK16 mo2
  have mtwo : twoErr (mergeV p t n) K (mergeV q t n) K = 0 := by
    unfold twoErr
    rw [mw1, mw2]
    simp
  have HN : Hid (∀ W, Below w.heap.size w W → NumsAt W (.slice ad n cap) n p) := fun W hb => h.later hb
  have HK : Hid (∀ W, Below w.heap.size w W → NumsAt W (.slice ad' n cap') n q) := fun W hb => k.later hb
  have HJ : Hid (∀ W, Below w.heap.size w W → NumsAt W (.slice ad'' n cap'') n t) := fun W hb => j.later hb
  have HWE : Hid (∀ W, Below w.heap.size w W → Calls Tryz.prog 7 #[.slice ad n cap, .slice ad' n cap'] W fun e w' => e = .returned (.int .i64 0) ∧ w' = W) := fun W hb => by
    have := TwoError_any _ _ n n p q W (h.later hb) (k.later hb) (by omega) (by omega)
    rw [h0] at this
    exact this
  have HME : Hid (∀ (W : World) (v u : Value) (z : Nat → Int), Below w.heap.size w W → NumsAt W v n z → NumsAt W u n t → weightsErr z n = 0 → OkW z n → Calls Tryz.prog 21 #[v, u] W fun e w' => ∃ b o cap, e = .returned (.tuple #[.slice (some ⟨b, o, none⟩) K cap, .nilIface]) ∧ RowAt w' b o K (mergeV z t n) ∧ Below W.heap.size W w') := fun W v u z hb hv hu hz hzo => by
    obtain ⟨b1, o1, c1, rfl, hr1⟩ := numsAt_row2 hv h0n
    obtain ⟨b2, o2, c2, rfl, hr2⟩ := numsAt_row2 hu h0n
    refine (Merge_ok a b1 o1 c1 b2 o2 c2 n z t W (hE.below hb) hr1 hr2 h0n hn hz hzo.nn hzo.le hf).mono ?_
    rintro e w' ⟨v', rfl, hv', hb'⟩
    rw [(mergeErr_no hf).2, ← hK] at hv'
    obtain ⟨b3, o3, c3, rfl, hr3⟩ := numsAt_row2 hv' hK0
    exact ⟨b3, o3, c3, by rw [(mergeErr_no hf).1, errV_zero], hr3, hb'⟩
  have HEN : Hid (∀ (W : World) (v : Value), Below w.heap.size w W → NumsAt W v n p → Calls Tryz.prog 22 #[v] W fun e w' => ∃ dn v, e = .returned (.tuple #[.agg #[.int .i64 dn, v], .nilIface]) ∧ LogBy W.heap.size P (fun x => sumN (entV p P x) n) w' dn v ∧ Below W.heap.size W w') := fun W v hb hv => by
    obtain ⟨b1, o1, c1, rfl, hr1⟩ := numsAt_row2 hv h0n
    exact Entropy_ok a b1 o1 c1 n P p W (hE.below hb) hr1 hw1 hP hok1.nn hn hP1.1 hP1.2 h0n
  have HEM : Hid (∀ (W : World) (b o c : Nat), Below w.heap.size w W → RowAt W b o K (mergeV p t n) → Calls Tryz.prog 22 #[.slice (some ⟨b, o, none⟩) K c] W fun e w' => ∃ dn v, e = .returned (.tuple #[.agg #[.int .i64 dn, v], .nilIface]) ∧ LogBy W.heap.size P (fun x => sumN (entV (mergeV p t n) P x) K) w' dn v ∧ Below W.heap.size W w') := fun W b o c hb hr => Entropy_ok a b o c K P (mergeV p t n) W (hE.below hb) hr mw1 ms1 mo1.nn hK16 hP1.1 hP1.2 hK0
  obtain ⟨U1, D1, hU1, hD1, hle1, hm1⟩ := proc_ent (s := fun i => (t i).toNat) (p := fun i => (p i).toNat) (z := p) (y := mergeV p t n) (n := n) (K := K) (N := P) (fun i hi => (htK i hi).2) (fun i hi => by have := hok1.nn i hi; omega) (fun c _ => merge_nat hok1.nn (fun i hi => (ht i hi).1) c)
  have pe1 := ent_prim2 (z := p) (n := n) (N := P) (fun i hi => hok1.lt hi) hn hP1
  have pe2 := ent_prim2 (z := mergeV p t n) (n := K) (N := P) (fun i hi => mo1.lt hi) hK16 hP1
  have HS1 : Hid (∀ (W : World) (b1 b2 : Nat) (d1 d2 : Int) (v1 v2 : Value), Below w.heap.size w W → LogBy b1 P (fun x => sumN (entV p P x) n) W d1 v1 → LogBy b2 P (fun x => sumN (entV (mergeV p t n) P x) K) W d2 v2 → Calls Tryz.prog 23 #[.agg #[.int .i64 d1, v1], .agg #[.int .i64 d2, v2]] W fun e w' => (∃ z : Int, 0 ≤ z ∧ e = .returned (.int .i64 z)) ∧ Below W.heap.size W w') := fun W b1 b2 d1 d2 v1 v2 hb l1 l2 => sign_by a W (hE.below hb) l1 l2 hP1.1 hP6 pe1 pe2 hU1 hD1 hm1 hle1
  have HDI : Hid (∀ (W : World) (v u : Value), Below w.heap.size w W → NumsAt W v n p → NumsAt W u n q → Calls Tryz.prog 14 #[v, u] W fun e w' => ((zeroB p q n = true ∧ e = .returned (.tuple #[.agg #[.int .i64 0, .slice none 0 0], errV a 4])) ∨ (zeroB p q n = false ∧ ∃ dn v, e = .returned (.tuple #[.agg #[.int .i64 dn, v], .nilIface]) ∧ LogBy W.heap.size P (fun x => sumN (divV p q P Q x) n) w' dn v)) ∧ Below W.heap.size W w') := fun W v u hb hv hu => by
    obtain ⟨b1, o1, c1, rfl, hr1⟩ := numsAt_row2 hv h0n
    obtain ⟨b2, o2, c2, rfl, hr2⟩ := numsAt_row2 hu h0n
    exact Divergence_right a b1 o1 c1 b2 o2 c2 n P Q p q W (hE.below hb) hr1 hr2 h0 hP hQ
  have HCD : Hid (∀ W, Below w.heap.size w W → Calls Tryz.prog 10 #[.iface 179 (.pointer (some (a 3))), .int .i64 4] W fun e w' => e = .returned (.bool true) ∧ Below W.heap.size W w') := fun W hb => coded_errV a 4 (by omega) W (hE.below hb)
  have HD2 : Hid (zeroB p q n = false → (∀ (W : World) (b1 o1 c1 b2 o2 c2 : Nat), Below w.heap.size w W → RowAt W b1 o1 K (mergeV p t n) → RowAt W b2 o2 K (mergeV q t n) → Calls Tryz.prog 14 #[.slice (some ⟨b1, o1, none⟩) K c1, .slice (some ⟨b2, o2, none⟩) K c2] W fun e w' => ∃ dn v, e = .returned (.tuple #[.agg #[.int .i64 dn, v], .nilIface]) ∧ LogBy W.heap.size P (fun x => sumN (divV (mergeV p t n) (mergeV q t n) P Q x) K) w' dn v ∧ Below W.heap.size W w') ∧ (∀ (W : World) (b1 b2 : Nat) (d1 d2 : Int) (v1 v2 : Value), Below w.heap.size w W → LogBy b1 P (fun x => sumN (divV p q P Q x) n) W d1 v1 → LogBy b2 P (fun x => sumN (divV (mergeV p t n) (mergeV q t n) P Q x) K) W d2 v2 → Calls Tryz.prog 23 #[.agg #[.int .i64 d1, v1], .agg #[.int .i64 d2, v2]] W fun e w' => (∃ z : Int, 0 ≤ z ∧ e = .returned (.int .i64 z)) ∧ Below W.heap.size W w')) := fun hzf => by
    have hzz : ∀ i, i < n → 0 < p i → 0 < q i := fun i hi h1 => by
      have h2 := hok2.lt hi
      rcases Int.lt_or_le 0 (q i) with h3 | h3
      · exact h3
      · rw [(zeroB_iff p q n).2 ⟨i, hi, h1, by omega⟩] at hzf; cases hzf
    have hmz : ∀ c, c < K → 0 < mergeV p t n c → 0 < mergeV q t n c := fun c hc h1 => by
      rcases Int.lt_or_le 0 (mergeV q t n c) with h3 | h3
      · exact h3
      · have h4 := mo2.nn c hc
        have e1 := merge_nat hok1.nn (fun i hi => (ht i hi).1) c
        have e2 := merge_nat hok2.nn (fun i hi => (ht i hi).1) c
        have z2 := sum_zero (f := inC (fun i => (t i).toNat) (fun i => (q i).toNat) c) (n := n) (by omega)
        have z1 : ∀ i, i < n → (fun i => if t i = (c : Int) then p i else 0) i = 0 := fun i hi => by
          have h5 := z2 i hi
          unfold inC at h5
          dsimp only at h5 ⊢
          by_cases h6 : t i = (c : Int)
          · rw [if_pos h6]
            rw [if_pos (by omega)] at h5
            have h7 := hok1.nn i hi
            rcases Int.lt_or_le 0 (p i) with h8 | h8
            · have := hzz i hi h8
              omega
            · omega
          · rw [if_neg h6]
        have : mergeV p t n c = 0 := sumN_none z1
        omega
    have mzf : zeroB (mergeV p t n) (mergeV q t n) K = false := by
      cases hx : zeroB (mergeV p t n) (mergeV q t n) K with
      | false => rfl
      | true =>
        obtain ⟨c, hc, h1, h2⟩ := (zeroB_iff _ _ _).1 hx
        have := hmz c hc h1
        omega
    obtain ⟨U2, D2, hU2, hD2, hle2, hm2⟩ := proc_div (s := fun i => (t i).toNat) (p := fun i => (p i).toNat) (q := fun i => (q i).toNat) (z := p) (y := mergeV p t n) (z' := q) (y' := mergeV q t n) (n := n) (K := K) (P := P) (Q := Q) (fun i hi => (htK i hi).2) (fun i hi => by have := hok1.nn i hi; omega) (fun c _ => merge_nat hok1.nn (fun i hi => (ht i hi).1) c) (fun i hi => by have := hok2.nn i hi; omega) (fun c _ => merge_nat hok2.nn (fun i hi => (ht i hi).1) c) (fun i hi h1 => by have := hzz i hi (by omega); omega)
    have pd1 := div_prim (p := p) (q := q) (P := P) (Q := Q) (n := n) (fun i hi => hok1.lt hi) (fun i hi => hok2.lt hi) hn hP1 hQ1 hzz
    have pd2 := div_prim (p := mergeV p t n) (q := mergeV q t n) (P := P) (Q := Q) (n := K) (fun i hi => mo1.lt hi) (fun i hi => mo2.lt hi) hK16 hP1 hQ1 hmz
    refine ⟨fun W b1 o1 c1 b2 o2 c2 hb r1 r2 => ?_, fun W b1 b2 d1 d2 v1 v2 hb l1 l2 => sign_by a W (hE.below hb) l1 l2 hP1.1 hP6 pd1 pd2 hU2 hD2 hm2 hle2⟩
    refine (Divergence_right a b1 o1 c1 b2 o2 c2 K P Q (mergeV p t n) (mergeV q t n) W (hE.below hb) r1 r2 mtwo ms1 ms2).mono ?_
    rintro e w' ⟨h1 | ⟨_, dn, v, rfl, h3⟩, hb'⟩
    · rw [mzf] at h1; cases h1.1
    · exact ⟨dn, v, rfl, h3, hb'⟩
  have hd : decide (16 < (n : Int)) = false := decide_eq_false (by omega)
  have HW1 := Hid.mk' (And.intro (And.intro hw1 hok1) (And.intro hw2 hok2))
  have HA3 : Hid (errV a 4 = .iface 179 (.pointer (some (a 3)))) := rfl
  generalize a 3 = ea at HCD HA3
  generalize errV a 4 = ev at HDI HA3
  clear hE h k j h0 hok1 hok2 hw1 hw2 hP hQ hK ht htK mo1 ms1 mo2 ms2 mw1 mw2 mtwo hU1 hD1 hle1 hm1 pe1 pe2 hf hP6
  go_enter Tryz.func5, Tryz.ntmps5
  go_wp2_with fail
  refine hC.mono ?_
  clear hC
  rintro e w1 ⟨rfl, hb1⟩
  have HB1 := Hid.mk' hb1
  clear hb1
  go_wp2_with fail
  refine (HWE.out w1 HB1.out).mono ?_
  rintro e w2 ⟨rfl, hw2⟩
  rw [hw2]
  clear hw2 HWE
  go_wp2_with fail
  refine (ints_any _ n p w1 (HN.out _ HB1.out) (by omega)).mono ?_
  rintro e w3 ⟨v3, rfl, hv3, hb3⟩
  obtain ⟨ad3, cap3, rfl⟩ := hv3.form
  go_wp2_with fail
  refine (ints_any _ n t w3 (HJ.out _ (below_chain HB1.out hb3)) (by omega)).mono ?_
  rintro e w4 ⟨v4, rfl, hv4, hb4⟩
  obtain ⟨ad4, cap4, rfl⟩ := hv4.form
  have HB4 := Hid.mk' (below_chain (below_chain HB1.out hb3) hb4)
  have hme := HME.out w4 _ _ p HB4.out (hv3.later hb4) hv4 HW1.out.1.1 HW1.out.1.2
  clear hv3 hv4 hb3 hb4
  go_wp2_with fail
  refine hme.mono ?_
  clear hme
  rintro e w5 ⟨g5, o5, cap5, rfl, hr5, hb5⟩
  have HB5 := Hid.mk' (below_chain HB4.out hb5)
  have HR5 : Hid (∀ W, Below w5.heap.size w5 W → RowAt W g5 o5 K (mergeV p t n)) := fun W hb => hr5.later hb
  clear hr5 hb5
  go_wp2_with fail
  refine (ints_any _ n q w5 (HK.out _ HB5.out) (by omega)).mono ?_
  rintro e w6 ⟨v6, rfl, hv6, hb6⟩
  obtain ⟨ad6, cap6, rfl⟩ := hv6.form
  go_wp2_with fail
  refine (ints_any _ n t w6 (HJ.out _ (below_chain HB5.out hb6)) (by omega)).mono ?_
  rintro e w7 ⟨v7, rfl, hv7, hb7⟩
  obtain ⟨ad7, cap7, rfl⟩ := hv7.form
  have HB57 := Hid.mk' (below_chain hb6 hb7)
  have hme := HME.out w7 _ _ q (below_chain HB5.out HB57.out) (hv6.later hb7) hv7 HW1.out.2.1 HW1.out.2.2
  clear hv6 hv7 hb6 hb7 HME
  go_wp2_with fail
  refine hme.mono ?_
  clear hme
  rintro e w8 ⟨g8, o8, cap8, rfl, hr8, hb8⟩
  have HB58 := Hid.mk' (below_chain HB57.out hb8)
  have HB8 := Hid.mk' (below_chain HB5.out HB58.out)
  have HR8 : Hid (∀ W, Below w8.heap.size w8 W → RowAt W g8 o8 K (mergeV q t n)) := fun W hb => hr8.later hb
  clear hr8 hb8
  go_wp2_with fail
  refine (ints_any _ n p w8 (HN.out _ HB8.out) (by omega)).mono ?_
  rintro e w9 ⟨v9, rfl, hv9, hb9⟩
  obtain ⟨ad9, cap9, rfl⟩ := hv9.form
  have HB89 := Hid.mk' hb9
  have hen := HEN.out w9 _ (below_chain HB8.out hb9) hv9
  clear hv9 hb9 HEN
  go_wp2_with fail
  refine hen.mono ?_
  clear hen
  rintro e w10 ⟨dn10, v10, rfl, hl10, hb10⟩
  obtain ⟨ad10, n10, cap10, rfl⟩ := hl10.form
  obtain ⟨W10, hW10⟩ : ∃ W10, W10 = w10.alloc (.cells #[.int .i64 dn10, .slice ad10 n10 cap10] 45) := ⟨_, rfl⟩
  have HL10 : Hid (LBox W10 w10.heap.size dn10 ad10 n10 cap10 w9.heap.size P (fun x => sumN (entV p P x) n)) := by rw [hW10]; exact lBox_new hl10
  have HB810 : Hid (Below w8.heap.size w8 W10) := by rw [hW10]; exact more_below (below_chain HB89.out hb10) _
  have HB10 := Hid.mk' (below_chain HB8.out HB810.out)
  have HW10 := Hid.mk' hW10
  have hem := HEM.out W10 g5 o5 cap5 HB10.out (HR5.out _ (below_chain HB58.out HB810.out))
  clear hl10 hb10 hW10 HEM
  go_upto_region 9 with fail
  rw [← HW10.out]
  clear HW10
  go_wp2_with fail
  refine hem.mono ?_
  clear hem
  rintro e w11 ⟨dn11, v11, rfl, hl11, hb11⟩
  obtain ⟨ad11, n11, cap11, rfl⟩ := hl11.form
  obtain ⟨W11, hW11⟩ : ∃ W11, W11 = w11.alloc (.cells #[.int .i64 dn11, .slice ad11 n11 cap11] 45) := ⟨_, rfl⟩
  have HB1011 : Hid (Below W10.heap.size W10 W11) := by rw [hW11]; exact more_below hb11 _
  have HL11 : Hid (LBox W11 w11.heap.size dn11 ad11 n11 cap11 W10.heap.size P (fun x => sumN (entV (mergeV p t n) P x) K)) := by rw [hW11]; exact lBox_new hl11
  have HB11 := Hid.mk' (below_chain HB10.out HB1011.out)
  have HB811 := Hid.mk' (below_chain HB810.out HB1011.out)
  have HW11 := Hid.mk' hW11
  have hk10 := HL10.out.later HB1011.out
  have hs1 := HS1.out W11 _ _ dn10 dn11 _ _ HB11.out hk10.log HL11.out.log
  have x0 := hk10.c0
  have x1 := hk10.c1
  have y0 := HL11.out.c0
  have y1 := HL11.out.c1
  clear hl11 hb11 hW11 hk10 HL10 HL11 HS1
  go_upto_region 10 with fail
  rw [← HW11.out]
  clear HW11
  go_wp2_with fail
  refine hs1.mono ?_
  clear hs1 x0 x1 y0 y1
  rintro e w12 ⟨⟨z, hz, rfl⟩, hb12⟩
  have HB12 := Hid.mk' (below_chain HB11.out hb12)
  have HB812 := Hid.mk' (below_chain HB811.out hb12)
  have hz' : ¬ z < 0 := by omega
  clear hb12 hz
  go_wp2_with fail
  refine (ints_any _ n p w12 (HN.out _ HB12.out) (by omega)).mono ?_
  rintro e w13 ⟨v13, rfl, hv13, hb13⟩
  obtain ⟨ad13, cap13, rfl⟩ := hv13.form
  go_wp2_with fail
  refine (ints_any _ n q w13 (HK.out _ (below_chain HB12.out hb13)) (by omega)).mono ?_
  rintro e w14 ⟨v14, rfl, hv14, hb14⟩
  obtain ⟨ad14, cap14, rfl⟩ := hv14.form
  have HB1214 := Hid.mk' (below_chain hb13 hb14)
  have HB14 := Hid.mk' (below_chain HB12.out HB1214.out)
  have hdi := HDI.out w14 _ _ HB14.out (hv13.later hb14) hv14
  clear hv13 hv14 hb13 hb14 HDI
  go_wp2_with fail
  refine hdi.mono ?_
  clear hdi
  rintro e w15 ⟨⟨hzt, rfl⟩ | ⟨hzf, dn15, v15, rfl, hl15⟩, hb15⟩
  · have HB15 := Hid.mk' (more_below (below_chain HB14.out hb15) (.cells #[.int .i64 0, .slice none 0 0] 45))
    clear hb15 hzt
    rw [HA3.out]
    go_wp2_with fail
    refine (HCD.out _ HB15.out).mono ?_
    rintro e w16 ⟨rfl, hb16⟩
    have HB16 := Hid.mk' (below_chain HB15.out hb16)
    clear hb16
    go_wp2_with fail
    go_ret
    exact ⟨rfl, HB16.out⟩
  · obtain ⟨hd2, hs2⟩ := HD2.out hzf
    obtain ⟨ad15, n15, cap15, rfl⟩ := hl15.form
    obtain ⟨W15, hW15⟩ : ∃ W15, W15 = w15.alloc (.cells #[.int .i64 dn15, .slice ad15 n15 cap15] 45) := ⟨_, rfl⟩
    have HL15 : Hid (LBox W15 w15.heap.size dn15 ad15 n15 cap15 w14.heap.size P (fun x => sumN (divV p q P Q x) n)) := by rw [hW15]; exact lBox_new hl15
    have HB1215 : Hid (Below w12.heap.size w12 W15) := by rw [hW15]; exact more_below (below_chain HB1214.out hb15) _
    have HB815 := Hid.mk' (below_chain HB812.out HB1215.out)
    have HB15 := Hid.mk' (below_chain HB12.out HB1215.out)
    have HW15 := Hid.mk' hW15
    have hdm := hd2 W15 g5 o5 cap5 g8 o8 cap8 HB15.out (HR5.out _ (below_chain HB58.out HB815.out)) (HR8.out _ HB815.out)
    have HS2 := Hid.mk' hs2
    clear hl15 hb15 hW15 hd2 hs2 HD2 hzf
    go_upto_region 13 with fail
    rw [← HW15.out]
    clear HW15
    go_wp2_with fail
    refine hdm.mono ?_
    clear hdm
    rintro e w16 ⟨dn16, v16, rfl, hl16, hb16⟩
    obtain ⟨ad16, n16, cap16, rfl⟩ := hl16.form
    obtain ⟨W16, hW16⟩ : ∃ W16, W16 = w16.alloc (.cells #[.int .i64 dn16, .slice ad16 n16 cap16] 45) := ⟨_, rfl⟩
    have HB1516 : Hid (Below W15.heap.size W15 W16) := by rw [hW16]; exact more_below hb16 _
    have HL16 : Hid (LBox W16 w16.heap.size dn16 ad16 n16 cap16 W15.heap.size P (fun x => sumN (divV (mergeV p t n) (mergeV q t n) P Q x) K)) := by rw [hW16]; exact lBox_new hl16
    have HB16 := Hid.mk' (below_chain HB15.out HB1516.out)
    have HW16 := Hid.mk' hW16
    have hk15 := HL15.out.later HB1516.out
    have hsg := HS2.out W16 _ _ dn15 dn16 _ _ HB16.out hk15.log HL16.out.log
    have x0 := hk15.c0
    have x1 := hk15.c1
    have y0 := HL16.out.c0
    have y1 := HL16.out.c1
    clear hl16 hb16 hW16 hk15 HL15 HL16 HS2
    go_upto_region 16 with fail
    rw [← HW16.out]
    clear HW16
    go_wp2_with fail
    refine hsg.mono ?_
    clear hsg x0 x1 y0 y1
    rintro e w17 ⟨⟨z2, hz2, rfl⟩, hb17⟩
    have HB17 := Hid.mk' (below_chain HB16.out hb17)
    clear hb17
    go_wp2_with fail
    go_ret
    exact ⟨rfl, HB17.out⟩

theorem DistProcessing_all (a : Nat → Addr) (ad : Option Addr) (n cap : Nat) (p : Nat → Int) (ad' : Option Addr) (m cap' : Nat) (q : Nat → Int) (ad'' : Option Addr) (l cap'' : Nat) (t : Nat → Int) (w : World) (hE : Errs w a) (h : NumsAt w (.slice ad n cap) n p) (hm : n ≤ maxLen) (k : NumsAt w (.slice ad' m cap') m q) (hm' : m ≤ maxLen) (j : NumsAt w (.slice ad'' l cap'') l t) (hm'' : l ≤ maxLen) :
    Calls Tryz.prog 5 #[.slice ad n cap, .slice ad' m cap', .slice ad'' l cap''] w fun e w' => e = .returned (.bool true) ∧ Below w.heap.size w w' := by
  by_cases hn : n ≤ 16 ∧ m ≤ 16 ∧ l ≤ 16
  · by_cases h0 : twoErr p n q m = 0
    · obtain ⟨rfl, h16, hok1, hok2⟩ := twoErr_ok h0
      obtain ⟨P, hP⟩ := Int.eq_ofNat_of_zero_le (Int.le_of_lt hok1.pos)
      obtain ⟨Q, hQ⟩ := Int.eq_ofNat_of_zero_le (Int.le_of_lt hok2.pos)
      by_cases hf : mergeErr t n l = 0
      · have hnl : n = l := by
          by_cases h1 : n = l
          · exact h1
          · rw [(mergeErr_ne h1).1] at hf; cases hf
        subst hnl
        have hfar : farB t n = false := by
          cases hx : farB t n with
          | false => rfl
          | true => rw [(mergeErr_far hx).1] at hf; cases hf
        exact DistProcessing_ok a ad ad' ad'' n cap cap' cap'' P Q _ p q t w hE h k j hn.1 h0 hfar hP hQ rfl
      · exact DistProcessing_far a ad ad' ad'' n cap cap' l cap'' p q t w hE h k j hn.1 hn.2.2 h0 hf
    · exact DistProcessing_bad a ad ad' ad'' n cap m cap' l cap'' p q w hE h k hn.1 hn.2.1 hn.2.2 h0
  · exact DistProcessing_long a ad ad' ad'' n cap m cap' l cap'' w hE hn hm hm' hm''
end Go.Proofs.YtofflboheiflaaaGreatDoor

/- What the rows' condition on package variables gives a walk: eight different sentinels with their texts, and the handle of the type error. -/
namespace Go.Proofs.YtofflboheiflaaaGreatDoor
open Go.ChangeShapes Go.WideShapes Go.RowKit

theorem Tryz.own : ownKnob Tryz.prog.godebug = none := by kernel_rfl
theorem Tryz.et : Tryz.prog.globalNamed "errors.errorType" = some 8 := by kernel_rfl
theorem Tryz.rt : (Tryz.prog.cutTypes.find? (·.1 == "internal/reflectlite.rtype")).map (·.2) = some 143 := by kernel_rfl
theorem Tryz.oneRow : ((List.range 211).filter fun t => Tryz.prog.rowNamed t [101, 114, 114, 111, 114]) = [28] := by kernel_rfl
theorem Tryz.size : Tryz.prog.types.size = 211 := by kernel_rfl
theorem Tryz.star : ("*" ++ "errors.errorString" : String) = "*errors.errorString" := by decide
theorem Tryz.rowE (u : TypeId) (h : Tryz.prog.typeName? 3 u = some "*errors.errorString") : u = 179 :=
  typeName_ptr_named (nm := "errors.errorString") (by rw [Tryz.star]; kernel_rfl) (by kernel_rfl) (by decide) u (by rw [Tryz.star]; exact h)
theorem Tryz.cellsE : Tryz.prog.cellsOf 199 = 1 := by kernel_rfl
theorem Tryz.cellsS : Tryz.prog.cellsOf 9 = 1 := by kernel_rfl
theorem Tryz.g0 : Tryz.prog.globalNamed "demon/api.ErrText" = some 2 := by kernel_rfl
theorem Tryz.g1 : Tryz.prog.globalNamed "demon/api.ErrBound" = some 3 := by kernel_rfl
theorem Tryz.g2 : Tryz.prog.globalNamed "demon/api.ErrShape" = some 1 := by kernel_rfl
theorem Tryz.g3 : Tryz.prog.globalNamed "demon/api.ErrZero" = some 0 := by kernel_rfl
theorem Tryz.g4 : Tryz.prog.globalNamed "demon/api.ErrName" = some 4 := by kernel_rfl
theorem Tryz.g5 : Tryz.prog.globalNamed "demon/api.ErrNone" = some 5 := by kernel_rfl
theorem Tryz.g6 : Tryz.prog.globalNamed "demon/api.ErrOrder" = some 6 := by kernel_rfl
theorem Tryz.g7 : Tryz.prog.globalNamed "demon/api.ErrKind" = some 7 := by kernel_rfl

/-- Any number of listed sentinels of one type: each one's pointer, text and row; no two are one. -/
theorem laid_list {P : Program} {W : World} {nm : String} {ti tp te ts : TypeId} {ms : Array (String × TypeId)} {f : Field}
    (hi : P.underlying ti = some (.interface ms)) (hrow : ∀ u, P.typeName? 3 u = some nm → u = tp)
    (hp : P.underlying tp = some (.pointer te)) (he : P.underlying te = some (.struct #[f])) (hft : f.type = ts) (hfo : f.offset = 0) (hs : P.underlying ts = some .string) (hc : P.cellsOf te = 1) (hcs : P.cellsOf ts = 1) :
    ∀ (L : List (String × List UInt8)) (ps : List MemPlace), (∀ x, x ∈ L → ∃ g, P.globalNamed x.1 = some g ∧ (P.globals[g]?).map (·.type) = some ti) →
      DataW.LaidVars P W (L.map fun x => (x.1, .iface nm (.ptr (.agg [.lit (.string x.2)])))) ps → ps.Nodup →
      (∀ b off, MemPlace.cell b off ∈ ps → (∃ c t, W.heap[b]? = some (.cells c t (0, 0))) ∧ ∀ u v, W.cell? ⟨b, off, none⟩ = some (.iface u v) → Value.okWide P W .any 0 u v) →
      ∃ a : Nat → Addr, (∀ i x, L[i]? = some x → W.var? P x.1 = some #[.iface tp (.pointer (some (a i)))] ∧ (∃ s, W.cell? (a i) = some (.string s) ∧ s.data.toList = x.2) ∧
          (∃ c t, W.heap[(a i).block]? = some (.cells c t (0, 0))) ∧ MemPlace.cell (a i).block (a i).off ∈ ps) ∧
        ∀ i j, i < L.length → j < L.length → i ≠ j → a i ≠ a j := by
  intro L
  induction L with
  | nil => intro ps _ _ _ _; exact ⟨fun _ => default, fun i x h => by simp at h, fun i j h => by simp at h⟩
  | cons x r ih =>
    intro ps hgs hv hnd hrows
    obtain ⟨n, text⟩ := x
    obtain ⟨g0, t0, cs0, f0, p0, q0, hg0, ht0, hv0, hd0, hvr, e0⟩ := hv
    obtain ⟨g, hg, ht⟩ := hgs (n, text) (List.mem_cons_self ..)
    obtain rfl := Option.some.inj (hg.symm.trans hg0)
    obtain rfl := Option.some.inj (ht.symm.trans ht0)
    subst e0
    obtain ⟨l0⟩ := cs0
    have ok0 : ∀ u v, l0 = [.iface u v] → Value.okWide P W .any 0 u v := fun u v e => by
      subst e
      exact (hrows g 0 (by simp [MemPlace.row])).2 u v (by simpa using World.var?_cell hg0 hv0 0)
    obtain ⟨a0, s0, rfl, hc0, hs0, hz0, rfl⟩ := errorString_of_trod hi hrow hp he hft hfo hs hc hcs hd0 ok0
    obtain ⟨c0, tt0, hb0⟩ := (hrows a0.block a0.off (by simp [MemPlace.row])).1
    have hnq : q0.Nodup := List.Nodup.sublist (List.sublist_append_right _ _) hnd
    obtain ⟨a', ha', hne'⟩ := ih q0 (fun x hx => hgs x (List.mem_cons_of_mem _ hx)) hvr hnq (fun b off hm => hrows b off (List.mem_append_right _ hm))
    have hnot : MemPlace.cell a0.block a0.off ∉ q0 := by
      intro hm
      have := (List.nodup_append.1 hnd).2.2
      exact this (.cell a0.block a0.off) (by simp [MemPlace.row]) (.cell a0.block a0.off) hm rfl
    refine ⟨fun i => match i with | 0 => a0 | k + 1 => a' k, ?_, ?_⟩
    · intro i x hx
      cases i with
      | zero =>
        simp only [List.getElem?_cons_zero, Option.some.injEq] at hx
        subst hx
        exact ⟨hv0, ⟨s0, hc0, hs0⟩, ⟨c0, tt0, hb0⟩, by simp [MemPlace.row]⟩
      | succ k =>
        simp only [List.getElem?_cons_succ] at hx
        obtain ⟨h1, h2, h3, h4⟩ := ha' k x hx
        exact ⟨h1, h2, h3, List.mem_append_right _ h4⟩
    · have far : ∀ k, k < r.length → a0 ≠ a' k := fun k hk e => by
        obtain ⟨_, _, _, h4⟩ := ha' k r[k] (by simp [hk])
        rw [← e] at h4
        exact hnot h4
      intro i j hi' hj' hij
      cases i with
      | zero =>
        cases j with
        | zero => exact absurd rfl hij
        | succ k => exact far k (by simpa using hj')
      | succ m =>
        cases j with
        | zero => exact (far m (by simpa using hi')).symm
        | succ k => exact hne' m k (by simpa using hi') (by simpa using hj') (by omega)

/-- The names and texts, in the rows' order. -/
def eightNames : List (String × List UInt8) := [("demon/api.ErrText", [100, 101, 109, 111, 110, 58, 32, 116, 101, 120, 116]), ("demon/api.ErrBound", [100, 101, 109, 111, 110, 58, 32, 98, 111, 117, 110, 100]), ("demon/api.ErrShape", [100, 101, 109, 111, 110, 58, 32, 115, 104, 97, 112, 101]), ("demon/api.ErrZero", [100, 101, 109, 111, 110, 58, 32, 122, 101, 114, 111]), ("demon/api.ErrName", [100, 101, 109, 111, 110, 58, 32, 110, 97, 109, 101]), ("demon/api.ErrNone", [100, 101, 109, 111, 110, 58, 32, 110, 111, 110, 101]), ("demon/api.ErrOrder", [100, 101, 109, 111, 110, 58, 32, 111, 114, 100, 101, 114]), ("demon/api.ErrKind", [100, 101, 109, 111, 110, 58, 32, 107, 105, 110, 100])]
def laidAll : List (String × DataW Unit) := [("errors.errorType", Rows.laid_errors_errorType), ("demon/api.ErrText", Rows.laid_demon_api_ErrText), ("demon/api.ErrBound", Rows.laid_demon_api_ErrBound), ("demon/api.ErrShape", Rows.laid_demon_api_ErrShape), ("demon/api.ErrZero", Rows.laid_demon_api_ErrZero), ("demon/api.ErrName", Rows.laid_demon_api_ErrName), ("demon/api.ErrNone", Rows.laid_demon_api_ErrNone), ("demon/api.ErrOrder", Rows.laid_demon_api_ErrOrder), ("demon/api.ErrKind", Rows.laid_demon_api_ErrKind)]
theorem laidAll_parts (W : World) : laidMetH Tryz.prog laidAll W = (laidMet Tryz.prog (eightNames.map fun x => (x.1, .iface "*errors.errorString" (.ptr (.agg [.lit (.string x.2)])))) W ∧ handlesMet Tryz.prog [("errors.errorType", Rows.laid_errors_errorType)] W) := by kernel_rfl

theorem var_at {W : World} {n : String} {g : Nat} {v : Value} (hg : Tryz.prog.globalNamed n = some g) (h : W.var? Tryz.prog n = some #[v]) : W.cell? ⟨g, 0, none⟩ = some v := by
  simpa using World.var?_cell hg h 0

theorem errs_of_laid {W : World} (h : laidMetH Tryz.prog laidAll W) : ∃ a : Nat → Addr, Errs W a ∧ ∀ i x, eightNames[i]? = some x → ∃ s, W.cell? (a i) = some (.string s) ∧ s.data.toList = x.2 := by
  rw [laidAll_parts] at h
  obtain ⟨⟨ps, hv, hnd, hrows⟩, hh⟩ := h
  obtain ⟨name, u, ty, e1, e2, e3, e4, e5⟩ := hh _ (List.mem_singleton.2 rfl)
  have en : name = [101, 114, 114, 111, 114] := (Option.some.inj e1).symm
  subst en
  obtain rfl := Option.some.inj (Tryz.rt.symm.trans e2)
  have hm : ty ∈ (List.range 211).filter fun t => Tryz.prog.rowNamed t [101, 114, 114, 111, 114] := List.mem_filter.2 ⟨List.mem_range.2 (by rw [← Tryz.size]; exact e3), e4⟩
  rw [Tryz.oneRow] at hm
  obtain rfl := List.mem_singleton.1 hm
  have hth : typeHandle Tryz.prog 28 = .pointer (some ⟨9, 28, none⟩) := by kernel_rfl
  rw [hth] at e5
  obtain ⟨a, ha, hne⟩ := laid_list Tryz.underlying28 Tryz.rowE Tryz.underlying179 Tryz.underlying199 rfl rfl Tryz.underlying9 Tryz.cellsE Tryz.cellsS eightNames ps
    (fun x hx => by
      simp only [eightNames, List.mem_cons, List.not_mem_nil, or_false] at hx
      rcases hx with rfl | rfl | rfl | rfl | rfl | rfl | rfl | rfl
      · exact ⟨_, Tryz.g0, by kernel_rfl⟩
      · exact ⟨_, Tryz.g1, by kernel_rfl⟩
      · exact ⟨_, Tryz.g2, by kernel_rfl⟩
      · exact ⟨_, Tryz.g3, by kernel_rfl⟩
      · exact ⟨_, Tryz.g4, by kernel_rfl⟩
      · exact ⟨_, Tryz.g5, by kernel_rfl⟩
      · exact ⟨_, Tryz.g6, by kernel_rfl⟩
      · exact ⟨_, Tryz.g7, by kernel_rfl⟩) hv hnd hrows
  refine ⟨a, ⟨var_at Tryz.g0 (ha 0 _ rfl).1, var_at Tryz.g1 (ha 1 _ rfl).1, var_at Tryz.g2 (ha 2 _ rfl).1, var_at Tryz.g3 (ha 3 _ rfl).1, var_at Tryz.g4 (ha 4 _ rfl).1, var_at Tryz.g5 (ha 5 _ rfl).1, var_at Tryz.g6 (ha 6 _ rfl).1, var_at Tryz.g7 (ha 7 _ rfl).1, var_at Tryz.et e5, ?_, ?_⟩, fun i x hx => (ha i x hx).2.1⟩
  · intro i hi
    have hl : eightNames.length = 8 := rfl
    exact (ha i eightNames[i] (List.getElem?_eq_getElem (by omega))).2.2.1
  · intro i j hi hj hij
    exact hne i j hi hj hij

/-- The door's own heap meets the condition. -/
theorem door_met (os : Os) (args : Array Value) : laidMetH Tryz.prog laidAll ((World.doorLaid Tryz.prog 168 os).forCall (fun _ _ => 0) ⟨#[], args, []⟩).memory :=
  laidMetH_of_parts3 (fuel := 8) (laidMet_of_run' 8 (by kernel_rfl) (by kernel_rfl)) (by kernel_rfl) (by kernel_rfl)
end Go.Proofs.YtofflboheiflaaaGreatDoor

/- A parameter of type []int opened. -/
namespace Go.Proofs.YtofflboheiflaaaGreatDoor
open Go.ChangeShapes Go.WideShapes Go.ChangeAt Go.RowKit Go.Joins Go.Deep

theorem Tryz.laidOut : laidOutB Tryz.prog = true := by kernel_rfl
theorem Tryz.cellsInt : Tryz.prog.cellsOf 3 = 1 := by kernel_rfl
theorem Tryz.cellsInts : Tryz.prog.cellsOf 22 = 1 := by kernel_rfl

set_option maxRecDepth 100000 in
/-- What a parameter of type []int gives: its slice, its numbers. -/
theorem open_nums {H : Type} {enc : TypeId × Value → H} {W : World} {base : Nat} {v : Value} {d : DataW H} {p : List MemPlace} (hv : Value.okWide Tryz.prog W .any base 22 v)
    (h : DataW.Trod enc Tryz.prog W 0 (fun _ => true) true 22 v d p) :
    ∃ (ad : Option Addr) (n cap : Nat) (z : Nat → Int), v = .slice ad n cap ∧ n ≤ maxLen ∧ NumsAt W (.slice ad n cap) n z := by
  obtain ⟨ad, n, cap, rfl⟩ := okWide_slice Tryz.underlying22 hv
  obtain ⟨fuel, hf⟩ := h
  rcases open_ints Tryz.underlying22 Tryz.underlying3 Tryz.cellsInt hf with ⟨hc, _⟩ | ⟨a, len, cap', zs, hc, _, hl, hm, hz, _, hcell, _⟩
  · simp [Value.cells] at hc
    obtain ⟨rfl, rfl, rfl⟩ := hc
    exact ⟨none, 0, 0, fun _ => 0, rfl, Nat.zero_le _, Or.inl ⟨none, 0, rfl, rfl⟩⟩
  · simp [Value.cells] at hc
    obtain ⟨rfl, rfl, rfl⟩ := hc
    simp only [if_true] at hz
    rcases Nat.eq_zero_or_pos n with rfl | hpos
    · exact ⟨some a, 0, cap, fun _ => 0, rfl, Nat.zero_le _, Or.inl ⟨some a, cap, rfl, rfl⟩⟩
    · obtain ⟨b, o, spot⟩ := a
      have hspot : spot = none := by simpa [Addr.add] using World.cell?_spot (hcell 0 (by omega))
      subst hspot
      refine ⟨_, n, cap, fun i => zs.getD i 0, rfl, by omega, Or.inr ⟨b, o, cap, rfl, hpos, fun i hi => ?_⟩⟩
      have := hcell i (by omega)
      rw [Go.Proofs.YtofflboheiflaaaGreatDoor.add_plain] at this
      exact this
end Go.Proofs.YtofflboheiflaaaGreatDoor
