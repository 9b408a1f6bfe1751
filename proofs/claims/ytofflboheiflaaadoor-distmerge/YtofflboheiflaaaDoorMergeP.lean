/- dist.Merge. -/
import Derived.Test.YtofflboheiflaaaDoorMerge
import Derived.Test.YtofflboheiflaaaDoorFills
namespace Go.Proofs.YtofflboheiflaaaDoor
open Go.RowKit

set_option maxRecDepth 100000 in
theorem MergeOf_ne (ad ad' : Option Addr) (n m cap cap' : Nat) (t : Nat → Int) (w : World) (h : n ≠ m) :
    Calls Tryd.prog 6 #[.slice ad n cap, .slice ad' m cap'] w fun e w' => e = .returned (.tuple #[.slice none 0 0, .int .i64 (mergeErr t n m : Int)]) ∧ w' = w := by
  have hb : ((n : Int) == (m : Int)) = false := by simp; omega
  have HE := Hid.mk' (mergeErr_ne (t := t) h).1
  go_enter Tryd.func6, Tryd.ntmps6
  go_wp2_with fail
  go_ret2
  exact ⟨by rw [HE.out]; rfl, rfl⟩

set_option maxRecDepth 100000 in
theorem Merge_weights (a : Nat → Addr) (v u : Value) (n m : Nat) (z t : Nat → Int) (w : World) (hE : Errs w a) (h : NumsAt w v n z) (k : NumsAt w u m t) (hn : n ≤ 400) (h0 : weightsErr z n ≠ 0) :
    Calls Tryd.prog 7 #[v, u] w fun e w' => e = .returned (.tuple #[.slice none 0 0, errV a (weightsErr z n)]) ∧ w' = w := by
  have hv := Valid_weights a v n z w hE h (by omega)
  obtain ⟨ad, cap, rfl⟩ := h.form
  obtain ⟨ad', cap', rfl⟩ := k.form
  rw [errV_pos a h0] at hv ⊢
  clear hE h k
  go_enter Tryd.func7, Tryd.ntmps7
  go_wp2_with (go_at_call 14; refine hv.mono ?_; rintro e w1 ⟨rfl, hw1⟩; rw [hw1]; clear hw1)
  go_ret2
  exact ⟨rfl, rfl⟩
set_option maxRecDepth 100000 in
theorem Merge_ne (a : Nat → Addr) (v u : Value) (n m : Nat) (z t : Nat → Int) (w : World) (hE : Errs w a) (h : NumsAt w v n z) (k : NumsAt w u m t) (hn : n ≤ 400) (h0 : weightsErr z n = 0) (hnm : n ≠ m) :
    Calls Tryd.prog 7 #[v, u] w fun e w' => e = .returned (.tuple #[.slice none 0 0, errV a (mergeErr t n m)]) ∧ Below w.heap.size w w' := by
  have hv := Valid_weights a v n z w hE h (by omega)
  obtain ⟨ad, cap, rfl⟩ := h.form
  obtain ⟨ad', cap', rfl⟩ := k.form
  rw [h0, errV_zero] at hv
  have e2 := hE.c2
  have hb : ((m : Int) == (n : Int)) = false := by simp; omega
  have HE := Hid.mk' (mergeErr_ne (t := t) hnm).1
  clear hE h k
  go_enter Tryd.func7, Tryd.ntmps7
  go_wp2_with (go_at_call 14; refine hv.mono ?_; rintro e w1 ⟨rfl, hw1⟩; rw [hw1]; clear hw1)
  go_region
  all_goals
    go_wp2_with fail
    go_ret2
    exact ⟨by rw [HE.out]; rfl, (Below.refl _ _).drew⟩
theorem farB_min (t : Nat → Int) (k : Nat) : farB t (k + 1) = (decide (minTo t k < 0) || decide (16 ≤ maxTo t k)) := by
  have h1 := minTo_neg t k
  rw [negB_iff] at h1
  cases hf : farB t (k + 1) with
  | true =>
    obtain ⟨i, hi, h2⟩ := (farB_iff t (k + 1)).1 hf
    symm
    rw [Bool.or_eq_true, decide_eq_true_eq, decide_eq_true_eq]
    rcases h2 with h2 | h2
    · exact Or.inl (h1.2 ⟨i, hi, h2⟩)
    · have := maxTo_ge t k i (by omega); exact Or.inr (by omega)
  | false =>
    have hno : ∀ i, i < k + 1 → 0 ≤ t i ∧ t i ≤ 15 := fun i hi => by
      rcases Int.lt_or_le (t i) 0 with h | h
      · have := (farB_iff t (k + 1)).2 ⟨i, hi, Or.inl h⟩; rw [hf] at this; cases this
      · rcases Int.lt_or_le 15 (t i) with h' | h'
        · have := (farB_iff t (k + 1)).2 ⟨i, hi, Or.inr h'⟩; rw [hf] at this; cases this
        · exact ⟨h, h'⟩
    symm
    rw [Bool.or_eq_false_iff]
    refine ⟨decide_eq_false (fun h => ?_), decide_eq_false (fun h => ?_)⟩
    · obtain ⟨i, hi, h2⟩ := h1.1 h
      have := hno i hi; omega
    · obtain ⟨i, hi, h2⟩ := maxTo_mem t k
      have := hno i (by omega); omega
set_option maxRecDepth 100000 in
theorem Merge_far (a : Nat → Addr) (b o cap b' o' cap' n : Nat) (z t : Nat → Int) (w : World) (hE : Errs w a) (h : RowAt w b o n z) (k : RowAt w b' o' n t) (h0n : 0 < n) (hn : n ≤ 400) (h0 : weightsErr z n = 0) (hf : farB t n = true) :
    Calls Tryd.prog 7 #[.slice (some ⟨b, o, none⟩) n cap, .slice (some ⟨b', o', none⟩) n cap'] w fun e w' => e = .returned (.tuple #[.slice none 0 0, errV a (mergeErr t n n)]) ∧ Below w.heap.size w w' := by
  have hv := Valid_weights a _ n z w hE (Or.inr ⟨b, o, cap, rfl, h0n, h⟩) (by omega)
  rw [h0, errV_zero] at hv
  have hmin := Min_some b' o' cap' n t w k h0n (by omega)
  have hmax := Max_some b' o' cap' n t w k h0n (by omega)
  have hfm := farB_min t (n - 1)
  rw [Nat.sub_add_cancel h0n, hf] at hfm
  have e2 := hE.c2
  have HE := Hid.mk' (mergeErr_far hf).1
  generalize minTo t (n - 1) = lo at *
  generalize maxTo t (n - 1) = hi at *
  clear hE h k hf
  have hnb : ((n : Int) == (n : Int)) = true := by simp
  rcases Int.lt_or_le lo 0 with hl | hl
  · clear hfm
    go_enter Tryd.func7, Tryd.ntmps7
    go_wp2_with (first
      | (go_at_call 14; refine hv.mono ?_; rintro e w1 ⟨rfl, hw1⟩; rw [hw1]; clear hw1)
      | (go_at_call 15; refine hmin.mono ?_; rintro e w1 ⟨rfl, hw1⟩; rw [hw1]; clear hw1))
    go_region
    all_goals
      go_wp2_with fail
      go_ret2
      exact ⟨by rw [HE.out]; rfl, (Below.refl _ _).drew⟩
  · have hld : decide (lo < 0) = false := decide_eq_false (by omega)
    rw [hld, Bool.false_or] at hfm
    have hhi : 16 ≤ hi := of_decide_eq_true hfm.symm
    clear hfm
    go_enter Tryd.func7, Tryd.ntmps7
    go_wp2_with (first
      | (go_at_call 14; refine hv.mono ?_; rintro e w1 ⟨rfl, hw1⟩; rw [hw1]; clear hw1)
      | (go_at_call 15; refine hmin.mono ?_; rintro e w1 ⟨rfl, hw1⟩; rw [hw1]; clear hw1)
      | (go_at_call 16; refine hmax.mono ?_; rintro e w1 ⟨rfl, hw1⟩; rw [hw1]; clear hw1))
    go_region
    all_goals
      go_wp2_with fail
      go_ret2
      exact ⟨by rw [HE.out]; rfl, (Below.refl _ _).drew⟩

theorem mergeV_next (z t : Nat → Int) (k j : Nat) {T : Nat} (ht : t k = (j : Int)) : ∀ i, i < T → mergeV z t (k + 1) i = if i = j then mergeV z t k j + z k else mergeV z t k i := fun i _ => by
  show mergeV z t k i + (if t k = (i : Int) then z k else 0) = _
  rw [ht]
  by_cases h : i = j
  · subst h; simp
  · rw [if_neg h, if_neg (by omega)]; omega
set_option maxRecDepth 100000 in
set_option maxHeartbeats 2000000 in
theorem Merge_ok (a : Nat → Addr) (b o cap b' o' cap' n : Nat) (z t : Nat → Int) (w : World) (hE : Errs w a) (h : RowAt w b o n z) (k : RowAt w b' o' n t) (h0n : 0 < n) (hn : n ≤ 16) (h0 : weightsErr z n = 0) (hz : ∀ i, i < n → 0 ≤ z i) (hs : sumN z n ≤ 4096) (hf : farB t n = false) :
    Calls Tryd.prog 7 #[.slice (some ⟨b, o, none⟩) n cap, .slice (some ⟨b', o', none⟩) n cap'] w fun e w' => ∃ v, e = .returned (.tuple #[v, errV a (mergeErr t n n)]) ∧ NumsAt w' v (mergeLen t n n) (mergeV z t n) ∧ Below w.heap.size w w' := by
  have hv := Valid_weights a _ n z w hE (Or.inr ⟨b, o, cap, rfl, h0n, h⟩) (by omega)
  rw [h0, errV_zero] at hv
  have hmin := Min_some b' o' cap' n t w k h0n (by omega)
  have hmax := Max_some b' o' cap' n t w k h0n (by omega)
  have hfm := farB_min t (n - 1)
  rw [Nat.sub_add_cancel h0n, hf] at hfm
  obtain ⟨hf1, hf2⟩ := Bool.or_eq_false_iff.1 hfm.symm
  have HFAR : Hid (∀ i, i < n → 0 ≤ t i ∧ t i ≤ 15) := fun i hi => by
    rcases Int.lt_or_le (t i) 0 with h | h
    · have := (farB_iff t n).2 ⟨i, hi, Or.inl h⟩; rw [hf] at this; cases this
    · rcases Int.lt_or_le 15 (t i) with h' | h'
      · have := (farB_iff t n).2 ⟨i, hi, Or.inr h'⟩; rw [hf] at this; cases this
      · exact ⟨h, h'⟩
  have htop : topTo t n = maxTo t (n - 1) := by
    have := topTo_max t (n - 1) (fun i hi => (HFAR.out i (by omega)).1)
    rwa [Nat.sub_add_cancel h0n] at this
  have HGE : Hid (∀ i, i < n → t i ≤ topTo t n) := fun i hi => topTo_ge hi
  obtain ⟨T, hT⟩ := Int.eq_ofNat_of_zero_le (topTo_nonneg t n)
  have hT15 : T ≤ 15 := by have := topTo_le (t := t) (k := n) (fun i hi => (HFAR.out i hi).2); omega
  have HE : Hid (mergeErr t n n = 0 ∧ mergeLen t n n = T + 1) := by
    obtain ⟨e1, e2⟩ := mergeErr_no hf
    refine ⟨e1, ?_⟩
    rw [e2, hT]; simp
  rw [← htop, hT] at hmax hf2
  rw [hT] at HGE
  obtain ⟨lo, hlo⟩ : ∃ lo, lo = minTo t (n - 1) := ⟨_, rfl⟩
  rw [← hlo] at hmin hf1
  have HT := Hid.mk' k
  have HR := Hid.mk' h
  have HML := Hid.mk' (fun k j (hk : k ≤ n) => mergeV_le (t := t) (j := j) hz hk)
  have HZ := Hid.mk' hz
  obtain ⟨i0, hi, hz0, hz1, hz2⟩ := info_parts Tryd.infoInt
  have HINF : Hid (Tryd.prog.info? 3 = some i0 ∧ i0.zero = some (.int .i64 0) ∧ i0.size = 1 ∧ i0.bytes = 8) := ⟨hi, hz0, hz1, hz2⟩
  clear hE h k hf hfm htop hT hlo hz hi hz0 hz1 hz2
  have hnb : ((n : Int) == (n : Int)) = true := by simp
  go_enter Tryd.func7, Tryd.ntmps7
  go_wp2_with (first
    | (go_at_call 14; refine hv.mono ?_; rintro e w1 ⟨rfl, hw1⟩; rw [hw1]; clear hw1)
    | (go_at_call 15; refine hmin.mono ?_; rintro e w1 ⟨rfl, hw1⟩; rw [hw1]; clear hw1)
    | (go_at_call 16; refine hmax.mono ?_; rintro e w1 ⟨rfl, hw1⟩; rw [hw1]; clear hw1)
    | (at_make; go_must (refine wpList_make_full _ rfl _ _ _ rfl w.heap.size 3 i0 _ 1 Tryd.underlying22 HINF.out.1 HINF.out.2.1 HINF.out.2.2.1 .i64 .i64 _ _ (T + 1) rfl rfl (by omega) (by omega) (by rw [HINF.out.2.2.2]; omega) (by unfold maxLen; omega) (Nat.le_refl _) ?_; intro w2 hown2 hgrow2; have HF2 := Hid.mk' (fills_made hown2 (made_zero (T + 1)) hgrow2); clear hown2 hgrow2)))
  clear hv hmin hmax
  go_loopw [8, 9, 37] (fun _ _ i wr => ∃ k : Nat, k ≤ n ∧ i = .int .i64 k ∧ Hid (Fills w wr w.heap.size (T + 1) (mergeV z t k))) (fun _ _ i _ => n - (intOf i).toNat)
  case atStart => exact ⟨0, Nat.zero_le _, rfl, HF2⟩
  case round =>
    obtain ⟨k, hk, rfl, HF⟩ := hrel
    rcases Nat.lt_or_ge k n with h1 | h1
    · have hcT := (HT.out.later HF.out.below) k h1
      have hcR := (HR.out.later HF.out.below) k h1
      have hkn : (k : Int) < (n : Int) := by omega
      have htk := HFAR.out k h1
      have htg := HGE.out k h1
      obtain ⟨j, hj⟩ := Int.eq_ofNat_of_zero_le htk.1
      have HN := Hid.mk' (mergeV_next z t k j (T := T + 1) hj)
      rw [hj] at hcT htg
      have hjT : j < T + 1 := by omega
      have hzk := HZ.out k h1
      have hbj := HML.out (k + 1) j h1
      rw [HN.out j hjT, if_pos rfl] at hbj
      have hbk := HML.out k j hk
      have hcF := HF.out.row j hjT
      have hfz := HF.out.fz j hjT
      rw [Nat.zero_add] at hcF hfz
      have hjl : (j : Int) < (T : Int) + 1 := by omega
      obtain ⟨y, hy⟩ : ∃ y, y = mergeV z t k j := ⟨_, rfl⟩
      rw [← hy] at hcF hbk hbj HN
      obtain ⟨x, hx⟩ : ∃ x, x = z k := ⟨_, rfl⟩
      rw [← hx] at hcR hzk hbj HN
      clear hx hy htk hj
      have HS := Hid.mk' (HF.out.set hjT (y + x) HN.out)
      go_wp2_with fail
      go_region
      all_goals
        go_wp2_with fail
        exact ⟨⟨k + 1, h1, by go_num, HS.out.drew⟩, by simp [intOf]; omega⟩
    · obtain rfl : k = n := by omega
      go_wp2_with fail
      go_ret2
      refine ⟨_, by rw [HE.out.1]; rfl, ?_, HF.out.below⟩
      rw [HE.out.2]
      exact Or.inr ⟨w.heap.size, 0, T + 1, by simp, by omega, HF.out.row⟩
end Go.Proofs.YtofflboheiflaaaDoor
