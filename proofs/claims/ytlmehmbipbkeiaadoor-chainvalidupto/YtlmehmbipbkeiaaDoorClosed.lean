/- chain.closed, class. -/
import Derived.Test.YtlmehmbipbkeiaaDoorClasses
import Derived.Test.YtlmehmbipbkeiaaDoorValidWalk
namespace Go.Proofs.YtlmehmbipbkeiaaDoor
open Go.RowKit

theorem closedL_le (to : Nat → Nat → Bool) (N : Nat) : ∀ n, (closedL to N n).length ≤ n
  | 0 => by simp [closedL]
  | n + 1 => by
    have := closedL_le to N n
    rw [closedL]; split
    · simp; omega
    · omega
theorem classL_le (to : Nat → Nat → Bool) (i : Nat) : ∀ n, (classL to i n).length ≤ n
  | 0 => by simp [classL]
  | n + 1 => by
    have := classL_le to i n
    rw [classL]; split
    · simp; omega
    · omega

set_option maxRecDepth 100000 in
set_option maxHeartbeats 2000000 in
theorem closed_any (v : Value) (n : Nat) (to : Nat → Nat → Bool) (w : World) (h : TruthAt w v n to) (hn : n ≤ 8) :
    Calls Tryd.prog 18 #[v] w fun e w' => ∃ r, e = .returned r ∧ StatesAt w' r (closedL to n n) ∧ Below w.heap.size w w' := by
  obtain ⟨i0, hi, hz0, hz1, hz2⟩ := info_parts Tryd.infoInt
  have HINF : Hid (Tryd.prog.info? 3 = some i0 ∧ i0.zero = some (.int .i64 0) ∧ i0.size = 1 ∧ i0.bytes = 8) := ⟨hi, hz0, hz1, hz2⟩
  clear hi hz0 hz1 hz2
  have HT := Hid.mk' h
  have hls := leasts_any v n to w h hn
  clear h
  go_enter Tryd.func18, Tryd.ntmps18
  go_wp2_with fail
  refine hls.mono ?_
  clear hls
  rintro e w1 ⟨g, rfl, hrow, hb1⟩
  have HRW := Hid.mk' hrow
  have HB1 := Hid.mk' hb1
  clear hrow hb1
  go_wp2_with fail
  go_loopw [3, 9] (fun u i wr => ∃ k : Nat, k ≤ n ∧ i = .int .i64 k ∧ Hid (wr.ownsRow w1.heap.size 3 1 u (closedL to n k).length (cellL (natL (closedL to n k)))) ∧ Hid (Below w1.heap.size w1 wr)) (fun _ i _ => n - (intOf i).toNat)
  case atStart => exact ⟨0, Nat.zero_le _, rfl, ⟨rfl, Or.inl ⟨rfl, rfl⟩⟩, Below.refl _ _⟩
  case round =>
    obtain ⟨k, hk, rfl, HO, HB⟩ := hrel
    rcases Nat.lt_or_ge k n with h1 | h1
    · have hkn : (k : Int) < (n : Int) := by omega
      have hk0 : (0 : Int) ≤ (k : Int) := by omega
      have hc : wr.cell? ⟨g, k, none⟩ = some (.int .i64 ((least to k : Nat) : Int)) := by
        have := (HRW.out.later HB.out) k h1
        rw [Nat.zero_add] at this
        exact this
      have hzB := HB.out.size
      by_cases hL : least to k = k
      · rw [hL] at hc
        have hst := stays_any v n k to wr (HT.out.later (below_chain HB1.out HB.out)) hn h1
        cases hS : staysB to k n with
        | true =>
          rw [hS] at hst
          have HC : Hid (closedL to n (k + 1) = closedL to n k ++ [k]) := by show _ = _; rw [closedL, if_pos ⟨hL, hS⟩]
          have hll := closedL_le to n k
          clear hS hL
          go_wp2_with fail
          refine hst.mono ?_
          clear hst
          rintro e w2 ⟨rfl, hw2⟩
          go_wp2_with (at_builtin; go_must (refine wpList_append_lies _ rfl _ _ _ rfl w1.heap.size 3 i0 _ 1 8 Tryd.underlying34 HINF.out.1 HINF.out.2.1 HINF.out.2.2.1 HINF.out.2.2.2 rfl (by omega) u3 _ _ rfl (HO.out.alloc _) ⟨wr.heap.size, 0, none⟩ 1 1 [.int .i64 (k : Int)] rfl rfl (one_new _ _ _) (by simp [Value.oneCell']) (by omega) (by unfold maxLen; omega) (by omega) (by simp; omega) _ rfl ?_; intro g' cap2 w3 hown3 hgrow3 hat3 hlt3; have HO3 := Hid.mk' hown3; have HG3 := Hid.mk' hgrow3; clear hown3 hgrow3 hat3))
          refine ⟨⟨k + 1, h1, by go_num, ?_, below_push HB.out HO.out HG3.out⟩, by simp [intOf]; omega⟩
          rw [HC.out, natL_push]
          simpa using HO3
        | false =>
          rw [hS] at hst
          have HC : Hid (closedL to n (k + 1) = closedL to n k) := by show _ = _; rw [closedL, if_neg (by rw [hS]; simp)]
          clear hS hL
          go_wp2_with fail
          refine hst.mono ?_
          clear hst
          rintro e w2 ⟨rfl, hw2⟩
          go_wp2_with fail
          exact ⟨⟨k + 1, h1, by go_num, by rw [HC.out]; exact HO, HB⟩, by simp [intOf]; omega⟩
      · have hb : ((k : Int) == (least to k : Int)) = false := by rw [beq_eq_false_iff_ne]; omega
        have HC : Hid (closedL to n (k + 1) = closedL to n k) := by show _ = _; rw [closedL, if_neg (fun h => hL h.1)]
        clear hL
        generalize least to k = x at *
        go_wp2_with fail
        exact ⟨⟨k + 1, h1, by go_num, by rw [HC.out]; exact HO, HB⟩, by simp [intOf]; omega⟩
    · obtain rfl : n = k := by omega
      go_wp2_with fail
      go_ret
      exact ⟨_, rfl, statesAt_row HO.out, below_chain HB1.out HB.out⟩

set_option maxRecDepth 100000 in
set_option maxHeartbeats 2000000 in
theorem class_any (v : Value) (n i : Nat) (to : Nat → Nat → Bool) (w : World) (h : TruthAt w v n to) (hn : n ≤ 8) (hi : i < n) :
    Calls Tryd.prog 19 #[v, .int .i64 i] w fun e w' => ∃ r, e = .returned r ∧ StatesAt w' r (classL to i n) ∧ Below w.heap.size w w' := by
  obtain ⟨i0, hii, hz0, hz1, hz2⟩ := info_parts Tryd.infoInt
  have HINF : Hid (Tryd.prog.info? 3 = some i0 ∧ i0.zero = some (.int .i64 0) ∧ i0.size = 1 ∧ i0.bytes = 8) := ⟨hii, hz0, hz1, hz2⟩
  clear hii hz0 hz1 hz2
  have HT := Hid.mk' h
  obtain ⟨b, o, cap, rfl, hr⟩ := h
  clear hr
  have hi0 : (0 : Int) ≤ (i : Int) := by omega
  have hin : (i : Int) < (n : Int) := by omega
  go_enter Tryd.func19, Tryd.ntmps19
  go_wp2_with fail
  go_loopw [5, 9] (fun u t wr => ∃ k : Nat, k ≤ n ∧ t = .int .i64 k ∧ Hid (wr.ownsRow w.heap.size 3 1 u (classL to i k).length (cellL (natL (classL to i k)))) ∧ Hid (Below w.heap.size w wr)) (fun _ t _ => n - (intOf t).toNat)
  case atStart => exact ⟨0, Nat.zero_le _, rfl, ⟨rfl, Or.inl ⟨rfl, rfl⟩⟩, Below.refl _ _⟩
  case round =>
    obtain ⟨k, hk, rfl, HO, HB⟩ := hrel
    rcases Nat.lt_or_ge k n with h1 | h1
    · have hkn : (k : Int) < (n : Int) := by omega
      have hk0 : (0 : Int) ≤ (k : Int) := by omega
      obtain ⟨bi, oi, ci, hci, hri⟩ := (HT.out.later HB.out).rowAt i hi
      have c1 := hri k h1
      have hzB := HB.out.size
      clear hri
      cases hA : to i k with
      | true =>
        rw [hA] at c1
        have HC : Hid (classL to i (k + 1) = classL to i k ++ [k]) := by show _ = _; rw [classL, if_pos hA]
        have hll := classL_le to i k
        go_wp2_with (at_builtin; go_must (refine wpList_append_lies _ rfl _ _ _ rfl w.heap.size 3 i0 _ 1 8 Tryd.underlying34 HINF.out.1 HINF.out.2.1 HINF.out.2.2.1 HINF.out.2.2.2 rfl (by omega) u5 _ _ rfl (HO.out.alloc _) ⟨wr.heap.size, 0, none⟩ 1 1 [.int .i64 (k : Int)] rfl rfl (one_new _ _ _) (by simp [Value.oneCell']) (by omega) (by unfold maxLen; omega) (by omega) (by simp; omega) _ rfl ?_; intro g' cap2 w3 hown3 hgrow3 hat3 hlt3; have HO3 := Hid.mk' hown3; have HG3 := Hid.mk' hgrow3; clear hown3 hgrow3 hat3))
        refine ⟨⟨k + 1, h1, by go_num, ?_, below_push HB.out HO.out HG3.out⟩, by simp [intOf]; omega⟩
        rw [HC.out, natL_push]
        simpa using HO3
      | false =>
        rw [hA] at c1
        have HC : Hid (classL to i (k + 1) = classL to i k) := by show _ = _; rw [classL, if_neg (by rw [hA]; simp)]
        go_wp2_with fail
        exact ⟨⟨k + 1, h1, by go_num, by rw [HC.out]; exact HO, HB⟩, by simp [intOf]; omega⟩
    · obtain rfl : n = k := by omega
      go_wp2_with fail
      go_ret
      exact ⟨_, rfl, statesAt_row HO.out, HB.out⟩
end Go.Proofs.YtlmehmbipbkeiaaDoor
