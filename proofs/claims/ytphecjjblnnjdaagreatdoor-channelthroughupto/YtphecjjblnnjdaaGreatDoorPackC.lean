/- (*Wide).Prime in general. -/
import Derived.Test.YtphecjjblnnjdaaGreatDoorPackB
import Derived.Test.YtphecjjblnnjdaaGreatDoorValidWalk
import Derived.Deep.CutRange
import Derived.Test.YtphecjjblnnjdaaGreatDoorBigMul
import Derived.Laws.MathBits
import Derived.Test.YtphecjjblnnjdaaGreatDoorWeights
namespace Go.Proofs.YtphecjjblnnjdaaGreatDoor
open Go.RowKit

set_option maxRecDepth 100000 in
set_option maxHeartbeats 2000000 in
theorem Prime_none (base M B p : Nat) (z : Int) (cv : Value) (w : World) (hW : WideAt base M w B (.slice none 0 0) (.slice none 0 0) []) (hc : RatioAt w cv (lowN M z) (lowD M z)) :
    Calls Tryz.prog 52 #[.pointer (some ⟨B, 0, none⟩), .int .i64 p, cv] w fun e w' => e = .returned (.tuple #[]) ∧ ∃ vp' vc' L', WideAt base M w' B vp' vc' L' ∧ Put (absL []) (absL L') p z ∧ IntsKept w w' ∧ Moved B w w' ∧ Below base w w' := by
  obtain ⟨s, ad, l, cap, ad', l', cap', rfl⟩ := hc.parts
  have hb0 : Below w.heap.size w (w.alloc (.cells #[.bool s, .slice ad l cap, .slice ad' l' cap'] 54)) := new_below _ _
  have c0 := (hW.later hb0).cp
  have c1 := (hW.later hb0).cc
  obtain ⟨i0, hi, hz0, hz1, hz2⟩ := info_parts Tryz.infoInt
  have HINF : Hid (Tryz.prog.info? 3 = some i0 ∧ i0.zero = some (.int .i64 0) ∧ i0.size = 1 ∧ i0.bytes = 8) := ⟨hi, hz0, hz1, hz2⟩
  clear hi hz0 hz1 hz2
  obtain ⟨i3, hi, hz0, hz1, hz2⟩ := info_parts Tryz.infoRatio
  have HINR : Hid (Tryz.prog.info? 54 = some i3 ∧ i3.zero = some (.agg #[.bool false, .slice none 0 0, .slice none 0 0]) ∧ i3.size = 3 ∧ i3.bytes = 56) := ⟨hi, hz0, hz1, hz2⟩
  clear hi hz0 hz1 hz2
  have HW := Hid.mk' hW
  have HC := Hid.mk' hc
  have HWA0 := Hid.mk' (hW.later hb0)
  clear hW hc hb0
  go_enter Tryz.func52, Tryz.ntmps52
  obtain ⟨W1, hW1⟩ : ∃ W1, W1 = w.alloc (.cells #[.bool s, .slice ad l cap, .slice ad' l' cap'] 54) := ⟨_, rfl⟩
  rw [← hW1] at c0 c1 HWA0
  have HWA := HWA0
  have HW1 := Hid.mk' hW1
  clear hW1 HWA0
  go_upto_block 0 with fail
  rw [← HW1.out]
  go_wp2_with fail
  refine wp_loop_rounds 1 ?_
  rw [rounds_succ]
  go_upto_region 10 with (at_builtin; go_must (first
    | (refine wpList_append_src _ rfl _ _ _ rfl W1.heap.size 3 i0 _ 1 8 Tryz.underlying22 HINF.out.1 HINF.out.2.1 HINF.out.2.2.1 HINF.out.2.2.2 rfl (by omega) (.slice ad2 1 c2) 1 [.int .i64 (p : Int)] rfl HO3.out none 0 0 [] rfl rfl (fun j u h => by simp at h) (fun u h => by simp at h) (by unfold maxLen; omega) (by omega) HB3.out.size 1 rfl ?_; intro ad3 c3 w4 hown4 hg4; have HO4 := Hid.mk' hown4; have HB4 := Hid.mk' (HB3.out.grown hg4 HB3.out.size (fun k h => (HO3.out.lt k h).1)); have c0 := (HWA.out.later HB4.out).cp; have f0 := (HWA.out.later HB4.out).f0; clear hown4 hg4 HO3 HB3)
    | (refine wpList_append_src _ rfl _ _ _ rfl W1.heap.size 3 i0 _ 1 8 Tryz.underlying22 HINF.out.1 HINF.out.2.1 HINF.out.2.2.1 HINF.out.2.2.2 rfl (by omega) (.slice ad1 0 cp1) 0 [] rfl (HO2.out.alloc _) (some ⟨w2.heap.size, 0, none⟩) 1 1 [.int .i64 (p : Int)] rfl rfl (src_new _ _ _) (fun u hu => by simp at hu; subst hu; rfl) (by unfold maxLen; omega) (by omega) (Nat.le_trans HB2.out.size (by simp)) 1 rfl ?_; intro ad2 c2 w3 hown3 hg3; have HO3 : Hid (w3.ownsRow W1.heap.size 3 1 (.slice ad2 1 c2) 1 [.int .i64 (p : Int)]) := hown3; have HB3 := Hid.mk' (below_push HB2.out HO2.out hg3); have c0 := (HWA.out.later HB3.out).cp; clear hown3 hg3 HO2 HB2)
    | (refine wpList_append_src _ rfl _ _ _ rfl W1.heap.size 3 i0 _ 1 8 Tryz.underlying22 HINF.out.1 HINF.out.2.1 HINF.out.2.2.1 HINF.out.2.2.2 rfl (by omega) (.slice none 0 0) 0 [] rfl (World.ownsRow_nil _ _ _ _) none 0 0 [] rfl rfl (fun j u h => by simp at h) (fun u h => by simp at h) (by unfold maxLen; omega) (by omega) (Nat.le_refl _) 0 rfl ?_; intro ad1 cp1 w2 hown2 hg2; have HO2 : Hid (w2.ownsRow W1.heap.size 3 1 (.slice ad1 0 cp1) 0 []) := hown2; have HB2 := Hid.mk' ((Below.refl W1.heap.size W1).grown hg2 (Nat.le_refl _) (fun k h => by cases h)); clear hown2 hg2)))
  obtain ⟨W2, hW2⟩ : ∃ W2, W2 = w4.setCell ⟨B, 0, none⟩ (.slice ad3 1 c3) := ⟨_, rfl⟩
  have hwB : w.heap.size ≠ B := by have := HW.out.lt; omega
  have hbx : w4.cell? ⟨w.heap.size, 0, none⟩ = some (.bool s) ∧ w4.cell? ⟨w.heap.size, 1, none⟩ = some (.slice ad l cap) ∧ w4.cell? ⟨w.heap.size, 2, none⟩ = some (.slice ad' l' cap') := by
    have h1 := HB4.out
    rw [HW1.out] at h1
    exact three_new_past h1
  have HKC : Hid (∀ W, Below W2.heap.size W2 W → W.cell? ⟨B, 1, none⟩ = some (.slice none 0 0) ∧ W.frozen? ⟨B, 1, none⟩ = false ∧ (W.cell? ⟨w.heap.size, 0, none⟩ = some (.bool s) ∧ W.cell? ⟨w.heap.size, 1, none⟩ = some (.slice ad l cap) ∧ W.cell? ⟨w.heap.size, 2, none⟩ = some (.slice ad' l' cap'))) := fun W hb => by
    have h4 := HWA.out.later HB4.out
    have q1 : W2.cell? ⟨B, 1, none⟩ = some (.slice none 0 0) := by rw [hW2]; exact (cell_set0 h4.cp h4.cc).2
    have q2 : W2.frozen? ⟨B, 1, none⟩ = false := by rw [hW2, World.frozen?_setCell]; exact h4.f1
    have q4 : ∀ j v, w4.cell? ⟨w.heap.size, j, none⟩ = some v → W2.cell? ⟨w.heap.size, j, none⟩ = some v := fun j v h => by
      rw [hW2, World.cell?_setCell_far _ _ _ _ (Ne.symm hwB)]; exact h
    exact ⟨(cell_past q1 hb).2, (frozen_past q1 q2 hb).2, ⟨(cell_past (q4 _ _ hbx.1) hb).2, (cell_past (q4 _ _ hbx.2.1) hb).2, (cell_past (q4 _ _ hbx.2.2) hb).2⟩⟩
  rw [← hW2]
  have HW2 := Hid.mk' hW2
  clear hW2 hbx c0 f0 c1
  obtain ⟨c1, _, ⟨b0, b1, b2⟩⟩ := HKC.out W2 (Below.refl _ _)
  go_wp2_with (at_builtin; go_must (first
    | (refine wpList_append_src _ rfl _ _ _ rfl W2.heap.size 54 i3 _ 3 56 Tryz.underlying46 HINR.out.1 HINR.out.2.1 HINR.out.2.2.1 HINR.out.2.2.2 rfl (by omega) (.slice ad5 1 c5) 1 [.bool s, .slice ad l cap, .slice ad' l' cap'] rfl HO6.out none 0 0 [] rfl rfl (fun j u h => by simp at h) (fun u h => by simp at h) (by unfold maxLen; omega) (by omega) HB6.out.size 1 rfl ?_; intro ad6 c6 w7 hown7 hg7; have HO7 := Hid.mk' hown7; have HB7 := Hid.mk' (HB6.out.grown hg7 HB6.out.size (fun k h => (HO6.out.lt k h).1)); obtain ⟨c1, f1, _⟩ := HKC.out _ HB7.out; clear hown7 hg7 HO6 HB6)
    | (refine wpList_append_src _ rfl _ _ _ rfl W2.heap.size 54 i3 _ 3 56 Tryz.underlying46 HINR.out.1 HINR.out.2.1 HINR.out.2.2.1 HINR.out.2.2.2 rfl (by omega) (.slice ad4 0 c4) 0 [] rfl (HO5.out.alloc _) (some ⟨w5.heap.size, 0, none⟩) 1 1 [.bool s, .slice ad l cap, .slice ad' l' cap'] rfl rfl (src_new _ _ _) (fun u hu => by simp at hu; rcases hu with rfl | rfl | rfl <;> rfl) (by unfold maxLen; omega) (by omega) (Nat.le_trans HB5.out.size (by simp)) 1 rfl ?_; intro ad5 c5 w6 hown6 hg6; have HO6 : Hid (w6.ownsRow W2.heap.size 54 3 (.slice ad5 1 c5) 1 [.bool s, .slice ad l cap, .slice ad' l' cap']) := hown6; have HB6 := Hid.mk' (below_push HB5.out HO5.out hg6); obtain ⟨c1, _, _⟩ := HKC.out _ HB6.out; clear hown6 hg6 HO5 HB5)
    | (refine wpList_append_src _ rfl _ _ _ rfl W2.heap.size 54 i3 _ 3 56 Tryz.underlying46 HINR.out.1 HINR.out.2.1 HINR.out.2.2.1 HINR.out.2.2.2 rfl (by omega) (.slice none 0 0) 0 [] rfl (World.ownsRow_nil _ _ _ _) none 0 0 [] rfl rfl (fun j u h => by simp at h) (fun u h => by simp at h) (by unfold maxLen; omega) (by omega) (Nat.le_refl _) 0 rfl ?_; intro ad4 c4 w5 hown5 hg5; have HO5 : Hid (w5.ownsRow W2.heap.size 54 3 (.slice ad4 0 c4) 0 []) := hown5; have HB5 := Hid.mk' ((Below.refl W2.heap.size W2).grown hg5 (Nat.le_refl _) (fun k h => by cases h)); obtain ⟨_, _, ⟨b0, b1, b2⟩⟩ := HKC.out _ HB5.out; clear hown5 hg5)))
  obtain ⟨x1, x2, x3, x4⟩ := wide_insert (k := 0) (e := ⟨p, .bool s, .slice ad l cap, .slice ad' l' cap', z⟩) HWA.out HB4.out HO4.out HW2.out HB7.out HO7.out (by rw [HW1.out]; exact HC.out.later (new_below _ _))
  have hWb : Below w.heap.size w W1 := by rw [HW1.out]; exact new_below _ _
  go_end0
  refine ⟨rfl, _, _, _, x1, ?_, (IntsKept.of_below hWb).trans x2, (Moved.of_below hWb HW.out.lt).trans x3, (hWb.mono (by have := HW.out.hB; have := HW.out.lt; omega)).trans x4⟩
  exact put_between (k := 0) (L := []) (by simp [absL, Rising]) (fun i hi => absurd hi (by omega)) (fun h => absurd h (by simp)) ⟨(fun h => absurd h (by decide)), (fun h => absurd h.1 (by simp))⟩

/-- Prime: a prime with a coefficient comes to a sum. -/
theorem Prime_any (base M B p : Nat) (z : Int) (cv vp vc : Value) (L : List Ent) (k0 : Nat) (w : World) (hW : WideAt base M w B vp vc L) (hc : RatioAt w cv (lowN M z) (lowD M z)) (hM : 0 < M) (hr : Rising (absL L)) (hlen : L.length ≤ 100000) (hbz : z.natAbs < 1000000 ^ k0) (hbL : ∀ e ∈ L, e.z.natAbs < 1000000 ^ k0) (hbM : M < 1000000 ^ k0) (hk0 : k0 ≤ 1000) :
    Calls Tryz.prog 52 #[.pointer (some ⟨B, 0, none⟩), .int .i64 p, cv] w fun e w' => e = .returned (.tuple #[]) ∧ ∃ vp' vc' L', WideAt base M w' B vp' vc' L' ∧ Put (absL L) (absL L') p z ∧ IntsKept w w' ∧ Moved B w w' ∧ Below base w w' := by
  rcases Nat.eq_zero_or_pos L.length with h0 | hL
  · obtain rfl := List.length_eq_zero_iff.1 h0
    obtain ⟨rfl, rfl⟩ := hW.nil rfl
    exact Prime_none base M B p z cv w hW hc
  · obtain ⟨gp, capp, rfl, _⟩ := hW.P.form hL
    obtain ⟨gc, capc, rfl, _⟩ := hW.C.form hL
    exact Prime_more base M B p z cv gp gc capp capc L k0 w hW hc hM hr hL hlen hbz hbL hbM hk0
end Go.Proofs.YtphecjjblnnjdaaGreatDoor

/- (*Wide).Number: the logarithm of a number, so often. -/
namespace Go.Proofs.YtphecjjblnnjdaaGreatDoor
open Go.RowKit

theorem absL_length (L : List Ent) : (absL L).length = L.length := by unfold absL; simp
theorem absL_mem {L : List Ent} {e : Ent} (h : e ∈ L) : ((e.p : Int), e.z) ∈ absL L := List.mem_map.2 ⟨e, h, rfl⟩

/-- What Number keeps: n is left, k factors are put. -/
structure InNum (base M B : Nat) (W0 wr : World) (z : Int) (L0 : List Ent) (n0 n k : Nat) (vp vc : Value) (L : List Ent) : Prop where
  wide : WideAt base M wr B vp vc L
  rise : Rising (absL L)
  val : ∀ x, atL (absL L) x + z * multI x n = atL (absL L0) x + z * multI x n0
  cnt : 2 ^ k * n ≤ n0
  len : L.length ≤ L0.length + k
  kept : IntsKept W0 wr
  moved : Moved B W0 wr
  below : Below base W0 wr

theorem InNum.cnt_le {base M B : Nat} {W0 wr : World} {z : Int} {L0 : List Ent} {n0 n k : Nat} {vp vc : Value} {L : List Ent} (h : InNum base M B W0 wr z L0 n0 n k vp vc L) (hn : 0 < n) (hn06 : n0 ≤ 1000000) : k ≤ 19 := by
  rcases Nat.lt_or_ge 19 k with h' | h'
  · have h1 := h.cnt
    have h2 : 2 ^ 20 ≤ 2 ^ k := Nat.pow_le_pow_right (by decide) h'
    have h3 : (2 : Nat) ^ 20 = 1048576 := by decide
    have h4 := Nat.mul_le_mul_left (2 ^ k) hn
    omega
  · exact h'
theorem InNum.coef {base M B : Nat} {W0 wr : World} {z : Int} {L0 : List Ent} {n0 n k : Nat} {vp vc : Value} {L : List Ent} (h : InNum base M B W0 wr z L0 n0 n k vp vc L) (hn : 0 < n) (hn6 : n ≤ 1000000) (hn0 : 0 < n0) (hn06 : n0 ≤ 1000000) {E : Nat} (hb : ∀ x, (atL (absL L0) x).natAbs + 20 * z.natAbs < E) : ∀ e ∈ L, e.z.natAbs < E := fun e he => by
  have h0 := atL_mem h.rise (absL_mem he)
  simp only at h0
  have h1 := h.val e.p
  have h2 := hb e.p
  have h3 := multI_nonneg e.p n
  have h4 := multI_le e.p hn hn6
  have h5 := multI_nonneg e.p n0
  have h6 := multI_le e.p hn0 hn06
  rw [h0] at h1
  have h7 : e.z = atL (absL L0) e.p + z * (multI e.p n0 - multI e.p n) := by rw [Int.mul_sub]; omega
  have h8 : (z * (multI e.p n0 - multI e.p n)).natAbs ≤ z.natAbs * 19 := by
    rw [Int.natAbs_mul]
    exact Nat.mul_le_mul_left _ (by omega)
  have h9 := Int.natAbs_add_le (atL (absL L0) e.p) (z * (multI e.p n0 - multI e.p n))
  rw [← h7] at h9
  omega
theorem InNum.put {base M B : Nat} {W0 wr w1 : World} {z : Int} {L0 : List Ent} {n0 n k d : Nat} {vp vc vp' vc' : Value} {L L' : List Ent} (h : InNum base M B W0 wr z L0 n0 n k vp vc L) (hn : 0 < n) (hd : Pr d) (hm : n % d = 0)
    (hw : WideAt base M w1 B vp' vc' L') (hp : Put (absL L) (absL L') d z) (hk : IntsKept wr w1) (hmv : Moved B wr w1) (hb : Below base wr w1) : InNum base M B W0 w1 z L0 n0 (n / d) (k + 1) vp' vc' L' := by
  refine ⟨hw, hp.rise, fun x => ?_, ?_, ?_, h.kept.trans hk, h.moved.trans hmv, h.below.trans hb⟩
  · rw [hp.val x, ← h.val x, multI_step x hn hd hm, Int.mul_add]
    by_cases hx : x = (d : Int)
    · rw [if_pos hx, if_pos hx, Int.mul_one]; omega
    · rw [if_neg hx, if_neg hx, Int.mul_zero]; omega
  · have h1 := h.cnt
    have h2 : 2 * (n / d) ≤ n := by
      have h3 := Nat.mul_le_mul_right (n / d) hd.1
      have h4 := Nat.mul_div_le n d
      omega
    have h5 := Nat.mul_le_mul_left (2 ^ k) h2
    rw [Nat.pow_succ, Nat.mul_assoc]
    omega
  · have h1 := hp.len
    have h2 := h.len
    rw [absL_length, absL_length] at h1
    omega
/-- A new block is none of a Wide's own. -/
theorem WideAt.not_mine {base M : Nat} {W : World} {B : Nat} {vp vc : Value} {L : List Ent} (h : WideAt base M W B vp vc L) (X : Obj) : ¬ Mine B (W.alloc X) W.heap.size := by
  have hB := h.lt
  have hb : Below W.heap.size W (W.alloc X) := new_below _ _
  rintro (h1 | ⟨n, cap, h1⟩)
  · omega
  · rw [(h.later hb).cc] at h1
    have hv := Option.some.inj h1
    subst hv
    rcases h.C.2 with ⟨h2, _⟩ | ⟨g, c, cur, h2, _, h3, _⟩
    · cases h2
    · have h4 : W.heap.size = g := by injection h2 with h2; injection h2 with h2; injection h2
      have h5 := h.C.lt g (by rw [h2]; rfl)
      omega

def numMeas (t r : Nat) : Nat := if t ≤ 1 then 0 else 2000 - r
theorem numMeas_lt {n d m e : Nat} (h : 1 < n) (hd : d ≤ 1001) (h' : m ≤ 1 ∨ d < e) : numMeas m e < numMeas n d := by
  unfold numMeas
  rw [if_neg (show ¬ n ≤ 1 by omega)]
  by_cases hm : m ≤ 1
  · rw [if_pos hm]; omega
  · rw [if_neg hm]; omega

set_option maxRecDepth 100000 in
set_option maxHeartbeats 2000000 in
theorem Number_any (base M B n0 : Nat) (z : Int) (cv vp vc : Value) (L : List Ent) (k0 : Nat) (w : World) (hW : WideAt base M w B vp vc L) (hc : RatioAt w cv (lowN M z) (lowD M z)) (hM : 0 < M) (hr : Rising (absL L)) (hlen : L.length ≤ 90000) (hn1 : 1 ≤ n0) (hn6 : n0 ≤ 1000000) (hb : ∀ x, (atL (absL L) x).natAbs + 20 * z.natAbs < 1000000 ^ k0) (hbM : M < 1000000 ^ k0) (hk0 : k0 ≤ 1000) :
    Calls Tryz.prog 19 #[.pointer (some ⟨B, 0, none⟩), .int .i64 n0, cv] w fun e w' => e = .returned (.tuple #[]) ∧ ∃ vp' vc' L' k, InNum base M B w w' z L n0 1 k vp' vc' L' := by
  obtain ⟨s, ad, l, cap, ad', l', cap', rfl⟩ := hc.parts
  have hb0 : Below w.heap.size w (w.alloc (.cells #[.bool s, .slice ad l cap, .slice ad' l' cap'] 54)) := new_below _ _
  have hnm := hW.not_mine (.cells #[.bool s, .slice ad l cap, .slice ad' l' cap'] 54)
  have hbz : z.natAbs < 1000000 ^ k0 := by have := hb 0; omega
  have hI0 : InNum base M B w (w.alloc (.cells #[.bool s, .slice ad l cap, .slice ad' l' cap'] 54)) z L n0 n0 0 vp vc L :=
    ⟨hW.later hb0, hr, fun x => rfl, by simp, Nat.le_refl _, IntsKept.of_below hb0, Moved.of_below hb0 hW.lt, hb0.mono (by have := hW.hB; have := hW.lt; omega)⟩
  have HC : Hid (∀ wr, Moved B (w.alloc (.cells #[.bool s, .slice ad l cap, .slice ad' l' cap'] 54)) wr → wr.cell? ⟨w.heap.size, 0, none⟩ = some (.bool s) ∧ wr.cell? ⟨w.heap.size, 1, none⟩ = some (.slice ad l cap) ∧ wr.cell? ⟨w.heap.size, 2, none⟩ = some (.slice ad' l' cap')) := fun wr hm => by
    refine ⟨?_, ?_, ?_⟩
    · rw [hm.cell (by simp) hnm]; simp
    · rw [hm.cell (by simp) hnm]; simp
    · rw [hm.cell (by simp) hnm]; simp
  have HRA : Hid (∀ wr, IntsKept w wr → RatioAt wr (.agg #[.bool s, .slice ad l cap, .slice ad' l' cap']) (lowN M z) (lowD M z)) := fun wr hk => hc.kept hk
  obtain ⟨W0, hW0⟩ : ∃ W0, W0 = w.alloc (.cells #[.bool s, .slice ad l cap, .slice ad' l' cap'] 54) := ⟨_, rfl⟩
  rw [← hW0] at hI0 HC
  have HW0 := Hid.mk' hW0
  have HM0 : Hid (Moved B W0 W0) := Moved.refl _ _
  have HI0 := Hid.mk' hI0
  have HB := Hid.mk' hb
  clear hW hc hr hb hb0 hnm hI0 hW0
  go_enter Tryz.func19, Tryz.ntmps19
  go_wp2_with fail
  rw [← HW0.out]
  go_loopw [1, 6] (fun t r wr => ∃ (n d k : Nat) (vp1 vc1 : Value) (L1 : List Ent), t = .int .i64 n ∧ r = .int .i64 d ∧ 1 ≤ n ∧ n ≤ 1000000 ∧ 2 ≤ d ∧ d ≤ 1000001 ∧ (n ≤ 1 ∨ d ≤ 1001) ∧ Hid (∀ e, 2 ≤ e → e < d → n % e ≠ 0) ∧ Hid (InNum base M B w wr z L n0 n k vp1 vc1 L1) ∧ Hid (Moved B W0 wr)) (fun t r _ => numMeas (intOf t).toNat (intOf r).toNat)
  case atStart => exact ⟨n0, 2, 0, vp, vc, L, rfl, rfl, hn1, hn6, by omega, by omega, by omega, fun e h1 h2 => by omega, HI0, HM0⟩
  case round =>
    clear HI0 HM0
    obtain ⟨n, d, k, vp1, vc1, L1, rfl, rfl, hn, hnm, hd2, hd3, hd4, HD, HI, HMV⟩ := hrel
    by_cases h1 : n ≤ 1
    · obtain rfl : n = 1 := by omega
      go_wp2_with fail
      go_end0
      exact ⟨rfl, _, _, _, _, HI.out⟩
    · have h1I : (1 : Int) < (n : Int) := by omega
      have hd5 : d ≤ 1001 := by omega
      by_cases hle : d * d ≤ n
      · have hq' : wrap64 ((d : Int) * (d : Int)) ≤ (n : Int) := by
          have h0 : (d : Int) * (d : Int) = ((d * d : Nat) : Int) := by simp
          rw [h0, w64 _ (by omega)]; omega
        have hd6 : d ≤ 1000 := by
          rcases Nat.lt_or_ge 1000 d with h | h
          · have := Nat.mul_le_mul h h; omega
          · exact h
        clear hle hd4
        go_wp2_with fail
        obtain ⟨wo, hwo⟩ : ∃ wo, wo = wr := ⟨_, rfl⟩
        rw [← hwo] at HI HMV ⊢
        clear hwo
        go_loopw [1] (fun t wr => ∃ (m k : Nat) (vp1 vc1 : Value) (L1 : List Ent), t = .int .i64 m ∧ 1 ≤ m ∧ m ≤ n ∧ Hid (∀ e, 2 ≤ e → e < d → m % e ≠ 0) ∧ Hid (InNum base M B w wr z L n0 m k vp1 vc1 L1) ∧ Hid (Moved B W0 wr)) (fun t _ => (intOf t).toNat)
        case atStart => exact ⟨n, k, vp1, vc1, L1, rfl, hn, Nat.le_refl _, HD, HI, HMV⟩
        case round =>
          clear HD HI HMV hq'
          obtain ⟨m, k, vp1, vc1, L1, rfl, hm, hmm, HD, HI, HMV⟩ := hrel
          by_cases hmod : m % d = 0
          · have hb1 : ((m : Int) % (d : Int) == 0) = true := by
              have : (m : Int) % (d : Int) = ((m % d : Nat) : Int) := by simp
              rw [this, hmod]; rfl
            have hpr : Pr d := pr_least hd2 hmod HD.out
            have hdm : d ≤ m := Nat.le_of_dvd hm (Nat.dvd_of_mod_eq_zero hmod)
            obtain ⟨c0, c1, c2⟩ := HC.out wr HMV.out
            have hk := HI.out.cnt_le hm hn6
            have hpri := Prime_any base M B d z _ vp1 vc1 L1 k0 wr HI.out.wide (HRA.out wr HI.out.kept) hM HI.out.rise (by have := HI.out.len; omega) hbz (HI.out.coef hm (by omega) hn1 hn6 HB.out) hbM hk0
            have HPUT := Hid.mk' (fun (w1 : World) (vp' vc' : Value) (L' : List Ent) => HI.out.put (w1 := w1) (vp' := vp') (vc' := vc') (L' := L') hm hpr hmod)
            have hdiv : m / d ≤ m / 2 := Nat.div_le_div_left hd2 (by omega)
            have hdiv1 : 1 ≤ m / d := Nat.div_pos hdm (by omega)
            have HQM := Hid.mk' (quo_any (a := m) (b := d) (by omega))
            have HDV := Hid.mk' (And.intro hdiv1 hdiv)
            have HMOD := Hid.mk' hmod
            clear hmod hpr hdiv hdiv1 HI
            go_wp2_with fail
            refine hpri.mono ?_
            clear hpri
            rintro e w1 ⟨rfl, vp2, vc2, L2, q1, q2, q3, q4, q5⟩
            have HI2 := Hid.mk' (HPUT.out w1 vp2 vc2 L2 q1 q2 q3 q4 q5)
            have HM2 := Hid.mk' (HMV.out.trans q4)
            clear q1 q2 q3 q4 q5 HPUT c0 c1 c2
            go_wp2_with fail
            exact ⟨⟨m / d, k + 1, _, _, _, by rw [HQM.out], HDV.out.1, by have := HDV.out.2; omega, left_no HMOD.out HD.out, HI2, HM2⟩, by rw [HQM.out]; show (((m / d : Nat) : Int)).toNat < ((m : Nat) : Int).toNat; rw [Int.toNat_natCast, Int.toNat_natCast]; have := HDV.out.2; omega⟩
          · have hb1 : ((m : Int) % (d : Int) == 0) = false := by
              have : (m : Int) % (d : Int) = ((m % d : Nat) : Int) := by simp
              rw [this, beq_eq_false_iff_ne]; omega
            have HD' : Hid (∀ e, 2 ≤ e → e < d + 1 → m % e ≠ 0) := fun e h1 h2 => by
              rcases Nat.lt_or_ge e d with h | h
              · exact HD.out e h1 h
              · obtain rfl : e = d := by omega
                exact hmod
            clear hmod
            go_wp2_with fail
            exact ⟨⟨m, d + 1, k, _, _, _, rfl, by go_num, hm, by omega, by omega, by omega, by omega, HD', HI, HMV⟩, by simp [intOf]; exact numMeas_lt (by omega) (by omega) (by omega)⟩
      · have hq' : (n : Int) < wrap64 ((d : Int) * (d : Int)) := by
          have h0 : (d : Int) * (d : Int) = ((d * d : Nat) : Int) := by simp
          have h1 := Nat.mul_le_mul hd5 hd5
          rw [h0, w64 _ (by omega)]; omega
        have HPR : Hid (Pr n) := Pr_of_end (by omega) HD.out (by omega)
        clear hle hd4
        go_wp2_with fail
        obtain ⟨wo, hwo⟩ : ∃ wo, wo = wr := ⟨_, rfl⟩
        rw [← hwo] at HI HMV ⊢
        clear hwo
        go_loopw [1] (fun t wr => ∃ (m k : Nat) (vp1 vc1 : Value) (L1 : List Ent), t = .int .i64 m ∧ (m = n ∨ m = 1) ∧ Hid (InNum base M B w wr z L n0 m k vp1 vc1 L1) ∧ Hid (Moved B W0 wr)) (fun t _ => (intOf t).toNat)
        case atStart => exact ⟨n, k, vp1, vc1, L1, rfl, Or.inl rfl, HI, HMV⟩
        case round =>
          clear HD HI HMV hq'
          obtain ⟨m, k, vp1, vc1, L1, rfl, hmm, HI, HMV⟩ := hrel
          rcases hmm with rfl | rfl
          · have hb1 : ((m : Int) % (m : Int) == 0) = true := by
              have : (m : Int) % (m : Int) = ((m % m : Nat) : Int) := by simp
              rw [this, Nat.mod_self]; rfl
            obtain ⟨c0, c1, c2⟩ := HC.out wr HMV.out
            have hk := HI.out.cnt_le hn hn6
            have hpri := Prime_any base M B m z _ vp1 vc1 L1 k0 wr HI.out.wide (HRA.out wr HI.out.kept) hM HI.out.rise (by have := HI.out.len; omega) hbz (HI.out.coef hn (by omega) hn1 hn6 HB.out) hbM hk0
            have HPUT := Hid.mk' (fun (w1 : World) (vp' vc' : Value) (L' : List Ent) => HI.out.put (w1 := w1) (vp' := vp') (vc' := vc') (L' := L') hn HPR.out (Nat.mod_self m))
            have HQM := Hid.mk' (quo_any (a := m) (b := m) (by omega))
            clear HI
            go_wp2_with fail
            refine hpri.mono ?_
            clear hpri
            rintro e w1 ⟨rfl, vp2, vc2, L2, q1, q2, q3, q4, q5⟩
            have hi2 := HPUT.out w1 vp2 vc2 L2 q1 q2 q3 q4 q5
            rw [Nat.div_self (by omega)] at hi2
            have HI2 := Hid.mk' hi2
            have HM2 := Hid.mk' (HMV.out.trans q4)
            clear q1 q2 q3 q4 q5 HPUT c0 c1 c2 hi2
            go_wp2_with fail
            exact ⟨⟨1, k + 1, _, _, _, by rw [HQM.out, Nat.div_self (by omega)], Or.inr rfl, HI2, HM2⟩, by rw [HQM.out, Nat.div_self (by omega)]; simp [intOf]; omega⟩
          · have hb1 : ((1 : Int) % (n : Int) == 0) = false := by
              have : (1 : Int) % (n : Int) = ((1 % n : Nat) : Int) := by simp
              rw [this, beq_eq_false_iff_ne, Nat.mod_eq_of_lt (by omega)]; decide
            go_wp2_with fail
            exact ⟨⟨1, n + 1, k, _, _, _, rfl, by go_num, by omega, by omega, by omega, by omega, Or.inl (by omega), (fun e h1 h2 => by rw [Nat.mod_eq_of_lt (by omega)]; omega), HI, HMV⟩, by simp [intOf]; exact numMeas_lt (by omega) (by omega) (by omega)⟩
end Go.Proofs.YtphecjjblnnjdaaGreatDoor

/- (*Wide).Log: a logarithm, so often. -/
namespace Go.Proofs.YtphecjjblnnjdaaGreatDoor
open Go.RowKit

/-- The coefficients of a number among the first k terms. -/
def sumAt (p c : Nat → Int) (x : Int) : Nat → Int
  | 0 => 0
  | k + 1 => sumAt p c x k + if x = p k then c k else 0
theorem LogAt.kept {w w' : World} {sv : Value} {n : Nat} {p c : Nat → Int} (h : LogAt w sv n p c) (hk : IntsKept w w') : LogAt w' sv n p c := by
  rcases h with h | ⟨b, o, cap, h1, h2, h3⟩
  · exact Or.inl h
  · exact Or.inr ⟨b, o, cap, h1, h2, fun k hk' => ⟨hk _ _ (h3 k hk').1, hk _ _ (h3 k hk').2⟩⟩
theorem LogAt.cellsOf {w : World} {ad : Option Addr} {n cap : Nat} {p c : Nat → Int} (h : LogAt w (.slice ad n cap) n p c) {k : Nat} (hk : k < n) : ∃ b o, ad = some ⟨b, o, none⟩ ∧ w.cell? ⟨b, o + k * 2, none⟩ = some (.int .i64 (p k)) ∧ w.cell? ⟨b, o + k * 2 + 1, none⟩ = some (.int .i64 (c k)) := by
  rcases h with ⟨_, _, _, rfl⟩ | ⟨b, o, _, h1, _, h3⟩
  · omega
  · simp only [Value.slice.injEq] at h1
    exact ⟨b, o, h1.1, h3 k hk⟩
theorem WideAt.not_mine' {base M : Nat} {w W : World} {B : Nat} {vp vc : Value} {L : List Ent} (h : WideAt base M w B vp vc L) (hb : Below w.heap.size w W) {k : Nat} (hk : w.heap.size ≤ k) : ¬ Mine B W k := by
  have hB := h.lt
  rintro (h1 | ⟨n, cap, h1⟩)
  · omega
  · rw [(h.later hb).cc] at h1
    have hv := Option.some.inj h1
    subst hv
    rcases h.C.2 with ⟨h2, _⟩ | ⟨g, c, cur, h2, _, h3, _⟩
    · cases h2
    · have h4 : k = g := by injection h2 with h2; injection h2 with h2; injection h2
      have h5 := h.C.lt g (by rw [h2]; rfl)
      omega
/-- A coefficient of a logarithm times a fraction, over M. -/
theorem coef_low {M d xd m : Nat} {xn c : Int} (hM : M = d * xd * m) (hM0 : 0 < M) : (xn * c.tdiv ((Nat.gcd c.natAbs d : Nat) : Int)).tdiv ((Nat.gcd (xn * c.tdiv ((Nat.gcd c.natAbs d : Nat) : Int)).natAbs (xd * (d / Nat.gcd c.natAbs d)) : Nat) : Int) = lowN M (xn * m * c) ∧ xd * (d / Nat.gcd c.natAbs d) / Nat.gcd (xn * c.tdiv ((Nat.gcd c.natAbs d : Nat) : Int)).natAbs (xd * (d / Nat.gcd c.natAbs d)) = lowD M (xn * m * c) := by
  have hd : 0 < d := Nat.pos_of_ne_zero fun h => by rw [h, Nat.zero_mul, Nat.zero_mul] at hM; omega
  have hx : 0 < xd := Nat.pos_of_ne_zero fun h => by rw [h, Nat.mul_zero, Nat.zero_mul] at hM; omega
  obtain ⟨g1, g2, g3, _, _, g6⟩ := low_parts (n := c) hd
  refine low_same hM0 (Nat.mul_pos hx g6) ?_
  have h3 : (d : Int) = ((Nat.gcd c.natAbs d : Nat) : Int) * ((d / Nat.gcd c.natAbs d : Nat) : Int) := by rw [← Int.natCast_mul, ← g3]
  rw [hM, Int.natCast_mul, Int.natCast_mul, Int.natCast_mul]
  generalize Nat.gcd c.natAbs d = g at *
  generalize ((d / g : Nat) : Int) = e at *
  generalize c.tdiv (g : Int) = f at *
  rw [h3]
  conv => rhs; rw [g2]
  grind

/-- What Log keeps: k terms are put. -/
structure InLog (base M B : Nat) (W0 wr : World) (F : Int) (p c : Nat → Int) (L0 : List Ent) (k : Nat) (vp vc : Value) (L : List Ent) : Prop where
  wide : WideAt base M wr B vp vc L
  rise : Rising (absL L)
  val : ∀ x, atL (absL L) x = atL (absL L0) x + F * sumAt p c x k
  len : L.length ≤ L0.length + k
  kept : IntsKept W0 wr
  moved : Moved B W0 wr
  below : Below base W0 wr
theorem InLog.put {base M B : Nat} {W0 wr w1 : World} {F : Int} {p c : Nat → Int} {L0 : List Ent} {k q : Nat} {vp vc vp' vc' : Value} {L L' : List Ent} (h : InLog base M B W0 wr F p c L0 k vp vc L) (hq : p k = (q : Int))
    (hw : WideAt base M w1 B vp' vc' L') (hp : Put (absL L) (absL L') q (F * c k)) (hk : IntsKept wr w1) (hmv : Moved B wr w1) (hb : Below base wr w1) : InLog base M B W0 w1 F p c L0 (k + 1) vp' vc' L' := by
  refine ⟨hw, hp.rise, fun x => ?_, ?_, h.kept.trans hk, h.moved.trans hmv, h.below.trans hb⟩
  · rw [hp.val x, h.val x]
    show _ = _ + F * (sumAt p c x k + if x = p k then c k else 0)
    rw [Int.mul_add, hq]
    by_cases hx : x = (q : Int)
    · rw [if_pos hx, if_pos hx]; omega
    · rw [if_neg hx, if_neg hx, Int.mul_zero]; omega
  · have h1 := hp.len
    have h2 := h.len
    rw [absL_length, absL_length] at h1
    omega
theorem InLog.coef {base M B : Nat} {W0 wr : World} {F : Int} {p c : Nat → Int} {L0 : List Ent} {k E : Nat} {vp vc : Value} {L : List Ent} (h : InLog base M B W0 wr F p c L0 k vp vc L) (hb : ∀ x, (atL (absL L0) x + F * sumAt p c x k).natAbs < E) : ∀ e ∈ L, e.z.natAbs < E := fun e he => by
  have h0 := atL_mem h.rise (absL_mem he)
  simp only at h0
  rw [← h0, h.val]
  exact hb _

set_option maxRecDepth 100000 in
set_option maxHeartbeats 4000000 in
theorem WLog_any (base M B d xd m : Nat) (xn : Int) (cv vp vc : Value) (ad1 : Option Addr) (n cap1 : Nat) (p c : Nat → Int) (L : List Ent) (k0 : Nat) (w : World) (hW : WideAt base M w B vp vc L) (hl : LogAt w (.slice ad1 n cap1) n p c) (hc : RatioAt w cv xn xd) (hM : M = d * xd * m) (hM0 : 0 < M) (hr : Rising (absL L)) (hlen : L.length + n ≤ 1000)
    (hpc : ∀ i, i < n → 0 ≤ p i ∧ -1099511627776 ≤ c i ∧ c i ≤ 1099511627776) (hd : d ≤ 1000000) (hxn : xn.natAbs < 1000000 ^ k0) (hF : ∀ i, i < n → (xn * m * c i).natAbs < 1000000 ^ k0) (hb : ∀ x k, k ≤ n → (atL (absL L) x + xn * m * sumAt p c x k).natAbs < 1000000 ^ k0) (hbM : M < 1000000 ^ k0) (hk3 : 3 ≤ k0) (hk0 : k0 ≤ 1000) :
    Calls Tryz.prog 108 #[.pointer (some ⟨B, 0, none⟩), .agg #[.int .i64 d, .slice ad1 n cap1], cv] w fun e w' => e = .returned (.tuple #[]) ∧ ∃ vp' vc' L', InLog base M B w w' (xn * m) p c L n vp' vc' L' := by
  obtain ⟨s, ad, l, cap, ad', l', cap', rfl⟩ := hc.parts
  have hb0 : Below w.heap.size w ((w.alloc (.cells #[.int .i64 d, .slice ad1 n cap1] 30)).alloc (.cells #[.bool s, .slice ad l cap, .slice ad' l' cap'] 54)) := ((Below.refl _ _).alloc (Nat.le_refl _) _).alloc (by simp) _
  have hnm0 := hW.not_mine' hb0 (Nat.le_refl _)
  have hnm1 := hW.not_mine' hb0 (Nat.le_succ _)
  have hI0 : InLog base M B w ((w.alloc (.cells #[.int .i64 d, .slice ad1 n cap1] 30)).alloc (.cells #[.bool s, .slice ad l cap, .slice ad' l' cap'] 54)) (xn * m) p c L 0 vp vc L :=
    ⟨hW.later hb0, hr, fun x => by simp [sumAt], Nat.le_refl _, IntsKept.of_below hb0, Moved.of_below hb0 hW.lt, hb0.mono (by have := hW.hB; have := hW.lt; omega)⟩
  have HC : Hid (∀ wr, Moved B ((w.alloc (.cells #[.int .i64 d, .slice ad1 n cap1] 30)).alloc (.cells #[.bool s, .slice ad l cap, .slice ad' l' cap'] 54)) wr → (wr.cell? ⟨w.heap.size, 0, none⟩ = some (.int .i64 d) ∧ wr.cell? ⟨w.heap.size, 1, none⟩ = some (.slice ad1 n cap1)) ∧ wr.cell? ⟨w.heap.size + 1, 0, none⟩ = some (.bool s) ∧ wr.cell? ⟨w.heap.size + 1, 1, none⟩ = some (.slice ad l cap) ∧ wr.cell? ⟨w.heap.size + 1, 2, none⟩ = some (.slice ad' l' cap')) := fun wr hm => by
    refine ⟨⟨?_, ?_⟩, ?_, ?_, ?_⟩
    · rw [hm.cell (by simp; omega) hnm0]; simp
    · rw [hm.cell (by simp; omega) hnm0]; simp
    · rw [hm.cell (by simp) hnm1]; simp
    · rw [hm.cell (by simp) hnm1]; simp
    · rw [hm.cell (by simp) hnm1]; simp
  obtain ⟨W0, hW0⟩ : ∃ W0, W0 = (w.alloc (.cells #[.int .i64 d, .slice ad1 n cap1] 30)).alloc (.cells #[.bool s, .slice ad l cap, .slice ad' l' cap'] 54) := ⟨_, rfl⟩
  rw [← hW0] at hI0 HC
  have HL := Hid.mk' hl
  have HRA := Hid.mk' hc
  have HW0 := Hid.mk' hW0
  have HM0 : Hid (Moved B W0 W0) := Moved.refl _ _
  have HI0 := Hid.mk' hI0
  have HPC := Hid.mk' hpc
  have HF := Hid.mk' hF
  have HB := Hid.mk' hb
  have HMM := Hid.mk' hM
  have hd0 : 0 < d := Nat.pos_of_ne_zero fun h => by rw [h, Nat.zero_mul, Nat.zero_mul] at hM; omega
  have hx0 : 0 < xd := Nat.pos_of_ne_zero fun h => by rw [h, Nat.mul_zero, Nat.zero_mul] at hM; omega
  have hm0 : 0 < m := Nat.pos_of_ne_zero fun h => by rw [h, Nat.mul_zero] at hM; omega
  have hxd : xd < 1000000 ^ k0 := Nat.lt_of_le_of_lt (by rw [hM, Nat.mul_comm d xd, Nat.mul_assoc]; exact Nat.le_mul_of_pos_right _ (Nat.mul_pos hd0 hm0)) hbM
  have hp3 : 1000000000000000000 ≤ 1000000 ^ k0 := by
    have h1 : (1000000 : Nat) ^ 3 ≤ 1000000 ^ k0 := Nat.pow_le_pow_right (by decide) hk3
    omega
  have HXD := Hid.mk' (And.intro hxd hp3)
  clear hW hc hr hb hb0 hnm0 hnm1 hI0 hW0 hl hpc hF hM hxd hp3
  go_enter Tryz.func108, Tryz.ntmps108
  go_wp2_with fail
  rw [← HW0.out]
  go_loopw [6] (fun t wr => ∃ (k : Nat) (vp1 vc1 : Value) (L1 : List Ent), k ≤ n ∧ t = .int .i64 k ∧ Hid (InLog base M B w wr (xn * m) p c L k vp1 vc1 L1) ∧ Hid (Moved B W0 wr)) (fun t _ => n - (intOf t).toNat)
  case atStart => exact ⟨0, vp, vc, L, by omega, rfl, HI0, HM0⟩
  case round =>
    clear HI0 HM0
    obtain ⟨k, vp1, vc1, L1, hk, rfl, HI, HMV⟩ := hrel
    obtain ⟨⟨a0, a1⟩, b0, b1, b2⟩ := HC.out wr HMV.out
    have hkI0 : (0 : Int) ≤ (k : Int) := by omega
    by_cases hlt : k < n
    · have hkI : (k : Int) < (n : Int) := by omega
      obtain ⟨b, o, rfl, e0, e1⟩ := LogAt.cellsOf (HL.out.kept HI.out.kept) hlt
      obtain ⟨hp0, hc1, hc2⟩ := HPC.out k hlt
      obtain ⟨q, hq⟩ := Int.eq_ofNat_of_zero_le hp0
      rw [hq] at e0
      have HQ := Hid.mk' hq
      have hBw := HI.out.wide.lt
      have HKM : Hid (∀ W, IntsKept wr W → Moved B wr W → (W.cell? ⟨w.heap.size, 0, none⟩ = some (.int .i64 d) ∧ W.cell? ⟨w.heap.size, 1, none⟩ = some (.slice (some ⟨b, o, none⟩) n cap1)) ∧ (W.cell? ⟨w.heap.size + 1, 0, none⟩ = some (.bool s) ∧ W.cell? ⟨w.heap.size + 1, 1, none⟩ = some (.slice ad l cap) ∧ W.cell? ⟨w.heap.size + 1, 2, none⟩ = some (.slice ad' l' cap')) ∧ W.cell? ⟨b, o + k * 2, none⟩ = some (.int .i64 (q : Int)) ∧ W.cell? ⟨b, o + k * 2 + 1, none⟩ = some (.int .i64 (c k))) := fun W hk' hm' => by
        obtain ⟨x1, x2⟩ := HC.out W (HMV.out.trans hm')
        exact ⟨x1, x2, hk' _ _ e0, hk' _ _ e1⟩
      have HKS := Hid.mk' (fun (W : World) (hb : Below wr.heap.size wr W) => HKM.out W (IntsKept.of_below hb) (Moved.of_below hb hBw))
      have hlow := coef_low (xn := xn) (c := c k) HMM.out hM0
      have hcg : ((c k).tdiv ((Nat.gcd (c k).natAbs d : Nat) : Int)).natAbs ≤ (c k).natAbs := by rw [Int.natAbs_tdiv]; exact Nat.div_le_self _ _
      have hdg : 0 < d / Nat.gcd (c k).natAbs d := (low_parts (n := c k) hd0).2.2.2.2.2
      have hdl : d / Nat.gcd (c k).natAbs d ≤ d := Nat.div_le_self _ _
      have HTI : Hid (∀ (W : World) (r : Value), IntsKept w W → RatioAt W r ((c k).tdiv ((Nat.gcd (c k).natAbs d : Nat) : Int)) (d / Nat.gcd (c k).natAbs d) → Calls Tryz.prog 56 #[.agg #[.bool s, .slice ad l cap, .slice ad' l' cap'], r] W fun e w' => ∃ r', e = .returned r' ∧ RatioAt w' r' (lowN M (xn * m * c k)) (lowD M (xn * m * c k)) ∧ Below W.heap.size W w') := fun W r hk' hr' => by
        have h4 := Times_ratio _ _ _ _ _ _ k0 W (HRA.out.kept hk') hr' hx0 hdg hxn (by have := HXD.out.2; omega) HXD.out.1 (by have := HXD.out.2; omega) (by omega)
        rw [hlow.1, hlow.2] at h4
        exact h4
      have HPR : Hid (∀ (W : World) (r : Value), Below wr.heap.size wr W → RatioAt W r (lowN M (xn * m * c k)) (lowD M (xn * m * c k)) → Calls Tryz.prog 52 #[.pointer (some ⟨B, 0, none⟩), .int .i64 q, r] W fun e w' => e = .returned (.tuple #[]) ∧ (∃ vp' vc' L', InLog base M B w w' (xn * m) p c L (k + 1) vp' vc' L') ∧ IntsKept wr w' ∧ Moved B wr w') := fun W r hb' hr' => by
        refine (Prime_any base M B q (xn * m * c k) r vp1 vc1 L1 k0 W (HI.out.wide.later hb') hr' hM0 HI.out.rise (by have := HI.out.len; omega) (HF.out k hlt) (HI.out.coef (fun x => HB.out x k (by omega))) hbM hk0).mono ?_
        rintro e w' ⟨rfl, vp', vc', L', q1, q2, q3, q4, q5⟩
        have k1 := (IntsKept.of_below hb').trans q3
        have k2 := (Moved.of_below hb' hBw).trans q4
        exact ⟨rfl, ⟨vp', vc', L', HI.out.put HQ.out q1 q2 k1 k2 ((hb'.mono (by have := HI.out.wide.hB; omega)).trans q5)⟩, k1, k2⟩
      have hcur : Below wr.heap.size wr wr.drew := (Below.refl _ _).drew
      have hcur0 : Below wr.heap.size wr wr := Below.refl _ _
      have HKW := Hid.mk' HI.out.kept
      clear hq hp0 hlow hcg hdg hdl HI HF HB
      go_wp2_with fail
      clear a0 a1 b0 b1 b2 e0 e1
      go_region_held3 (fun W => (W.cell? ⟨w.heap.size, 0, none⟩ = some (.int .i64 d) ∧ W.cell? ⟨w.heap.size, 1, none⟩ = some (.slice (some ⟨b, o, none⟩) n cap1)) ∧ (W.cell? ⟨w.heap.size + 1, 0, none⟩ = some (.bool s) ∧ W.cell? ⟨w.heap.size + 1, 1, none⟩ = some (.slice ad l cap) ∧ W.cell? ⟨w.heap.size + 1, 2, none⟩ = some (.slice ad' l' cap')) ∧ W.cell? ⟨b, o + k * 2, none⟩ = some (.int .i64 (q : Int)) ∧ W.cell? ⟨b, o + k * 2 + 1, none⟩ = some (.int .i64 (c k)))
        (first | exact HKS.out _ hcur0 | exact HKS.out _ hcur | exact HKS.out _ hbw1 | exact HKS.out _ hbw2 | exact HKM.out _ k3 m3)
        (first
          | (go_at_call 52; refine (HPR.out _ _ hbw2 HR2.out).mono ?_; rintro e w3 ⟨rfl, h3, k3, m3⟩; have H3 := Hid.mk' h3; clear h3)
          | (go_at_call 56; refine (HTI.out _ _ (HKW.out.trans (IntsKept.of_below hbw1)) HR1.out).mono ?_; rintro e w2 ⟨r2, rfl, hr2, hb2⟩; have hbw2 := below_chain hbw1 hb2; have HR2 := Hid.mk' hr2; clear hr2 hb2)
          | (go_at_call 20; refine (RatioOf_any (c k) d _ (by omega) (by omega) hd0 (by omega)).mono ?_; rintro e w1 ⟨r1, rfl, hr1, hb1⟩; have hbw1 := below_chain hcur hb1; have HR1 := Hid.mk' hr1; clear hr1 hb1))
      obtain ⟨vp3, vc3, L3, h3⟩ := H3.out
      have HI3 := Hid.mk' h3
      have HM3 := Hid.mk' (HMV.out.trans m3)
      clear h3 k3 m3 H3
      go_wp2_with fail
      exact ⟨⟨k + 1, _, _, _, by omega, by go_num, HI3, HM3⟩, by simp [intOf]; omega⟩
    · obtain rfl : k = n := by omega
      go_wp2_with fail
      go_end0
      exact ⟨rfl, _, _, _, HI.out⟩
end Go.Proofs.YtphecjjblnnjdaaGreatDoor

/- The common denominator of fractions, and what is told over it. -/
namespace Go.Proofs.YtphecjjblnnjdaaGreatDoor

theorem lcm_quot {M G H : Nat} (hM : 0 < M) (hG : G ∣ M) (hH : H ∣ M) : (M / G) * ((M / H) / Nat.gcd (M / G) (M / H)) = M / Nat.gcd G H := by
  obtain ⟨a, ha⟩ := hG
  obtain ⟨b, hb⟩ := hH
  have hG0 : 0 < G := Nat.pos_of_ne_zero fun h => by rw [h, Nat.zero_mul] at ha; omega
  have hH0 : 0 < H := Nat.pos_of_ne_zero fun h => by rw [h, Nat.zero_mul] at hb; omega
  have ha0 : 0 < a := Nat.pos_of_ne_zero fun h => by rw [h, Nat.mul_zero] at ha; omega
  have e1 : M / G = a := by rw [ha]; exact Nat.mul_div_cancel_left _ hG0
  have e2 : M / H = b := by rw [hb]; exact Nat.mul_div_cancel_left _ hH0
  rw [e1, e2]
  have hk : 0 < Nat.gcd G H := Nat.gcd_pos_of_pos_left _ hG0
  have hc := Nat.coprime_div_gcd_div_gcd hk
  have eG : G = Nat.gcd G H * (G / Nat.gcd G H) := (Nat.mul_div_cancel' (Nat.gcd_dvd_left _ _)).symm
  have eH : H = Nat.gcd G H * (H / Nat.gcd G H) := (Nat.mul_div_cancel' (Nat.gcd_dvd_right _ _)).symm
  generalize Nat.gcd G H = k at *
  generalize G / k = g at *
  generalize H / k = h at *
  have h1 : g * a = h * b := by
    have : k * (g * a) = k * (h * b) := by rw [← Nat.mul_assoc, ← Nat.mul_assoc, ← eG, ← eH, ← ha, ← hb]
    exact Nat.eq_of_mul_eq_mul_left hk this
  obtain ⟨c, rfl⟩ : g ∣ b := hc.dvd_of_dvd_mul_left ⟨a, h1.symm⟩
  have hg0 : 0 < g := Nat.pos_of_ne_zero fun e => by rw [e, Nat.mul_zero] at eG; omega
  have h2 : a = h * c := by
    have : g * a = g * (h * c) := by rw [h1]; grind
    exact Nat.eq_of_mul_eq_mul_left hg0 this
  subst h2
  have hc0 : 0 < c := Nat.pos_of_ne_zero fun e => by rw [e, Nat.mul_zero] at ha0; omega
  have h3 : Nat.gcd (h * c) (g * c) = c := by rw [Nat.gcd_mul_right, hc.symm, Nat.one_mul]
  rw [h3, Nat.mul_div_cancel _ hc0, ha, eG]
  rw [show k * g * (h * c) = k * (h * c * g) by grind, Nat.mul_div_cancel_left _ hk]

theorem den_step {M G : Nat} {z : Int} (hM : 0 < M) (hG : G ∣ M) : (M / G) * (lowD M z / Nat.gcd (M / G) (lowD M z)) = M / Nat.gcd G z.natAbs := by
  unfold lowD
  rw [lcm_quot hM hG (show lowG M z ∣ M from Nat.gcd_dvd_right _ _)]
  congr 1
  unfold lowG
  refine Nat.dvd_antisymm ?_ ?_
  · exact Nat.dvd_gcd (Nat.gcd_dvd_left _ _) (Nat.dvd_trans (Nat.gcd_dvd_right _ _) (Nat.gcd_dvd_left _ _))
  · exact Nat.dvd_gcd (Nat.gcd_dvd_left _ _) (Nat.dvd_gcd (Nat.gcd_dvd_right _ _) (Nat.dvd_trans (Nat.gcd_dvd_left _ _) hG))

/-- A coefficient times the common denominator is whole. -/
theorem coef_whole {M G : Nat} {z : Int} (hM : 0 < M) (hG : G ∣ M) (hz : G ∣ z.natAbs) : (lowN M z * ((M / G : Nat) : Int)).tdiv ((Nat.gcd (lowN M z * ((M / G : Nat) : Int)).natAbs (lowD M z * 1) : Nat) : Int) = z.tdiv (G : Int) ∧ lowD M z * 1 / Nat.gcd (lowN M z * ((M / G : Nat) : Int)).natAbs (lowD M z * 1) = 1 := by
  have hG0 : 0 < G := Nat.pos_of_dvd_of_pos hG hM
  have h1 := low_cross hM z
  have h2 : z = (G : Int) * z.tdiv (G : Int) := (Int.mul_tdiv_cancel' (Int.ofNat_dvd_left.2 hz)).symm
  have h3 : (M : Int) = (G : Int) * ((M / G : Nat) : Int) := by rw [← Int.natCast_mul, Nat.mul_div_cancel' hG]
  have h4 : lowN M z * ((M / G : Nat) : Int) * ((1 : Nat) : Int) = z.tdiv (G : Int) * ((lowD M z * 1 : Nat) : Int) := by
    rw [Nat.mul_one]
    generalize lowN M z = a at *
    generalize (lowD M z : Int) = d at *
    generalize ((M / G : Nat) : Int) = m at *
    have h5 : (G : Int) * (a * m * ((1 : Nat) : Int)) = (G : Int) * (z.tdiv (G : Int) * d) := by
      rw [h3] at h1
      generalize z.tdiv (G : Int) = q at *
      rw [h2] at h1
      have : a * ((G : Int) * m) = (G : Int) * q * d := h1
      grind
    exact Int.eq_of_mul_eq_mul_left (by omega) h5
  have h6 := low_same (M := 1) (z := z.tdiv (G : Int)) (by decide) (Nat.mul_pos (lowD_pos hM z) (by decide)) h4
  rw [(low_one _).1, (low_one _).2] at h6
  exact h6
theorem gList_dvd_base (L : List Int) (g : Nat) : gList g L ∣ g := (gList_dvd L g).1
end Go.Proofs.YtphecjjblnnjdaaGreatDoor

/- (*Wide).Told: a sum in form, or the bound's number. -/
namespace Go.Proofs.YtphecjjblnnjdaaGreatDoor
open Go.RowKit

theorem InOut.later {w1 wr wn : World} {d : Int} {sv : Value} {n : Nat} {xs : List Value} (h : InOut w1 wr d sv n xs) (hb : Below wr.heap.size wr wn) : InOut w1 wn d sv n xs :=
  ⟨below_chain h.keep hb, (cell_past h.o0 hb).2, (cell_past h.o1 hb).2, (frozen_past h.o1 h.fz hb).2, ownsRow_past h.row hb⟩

theorem InOut.grows {w1 wr w3 : World} {d : Int} {sv : Value} {n : Nat} {xs : List Value} {X : Obj} (h : InOut w1 wr d sv n xs) (hg : (wr.alloc X).grownBy w3 sv.ownBlock) : Below (w1.heap.size + 1) wr w3 := by
  have hB := cell_lt h.o0
  simp only at hB
  exact ((Below.refl _ _).alloc (by omega) _).grown hg (by simp; omega) (fun k e => (h.row.lt k e).1)
/-- A fraction's box, ahead of its store. -/
structure NewBox3 (W0 W : World) (B : Nat) : Prop where
  c0 : W.cell? ⟨B, 0, none⟩ = some (.bool false)
  c1 : W.cell? ⟨B, 1, none⟩ = some (.slice none 0 0)
  c2 : W.cell? ⟨B, 2, none⟩ = some (.slice none 0 0)
  f0 : W.frozen? ⟨B, 0, none⟩ = false
  f1 : W.frozen? ⟨B, 1, none⟩ = false
  f2 : W.frozen? ⟨B, 2, none⟩ = false
  no : NoInts W B
  hB : W0.heap.size ≤ B
theorem NewBox3.later {W0 W W' : World} {B : Nat} (h : NewBox3 W0 W B) (hb : Below W.heap.size W W') : NewBox3 W0 W' B :=
  ⟨(cell_past h.c0 hb).2, (cell_past h.c1 hb).2, (cell_past h.c2 hb).2, (frozen_past h.c0 h.f0 hb).2, (frozen_past h.c1 h.f1 hb).2, (frozen_past h.c2 h.f2 hb).2, h.no.later (cell_lt h.c0) hb, h.hB⟩
theorem newBox3_new {W0 W : World} (h : Below W0.heap.size W0 W) : NewBox3 W0 (W.alloc (.cells #[.bool false, .slice none 0 0, .slice none 0 0] 54)) W.heap.size :=
  ⟨by simp, by simp, by simp, by simp, by simp, by simp, noInts_new3 W false none 0 0 none 0 0 _, h.size⟩
theorem newBox3_of {W0 W W' : World} (h : Below W0.heap.size W0 W) (hb : Below (W.alloc (.cells #[.bool false, .slice none 0 0, .slice none 0 0] 54)).heap.size (W.alloc (.cells #[.bool false, .slice none 0 0, .slice none 0 0] 54)) W') : NewBox3 W0 W' W.heap.size :=
  (newBox3_new h).later hb
/-- A fraction's box: its sign and size. -/
structure RatBox (W0 W : World) (B : Nat) (z : Int) : Prop where
  below : Below W0.heap.size W0 W
  box : ∃ u, W.cell? ⟨B, 0, none⟩ = some (.bool (decide (z < 0))) ∧ W.cell? ⟨B, 1, none⟩ = some u ∧ BigAt W u z.natAbs
theorem ratBox_late {W0 W : World} {z : Int} {ad : Option Addr} {l cap : Nat} {v : Value} (h : Below W0.heap.size W0 W) (hu : BigAt W (.slice ad l cap) z.natAbs) : RatBox W0 (W.alloc (.cells #[.bool (decide (z < 0)), .slice ad l cap, v] 54)) W.heap.size z :=
  ⟨more_below h _, ⟨.slice ad l cap, by rw [World.cell?_alloc_at _ _ _ _ rfl]; rfl, by rw [World.cell?_alloc_at _ _ _ _ rfl]; rfl, hu.later (new_below _ _)⟩⟩
theorem ratBox_soon {W0 W : World} {B : Nat} {z : Int} {ad ad' : Option Addr} {l cap l' cap' : Nat} (h : Below W0.heap.size W0 W) (hu : BigAt W (.slice ad l cap) z.natAbs) (hn : NewBox3 W0 W B) : RatBox W0 (((W.setCell ⟨B, 0, none⟩ (.bool (decide (z < 0)))).setCell ⟨B, 1, none⟩ (.slice ad l cap)).setCell ⟨B, 2, none⟩ (.slice ad' l' cap')) B z :=
  ⟨below_set3 h hn.hB _ _ _, ⟨.slice ad l cap, by rw [World.cell?_setCell_other _ _ _ _ (by simp), World.cell?_setCell_other _ _ _ _ (by simp)]; exact World.cell?_setCell_same _ _ _ hn.c0, by rw [World.cell?_setCell_other _ _ _ _ (by simp)]; exact World.cell?_setCell_same _ _ _ (by rw [World.cell?_setCell_other _ _ _ _ (by simp)]; exact hn.c1), hu.set3 hn.no hn.c0 hn.c1⟩⟩

def zsOf (L : List Ent) : List Int := L.map Ent.z
def gT (M : Nat) (L : List Ent) (k : Nat) : Nat := gList M ((zsOf L).take k)
theorem zsOf_length (L : List Ent) : (zsOf L).length = L.length := by unfold zsOf; simp
theorem gT_succ (M : Nat) {L : List Ent} {k : Nat} {f : Ent} (hf : L[k]? = some f) : gT M L (k + 1) = Nat.gcd (gT M L k) f.z.natAbs := by
  have hk : k < L.length := (List.getElem?_eq_some_iff.1 hf).1
  have hz : (zsOf L)[k]? = some f.z := by unfold zsOf; rw [List.getElem?_map, hf]; rfl
  have h1 : (zsOf L).take (k + 1) = (zsOf L).take k ++ [f.z] := by
    rw [List.take_succ_eq_append_getElem (by rw [zsOf_length]; exact hk)]
    rw [List.getElem?_eq_getElem (by rw [zsOf_length]; exact hk)] at hz
    rw [Option.some.inj hz]
  unfold gT
  rw [h1, gList_append]
theorem gT_dvd (M : Nat) (L : List Ent) (k : Nat) : gT M L k ∣ M := gList_dvd_base _ _
theorem gT_all (M : Nat) (L : List Ent) : gT M L L.length = gList M (zsOf L) := by unfold gT; rw [← zsOf_length, List.take_length]
theorem den_lt {M E : Nat} (h : M < E) (L : List Ent) (k : Nat) : M / gT M L k < E := Nat.lt_of_le_of_lt (Nat.div_le_self _ _) h
theorem den_pos {M : Nat} (h : 0 < M) (L : List Ent) (k : Nat) : 0 < M / gT M L k := Nat.div_pos (Nat.le_of_dvd h (gT_dvd M L k)) (Nat.pos_of_dvd_of_pos (gT_dvd M L k) h)
theorem den_next {M : Nat} (h : 0 < M) {L : List Ent} {k : Nat} {f : Ent} (hf : L[k]? = some f) : (M / gT M L k) * (lowD M f.z / Nat.gcd (M / gT M L k) (lowD M f.z)) = M / gT M L (k + 1) := by
  rw [gT_succ M hf]; exact den_step h (gT_dvd M L k)
theorem over_next {G : Nat} {L : List Ent} {k : Nat} {f : Ent} (hf : L[k]? = some f) : overL G (absL (L.take (k + 1))) = overL G (absL (L.take k)) ++ if f.z.tdiv (G : Int) = 0 then [] else [((f.p : Int), f.z.tdiv (G : Int))] := by
  have hk : k < L.length := (List.getElem?_eq_some_iff.1 hf).1
  have h1 : L.take (k + 1) = L.take k ++ [f] := by
    rw [List.take_succ_eq_append_getElem hk]
    rw [List.getElem?_eq_getElem hk] at hf
    rw [Option.some.inj hf]
  rw [h1, absL_join]
  unfold overL
  rw [List.map_append, List.filter_append]
  congr 1
  by_cases h : f.z.tdiv (G : Int) = 0
  · rw [if_pos h]; simp [absL, h]
  · rw [if_neg h]; simp [absL, h]
theorem take_len_le {G : Nat} (L : List Ent) (k : Nat) : (overL G (absL (L.take k))).length ≤ L.length := by
  have h1 := length_over (absL (L.take k)) G
  rw [absL_length, List.length_take] at h1
  omega
def FitsW (M G : Nat) (L : List Ent) : Prop := M / G ≤ 1000000 ∧ ∀ e ∈ L, (e.z.tdiv (G : Int)).natAbs ≤ 1099511627776
/-- A place of a Wide, cell by cell. -/
theorem WideAt.cells {base M B : Nat} {W : World} {adp adc : Option Addr} {np nc capp capc : Nat} {L : List Ent} (h : WideAt base M W B (.slice adp np capp) (.slice adc nc capc) L) {k : Nat} {f : Ent} (hf : L[k]? = some f) : ∃ gp gc, adp = some ⟨gp, 0, none⟩ ∧ adc = some ⟨gc, 0, none⟩ ∧ W.cell? ⟨gp, k, none⟩ = some (.int .i64 (f.p : Int)) ∧ W.cell? ⟨gc, k * 3, none⟩ = some f.x ∧ W.cell? ⟨gc, k * 3 + 1, none⟩ = some f.y ∧ W.cell? ⟨gc, k * 3 + 2, none⟩ = some f.q := by
  have hk : k < L.length := (List.getElem?_eq_some_iff.1 hf).1
  have hfk : L[k] = f := (List.getElem?_eq_some_iff.1 hf).2
  obtain ⟨gp, cp, e1, _⟩ := h.P.form (by omega)
  obtain ⟨gc, cc, e2, _⟩ := h.C.form (by omega)
  simp only [Value.slice.injEq] at e1 e2
  obtain ⟨rfl, rfl, rfl⟩ := e1
  obtain ⟨rfl, rfl, rfl⟩ := e2
  have hfl := flat3_length L
  obtain ⟨x0, x1, x2⟩ := flat3_at L k f hf
  refine ⟨gp, gc, rfl, rfl, ?_, ?_, ?_, ?_⟩
  · rw [h.P.cellAt k (by omega), digCells_get (by unfold primes; simpa using hk), primes_at hk, hfk]
  · rw [h.C.cellAt _ (by omega), x0]
  · rw [h.C.cellAt _ (by omega), x1]
  · rw [h.C.cellAt _ (by omega), x2]
end Go.Proofs.YtphecjjblnnjdaaGreatDoor

/- The document's digits, power, Sides, TooGreat and SignOf. -/
namespace Go.Proofs.YtphecjjblnnjdaaGreatDoor
open Go.RowKit

theorem bitLen_half {n : Nat} (h : 0 < n) : bitLen n = bitLen (n / 2) + 1 := by
  rcases Nat.lt_or_ge n 2 with h1 | h1
  · obtain rfl : n = 1 := by omega
    decide
  · have := bitLen_shift n 1 (by simp; omega)
    simp at this
    omega
theorem bitLen_zero : bitLen 0 = 0 := by simp [bitLen]
theorem bitLen_million {n : Nat} (h : n ≤ 1000000) : bitLen n ≤ 20 := by
  unfold bitLen
  split
  · omega
  · rename_i h0
    have := (Nat.log2_lt h0).2 (show n < 2 ^ 20 by omega)
    omega
theorem bitLen_pos {n : Nat} (h : 0 < n) : 0 < bitLen n := by
  rw [bitLen_half h]; omega

set_option maxHeartbeats 400000 in
theorem digits_any (n : Nat) (w : World) (hn : n ≤ 1000000) :
    Calls Tryz.prog 109 #[.int .i64 n] w fun e w' => e = .returned (.int .i64 (bitLen n : Nat)) ∧ w' = w := by
  obtain ⟨B, hB⟩ : ∃ B, bitLen n = B := ⟨_, rfl⟩
  have hB20 : B ≤ 20 := by rw [← hB]; exact bitLen_million hn
  rw [hB]
  have HB := Hid.mk' hB
  clear hB
  go_enter Tryz.func109, Tryz.ntmps109
  go_wp2_with fail
  go_loop [0, 3] (fun s t => ∃ m k : Nat, m ≤ 1000000 ∧ k ≤ 20 ∧ s = .int .i64 m ∧ t = .int .i64 k ∧ Hid (bitLen m + k = B)) (fun s _ => (intOf s).toNat)
  case atStart => exact ⟨n, 0, hn, by omega, rfl, rfl, HB.out⟩
  case round =>
    obtain ⟨m, k, hm, hk, rfl, rfl, HE⟩ := hrel
    by_cases hpos : 0 < m
    · have hposI : (0 : Int) < (m : Int) := by omega
      have h1 := bitLen_half hpos
      have h2 := HE.out
      have hk2 : k + 1 ≤ 20 := by omega
      clear h1 h2
      go_wp2_with fail
      have h1 := bitLen_half hpos
      have h2 := HE.out
      exact ⟨⟨m / 2, k + 1, by omega, by omega, by go_num, by go_num, by show _ = _; omega⟩, by simp [intOf]; omega⟩
    · obtain rfl : m = 0 := by omega
      go_wp2_with fail
      go_ret
      have h2 := HE.out
      rw [bitLen_zero] at h2
      exact ⟨ret_int (by omega), rfl⟩

theorem pow_half (n k : Nat) (h : ¬ k % 2 = 1) : n ^ (k / 2) * n ^ (k / 2) = n ^ k := by
  rw [← Nat.pow_add]; congr 1; omega
theorem pow_half_odd (n k : Nat) (h : k % 2 = 1) : n ^ (k / 2) * n ^ (k / 2) * n = n ^ k := by
  rw [← Nat.pow_add, ← Nat.pow_succ]; congr 1; omega

set_option maxRecDepth 10000 in
set_option maxHeartbeats 1000000 in
theorem power_any (n E : Nat) (hn : n ≤ 1000000) (hn1 : 1 ≤ n) (hE : E ≤ 1000000) : ∀ (k : Nat) (w : World), k ≤ 1500000 → n ^ k < 1000000 ^ E →
    Calls Tryz.prog 135 #[.int .i64 n, .int .i64 k] w fun e w' => ∃ v, e = .returned v ∧ BigAt w' v (n ^ k) ∧ Below w.heap.size w w' := by
  intro k
  induction k using Nat.strongRecOn with
  | _ k ih =>
    intro w hk hp
    have HIH := Hid.mk' ih
    clear ih
    rcases Nat.eq_zero_or_pos k with rfl | hpos
    · have hone := BigOf_any 1 w (by omega)
      clear hp
      go_enter Tryz.func135, Tryz.ntmps135
      go_wp2_with fail
      refine hone.mono ?_
      rintro e w1 ⟨v, rfl, hv, hb⟩
      go_wp2_with fail
      go_ret
      exact ⟨v, rfl, by simpa using hv, hb⟩
    · have hle : ∀ j, j ≤ k → n ^ j < 1000000 ^ E := fun j hj => Nat.lt_of_le_of_lt (Nat.pow_le_pow_right hn1 hj) hp
      have hrec := HIH.out (k / 2) (by omega) w (by omega) (hle _ (by omega))
      have hkz : ((k : Int) == 0) = false := by simp; omega
      have HLE := Hid.mk' hle
      clear hle hp HIH
      go_enter Tryz.func135, Tryz.ntmps135
      go_wp2_with fail
      refine hrec.mono ?_
      clear hrec
      rintro e w1 ⟨v, rfl, hv, hb⟩
      have hmul := BigMul_any v v _ _ E w1 hv hv (HLE.out _ (by omega)) (HLE.out _ (by omega)) hE
      have HB := Hid.mk' hb
      clear hv hb
      go_wp2_with fail
      refine hmul.mono ?_
      clear hmul
      rintro e w2 ⟨v2, rfl, hv2, hb2⟩
      have HB2 := Hid.mk' (below_chain HB.out hb2)
      by_cases hodd : k % 2 = 1
      · have ho : ((k : Int) % 2 == 1) = true := by simp; omega
        have hone := BigOf_any n w2 (by omega)
        have HV2 := Hid.mk' hv2
        clear hv2 hb2
        go_wp2_with fail
        refine hone.mono ?_
        clear hone
        rintro e w3 ⟨v3, rfl, hv3, hb3⟩
        have hmul := BigMul_any v2 v3 _ _ E w3 (HV2.out.later hb3) hv3 (by rw [← Nat.pow_add]; exact HLE.out _ (by omega)) (by have := HLE.out 1 (by omega); rw [Nat.pow_one] at this; exact this) hE
        have HB3 := Hid.mk' (below_chain HB2.out hb3)
        clear hv3 hb3
        go_wp2_with fail
        refine hmul.mono ?_
        rintro e w4 ⟨v4, rfl, hv4, hb4⟩
        go_wp2_with fail
        go_ret
        exact ⟨v4, rfl, by rw [← pow_half_odd n k hodd]; exact hv4, below_chain HB3.out hb4⟩
      · have ho : ((k : Int) % 2 == 1) = false := by simp; omega
        go_wp2_with fail
        go_ret
        exact ⟨v2, rfl, by rw [← pow_half n k hodd]; exact hv2, HB2.out⟩

/-- Sizes times bits, of the first k terms. -/
def cost (p c : Nat → Int) : Nat → Nat
  | 0 => 0
  | k + 1 => cost p c k + (c k).natAbs * bitLen (p k).toNat
def Bounded (n : Nat) (p c : Nat → Int) : Prop := ∀ i, i < n → 2 ≤ p i ∧ p i ≤ 1000000 ∧ -1099511627776 ≤ c i ∧ c i ≤ 1099511627776 ∧ c i ≠ 0
theorem OkTo.bounded {n : Nat} {p c : Nat → Int} (h : OkTo p c n) : Bounded n p c := fun i hi => ⟨(h i hi).2.2.2.2.2.1, (h i hi).2.1, (h i hi).2.2.2.1, (h i hi).2.2.2.2.1, (h i hi).2.2.1⟩
theorem LogAt.cellsAt {w : World} {ad : Option Addr} {n cap : Nat} {p c : Nat → Int} (h : LogAt w (.slice ad n cap) n p c) {k : Nat} (hk : k < n) : ∃ b o, ad = some ⟨b, o, none⟩ ∧ w.cell? ⟨b, o + k * 2, none⟩ = some (.int .i64 (p k)) ∧ w.cell? ⟨b, o + k * 2 + 1, none⟩ = some (.int .i64 (c k)) := by
  rcases h with ⟨_, _, _, rfl⟩ | ⟨b, o, _, h1, _, h3⟩
  · omega
  · simp only [Value.slice.injEq] at h1
    exact ⟨b, o, h1.1, h3 k hk⟩
theorem cost_mono (p c : Nat → Int) {j k : Nat} (h : j ≤ k) : cost p c j ≤ cost p c k := by
  induction k with
  | zero => obtain rfl : j = 0 := by omega
            exact Nat.le_refl _
  | succ k ih =>
    rcases Nat.lt_or_ge k j with h' | h'
    · obtain rfl : j = k + 1 := by omega
      exact Nat.le_refl _
    · have := ih h'
      show _ ≤ cost p c k + _
      omega

theorem quo_nat (left b : Nat) (hl : left ≤ 40000) : wrap64 ((left : Int) / (b : Int)) = ((left / b : Nat) : Int) := by
  have h0 : (left : Int) / (b : Int) = ((left / b : Nat) : Int) := by simp
  have h1 : left / b ≤ left := Nat.div_le_self _ _
  rw [h0]
  generalize left / b = q at h1
  rw [w64 _ (by omega)]
theorem too_more {left b m : Nat} {x : Int} (hx : x = (m : Int)) (hb : 0 < b) (hl : left ≤ 40000) (h : left < m * b) : wrap64 ((left : Int) / (b : Int)) < x := by
  rw [quo_nat left b hl, hx]
  have := (Nat.div_lt_iff_lt_mul hb).2 h
  omega
theorem too_less {left b m : Nat} {x : Int} (hx : x = (m : Int)) (hb : 0 < b) (hl : left ≤ 40000) (h : m * b ≤ left) : x ≤ wrap64 ((left : Int) / (b : Int)) := by
  rw [quo_nat left b hl, hx]
  have := (Nat.le_div_iff_mul_le hb).2 h
  omega
theorem too_prod {b m : Nat} {x : Int} (hx : x = (m : Int)) : x * (b : Int) = ((m * b : Nat) : Int) := by rw [hx]; simp

set_option maxRecDepth 10000 in
set_option maxHeartbeats 1000000 in
theorem TooGreat_one (den : Int) (ad : Option Addr) (n cap : Nat) (p c : Nat → Int) (r : Bool) (hr : r = true ↔ 40000 < cost p c n) (w : World) (hl : LogAt w (.slice ad n cap) n p c) (hn : n ≤ 30) (hbd : Bounded n p c) :
    Calls Tryz.prog 70 #[.agg #[.int .i64 den, .slice ad n cap], .int .i64 1] w fun e w' => e = .returned (.bool r) ∧ Below w.heap.size w w' := by
  have HB0 : Hid (Below w.heap.size w (w.alloc (.cells #[.int .i64 den, .slice ad n cap] 30))) := (Below.refl _ _).alloc (Nat.le_refl _) _
  have HL := Hid.mk' (hl.later HB0.out)
  have HBD := Hid.mk' hbd
  have HR := Hid.mk' hr
  clear hl hbd hr
  go_enter Tryz.func70, Tryz.ntmps70
  go_wp2_with fail
  go_loop [5, 6] (fun s t => ∃ left k : Nat, k ≤ n ∧ left ≤ 40000 ∧ s = .int .i64 left ∧ t = .int .i64 k ∧ Hid (left + cost p c k = 40000)) (fun _ t => n - (intOf t).toNat)
  case atStart => exact ⟨40000, 0, by omega, by omega, rfl, rfl, rfl⟩
  case round =>
    obtain ⟨left, k, hk, hleft, rfl, rfl, HE⟩ := hrel
    by_cases hlt : k < n
    · obtain ⟨b, o, rfl, hc0, hc1⟩ := HL.out.cellsAt hlt
      have hkI : (k : Int) < (n : Int) := by omega
      have hk0 : (0 : Int) ≤ (k : Int) := by omega
      obtain ⟨hp2, hp6, hcl, hcu, _⟩ := HBD.out k hlt
      obtain ⟨q, hq⟩ := Int.eq_ofNat_of_zero_le (show 0 ≤ p k by omega)
      have hdig := digits_any q (w.alloc (.cells #[.int .i64 den, .slice (some ⟨b, o, none⟩) n cap] 30)) (by omega)
      have HQ := Hid.mk' hq
      rw [hq] at hc0 hp2 hp6
      clear hq
      have hbp := bitLen_pos (n := q) (by omega)
      have hbz : ¬ bitLen q = 0 := by omega
      have hb20 := bitLen_million (n := q) (by omega)
      obtain ⟨B, hB⟩ : ∃ B, bitLen q = B := ⟨_, rfl⟩
      have HCS : Hid (cost p c (k + 1) = cost p c k + (c k).natAbs * B) := by
        show cost p c k + _ = _
        rw [HQ.out, ← hB]; simp
      rw [hB] at hdig hbp hbz hb20
      clear hB
      by_cases hneg : c k < 0
      · have hx : -c k = ((c k).natAbs : Int) := by omega
        have HX := Hid.mk' hx
        clear hx
        by_cases hmore : left < (c k).natAbs * B
        · have hbr := too_more HX.out hbp hleft hmore
          have hrt : r = true := HR.out.2 (by have := cost_mono p c (show k + 1 ≤ n by omega); rw [HCS.out] at this; have := HE.out; omega)
          subst hrt
          clear hmore
          go_wp2_with fail
          refine hdig.mono ?_
          clear hdig
          rintro e w1 ⟨rfl, hw1⟩
          go_wp2_with fail
          go_ret
          exact ⟨rfl, HB0.out⟩
        · have hbr := too_less HX.out hbp hleft (Nat.le_of_not_lt hmore)
          have hpr := too_prod (b := B) HX.out
          have hpb : (0 : Int) ≤ -c k * (B : Int) ∧ -c k * (B : Int) ≤ 40000 := by omega
          have HPR := Hid.mk' hpr
          have HMO := Hid.mk' hmore
          clear hmore hpr
          go_wp2_with fail
          refine hdig.mono ?_
          clear hdig
          rintro e w1 ⟨rfl, hw1⟩
          go_wp2_with fail
          have h1 := HMO.out
          have h2 := HPR.out
          have h3 := HCS.out
          have h4 := HE.out
          generalize (c k).natAbs * B = M at h1 h2 h3
          exact ⟨⟨left - M, k + 1, by omega, by omega, by rw [h2]; congr 1; omega, by go_num, by show _ = _; omega⟩, by simp [intOf]; omega⟩
      · have hx : c k = ((c k).natAbs : Int) := by omega
        have HX := Hid.mk' hx
        clear hx
        by_cases hmore : left < (c k).natAbs * B
        · have hbr := too_more HX.out hbp hleft hmore
          have hrt : r = true := HR.out.2 (by have := cost_mono p c (show k + 1 ≤ n by omega); rw [HCS.out] at this; have := HE.out; omega)
          subst hrt
          clear hmore
          go_wp2_with fail
          refine hdig.mono ?_
          clear hdig
          rintro e w1 ⟨rfl, hw1⟩
          go_wp2_with fail
          go_ret
          exact ⟨rfl, HB0.out⟩
        · have hbr := too_less HX.out hbp hleft (Nat.le_of_not_lt hmore)
          have hpr := too_prod (b := B) HX.out
          have hpb : (0 : Int) ≤ c k * (B : Int) ∧ c k * (B : Int) ≤ 40000 := by omega
          have HPR := Hid.mk' hpr
          have HMO := Hid.mk' hmore
          clear hmore hpr
          go_wp2_with fail
          refine hdig.mono ?_
          clear hdig
          rintro e w1 ⟨rfl, hw1⟩
          go_wp2_with fail
          have h1 := HMO.out
          have h2 := HPR.out
          have h3 := HCS.out
          have h4 := HE.out
          generalize (c k).natAbs * B = M at h1 h2 h3
          exact ⟨⟨left - M, k + 1, by omega, by omega, by rw [h2]; congr 1; omega, by go_num, by show _ = _; omega⟩, by simp [intOf]; omega⟩
    · obtain rfl : k = n := by omega
      have hrf : r = false := not_true_of HR.out (by have := HE.out; omega)
      subst hrf
      go_wp2_with fail
      go_ret
      exact ⟨rfl, HB0.out⟩

/-- The products of powers. -/
def sideUp (p c : Nat → Int) (t : Nat) : Nat → Nat
  | 0 => 1
  | k + 1 => if 0 < c k then sideUp p c t k * (p k).toNat ^ ((c k).natAbs * t) else sideUp p c t k
def sideDown (p c : Nat → Int) (t : Nat) : Nat → Nat
  | 0 => 1
  | k + 1 => if 0 < c k then sideDown p c t k else sideDown p c t k * (p k).toNat ^ ((c k).natAbs * t)
theorem sideUp_pos {p c : Nat → Int} {t k : Nat} (h : 0 < c k) : sideUp p c t (k + 1) = sideUp p c t k * (p k).toNat ^ ((c k).natAbs * t) := by
  show (if _ then _ else _) = _
  rw [if_pos h]
theorem sideUp_neg {p c : Nat → Int} {t k : Nat} (h : ¬ 0 < c k) : sideUp p c t (k + 1) = sideUp p c t k := by
  show (if _ then _ else _) = _
  rw [if_neg h]
theorem sideDown_pos {p c : Nat → Int} {t k : Nat} (h : 0 < c k) : sideDown p c t (k + 1) = sideDown p c t k := by
  show (if _ then _ else _) = _
  rw [if_pos h]
theorem sideDown_neg {p c : Nat → Int} {t k : Nat} (h : ¬ 0 < c k) : sideDown p c t (k + 1) = sideDown p c t k * (p k).toNat ^ ((c k).natAbs * t) := by
  show (if _ then _ else _) = _
  rw [if_neg h]
theorem pow_bits (q m t : Nat) : q ^ (m * t) ≤ 2 ^ (t * (m * bitLen q)) := by
  have h1 : q ≤ 2 ^ bitLen q := Nat.le_of_lt (bitLen_spec q).1
  have h2 := Nat.pow_le_pow_left h1 (m * t)
  rw [← Nat.pow_mul] at h2
  rw [show t * (m * bitLen q) = bitLen q * (m * t) by grind]
  exact h2
theorem sides_le (p c : Nat → Int) (t : Nat) : ∀ k, sideUp p c t k ≤ 2 ^ (t * cost p c k) ∧ sideDown p c t k ≤ 2 ^ (t * cost p c k)
  | 0 => by simp [sideUp, sideDown, cost]
  | k + 1 => by
    have ih := sides_le p c t k
    have hp := pow_bits (p k).toNat (c k).natAbs t
    have e : 2 ^ (t * cost p c (k + 1)) = 2 ^ (t * cost p c k) * 2 ^ (t * ((c k).natAbs * bitLen (p k).toNat)) := by
      rw [← Nat.pow_add]; congr 1; show t * (cost p c k + _) = _; rw [Nat.mul_add]
    rw [e]
    have h1 : 1 ≤ 2 ^ (t * ((c k).natAbs * bitLen (p k).toNat)) := Nat.one_le_two_pow
    by_cases hc : 0 < c k
    · rw [sideUp_pos hc, sideDown_pos hc]
      exact ⟨Nat.mul_le_mul ih.1 hp, by have := Nat.mul_le_mul ih.2 h1; rwa [Nat.mul_one] at this⟩
    · rw [sideUp_neg hc, sideDown_neg hc]
      exact ⟨by have := Nat.mul_le_mul ih.1 h1; rwa [Nat.mul_one] at this, Nat.mul_le_mul ih.2 hp⟩
theorem cost_lt {p c : Nat → Int} {t k n E : Nat} (hk : k ≤ n) (h : 2 ^ (t * cost p c n) < 1000000 ^ E) : 2 ^ (t * cost p c k) < 1000000 ^ E :=
  Nat.lt_of_le_of_lt (Nat.pow_le_pow_right (by decide) (Nat.mul_le_mul_left _ (cost_mono p c hk))) h
theorem term_lt {p c : Nat → Int} {t k n E : Nat} (hk : k < n) (h : 2 ^ (t * cost p c n) < 1000000 ^ E) : (p k).toNat ^ ((c k).natAbs * t) < 1000000 ^ E := by
  refine Nat.lt_of_le_of_lt (Nat.le_trans (pow_bits _ _ _) ?_) (cost_lt (show k + 1 ≤ n by omega) h)
  refine Nat.pow_le_pow_right (by decide) (Nat.mul_le_mul_left _ ?_)
  show _ ≤ cost p c k + _
  omega
theorem size_le_cost {p c : Nat → Int} {k n : Nat} (hk : k < n) (hb : Bounded n p c) : (c k).natAbs ≤ cost p c n := by
  have h1 := cost_mono p c (show k + 1 ≤ n by omega)
  have h2 : 0 < bitLen (p k).toNat := bitLen_pos (by have := (hb k hk).1; omega)
  have h3 : (c k).natAbs * 1 ≤ (c k).natAbs * bitLen (p k).toNat := Nat.mul_le_mul_left _ h2
  have h4 : cost p c (k + 1) = cost p c k + (c k).natAbs * bitLen (p k).toNat := rfl
  omega

set_option maxRecDepth 10000 in
set_option maxHeartbeats 1000000 in
theorem Sides_one (den : Int) (ad : Option Addr) (n cap E : Nat) (p c : Nat → Int) (w : World) (hl : LogAt w (.slice ad n cap) n p c) (hn : n ≤ 30) (hbd : Bounded n p c) (hcost : 1 * cost p c n ≤ 40000) (hE : E ≤ 1000000) (hEb : 2 ^ (1 * cost p c n) < 1000000 ^ E) :
    Calls Tryz.prog 110 #[.agg #[.int .i64 den, .slice ad n cap], .int .i64 1] w fun e w' => ∃ u v, e = .returned (.tuple #[u, v]) ∧ BigAt w' u (sideUp p c 1 n) ∧ BigAt w' v (sideDown p c 1 n) ∧ Below w.heap.size w w' := by
  have hb0 : Below w.heap.size w (w.alloc (.cells #[.int .i64 den, .slice ad n cap] 30)) := (Below.refl _ _).alloc (Nat.le_refl _) _
  have hc1 : (w.alloc (.cells #[.int .i64 den, .slice ad n cap] 30)).cell? ⟨w.heap.size, 1, none⟩ = some (.slice ad n cap) := by simp
  have HL := Hid.mk' (hl.later hb0)
  have HBD := Hid.mk' hbd
  have HEB := Hid.mk' hEb
  have HC1 := Hid.mk' hc1
  have HB0 := Hid.mk' hb0
  have hsz : ∀ i, i < n → (c i).natAbs ≤ 40000 := fun i hi => by have := size_le_cost hi hbd; omega
  have HSZ := Hid.mk' hsz
  clear hl hbd hEb hsz hc1 hb0
  have hone := BigOf_any 1 (w.alloc (.cells #[.int .i64 den, .slice ad n cap] 30)) (by omega)
  generalize hw0 : w.alloc (.cells #[.int .i64 den, .slice ad n cap] 30) = w0 at HL HC1 HB0 hone
  have HW0 := Hid.mk' hw0
  clear hw0
  go_enter Tryz.func110, Tryz.ntmps110
  go_wp2_with fail
  rw [HW0.out]
  refine hone.mono ?_
  clear hone
  rintro e w1 ⟨v1, rfl, hv1, hb1⟩
  have hone := BigOf_any 1 w1 (by omega)
  have HV1 := Hid.mk' hv1
  have HB1 := Hid.mk' hb1
  clear hv1 hb1
  go_wp2_with fail
  refine hone.mono ?_
  clear hone
  rintro e w2 ⟨v2, rfl, hv2, hb2⟩
  have HB2 := Hid.mk' (below_chain HB1.out hb2)
  have HV2 := Hid.mk' hv2
  have HV1' := Hid.mk' (HV1.out.later hb2)
  clear hv2 hb2 HV1 HB1
  go_wp2_with fail
  go_loopw [6, 7, 8] (fun s t i wr => ∃ k : Nat, k ≤ n ∧ i = .int .i64 k ∧ Hid (BigAt wr s (sideUp p c 1 k)) ∧ Hid (BigAt wr t (sideDown p c 1 k)) ∧ Hid (Below w0.heap.size w0 wr)) (fun _ _ i _ => n - (intOf i).toNat)
  case atStart => exact ⟨0, by omega, rfl, HV1', HV2, HB2⟩
  case round =>
    clear HV1' HV2 HB2
    obtain ⟨k, hk, rfl, HU, HD, HB⟩ := hrel
    have hcl := HB.out.cell (cell_lt HC1.out)
    rw [HC1.out] at hcl
    have hk0 : (0 : Int) ≤ (k : Int) := by omega
    by_cases hlt : k < n
    · obtain ⟨b, o, rfl, hc0, hc1⟩ := (HL.out.later HB.out).cellsAt hlt
      have hkI : (k : Int) < (n : Int) := by omega
      obtain ⟨hp2, hp6, _, _, hcz⟩ := HBD.out k hlt
      have hs := HSZ.out k hlt
      have hcR : -40000 ≤ c k ∧ c k ≤ 40000 := by omega
      obtain ⟨q, hq⟩ := Int.eq_ofNat_of_zero_le (show 0 ≤ p k by omega)
      have hqt : (p k).toNat = q := by omega
      have htl := term_lt hlt HEB.out
      have hsl := sides_le p c 1 k
      have hkl := cost_lt (t := 1) (Nat.le_of_lt hlt) HEB.out
      rw [hqt] at htl
      have hpow := power_any q E (by omega) (by omega) hE ((c k).natAbs * 1) wr (by omega) htl
      have HQT := Hid.mk' hqt
      have HTL := Hid.mk' htl
      have HUL := Hid.mk' (Nat.lt_of_le_of_lt hsl.1 hkl)
      have HDL := Hid.mk' (Nat.lt_of_le_of_lt hsl.2 hkl)
      rw [hq] at hc0
      clear hqt hsl hkl htl hq hp2 hp6 hs
      by_cases hpos : 0 < c k
      · rw [show (((c k).natAbs * 1 : Nat) : Int) = c k by omega] at hpow
        go_wp2_with fail
        refine hpow.mono ?_
        clear hpow
        rintro e w3 ⟨v3, rfl, hv3, hb3⟩
        have hmul := BigMul_any u6 v3 _ _ E w3 (HU.out.later hb3) hv3 HUL.out HTL.out hE
        have HB3 := Hid.mk' (below_chain HB.out hb3)
        have HD3 := Hid.mk' (HD.out.later hb3)
        clear hv3 hb3
        go_wp2_with fail
        refine hmul.mono ?_
        clear hmul
        rintro e w4 ⟨v4, rfl, hv4, hb4⟩
        go_wp2_with fail
        exact ⟨⟨k + 1, by omega, by go_num, by show BigAt _ _ _; rw [sideUp_pos hpos, HQT.out]; exact hv4, by show BigAt _ _ _; rw [sideDown_pos hpos]; exact HD3.out.later hb4, below_chain HB3.out hb4⟩, by simp [intOf]; omega⟩
      · rw [show (((c k).natAbs * 1 : Nat) : Int) = -c k by omega] at hpow
        go_wp2_with fail
        refine hpow.mono ?_
        clear hpow
        rintro e w3 ⟨v3, rfl, hv3, hb3⟩
        have hmul := BigMul_any u7 v3 _ _ E w3 (HD.out.later hb3) hv3 HDL.out HTL.out hE
        have HB3 := Hid.mk' (below_chain HB.out hb3)
        have HU3 := Hid.mk' (HU.out.later hb3)
        clear hv3 hb3
        go_wp2_with fail
        refine hmul.mono ?_
        clear hmul
        rintro e w4 ⟨v4, rfl, hv4, hb4⟩
        go_wp2_with fail
        exact ⟨⟨k + 1, by omega, by go_num, by show BigAt _ _ _; rw [sideUp_neg (Int.not_lt.2 (by omega))]; exact HU3.out.later hb4, by show BigAt _ _ _; rw [sideDown_neg (Int.not_lt.2 (by omega)), HQT.out]; exact hv4, below_chain HB3.out hb4⟩, by simp [intOf]; omega⟩
    · obtain rfl : k = n := by omega
      go_wp2_with fail
      go_ret2
      exact ⟨u6, u7, rfl, HU.out, HD.out, below_chain HB0.out HB.out⟩
end Go.Proofs.YtphecjjblnnjdaaGreatDoor

/- (sum).putTerms. -/
namespace Go.Proofs.YtphecjjblnnjdaaGreatDoor
open Go.RowKit Go.Maps

theorem map_no_cell {w : World} {b nn o : Nat} {D : DataW Unit} {k : TypeId} {R : Value → Option (DataW Unit × List MemPlace)} (h : w.ownsMap Tryz.prog k R b nn D) : w.cell? ⟨b, o, none⟩ = none := by
  obtain ⟨es, clock, hm, _⟩ := h
  simp [World.cell?, hm]
theorem atL_join : ∀ (l : List (Int × Int)) (e : Int × Int) (x : Int), (∀ f ∈ l, f.1 ≠ e.1) → atL (l ++ [e]) x = atL l x + if e.1 = x then e.2 else 0
  | [], e, x, _ => by simp [atL]
  | y :: r, e, x, h => by
    have ih := atL_join r e x (fun f hf => h f (List.mem_cons_of_mem _ hf))
    simp only [List.cons_append, atL]
    by_cases hy : y.1 = x
    · rw [if_pos hy, if_pos hy, if_neg (fun he => h y (List.mem_cons_self ..) (hy.trans he.symm))]; omega
    · rw [if_neg hy, if_neg hy]; exact ih
theorem take_before {t : List (Int × Int)} (hr : Rising t) {k : Nat} (hk : k < t.length) : ∀ f ∈ t.take k, f.1 ≠ (t.getD k (0, 0)).1 := fun f hf => by
  have h := hr.sublist (List.take_sublist (k + 1) t)
  rw [take_join hk] at h
  have := (List.pairwise_append.1 h).2.2 f hf (t.getD k (0, 0)) (by simp)
  omega
theorem atL_take {t : List (Int × Int)} (hr : Rising t) {k : Nat} (hk : k < t.length) (x : Int) : atL (t.take (k + 1)) x = atL (t.take k) x + if pOf t k = x then cOf t k else 0 := by
  rw [take_join hk, atL_join _ _ _ (take_before hr hk)]
  rfl
theorem atL_take_none {t : List (Int × Int)} (hr : Rising t) {k : Nat} (hk : k < t.length) : atL (t.take k) (pOf t k) = 0 := atL_none (take_before hr hk)
theorem atL_bound {t : List (Int × Int)} {B : Int} (hB : 0 ≤ B) (h : ∀ e ∈ t, -B ≤ e.2 ∧ e.2 ≤ B) (x : Int) : -B ≤ atL t x ∧ atL t x ≤ B := by
  by_cases h0 : atL t x = 0
  · rw [h0]; omega
  · exact h _ (atL_some h0)

/-- What putTerms keeps: k terms are put. -/
structure InTerms (w wr : World) (b : Nat) (m : Int) (l0 t : List (Int × Int)) (nn0 : Nat) (l : List (Int × Int)) (k : Nat) : Prop where
  own : wr.ownsMap Tryz.prog 3 (plainElem (H := Unit) Tryz.prog 3) b (nn0 + k) (mapOf l)
  rise : Rising l
  val : ∀ x, atL l x = atL l0 x + atL (t.take k) x * m
  keys : ∀ e ∈ l, 2 ≤ e.1 ∧ e.1 ≤ 1000000
  len : l.length ≤ l0.length + k
  grow : w.grownBy wr (some b)
  box : wr.cell? ⟨w.heap.size, 1, none⟩ = some (.map (some b))

theorem InTerms.put {w wr w1 : World} {b : Nat} {m : Int} {l0 t l : List (Int × Int)} {nn0 k : Nat} {X : Obj} (h : InTerms w wr b m l0 t nn0 l k) (hb : b < w.heap.size) (ht : Rising t) (hk : k < t.length) (hp : 2 ≤ pOf t k ∧ pOf t k ≤ 1000000)
    (ho : w1.ownsMap Tryz.prog 3 (plainElem (H := Unit) Tryz.prog 3) b (nn0 + k + 1) ((mapOf l).put (.int .i64 (pOf t k)) (.lit (.int .i64 (atL l (pOf t k) + cOf t k * m))))) (hg : (wr.alloc X).grownBy w1 (some b)) :
    InTerms w w1 b m l0 t nn0 (putL l (pOf t k) (atL l (pOf t k) + cOf t k * m)) (k + 1) := by
  have hgg : w.grownBy (wr.alloc X) (some b) := ⟨h.grow.os, h.grow.tape, h.grow.output, Nat.le_trans h.grow.size (by simp), fun j hj hn => (Below.heap_alloc _ _ j (Nat.lt_of_lt_of_le hj h.grow.size)).trans (h.grow.block j hj hn)⟩
  refine ⟨by rw [put_map] at ho; rw [← Nat.add_assoc]; exact ho, rising_put h.rise _ _, fun x => ?_, fun e he => ?_, ?_, grown_two hgg hg, cell_beside hg (by rw [World.cell?_alloc_lt _ _ ⟨w.heap.size, 1, none⟩ (cell_lt h.box)]; exact h.box) (by omega)⟩
  · rw [atL_put h.rise, atL_take ht hk, Int.add_mul]
    by_cases hx : x = pOf t k
    · rw [if_pos hx, if_pos hx.symm, h.val, hx]; omega
    · rw [if_neg hx, if_neg (fun e => hx e.symm), h.val, Int.zero_mul]; omega
  · rcases mem_put.1 he with rfl | ⟨he, _⟩
    · exact hp
    · exact h.keys e he
  · have h1 := length_put l (pOf t k) (atL l (pOf t k) + cOf t k * m)
    have h2 := h.len
    omega

theorem prod_bd {x m : Int} (hx : -1099511627776 ≤ x ∧ x ≤ 1099511627776) (hm : 0 ≤ m ∧ m ≤ 1000000) : -1099511627776000000 ≤ x * m ∧ x * m ≤ 1099511627776000000 := by
  obtain ⟨a, rfl⟩ := Int.eq_ofNat_of_zero_le hm.1
  have h1 : x * (a : Int) ≤ 1099511627776 * (a : Int) := Int.mul_le_mul_of_nonneg_right hx.2 (by omega)
  have h2 : -1099511627776 * (a : Int) ≤ x * (a : Int) := Int.mul_le_mul_of_nonneg_right hx.1 (by omega)
  omega

set_option maxRecDepth 100000 in
set_option maxHeartbeats 2000000 in
theorem putTerms_any (den m : Int) (b nn0 : Nat) (ad : Option Addr) (cap : Nat) (l0 t : List (Int × Int)) (w : World) (hown : w.ownsMap Tryz.prog 3 (plainElem (H := Unit) Tryz.prog 3) b nn0 (mapOf l0)) (hr : Rising l0) (hk : ∀ e ∈ l0, 2 ≤ e.1 ∧ e.1 ≤ 1000000) (hb : ∀ x, -1099511627776000000 ≤ atL l0 x ∧ atL l0 x ≤ 1099511627776000000)
    (hl : LogAt w (.slice ad t.length cap) t.length (pOf t) (cOf t)) (ht : Rising t) (hte : ∀ e ∈ t, 2 ≤ e.1 ∧ e.1 ≤ 1000000 ∧ -1099511627776 ≤ e.2 ∧ e.2 ≤ 1099511627776) (hm : 0 ≤ m ∧ m ≤ 1000000) (hlen : t.length ≤ 10000) (hnn : nn0 ≤ 100000) :
    Calls Tryz.prog 116 #[.agg #[.int .i64 den, .map (some b)], .slice ad t.length cap, .int .i64 m] w fun e w' => e = .returned (.tuple #[]) ∧ ∃ l, InTerms w w' b m l0 t nn0 l t.length := by
  have hbl := hown.lt
  have hmI := hm
  have HNC : Hid (∀ o, w.cell? ⟨b, o, none⟩ = none) := fun o => map_no_cell hown
  have HL := Hid.mk' hl
  have HT := Hid.mk' ht
  have HTE := Hid.mk' hte
  have HB := Hid.mk' hb
  have HI0 : Hid (InTerms w (w.alloc (.cells #[.int .i64 den, .map (some b)] 145)) b m l0 t nn0 l0 0) :=
    ⟨ownsMap_later hown (Below.heap_alloc _ _ b hbl), hr, fun x => by simp [atL], hk, Nat.le_refl _, ⟨rfl, rfl, rfl, by simp, fun k hk _ => Below.heap_alloc _ _ k hk⟩, by simp⟩
  clear hown hr hk hb hl ht hte hm
  go_enter Tryz.func116, Tryz.ntmps116
  go_wp2_with fail
  go_loopw [10] (fun i wr => ∃ (k : Nat) (l : List (Int × Int)), i = .int .i64 k ∧ k ≤ t.length ∧ Hid (InTerms w wr b m l0 t nn0 l k)) (fun i _ => t.length - (intOf i).toNat)
  case atStart => exact ⟨0, l0, rfl, by omega, HI0⟩
  case round =>
    clear HI0
    obtain ⟨k, l, rfl, hk, HI⟩ := hrel
    have hk0 : (0 : Int) ≤ (k : Int) := by omega
    by_cases hlt : k < t.length
    · have hkI : (k : Int) < (t.length : Int) := by omega
      obtain ⟨g, o, rfl, y0, y1⟩ := HL.out.cellsAt hlt
      have hgb : g ≠ b := fun e => by rw [e, HNC.out] at y0; cases y0
      have z0 := cell_beside HI.out.grow y0 hgb
      have z1 := cell_beside HI.out.grow y1 hgb
      obtain ⟨hp2, hp6, hc0, hc1⟩ := HTE.out _ (getD_mem hlt)
      have hpr := prod_bd (m := m) ⟨hc0, hc1⟩ hmI
      have hl0 := HB.out (pOf t k)
      have hv := HI.out.val (pOf t k)
      rw [atL_take_none HT.out hlt, Int.zero_mul, Int.add_zero] at hv
      rw [← hv] at hl0
      have hbox : ∀ X, (wr.alloc X).cell? ⟨w.heap.size, 1, none⟩ = some (.map (some b)) := fun X => by rw [World.cell?_alloc_lt _ _ ⟨w.heap.size, 1, none⟩ (cell_lt HI.out.box)]; exact HI.out.box
      have HKEY : Hid (keyOf Tryz.prog 3 (.int .i64 (pOf t k)) = some (.int .i64 (pOf t k))) := keyOf_int_mk Tryz.underlying3 (wf_int (by show -9223372036854775808 ≤ (t.getD k (0, 0)).1 ∧ (t.getD k (0, 0)).1 ≤ 9223372036854775807; omega))
      have HOA : Hid (∀ X, (wr.alloc X).ownsMap Tryz.prog 3 (plainElem (H := Unit) Tryz.prog 3) b (nn0 + k) (mapOf l)) := fun X => ownsMap_later HI.out.own (Below.heap_alloc _ _ b HI.out.own.lt)
      have HPUT := Hid.mk' (fun (w1 : World) (X : Obj) => HI.out.put (w1 := w1) (X := X) hbl HT.out hlt ⟨hp2, hp6⟩)
      have hsz := cell_lt HI.out.box
      obtain ⟨P, hP⟩ : ∃ P, P = pOf t k := ⟨_, rfl⟩
      obtain ⟨C, hC⟩ : ∃ C, C = cOf t k := ⟨_, rfl⟩
      obtain ⟨c, hc⟩ : ∃ c, c = atL l (pOf t k) := ⟨_, rfl⟩
      have hC0 : -1099511627776000000 ≤ C * m ∧ C * m ≤ 1099511627776000000 := by rw [hC]; exact hpr
      rw [← hc] at hl0 HPUT
      rw [← hP] at z0 HKEY HPUT hc
      rw [← hC] at z1 HPUT
      have HC := Hid.mk' hc
      clear hc hv hp2 hp6 hc0 hc1 hpr y0 y1 hP hC
      go_wp2_with (first
        | (at_lookup; go_must (refine wpList_lookup_own_int _ rfl _ _ 143 rfl 3 3 .i64 Tryz.lawInt Tryz.underlying143 Tryz.underlying3 (Tryz.zeroInt _) b _ _ rfl (HOA.out _) _ _ rfl HKEY.out ?_; intro c' hat hwc; have hcc := (coef_at hat).trans HC.out.symm; clear hat hwc; subst hcc))
        | (at_mapUpdate; go_must (refine wpList_mapUpdate_own _ rfl _ _ _ 143 rfl 3 3 Tryz.lawInt Tryz.underlying143 _ b _ _ rfl (HOA.out _) (by unfold maxLen; omega) _ _ _ rfl rfl HKEY.out _ [] (plainElem_int Tryz.underlying3 (wf_int (by omega))) ?_; intro w1 hown1 hgrow1; have HP1 := Hid.mk' (HPUT.out w1 _ hown1 hgrow1); clear hown1 hgrow1)))
      exact ⟨⟨k + 1, _, by go_num, by omega, HP1⟩, by simp [intOf]; omega⟩
    · obtain rfl : k = t.length := by omega
      go_wp2_with fail
      go_end0
      exact ⟨rfl, _, HI.out⟩
end Go.Proofs.YtphecjjblnnjdaaGreatDoor

/- dist.putEntropy: the entropy of weights put into a sum. -/
namespace Go.Proofs.YtphecjjblnnjdaaGreatDoor
open Go.RowKit Go.Maps

/-- What the i-th weight puts: its logarithm's part of a prime. -/
def entV (z : Nat → Int) (N : Nat) (x : Int) (i : Nat) : Int := z i * multI x N - z i * multI x (z i).toNat
/-- A function that puts into the sum at b. -/
def putV (den : Int) (b : Nat) : Value := .func (.func 104) #[.agg #[.int .i64 den, .map (some b)]] #[]

theorem multI_small (x : Int) {n : Nat} (h6 : n ≤ 1000000) : 0 ≤ multI x n ∧ multI x n ≤ 19 := by
  refine ⟨multI_nonneg x n, ?_⟩
  rcases Nat.eq_zero_or_pos n with rfl | h
  · simp [multI, mult, multF]
  · exact multI_le x h h6
theorem mul_weight {t m : Int} (ht : -4096 ≤ t ∧ t ≤ 4096) (hm : 0 ≤ m ∧ m ≤ 19) : -77824 ≤ t * m ∧ t * m ≤ 77824 := by
  obtain ⟨k, rfl⟩ := Int.eq_ofNat_of_zero_le hm.1
  have hk : k ≤ 19 := by omega
  rcases k with _ | _ | _ | _ | _ | _ | _ | _ | _ | _ | _ | _ | _ | _ | _ | _ | _ | _ | _ | _ | k <;> omega
theorem entV_le {z : Nat → Int} {N i : Nat} (x : Int) (hz : 0 ≤ z i ∧ z i ≤ 4096) (hN : N ≤ 4096) : -200000 ≤ entV z N x i ∧ entV z N x i ≤ 200000 := by
  unfold entV
  have h1 := mul_weight (t := z i) (by omega) (multI_small x (n := N) (by omega))
  have h2 := mul_weight (t := z i) (by omega) (multI_small x (n := (z i).toNat) (by omega))
  omega
theorem sumN_bound {f : Nat → Int} {B : Int} : ∀ {n : Nat}, (∀ i, i < n → -B ≤ f i ∧ f i ≤ B) → -((n : Int) * B) ≤ sumN f n ∧ sumN f n ≤ (n : Int) * B
  | 0, _ => by simp [sumN]
  | n + 1, h => by
    have ih := sumN_bound (f := f) (B := B) (n := n) (fun i hi => h i (by omega))
    have h1 := h n (by omega)
    simp only [sumN]
    have : ((n + 1 : Nat) : Int) * B = (n : Int) * B + B := by rw [Int.natCast_add, Int.add_mul]; simp
    rw [this]
    omega
/-- A list's cells lie where no map does. -/
theorem RowAt.beside {w w' : World} {b o n mb nn : Nat} {z : Nat → Int} {D : DataW Unit} {k : TypeId} {R : Value → Option (DataW Unit × List MemPlace)} (h : RowAt w b o n z) (hm : w.ownsMap Tryz.prog k R mb nn D) (hg : w.grownBy w' (some mb)) : RowAt w' b o n z := fun i hi => by
  have h1 := h i hi
  refine cell_beside hg h1 ?_
  rintro rfl
  rw [map_no_cell hm] at h1
  cases h1

set_option maxRecDepth 100000 in
set_option maxHeartbeats 2000000 in
theorem putEntropy_some (den : Int) (mb nn0 b o cap n : Nat) (z : Nat → Int) (l0 : List (Int × Int)) (w : World) (hown : w.ownsMap Tryz.prog 3 (plainElem (H := Unit) Tryz.prog 3) mb nn0 (mapOf l0)) (hr : Rising l0) (hk : ∀ e ∈ l0, 2 ≤ e.1 ∧ e.1 ≤ 1000000)
    (hb : ∀ x, -1000000000000 ≤ atL l0 x ∧ atL l0 x ≤ 1000000000000) (hnn : nn0 ≤ 100000) (h : RowAt w b o n z) (hz : ∀ i, i < n → 0 ≤ z i) (hs : sumN z n ≤ 4096) (hn : n ≤ 256) :
    Calls Tryz.prog 107 #[.slice (some ⟨b, o, none⟩) n cap, putV den mb] w fun e w' => e = .returned (.tuple #[]) ∧ ∃ l nn, Puts w w' mb (fun x => sumN (entV z (sumN z n).toNat x) n) (2 * n) l0 nn0 l nn := by
  have hle : ∀ k, k ≤ n → 0 ≤ sumN z k ∧ sumN z k ≤ 4096 := fun k hk => ⟨sumN_nonneg (fun i hi => hz i (by omega)), Int.le_trans (sumN_mono hz hk) hs⟩
  have hzi : ∀ i, i < n → 0 ≤ z i ∧ z i ≤ 4096 := fun i hi => ⟨hz i hi, Int.le_trans (sumN_ge hz hi) hs⟩
  have ht := total_some b o cap n z w h (fun k hk => by have := hle k hk; omega) (fun i hi => by have := hzi i hi; omega) (by omega)
  obtain ⟨N, hN⟩ := Int.eq_ofNat_of_zero_le (hle n (Nat.le_refl _)).1
  have hN6 : N ≤ 4096 := by have := (hle n (Nat.le_refl _)).2; omega
  rw [hN] at ht ⊢
  have HP0 : Hid (Puts w w mb (fun x => sumN (entV z N x) 0) (2 * 0) l0 nn0 l0 nn0) := ⟨hown, hr, fun x => by simp [sumN], hk, by omega, by omega, grown_refl _ _⟩
  have HROW := Hid.mk' (fun (wr : World) (hg : w.grownBy wr (some mb)) => h.beside hown hg)
  have HZI := Hid.mk' hzi
  have HB := Hid.mk' hb
  have HNP : Hid (∀ i, i < n → z i ≠ 0 → 1 ≤ N) := fun i hi h0 => by have h1 := sumN_ge hz hi; have h2 := hz i hi; omega
  simp only [Int.toNat_natCast]
  clear hown hr hk hb h hz hle hzi
  unfold putV
  go_enter Tryz.func107, Tryz.ntmps107
  go_wp2_with fail
  refine ht.mono ?_
  clear ht
  rintro e w1 ⟨rfl, hw1⟩
  rw [hw1]
  clear hw1
  go_wp2_with fail
  go_loopw [11] (fun i wr => ∃ (k nn : Nat) (l : List (Int × Int)), k ≤ n ∧ i = .int .i64 k ∧ Hid (Puts w wr mb (fun x => sumN (entV z N x) k) (2 * k) l0 nn0 l nn)) (fun i _ => n - (intOf i).toNat)
  case atStart => exact ⟨0, nn0, l0, Nat.zero_le _, rfl, HP0⟩
  case round =>
    clear HP0
    obtain ⟨k, nn, l, hk, rfl, HP⟩ := hrel
    rcases Nat.lt_or_ge k n with h1 | h1
    · have hc := HROW.out _ HP.out.grow k h1
      have hkn : (k : Int) < (n : Int) := by omega
      have hzk := HZI.out k h1
      have HV : Hid (∀ x, sumN (entV z N x) (k + 1) = sumN (entV z N x) k + (z k * multI x N + -(z k) * multI x (z k).toNat)) := fun x => by
        show sumN (entV z N x) k + entV z N x k = _
        unfold entV
        rw [Int.neg_mul]; omega
      have HBD : Hid (∀ x, -1000100000000 ≤ atL l x ∧ atL l x ≤ 1000100000000) := fun x => by
        rw [HP.out.val]
        have h2 := HB.out x
        have h3 := sumN_bound (f := entV z N x) (B := 200000) (n := k) (fun i hi => entV_le x (HZI.out i (by omega)) hN6)
        have : (k : Int) * 200000 ≤ 51200000 := by omega
        omega
      have HNK := Hid.mk' (HNP.out k h1)
      obtain ⟨y, hy⟩ := Int.eq_ofNat_of_zero_le hzk.1
      rw [hy] at hc hzk HV HNK
      simp only [Int.toNat_natCast] at HV
      have hy6 : y ≤ 4096 := by have := hzk.2; omega
      have hnn1 : nn ≤ 200000 := by have := HP.out.cnt; omega
      have HP1 := Hid.mk' (Put_by den (y : Int) mb N nn l wr HP.out.own HP.out.rise HP.out.keys (fun x => by have := HBD.out x; omega) (by omega) (fun h => HNK.out h) (by omega) (by omega))
      clear hy hzk
      go_wp2_with fail
      refine HP1.out.mono ?_
      rintro e w2 ⟨rfl, l2, nn2, hp2⟩
      have hnn2 : nn2 ≤ 200020 := by have := hp2.cnt; omega
      have HP2 := Hid.mk' (Put_by den (-(y : Int)) mb y nn2 l2 w2 hp2.own hp2.rise hp2.keys (fun x => by rw [hp2.val]; have h2 := HBD.out x; have h3 := mul_weight (t := (y : Int)) (by omega) (multI_small x (n := N) (by omega)); omega) (by omega) (fun h => by omega) (by omega) (by omega))
      have HQ2 := Hid.mk' hp2
      clear hp2 HP1
      go_wp2_with fail
      refine HP2.out.mono ?_
      rintro e w3 ⟨rfl, l3, nn3, hp3⟩
      have HQ3 := Hid.mk' ((HP.out.trans (HQ2.out.trans hp3)).congr (d := 2 * (k + 1)) (by omega) (g := fun x => sumN (entV z N x) (k + 1)) (fun x => (HV.out x).symm))
      clear hp3 HP2
      go_wp2_with fail
      exact ⟨⟨k + 1, nn3, l3, h1, by go_num, HQ3⟩, by simp [intOf]; omega⟩
    · obtain rfl : k = n := by omega
      go_wp2_with fail
      go_end0
      exact ⟨rfl, l, nn, HP.out⟩
end Go.Proofs.YtphecjjblnnjdaaGreatDoor

/- The document's Entropy of a Wide, and EntropyOf. -/
namespace Go.Proofs.YtphecjjblnnjdaaGreatDoor
open Go.RowKit

/-- A Wide to which f came, in at most c calls. -/
structure WPuts (base M B : Nat) (W0 wr : World) (f : Int → Int) (c : Nat) (L0 : List Ent) (vp vc : Value) (L : List Ent) : Prop where
  wide : WideAt base M wr B vp vc L
  rise : Rising (absL L)
  val : ∀ x, atL (absL L) x = atL (absL L0) x + f x
  len : L.length ≤ L0.length + 20 * c
  kept : IntsKept W0 wr
  moved : Moved B W0 wr
  below : Below base W0 wr
theorem WPuts.trans {base M B : Nat} {W0 W1 W2 : World} {f g : Int → Int} {c d : Nat} {L0 L1 L2 : List Ent} {vp vc vp' vc' : Value} (h : WPuts base M B W0 W1 f c L0 vp vc L1) (k : WPuts base M B W1 W2 g d L1 vp' vc' L2) : WPuts base M B W0 W2 (fun x => f x + g x) (c + d) L0 vp' vc' L2 :=
  ⟨k.wide, k.rise, fun x => by rw [k.val, h.val]; omega, by have := h.len; have := k.len; omega, h.kept.trans k.kept, h.moved.trans k.moved, h.below.trans k.below⟩
theorem WPuts.congr {base M B : Nat} {W0 W1 : World} {f g : Int → Int} {c d : Nat} {L0 L1 : List Ent} {vp vc : Value} (h : WPuts base M B W0 W1 f c L0 vp vc L1) (hc : c ≤ d) (he : ∀ x, f x = g x) : WPuts base M B W0 W1 g d L0 vp vc L1 :=
  ⟨h.wide, h.rise, fun x => by rw [h.val, he], by have := h.len; omega, h.kept, h.moved, h.below⟩
theorem WPuts.later {base M B : Nat} {W0 W1 W2 : World} {f : Int → Int} {c : Nat} {L0 L1 : List Ent} {vp vc : Value} (h : WPuts base M B W0 W1 f c L0 vp vc L1) (hb : Below W1.heap.size W1 W2) : WPuts base M B W0 W2 f c L0 vp vc L1 :=
  ⟨h.wide.later hb, h.rise, h.val, h.len, h.kept.trans (IntsKept.of_below hb), h.moved.trans (Moved.of_below hb h.wide.lt), h.below.trans (hb.mono (by have := h.wide.hB; have := h.wide.lt; omega))⟩
theorem WPuts.start {base M B : Nat} {W0 : World} {L : List Ent} {vp vc : Value} (h : WideAt base M W0 B vp vc L) (hr : Rising (absL L)) {f : Int → Int} (hf : ∀ x, f x = 0) (c : Nat) : WPuts base M B W0 W0 f c L vp vc L :=
  ⟨h, hr, fun x => by rw [hf]; omega, by omega, IntsKept.refl _, Moved.refl _ _, Below.refl _ _⟩
/-- Number, in these words. -/
theorem Number_by (base M B n0 : Nat) (z : Int) (cv vp vc : Value) (L : List Ent) (w : World) (hW : WideAt base M w B vp vc L) (hc : RatioAt w cv (lowN M z) (lowD M z)) (hM : 0 < M) (hM6 : M ≤ 4096) (hr : Rising (absL L)) (hlen : L.length ≤ 90000) (hn1 : 1 ≤ n0) (hn6 : n0 ≤ 1000000) (hb : ∀ x, -1000000000000000 ≤ atL (absL L) x ∧ atL (absL L) x ≤ 1000000000000000) (hz : -1000000 ≤ z ∧ z ≤ 1000000) :
    Calls Tryz.prog 19 #[.pointer (some ⟨B, 0, none⟩), .int .i64 n0, cv] w fun e w' => e = .returned (.tuple #[]) ∧ ∃ vp' vc' L', WPuts base M B w w' (fun x => z * multI x n0) 1 L vp' vc' L' := by
  have p3 : (1000000 : Nat) ^ 3 = 1000000000000000000 := by decide
  refine (Number_any base M B n0 z cv vp vc L 3 w hW hc hM hr hlen hn1 hn6 (fun x => by rw [p3]; have := hb x; omega) (by rw [p3]; omega) (by decide)).mono ?_
  rintro e w' ⟨rfl, vp', vc', L', k, h⟩
  have hk := h.cnt_le (by decide) hn6
  refine ⟨rfl, vp', vc', L', h.wide, h.rise, fun x => ?_, by have := h.len; omega, h.kept, h.moved, h.below⟩
  have := h.val x
  rw [multI_one, Int.mul_zero, Int.add_zero] at this
  exact this

/-- A fraction in a box. -/
structure RBox (W0 W : World) (B : Nat) (n : Int) (d : Nat) : Prop where
  below : Below W0.heap.size W0 W
  hB : W0.heap.size ≤ B
  box : ∃ s ad l cap ad' l' cap', W.cell? ⟨B, 0, none⟩ = some (.bool s) ∧ W.cell? ⟨B, 1, none⟩ = some (.slice ad l cap) ∧ W.cell? ⟨B, 2, none⟩ = some (.slice ad' l' cap') ∧ RatioAt W (.agg #[.bool s, .slice ad l cap, .slice ad' l' cap']) n d
theorem rBox_late {W0 W : World} {n : Int} {d : Nat} {s : Bool} {ad ad' : Option Addr} {l cap l' cap' : Nat} (h : Below W0.heap.size W0 W) (hr : RatioAt W (.agg #[.bool s, .slice ad l cap, .slice ad' l' cap']) n d) : RBox W0 (W.alloc (.cells #[.bool s, .slice ad l cap, .slice ad' l' cap'] 54)) W.heap.size n d :=
  ⟨more_below h _, h.size, s, ad, l, cap, ad', l', cap', by simp, by simp, by simp, hr.later (new_below _ _)⟩
theorem rBox_soon {W0 W : World} {B : Nat} {n : Int} {d : Nat} {s : Bool} {ad ad' : Option Addr} {l cap l' cap' : Nat} (h : Below W0.heap.size W0 W) (hr : RatioAt W (.agg #[.bool s, .slice ad l cap, .slice ad' l' cap']) n d) (hn : NewBox3 W0 W B) : RBox W0 (((W.setCell ⟨B, 0, none⟩ (.bool s)).setCell ⟨B, 1, none⟩ (.slice ad l cap)).setCell ⟨B, 2, none⟩ (.slice ad' l' cap')) B n d := by
  refine ⟨below_set3 h hn.hB _ _ _, hn.hB, s, ad, l, cap, ad', l', cap', ?_, ?_, ?_, ?_⟩
  · rw [World.cell?_setCell_other _ _ _ _ (by simp), World.cell?_setCell_other _ _ _ _ (by simp)]; exact World.cell?_setCell_same _ _ _ hn.c0
  · rw [World.cell?_setCell_other _ _ _ _ (by simp)]; exact World.cell?_setCell_same _ _ _ (by rw [World.cell?_setCell_other _ _ _ _ (by simp)]; exact hn.c1)
  · exact World.cell?_setCell_same _ _ _ (by rw [World.cell?_setCell_other _ _ _ _ (by simp), World.cell?_setCell_other _ _ _ _ (by simp)]; exact hn.c2)
  · obtain ⟨u, q, hv, hu, hq⟩ := hr
    have hv' := hv
    simp only [Value.agg.injEq, Array.mk.injEq, List.cons.injEq, and_true] at hv'
    obtain ⟨_, rfl, rfl⟩ := hv'
    exact ⟨_, _, hv, hu.set3 hn.no hn.c0 hn.c1, hq.set3 hn.no hn.c0 hn.c1⟩
theorem RatioOf_low (x : Int) (n : Nat) (w : World) (h0 : -1000000 ≤ x ∧ x ≤ 1000000) (hd : 0 < n) (hd1 : n ≤ 1000000) :
    Calls Tryz.prog 20 #[.int .i64 x, .int .i64 n] w fun e w' => ∃ r, e = .returned r ∧ RatioAt w' r (lowN n x) (lowD n x) ∧ Below w.heap.size w w' := RatioOf_any x n w (by omega) (by omega) hd (by omega)
theorem low_lt {M : Nat} (hM : 0 < M) {z : Int} (hM6 : M ≤ 4096) (hz : -1000000 ≤ z ∧ z ≤ 1000000) : (lowN M z).natAbs < 1000000 ^ 3 ∧ lowD M z < 1000000 ^ 3 := by
  have p3 : (1000000 : Nat) ^ 3 = 1000000000000000000 := by decide
  have h1 := lowN_le hM z
  have h2 := lowD_le M z
  rw [p3]
  omega
/-- A chance of a chance. -/
theorem Times_low (M n : Nat) (x : Int) (c r : Value) (w : World) (hc : RatioAt w c (lowN M n) (lowD M n)) (hr : RatioAt w r (lowN n x) (lowD n x)) (hM : 0 < M) (hM6 : M ≤ 4096) (hn : 0 < n) (hn6 : n ≤ 4096) (hx : -1000000 ≤ x ∧ x ≤ 1000000) :
    Calls Tryz.prog 56 #[c, r] w fun e w' => ∃ r', e = .returned r' ∧ RatioAt w' r' (lowN M x) (lowD M x) ∧ Below w.heap.size w w' := by
  have l1 := low_lt hM (z := (n : Int)) hM6 (by omega)
  have l2 := low_lt hn (z := x) hn6 hx
  have h := Times_ratio c r _ _ _ _ 3 w hc hr (lowD_pos hM _) (lowD_pos hn _) l1.1 l2.1 l1.2 l2.2 (by decide)
  have e := low_times hM hn x
  rw [e.1, e.2] at h
  exact h
/-- What is less than nothing. -/
theorem Minus_low (M : Nat) (x : Int) (o r : Value) (w : World) (ho : RatioAt w o (lowN 1 0) (lowD 1 0)) (hr : RatioAt w r (lowN M x) (lowD M x)) (hM : 0 < M) (hM6 : M ≤ 4096) (hx : -1000000 ≤ x ∧ x ≤ 1000000) :
    Calls Tryz.prog 40 #[o, r] w fun e w' => ∃ r', e = .returned r' ∧ RatioAt w' r' (lowN M (-x)) (lowD M (-x)) ∧ Below w.heap.size w w' := by
  have l2 := low_lt hM (z := x) hM6 hx
  have l1 := low_lt (M := 1) (by decide) (z := 0) (by decide) (by omega)
  rw [(low_one 0).1, (low_one 0).2] at ho l1
  have h := Minus_ratio o r 0 _ 1 _ 3 w ho hr (by decide) (lowD_pos hM _) l1.1 l2.1 l1.2 l2.2 (by decide)
  have e := low_minus hM x
  rw [e.1, e.2] at h
  exact h
end Go.Proofs.YtphecjjblnnjdaaGreatDoor

/- The document's Entropy of a Wide. -/
namespace Go.Proofs.YtphecjjblnnjdaaGreatDoor
open Go.RowKit

theorem RowAt.kept {w w' : World} {b o n : Nat} {z : Nat → Int} (h : RowAt w b o n z) (hk : IntsKept w w') : RowAt w' b o n z := fun i hi => hk _ _ (h i hi)

set_option maxRecDepth 100000 in
set_option maxHeartbeats 4000000 in
theorem WEntropy_some (base M B b o cap n N : Nat) (z : Nat → Int) (cv vp vc : Value) (L : List Ent) (w : World) (hW : WideAt base M w B vp vc L) (hc : RatioAt w cv (lowN M N) (lowD M N)) (hM : 0 < M) (hM6 : M ≤ 4096) (hr : Rising (absL L)) (hlen : L.length ≤ 40000)
    (hbd : ∀ x, -100000000000000 ≤ atL (absL L) x ∧ atL (absL L) x ≤ 100000000000000) (h : RowAt w b o n z) (hz : ∀ i, i < n → 0 ≤ z i) (hN : sumN z n = N) (hN1 : 1 ≤ N) (hN6 : N ≤ 4096) (hn : n ≤ 256) :
    Calls Tryz.prog 21 #[.pointer (some ⟨B, 0, none⟩), .slice (some ⟨b, o, none⟩) n cap, cv] w fun e w' => e = .returned (.tuple #[]) ∧ ∃ vp' vc' L', WPuts base M B w w' (fun x => sumN (entV z N x) n) (2 * n) L vp' vc' L' := by
  obtain ⟨s, ad, l, ca, ad', l', ca', rfl⟩ := hc.parts
  have hzi : ∀ i, i < n → 0 ≤ z i ∧ z i ≤ 4096 := fun i hi => ⟨hz i hi, by have := sumN_ge hz hi; omega⟩
  have hle : ∀ k, k ≤ n → 0 ≤ sumN z k ∧ sumN z k ≤ 4096 := fun k hk => ⟨sumN_nonneg (fun i hi => hz i (by omega)), by have := sumN_mono hz hk; omega⟩
  obtain ⟨W0, hW0⟩ : ∃ W0, W0 = w.alloc (.cells #[.bool s, .slice ad l ca, .slice ad' l' ca'] 54) := ⟨_, rfl⟩
  have hb0 : Below w.heap.size w W0 := by rw [hW0]; exact new_below _ _
  have hnm0 := hW.not_mine' hb0 (Nat.le_refl _)
  have HC : Hid (∀ wr, Moved B W0 wr → wr.cell? ⟨w.heap.size, 0, none⟩ = some (.bool s) ∧ wr.cell? ⟨w.heap.size, 1, none⟩ = some (.slice ad l ca) ∧ wr.cell? ⟨w.heap.size, 2, none⟩ = some (.slice ad' l' ca')) := fun wr hm => by
    have hlt : w.heap.size < W0.heap.size := by rw [hW0]; simp
    refine ⟨?_, ?_, ?_⟩
    · rw [hm.cell hlt hnm0, hW0]; simp
    · rw [hm.cell hlt hnm0, hW0]; simp
    · rw [hm.cell hlt hnm0, hW0]; simp
  have HI0 : Hid (WPuts base M B w W0 (fun x => sumN (entV z N x) 0) (2 * 0) L vp vc L) := (WPuts.start hW hr (fun x => rfl) 0).later hb0
  have HM0 : Hid (Moved B W0 W0) := Moved.refl _ _
  have hS := Sum_some b o cap n z W0 (h.later hb0) (fun k hk => by have := hle k hk; omega) (fun i hi => by have := hzi i hi; omega) (by omega)
  rw [hN] at hS
  have HR := Hid.mk' h
  have HRA := Hid.mk' hc
  have HW0 := Hid.mk' hW0
  have HZI := Hid.mk' hzi
  have HBD := Hid.mk' hbd
  clear hW hc hr hbd h hz hzi hle hN hW0 hb0 hnm0
  go_enter Tryz.func21, Tryz.ntmps21
  go_upto_region 1 with fail
  rw [← HW0.out]
  go_wp2_with (go_at_call 37; refine hS.mono ?_; rintro e w1 ⟨rfl, hw1⟩; rw [hw1]; clear hw1)
  go_loopw [7, 8] (fun t _ wr => ∃ (k : Nat) (vp1 vc1 : Value) (L1 : List Ent), k ≤ n ∧ t = .int .i64 k ∧ Hid (WPuts base M B w wr (fun x => sumN (entV z N x) k) (2 * k) L vp1 vc1 L1) ∧ Hid (Moved B W0 wr)) (fun t _ _ => n - (intOf t).toNat)
  case atStart => exact ⟨0, vp, vc, L, by omega, rfl, HI0, HM0⟩
  case round =>
    clear HI0 HM0 hS
    obtain ⟨k, vp1, vc1, L1, hk, rfl, HI, HMV⟩ := hrel
    rcases Nat.lt_or_ge k n with h1 | h1
    · have hcell := HR.out.kept HI.out.kept k h1
      have hkn : (k : Int) < (n : Int) := by omega
      have hzk := HZI.out k h1
      have HV : Hid (∀ x, sumN (entV z N x) (k + 1) = sumN (entV z N x) k + (z k * multI x N + -(z k) * multI x (z k).toNat)) := fun x => by
        show sumN (entV z N x) k + entV z N x k = _
        unfold entV
        rw [Int.neg_mul]; omega
      have HB1 : Hid (∀ x, -100000100000000 ≤ atL (absL L1) x ∧ atL (absL L1) x ≤ 100000100000000) := fun x => by
        rw [HI.out.val]
        have h2 := HBD.out x
        have h3 := sumN_bound (f := entV z N x) (B := 200000) (n := k) (fun i hi => entV_le x (HZI.out i (by omega)) hN6)
        have : (k : Int) * 200000 ≤ 51200000 := by omega
        omega
      have hlen1 : L1.length ≤ 60000 := by have := HI.out.len; omega
      obtain ⟨y, hy⟩ := Int.eq_ofNat_of_zero_le hzk.1
      rw [hy] at hcell hzk HV
      simp only [Int.toNat_natCast] at HV
      have hy6 : y ≤ 4096 := by have := hzk.2; omega
      clear hy hzk
      by_cases hy0 : y = 0
      · subst hy0
        have HV0 : Hid (∀ x, sumN (entV z N x) k = sumN (entV z N x) (k + 1)) := fun x => by rw [HV.out x]; simp
        clear HV
        go_wp2_with fail
        exact ⟨⟨k + 1, vp1, vc1, L1, h1, by go_num, HI.out.congr (by omega) HV0.out, HMV⟩, by simp [intOf]; omega⟩
      · have hyI : ¬ (y : Int) = 0 := by omega
        have hyb : ((y : Int) == 0) = false := by simpa using hy0
        obtain ⟨c0, c1, c2⟩ := HC.out wr HMV.out
        have hBw := HI.out.wide.lt
        have HKS : Hid (∀ W, Below wr.heap.size wr W → (W.cell? ⟨w.heap.size, 0, none⟩ = some (.bool s) ∧ W.cell? ⟨w.heap.size, 1, none⟩ = some (.slice ad l ca) ∧ W.cell? ⟨w.heap.size, 2, none⟩ = some (.slice ad' l' ca')) ∧ W.cell? ⟨b, o + k, none⟩ = some (.int .i64 (y : Int))) := fun W hb => ⟨HC.out W (HMV.out.trans (Moved.of_below hb hBw)), (cell_past hcell hb).2⟩
        have HTI : Hid (∀ (W : World) (r : Value), Below wr.heap.size wr W → RatioAt W r (lowN N y) (lowD N y) → Calls Tryz.prog 56 #[.agg #[.bool s, .slice ad l ca, .slice ad' l' ca'], r] W fun e w' => ∃ r', e = .returned r' ∧ RatioAt w' r' (lowN M y) (lowD M y) ∧ Below W.heap.size W w') := fun W r hb hr' =>
          Times_low M N y _ r W (HRA.out.kept (HI.out.kept.trans (IntsKept.of_below hb))) hr' hM hM6 hN1 hN6 (by omega)
        have HRO : Hid (∀ W, Calls Tryz.prog 20 #[.int .i64 (y : Int), .int .i64 N] W fun e w' => ∃ r, e = .returned r ∧ RatioAt w' r (lowN N y) (lowD N y) ∧ Below W.heap.size W w') := fun W => RatioOf_low y N W (by omega) hN1 (by omega)
        have hcur0 : Below wr.heap.size wr wr := Below.refl _ _
        have hcur : Below wr.heap.size wr wr.drew := (Below.refl _ _).drew
        have hcurA : ∀ X, Below wr.heap.size wr (wr.alloc X).drew := fun X => (new_below _ _).drew
        go_upto_region 6 with fail
        clear c0 c1 c2 hcell
        go_cut [8] from 22 to 42 (fun s' wx => ∃ Bs : Nat, s' = .pointer (some ⟨Bs, 0, none⟩) ∧ Hid (RBox wr wx Bs (lowN M y) (lowD M y)))
        case first =>
          go_region_held3 (fun W => (W.cell? ⟨w.heap.size, 0, none⟩ = some (.bool s) ∧ W.cell? ⟨w.heap.size, 1, none⟩ = some (.slice ad l ca) ∧ W.cell? ⟨w.heap.size, 2, none⟩ = some (.slice ad' l' ca')) ∧ W.cell? ⟨b, o + k, none⟩ = some (.int .i64 (y : Int)))
            (first | exact HKS.out _ hcur0 | exact HKS.out _ hcur | exact HKS.out _ (hcurA _) | (refine HKS.out _ ?_; assumption) | (refine HKS.out _ (more_below ?_ _); assumption) | (refine HKS.out _ (below_set3 ?_ NB.hB _ _ _); assumption))
            (first
              | (go_at_call 56; refine (HTI.out _ _ ?_ (HX1.out _ ?_)).mono ?_; (first | exact hbw1 | exact more_below hbw1 _); (first | exact Below.refl _ _ | exact new_below _ _); rintro e w7 ⟨rv, rfl, hrv, hb7⟩; obtain ⟨sg, ad8, l8, cap8, ad9, l9, cap9, rfl⟩ := hrv.parts; (first | (have hbw7 := below_chain hbw1 hb7; try have NB := NB.later hb7) | (have hbw7 := below_chain (more_below hbw1 _) hb7; have NB := newBox3_of hbw1 hb7)); (try (have y0 := NB.c0; have y1 := NB.c1; have y2 := NB.c2; have y3 := NB.f0; have y4 := NB.f1; have y5 := NB.f2)); have HRV := Hid.mk' hrv; clear hrv hb7)
              | (go_at_call 20; refine (HRO.out _).mono ?_; rintro e w5 ⟨r5, rfl, hr5, hb5⟩; obtain ⟨sg5, ad5, l5, cap5, ad6, l6, cap6, rfl⟩ := hr5.parts; (first | have hbw1 := below_chain hcur hb5 | (have hbw1 := below_chain (hcurA _) hb5; have NB := newBox3_of hcur0 (below_chain ((Below.refl _ _).drew) hb5))); have HX1 : Hid (∀ W, Below w5.heap.size w5 W → RatioAt W (.agg #[.bool sg5, .slice ad5 l5 cap5, .slice ad6 l6 cap6]) (lowN N y) (lowD N y)) := (fun W hb => hr5.later hb); clear hr5 hb5))
          all_goals
            go_wp2_with fail
            go_meet
            first | exact ⟨_, rfl, rBox_late hbw7 HRV.out⟩ | exact ⟨_, rfl, rBox_soon hbw7 HRV.out NB⟩
        case rest =>
        obtain ⟨Bs, rfl, HRB⟩ := hcut
        obtain ⟨Wc, hWc⟩ : ∃ Wc, Wc = wc := ⟨_, rfl⟩
        rw [← hWc] at HRB ⊢
        clear hWc hcur0 hcur hcurA HTI HRO
        obtain ⟨sg, ad8, l8, cap8, ad9, l9, cap9, x0, x1, x2, hrat⟩ := HRB.out.box
        have HIc := Hid.mk' (HI.out.later HRB.out.below)
        have HNM : Hid (¬ Mine B Wc Bs) := HI.out.wide.not_mine' HRB.out.below HRB.out.hB
        have hnum := Number_by base M B N (y : Int) _ vp1 vc1 L1 Wc HIc.out.wide hrat hM hM6 HIc.out.rise (by omega) hN1 (by omega) (fun x => by have := HB1.out x; omega) (by omega)
        have HX0 := Hid.mk' (And.intro x0 (And.intro x1 x2))
        have HRT := Hid.mk' hrat
        have HCE := Hid.mk' (HKS.out Wc HRB.out.below).2
        have HBL : Hid (Bs < Wc.heap.size) := cell_lt x0
        clear hrat
        go_wp2_with fail
        refine hnum.mono ?_
        clear hnum x0 x1 x2
        rintro e w2 ⟨rfl, vp2, vc2, L2, hwp2⟩
        have HK2 : Hid (∀ W, IntsKept w2 W → Moved B w2 W → (W.cell? ⟨Bs, 0, none⟩ = some (.bool sg) ∧ W.cell? ⟨Bs, 1, none⟩ = some (.slice ad8 l8 cap8) ∧ W.cell? ⟨Bs, 2, none⟩ = some (.slice ad9 l9 cap9)) ∧ W.cell? ⟨b, o + k, none⟩ = some (.int .i64 (y : Int))) := fun W hk' hm' => by
          have hm := hwp2.moved.trans hm'
          refine ⟨⟨?_, ?_, ?_⟩, hk' _ _ (hwp2.kept _ _ HCE.out)⟩
          · rw [hm.cell HBL.out HNM.out]; exact HX0.out.1
          · rw [hm.cell HBL.out HNM.out]; exact HX0.out.2.1
          · rw [hm.cell HBL.out HNM.out]; exact HX0.out.2.2
        have hBw2 := hwp2.wide.lt
        have HKS2 : Hid (∀ W, Below w2.heap.size w2 W → (W.cell? ⟨Bs, 0, none⟩ = some (.bool sg) ∧ W.cell? ⟨Bs, 1, none⟩ = some (.slice ad8 l8 cap8) ∧ W.cell? ⟨Bs, 2, none⟩ = some (.slice ad9 l9 cap9)) ∧ W.cell? ⟨b, o + k, none⟩ = some (.int .i64 (y : Int))) := fun W hb => HK2.out W (IntsKept.of_below hb) (Moved.of_below hb hBw2)
        have HRZ : Hid (∀ W, Calls Tryz.prog 20 #[.int .i64 0, .int .i64 1] W fun e w' => ∃ r, e = .returned r ∧ RatioAt w' r (lowN 1 0) (lowD 1 0) ∧ Below W.heap.size W w') := fun W => RatioOf_low 0 1 W (by omega) (by omega) (by omega)
        have HMI : Hid (∀ (W : World) (r : Value), Below w2.heap.size w2 W → RatioAt W r (lowN 1 0) (lowD 1 0) → Calls Tryz.prog 40 #[r, .agg #[.bool sg, .slice ad8 l8 cap8, .slice ad9 l9 cap9]] W fun e w' => ∃ r', e = .returned r' ∧ RatioAt w' r' (lowN M (-(y : Int))) (lowD M (-(y : Int))) ∧ Below W.heap.size W w') := fun W r hb hr' =>
          Minus_low M y r _ W hr' (HRT.out.kept (hwp2.kept.trans (IntsKept.of_below hb))) hM hM6 (by omega)
        have hl2 : L2.length ≤ 60020 := by have := hwp2.len; omega
        have HNU : Hid (∀ (W : World) (r : Value), Below w2.heap.size w2 W → RatioAt W r (lowN M (-(y : Int))) (lowD M (-(y : Int))) → Calls Tryz.prog 19 #[.pointer (some ⟨B, 0, none⟩), .int .i64 (y : Int), r] W fun e w' => e = .returned (.tuple #[]) ∧ (∃ vp' vc' L', WPuts base M B w w' (fun x => sumN (entV z N x) (k + 1)) (2 * (k + 1)) L vp' vc' L') ∧ IntsKept w2 w' ∧ Moved B w2 w') := fun W r hb hr' => by
          have hw' := hwp2.later hb
          refine (Number_by base M B y (-(y : Int)) r vp2 vc2 L2 W hw'.wide hr' hM hM6 hw'.rise (by omega) (by omega) (by omega) (fun x => by rw [hw'.val]; have h2 := HB1.out x; have h3 := mul_weight (t := (y : Int)) (by omega) (multI_small x (n := N) (by omega)); omega) (by omega)).mono ?_
          rintro e w' ⟨rfl, vp', vc', L', hq⟩
          exact ⟨rfl, ⟨vp', vc', L', ((HIc.out.trans hw').trans hq).congr (by omega) (fun x => by rw [HV.out x]; omega)⟩, (IntsKept.of_below hb).trans hq.kept, (Moved.of_below hb hBw2).trans hq.moved⟩
        have HMB : Hid (Moved B W0 w2) := (HMV.out.trans (Moved.of_below HRB.out.below hBw)).trans hwp2.moved
        have hcur0 : Below w2.heap.size w2 w2 := Below.refl _ _
        have hcur : Below w2.heap.size w2 w2.drew := (Below.refl _ _).drew
        clear hwp2 HIc HX0 HRT HCE HKS HRB HI HV
        go_upto_region 8 with fail
        go_region_held3 (fun W => (W.cell? ⟨Bs, 0, none⟩ = some (.bool sg) ∧ W.cell? ⟨Bs, 1, none⟩ = some (.slice ad8 l8 cap8) ∧ W.cell? ⟨Bs, 2, none⟩ = some (.slice ad9 l9 cap9)) ∧ W.cell? ⟨b, o + k, none⟩ = some (.int .i64 (y : Int)))
          (first | exact HKS2.out _ hcur0 | exact HKS2.out _ hcur | exact HKS2.out _ hbw3 | exact HKS2.out _ hbw4 | exact HS5.out)
          (first
            | (go_at_call 19; refine (HNU.out _ _ hbw4 HR4.out).mono ?_; rintro e w5 ⟨rfl, ⟨vp5, vc5, L5, hq5⟩, hk5, hm5⟩; have HQ5 := Hid.mk' hq5; have HM5 := Hid.mk' hm5; have HS5 := Hid.mk' (HK2.out w5 hk5 hm5); clear hq5 hk5 hm5)
            | (go_at_call 40; refine (HMI.out _ _ hbw3 HR3.out).mono ?_; rintro e w4 ⟨r4, rfl, hr4, hb4⟩; have hbw4 := below_chain hbw3 hb4; have HR4 := Hid.mk' hr4; clear hr4 hb4)
            | (go_at_call 20; refine (HRZ.out _).mono ?_; rintro e w3 ⟨r3, rfl, hr3, hb3⟩; have hbw3 := below_chain hcur hb3; have HR3 := Hid.mk' hr3; clear hr3 hb3))
        all_goals
          go_wp2_with fail
          exact ⟨⟨k + 1, vp5, vc5, L5, h1, by go_num, HQ5, HMB.out.trans HM5.out⟩, by simp [intOf]; omega⟩
    · obtain rfl : k = n := by omega
      go_wp2_with fail
      go_end0
      exact ⟨rfl, vp1, vc1, L1, HI.out⟩
end Go.Proofs.YtphecjjblnnjdaaGreatDoor
