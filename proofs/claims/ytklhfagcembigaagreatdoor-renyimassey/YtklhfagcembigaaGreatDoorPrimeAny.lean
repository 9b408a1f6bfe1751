/- (*Wide).Prime in general. -/
import Derived.Test.YtklhfagcembigaaGreatDoorPrime
namespace Go.Proofs.YtklhfagcembigaaGreatDoor
open Go.RowKit

set_option maxRecDepth 100000 in
set_option maxHeartbeats 2000000 in
theorem Prime_none (base M B p : Nat) (z : Int) (cv : Value) (w : World) (hW : WideAt base M w B (.slice none 0 0) (.slice none 0 0) []) (hc : RatioAt w cv (lowN M z) (lowD M z)) :
    Calls Tryz.prog 61 #[.pointer (some ⟨B, 0, none⟩), .int .i64 p, cv] w fun e w' => e = .returned (.tuple #[]) ∧ ∃ vp' vc' L', WideAt base M w' B vp' vc' L' ∧ Put (absL []) (absL L') p z ∧ IntsKept w w' ∧ Moved B w w' ∧ Below base w w' := by
  obtain ⟨s, ad, l, cap, ad', l', cap', rfl⟩ := hc.parts
  have hb0 : Below w.heap.size w (w.alloc (.cells #[.bool s, .slice ad l cap, .slice ad' l' cap'] 57)) := new_below _ _
  have c0 := (hW.later hb0).cp
  have c1 := (hW.later hb0).cc
  obtain ⟨i0, hi, hz0, hz1, hz2⟩ := info_parts Tryz.infoInt
  have HINF : Hid (Tryz.prog.info? 3 = some i0 ∧ i0.zero = some (.int .i64 0) ∧ i0.size = 1 ∧ i0.bytes = 8) := ⟨hi, hz0, hz1, hz2⟩
  clear hi hz0 hz1 hz2
  obtain ⟨i3, hi, hz0, hz1, hz2⟩ := info_parts Tryz.infoRatio
  have HINR : Hid (Tryz.prog.info? 57 = some i3 ∧ i3.zero = some (.agg #[.bool false, .slice none 0 0, .slice none 0 0]) ∧ i3.size = 3 ∧ i3.bytes = 56) := ⟨hi, hz0, hz1, hz2⟩
  clear hi hz0 hz1 hz2
  have HW := Hid.mk' hW
  have HC := Hid.mk' hc
  have HWA0 := Hid.mk' (hW.later hb0)
  clear hW hc hb0
  go_enter Tryz.func61, Tryz.ntmps61
  obtain ⟨W1, hW1⟩ : ∃ W1, W1 = w.alloc (.cells #[.bool s, .slice ad l cap, .slice ad' l' cap'] 57) := ⟨_, rfl⟩
  rw [← hW1] at c0 c1 HWA0
  have HWA := HWA0
  have HW1 := Hid.mk' hW1
  clear hW1 HWA0
  go_upto_block 0 with fail
  rw [← HW1.out]
  go_wp2_with fail
  refine wp_loop_rounds 1 ?_
  rw [rounds_succ]
  go_upto_region 10 with (at_builtin; go_must (first
    | (refine wpList_append_src _ rfl _ _ _ rfl W1.heap.size 3 i0 _ 1 8 Tryz.underlying22 HINF.out.1 HINF.out.2.1 HINF.out.2.2.1 HINF.out.2.2.2 rfl (by omega) (.slice ad2 1 c2) 1 [.int .i64 (p : Int)] rfl HO3.out none 0 0 [] rfl rfl (fun j u h => by simp at h) (fun u h => by simp at h) (by unfold maxLen; omega) (by omega) HB3.out.size 1 rfl ?_; intro ad3 c3 w4 hown4 hg4; have HO4 := Hid.mk' hown4; have HB4 := Hid.mk' (HB3.out.grown hg4 HB3.out.size (fun k h => (HO3.out.lt k h).1)); have c0 := (HWA.out.later HB4.out).cp; have f0 := (HWA.out.later HB4.out).f0; clear hown4 hg4 HO3 HB3)
    | (refine wpList_append_src _ rfl _ _ _ rfl W1.heap.size 3 i0 _ 1 8 Tryz.underlying22 HINF.out.1 HINF.out.2.1 HINF.out.2.2.1 HINF.out.2.2.2 rfl (by omega) (.slice ad1 0 cp1) 0 [] rfl (HO2.out.alloc _) (some ⟨w2.heap.size, 0, none⟩) 1 1 [.int .i64 (p : Int)] rfl rfl (src_new _ _ _) (fun u hu => by simp at hu; subst hu; rfl) (by unfold maxLen; omega) (by omega) (Nat.le_trans HB2.out.size (by simp)) 1 rfl ?_; intro ad2 c2 w3 hown3 hg3; have HO3 : Hid (w3.ownsRow W1.heap.size 3 1 (.slice ad2 1 c2) 1 [.int .i64 (p : Int)]) := hown3; have HB3 := Hid.mk' (below_push HB2.out HO2.out hg3); have c0 := (HWA.out.later HB3.out).cp; clear hown3 hg3 HO2 HB2)
    | (refine wpList_append_src _ rfl _ _ _ rfl W1.heap.size 3 i0 _ 1 8 Tryz.underlying22 HINF.out.1 HINF.out.2.1 HINF.out.2.2.1 HINF.out.2.2.2 rfl (by omega) (.slice none 0 0) 0 [] rfl (World.ownsRow_nil _ _ _ _) none 0 0 [] rfl rfl (fun j u h => by simp at h) (fun u h => by simp at h) (by unfold maxLen; omega) (by omega) (Nat.le_refl _) 0 rfl ?_; intro ad1 cp1 w2 hown2 hg2; have HO2 : Hid (w2.ownsRow W1.heap.size 3 1 (.slice ad1 0 cp1) 0 []) := hown2; have HB2 := Hid.mk' ((Below.refl W1.heap.size W1).grown hg2 (Nat.le_refl _) (fun k h => by cases h)); clear hown2 hg2)))
  obtain ⟨W2, hW2⟩ : ∃ W2, W2 = w4.setCell ⟨B, 0, none⟩ (.slice ad3 1 c3) := ⟨_, rfl⟩
  have hwB : w.heap.size ≠ B := by have := HW.out.lt; omega
  have hbx : w4.cell? ⟨w.heap.size, 0, none⟩ = some (.bool s) ∧ w4.cell? ⟨w.heap.size, 1, none⟩ = some (.slice ad l cap) ∧ w4.cell? ⟨w.heap.size, 2, none⟩ = some (.slice ad' l' cap') := by
    have h1 := HB4.out
    rw [HW1.out] at h1
    exact three_new_past h1
  have HKC : Hid (∀ W, Below W2.heap.size W2 W → W.cell? ⟨B, 1, none⟩ = some (.slice none 0 0) ∧ W.frozen? ⟨B, 1, none⟩ = false ∧ (W.cell? ⟨w.heap.size, 0, none⟩ = some (.bool s) ∧ W.cell? ⟨w.heap.size, 1, none⟩ = some (.slice ad l cap) ∧ W.cell? ⟨w.heap.size, 2, none⟩ = some (.slice ad' l' cap'))) := fun W hb => by
    have h4 := HWA.out.later HB4.out
    have q1 : W2.cell? ⟨B, 1, none⟩ = some (.slice none 0 0) := by rw [hW2]; exact (cell_set0 h4.cp h4.cc).2
    have q2 : W2.frozen? ⟨B, 1, none⟩ = false := by rw [hW2, World.frozen?_setCell]; exact h4.f1
    have q4 : ∀ j v, w4.cell? ⟨w.heap.size, j, none⟩ = some v → W2.cell? ⟨w.heap.size, j, none⟩ = some v := fun j v h => by
      rw [hW2, World.cell?_setCell_far _ _ _ _ (Ne.symm hwB)]; exact h
    exact ⟨(cell_past q1 hb).2, (frozen_past q1 q2 hb).2, ⟨(cell_past (q4 _ _ hbx.1) hb).2, (cell_past (q4 _ _ hbx.2.1) hb).2, (cell_past (q4 _ _ hbx.2.2) hb).2⟩⟩
  rw [← hW2]
  have HW2 := Hid.mk' hW2
  clear hW2 hbx c0 f0 c1
  obtain ⟨c1, _, ⟨b0, b1, b2⟩⟩ := HKC.out W2 (Below.refl _ _)
  go_wp2_with (at_builtin; go_must (first
    | (refine wpList_append_src _ rfl _ _ _ rfl W2.heap.size 57 i3 _ 3 56 Tryz.underlying60 HINR.out.1 HINR.out.2.1 HINR.out.2.2.1 HINR.out.2.2.2 rfl (by omega) (.slice ad5 1 c5) 1 [.bool s, .slice ad l cap, .slice ad' l' cap'] rfl HO6.out none 0 0 [] rfl rfl (fun j u h => by simp at h) (fun u h => by simp at h) (by unfold maxLen; omega) (by omega) HB6.out.size 1 rfl ?_; intro ad6 c6 w7 hown7 hg7; have HO7 := Hid.mk' hown7; have HB7 := Hid.mk' (HB6.out.grown hg7 HB6.out.size (fun k h => (HO6.out.lt k h).1)); obtain ⟨c1, f1, _⟩ := HKC.out _ HB7.out; clear hown7 hg7 HO6 HB6)
    | (refine wpList_append_src _ rfl _ _ _ rfl W2.heap.size 57 i3 _ 3 56 Tryz.underlying60 HINR.out.1 HINR.out.2.1 HINR.out.2.2.1 HINR.out.2.2.2 rfl (by omega) (.slice ad4 0 c4) 0 [] rfl (HO5.out.alloc _) (some ⟨w5.heap.size, 0, none⟩) 1 1 [.bool s, .slice ad l cap, .slice ad' l' cap'] rfl rfl (src_new _ _ _) (fun u hu => by simp at hu; rcases hu with rfl | rfl | rfl <;> rfl) (by unfold maxLen; omega) (by omega) (Nat.le_trans HB5.out.size (by simp)) 1 rfl ?_; intro ad5 c5 w6 hown6 hg6; have HO6 : Hid (w6.ownsRow W2.heap.size 57 3 (.slice ad5 1 c5) 1 [.bool s, .slice ad l cap, .slice ad' l' cap']) := hown6; have HB6 := Hid.mk' (below_push HB5.out HO5.out hg6); obtain ⟨c1, _, _⟩ := HKC.out _ HB6.out; clear hown6 hg6 HO5 HB5)
    | (refine wpList_append_src _ rfl _ _ _ rfl W2.heap.size 57 i3 _ 3 56 Tryz.underlying60 HINR.out.1 HINR.out.2.1 HINR.out.2.2.1 HINR.out.2.2.2 rfl (by omega) (.slice none 0 0) 0 [] rfl (World.ownsRow_nil _ _ _ _) none 0 0 [] rfl rfl (fun j u h => by simp at h) (fun u h => by simp at h) (by unfold maxLen; omega) (by omega) (Nat.le_refl _) 0 rfl ?_; intro ad4 c4 w5 hown5 hg5; have HO5 : Hid (w5.ownsRow W2.heap.size 57 3 (.slice ad4 0 c4) 0 []) := hown5; have HB5 := Hid.mk' ((Below.refl W2.heap.size W2).grown hg5 (Nat.le_refl _) (fun k h => by cases h)); obtain ⟨_, _, ⟨b0, b1, b2⟩⟩ := HKC.out _ HB5.out; clear hown5 hg5)))
  obtain ⟨x1, x2, x3, x4⟩ := wide_insert (k := 0) (e := ⟨p, .bool s, .slice ad l cap, .slice ad' l' cap', z⟩) HWA.out HB4.out HO4.out HW2.out HB7.out HO7.out (by rw [HW1.out]; exact HC.out.later (new_below _ _))
  have hWb : Below w.heap.size w W1 := by rw [HW1.out]; exact new_below _ _
  go_end0
  refine ⟨rfl, _, _, _, x1, ?_, (IntsKept.of_below hWb).trans x2, (Moved.of_below hWb HW.out.lt).trans x3, (hWb.mono (by have := HW.out.hB; have := HW.out.lt; omega)).trans x4⟩
  exact put_between (k := 0) (L := []) (by simp [absL, Rising]) (fun i hi => absurd hi (by omega)) (fun h => absurd h (by simp)) ⟨(fun h => absurd h (by decide)), (fun h => absurd h.1 (by simp))⟩

/-- Prime: a prime with a coefficient comes to a sum. -/
theorem Prime_any (base M B p : Nat) (z : Int) (cv vp vc : Value) (L : List Ent) (k0 : Nat) (w : World) (hW : WideAt base M w B vp vc L) (hc : RatioAt w cv (lowN M z) (lowD M z)) (hM : 0 < M) (hr : Rising (absL L)) (hlen : L.length ≤ 100000) (hbz : z.natAbs < 1000000 ^ k0) (hbL : ∀ e ∈ L, e.z.natAbs < 1000000 ^ k0) (hbM : M < 1000000 ^ k0) (hk0 : k0 ≤ 1000) :
    Calls Tryz.prog 61 #[.pointer (some ⟨B, 0, none⟩), .int .i64 p, cv] w fun e w' => e = .returned (.tuple #[]) ∧ ∃ vp' vc' L', WideAt base M w' B vp' vc' L' ∧ Put (absL L) (absL L') p z ∧ IntsKept w w' ∧ Moved B w w' ∧ Below base w w' := by
  rcases Nat.eq_zero_or_pos L.length with h0 | hL
  · obtain rfl := List.length_eq_zero_iff.1 h0
    obtain ⟨rfl, rfl⟩ := hW.nil rfl
    exact Prime_none base M B p z cv w hW hc
  · obtain ⟨gp, capp, rfl, _⟩ := hW.P.form hL
    obtain ⟨gc, capc, rfl, _⟩ := hW.C.form hL
    exact Prime_more base M B p z cv gp gc capp capc L k0 w hW hc hM hr hL hlen hbz hbL hbM hk0
end Go.Proofs.YtklhfagcembigaaGreatDoor
