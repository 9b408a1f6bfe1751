/- (*Wide).Prime. -/
import Derived.Test.YtklhfagcembigaaGreatDoorWide
import Derived.Deep.CutBlock
namespace Go.Proofs.YtklhfagcembigaaGreatDoor
open Go.RowKit

theorem Tryz.infoRatio : (Tryz.prog.info? 57).map (fun i => (i.zero, i.size, i.bytes)) = some (some (.agg #[.bool false, .slice none 0 0, .slice none 0 0]), 3, 56) := by kernel_rfl
theorem dig_one (l : List Nat) : ∀ u ∈ digCells l, u.oneCell' = true := fun u hu => by
  unfold digCells at hu
  obtain ⟨d, _, rfl⟩ := List.mem_map.1 hu
  rfl

set_option maxRecDepth 100000 in
set_option maxHeartbeats 2000000 in
theorem Prime_more (base M B p : Nat) (z : Int) (cv : Value) (gp gc capp capc : Nat) (L : List Ent) (k0 : Nat) (w : World) (hW : WideAt base M w B (.slice (some ⟨gp, 0, none⟩) L.length capp) (.slice (some ⟨gc, 0, none⟩) L.length capc) L) (hc : RatioAt w cv (lowN M z) (lowD M z)) (hM : 0 < M) (hr : Rising (absL L)) (hL : 0 < L.length) (hlen : L.length ≤ 100000) (hbz : z.natAbs < 1000000 ^ k0) (hbL : ∀ e ∈ L, e.z.natAbs < 1000000 ^ k0) (hbM : M < 1000000 ^ k0) (hk0 : k0 ≤ 1000) :
    Calls Tryz.prog 61 #[.pointer (some ⟨B, 0, none⟩), .int .i64 p, cv] w fun e w' => e = .returned (.tuple #[]) ∧ ∃ vp' vc' L', WideAt base M w' B vp' vc' L' ∧ Put (absL L) (absL L') p z ∧ IntsKept w w' ∧ Moved B w w' ∧ Below base w w' := by
  obtain ⟨s, ad, l, cap, ad', l', cap', rfl⟩ := hc.parts
  have hb0 : Below w.heap.size w (w.alloc (.cells #[.bool s, .slice ad l cap, .slice ad' l' cap'] 57)) := new_below _ _
  have c0 := (hW.later hb0).cp
  have c1 := (hW.later hb0).cc
  have hrow : ∀ i, i < L.length → (w.alloc (.cells #[.bool s, .slice ad l cap, .slice ad' l' cap'] 57)).cell? ⟨gp, i, none⟩ = some (.int .i64 (((primes L).getD i 0 : Nat) : Int)) := fun i hi => by
    have h1 := (hW.later hb0).P.cellAt i (by omega)
    rw [h1, digCells_get (by unfold primes; simpa using hi)]
  obtain ⟨i0, hi, hz0, hz1, hz2⟩ := info_parts Tryz.infoInt
  have HINF : Hid (Tryz.prog.info? 3 = some i0 ∧ i0.zero = some (.int .i64 0) ∧ i0.size = 1 ∧ i0.bytes = 8) := ⟨hi, hz0, hz1, hz2⟩
  clear hi hz0 hz1 hz2
  obtain ⟨i3, hi, hz0, hz1, hz2⟩ := info_parts Tryz.infoRatio
  have HINR : Hid (Tryz.prog.info? 57 = some i3 ∧ i3.zero = some (.agg #[.bool false, .slice none 0 0, .slice none 0 0]) ∧ i3.size = 3 ∧ i3.bytes = 56) := ⟨hi, hz0, hz1, hz2⟩
  clear hi hz0 hz1 hz2
  have HROW := Hid.mk' hrow
  have HW := Hid.mk' hW
  have HBL := Hid.mk' hbL
  have HC := Hid.mk' hc
  have HR := Hid.mk' hr
  clear hW hc hr hrow hb0 hbL
  go_enter Tryz.func61, Tryz.ntmps61
  obtain ⟨W1, hW1⟩ : ∃ W1, W1 = w.alloc (.cells #[.bool s, .slice ad l cap, .slice ad' l' cap'] 57) := ⟨_, rfl⟩
  rw [← hW1] at c0 c1 HROW
  have HW1 := Hid.mk' hW1
  clear hW1
  go_upto_block 0 with fail
  rw [← HW1.out]
  go_cut [6] from 9 (fun t wx => ∃ k : Nat, t = .int .i64 k ∧ k ≤ L.length ∧ Hid (∀ i, i < k → (primes L).getD i 0 < p) ∧ Hid (k < L.length → p ≤ (primes L).getD k 0) ∧ wx = W1)
  case first =>
    go_wp2_with fail
    go_loopw [6] (fun t wr => ∃ k : Nat, t = .int .i64 k ∧ k ≤ L.length ∧ Hid (∀ i, i < k → (primes L).getD i 0 < p) ∧ wr = W1) (fun t _ => L.length - (intOf t).toNat)
    case atStart => exact ⟨0, rfl, by omega, Hid.mk' (fun i hi => absurd hi (by omega)), rfl⟩
    case round =>
      obtain ⟨k, rfl, hk, HLT, rfl⟩ := hrel
      by_cases hkn : k < L.length
      · have hck := HROW.out k hkn
        obtain ⟨q, hq⟩ : ∃ q, (primes L).getD k 0 = q := ⟨_, rfl⟩
        rw [hq] at hck
        have HQ := Hid.mk' hq
        clear hq
        have hkI : (k : Int) < (L.length : Int) := by omega
        have hk0 : (0 : Int) ≤ (k : Int) := by omega
        by_cases hqp : q < p
        · have hqI : (q : Int) < (p : Int) := by omega
          go_wp2_with fail
          go_roundw
          case measure => simp [intOf]; omega
          case rel =>
            refine ⟨k + 1, by simp, by omega, Hid.mk' (fun i hi => ?_), by simp⟩
            rcases Nat.lt_or_ge i k with h | h
            · exact HLT.out i h
            · obtain rfl : i = k := by omega
              rw [HQ.out]; exact hqp
        · have hqI : ¬ (q : Int) < (p : Int) := by omega
          go_wp2_with fail
          go_meet
          exact ⟨k, rfl, hk, HLT, Hid.mk' (fun _ => by rw [HQ.out]; omega), rfl⟩
      · have hkI : ¬ (k : Int) < (L.length : Int) := by omega
        go_wp2_with fail
        go_meet
        exact ⟨k, rfl, hk, HLT, Hid.mk' (fun h => absurd h hkn), rfl⟩
  case rest =>
    obtain ⟨k, rfl, hk, HLT, HGE, hwc⟩ := hcut
    rw [hwc]
    clear hwc
    go_upto_region 4 with fail
    go_cut [46] from 29 (fun t wx => ∃ b : Bool, t = .bool b ∧ Hid (b = true ↔ (k < L.length ∧ (primes L).getD k 0 = p)) ∧ wx = W1)
    case first =>
      by_cases hkn : k < L.length
      · have hck := HROW.out k hkn
        obtain ⟨q, hq⟩ : ∃ q, (primes L).getD k 0 = q := ⟨_, rfl⟩
        rw [hq] at hck
        have HQ := Hid.mk' hq
        clear hq
        have hkI : (k : Int) < (L.length : Int) := by omega
        have hk0 : (0 : Int) ≤ (k : Int) := by omega
        by_cases hqp : q = p
        · have hqI : (q : Int) = (p : Int) := by omega
          go_wp2_with fail
          go_meet
          exact ⟨true, rfl, Hid.mk' ⟨fun _ => ⟨hkn, by rw [HQ.out]; exact hqp⟩, fun _ => rfl⟩, rfl⟩
        · have hqI : ¬ (q : Int) = (p : Int) := by omega
          go_wp2_with fail
          go_meet
          exact ⟨false, by simp; omega, Hid.mk' ⟨(fun h => absurd h (by decide)), (fun h => absurd (HQ.out.symm.trans h.2) hqp)⟩, rfl⟩
      · have hkI : ¬ (k : Int) < (L.length : Int) := by omega
        go_wp2_with fail
        go_meet
        exact ⟨false, rfl, Hid.mk' ⟨(fun h => absurd h (by decide)), (fun h => absurd h.1 hkn)⟩, rfl⟩
    case rest =>
      obtain ⟨bf, rfl, HF, hwc⟩ := hcut
      rw [hwc]
      clear hwc
      cases bf
      · have hkI : (k : Int) ≤ (L.length : Int) := by omega
        have hk0 : (0 : Int) ≤ (k : Int) := by omega
        have HWA : Hid (WideAt base M W1 B (.slice (some ⟨gp, 0, none⟩) L.length capp) (.slice (some ⟨gc, 0, none⟩) L.length capc) L) := by
          rw [HW1.out]; exact HW.out.later (new_below _ _)
        have hcapp : L.length ≤ capp := by
          rcases HWA.out.P.2 with ⟨h, _⟩ | ⟨g, c, cur, h, _, _, hle, _⟩
          · cases h
          · have : capp = c := by injection h
            omega
        have hcapc : L.length ≤ capc := by
          rcases HWA.out.C.2 with ⟨h, _⟩ | ⟨g, c, cur, h, _, _, hle, _⟩
          · cases h
          · have : capc = c := by injection h
            omega
        have hcpI : (L.length : Int) ≤ (capp : Int) := by omega
        have hccI : (L.length : Int) ≤ (capc : Int) := by omega
        have hlp : (primes L).length = L.length := by unfold primes; simp
        have hdc : (digCells ((primes L).take k)).length = k * 1 := by rw [digCells_length, List.length_take]; omega
        have hdd : (digCells ((primes L).drop k)).length = (L.length - k) * 1 := by rw [digCells_length, List.length_drop]; omega
        have HDC := Hid.mk' hdc
        have HDD := Hid.mk' hdd
        have HS1 : Hid (∀ j u, (digCells ((primes L).take k))[j]? = some u → ∃ a', some (⟨gp, 0, none⟩ : Addr) = some a' ∧ W1.cell? (a'.add j) = some u) := by
          have h1 := HWA.out.P
          rw [dig_cut _ k] at h1
          exact src_left h1
        have HS3 : Hid (∀ W, Below W1.heap.size W1 W → ∀ j u, (digCells ((primes L).drop k))[j]? = some u → ∃ a', (if capp = k then some (⟨gp, 0, none⟩ : Addr) else some ⟨gp, k, none⟩) = some a' ∧ W.cell? (a'.add j) = some u) := fun W hb => by
          have h1 := (HWA.out.later hb).P
          rw [dig_cut _ k] at h1
          exact src_right_if h1 (by omega) (fun h => List.length_eq_zero_iff.1 (by rw [hdd]; omega))
        have HF3 : Hid ((flat3 (L.take k)).length = k * 3 ∧ (flat3 (L.drop k)).length = (L.length - k) * 3) := ⟨by rw [flat3_length, List.length_take]; omega, by rw [flat3_length, List.length_drop]⟩
        have HONE : Hid ((∀ u ∈ flat3 (L.take k), u.oneCell' = true) ∧ ∀ u ∈ flat3 (L.drop k), u.oneCell' = true) := by
          have h1 := HWA.out.no_ints
          rw [flat3_take L k] at h1
          exact ⟨fun u hu => (h1 u (List.mem_append_left _ hu)).2, fun u hu => (h1 u (List.mem_append_right _ hu)).2⟩
        have HROWC : Hid (∀ W : World, W.ownsRow base 57 3 (.slice (some ⟨gc, 0, none⟩) L.length capc) L.length (flat3 L) → (∀ j u, (flat3 (L.take k))[j]? = some u → ∃ a', some (⟨gc, 0, none⟩ : Addr) = some a' ∧ W.cell? (a'.add j) = some u) ∧ ∀ j u, (flat3 (L.drop k))[j]? = some u → ∃ a', (if capc = k then some (⟨gc, 0, none⟩ : Addr) else some ⟨gc, k * 3, none⟩) = some a' ∧ W.cell? (a'.add j) = some u) := fun W h1 => by
          rw [flat3_take L k] at h1
          exact ⟨src_left h1, src_right_if h1 HF3.out.1 (fun h => List.length_eq_zero_iff.1 (by rw [HF3.out.2]; omega))⟩
        clear hlp hdc hdd
        go_upto_region 10 with (at_builtin; go_must (first
          | (refine wpList_append_src _ rfl _ _ _ rfl W1.heap.size 3 i0 _ 1 8 Tryz.underlying22 HINF.out.1 HINF.out.2.1 HINF.out.2.2.1 HINF.out.2.2.2 rfl (by omega) (.slice ad2 (k + 1) c2) (k + 1) (digCells ((primes L).take k) ++ [.int .i64 (p : Int)]) rfl HO3.out (if capp = k then some ⟨gp, 0, none⟩ else some ⟨gp, k, none⟩) (L.length - k) (capp - k) (digCells ((primes L).drop k)) rfl HDD.out (HS3.out _ HB3.out) (dig_one _) (by unfold maxLen; omega) (by omega) HB3.out.size (L.length + 1) (by omega) ?_; intro ad3 c3 w4 hown4 hg4; have HO4 := Hid.mk' hown4; have HB4 := Hid.mk' (HB3.out.grown hg4 HB3.out.size (fun k h => (HO3.out.lt k h).1)); have c0 := (HWA.out.later HB4.out).cp; have f0 := (HWA.out.later HB4.out).f0; clear hown4 hg4 HO3 HB3)
          | (refine wpList_append_src _ rfl _ _ _ rfl W1.heap.size 3 i0 _ 1 8 Tryz.underlying22 HINF.out.1 HINF.out.2.1 HINF.out.2.2.1 HINF.out.2.2.2 rfl (by omega) (.slice ad1 k cp1) k (digCells ((primes L).take k)) rfl (HO2.out.alloc _) (some ⟨w2.heap.size, 0, none⟩) 1 1 [.int .i64 (p : Int)] rfl rfl (src_new _ _ _) (fun u hu => by simp at hu; subst hu; rfl) (by unfold maxLen; omega) (by omega) (Nat.le_trans HB2.out.size (by simp)) (k + 1) rfl ?_; intro ad2 c2 w3 hown3 hg3; have HO3 := Hid.mk' hown3; have HB3 := Hid.mk' (below_push HB2.out HO2.out hg3); have c0 := (HWA.out.later HB3.out).cp; clear hown3 hg3 HO2 HB2)
          | (refine wpList_append_src _ rfl _ _ _ rfl W1.heap.size 3 i0 _ 1 8 Tryz.underlying22 HINF.out.1 HINF.out.2.1 HINF.out.2.2.1 HINF.out.2.2.2 rfl (by omega) (.slice none 0 0) 0 [] rfl (World.ownsRow_nil _ _ _ _) (some ⟨gp, 0, none⟩) k capp (digCells ((primes L).take k)) rfl HDC.out HS1.out (dig_one _) (by unfold maxLen; omega) (by omega) (Nat.le_refl _) k (by omega) ?_; intro ad1 cp1 w2 hown2 hg2; have HO2 : Hid (w2.ownsRow W1.heap.size 3 1 (.slice ad1 k cp1) k (digCells ((primes L).take k))) := hown2; have HB2 := Hid.mk' ((Below.refl W1.heap.size W1).grown hg2 (Nat.le_refl _) (fun k h => by cases h)); clear hown2 hg2)))
        have HP4 : Hid (w4.ownsRow W1.heap.size 3 1 (.slice ad3 (L.length + 1) c3) (L.length + 1) (digCells (primes (L.take k)) ++ [.int .i64 (p : Int)] ++ digCells (primes (L.drop k)))) := by
          have h1 := HO4.out
          have e1 : (primes L).take k = primes (L.take k) := by unfold primes; rw [List.map_take]
          have e2 : (primes L).drop k = primes (L.drop k) := by unfold primes; rw [List.map_drop]
          rw [e1, e2] at h1
          exact h1
        obtain ⟨W2, hW2⟩ : ∃ W2, W2 = w4.setCell ⟨B, 0, none⟩ (.slice ad3 (L.length + 1) c3) := ⟨_, rfl⟩
        have hwB : w.heap.size ≠ B := by have := HW.out.lt; omega
        have hbx : w4.cell? ⟨w.heap.size, 0, none⟩ = some (.bool s) ∧ w4.cell? ⟨w.heap.size, 1, none⟩ = some (.slice ad l cap) ∧ w4.cell? ⟨w.heap.size, 2, none⟩ = some (.slice ad' l' cap') := by
          have h1 := HB4.out
          rw [HW1.out] at h1
          exact three_new_past h1
        have HKC : Hid (∀ W, Below W2.heap.size W2 W → W.cell? ⟨B, 1, none⟩ = some (.slice (some ⟨gc, 0, none⟩) L.length capc) ∧ W.frozen? ⟨B, 1, none⟩ = false ∧ (W.cell? ⟨w.heap.size, 0, none⟩ = some (.bool s) ∧ W.cell? ⟨w.heap.size, 1, none⟩ = some (.slice ad l cap) ∧ W.cell? ⟨w.heap.size, 2, none⟩ = some (.slice ad' l' cap')) ∧ W.ownsRow base 57 3 (.slice (some ⟨gc, 0, none⟩) L.length capc) L.length (flat3 L)) := fun W hb => by
          have h4 := HWA.out.later HB4.out
          have q1 : W2.cell? ⟨B, 1, none⟩ = some (.slice (some ⟨gc, 0, none⟩) L.length capc) := by rw [hW2]; exact (cell_set0 h4.cp h4.cc).2
          have q2 : W2.frozen? ⟨B, 1, none⟩ = false := by rw [hW2, World.frozen?_setCell]; exact h4.f1
          have hgB : gc ≠ B := fun e => by
            have h5 := h4.C.cellAt 0 (by omega)
            have h6 := h4.cp
            rw [e, h6] at h5
            obtain ⟨e0, he0⟩ : ∃ e0, L[0]? = some e0 := ⟨_, List.getElem?_eq_getElem hL⟩
            have h7 := (flat3_at L 0 e0 he0).1
            obtain ⟨s', _, _, _, _, _, _, h8, _⟩ := Ent.parts (h4.R e0 (List.mem_of_getElem? he0))
            rw [Nat.zero_mul] at h7
            rw [h7, h8] at h5
            cases h5
          have q3 : W2.ownsRow base 57 3 (.slice (some ⟨gc, 0, none⟩) L.length capc) L.length (flat3 L) := by
            rw [hW2]
            exact h4.C.kept (grownBy_set _ _ _) (Or.inr (by simp [Value.ownBlock]; exact hgB))
          have q4 : ∀ j v, w4.cell? ⟨w.heap.size, j, none⟩ = some v → W2.cell? ⟨w.heap.size, j, none⟩ = some v := fun j v h => by
            rw [hW2, World.cell?_setCell_far _ _ _ _ (Ne.symm hwB)]; exact h
          exact ⟨(cell_past q1 hb).2, (frozen_past q1 q2 hb).2, ⟨(cell_past (q4 _ _ hbx.1) hb).2, (cell_past (q4 _ _ hbx.2.1) hb).2, (cell_past (q4 _ _ hbx.2.2) hb).2⟩, ownsRow_past q3 hb⟩
        rw [← hW2]
        have HW2 := Hid.mk' hW2
        clear hW2 hbx c0 f0 c1 HO4 HS1 HS3 HDC HDD
        obtain ⟨c1, _, ⟨b0, b1, b2⟩, hrc⟩ := HKC.out W2 (Below.refl _ _)
        have HRC := Hid.mk' (HROWC.out _ hrc)
        clear hrc
        go_wp2_with (at_builtin; go_must (first
          | (refine wpList_append_src _ rfl _ _ _ rfl W2.heap.size 57 i3 _ 3 56 Tryz.underlying60 HINR.out.1 HINR.out.2.1 HINR.out.2.2.1 HINR.out.2.2.2 rfl (by omega) (.slice ad5 (k + 1) c5) (k + 1) (flat3 (L.take k) ++ [.bool s, .slice ad l cap, .slice ad' l' cap']) rfl HO6.out (if capc = k then some ⟨gc, 0, none⟩ else some ⟨gc, k * 3, none⟩) (L.length - k) (capc - k) (flat3 (L.drop k)) rfl HF3.out.2 HRC6.out.2 HONE.out.2 (by unfold maxLen; omega) (by omega) HB6.out.size (L.length + 1) (by omega) ?_; intro ad6 c6 w7 hown7 hg7; have HO7 := Hid.mk' hown7; have HB7 := Hid.mk' (HB6.out.grown hg7 HB6.out.size (fun k h => (HO6.out.lt k h).1)); obtain ⟨c1, f1, _, _⟩ := HKC.out _ HB7.out; clear hown7 hg7 HO6 HB6)
          | (refine wpList_append_src _ rfl _ _ _ rfl W2.heap.size 57 i3 _ 3 56 Tryz.underlying60 HINR.out.1 HINR.out.2.1 HINR.out.2.2.1 HINR.out.2.2.2 rfl (by omega) (.slice ad4 k c4) k (flat3 (L.take k)) rfl (HO5.out.alloc _) (some ⟨w5.heap.size, 0, none⟩) 1 1 [.bool s, .slice ad l cap, .slice ad' l' cap'] rfl rfl (src_new _ _ _) (fun u hu => by simp at hu; rcases hu with rfl | rfl | rfl <;> rfl) (by unfold maxLen; omega) (by omega) (Nat.le_trans HB5.out.size (by simp)) (k + 1) rfl ?_; intro ad5 c5 w6 hown6 hg6; have HO6 := Hid.mk' hown6; have HB6 := Hid.mk' (below_push HB5.out HO5.out hg6); obtain ⟨c1, _, _, hrc⟩ := HKC.out _ HB6.out; have HRC6 := Hid.mk' (HROWC.out _ hrc); clear hrc hown6 hg6 HO5 HB5)
          | (refine wpList_append_src _ rfl _ _ _ rfl W2.heap.size 57 i3 _ 3 56 Tryz.underlying60 HINR.out.1 HINR.out.2.1 HINR.out.2.2.1 HINR.out.2.2.2 rfl (by omega) (.slice none 0 0) 0 [] rfl (World.ownsRow_nil _ _ _ _) (some ⟨gc, 0, none⟩) k capc (flat3 (L.take k)) rfl HF3.out.1 HRC.out.1 HONE.out.1 (by unfold maxLen; omega) (by omega) (Nat.le_refl _) k (by omega) ?_; intro ad4 c4 w5 hown5 hg5; have HO5 : Hid (w5.ownsRow W2.heap.size 57 3 (.slice ad4 k c4) k (flat3 (L.take k))) := hown5; have HB5 := Hid.mk' ((Below.refl W2.heap.size W2).grown hg5 (Nat.le_refl _) (fun k h => by cases h)); obtain ⟨_, _, ⟨b0, b1, b2⟩, _⟩ := HKC.out _ HB5.out; clear hown5 hg5)))
        all_goals
          obtain ⟨x1, x2, x3, x4⟩ := wide_insert (e := ⟨p, .bool s, .slice ad l cap, .slice ad' l' cap', z⟩) HWA.out HB4.out HP4.out HW2.out HB7.out HO7.out (by rw [HW1.out]; exact HC.out.later (new_below _ _))
          have hWb : Below w.heap.size w W1 := by rw [HW1.out]; exact new_below _ _
          go_end0
          refine ⟨rfl, _, _, _, x1, ?_, (IntsKept.of_below hWb).trans x2, (Moved.of_below hWb HW.out.lt).trans x3, (hWb.mono (by have := HW.out.hB; have := HW.out.lt; omega)).trans x4⟩
          exact put_between HR.out HLT.out HGE.out HF.out
      · obtain ⟨hkn, hkp⟩ := HF.out.1 rfl
        have hkI : (k : Int) < (L.length : Int) := by omega
        have hk0 : (0 : Int) ≤ (k : Int) := by omega
        have HWA : Hid (WideAt base M W1 B (.slice (some ⟨gp, 0, none⟩) L.length capp) (.slice (some ⟨gc, 0, none⟩) L.length capc) L) := by
          rw [HW1.out]; exact HW.out.later (new_below _ _)
        obtain ⟨f, hf⟩ : ∃ f, L[k]? = some f := ⟨_, List.getElem?_eq_getElem hkn⟩
        have hfk : L[k] = f := by rw [List.getElem?_eq_getElem hkn] at hf; exact Option.some.inj hf
        have hmem : f ∈ L := List.mem_of_getElem? hf
        obtain ⟨fs, fa, fl, fc, fa', fl', fc', q0, q1, q2⟩ := Ent.parts (HWA.out.R f hmem)
        have HKS : Hid (∀ W, Below W1.heap.size W1 W → (W.cell? ⟨B, 1, none⟩ = some (.slice (some ⟨gc, 0, none⟩) L.length capc)) ∧ (W.cell? ⟨gc, k * 3, none⟩ = some (.bool fs) ∧ W.cell? ⟨gc, k * 3 + 1, none⟩ = some (.slice fa fl fc) ∧ W.cell? ⟨gc, k * 3 + 2, none⟩ = some (.slice fa' fl' fc')) ∧ (W.cell? ⟨w.heap.size, 0, none⟩ = some (.bool s) ∧ W.cell? ⟨w.heap.size, 1, none⟩ = some (.slice ad l cap) ∧ W.cell? ⟨w.heap.size, 2, none⟩ = some (.slice ad' l' cap')) ∧ (W.frozen? ⟨gc, k * 3, none⟩ = false ∧ W.frozen? ⟨gc, k * 3 + 1, none⟩ = false ∧ W.frozen? ⟨gc, k * 3 + 2, none⟩ = false)) := fun W hb => by
          have h5 := HWA.out.later hb
          obtain ⟨x0, x1, x2⟩ := flat3_at L k f hf
          have hbx := hb
          rw [HW1.out] at hbx
          exact ⟨h5.cc, ⟨by rw [h5.C.cellAt _ (by omega), x0, q0], by rw [h5.C.cellAt _ (by omega), x1, q1], by rw [h5.C.cellAt _ (by omega), x2, q2]⟩, three_new_past hbx, h5.C.frozenAt _, h5.C.frozenAt _, h5.C.frozenAt _⟩
        have HR1 : Hid (RatioAt W1 (.agg #[.bool fs, .slice fa fl fc, .slice fa' fl' fc']) (lowN M f.z) (lowD M f.z)) := by
          have h1 := HWA.out.R f hmem
          unfold Ent.val at h1
          rw [q0, q1, q2] at h1
          exact h1
        have HR2 : Hid (RatioAt W1 (.agg #[.bool s, .slice ad l cap, .slice ad' l' cap']) (lowN M z) (lowD M z)) := by rw [HW1.out]; exact HC.out.later (new_below _ _)
        have HPL := Hid.mk' (fun (W : World) (hb : Below W1.heap.size W1 W) => Plus_ratio _ _ (lowN M f.z) (lowN M z) (lowD M f.z) (lowD M z) k0 W (HR1.out.later hb) (HR2.out.later hb) (lowD_pos hM _) (lowD_pos hM _) (Nat.lt_of_le_of_lt (lowN_le hM _) (HBL.out f hmem)) (Nat.lt_of_le_of_lt (lowN_le hM _) hbz) (Nat.lt_of_le_of_lt (lowD_le _ _) hbM) (Nat.lt_of_le_of_lt (lowD_le _ _) hbM) (by omega))
        have hcur : Below W1.heap.size W1 W1.drew := (Below.refl _ _).drew
        have hcur0 : Below W1.heap.size W1 W1 := Below.refl _ _
        obtain ⟨_, ⟨a0, a1, a2⟩, ⟨b0, b1, b2⟩, _⟩ := HKS.out W1 hcur0
        have HKA : Hid (∀ (W : World) (x y q : Value), Below W1.heap.size W1 W → (((W.setCell ⟨gc, k * 3, none⟩ x).setCell ⟨gc, k * 3 + 1, none⟩ y).setCell ⟨gc, k * 3 + 2, none⟩ q).cell? ⟨B, 1, none⟩ = some (.slice (some ⟨gc, 0, none⟩) L.length capc)) := fun W x y q hb => by
          have hgB := ((HWA.out.later hb).apart hL).1
          rw [World.cell?_setCell_far _ _ _ _ hgB, World.cell?_setCell_far _ _ _ _ hgB, World.cell?_setCell_far _ _ _ _ hgB]
          exact (HKS.out _ hb).1
        have HKP := Hid.mk' hkp
        have HFK := Hid.mk' hfk
        clear hf hmem q0 q1 q2 HR1 HR2 hkp hfk
        go_wp2_with fail
        go_region_with (first | (go_at_call 59; refine (HPL.out _ hcur).mono ?_; rintro e w5 ⟨r, rfl, hr5, hb5⟩; obtain ⟨rs, ra, rl, rc, ra', rl', rc', rfl⟩ := hr5.parts; have hc5 := below_chain hcur hb5; have HR5 := Hid.mk' hr5; obtain ⟨c5, _, _, v0, v1, v2⟩ := HKS.out _ hc5; clear hr5 hb5))
        all_goals
          go_wp2_with fail
          refine bodyPost_ret (results_none Tryz.results61 _ _ _) rfl ?_
          have hlow := low_plus hM f.z z
          have hr5 := HR5.out
          rw [hlow.1, hlow.2] at hr5
          obtain ⟨x1, x2, x3, x4⟩ := wide_store (e := ⟨p, .bool rs, .slice ra rl rc, .slice ra' rl' rc', f.z + z⟩) HWA.out hkn hc5 (by rw [← primes_at hkn]; exact HKP.out.symm) hr5
          have hWb : Below w.heap.size w W1 := by rw [HW1.out]; exact new_below _ _
          refine ⟨rfl, _, _, _, x1, ?_, (IntsKept.of_below hWb).trans x2, (Moved.of_below hWb HW.out.lt).trans x3, (hWb.mono (by have := HW.out.hB; have := HW.out.lt; omega)).trans x4⟩
          have := put_at (x := .bool rs) (y := .slice ra rl rc) (q := .slice ra' rl' rc') (z := z) HR.out hkn HKP.out
          rw [HFK.out] at this
          exact this
end Go.Proofs.YtklhfagcembigaaGreatDoor
