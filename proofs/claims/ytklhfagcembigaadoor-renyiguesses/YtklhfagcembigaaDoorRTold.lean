/- The document's Told of a fraction. -/
import Derived.Test.YtklhfagcembigaaDoorPlus
namespace Go.Proofs.YtklhfagcembigaaDoor
open Go.RowKit

theorem cmpOf_le {a b : Nat} (h : a ≤ b) : cmpOf a b ≤ 0 := by
  unfold cmpOf
  split
  · omega
  · split
    · omega
    · omega

set_option maxRecDepth 100000 in
set_option maxHeartbeats 2000000 in
theorem RTold_ok (v : Value) (m d : Nat) (w : World) (h : RatioAt w v (m : Int) d) (hm : m ≤ 4611686018427387904) (hd : d ≤ 4611686018427387904) :
    Calls Tryd.prog 6 #[v] w fun e w' => e = .returned (.tuple #[.agg #[.int .i64 m, .int .i64 d], .bool true]) ∧ Below w.heap.size w w' := by
  obtain ⟨u, q, rfl, hu, hq⟩ := h
  rw [Int.natAbs_natCast] at hu
  rw [decide_eq_false (show ¬ (m : Int) < 0 by omega)]
  obtain ⟨ad1, l1, cap1, rfl, _⟩ := hu.len
  obtain ⟨ad2, l2, cap2, rfl, _⟩ := hq.len
  obtain ⟨W0, hW0⟩ : ∃ W0, W0 = (w.alloc (.cells #[.bool false, .slice ad1 l1 cap1, .slice ad2 l2 cap2] 33)).alloc (.cells #[.int .i64 0, .int .i64 0] 26) := ⟨_, rfl⟩
  have hb0 : Below w.heap.size w W0 := by rw [hW0]; exact below_chain (new_below _ _) (new_below _ _)
  have HKS : Hid (∀ W, Below W0.heap.size W0 W → (W.cell? ⟨w.heap.size, 0, none⟩ = some (.bool false) ∧ W.cell? ⟨w.heap.size, 1, none⟩ = some (.slice ad1 l1 cap1) ∧ W.cell? ⟨w.heap.size, 2, none⟩ = some (.slice ad2 l2 cap2)) ∧ (W.cell? ⟨w.heap.size + 1, 0, none⟩ = some (.int .i64 0) ∧ W.cell? ⟨w.heap.size + 1, 1, none⟩ = some (.int .i64 0)) ∧ W.frozen? ⟨w.heap.size + 1, 0, none⟩ = false ∧ W.frozen? ⟨w.heap.size + 1, 1, none⟩ = false) := fun W hb => by
    have hr := hb
    rw [hW0] at hr
    have hr2 := res_past hr
    rw [World.size_alloc] at hr2
    have a : ∀ j v, #[Value.bool false, .slice ad1 l1 cap1, .slice ad2 l2 cap2][j]? = some v → W0.cell? ⟨w.heap.size, j, none⟩ = some v := fun j v h => by rw [hW0, World.cell?_alloc_lt _ _ ⟨w.heap.size, j, none⟩ (by simp), World.cell?_alloc_at _ _ _ _ rfl]; exact h
    exact ⟨⟨(cell_past (a 0 _ rfl) hb).2, (cell_past (a 1 _ rfl) hb).2, (cell_past (a 2 _ rfl) hb).2⟩, ⟨hr2.1, hr2.2.1⟩, hr2.2.2⟩
  have HU : Hid (∀ W, Below W0.heap.size W0 W → BigAt W (.slice ad1 l1 cap1) m ∧ BigAt W (.slice ad2 l2 cap2) d) := fun W hb => ⟨(hu.later hb0).later hb, (hq.later hb0).later hb⟩
  have hof : Calls Tryd.prog 12 #[.int .i64 4611686018427387904] W0 fun e w' => ∃ v, e = .returned v ∧ BigAt w' v 4611686018427387904 ∧ Below W0.heap.size W0 w' := BigOf_any 4611686018427387904 W0 (Nat.le_refl _)
  have k4 : (4611686018427387904 : Nat) < 1000000 ^ 4 := by decide
  obtain ⟨z1, hz1⟩ : ∃ z, z = cmpOf m 4611686018427387904 := ⟨_, rfl⟩
  obtain ⟨z2, hz2⟩ : ∃ z, z = cmpOf d 4611686018427387904 := ⟨_, rfl⟩
  have hle1 : ¬ 0 < z1 := by rw [hz1]; have := cmpOf_le hm; omega
  have hle2 : ¬ 0 < z2 := by rw [hz2]; have := cmpOf_le hd; omega
  have HC1 : Hid (∀ (W : World) (v : Value), Below W0.heap.size W0 W → BigAt W v 4611686018427387904 → Calls Tryd.prog 13 #[.slice ad1 l1 cap1, v] W fun e w' => e = .returned (.int .i64 z1) ∧ ∃ m, w' = W.drewN m) := fun W v hb hv => by
    rw [hz1]; exact BigCmp_any _ _ m _ 4 W (HU.out W hb).1 hv (Nat.lt_of_le_of_lt hm k4) k4 (by decide)
  have HC2 : Hid (∀ (W : World) (v : Value), Below W0.heap.size W0 W → BigAt W v 4611686018427387904 → Calls Tryd.prog 13 #[.slice ad2 l2 cap2, v] W fun e w' => e = .returned (.int .i64 z2) ∧ ∃ m, w' = W.drewN m) := fun W v hb hv => by
    rw [hz2]; exact BigCmp_any _ _ d _ 4 W (HU.out W hb).2 hv (Nat.lt_of_le_of_lt hd k4) k4 (by decide)
  have HI1 : Hid (∀ W, Below W0.heap.size W0 W → Calls Tryd.prog 14 #[.slice ad1 l1 cap1] W fun e w' => e = .returned (.tuple #[.int .i64 m, .bool true]) ∧ w' = W) := fun W hb => BigInt_any _ m W (HU.out W hb).1 hm
  have HI2 : Hid (∀ W, Below W0.heap.size W0 W → Calls Tryd.prog 14 #[.slice ad2 l2 cap2] W fun e w' => e = .returned (.tuple #[.int .i64 d, .bool true]) ∧ w' = W) := fun W hb => BigInt_any _ d W (HU.out W hb).2 hd
  have HB0 := Hid.mk' hb0
  have HW0 := Hid.mk' hW0
  clear hu hq hb0 hW0 hz1 hz2 k4 hm hd
  go_enter Tryd.func6, Tryd.ntmps6
  go_upto_region 1 with fail
  rw [← HW0.out]
  go_wp2_with fail
  refine hof.mono ?_
  clear hof
  rintro e w1 ⟨v1, rfl, hv1, hb1⟩
  obtain ⟨⟨x0, x1, x2⟩, _, _, _⟩ := HKS.out w1 hb1
  have hc1 := HC1.out w1 v1 hb1 hv1
  go_wp2_with fail
  refine hc1.mono ?_
  rintro e w2 ⟨rfl, m2, hw2⟩
  have hb2 : Below w1.heap.size w1 w2 := by rw [hw2]; exact below_drewN (Below.refl _ _) _
  have hv2 := hv1.later hb2
  have hb02 := below_chain hb1 hb2
  clear hw2 hb1 hv1 hb2 hc1 x0 x1 x2
  obtain ⟨⟨x0, x1, x2⟩, _, _, _⟩ := HKS.out w2 hb02
  have hc2 := HC2.out w2 v1 hb02 hv2
  go_wp2_with fail
  refine hc2.mono ?_
  rintro e w3 ⟨rfl, m3, hw3⟩
  have hb3 : Below w2.heap.size w2 w3 := by rw [hw3]; exact below_drewN (Below.refl _ _) _
  have hb03 := below_chain hb02 hb3
  clear hw3 hb02 hv2 hb3 hc2 x0 x1 x2
  obtain ⟨⟨x0, x1, x2⟩, ⟨c0, c1⟩, f0, f1⟩ := HKS.out w3 hb03
  have hi1 := HI1.out w3 hb03
  have hi2 := HI2.out w3 hb03
  have HB3 := Hid.mk' (below_chain HB0.out hb03)
  clear hb03
  go_wp2_with (first
    | (go_at_call_of 14 cap1; refine hi1.mono ?_; rintro e w4 ⟨rfl, hw4⟩; rw [hw4]; clear hw4)
    | (go_at_call_of 14 cap2; refine hi2.mono ?_; rintro e w4 ⟨rfl, hw4⟩; rw [hw4]; clear hw4))
  refine bodyPost_ret (v := .tuple #[.agg #[.int .i64 m, .int .i64 d], .bool true]) (by simp [results, Tryd.results6, go_sem, c0, c1]) rfl ⟨rfl, ?_⟩
  exact (HB3.out.setCell (by show w.heap.size ≤ w.heap.size + 1; omega) _).setCell (by show w.heap.size ≤ w.heap.size + 1; omega) _
end Go.Proofs.YtklhfagcembigaaDoor
