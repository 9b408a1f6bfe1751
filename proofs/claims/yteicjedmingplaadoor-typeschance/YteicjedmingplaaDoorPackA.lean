/- The document's Told of a fraction. -/
import Derived.Test.YteicjedmingplaaDoorPlus
import Derived.Test.YteicjedmingplaaDoorTyRows
import Derived.Test.YteicjedmingplaaDoorNatTold
import Derived.Test.YteicjedmingplaaDoorTySz
import Derived.Test.YteicjedmingplaaDoorWeights
import Derived.Test.YteicjedmingplaaDoorTab
import Derived.Test.YteicjedmingplaaDoorLol
import Derived.Test.YteicjedmingplaaDoorLastOp
import Derived.Test.YteicjedmingplaaDoorTyMath
import Derived.Test.YteicjedmingplaaDoorLaysC
namespace Go.Proofs.YteicjedmingplaaDoor
open Go.RowKit

theorem cmpOf_le {a b : Nat} (h : a ≤ b) : cmpOf a b ≤ 0 := by
  unfold cmpOf
  split
  · omega
  · split
    · omega
    · omega

set_option maxRecDepth 100000 in
set_option maxHeartbeats 2000000 in
theorem RTold_ok (v : Value) (m d : Nat) (w : World) (h : RatioAt w v (m : Int) d) (hm : m ≤ 4611686018427387904) (hd : d ≤ 4611686018427387904) :
    Calls Tryd.prog 18 #[v] w fun e w' => e = .returned (.tuple #[.agg #[.int .i64 m, .int .i64 d], .bool true]) ∧ Below w.heap.size w w' := by
  obtain ⟨u, q, rfl, hu, hq⟩ := h
  rw [Int.natAbs_natCast] at hu
  rw [decide_eq_false (show ¬ (m : Int) < 0 by omega)]
  obtain ⟨ad1, l1, cap1, rfl, _⟩ := hu.len
  obtain ⟨ad2, l2, cap2, rfl, _⟩ := hq.len
  obtain ⟨W0, hW0⟩ : ∃ W0, W0 = (w.alloc (.cells #[.bool false, .slice ad1 l1 cap1, .slice ad2 l2 cap2] 47)).alloc (.cells #[.int .i64 0, .int .i64 0] 40) := ⟨_, rfl⟩
  have hb0 : Below w.heap.size w W0 := by rw [hW0]; exact below_chain (new_below _ _) (new_below _ _)
  have HKS : Hid (∀ W, Below W0.heap.size W0 W → (W.cell? ⟨w.heap.size, 0, none⟩ = some (.bool false) ∧ W.cell? ⟨w.heap.size, 1, none⟩ = some (.slice ad1 l1 cap1) ∧ W.cell? ⟨w.heap.size, 2, none⟩ = some (.slice ad2 l2 cap2)) ∧ (W.cell? ⟨w.heap.size + 1, 0, none⟩ = some (.int .i64 0) ∧ W.cell? ⟨w.heap.size + 1, 1, none⟩ = some (.int .i64 0)) ∧ W.frozen? ⟨w.heap.size + 1, 0, none⟩ = false ∧ W.frozen? ⟨w.heap.size + 1, 1, none⟩ = false) := fun W hb => by
    have hr := hb
    rw [hW0] at hr
    have hr2 := res_past hr
    rw [World.size_alloc] at hr2
    have a : ∀ j v, #[Value.bool false, .slice ad1 l1 cap1, .slice ad2 l2 cap2][j]? = some v → W0.cell? ⟨w.heap.size, j, none⟩ = some v := fun j v h => by rw [hW0, World.cell?_alloc_lt _ _ ⟨w.heap.size, j, none⟩ (by simp), World.cell?_alloc_at _ _ _ _ rfl]; exact h
    exact ⟨⟨(cell_past (a 0 _ rfl) hb).2, (cell_past (a 1 _ rfl) hb).2, (cell_past (a 2 _ rfl) hb).2⟩, ⟨hr2.1, hr2.2.1⟩, hr2.2.2⟩
  have HU : Hid (∀ W, Below W0.heap.size W0 W → BigAt W (.slice ad1 l1 cap1) m ∧ BigAt W (.slice ad2 l2 cap2) d) := fun W hb => ⟨(hu.later hb0).later hb, (hq.later hb0).later hb⟩
  have hof : Calls Tryd.prog 35 #[.int .i64 4611686018427387904] W0 fun e w' => ∃ v, e = .returned v ∧ BigAt w' v 4611686018427387904 ∧ Below W0.heap.size W0 w' := BigOf_any 4611686018427387904 W0 (Nat.le_refl _)
  have k4 : (4611686018427387904 : Nat) < 1000000 ^ 4 := by decide
  obtain ⟨z1, hz1⟩ : ∃ z, z = cmpOf m 4611686018427387904 := ⟨_, rfl⟩
  obtain ⟨z2, hz2⟩ : ∃ z, z = cmpOf d 4611686018427387904 := ⟨_, rfl⟩
  have hle1 : ¬ 0 < z1 := by rw [hz1]; have := cmpOf_le hm; omega
  have hle2 : ¬ 0 < z2 := by rw [hz2]; have := cmpOf_le hd; omega
  have HC1 : Hid (∀ (W : World) (v : Value), Below W0.heap.size W0 W → BigAt W v 4611686018427387904 → Calls Tryd.prog 36 #[.slice ad1 l1 cap1, v] W fun e w' => e = .returned (.int .i64 z1) ∧ ∃ m, w' = W.drewN m) := fun W v hb hv => by
    rw [hz1]; exact BigCmp_any _ _ m _ 4 W (HU.out W hb).1 hv (Nat.lt_of_le_of_lt hm k4) k4 (by decide)
  have HC2 : Hid (∀ (W : World) (v : Value), Below W0.heap.size W0 W → BigAt W v 4611686018427387904 → Calls Tryd.prog 36 #[.slice ad2 l2 cap2, v] W fun e w' => e = .returned (.int .i64 z2) ∧ ∃ m, w' = W.drewN m) := fun W v hb hv => by
    rw [hz2]; exact BigCmp_any _ _ d _ 4 W (HU.out W hb).2 hv (Nat.lt_of_le_of_lt hd k4) k4 (by decide)
  have HI1 : Hid (∀ W, Below W0.heap.size W0 W → Calls Tryd.prog 37 #[.slice ad1 l1 cap1] W fun e w' => e = .returned (.tuple #[.int .i64 m, .bool true]) ∧ w' = W) := fun W hb => BigInt_any _ m W (HU.out W hb).1 hm
  have HI2 : Hid (∀ W, Below W0.heap.size W0 W → Calls Tryd.prog 37 #[.slice ad2 l2 cap2] W fun e w' => e = .returned (.tuple #[.int .i64 d, .bool true]) ∧ w' = W) := fun W hb => BigInt_any _ d W (HU.out W hb).2 hd
  have HB0 := Hid.mk' hb0
  have HW0 := Hid.mk' hW0
  clear hu hq hb0 hW0 hz1 hz2 k4 hm hd
  go_enter Tryd.func18, Tryd.ntmps18
  go_upto_region 1 with fail
  rw [← HW0.out]
  go_wp2_with fail
  refine hof.mono ?_
  clear hof
  rintro e w1 ⟨v1, rfl, hv1, hb1⟩
  obtain ⟨⟨x0, x1, x2⟩, _, _, _⟩ := HKS.out w1 hb1
  have hc1 := HC1.out w1 v1 hb1 hv1
  go_wp2_with fail
  refine hc1.mono ?_
  rintro e w2 ⟨rfl, m2, hw2⟩
  have hb2 : Below w1.heap.size w1 w2 := by rw [hw2]; exact below_drewN (Below.refl _ _) _
  have hv2 := hv1.later hb2
  have hb02 := below_chain hb1 hb2
  clear hw2 hb1 hv1 hb2 hc1 x0 x1 x2
  obtain ⟨⟨x0, x1, x2⟩, _, _, _⟩ := HKS.out w2 hb02
  have hc2 := HC2.out w2 v1 hb02 hv2
  go_wp2_with fail
  refine hc2.mono ?_
  rintro e w3 ⟨rfl, m3, hw3⟩
  have hb3 : Below w2.heap.size w2 w3 := by rw [hw3]; exact below_drewN (Below.refl _ _) _
  have hb03 := below_chain hb02 hb3
  clear hw3 hb02 hv2 hb3 hc2 x0 x1 x2
  obtain ⟨⟨x0, x1, x2⟩, ⟨c0, c1⟩, f0, f1⟩ := HKS.out w3 hb03
  have hi1 := HI1.out w3 hb03
  have hi2 := HI2.out w3 hb03
  have HB3 := Hid.mk' (below_chain HB0.out hb03)
  clear hb03
  go_wp2_with (first
    | (go_at_call_of 37 cap1; refine hi1.mono ?_; rintro e w4 ⟨rfl, hw4⟩; rw [hw4]; clear hw4)
    | (go_at_call_of 37 cap2; refine hi2.mono ?_; rintro e w4 ⟨rfl, hw4⟩; rw [hw4]; clear hw4))
  refine bodyPost_ret (v := .tuple #[.agg #[.int .i64 m, .int .i64 d], .bool true]) (by simp [results, Tryd.results18, go_sem, c0, c1]) rfl ⟨rfl, ?_⟩
  exact (HB3.out.setCell (by show w.heap.size ≤ w.heap.size + 1; omega) _).setCell (by show w.heap.size ≤ w.heap.size + 1; omega) _
end Go.Proofs.YteicjedmingplaaDoor

/- The document's Told of a fraction too great. -/
namespace Go.Proofs.YteicjedmingplaaDoor
open Go.RowKit

theorem cmpOf_up {a b : Nat} (h : b < a) : 0 < cmpOf a b := by
  unfold cmpOf
  rw [if_neg (by omega), if_pos h]
  decide
set_option maxRecDepth 100000 in
set_option maxHeartbeats 2000000 in
theorem RTold_not (v : Value) (m d : Nat) (w : World) (h : RatioAt w v (m : Int) d) (hm : m < 1000000 ^ 20) (hd : d < 1000000 ^ 20) (hbig : 4611686018427387904 < m ∨ 4611686018427387904 < d) :
    Calls Tryd.prog 18 #[v] w fun e w' => e = .returned (.tuple #[.agg #[.int .i64 0, .int .i64 0], .bool false]) ∧ Below w.heap.size w w' := by
  obtain ⟨u, q, rfl, hu, hq⟩ := h
  rw [Int.natAbs_natCast] at hu
  rw [decide_eq_false (show ¬ (m : Int) < 0 by omega)]
  obtain ⟨ad1, l1, cap1, rfl, _⟩ := hu.len
  obtain ⟨ad2, l2, cap2, rfl, _⟩ := hq.len
  obtain ⟨W0, hW0⟩ : ∃ W0, W0 = (w.alloc (.cells #[.bool false, .slice ad1 l1 cap1, .slice ad2 l2 cap2] 47)).alloc (.cells #[.int .i64 0, .int .i64 0] 40) := ⟨_, rfl⟩
  have hb0 : Below w.heap.size w W0 := by rw [hW0]; exact below_chain (new_below _ _) (new_below _ _)
  have HKS : Hid (∀ W, Below W0.heap.size W0 W → (W.cell? ⟨w.heap.size, 0, none⟩ = some (.bool false) ∧ W.cell? ⟨w.heap.size, 1, none⟩ = some (.slice ad1 l1 cap1) ∧ W.cell? ⟨w.heap.size, 2, none⟩ = some (.slice ad2 l2 cap2)) ∧ (W.cell? ⟨w.heap.size + 1, 0, none⟩ = some (.int .i64 0) ∧ W.cell? ⟨w.heap.size + 1, 1, none⟩ = some (.int .i64 0)) ∧ W.frozen? ⟨w.heap.size + 1, 0, none⟩ = false ∧ W.frozen? ⟨w.heap.size + 1, 1, none⟩ = false) := fun W hb => by
    have hr := hb
    rw [hW0] at hr
    have hr2 := res_past hr
    rw [World.size_alloc] at hr2
    have a : ∀ j v, #[Value.bool false, .slice ad1 l1 cap1, .slice ad2 l2 cap2][j]? = some v → W0.cell? ⟨w.heap.size, j, none⟩ = some v := fun j v h => by rw [hW0, World.cell?_alloc_lt _ _ ⟨w.heap.size, j, none⟩ (by simp), World.cell?_alloc_at _ _ _ _ rfl]; exact h
    exact ⟨⟨(cell_past (a 0 _ rfl) hb).2, (cell_past (a 1 _ rfl) hb).2, (cell_past (a 2 _ rfl) hb).2⟩, ⟨hr2.1, hr2.2.1⟩, hr2.2.2⟩
  have HU : Hid (∀ W, Below W0.heap.size W0 W → BigAt W (.slice ad1 l1 cap1) m ∧ BigAt W (.slice ad2 l2 cap2) d) := fun W hb => ⟨(hu.later hb0).later hb, (hq.later hb0).later hb⟩
  have hof : Calls Tryd.prog 35 #[.int .i64 4611686018427387904] W0 fun e w' => ∃ v, e = .returned v ∧ BigAt w' v 4611686018427387904 ∧ Below W0.heap.size W0 w' := BigOf_any 4611686018427387904 W0 (Nat.le_refl _)
  have k4 : (4611686018427387904 : Nat) < 1000000 ^ 20 := by decide
  obtain ⟨z1, hz1⟩ : ∃ z, z = cmpOf m 4611686018427387904 := ⟨_, rfl⟩
  obtain ⟨z2, hz2⟩ : ∃ z, z = cmpOf d 4611686018427387904 := ⟨_, rfl⟩
  have hz12 : 0 < z1 ∨ ¬ 0 < z1 ∧ 0 < z2 := by
    rcases Nat.lt_or_ge 4611686018427387904 m with h | h
    · exact Or.inl (by rw [hz1]; exact cmpOf_up h)
    · refine Or.inr ⟨by rw [hz1]; have := cmpOf_le h; omega, by rw [hz2]; exact cmpOf_up (by omega)⟩
  have HC1 : Hid (∀ (W : World) (v : Value), Below W0.heap.size W0 W → BigAt W v 4611686018427387904 → Calls Tryd.prog 36 #[.slice ad1 l1 cap1, v] W fun e w' => e = .returned (.int .i64 z1) ∧ ∃ m, w' = W.drewN m) := fun W v hb hv => by
    rw [hz1]; exact BigCmp_any _ _ m _ 20 W (HU.out W hb).1 hv hm k4 (by decide)
  have HC2 : Hid (∀ (W : World) (v : Value), Below W0.heap.size W0 W → BigAt W v 4611686018427387904 → Calls Tryd.prog 36 #[.slice ad2 l2 cap2, v] W fun e w' => e = .returned (.int .i64 z2) ∧ ∃ m, w' = W.drewN m) := fun W v hb hv => by
    rw [hz2]; exact BigCmp_any _ _ d _ 20 W (HU.out W hb).2 hv hd k4 (by decide)
  have HB0 := Hid.mk' hb0
  have HW0 := Hid.mk' hW0
  clear hu hq hb0 hW0 hz1 hz2 k4 hm hd hbig
  go_enter Tryd.func18, Tryd.ntmps18
  go_upto_region 1 with fail
  rw [← HW0.out]
  go_wp2_with fail
  refine hof.mono ?_
  clear hof
  rintro e w1 ⟨v1, rfl, hv1, hb1⟩
  obtain ⟨⟨x0, x1, x2⟩, _, _, _⟩ := HKS.out w1 hb1
  have hc1 := HC1.out w1 v1 hb1 hv1
  go_wp2_with fail
  refine hc1.mono ?_
  rintro e w2 ⟨rfl, m2, hw2⟩
  have hb2 : Below w1.heap.size w1 w2 := by rw [hw2]; exact below_drewN (Below.refl _ _) _
  have hv2 := hv1.later hb2
  have hb02 := below_chain hb1 hb2
  clear hw2 hb1 hv1 hb2 hc1 x0 x1 x2
  rcases hz12 with hz | ⟨hz, hz2⟩
  · obtain ⟨_, ⟨c0, c1⟩, f0, f1⟩ := HKS.out w2 hb02
    have HB3 := Hid.mk' (below_chain HB0.out hb02)
    clear hb02
    go_wp2_with fail
    refine bodyPost_ret (v := .tuple #[.agg #[.int .i64 0, .int .i64 0], .bool false]) (by simp [results, Tryd.results18, go_sem, c0, c1]) rfl ⟨rfl, ?_⟩
    exact (HB3.out.setCell (by show w.heap.size ≤ w.heap.size + 1; omega) _).setCell (by show w.heap.size ≤ w.heap.size + 1; omega) _
  · obtain ⟨⟨x0, x1, x2⟩, _, _, _⟩ := HKS.out w2 hb02
    have hc2 := HC2.out w2 v1 hb02 hv2
    go_wp2_with fail
    refine hc2.mono ?_
    rintro e w3 ⟨rfl, m3, hw3⟩
    have hb3 : Below w2.heap.size w2 w3 := by rw [hw3]; exact below_drewN (Below.refl _ _) _
    have hb03 := below_chain hb02 hb3
    clear hw3 hb02 hv2 hb3 hc2 x0 x1 x2
    obtain ⟨_, ⟨c0, c1⟩, f0, f1⟩ := HKS.out w3 hb03
    have HB3 := Hid.mk' (below_chain HB0.out hb03)
    clear hb03
    go_wp2_with fail
    refine bodyPost_ret (v := .tuple #[.agg #[.int .i64 0, .int .i64 0], .bool false]) (by simp [results, Tryd.results18, go_sem, c0, c1]) rfl ⟨rfl, ?_⟩
    exact (HB3.out.setCell (by show w.heap.size ≤ w.heap.size + 1; omega) _).setCell (by show w.heap.size ≤ w.heap.size + 1; omega) _
end Go.Proofs.YteicjedmingplaaDoor

/- Fractions that are told, in boxes; the sum of a row. -/
namespace Go.Proofs.YteicjedmingplaaDoor
open Go.RowKit

theorem low_nat (N D : Nat) : lowN D (N : Int) = ((N / Nat.gcd N D : Nat) : Int) ∧ lowD D (N : Int) = D / Nat.gcd N D := by
  unfold lowN lowD lowG
  rw [Int.natAbs_natCast]
  exact ⟨rfl, rfl⟩
/-- A fraction in a box. -/
structure FrAt (w : World) (b : Nat) (p q : Int) : Prop where
  c0 : w.cell? ⟨b, 0, none⟩ = some (.int .i64 p)
  c1 : w.cell? ⟨b, 1, none⟩ = some (.int .i64 q)
  f0 : w.frozen? ⟨b, 0, none⟩ = false
  f1 : w.frozen? ⟨b, 1, none⟩ = false
theorem FrAt.later {w w' : World} {b : Nat} {p q : Int} (h : FrAt w b p q) (hb : Below w.heap.size w w') : FrAt w' b p q :=
  ⟨by rw [hb.cell (cell_lt h.c0)]; exact h.c0, by rw [hb.cell (cell_lt h.c1)]; exact h.c1, by rw [hb.frozen (show b < w.heap.size from cell_lt h.c0)]; exact h.f0, by rw [hb.frozen (show b < w.heap.size from cell_lt h.c0)]; exact h.f1⟩
theorem FrAt.fresh (w : World) (p q : Int) : FrAt (w.alloc (.cells #[.int .i64 p, .int .i64 q] 40)) w.heap.size p q := by
  have := res_past (x := .int .i64 p) (y := .int .i64 q) (w := w) (t := 40) (Below.refl _ _)
  exact ⟨this.1, this.2.1, this.2.2.1, this.2.2.2⟩
theorem FrAt.put {w : World} {b : Nat} {p q : Int} (h : FrAt w b p q) (x y : Int) : FrAt ((w.setCell ⟨b, 0, none⟩ (.int .i64 x)).setCell ⟨b, 1, none⟩ (.int .i64 y)) b x y := by
  have := put_two (.int .i64 x) (.int .i64 y) h.c0 h.c1
  exact ⟨this.2.1, this.2.2, by rw [World.frozen?_setCell, World.frozen?_setCell]; exact h.f0, by rw [World.frozen?_setCell, World.frozen?_setCell]; exact h.f1⟩

set_option maxRecDepth 100000 in
theorem Total_row (b o cap n : Nat) (z : Nat → Int) (w : World) (h : RowAt w b o n z) (hz : ∀ k, k ≤ n → 0 ≤ sumN z k ∧ sumN z k ≤ 1000000) (hzi : ∀ i, i < n → 0 ≤ z i ∧ z i ≤ 1000000) (hn : n ≤ 1000000) :
    Calls Tryd.prog 43 #[.slice (some ⟨b, o, none⟩) n cap] w fun e w' => e = .returned (.int .i64 (sumN z n)) ∧ w' = w := by
  have HR := Hid.mk' h
  have HZ := Hid.mk' hz
  have HZI := Hid.mk' hzi
  clear h hz hzi
  go_enter Tryd.func43, Tryd.ntmps43
  go_wp2_with fail
  go_loopw [3, 8] (fun s i wr => ∃ k : Nat, k ≤ n ∧ s = .int .i64 (sumN z k) ∧ i = .int .i64 k ∧ wr = w) (fun _ i _ => n - (intOf i).toNat)
  case atStart => exact ⟨0, Nat.zero_le _, rfl, rfl, rfl⟩
  case round =>
    obtain ⟨k, hk, rfl, rfl, rfl⟩ := hrel
    rcases Nat.lt_or_ge k n with h1 | h1
    · have hc := HR.out k h1
      have hs1 := HZ.out k hk
      have hs2 := HZ.out (k + 1) h1
      have hs3 := HZI.out k h1
      have HE : Hid (sumN z (k + 1) = sumN z k + z k) := rfl
      have hkn : (k : Int) < (n : Int) := by omega
      obtain ⟨x, hx⟩ : ∃ x, x = z k := ⟨_, rfl⟩
      rw [← hx] at hc hs3 HE
      obtain ⟨s, hs⟩ : ∃ s, s = sumN z k := ⟨_, rfl⟩
      rw [← hs] at hs1 HE ⊢
      clear hx hs
      go_wp2_with fail
      exact ⟨⟨k + 1, h1, by rw [HE.out], by go_num, trivial⟩, by simp [intOf]; omega⟩
    · obtain rfl : k = n := by omega
      go_wp2_with fail
      go_ret
      exact ⟨rfl, rfl⟩
set_option maxRecDepth 100000 in
theorem OneTold_by (x0 x1 : Option Addr) (l0 c0 l1 c1 : Nat) (sg : Bool) (p q : Int) (ok : Bool) (w : World)
    (hT : ∀ W, Below w.heap.size w W → Calls Tryd.prog 18 #[.agg #[.bool sg, .slice x0 l0 c0, .slice x1 l1 c1]] W fun e w' => e = .returned (.tuple #[.agg #[.int .i64 p, .int .i64 q], .bool ok]) ∧ Below W.heap.size W w') (hno : ok = false → p = 0 ∧ q = 0) :
    Calls Tryd.prog 21 #[.agg #[.bool sg, .slice x0 l0 c0, .slice x1 l1 c1]] w fun e w' => e = .returned (.tuple #[.agg #[.int .i64 p, .int .i64 q], .int .i64 (if ok = true then 0 else 2)]) ∧ Below w.heap.size w w' := by
  obtain ⟨W0, hW0⟩ : ∃ W0, W0 = (w.alloc (.cells #[.bool sg, .slice x0 l0 c0, .slice x1 l1 c1] 47)).alloc (.cells #[.int .i64 0, .int .i64 0] 40) := ⟨_, rfl⟩
  have hb0 : Below w.heap.size w W0 := by rw [hW0]; exact below_chain (new_below _ _) (new_below _ _)
  have HKS : Hid (∀ W, Below W0.heap.size W0 W → (W.cell? ⟨w.heap.size, 0, none⟩ = some (.bool sg) ∧ W.cell? ⟨w.heap.size, 1, none⟩ = some (.slice x0 l0 c0) ∧ W.cell? ⟨w.heap.size, 2, none⟩ = some (.slice x1 l1 c1)) ∧ (W.cell? ⟨w.heap.size + 1, 0, none⟩ = some (.int .i64 0) ∧ W.cell? ⟨w.heap.size + 1, 1, none⟩ = some (.int .i64 0)) ∧ W.frozen? ⟨w.heap.size + 1, 0, none⟩ = false ∧ W.frozen? ⟨w.heap.size + 1, 1, none⟩ = false) := fun W hb => by
    have hr := hb
    rw [hW0] at hr
    have hr2 := res_past hr
    rw [World.size_alloc] at hr2
    have a : ∀ j v, #[Value.bool sg, .slice x0 l0 c0, .slice x1 l1 c1][j]? = some v → W0.cell? ⟨w.heap.size, j, none⟩ = some v := fun j v h => by rw [hW0, World.cell?_alloc_lt _ _ ⟨w.heap.size, j, none⟩ (by simp), World.cell?_alloc_at _ _ _ _ rfl]; exact h
    exact ⟨⟨(cell_past (a 0 _ rfl) hb).2, (cell_past (a 1 _ rfl) hb).2, (cell_past (a 2 _ rfl) hb).2⟩, ⟨hr2.1, hr2.2.1⟩, hr2.2.2⟩
  have hT1 := hT W0 hb0
  have HB0 := Hid.mk' hb0
  have HW0 := Hid.mk' hW0
  obtain ⟨⟨z0, z1, z2⟩, _⟩ := HKS.out W0 (Below.refl _ _)
  have HLT : Hid (w.heap.size + 2 ≤ W0.heap.size) := by show _ ≤ _; rw [hW0]; simp
  clear hb0 hW0 hT
  go_enter Tryd.func21, Tryd.ntmps21
  go_upto_region 1 with fail
  rw [← HW0.out]
  go_wp2_with fail
  refine hT1.mono ?_
  clear hT1
  rintro e w1 ⟨rfl, hb1⟩
  obtain ⟨_, ⟨g0, g1⟩, f0, f1⟩ := HKS.out _ hb1
  have HB3 := Hid.mk' (below_chain HB0.out hb1)
  have HSZ : Hid (w.heap.size + 1 < w1.heap.size) := by have := HLT.out; have := hb1.size; show _ < _; omega
  have hsz := HSZ.out
  have HF : Hid (∀ (y0 y1 : Value) (X : Obj), (((w1.setCell ⟨w.heap.size + 1, 0, none⟩ y0).setCell ⟨w.heap.size + 1, 1, none⟩ y1).alloc X).cell? ⟨w.heap.size + 1, 0, none⟩ = some y0 ∧ (((w1.setCell ⟨w.heap.size + 1, 0, none⟩ y0).setCell ⟨w.heap.size + 1, 1, none⟩ y1).alloc X).cell? ⟨w.heap.size + 1, 1, none⟩ = some y1) := fun y0 y1 X =>
    ⟨by rw [World.cell?_alloc_lt _ _ ⟨w.heap.size + 1, 0, none⟩ (by simp; exact hsz)]; exact (put_two y0 y1 g0 g1).2.1, by rw [World.cell?_alloc_lt _ _ ⟨w.heap.size + 1, 1, none⟩ (by simp; exact hsz)]; exact (put_two y0 y1 g0 g1).2.2⟩
  clear hb1
  cases ok
  · obtain ⟨rfl, rfl⟩ := hno rfl
    clear hno
    go_wp2_with fail
    refine bodyPost_ret (v := .tuple #[.agg #[.int .i64 0, .int .i64 0], .int .i64 2]) (by simp [results, Tryd.results21, go_sem, (HF.out _ _ _).1, (HF.out _ _ _).2]) rfl ⟨rfl, ?_⟩
    exact ((HB3.out.setCell (by show w.heap.size ≤ w.heap.size + 1; omega) _).setCell (by show w.heap.size ≤ w.heap.size + 1; omega) _).alloc (by have := HSZ.out; simp; omega) _
  · clear hno
    go_wp2_with fail
    refine bodyPost_ret (v := .tuple #[.agg #[.int .i64 p, .int .i64 q], .int .i64 0]) (by simp [results, Tryd.results21, go_sem, (HF.out _ _ _).1, (HF.out _ _ _).2]) rfl ⟨rfl, ?_⟩
    exact ((HB3.out.setCell (by show w.heap.size ≤ w.heap.size + 1; omega) _).setCell (by show w.heap.size ≤ w.heap.size + 1; omega) _).alloc (by have := HSZ.out; simp; omega) _
end Go.Proofs.YteicjedmingplaaDoor

/- types.powers, and the powers of a word that may be 0. -/
namespace Go.Proofs.YteicjedmingplaaDoor
open Go.RowKit

theorem nat_null (w : World) : NatAt w (.slice none 0 0) 0 := ⟨[], fun i hi => by simp at hi, fun i hi => by simp at hi, rfl, Or.inl ⟨_, _, rfl, rfl⟩⟩
set_option maxRecDepth 10000 in
theorem NatOf_1 (w : World) : Calls Tryd.prog 41 #[.int .u64 1] w fun e w' => ∃ v, e = .returned v ∧ NatAt w' v 1 ∧ Below w.heap.size w w' := by
  go_enter Tryd.func41, Tryd.ntmps41
  go_wp2_with fail
  go_ret
  refine ⟨_, rfl, ⟨[1], fun i hi => ?_, fun i hi => ?_, by simp [wv], Or.inr ⟨w.heap.size, 0, 1, rfl, by simp, by simp, fun i hi => ?_⟩⟩, (Below.refl _ _).alloc (Nat.le_refl _) _⟩
  · obtain rfl : i = 0 := by simpa using hi
    decide
  · obtain rfl : i = 0 := by simp at hi; omega
    decide
  · obtain rfl : i = 0 := by simpa using hi
    rw [World.cell?_alloc_at _ _ _ _ rfl]; rfl
set_option maxRecDepth 10000 in
theorem Times_null (u : Value) (n : Nat) (w : World) (h : NatAt w u n) :
    Calls Tryd.prog 46 #[u, .int .u64 0] w fun e w' => ∃ v, e = .returned v ∧ NatAt w' v 0 ∧ Below w.heap.size w w' := by
  obtain ⟨l, _, _, _, h4⟩ := h
  obtain ⟨ad, cap, rfl⟩ := h4.form
  clear h4
  go_enter Tryd.func46, Tryd.ntmps46
  go_wp2_with fail
  go_ret
  exact ⟨_, rfl, nat_null w, Below.refl _ _⟩
set_option maxRecDepth 10000 in
set_option maxHeartbeats 1000000 in
/-- TimesPower by the word 0. -/
theorem TimesPower_zero (u : Value) (n e : Nat) (w : World) (h : NatAt w u n) (he0 : 0 < e) (he : e ≤ 1000) :
    Calls Tryd.prog 42 #[u, .int .u64 0, .int .i64 e] w fun r w' => ∃ v, r = .returned v ∧ NatAt w' v 0 ∧ Below w.heap.size w w' := by
  have HA := Hid.mk' h
  clear h
  go_enter Tryd.func42, Tryd.ntmps42
  go_wp2_with fail
  go_loopw [0, 7, 11] (fun s t i wr => ∃ (g j : Nat), i = .int .i64 j ∧ t = .int .u64 g ∧ j ≤ e ∧ (0 < j → g = 0) ∧ g ≤ 1 ∧ Hid (NatAt wr s n) ∧ Hid (Below w.heap.size w wr)) (fun _ _ i _ => e - (intOf i).toNat)
  case atStart => exact ⟨1, 0, rfl, rfl, by omega, by omega, by omega, HA, Below.refl _ _⟩
  case round =>
    clear HA
    obtain ⟨g, j, rfl, rfl, hj, hgj, hg, HA, HB⟩ := hrel
    by_cases hlt : j < e
    · have hjI : (j : Int) < (e : Int) := by omega
      have hmul := Mul64_any g 0 wr (by omega) (by omega)
      rw [Nat.mul_zero, Nat.zero_div, Nat.zero_mod] at hmul
      go_wp2_with fail
      refine hmul.mono ?_
      clear hmul
      rintro r w2 ⟨rfl, hw2⟩
      go_wp2_with fail
      exact ⟨⟨0, j + 1, by go_num, rfl, by omega, fun _ => rfl, by omega, HA, HB⟩, by simp [intOf]; omega⟩
    · obtain rfl : j = e := by omega
      obtain rfl : g = 0 := hgj he0
      have htm := Times_null u0 n wr HA.out
      go_wp2_with fail
      refine htm.mono ?_
      clear htm
      rintro r w3 ⟨v, rfl, hv, hb3⟩
      go_wp2_with fail
      go_ret
      exact ⟨v, rfl, hv, below_chain HB.out hb3⟩
set_option maxRecDepth 10000 in
theorem TimesPower_none (u : Value) (n q k : Nat) (w : World) (h : NatAt w u n) (hk : n < 18446744073709551616 ^ k) (hk6 : k ≤ 1000000) :
    Calls Tryd.prog 42 #[u, .int .u64 q, .int .i64 0] w fun r w' => ∃ v, r = .returned v ∧ NatAt w' v n ∧ Below w.heap.size w w' := by
  have htm := Times_any u n 1 k w h (by omega) (by omega) hk hk6
  rw [Nat.mul_one] at htm
  obtain ⟨l, _, _, _, h4⟩ := h
  obtain ⟨ad, cap, rfl⟩ := h4.form
  clear h4
  go_enter Tryd.func42, Tryd.ntmps42
  go_wp2_with fail
  refine wp_loop_rounds 1 ?_
  rw [rounds_succ]
  go_wp2_with fail
  refine htm.mono ?_
  clear htm
  rintro r w3 ⟨v, rfl, hv, hb3⟩
  go_wp2_with fail
  go_ret
  exact ⟨v, rfl, hv, hb3⟩
theorem TimesPower_all (u : Value) (n q e k : Nat) (w : World) (h : NatAt w u n) (hq : q < 18446744073709551616) (he : e ≤ 1000) (hk : n * q ^ e < 18446744073709551616 ^ k) (hk6 : k ≤ 1000000) (hn : n < 18446744073709551616 ^ k) :
    Calls Tryd.prog 42 #[u, .int .u64 q, .int .i64 e] w fun r w' => ∃ v, r = .returned v ∧ NatAt w' v (n * q ^ e) ∧ Below w.heap.size w w' := by
  rcases Nat.eq_zero_or_pos q with rfl | hq0
  · rcases Nat.eq_zero_or_pos e with rfl | he0
    · have := TimesPower_none u n 0 k w h hn hk6
      rw [Nat.pow_zero, Nat.mul_one]
      exact this
    · have := TimesPower_zero u n e w h he0 he
      rw [Nat.zero_pow he0, Nat.mul_zero]
      exact this
  · exact TimesPower_any u n q e k w h hq0 hq (by omega) hk hk6

/-- The product of numbers, each to the power of the type's. -/
def powU (q t : Nat → Nat) : Nat → Nat
  | 0 => 1
  | i + 1 => powU q t i * q i ^ t i
theorem powU_le {q t : Nat → Nat} : ∀ {n : Nat}, (∀ i, i < n → q i ≤ 4096) → powU q t n ≤ 4096 ^ sumU t n
  | 0, _ => Nat.le_refl _
  | n + 1, h => by
    show powU q t n * q n ^ t n ≤ 4096 ^ (sumU t n + t n)
    rw [Nat.pow_add]
    exact Nat.mul_le_mul (powU_le fun i hi => h i (by omega)) (Nat.pow_le_pow_left (h n (by omega)) _)
theorem powU_small {q t : Nat → Nat} {n : Nat} (h : ∀ i, i < n → q i ≤ 4096) (hs : sumU t n ≤ 20) : powU q t n < 18446744073709551616 ^ 4 :=
  Nat.lt_of_le_of_lt (powU_le h) (Nat.lt_of_le_of_lt (Nat.pow_le_pow_right (by decide) hs) (by decide +kernel))

set_option maxRecDepth 100000 in
set_option maxHeartbeats 2000000 in
theorem powers_any (b o cap b' o' cap' n : Nat) (q t : Nat → Nat) (w : World) (h : RowAt w b o n (fun i => (q i : Int))) (h' : RowAt w b' o' n (fun i => (t i : Int))) (hn : n ≤ 6) (hq : ∀ i, i < n → q i ≤ 4096) (hs : sumU t n ≤ 20) :
    Calls Tryd.prog 45 #[.slice (some ⟨b, o, none⟩) n cap, .slice (some ⟨b', o', none⟩) n cap'] w fun e w' => ∃ v, e = .returned v ∧ NatAt w' v (powU q t n) ∧ Below w.heap.size w w' := by
  have HQ := Hid.mk' (fun (W : World) (hb : Below w.heap.size w W) => h.later hb)
  have HT := Hid.mk' (fun (W : World) (hb : Below w.heap.size w W) => h'.later hb)
  have HQ4 := Hid.mk' hq
  have HLE := Hid.mk' (fun i (hi : i ≤ n) => sumU_le t hi)
  have hnI : (n : Int) ≤ 6 := by omega
  have HN1 := Hid.mk' (NatOf_1 w)
  clear h h' hq
  go_enter Tryd.func45, Tryd.ntmps45
  go_wp2_with fail
  refine HN1.out.mono ?_
  rintro e w1 ⟨v1, rfl, hv1, hb1⟩
  have HV1 := Hid.mk' hv1
  have HB1 := Hid.mk' hb1
  clear hv1 hb1 HN1
  go_wp2_with fail
  go_loopw [5, 11] (fun s i wr => ∃ k : Nat, k ≤ n ∧ i = .int .i64 k ∧ Hid (NatAt wr s (powU q t k)) ∧ Hid (Below w.heap.size w wr)) (fun _ i _ => n - (intOf i).toNat)
  case atStart => exact ⟨0, Nat.zero_le _, rfl, HV1.out, HB1.out⟩
  case round =>
    clear HV1 HB1
    obtain ⟨k, hk, rfl, HV, HB⟩ := hrel
    rcases Nat.lt_or_ge k n with h1 | h1
    · have hkn : (k : Int) < (n : Int) := by omega
      have c1 := HQ.out _ HB.out k h1
      have c2 := HT.out _ HB.out k h1
      have hle := HLE.out (k + 1) h1
      have hq4 := HQ4.out k h1
      have hsu : sumU t (k + 1) = sumU t k + t k := rfl
      have HPU : Hid (powU q t (k + 1) = powU q t k * q k ^ t k) := rfl
      have HTP := Hid.mk' (TimesPower_all u5 (powU q t k) (q k) (t k) 4 wr HV.out (by omega) (by omega) (by rw [← HPU.out]; exact powU_small (fun i hi => HQ4.out i (by omega)) (by omega)) (by decide) (powU_small (fun i hi => HQ4.out i (by omega)) (by omega)))
      have htb : t k ≤ 20 := by omega
      obtain ⟨l, _, _, _, h4⟩ := HV.out
      obtain ⟨ad, cq, hu5⟩ := h4.form
      clear h4 hsu hle
      obtain ⟨x, hx⟩ : ∃ x, x = q k := ⟨_, rfl⟩
      obtain ⟨y, hy⟩ : ∃ y, y = t k := ⟨_, rfl⟩
      rw [← hx] at hq4 HPU HTP
      rw [← hy] at htb HPU HTP
      simp only [← hx] at c1
      simp only [← hy] at c2
      clear hx hy
      subst hu5
      have hxI : (x : Int) ≤ 4096 := by omega
      have hx0 : (0 : Int) ≤ (x : Int) := by omega
      have hyI : (y : Int) ≤ 20 := by omega
      have hy0 : (0 : Int) ≤ (y : Int) := by omega
      go_wp2_with fail
      refine HTP.out.mono ?_
      rintro e w3 ⟨v, rfl, hv, hb3⟩
      have HV3 := Hid.mk' hv
      have HB3 := Hid.mk' (below_chain HB.out hb3)
      clear hv hb3
      go_wp2_with fail
      exact ⟨⟨k + 1, h1, by go_num, by show NatAt _ _ _; rw [HPU.out]; exact HV3.out, HB3.out⟩, by simp [intOf]; omega⟩
    · obtain rfl : k = n := by omega
      have hkn : ¬ (k : Int) < (k : Int) := by omega
      go_wp2_with fail
      go_ret
      exact ⟨_, rfl, HV.out, HB.out⟩
end Go.Proofs.YteicjedmingplaaDoor

/- types.Chance. -/
namespace Go.Proofs.YteicjedmingplaaDoor
open Go.RowKit

set_option maxRecDepth 100000 in
theorem TyChance_bad (a : Nat → Addr) (v u : Value) (n m : Nat) (z y : Nat → Int) (w : World) (hE : Errs w a) (hv : NumsAt w v n z) (hu : NumsAt w u m y) (hn : n ≤ 1000000) (he : tyE n z ≠ 0) :
    Calls Tryd.prog 23 #[v, u] w fun e w' => e = .returned (.tuple #[.agg #[.int .i64 0, .int .i64 0], errV a (tyE n z)]) ∧ Below w.heap.size w w' := by
  obtain ⟨W0, hW0⟩ : ∃ W0, W0 = w.alloc (.cells #[.int .i64 0, .int .i64 0] 40) := ⟨_, rfl⟩
  have hb0 : Below w.heap.size w W0 := by rw [hW0]; exact new_below _ _
  have hC := Size_bad a v n z W0 (hE.below hb0) (hv.later hb0) hn he
  have HF := Hid.mk' (FrAt.fresh w 0 0)
  rw [← hW0] at HF
  obtain ⟨g0, g1, f0, f1⟩ := HF.out
  obtain ⟨ad, cap, rfl⟩ := hv.form
  obtain ⟨ad', cap', rfl⟩ := hu.form
  have HB0 := Hid.mk' hb0
  have HW0 := Hid.mk' hW0
  rw [errV_pos a he] at hC ⊢
  generalize tyE n z - 1 = j at *
  clear hb0 hW0 hE hv hu
  go_enter Tryd.func23, Tryd.ntmps23
  go_upto_region 1 with fail
  rw [← HW0.out]
  go_wp2_with fail
  refine hC.mono ?_
  clear hC
  rintro e w1 ⟨rfl, hw1⟩
  rw [hw1]
  clear hw1
  go_wp2_with fail
  refine bodyPost_ret (v := .tuple #[.agg #[.int .i64 0, .int .i64 0], _]) (by simp [results, Tryd.results23, go_sem, g0, g1]) rfl ⟨rfl, ?_⟩
  exact (HB0.out.setCell (Nat.le_refl _) _).setCell (Nat.le_refl _) _
set_option maxRecDepth 100000 in
theorem TyChance_badw (a : Nat → Addr) (v u : Value) (n m : Nat) (z y : Nat → Int) (t : Nat → Nat) (w : World) (hE : Errs w a) (hv : NumsAt w v n z) (hu : NumsAt w u m y) (hm : m ≤ 1000000) (he : tyE n z = 0) (ht : ∀ i, i < n → z i = (t i : Int)) (hw : weightsErr y m ≠ 0) :
    Calls Tryd.prog 23 #[v, u] w fun e w' => e = .returned (.tuple #[.agg #[.int .i64 0, .int .i64 0], errV a (weightsErr y m)]) ∧ Below w.heap.size w w' := by
  obtain ⟨W0, hW0⟩ : ∃ W0, W0 = w.alloc (.cells #[.int .i64 0, .int .i64 0] 40) := ⟨_, rfl⟩
  have hb0 : Below w.heap.size w W0 := by rw [hW0]; exact new_below _ _
  have hC := Size_ok a v n z t W0 (hE.below hb0) (hv.later hb0) he ht
  have hD := Valid_weights a u m y W0 (hE.below hb0) (hu.later hb0) hm
  have HF := Hid.mk' (FrAt.fresh w 0 0)
  rw [← hW0] at HF
  obtain ⟨g0, g1, f0, f1⟩ := HF.out
  obtain ⟨ad, cap, rfl⟩ := hv.form
  obtain ⟨ad', cap', rfl⟩ := hu.form
  have HB0 := Hid.mk' hb0
  have HW0 := Hid.mk' hW0
  rw [errV_pos a hw] at hD ⊢
  generalize weightsErr y m - 1 = j at *
  generalize rowU t n = R at *
  clear hb0 hW0 hE hv hu ht
  go_enter Tryd.func23, Tryd.ntmps23
  go_upto_region 1 with fail
  rw [← HW0.out]
  go_wp2_with fail
  refine hC.mono ?_
  clear hC
  rintro e w1 ⟨rfl, hw1⟩
  rw [hw1]
  clear hw1
  go_wp2_with fail
  refine hD.mono ?_
  clear hD
  rintro e w2 ⟨rfl, hw2⟩
  rw [hw2]
  clear hw2
  go_wp2_with fail
  refine bodyPost_ret (v := .tuple #[.agg #[.int .i64 0, .int .i64 0], _]) (by simp [results, Tryd.results23, go_sem, g0, g1]) rfl ⟨rfl, ?_⟩
  exact (HB0.out.setCell (Nat.le_refl _) _).setCell (Nat.le_refl _) _
set_option maxRecDepth 100000 in
theorem TyChance_len (a : Nat → Addr) (v u : Value) (n m : Nat) (z y : Nat → Int) (t : Nat → Nat) (w : World) (hE : Errs w a) (hv : NumsAt w v n z) (hu : NumsAt w u m y) (hm : m ≤ 1000000) (he : tyE n z = 0) (ht : ∀ i, i < n → z i = (t i : Int)) (hw : weightsErr y m = 0) (hne : n ≠ m) :
    Calls Tryd.prog 23 #[v, u] w fun e w' => e = .returned (.tuple #[.agg #[.int .i64 0, .int .i64 0], errV a 3]) ∧ Below w.heap.size w w' := by
  obtain ⟨W0, hW0⟩ : ∃ W0, W0 = w.alloc (.cells #[.int .i64 0, .int .i64 0] 40) := ⟨_, rfl⟩
  have hb0 : Below w.heap.size w W0 := by rw [hW0]; exact new_below _ _
  have hC := Size_ok a v n z t W0 (hE.below hb0) (hv.later hb0) he ht
  have hD := Valid_weights a u m y W0 (hE.below hb0) (hu.later hb0) hm
  have HF := Hid.mk' (FrAt.fresh w 0 0)
  rw [← hW0] at HF
  obtain ⟨g0, g1, f0, f1⟩ := HF.out
  have e2 := (hE.below hb0).c2
  obtain ⟨ad, cap, rfl⟩ := hv.form
  obtain ⟨ad', cap', rfl⟩ := hu.form
  have HB0 := Hid.mk' hb0
  have HW0 := Hid.mk' hW0
  rw [hw, errV_zero] at hD
  rw [errV_three]
  generalize rowU t n = R at *
  have hnb : ((n : Int) != (m : Int)) = true := by simp; omega
  have hne2 : ¬ 1 = w.heap.size := by have := cell_lt hE.c2; have h2 : 1 < w.heap.size := this; omega
  clear hb0 hW0 hE hv hu ht
  go_enter Tryd.func23, Tryd.ntmps23
  go_upto_region 1 with fail
  rw [← HW0.out]
  go_wp2_with fail
  refine hC.mono ?_
  clear hC
  rintro e w1 ⟨rfl, hw1⟩
  rw [hw1]
  clear hw1
  go_wp2_with fail
  refine hD.mono ?_
  clear hD
  rintro e w2 ⟨rfl, hw2⟩
  rw [hw2]
  clear hw2
  go_wp2_with fail
  go_region
  all_goals
    go_wp2_with fail
    refine bodyPost_ret (v := .tuple #[.agg #[.int .i64 0, .int .i64 0], _]) (by simp [results, Tryd.results23, go_sem, g0, g1]) rfl ⟨rfl, ?_⟩
    exact ((HB0.out.drew).setCell (Nat.le_refl _) _).setCell (Nat.le_refl _) _
set_option maxRecDepth 100000 in
set_option maxHeartbeats 1000000 in
theorem TyChance_ok (a : Nat → Addr) (b o cap b' o' cap' n S : Nat) (z y : Nat → Int) (t q : Nat → Nat) (p r : Int) (er : Value) (w : World) (hE : Errs w a) (hz : RowAt w b o n z) (hy : RowAt w b' o' n y) (he : tyE n z = 0) (ht : ∀ i, i < n → z i = (t i : Int)) (hw : weightsErr y n = 0) (hq : ∀ i, i < n → y i = (q i : Int)) (hS : sumU q n = S) (hv : toldV a (powU q t n * rowU t n) (S ^ sumU t n) = .tuple #[.agg #[.int .i64 p, .int .i64 r], er]) :
    Calls Tryd.prog 23 #[.slice (some ⟨b, o, none⟩) n cap, .slice (some ⟨b', o', none⟩) n cap'] w fun e w' => e = .returned (.tuple #[.agg #[.int .i64 p, .int .i64 r], er]) ∧ Below w.heap.size w w' := by
  obtain ⟨h0, h6, hz0, hs⟩ := tyE_ok he
  have hw2 := weightsErr_ok hw
  have hWS : sumN y n = (S : Int) := by rw [sumU_sumN hq, hS]
  have hS0 : 0 < S := by have := hw2.2.pos; rw [hWS] at this; omega
  have hS4 : S ≤ 4096 := by have := hw2.2.le; rw [hWS] at this; omega
  rw [sumU_sumN ht] at hs
  have hq4 : ∀ i, i < n → q i ≤ 4096 := fun i hi => by
    have h1 : sumU q i + q i ≤ sumU q n := sumU_le q (show i + 1 ≤ n from hi)
    omega
  obtain ⟨W0, hW0⟩ : ∃ W0, W0 = w.alloc (.cells #[.int .i64 0, .int .i64 0] 40) := ⟨_, rfl⟩
  have hb0 : Below w.heap.size w W0 := by rw [hW0]; exact new_below _ _
  have HB0 := Hid.mk' hb0
  have HKS : Hid (∀ W, Below W0.heap.size W0 W → FrAt W w.heap.size 0 0) := fun W hb => by
    have := FrAt.fresh w 0 0
    rw [← hW0] at this
    exact this.later hb
  have HE : Hid (∀ W, Below W0.heap.size W0 W → Errs W a) := fun W hb => hE.below (below_chain hb0 hb)
  have HRT : Hid (∀ W, Below W0.heap.size W0 W → RowAt W b o n (fun i => (t i : Int))) := fun W hb i hi => by have := hz.later (below_chain hb0 hb) i hi; rw [ht i hi] at this; exact this
  have HRQ : Hid (∀ W, Below W0.heap.size W0 W → RowAt W b' o' n (fun i => (q i : Int))) := fun W hb i hi => by have := hy.later (below_chain hb0 hb) i hi; rw [hq i hi] at this; exact this
  have hC := Size_ok a (.slice (some ⟨b, o, none⟩) n cap) n z t W0 (hE.below hb0) (Or.inr ⟨b, o, cap, rfl, h0, hz.later hb0⟩) he ht
  have hD := Valid_weights a (.slice (some ⟨b', o', none⟩) n cap') n y W0 (hE.below hb0) (Or.inr ⟨b', o', cap', rfl, h0, hy.later hb0⟩) (by omega)
  rw [hw, errV_zero] at hD
  have hsn : ∀ (f : Nat → Nat) k, sumN (fun i => (f i : Int)) k = (sumU f k : Int) := fun f k => sumU_sumN (fun i _ => rfl)
  have HTQ : Hid (∀ W, Below W0.heap.size W0 W → Calls Tryd.prog 43 #[.slice (some ⟨b', o', none⟩) n cap'] W fun e w' => e = .returned (.int .i64 (S : Int)) ∧ w' = W) := fun W hb => by
    have h1 := Total_row b' o' cap' n (fun i => (q i : Int)) W (HRQ.out W hb) (fun k hk => by rw [hsn]; have := sumU_le q hk; omega) (fun i hi => by have := hq4 i hi; show 0 ≤ (q i : Int) ∧ (q i : Int) ≤ 1000000; omega) (by omega)
    rw [hsn, hS] at h1
    exact h1
  have HTT : Hid (∀ W, Below W0.heap.size W0 W → Calls Tryd.prog 43 #[.slice (some ⟨b, o, none⟩) n cap] W fun e w' => e = .returned (.int .i64 (sumU t n : Nat)) ∧ w' = W) := fun W hb => by
    have h1 := Total_row b o cap n (fun i => (t i : Int)) W (HRT.out W hb) (fun k hk => by rw [hsn]; have := sumU_le t hk; omega) (fun i hi => by have h1 : sumU t i + t i ≤ sumU t n := sumU_le t (show i + 1 ≤ n from hi); show 0 ≤ (t i : Int) ∧ (t i : Int) ≤ 1000000; omega) (by omega)
    rw [hsn] at h1
    exact h1
  have HPW : Hid (∀ W, Below W0.heap.size W0 W → Calls Tryd.prog 45 #[.slice (some ⟨b', o', none⟩) n cap', .slice (some ⟨b, o, none⟩) n cap] W fun e w' => ∃ v, e = .returned v ∧ NatAt w' v (powU q t n) ∧ Below W.heap.size W w') := fun W hb => powers_any b' o' cap' b o cap n q t W (HRQ.out W hb) (HRT.out W hb) h6 hq4 (by omega)
  have hm20 : sumU t n ≤ 20 := by omega
  have hP := powU_small hq4 hm20
  have hR := rowU_le t (k := n) (by omega)
  have hR0 := rowU_pos t n (by omega)
  generalize rowU t n = R at *
  generalize powU q t n = P at *
  generalize sumU t n = m at *
  have hSm : S ^ m < 18446744073709551616 ^ 4 := Nat.lt_of_le_of_lt (Nat.pow_le_pow_left hS4 m) (Nat.lt_of_le_of_lt (Nat.pow_le_pow_right (by decide) hm20) (by decide +kernel))
  have HTP : Hid (∀ W v, NatAt W v 1 → Calls Tryd.prog 42 #[v, .int .u64 (S : Int), .int .i64 (m : Int)] W fun e w' => ∃ v, e = .returned v ∧ NatAt w' v (S ^ m) ∧ Below W.heap.size W w') := fun W v h => by
    have := TimesPower_any v 1 S m 4 W h hS0 (by omega) (by omega) (by rw [Nat.one_mul]; exact hSm) (by decide)
    rw [Nat.one_mul] at this
    exact this
  have HTM : Hid (∀ W v, NatAt W v P → Calls Tryd.prog 46 #[v, .int .u64 (R : Int)] W fun e w' => ∃ v, e = .returned v ∧ NatAt w' v (P * R) ∧ Below W.heap.size W w') := fun W v h => Times_any v P R 4 W h hR0 (by omega) hP (by decide)
  have hPR : P * R < 18446744073709551616 ^ 5 := Nat.lt_of_lt_of_le (Nat.mul_lt_mul_of_lt_of_le hP (show R ≤ 18446744073709551616 by omega) (by decide)) (by decide +kernel)
  have HTO : Hid (∀ W u v, Below W0.heap.size W0 W → NatAt W u (P * R) → NatAt W v (S ^ m) → Calls Tryd.prog 44 #[u, v] W fun e w' => e = .returned (.tuple #[.agg #[.int .i64 p, .int .i64 r], er]) ∧ Below W.heap.size W w') := fun W u v hb hu hv2 => by
    have := Told_any a u v (P * R) (S ^ m) 5 W (HE.out W hb) hu hv2 (Nat.pow_pos hS0) hPR (Nat.lt_of_lt_of_le hSm (by decide +kernel)) (by decide)
    rw [hv] at this
    exact this
  have HN1 := Hid.mk' NatOf_1
  have HW0 := Hid.mk' hW0
  have hRI : (R : Int) ≤ 2432902008176640000 := by omega
  have hR0I : (0 : Int) ≤ (R : Int) := by omega
  have hSI : (S : Int) ≤ 4096 := by omega
  have hSI0 : (0 : Int) ≤ (S : Int) := by omega
  clear hb0 hE hz hy ht hq hS hsn hP hPR hSm hv hW0 hw2 hWS
  go_enter Tryd.func23, Tryd.ntmps23
  go_upto_region 1 with fail
  rw [← HW0.out]
  clear HW0
  go_wp2_with fail
  refine hC.mono ?_
  clear hC
  rintro e w1 ⟨rfl, hw1⟩
  rw [hw1]
  clear hw1 w1
  go_wp2_with fail
  refine hD.mono ?_
  clear hD
  rintro e w2 ⟨rfl, hw2⟩
  rw [hw2]
  clear hw2 w2
  go_wp2_with fail
  refine (HN1.out _).mono ?_
  rintro e w1 ⟨v1, rfl, hv1, hb1⟩
  have HV1 := Hid.mk' hv1
  have HB1 := Hid.mk' hb1
  obtain ⟨x1, l1, c1, rfl⟩ : ∃ x l c, v1 = .slice x l c := by
    obtain ⟨l, _, _, _, h4⟩ := hv1
    obtain ⟨ad, cq, h5⟩ := h4.form
    exact ⟨_, _, _, h5⟩
  clear hv1 hb1
  go_wp2_with fail
  refine (HTQ.out _ HB1.out).mono ?_
  rintro e w2 ⟨rfl, hw2⟩
  rw [hw2]
  clear hw2 w2
  go_wp2_with fail
  refine (HTT.out _ HB1.out).mono ?_
  rintro e w2 ⟨rfl, hw2⟩
  rw [hw2]
  clear hw2 w2
  go_wp2_with fail
  refine (HTP.out _ _ HV1.out).mono ?_
  rintro e w3 ⟨v3, rfl, hv3, hb3⟩
  have HV3 := Hid.mk' hv3
  have HB3 := Hid.mk' (below_chain HB1.out hb3)
  obtain ⟨x3, l3, c3, rfl⟩ : ∃ x l c, v3 = .slice x l c := by
    obtain ⟨l, _, _, _, h4⟩ := hv3
    obtain ⟨ad, cq, h5⟩ := h4.form
    exact ⟨_, _, _, h5⟩
  clear hv3 hb3
  go_wp2_with fail
  refine (HPW.out _ HB3.out).mono ?_
  rintro e w4 ⟨v4, rfl, hv4, hb4⟩
  have HV4 := Hid.mk' hv4
  have HV3b := Hid.mk' (HV3.out.later hb4)
  have HB4 := Hid.mk' (below_chain HB3.out hb4)
  obtain ⟨x4, l4, c4, rfl⟩ : ∃ x l c, v4 = .slice x l c := by
    obtain ⟨l, _, _, _, h4⟩ := hv4
    obtain ⟨ad, cq, h5⟩ := h4.form
    exact ⟨_, _, _, h5⟩
  clear hv4 hb4
  go_wp2_with fail
  refine (HTM.out _ _ HV4.out).mono ?_
  rintro e w5 ⟨v5, rfl, hv5, hb5⟩
  have HV5 := Hid.mk' hv5
  have HV3c := Hid.mk' (HV3b.out.later hb5)
  have HB5 := Hid.mk' (below_chain HB4.out hb5)
  obtain ⟨x5, l5, c5, rfl⟩ : ∃ x l c, v5 = .slice x l c := by
    obtain ⟨l, _, _, _, h4⟩ := hv5
    obtain ⟨ad, cq, h5⟩ := h4.form
    exact ⟨_, _, _, h5⟩
  clear hv5 hb5
  go_wp2_with fail
  refine (HTO.out _ _ _ HB5.out HV5.out HV3c.out).mono ?_
  rintro e w6 ⟨rfl, hb6⟩
  have HB6 := Hid.mk' (below_chain HB5.out hb6)
  obtain ⟨g0, g1, f0, f1⟩ := HKS.out _ HB6.out
  have HB7 := Hid.mk' (below_chain HB0.out HB6.out)
  clear hb6
  obtain ⟨y0, y1⟩ := (put_two (.int .i64 p) (.int .i64 r) g0 g1).2
  go_wp2_with fail
  refine bodyPost_ret (v := .tuple #[.agg #[.int .i64 p, .int .i64 r], er]) (by simp [results, Tryd.results23, go_sem, y0, y1]) rfl ⟨rfl, ?_⟩
  exact (HB7.out.setCell (Nat.le_refl _) _).setCell (Nat.le_refl _) _
end Go.Proofs.YteicjedmingplaaDoor

/- The document's chance of a type. -/
namespace Go.Proofs.YteicjedmingplaaDoor
open Go.RowKit

theorem chN_small {q t : Nat → Nat} {i k x : Nat} (hq : ∀ j, j < i → q j ≤ 4096) (hx : x ≤ 4096) (hs : sumU t i + k ≤ 20) {R : Nat} (hR : R ≤ 2432902008176640000) : R * (powU q t i * x ^ k) < 1000000 ^ 20 := by
  have h1 : powU q t i * x ^ k ≤ 4096 ^ (sumU t i + k) := by
    rw [Nat.pow_add]
    exact Nat.mul_le_mul (powU_le hq) (Nat.pow_le_pow_left hx _)
  have h2 : powU q t i * x ^ k ≤ 4096 ^ 20 := Nat.le_trans h1 (Nat.pow_le_pow_right (by decide) hs)
  exact Nat.lt_of_le_of_lt (Nat.mul_le_mul hR h2) (by decide +kernel)
set_option maxRecDepth 100000 in
set_option maxHeartbeats 4000000 in
theorem TypeChance_any (b o cap b' o' cap' n S : Nat) (q t : Nat → Nat) (w : World) (hr : RowAt w b o n (fun i => (t i : Int))) (hr' : RowAt w b' o' n (fun i => (q i : Int))) (hn : n ≤ 6) (hs : sumU t n ≤ 20) (hq : ∀ i, i < n → q i ≤ 4096) (hS : sumU q n = S) (hS0 : 0 < S) (hS4 : S ≤ 4096) :
    Calls Tryd.prog 22 #[.slice (some ⟨b, o, none⟩) n cap, .slice (some ⟨b', o', none⟩) n cap'] w fun e w' => ∃ v, e = .returned v ∧ RatioAt w' v (lowN (S ^ sumU t n) ((rowU t n * powU q t n : Nat) : Int)) (lowD (S ^ sumU t n) ((rowU t n * powU q t n : Nat) : Int)) ∧ Below w.heap.size w w' := by
  obtain ⟨W0, hW0⟩ : ∃ W0, W0 = w.alloc (.cells #[.bool false, .slice none 0 0, .slice none 0 0] 47) := ⟨_, rfl⟩
  have hb0 : Below w.heap.size w W0 := by rw [hW0]; exact (Below.refl _ _).alloc (Nat.le_refl _) _
  have HR0 : Hid (∀ W, Below W0.heap.size W0 W → RBox W w.heap.size false none 0 0 none 0 0 0 0) := fun W hb => by
    have h : RBox W0 w.heap.size false none 0 0 none 0 0 0 0 := by rw [hW0]; exact RBox.fresh (w := w) ⟨_, _, rfl, big_none w, big_none w⟩
    exact h.later hb
  have HB0 := Hid.mk' hb0
  have HRW : Hid (∀ W, Below W0.heap.size W0 W → RowAt W b o n (fun i => (t i : Int))) := fun W hb => hr.later (below_chain hb0 hb)
  have HRQ : Hid (∀ W, Below W0.heap.size W0 W → RowAt W b' o' n (fun i => (q i : Int))) := fun W hb => hr'.later (below_chain hb0 hb)
  have HLE := Hid.mk' (fun i (hi : i ≤ n) => sumU_le t hi)
  have HQ4 := Hid.mk' hq
  have hsq : ∀ k, k ≤ n → sumN (fun i => (q i : Int)) k = (sumU q k : Int) := fun k _ => sumU_sumN (fun i _ => rfl)
  have HSM : Hid (∀ W, Below W0.heap.size W0 W → Calls Tryd.prog 24 #[.slice (some ⟨b', o', none⟩) n cap'] W fun e w' => e = .returned (.int .i64 (S : Int)) ∧ w' = W) := fun W hb => by
    have h1 := Sum_some b' o' cap' n (fun i => (q i : Int)) W (HRQ.out W hb) (fun k hk => by rw [hsq k hk]; have := sumU_le q hk; omega) (fun i hi => by have := hq i hi; show -1000000 ≤ (q i : Int) ∧ (q i : Int) ≤ 1000000; omega) (by omega)
    rw [hsq n (Nat.le_refl _), hS] at h1
    exact h1
  have HRO := Hid.mk' (fun (W : World) (hb : Below W0.heap.size W0 W) => RowsOf_any b o cap n t W (HRW.out W hb) hn hs)
  have HRL := Hid.mk' (rowU_le t (k := n) (by omega))
  generalize rowU t n = R at HRO HRL ⊢
  have hnI : (n : Int) ≤ 6 := by omega
  clear hb0 hr hr' hq hsq hS
  go_enter Tryd.func22, Tryd.ntmps22
  go_upto_region 1 with fail
  rw [← hW0]
  have HLT : Hid (w.heap.size < W0.heap.size) := by show _ < _; rw [hW0]; simp
  clear hW0
  have hcur := Below.refl W0.heap.size W0
  go_wp2_with fail
  refine (HRO.out _ hcur).mono ?_
  rintro e w1 ⟨r, rfl, hr, hb1⟩
  obtain ⟨s1, x1, l1, c1, x1', l1', c1', rfl⟩ := hr.sl
  have HR1 := Hid.mk' (RBox.fresh hr)
  have hcur := below_chain hcur hb1
  have HLT1 := Hid.mk' hcur.size
  have HCUR := Hid.mk' (hcur.alloc hcur.size (.cells #[.bool s1, .slice x1 l1 c1, .slice x1' l1' c1'] 47))
  clear hr hb1 hcur HRO
  go_wp2_with fail
  generalize w1.alloc (.cells #[.bool s1, .slice x1 l1 c1, .slice x1' l1' c1'] 47) = W1 at *
  generalize w1.heap.size = B1 at *
  go_loopw [6] (fun i wr => ∃ (k : Nat) (s1 : Bool) (x1 x1' : Option Addr) (l1 c1 l1' c1' : Nat), k ≤ n ∧ i = .int .i64 k ∧ Hid (RBox wr B1 s1 x1 l1 c1 x1' l1' c1' (lowN (S ^ sumU t k) ((R * powU q t k : Nat) : Int)) (lowD (S ^ sumU t k) ((R * powU q t k : Nat) : Int))) ∧ Hid (Below W0.heap.size W0 wr)) (fun i _ => n - (intOf i).toNat)
  case atStart => exact ⟨0, s1, x1, x1', l1, c1, l1', c1', Nat.zero_le _, rfl, by show RBox _ _ _ _ _ _ _ _ _ _ _; simpa [sumU, powU] using HR1.out, HCUR.out⟩
  case round =>
    clear HR1 HCUR
    obtain ⟨i, s1, x1, x1', l1, c1, l1', c1', hk, rfl, HR1, HB⟩ := hrel
    have hi0 : (0 : Int) ≤ (i : Int) := by omega
    rcases Nat.lt_or_ge i n with h1 | h1
    · have hiI : (i : Int) < (n : Int) := by omega
      have hle := HLE.out (i + 1) h1
      have hsu : sumU t (i + 1) = sumU t i + t i := rfl
      have HSU := Hid.mk' hsu
      have HPU : Hid (powU q t (i + 1) = powU q t i * q i ^ t i) := rfl
      rw [hsu] at hle
      clear hsu
      have HTI : Hid (∀ W, Below W0.heap.size W0 W → W.cell? ⟨b, o + i, none⟩ = some (.int .i64 (t i : Int))) := fun W hb => HRW.out W hb i h1
      have HQI : Hid (∀ W, Below W0.heap.size W0 W → W.cell? ⟨b', o' + i, none⟩ = some (.int .i64 (q i : Int))) := fun W hb => HRQ.out W hb i h1
      have hq4 := HQ4.out i h1
      have HCN : Hid (∀ k, k ≤ t i → R * (powU q t i * q i ^ k) < 1000000 ^ 20) := fun k hk => chN_small (fun j hj => HQ4.out j (by omega)) hq4 (by omega) HRL.out
      obtain ⟨s, hss⟩ : ∃ s, s = sumU t i := ⟨_, rfl⟩
      rw [← hss] at HSU hle HR1
      obtain ⟨P, hPP⟩ : ∃ P, P = powU q t i := ⟨_, rfl⟩
      rw [← hPP] at HPU HCN HR1
      obtain ⟨x, hxx⟩ : ∃ x, x = t i := ⟨_, rfl⟩
      rw [← hxx] at HSU HPU hle HTI HCN
      obtain ⟨y, hyy⟩ : ∃ y, y = q i := ⟨_, rfl⟩
      rw [← hyy] at HPU HQI HCN hq4
      clear hss hPP hxx hyy
      have hx0 : (0 : Int) ≤ (x : Int) := by omega
      have hsx : (s : Int) + (x : Int) ≤ 20 := by omega
      have hy0 : (0 : Int) ≤ (y : Int) := by omega
      have hy4 : (y : Int) ≤ 4096 := by omega
      go_wp2_with fail
      go_loopw [7] (fun q wr => ∃ (k : Nat) (s1 : Bool) (x1 x1' : Option Addr) (l1 c1 l1' c1' : Nat), k ≤ x ∧ q = .int .i64 (k : Int) ∧ Hid (RBox wr B1 s1 x1 l1 c1 x1' l1' c1' (lowN (S ^ (s + k)) ((R * (P * y ^ k) : Nat) : Int)) (lowD (S ^ (s + k)) ((R * (P * y ^ k) : Nat) : Int))) ∧ Hid (Below W0.heap.size W0 wr)) (fun q _ => x - (intOf q).toNat)
      case atStart => exact ⟨0, s1, x1, x1', l1, c1, l1', c1', Nat.zero_le _, rfl, by show RBox _ _ _ _ _ _ _ _ _ _ _; simpa using HR1.out, HB.out⟩
      case round =>
        clear HR1 HB
        obtain ⟨wx, rfl⟩ : ∃ wx, wx = wr := ⟨_, rfl⟩
        obtain ⟨k, s1, x1, x1', l1, c1, l1', c1', hkx, rfl, HR1, HB⟩ := hrel
        have hk0 : (0 : Int) ≤ (k : Int) := by omega
        have hct := HTI.out _ HB.out
        rcases Nat.lt_or_ge k x with h2 | h2
        · have hkI : (k : Int) < (x : Int) := by omega
          have HRA : Hid (∀ W, Calls Tryd.prog 25 #[.int .i64 (y : Int), .int .i64 (S : Int)] W fun e w' => ∃ r, e = .returned r ∧ RatioAt w' r (lowN S (y : Int)) (lowD S (y : Int)) ∧ Below W.heap.size W w') := fun W => RatioOf_any (y : Int) S W (by omega) (by omega) hS0 (by omega)
          have HTM : Hid (∀ W u v, RatioAt W u (lowN (S ^ (s + k)) ((R * (P * y ^ k) : Nat) : Int)) (lowD (S ^ (s + k)) ((R * (P * y ^ k) : Nat) : Int)) → RatioAt W v (lowN S (y : Int)) (lowD S (y : Int)) → Calls Tryd.prog 38 #[u, v] W fun e w' => ∃ r, e = .returned r ∧ RatioAt w' r (lowN (S ^ (s + (k + 1))) ((R * (P * y ^ (k + 1)) : Nat) : Int)) (lowD (S ^ (s + (k + 1))) ((R * (P * y ^ (k + 1)) : Nat) : Int)) ∧ Below W.heap.size W w') := fun W u v hu hv => by
            have h3 := Times_step (S ^ (s + k)) S (R * (P * y ^ k)) y (Nat.pow_pos hS0) hS0 (pow_small hS4 (by omega)) (Nat.lt_of_le_of_lt hS4 (by decide)) (HCN.out k hkx) (Nat.lt_of_le_of_lt hq4 (by decide)) u v W hu hv
            rw [← Nat.pow_succ, show R * (P * y ^ k) * y = R * (P * y ^ (k + 1)) by rw [Nat.pow_succ, Nat.mul_assoc, Nat.mul_assoc]] at h3
            exact h3
          have y0 := HR1.out.c0
          have y1 := HR1.out.c1
          have y2 := HR1.out.c2
          have HKS : Hid (∀ W, Below wx.heap.size wx W → (W.cell? ⟨B1, 0, none⟩ = some (.bool s1) ∧ W.cell? ⟨B1, 1, none⟩ = some (.slice x1 l1 c1) ∧ W.cell? ⟨B1, 2, none⟩ = some (.slice x1' l1' c1') ∧ W.cell? ⟨b', o' + i, none⟩ = some (.int .i64 (y : Int)))) := fun W hb => ⟨by rw [hb.cell (cell_lt y0)]; exact y0, by rw [hb.cell (cell_lt y1)]; exact y1, by rw [hb.cell (cell_lt y2)]; exact y2, HQI.out W (below_chain HB.out hb)⟩
          have HLW := Hid.mk' (fun (W : World) (hb : Below wx.heap.size wx W) => HR1.out.later hb)
          have hcur : Below wx.heap.size wx wx.drew := (Below.refl _ _).drew
          clear y0 y1 y2
          go_wp2_with fail
          refine region_but_last (n := 9) (S := fun W => W.cell? ⟨B1, 0, none⟩ = some (.bool s1) ∧ W.cell? ⟨B1, 1, none⟩ = some (.slice x1 l1 c1) ∧ W.cell? ⟨B1, 2, none⟩ = some (.slice x1' l1' c1') ∧ W.cell? ⟨b', o' + i, none⟩ = some (.int .i64 (y : Int))) (by kernel_rfl) (by kernel_rfl) (by kernel_rfl) (HKS.out _ hcur) (fun hHeld => ?_)
          refine wpAnyH_take (i := 0) (v := ?v0a) rfl (by kernel_rfl) (by kernel_rfl) (by kernel_rfl) (fun _ _ _ h => h) (Or.inl ⟨by rfl, ?hy0a⟩) (by assumption) ?rest0a
          case hy0a => (intro w hSw; (try dsimp only at hSw); go_simp <;> (try with_reducible rfl))
          simp only [Act.put]
          refine wpAnyH_take (i := 1) (v := ?v1a) rfl (by kernel_rfl) (by kernel_rfl) (by kernel_rfl) (fun _ _ _ h => h) (Or.inl ⟨by rfl, ?hy1a⟩) (by assumption) ?rest1a
          case hy1a => (intro w hSw; (try dsimp only at hSw); go_simp <;> (try with_reducible rfl))
          simp only [Act.put]
          refine wpAnyH_take (i := 2) (v := ?v2a) rfl (by kernel_rfl) (by kernel_rfl) (by kernel_rfl) (fun _ _ _ h => h) (Or.inl ⟨by rfl, ?hy2a⟩) (by assumption) ?rest2a
          case hy2a => (intro w hSw; (try dsimp only at hSw); go_simp <;> (try with_reducible rfl))
          simp only [Act.put]
          refine wpAnyH_take (i := 3) (v := ?v3a) rfl (by kernel_rfl) (by kernel_rfl) (by kernel_rfl) (fun _ _ _ h => h) (Or.inl ⟨by rfl, ?hy3a⟩) (by assumption) ?rest3a
          case hy3a => (intro w hSw; (try dsimp only at hSw); go_simp <;> (try with_reducible rfl))
          simp only [Act.put]
          refine wpAnyH_take (i := 4) (v := ?v4a) rfl (by kernel_rfl) (by kernel_rfl) (by kernel_rfl) (fun _ _ _ h => h) (Or.inl ⟨by rfl, ?hy4a⟩) (by assumption) ?rest4a
          case hy4a => (intro w hSw; (try dsimp only at hSw); go_simp <;> (try with_reducible rfl))
          simp only [Act.put]
          refine wpAnyH_take (i := 5) (v := ?v5a) rfl (by kernel_rfl) (by kernel_rfl) (by kernel_rfl) (fun _ _ _ h => h) (Or.inl ⟨by rfl, ?hy5a⟩) (by assumption) ?rest5a
          case hy5a => (intro w hSw; (try dsimp only at hSw); go_simp <;> (try with_reducible rfl))
          simp only [Act.put]
          refine wpAnyH_ready (rs := [6]) (by kernel_rfl) (by simp) ?_
          refine AllReadyH.cons rfl (fun K hK => ?_) AllReadyH.nil
          go_simp
          refine (HSM.out _ (below_chain HB.out hcur)).mono ?_
          rintro e w4 ⟨rfl, hw4⟩
          rw [hw4]
          clear hw4 w4
          go_wp2_with fail
          refine hK.out _ _ ?_ (fun hHeld => ?_)
          · exact HKS.out _ hcur
          clear hK K
          refine wpAnyH_ready (rs := [7]) (by kernel_rfl) (by simp) ?_
          refine AllReadyH.cons rfl (fun K hK => ?_) AllReadyH.nil
          go_simp
          refine (HRA.out _).mono ?_
          rintro e w5 ⟨r1, rfl, hr1, hb5⟩
          have hcur := below_chain hcur hb5
          have HX1 := Hid.mk' hr1
          obtain ⟨t1, p1, m1, q1, p1', m1', q1', hr1e⟩ := hr1.sl
          subst hr1e
          clear hr1
          go_wp2_with fail
          refine hK.out _ _ ?_ (fun hHeld => ?_)
          · exact HKS.out _ hcur
          clear hK K
          refine wpAnyH_ready (rs := [8]) (by kernel_rfl) (by simp) ?_
          refine AllReadyH.cons rfl (fun K hK => ?_) AllReadyH.nil
          go_simp
          refine (HTM.out _ _ _ (HLW.out _ hcur).rat HX1.out).mono ?_
          rintro e w7 ⟨r3, rfl, hr3, hb7⟩
          have hcur := below_chain hcur hb7
          have HX3 := Hid.mk' hr3
          obtain ⟨t3, p3, m3, q3, p3', m3', q3', hr3e⟩ := hr3.sl
          subst hr3e
          clear hr3
          have hL := HLW.out _ hcur
          have fz0 := hL.fz 0 (by decide)
          have fz1 := hL.fz 1 (by decide)
          have fz2 := hL.fz 2 (by decide)
          have k0 := hL.c0
          have k1 := hL.c1
          have k2 := hL.c2
          obtain ⟨⟨g0, g1⟩, ⟨g2, g3⟩, g4⟩ := put_three' (.bool t3) (.slice p3 m3 q3) (.slice p3' m3' q3') k0 k1 k2
          have HSET := Hid.mk' (hL.put HX3.out)
          clear hL
          go_wp2_with fail
          refine hK.out _ _ ?_ (fun hHeld => ?_)
          · exact HKS.out _ hcur
          clear hK K
          refine wpAnyH_done (by kernel_rfl) ?_ _
          refine ahead_last rfl (fun K hK => ?_)
          go_simp
          refine hK _ _ ?_
          clear hK K
          unfold put3 at HSET
          have HB8 : Hid (Below W0.heap.size W0 (((w7.setCell ⟨B1, 0, none⟩ (.bool t3)).setCell ⟨B1, 1, none⟩ (.slice p3 m3 q3)).setCell ⟨B1, 2, none⟩ (.slice p3' m3' q3'))) := (((below_chain HB.out hcur).setCell HLT1.out _).setCell HLT1.out _).setCell HLT1.out _
          generalize ((w7.setCell ⟨B1, 0, none⟩ (.bool t3)).setCell ⟨B1, 1, none⟩ (.slice p3 m3 q3)).setCell ⟨B1, 2, none⟩ (.slice p3' m3' q3') = W8 at *
          clear HX1 HX3 hHeld g0 g1 g2 g3 g4 k0 k1 k2 fz0 fz1 fz2 hcur HKS HLW hb5 hb7 HR1
          go_wp2_with fail
          exact ⟨⟨k + 1, _, _, _, _, _, _, _, h2, by go_num, HSET.out, HB8.out⟩, by simp [intOf]; omega⟩
        · obtain rfl : k = x := by omega
          have hkI : ¬ (k : Int) < (k : Int) := by omega
          go_wp2_with fail
          refine ⟨⟨i + 1, s1, x1, x1', l1, c1, l1', c1', h1, by go_num, ?_, HB.out⟩, by simp [intOf]; omega⟩
          show RBox _ _ _ _ _ _ _ _ _ _ _
          rw [HSU.out, HPU.out]
          exact HR1.out
    · obtain rfl : i = n := by omega
      have hiI : ¬ (i : Int) < (i : Int) := by omega
      have y0 := HR1.out.c0
      have y1 := HR1.out.c1
      have y2 := HR1.out.c2
      have hR := HR0.out _ HB.out
      have z0 := hR.c0
      have z1 := hR.c1
      have z2 := hR.c2
      have f0 := hR.fz 0 (by decide)
      have f1 := hR.fz 1 (by decide)
      have f2 := hR.fz 2 (by decide)
      obtain ⟨⟨g0, g1⟩, ⟨g2, g3⟩, g4⟩ := put_three' (.bool s1) (.slice x1 l1 c1) (.slice x1' l1' c1') z0 z1 z2
      have HP := Hid.mk' (hR.put HR1.out.rat)
      have HBF := Hid.mk' (below_chain HB0.out HB.out)
      clear hR
      unfold put3 at HP
      go_wp2_with fail
      refine bodyPost_ret (v := .agg #[.bool s1, .slice x1 l1 c1, .slice x1' l1' c1']) (by simp [results, Tryd.results22, go_sem, HP.out.c0, HP.out.c1, HP.out.c2]) rfl ⟨_, rfl, ?_, ?_⟩
      · exact HP.out.rat
      · exact (((HBF.out.setCell (Nat.le_refl _) _).setCell (Nat.le_refl _) _).setCell (Nat.le_refl _) _)
end Go.Proofs.YteicjedmingplaaDoor

/- A row of numbers that is made and filled. -/
namespace Go.Proofs.YteicjedmingplaaDoor
open Go.RowKit

/-- The row that is filled. -/
structure Fills (w wr : World) (g T : Nat) (f : Nat → Int) : Prop where
  row : RowAt wr g 0 T f
  fz : ∀ i, i < T → wr.frozen? ⟨g, 0 + i, none⟩ = false
  below : Below w.heap.size w wr
  hg : w.heap.size ≤ g
theorem Fills.set {w wr : World} {g T : Nat} {f : Nat → Int} (h : Fills w wr g T f) {j : Nat} (hj : j < T) (x : Int) {f' : Nat → Int} (hf : ∀ i, i < T → f' i = if i = j then x else f i) : Fills w (wr.setCell ⟨g, j, none⟩ (.int .i64 x)) g T f' := by
  refine ⟨fun i hi => ?_, fun i hi => ?_, h.below.setCell h.hg _, h.hg⟩
  · rw [hf i hi]
    by_cases hij : i = j
    · subst hij
      rw [if_pos rfl, Nat.zero_add]
      exact World.cell?_setCell_same _ _ _ (by have := h.row i hi; rwa [Nat.zero_add] at this)
    · rw [if_neg hij, World.cell?_setCell_other _ _ _ _ (fun e => hij (by have := congrArg Addr.off e; simp at this; omega))]
      exact h.row i hi
  · rw [World.frozen?_setCell]
    exact h.fz i hi
theorem Fills.drew {w wr : World} {g T : Nat} {f : Nat → Int} (h : Fills w wr g T f) : Fills w wr.drew g T f := ⟨h.row, h.fz, h.below.drew, h.hg⟩
theorem fills_made {w w2 : World} {g n : Nat} {t : TypeId} {xs : List Value} (h : w2.ownsRow w.heap.size t 1 (.slice (some ⟨g, 0, none⟩) n n) n xs) (hx : ∀ i, i < n → xs[i]? = some (.int .i64 0)) (hg : w.grownBy w2 none) : Fills w w2 g n (fun _ => 0) := by
  obtain ⟨hl, hr⟩ := h
  rcases hr with ⟨hx, _⟩ | ⟨g', cap', cur, hv, hb, hh, _, _, hs, ht⟩
  · cases hx
  · obtain ⟨rfl, rfl⟩ : g = g' ∧ n = cap' := by simpa using hv
    refine ⟨fun i hi => ?_, fun i hi => ?_, (Below.refl _ _).grown hg (Nat.le_refl _) (fun k hk => by cases hk), hb⟩
    · rw [← hx i hi, ← ht, List.getElem?_take_of_lt (by omega)]
      simp [World.cell?, hh]
    · simp [World.frozen?, hh]
theorem made_zero (n i : Nat) (hi : i < n) : (madeCells (Value.int IntKind.i64 0).cells (n * 1)).toList[i]? = some (.int .i64 0) := by
  simp [madeCells, hi, Nat.mod_one, Value.cells]
end Go.Proofs.YteicjedmingplaaDoor

/- Rows of their own that are made one by one and filled. -/
namespace Go.Proofs.YteicjedmingplaaDoor
open Go.RowKit

/-- Cells of a row that is made. -/
structure RowIs (wr : World) (b n : Nat) (f : Nat → Value) : Prop where
  row : ∀ k, k < n → wr.cell? ⟨b, k, none⟩ = some (f k)
  fz : ∀ k, k < n → wr.frozen? ⟨b, k, none⟩ = false
theorem RowIs.later {w w' : World} {b n : Nat} {f : Nat → Value} (h : RowIs w b n f) (hb : Below w.heap.size w w') : RowIs w' b n f :=
  ⟨fun k hk => by rw [hb.cell (cell_lt (h.row k hk))]; exact h.row k hk, fun k hk => by rw [hb.frozen (cell_lt (h.row k hk))]; exact h.fz k hk⟩
theorem rowIs_made {w w2 : World} {g n : Nat} {t : TypeId} {z : Value} {xs : List Value} (h : w2.ownsRow w.heap.size t 1 (.slice (some ⟨g, 0, none⟩) n n) n xs) (hx : ∀ i, i < n → xs[i]? = some z) : RowIs w2 g n (fun _ => z) := by
  obtain ⟨hl, hr⟩ := h
  rcases hr with ⟨hx, _⟩ | ⟨g', cap', cur, hv, hb, hh, _, _, hs, ht⟩
  · cases hx
  · obtain ⟨rfl, rfl⟩ : g = g' ∧ n = cap' := by simpa using hv
    refine ⟨fun i hi => ?_, fun i hi => ?_⟩
    · rw [← hx i hi, ← ht, List.getElem?_take_of_lt (by omega)]
      simp [World.cell?, hh]
    · simp [World.frozen?, hh]
theorem made_one (z : Value) (hz : z.cells = #[z]) (n i : Nat) (hi : i < n) : (madeCells z.cells (n * 1)).toList[i]? = some z := by
  simp [madeCells, hi, Nat.mod_one, hz]
theorem made_below {w w2 : World} (hg : w.grownBy w2 none) : Below w.heap.size w w2 := (Below.refl _ _).grown hg (Nat.le_refl _) (fun k hk => by cases hk)
theorem put_cell {W : World} {p : Addr} {x : Value} (y : Value) (h : W.cell? p = some x) (q : Addr) : (W.setCell p y).cell? q = if q = p then some y else W.cell? q := by
  split
  · rename_i e; subst e; exact World.cell?_setCell_same _ _ _ h
  · rename_i e; exact World.cell?_setCell_other _ _ _ _ (fun e' => e e'.symm)

/-- The first m of n rows are made, of C cells each. -/
structure GridB (w wr : World) (g n C m : Nat) (rb : Nat → Nat) (f : Nat → Nat → Value) : Prop where
  below : Below w.heap.size w wr
  hg : w.heap.size ≤ g
  outer : ∀ i, i < n → ∃ x, wr.cell? ⟨g, i, none⟩ = some x
  made : ∀ i, i < m → wr.cell? ⟨g, i, none⟩ = some (.slice (some ⟨rb i, 0, none⟩) C C)
  ofz : ∀ i, i < n → wr.frozen? ⟨g, i, none⟩ = false
  rge : ∀ i, i < m → w.heap.size ≤ rb i ∧ rb i ≠ g ∧ rb i < wr.heap.size
  inj : ∀ i j, i < m → j < m → rb i = rb j → i = j
  rows : ∀ i, i < m → RowIs wr (rb i) C (f i)
theorem GridB.later {w wr wn : World} {g n C m : Nat} {rb : Nat → Nat} {f : Nat → Nat → Value} (h : GridB w wr g n C m rb f) (hb : Below wr.heap.size wr wn) : GridB w wn g n C m rb f := by
  refine ⟨h.below.trans (hb.mono h.below.size), h.hg, fun i hi => ?_, fun i hi => ?_, fun i hi => ?_, fun i hi => ⟨(h.rge i hi).1, (h.rge i hi).2.1, Nat.lt_of_lt_of_le (h.rge i hi).2.2 hb.size⟩, h.inj, fun i hi => (h.rows i hi).later hb⟩
  · obtain ⟨x, hx⟩ := h.outer i hi
    exact ⟨x, by rw [hb.cell (cell_lt hx)]; exact hx⟩
  · rw [hb.cell (cell_lt (h.made i hi))]; exact h.made i hi
  · obtain ⟨x, hx⟩ := h.outer i hi
    rw [hb.frozen (cell_lt hx)]; exact h.ofz i hi
theorem gridB_start {w w2 : World} {g n C : Nat} {z : Value} (h : RowIs w2 g n (fun _ => z)) (hb : Below w.heap.size w w2) (hg : w.heap.size ≤ g) (rb : Nat → Nat) (f : Nat → Nat → Value) : GridB w w2 g n C 0 rb f :=
  ⟨hb, hg, fun i hi => ⟨z, h.row i hi⟩, fun i hi => by omega, fun i hi => h.fz i hi, fun i hi => by omega, fun i j hi => by omega, fun i hi => by omega⟩
/-- A row more. -/
theorem GridB.push {w wr w2 : World} {g n C m r : Nat} {rb : Nat → Nat} {f : Nat → Nat → Value} {z : Value} (h : GridB w wr g n C m rb f) (hm : m < n) (hb : Below wr.heap.size wr w2) (hr : wr.heap.size ≤ r) (hr2 : r < w2.heap.size) (hz : RowIs w2 r C (fun _ => z)) :
    GridB w (w2.setCell ⟨g, m, none⟩ (.slice (some ⟨r, 0, none⟩) C C)) g n C (m + 1) (fun i => if i = m then r else rb i) (fun i k => if i = m then z else f i k) := by
  have h2 := h.later hb
  obtain ⟨x, hx⟩ := h2.outer m hm
  obtain ⟨x0, hx0⟩ := h.outer m hm
  have hgl : g < wr.heap.size := cell_lt hx0
  have hgr : g ≠ r := by omega
  refine ⟨h2.below.setCell h.hg _, h.hg, fun i hi => ?_, fun i hi => ?_, fun i hi => ?_, fun i hi => ?_, fun i j hi hj e => ?_, fun i hi => ?_⟩
  · rw [put_cell _ hx]
    split
    · exact ⟨_, rfl⟩
    · exact h2.outer i hi
  · rw [put_cell _ hx]
    by_cases him : i = m
    · subst him; rw [if_pos rfl, if_pos rfl]
    · rw [if_neg (fun e => him (by simpa using congrArg Addr.off e)), if_neg him]
      exact h2.made i (by omega)
  · rw [World.frozen?_setCell]; exact h2.ofz i hi
  · by_cases him : i = m
    · subst him
      rw [if_pos rfl]
      have := h.below.size
      exact ⟨by omega, fun e => hgr e.symm, by simpa using hr2⟩
    · rw [if_neg him]; simpa using h2.rge i (by omega)
  · by_cases him : i = m
    · subst him
      by_cases hjm : j = i
      · exact hjm.symm
      · rw [if_pos rfl, if_neg hjm] at e
        have h5 := (h.rge j (by omega)).2.2
        omega
    · by_cases hjm : j = m
      · subst hjm
        rw [if_neg him, if_pos rfl] at e
        have h5 := (h.rge i (by omega)).2.2
        omega
      · rw [if_neg him, if_neg hjm] at e
        exact h.inj i j (by omega) (by omega) e
  · refine ⟨fun k hk => ?_, fun k hk => ?_⟩
    · rw [put_cell _ hx]
      by_cases him : i = m
      · subst him
        rw [if_pos rfl, if_pos rfl, if_neg (fun e => hgr (congrArg Addr.block e).symm)]
        exact hz.row k hk
      · rw [if_neg him, if_neg him, if_neg (fun e => (h.rge i (by omega)).2.1 (congrArg Addr.block e))]
        exact (h2.rows i (by omega)).row k hk
    · rw [World.frozen?_setCell]
      by_cases him : i = m
      · subst him; rw [if_pos rfl]; exact hz.fz k hk
      · rw [if_neg him]; exact (h2.rows i (by omega)).fz k hk
/-- A cell of a row is put. -/
theorem GridB.set {w wr : World} {g n C m : Nat} {rb : Nat → Nat} {f : Nat → Nat → Value} (h : GridB w wr g n C m rb f) {i k : Nat} (hi : i < m) (hk : k < C) (y : Value) {f' : Nat → Nat → Value} (hf : ∀ i' k', i' < m → k' < C → f' i' k' = if i' = i ∧ k' = k then y else f i' k') :
    GridB w (wr.setCell ⟨rb i, k, none⟩ y) g n C m rb f' := by
  have hx := (h.rows i hi).row k hk
  have hne := (h.rge i hi).2.1
  refine ⟨h.below.setCell (h.rge i hi).1 _, h.hg, fun j hj => ?_, fun j hj => ?_, fun j hj => ?_, fun j hj => by simpa using h.rge j hj, h.inj, fun j hj => ⟨fun c hc => ?_, fun c hc => ?_⟩⟩
  · rw [put_cell _ hx, if_neg (fun e => hne (congrArg Addr.block e).symm)]
    exact h.outer j hj
  · rw [put_cell _ hx, if_neg (fun e => hne (congrArg Addr.block e).symm)]
    exact h.made j hj
  · rw [World.frozen?_setCell]; exact h.ofz j hj
  · rw [put_cell _ hx, hf j c hj hc]
    by_cases hjc : j = i ∧ c = k
    · obtain ⟨rfl, rfl⟩ := hjc
      rw [if_pos rfl, if_pos ⟨rfl, rfl⟩]
    · rw [if_neg hjc, if_neg (fun e => hjc ⟨h.inj j i hj hi (congrArg Addr.block e), congrArg Addr.off e⟩)]
      exact (h.rows j hj).row c hc
  · rw [World.frozen?_setCell]; exact (h.rows j hj).fz c hc
theorem GridB.drewN {w wr : World} {g n C m : Nat} {rb : Nat → Nat} {f : Nat → Nat → Value} (h : GridB w wr g n C m rb f) : GridB w wr.drew g n C m rb f := h.later (Below.refl _ _).drew

/-- A table of cells, as one reads it. -/
def GridAt (w : World) (v : Value) (n C : Nat) (f : Nat → Nat → Value) : Prop := ∃ g o cap, v = .slice (some ⟨g, o, none⟩) n cap ∧ ∀ i, i < n → ∃ b o' cap', w.cell? ⟨g, o + i, none⟩ = some (.slice (some ⟨b, o', none⟩) C cap') ∧ ∀ k, k < C → w.cell? ⟨b, o' + k, none⟩ = some (f i k)
theorem GridAt.later {w w' : World} {v : Value} {n C : Nat} {f : Nat → Nat → Value} (h : GridAt w v n C f) (hb : Below w.heap.size w w') : GridAt w' v n C f := by
  obtain ⟨g, o, cap, hv, hr⟩ := h
  refine ⟨g, o, cap, hv, fun i hi => ?_⟩
  obtain ⟨b, o', cap', h1, h2⟩ := hr i hi
  exact ⟨b, o', cap', by rw [hb.cell (cell_lt h1)]; exact h1, fun k hk => by rw [hb.cell (cell_lt (h2 k hk))]; exact h2 k hk⟩
theorem GridAt.rowAt {w : World} {b o n C cap : Nat} {f : Nat → Nat → Value} (h : GridAt w (.slice (some ⟨b, o, none⟩) n cap) n C f) (i : Nat) (hi : i < n) : ∃ b1 o1 cap1, w.cell? ⟨b, o + i, none⟩ = some (.slice (some ⟨b1, o1, none⟩) C cap1) ∧ ∀ k, k < C → w.cell? ⟨b1, o1 + k, none⟩ = some (f i k) := by
  obtain ⟨b', o', cap', hv', hr'⟩ := h
  simp only [Value.slice.injEq, Option.some.injEq, Addr.mk.injEq, and_true, true_and] at hv'
  obtain ⟨⟨rfl, rfl⟩, rfl⟩ := hv'
  exact hr' i hi
theorem GridB.at {w wr : World} {g n C : Nat} {rb : Nat → Nat} {f : Nat → Nat → Value} (h : GridB w wr g n C n rb f) : GridAt wr (.slice (some ⟨g, 0, none⟩) n n) n C f :=
  ⟨g, 0, n, rfl, fun i hi => ⟨rb i, 0, C, by rw [Nat.zero_add]; exact h.made i hi, fun k hk => by rw [Nat.zero_add]; exact (h.rows i hi).row k hk⟩⟩
/-- The rows of a chain. -/
def RowsAt (w : World) (v : Value) (n : Nat) (zs : Nat → Nat → Int) : Prop := GridAt w v n n (fun i k => .int .i64 (zs i k))
theorem rowsAt_of_tab {w : World} {v : Value} {n : Nat} {vs : Nat → Value} {ns : Nat → Nat} {zs : Nat → Nat → Int} (h : TabAt w v n vs ns zs) (h0 : 0 < n) (he : ∀ i, i < n → ns i = n) : RowsAt w v n zs := by
  rcases h with ⟨_, _, _, h'⟩ | ⟨b, o, c, hv, _, hr⟩
  · omega
  · refine ⟨b, o, c, hv, fun i hi => ?_⟩
    obtain ⟨h1, h2⟩ := hr i hi
    rw [he i hi] at h2
    rcases h2 with ⟨_, _, _, h3⟩ | ⟨b1, o1, c1, hv1, _, hr1⟩
    · omega
    · exact ⟨b1, o1, c1, by rw [h1, hv1], hr1⟩
end Go.Proofs.YteicjedmingplaaDoor

/- types.All: how it begins: two rows and two boxes, made in whatever order. -/
namespace Go.Proofs.YteicjedmingplaaDoor
open Go.RowKit

/-- make, at a step of a region that draws its order. -/
theorem tstep_make (w : World) {P : Program} {ops : Array Oper} {o : Oper} {a : Act} {K : Act → World → Prop} {Q : Exit → Act → World → Prop} {E : Prop} (hgd : o.guard = none)
    (l c : Operand) (t : TypeId) (hop : o.op = Op.makeSlice t l c) (e : TypeId) (i : TypeInfo) (z : Value) (h1 : P.underlying t = some (.slice e)) (h2 : P.info? e = some i) (h3 : i.zero = some z) (h4 : i.size = 1)
    (n : Nat) (hl : a.eval l = .int .i64 n) (hc : a.eval c = .int .i64 n) (b2 : i.bytes * n ≤ 281474976710656) (b3 : n ≤ maxLen)
    (hK : ∀ w', w'.ownsRow w.heap.size e 1 (.slice (some ⟨w.heap.size, 0, none⟩) n n) n (madeCells z.cells (n * 1)).toList → w.grownBy w' none → K (a.put o.dst (.slice (some ⟨w.heap.size, 0, none⟩) n n)) w') :
    if Region.wanted o (yielded ops a.tmps) = true then Oper.wp P o a w K Q else E := by
  have hw : Region.wanted o (yielded ops a.tmps) = true := by simp [Region.wanted, hgd]
  rw [if_pos hw]
  obtain ⟨w', hrun, r1, r2⟩ := run_make_full (P := P) w w.heap.size t e i z 1 h1 h2 h3 h4 .i64 .i64 n b2 b3 (Nat.le_refl _)
  unfold Oper.wp
  simp [execOp, hop, hl, hc, hrun, Result.andThen]
  exact hK w' r1 r2
theorem tstep_room (w : World) {P : Program} {ops : Array Oper} {o : Oper} {a : Act} {K : Act → World → Prop} {Q : Exit → Act → World → Prop} {E : Prop} (hgd : o.guard = none)
    (l c : Operand) (t : TypeId) (hop : o.op = Op.makeSlice t l c) (e : TypeId) (i : TypeInfo) (z : Value) (h1 : P.underlying t = some (.slice e)) (h2 : P.info? e = some i) (h3 : i.zero = some z) (h4 : i.size = 1)
    (n : Nat) (hl : a.eval l = .int .i64 0) (hc : a.eval c = .int .i64 n) (b2 : i.bytes * n ≤ 281474976710656) (b3 : n ≤ maxLen)
    (hK : ∀ w', w'.ownsRow w.heap.size e 1 (.slice (some ⟨w.heap.size, 0, none⟩) 0 n) 0 [] → w.grownBy w' none → K (a.put o.dst (.slice (some ⟨w.heap.size, 0, none⟩) 0 n)) w') :
    if Region.wanted o (yielded ops a.tmps) = true then Oper.wp P o a w K Q else E := by
  have hw : Region.wanted o (yielded ops a.tmps) = true := by simp [Region.wanted, hgd]
  rw [if_pos hw]
  obtain ⟨w', hrun, r1, r2⟩ := run_make_own (P := P) w w.heap.size t e i z 1 h1 h2 h3 h4 .i64 .i64 n b2 b3 (Nat.le_refl _)
  unfold Oper.wp
  simp [execOp, hop, hl, hc, hrun, Result.andThen]
  exact hK w' r1 r2
theorem row_heap {w : World} {B e s b n cap k : Nat} {xs : List Value} (h : w.ownsRow B e s (.slice (some ⟨b, 0, none⟩) n cap) k xs) : b < w.heap.size := by
  rcases h.2 with ⟨hx, _⟩ | ⟨g', cap', cur, hv, _, hh, _⟩
  · cases hx
  · obtain ⟨rfl, _⟩ : b = g' ∧ _ := by simpa using hv
    exact heap_lt hh

/-- What is made already: 0 the list, 1 the type, 2 and 3 their boxes; v is what the list's box holds. -/
structure Beg (w W : World) (kb k c : Nat) (v : Value) (x : Nat → Option Nat) : Prop where
  below : Below w.heap.size w W
  ck : W.cell? ⟨kb, 0, none⟩ = some (.int .i64 (k : Int))
  ge : ∀ j b, x j = some b → w.heap.size ≤ b ∧ b < W.heap.size
  ne : ∀ j j' b, j ≠ j' → x j = some b → x j' ≠ some b
  r0 : ∀ b, x 0 = some b → W.ownsRow w.heap.size 35 1 (.slice (some ⟨b, 0, none⟩) 0 c) 0 []
  r1 : ∀ b, x 1 = some b → RowIs W b k (fun _ => .int .i64 0)
  b2 : ∀ b, x 2 = some b → RowIs W b 1 (fun _ => v)
  b3 : ∀ b, x 3 = some b → RowIs W b 1 (fun _ => .slice none 0 0)
theorem beg_start {w W : World} {kb k c : Nat} {v : Value} (h : Below w.heap.size w W) (hk : W.cell? ⟨kb, 0, none⟩ = some (.int .i64 (k : Int))) : Beg w W kb k c v (fun _ => none) :=
  ⟨h, hk, fun j b hb => (by cases hb), fun j j' b _ hb => (by cases hb), fun b hb => (by cases hb), fun b hb => (by cases hb), fun b hb => (by cases hb), fun b hb => (by cases hb)⟩
theorem Beg.add {w W W' : World} {kb k c : Nat} {v : Value} {x : Nat → Option Nat} (h : Beg w W kb k c v x) (j : Nat) (hb : Below W.heap.size W W') (hs : W.heap.size < W'.heap.size)
    (n0 : j = 0 → W'.ownsRow w.heap.size 35 1 (.slice (some ⟨W.heap.size, 0, none⟩) 0 c) 0 []) (n1 : j = 1 → RowIs W' W.heap.size k (fun _ => .int .i64 0)) (n2 : j = 2 → RowIs W' W.heap.size 1 (fun _ => v)) (n3 : j = 3 → RowIs W' W.heap.size 1 (fun _ => .slice none 0 0)) :
    Beg w W' kb k c v (fun i => if i = j then some W.heap.size else x i) := by
  refine ⟨below_chain h.below hb, by rw [hb.cell (cell_lt h.ck)]; exact h.ck, fun i b hx => ?_, fun i i' b hne hx hx' => ?_, fun b hx => ?_, fun b hx => ?_, fun b hx => ?_, fun b hx => ?_⟩
  · by_cases hij : i = j
    · rw [if_pos hij] at hx; obtain rfl := Option.some.inj hx; exact ⟨h.below.size, hs⟩
    · rw [if_neg hij] at hx; have := h.ge i b hx; exact ⟨this.1, by omega⟩
  · by_cases hij : i = j
    · rw [if_pos hij] at hx; rw [if_neg (by omega)] at hx'
      have := (h.ge i' b hx').2
      have := Option.some.inj hx
      omega
    · rw [if_neg hij] at hx
      by_cases hij' : i' = j
      · rw [if_pos hij'] at hx'
        have := (h.ge i b hx).2
        have := Option.some.inj hx'
        omega
      · rw [if_neg hij'] at hx'; exact h.ne i i' b hne hx hx'
  · by_cases hij : 0 = j
    · rw [if_pos hij] at hx; obtain rfl := Option.some.inj hx; exact n0 hij.symm
    · rw [if_neg hij] at hx; exact own_past (h.r0 b hx) hb
  · by_cases hij : 1 = j
    · rw [if_pos hij] at hx; obtain rfl := Option.some.inj hx; exact n1 hij.symm
    · rw [if_neg hij] at hx; exact (h.r1 b hx).later hb
  · by_cases hij : 2 = j
    · rw [if_pos hij] at hx; obtain rfl := Option.some.inj hx; exact n2 hij.symm
    · rw [if_neg hij] at hx; exact (h.b2 b hx).later hb
  · by_cases hij : 3 = j
    · rw [if_pos hij] at hx; obtain rfl := Option.some.inj hx; exact n3 hij.symm
    · rw [if_neg hij] at hx; exact (h.b3 b hx).later hb
theorem Beg.add0 {w W W' : World} {kb k c : Nat} {v : Value} {x : Nat → Option Nat} (h : Beg w W kb k c v x) (ho : W'.ownsRow W.heap.size 35 1 (.slice (some ⟨W.heap.size, 0, none⟩) 0 c) 0 []) (hg : W.grownBy W' none) : Beg w W' kb k c v (fun i => if i = 0 then some W.heap.size else x i) :=
  h.add 0 (made_below hg) (row_heap ho) (fun _ => ho.mono h.below.size) (fun e => by cases e) (fun e => by cases e) (fun e => by cases e)
theorem Beg.add1 {w W W' : World} {kb k c : Nat} {v : Value} {x : Nat → Option Nat} (h : Beg w W kb k c v x) (ho : W'.ownsRow W.heap.size 3 1 (.slice (some ⟨W.heap.size, 0, none⟩) k k) k (madeCells (Value.int .i64 0).cells (k * 1)).toList) (hg : W.grownBy W' none) : Beg w W' kb k c v (fun i => if i = 1 then some W.heap.size else x i) :=
  h.add 1 (made_below hg) (row_heap ho) (fun e => by cases e) (fun _ => rowIs_made ho (made_one (.int .i64 0) rfl k)) (fun e => by cases e) (fun e => by cases e)
theorem one_box (W : World) (t : TypeId) (v : Value) : RowIs (W.alloc (.cells #[v] t)) W.heap.size 1 (fun _ => v) :=
  ⟨fun k hk => by obtain rfl : k = 0 := by omega
                  rw [World.cell?_alloc_at _ _ _ _ rfl]; rfl, fun k hk => World.frozen?_alloc_new W _ _ _⟩
theorem Beg.add2 {w W : World} {kb k c : Nat} {x : Nat → Option Nat} (h : Beg w W kb k c (.slice none 0 0) x) (t : TypeId) : Beg w (W.alloc (.cells #[.slice none 0 0] t)) kb k c (.slice none 0 0) (fun i => if i = 2 then some W.heap.size else x i) :=
  h.add 2 ((Below.refl _ _).alloc (Nat.le_refl _) _) (by simp) (fun e => by cases e) (fun e => by cases e) (fun _ => one_box W t _) (fun e => by cases e)
theorem Beg.add3 {w W : World} {kb k c : Nat} {v : Value} {x : Nat → Option Nat} (h : Beg w W kb k c v x) (t : TypeId) : Beg w (W.alloc (.cells #[.slice none 0 0] t)) kb k c v (fun i => if i = 3 then some W.heap.size else x i) :=
  h.add 3 ((Below.refl _ _).alloc (Nat.le_refl _) _) (by simp) (fun e => by cases e) (fun e => by cases e) (fun e => by cases e) (fun _ => one_box W t _)
theorem rowIs_put {W : World} {b n p k : Nat} {f : Nat → Value} {x : Value} (h : RowIs W b n f) (hx : W.cell? ⟨p, k, none⟩ = some x) (hne : b ≠ p) (y : Value) : RowIs (W.setCell ⟨p, k, none⟩ y) b n f :=
  ⟨fun j hj => by rw [put_cell _ hx, if_neg (fun e => hne (congrArg Addr.block e))]; exact h.row j hj, fun j hj => by rw [World.frozen?_setCell]; exact h.fz j hj⟩
theorem rowIs_here {W : World} {b : Nat} {x : Value} (h : RowIs W b 1 (fun _ => x)) (y : Value) : RowIs (W.setCell ⟨b, 0, none⟩ y) b 1 (fun _ => y) :=
  ⟨fun j hj => by obtain rfl : j = 0 := by omega
                  rw [put_cell _ (h.row 0 (by omega)), if_pos rfl], fun j hj => by rw [World.frozen?_setCell]; exact h.fz j hj⟩
theorem Beg.store {w W : World} {kb k c b : Nat} {v : Value} {x : Nat → Option Nat} (h : Beg w W kb k c v x) (h2 : x 2 = some b) (hkb : kb < w.heap.size) (y : Value) : Beg w (W.setCell ⟨b, 0, none⟩ y) kb k c y x := by
  have hc := h.b2 b h2
  have h0 := hc.row 0 (by omega)
  have hg := h.ge 2 b h2
  refine ⟨h.below.setCell hg.1 _, ?_, fun j b' hj => by rw [World.size_setCell]; exact h.ge j b' hj, h.ne, fun b' hb' => ?_, fun b' hb' => ?_, fun b' hb' => ?_, fun b' hb' => ?_⟩
  · rw [put_cell _ h0, if_neg (fun e => by have := congrArg Addr.block e; simp at this; omega)]; exact h.ck
  · exact own_put (h.r0 b' hb') _ _ (fun e => h.ne 0 2 b' (by decide) hb' (by have : b' = b := by simpa [Value.ownBlock] using e
                                                                              rw [this]; exact h2))
  · exact rowIs_put (h.r1 b' hb') h0 (fun e => h.ne 1 2 b' (by decide) hb' (e ▸ h2)) _
  · obtain rfl : b' = b := Option.some.inj (hb'.symm.trans h2)
    exact rowIs_here hc y
  · exact rowIs_put (h.b3 b' hb') h0 (fun e => h.ne 3 2 b' (by decide) hb' (e ▸ h2)) _
/-- All is made and stored. -/
structure Lai (w W : World) (kb k c go gt bo bt : Nat) : Prop where
  below : Below w.heap.size w W
  ck : W.cell? ⟨kb, 0, none⟩ = some (.int .i64 (k : Int))
  ge : w.heap.size ≤ go ∧ w.heap.size ≤ gt ∧ w.heap.size ≤ bo ∧ w.heap.size ≤ bt
  lt : go < W.heap.size ∧ gt < W.heap.size ∧ bo < W.heap.size ∧ bt < W.heap.size
  ne : go ≠ gt ∧ go ≠ bo ∧ go ≠ bt ∧ gt ≠ bo ∧ gt ≠ bt ∧ bo ≠ bt
  own : W.ownsRow w.heap.size 35 1 (.slice (some ⟨go, 0, none⟩) 0 c) 0 []
  row : RowIs W gt k (fun _ => .int .i64 0)
  co : RowIs W bo 1 (fun _ => .slice (some ⟨go, 0, none⟩) 0 c)
  ct : RowIs W bt 1 (fun _ => .slice (some ⟨gt, 0, none⟩) k k)
theorem Beg.lai {w W : World} {kb k c go gt bo bt : Nat} {x : Nat → Option Nat} (h : Beg w W kb k c (.slice (some ⟨go, 0, none⟩) 0 c) x) (h0 : x 0 = some go) (h1 : x 1 = some gt) (h2 : x 2 = some bo) (h3 : x 3 = some bt) (hkb : kb < w.heap.size) :
    Lai w (W.setCell ⟨bt, 0, none⟩ (.slice (some ⟨gt, 0, none⟩) k k)) kb k c go gt bo bt := by
  have hc := h.b3 bt h3
  have hr := hc.row 0 (by omega)
  have n03 : go ≠ bt := fun e => h.ne 0 3 go (by decide) h0 (e ▸ h3)
  have n13 : gt ≠ bt := fun e => h.ne 1 3 gt (by decide) h1 (e ▸ h3)
  have n23 : bo ≠ bt := fun e => h.ne 2 3 bo (by decide) h2 (e ▸ h3)
  refine ⟨h.below.setCell (h.ge 3 bt h3).1 _, ?_, ⟨(h.ge 0 go h0).1, (h.ge 1 gt h1).1, (h.ge 2 bo h2).1, (h.ge 3 bt h3).1⟩, ?_, ⟨fun e => h.ne 0 1 go (by decide) h0 (e ▸ h1), fun e => h.ne 0 2 go (by decide) h0 (e ▸ h2), n03, fun e => h.ne 1 2 gt (by decide) h1 (e ▸ h2), n13, n23⟩, ?_, rowIs_put (h.r1 gt h1) hr n13 _, rowIs_put (h.b2 bo h2) hr n23 _, rowIs_here hc _⟩
  · have := (h.ge 3 bt h3).1
    rw [put_cell _ hr, if_neg (fun e => by have := congrArg Addr.block e; simp at this; omega)]; exact h.ck
  · simp only [World.size_setCell]; exact ⟨(h.ge 0 go h0).2, (h.ge 1 gt h1).2, (h.ge 2 bo h2).2, (h.ge 3 bt h3).2⟩
  · exact own_put (h.r0 go h0) _ _ (fun e => n03 (by simpa [Value.ownBlock] using e))
end Go.Proofs.YteicjedmingplaaDoor

/- types.All: the function that fills a type from a place on. -/
namespace Go.Proofs.YteicjedmingplaaDoor
open Go.RowKit

theorem clone_any (b n c : Nat) (z : Nat → Int) (w : World) (h : RowAt w b 0 n z) (hn : n ≤ 1000) :
    Calls Tryd.prog 31 #[.slice (some ⟨b, 0, none⟩) n c] w fun e w' => ∃ v, e = .returned v ∧ w'.ownsRow w.heap.size 3 1 v n (cellL (rowL z n)) ∧ Below w.heap.size w w' := by
  refine (Any.slices_Clone_int (ρ := Tryd.cloneA_ren) Tryd.cloneA b 0 n c (rowL z n) w (by rw [rowL_length]; exact Nat.le_refl _) (by omega) (fun j hj => ?_)).mono ?_
  · rw [rowL_length] at hj
    rw [h j hj]
    simp [rowL, hj]
  · rintro e w' ⟨v', rfl, h1, _, h2⟩
    refine ⟨v', rfl, ?_, h2⟩
    rw [List.take_of_length_le (by rw [rowL_length]; exact Nat.le_refl _)] at h1
    exact h1

/-- What the closure sees: the boxes, the type under way, the list so far. -/
structure FilAt (w0 W : World) (B kb fb bt bo gt k : Nat) (ts : Nat → Int) (ov : Value) (L : List (List Int)) (vs : List Value) : Prop where
  below : Below w0.heap.size w0 W
  ge : w0.heap.size ≤ bt ∧ w0.heap.size ≤ bo ∧ w0.heap.size ≤ gt
  lt : kb < B ∧ fb < B ∧ bt < B ∧ bo < B ∧ gt < B ∧ B ≤ W.heap.size
  no : bo ≠ kb ∧ bo ≠ fb ∧ bo ≠ bt ∧ bo ≠ gt
  ng : gt ≠ kb ∧ gt ≠ fb ∧ gt ≠ bt
  ck : W.cell? ⟨kb, 0, none⟩ = some (.int .i64 (k : Int))
  cf : W.cell? ⟨fb, 0, none⟩ = some (.func (.func 30) #[] #[.pointer (some ⟨kb, 0, none⟩), .pointer (some ⟨bt, 0, none⟩), .pointer (some ⟨bo, 0, none⟩), .pointer (some ⟨fb, 0, none⟩)])
  ct : W.cell? ⟨bt, 0, none⟩ = some (.slice (some ⟨gt, 0, none⟩) k k)
  co : W.cell? ⟨bo, 0, none⟩ = some ov
  fo : W.frozen? ⟨bo, 0, none⟩ = false
  row : RowAt W gt 0 k ts
  fz : ∀ i, i < k → W.frozen? ⟨gt, i, none⟩ = false
  own : LolOwn w0.heap.size B W ov L vs
  on : ∀ g, ov.ownBlock = some g → g ≠ kb ∧ g ≠ fb ∧ g ≠ bt ∧ g ≠ bo ∧ g ≠ gt
theorem FilAt.later {w0 W W' : World} {B kb fb bt bo gt k : Nat} {ts : Nat → Int} {ov : Value} {L : List (List Int)} {vs : List Value} (h : FilAt w0 W B kb fb bt bo gt k ts ov L vs) (hb : Below W.heap.size W W') : FilAt w0 W' B kb fb bt bo gt k ts ov L vs :=
  ⟨below_chain h.below hb, h.ge, ⟨h.lt.1, h.lt.2.1, h.lt.2.2.1, h.lt.2.2.2.1, h.lt.2.2.2.2.1, Nat.le_trans h.lt.2.2.2.2.2 hb.size⟩, h.no, h.ng, by rw [hb.cell (cell_lt h.ck)]; exact h.ck, by rw [hb.cell (cell_lt h.cf)]; exact h.cf, by rw [hb.cell (cell_lt h.ct)]; exact h.ct, by rw [hb.cell (cell_lt h.co)]; exact h.co, by rw [hb.frozen (cell_lt h.co)]; exact h.fo, h.row.later hb, fun i hi => by rw [hb.frozen (cell_lt (by have := h.row i hi; rwa [Nat.zero_add] at this))]; exact h.fz i hi, h.own.later hb, h.on⟩
theorem FilAt.set {w0 W : World} {B kb fb bt bo gt k : Nat} {ts : Nat → Int} {ov : Value} {L : List (List Int)} {vs : List Value} (h : FilAt w0 W B kb fb bt bo gt k ts ov L vs) (a : Nat) (ha : a < k) (x : Int) : FilAt w0 (W.setCell ⟨gt, a, none⟩ (.int .i64 x)) B kb fb bt bo gt k (fun i => if i = a then x else ts i) ov L vs := by
  have hc : W.cell? ⟨gt, a, none⟩ = some (.int .i64 (ts a)) := by have := h.row a ha; rwa [Nat.zero_add] at this
  have far : ∀ b, gt ≠ b → (W.setCell ⟨gt, a, none⟩ (.int .i64 x)).cell? ⟨b, 0, none⟩ = W.cell? ⟨b, 0, none⟩ := fun b hb => by
    rw [put_cell _ hc, if_neg (fun e => hb (congrArg Addr.block e).symm)]
  refine ⟨h.below.setCell h.ge.2.2 _, h.ge, by rw [World.size_setCell]; exact h.lt, h.no, h.ng, by rw [far _ h.ng.1]; exact h.ck, by rw [far _ h.ng.2.1]; exact h.cf, by rw [far _ h.ng.2.2]; exact h.ct, by rw [far _ (Ne.symm h.no.2.2.2)]; exact h.co, by rw [World.frozen?_setCell]; exact h.fo, fun i hi => ?_, fun i hi => by rw [World.frozen?_setCell]; exact h.fz i hi, h.own.put _ _ (fun e => (h.on _ e).2.2.2.2 rfl) h.lt.2.2.2.2.1, h.on⟩
  rw [put_cell _ hc]
  by_cases hi2 : i = a
  · subst hi2; simp
  · rw [if_neg (fun e => hi2 (by have := congrArg Addr.off e; simpa using this))]
    simp only [hi2, if_false]
    exact h.row i hi
/-- The list's box gets a new list. -/
theorem FilAt.push {w0 W W' : World} {B kb fb bt bo gt k : Nat} {ts : Nat → Int} {ov ov' : Value} {L L' : List (List Int)} {vs vs' : List Value} (h : FilAt w0 W B kb fb bt bo gt k ts ov L vs) (hg : W.grownBy W' ov.ownBlock) (ho : LolOwn w0.heap.size B W' ov' L' vs') (hat : ∀ g, ov'.ownBlock = some g → ov.ownBlock = some g ∨ W.heap.size ≤ g) (hbo : ∀ g, ov.ownBlock = some g → w0.heap.size ≤ g) : FilAt w0 (W'.setCell ⟨bo, 0, none⟩ ov') B kb fb bt bo gt k ts ov' L' vs' := by
  have on' : ∀ g, ov'.ownBlock = some g → g ≠ kb ∧ g ≠ fb ∧ g ≠ bt ∧ g ≠ bo ∧ g ≠ gt := fun g hg' => by
    rcases hat g hg' with e | e
    · exact h.on g e
    · have := h.lt
      omega
  have far : ∀ b j, b < B → (∀ g, ov.ownBlock = some g → g ≠ b) → W'.cell? ⟨b, j, none⟩ = W.cell? ⟨b, j, none⟩ ∧ W'.frozen? ⟨b, j, none⟩ = W.frozen? ⟨b, j, none⟩ := fun b j hb hne =>
    ⟨hg.cell_far ⟨b, j, none⟩ (Nat.lt_of_lt_of_le hb h.lt.2.2.2.2.2) (fun e => hne b e.symm rfl), hg.frozen_far ⟨b, j, none⟩ (Nat.lt_of_lt_of_le hb h.lt.2.2.2.2.2) (fun e => hne b e.symm rfl)⟩
  have l := h.lt
  have hco : W'.cell? ⟨bo, 0, none⟩ = some ov := by rw [(far bo 0 l.2.2.2.1 (fun g e => (h.on g e).2.2.2.1)).1]; exact h.co
  have put : ∀ b j, bo ≠ b → (W'.setCell ⟨bo, 0, none⟩ ov').cell? ⟨b, j, none⟩ = W'.cell? ⟨b, j, none⟩ := fun b j hb => by
    rw [put_cell _ hco, if_neg (fun e => hb (congrArg Addr.block e).symm)]
  refine ⟨(h.below.grown hg h.below.size hbo).setCell h.ge.2.1 _, h.ge, ⟨l.1, l.2.1, l.2.2.1, l.2.2.2.1, l.2.2.2.2.1, by rw [World.size_setCell]; exact Nat.le_trans l.2.2.2.2.2 hg.size⟩, h.no, h.ng, ?_, ?_, ?_, ?_, ?_, fun i hi => ?_, fun i hi => ?_, ho.put _ _ (fun e => (on' _ e).2.2.2.1 rfl) l.2.2.2.1, on'⟩
  · rw [put _ _ h.no.1, (far kb 0 l.1 (fun g e => (h.on g e).1)).1]; exact h.ck
  · rw [put _ _ h.no.2.1, (far fb 0 l.2.1 (fun g e => (h.on g e).2.1)).1]; exact h.cf
  · rw [put _ _ h.no.2.2.1, (far bt 0 l.2.2.1 (fun g e => (h.on g e).2.2.1)).1]; exact h.ct
  · rw [put_cell _ hco, if_pos rfl]
  · rw [World.frozen?_setCell, (far bo 0 l.2.2.2.1 (fun g e => (h.on g e).2.2.2.1)).2]; exact h.fo
  · rw [put _ _ h.no.2.2.2, (far gt _ l.2.2.2.2.1 (fun g e => (h.on g e).2.2.2.2)).1]; exact h.row i hi
  · rw [World.frozen?_setCell, (far gt _ l.2.2.2.2.1 (fun g e => (h.on g e).2.2.2.2)).2]; exact h.fz i hi
theorem FilAt.far {w0 W W' : World} {B kb fb bt bo gt k : Nat} {ts : Nat → Int} {ov : Value} {L : List (List Int)} {vs : List Value} (h : FilAt w0 W B kb fb bt bo gt k ts ov L vs) (hg : W.grownBy W' ov.ownBlock) : W'.cell? ⟨bo, 0, none⟩ = some ov ∧ W'.cell? ⟨bt, 0, none⟩ = some (.slice (some ⟨gt, 0, none⟩) k k) ∧ W'.frozen? ⟨bo, 0, none⟩ = false := by
  have l := h.lt
  have e1 : bo < W.heap.size := Nat.lt_of_lt_of_le l.2.2.2.1 l.2.2.2.2.2
  have e2 : bt < W.heap.size := Nat.lt_of_lt_of_le l.2.2.1 l.2.2.2.2.2
  exact ⟨by rw [hg.cell_far ⟨bo, 0, none⟩ e1 (fun e => (h.on bo e.symm).2.2.2.1 rfl)]; exact h.co, by rw [hg.cell_far ⟨bt, 0, none⟩ e2 (fun e => (h.on bt e.symm).2.2.1 rfl)]; exact h.ct, by rw [hg.frozen_far ⟨bo, 0, none⟩ e1 (fun e => (h.on bo e.symm).2.2.2.1 rfl)]; exact h.fo⟩
theorem rowL_set (ts : Nat → Int) (a : Nat) (x : Int) : rowL (fun i => if i = a then x else ts i) (a + 1) = rowL ts a ++ [x] := by
  unfold rowL
  rw [List.range_succ, List.map_append]
  congr 1
  · refine List.map_congr_left (fun i hi => ?_)
    have := List.mem_range.1 hi
    rw [if_neg (by omega)]
  · simp
theorem rowL_congr {f g : Nat → Int} {n : Nat} (h : ∀ i, i < n → f i = g i) : rowL f n = rowL g n := by
  unfold rowL
  exact List.map_congr_left (fun i hi => h i (List.mem_range.1 hi))

set_option maxRecDepth 100000 in
set_option maxHeartbeats 4000000 in
theorem fill_end (w0 W : World) (B kb fb bt bo gt a l : Nat) (ts : Nat → Int) (ov : Value) (L : List (List Int)) (vs : List Value) (h : FilAt w0 W B kb fb bt bo gt (a + 1) ts ov L vs) (ha : a < 6) (hL : L.length ≤ 10000) (hw0 : w0.heap.size ≤ B) :
    Calls Tryd.prog 30 #[.int .i64 a, .int .i64 l, .pointer (some ⟨kb, 0, none⟩), .pointer (some ⟨bt, 0, none⟩), .pointer (some ⟨bo, 0, none⟩), .pointer (some ⟨fb, 0, none⟩)] W fun e W' => e = .returned (.tuple #[]) ∧ ∃ ts' ov' vs', FilAt w0 W' B kb fb bt bo gt (a + 1) ts' ov' (L ++ [rowL ts a ++ [(l : Int)]]) vs' ∧ ∀ i, i < a → ts' i = ts i := by
  obtain ⟨i0, hi, hz0, hz1, hz2⟩ := info_parts Tryd.infoInts
  have HINF : Hid (Tryd.prog.info? 35 = some i0 ∧ i0.zero = some (.slice none 0 0) ∧ i0.size = 1 ∧ i0.bytes = 24) := ⟨hi, hz0, hz1, hz2⟩
  clear hi hz0 hz1 hz2
  have HS := Hid.mk' (h.set a (by omega) (l : Int))
  have ck := h.ck
  have ct := h.ct
  have ca : W.cell? ⟨gt, a, none⟩ = some (.int .i64 (ts a)) := by have := h.row a (by omega); rwa [Nat.zero_add] at this
  have fa := h.fz a (by omega)
  rw [show ((a + 1 : Nat) : Int) = (a : Int) + 1 by omega] at ck
  have haI : (a : Int) < 6 := by omega
  have ha0 : (0 : Int) ≤ (a : Int) := by omega
  have hab : (a : Int) < (a : Int) + 1 := by omega
  obtain ⟨ao, cc, hov⟩ := h.own.form
  subst hov
  clear h
  go_enter Tryd.func30, Tryd.ntmps30
  go_wp2_with fail
  generalize W.setCell ⟨gt, a, none⟩ (.int .i64 (l : Int)) = W1 at HS ⊢
  clear ck ct ca fa
  have hcur : Below W1.heap.size W1 W1.drew := (Below.refl _ _).drew
  have HX : Hid (∀ Wx, Below W1.heap.size W1 Wx → Wx.cell? ⟨bo, 0, none⟩ = some (.slice ao L.length cc) ∧ Wx.cell? ⟨bt, 0, none⟩ = some (.slice (some ⟨gt, 0, none⟩) (a + 1) (a + 1))) := fun Wx hb => ⟨(HS.out.later hb).co, (HS.out.later hb).ct⟩
  refine region_but_last (n := 5) (S := fun Wx => Wx.cell? ⟨bo, 0, none⟩ = some (.slice ao L.length cc) ∧ Wx.cell? ⟨bt, 0, none⟩ = some (.slice (some ⟨gt, 0, none⟩) (a + 1) (a + 1))) (by kernel_rfl) (by kernel_rfl) (by kernel_rfl) (HX.out _ hcur) (fun hHeld => ?_)
  refine wpAnyH_take (i := 0) (v := ?v0a) rfl (by kernel_rfl) (by kernel_rfl) (by kernel_rfl) (fun _ _ _ h => h) (Or.inl ⟨by rfl, ?hy0a⟩) (by assumption) ?rest0a
  case hy0a => (intro w hSw; (try dsimp only at hSw); go_simp <;> (try with_reducible rfl))
  simp only [Act.put]
  refine wpAnyH_take (i := 1) (v := ?v1a) rfl (by kernel_rfl) (by kernel_rfl) (by kernel_rfl) (fun _ _ _ h => h) (Or.inl ⟨by rfl, ?hy1a⟩) (by assumption) ?rest1a
  case hy1a => (intro w hSw; (try dsimp only at hSw); go_simp <;> (try with_reducible rfl))
  simp only [Act.put]
  refine wpAnyH_ready (rs := [2]) (by kernel_rfl) (by simp) ?_
  refine AllReadyH.cons rfl (fun K hK => ?_) AllReadyH.nil
  go_simp
  refine (clone_any gt (a + 1) (a + 1) _ _ (HS.out.later hcur).row (by omega)).mono ?_
  rintro e w5 ⟨v5, rfl, h5, hb5⟩
  have HR5 := Hid.mk' (h5.mono (Nat.le_trans HS.out.lt.2.2.2.2.2 hcur.size))
  have hcur := below_chain hcur hb5
  obtain ⟨a5, c5, rfl, _⟩ := row_shape h5
  clear h5 hb5
  go_wp2_with fail
  refine hK.out _ _ ?_ (fun hHeld => ?_)
  · exact HX.out _ hcur
  clear hK K
  refine wpAnyH_ready (rs := [3]) (by kernel_rfl) (by simp) ?_
  refine AllReadyH.cons rfl (fun K hK => ?_) AllReadyH.nil
  go_simp
  have hcur6 := hcur.alloc hcur.size (.cells #[.slice a5 (a + 1) c5] 35)
  refine hK.out _ _ ?_ (fun hHeld => ?_)
  · exact HX.out _ hcur6
  clear hK K
  have HF6 := Hid.mk' (HS.out.later hcur6)
  have HR6 := Hid.mk' (own_past HR5.out ((Below.refl w5.heap.size w5).alloc (Nat.le_refl _) (.cells #[.slice a5 (a + 1) c5] 35)))
  have HNW : Hid (∀ j u, [Value.slice a5 (a + 1) c5][j]? = some u → (w5.alloc (.cells #[.slice a5 (a + 1) c5] 35)).cell? ((⟨w5.heap.size, 0, none⟩ : Addr).add j) = some u) := one_new _ _ _
  generalize w5.alloc (.cells #[.slice a5 (a + 1) c5] 35) = w6 at *
  generalize w5.heap.size = b6 at *
  clear HR5 hcur6 hcur
  refine wpAnyH_ready (rs := [4]) (by kernel_rfl) (by simp) ?_
  refine AllReadyH.cons rfl (fun K hK => ?_) AllReadyH.nil
  refine step_append_lies _ rfl _ _ _ rfl w0.heap.size 35 i0 _ 1 24 Tryd.underlying28 HINF.out.1 HINF.out.2.1 HINF.out.2.2.1 HINF.out.2.2.2 rfl (by omega) (.slice ao L.length cc) _ _ rfl HF6.out.own.1 ⟨b6, 0, none⟩ 1 1 [.slice a5 (a + 1) c5] rfl rfl HNW.out (by simp [Value.oneCell']) (by omega) (by unfold maxLen; omega) (by omega) (Nat.le_trans hw0 HF6.out.lt.2.2.2.2.2) _ rfl ?_
  intro g7 cap7 w7 hown7 hgrow7 hat7 hlt7
  have hat : ∀ g, (Value.slice (some ⟨g7, 0, none⟩) (L.length + 1) cap7).ownBlock = some g → (Value.slice ao L.length cc).ownBlock = some g ∨ w6.heap.size ≤ g := fun g hg => by
    have e : g7 = g := by simpa [Value.ownBlock] using hg
    subst e
    exact hat7.imp id (fun e => Nat.le_of_eq e.symm)
  have hfar := HF6.out.far hgrow7
  have HP := Hid.mk' (HF6.out.push hgrow7 (HF6.out.own.push (r := rowL (fun i => if i = a then (l : Int) else ts i) (a + 1)) (by rw [rowL_length]; exact HR6.out) hgrow7 hown7) hat (fun g hg => (HF6.out.own.1.lt g hg).1))
  refine hK.out _ _ ⟨hfar.1, hfar.2.1⟩ (fun hHeld => ?_)
  obtain ⟨k0, -, k1⟩ := hfar
  clear hK K hown7 hgrow7 hat7 hlt7 hat HR6 HF6 HNW
  refine wpAnyH_done (by kernel_rfl) ?_ _
  refine ahead_last rfl (fun K hK => ?_)
  go_simp
  refine hK _ _ ?_
  clear hK K
  generalize w7.setCell ⟨bo, 0, none⟩ (.slice (some ⟨g7, 0, none⟩) (L.length + 1) cap7) = w8 at *
  go_wp2_with fail
  refine bodyPost_ret (v := .tuple #[]) (by simp [results, Tryd.results30]) rfl ⟨rfl, (fun i => if i = a then (l : Int) else ts i), .slice (some ⟨g7, 0, none⟩) (L.length + 1) cap7, vs ++ [.slice a5 (a + 1) c5], ?_, ?_⟩
  · rw [← rowL_set]
    exact HP.out
  · intro i hi
    exact if_neg (by omega)

set_option maxRecDepth 100000 in
set_option maxHeartbeats 4000000 in
theorem fill_any : ∀ (m a l : Nat) (w0 W : World) (B kb fb bt bo gt k : Nat) (ts : Nat → Int) (ov : Value) (L : List (List Int)) (vs : List Value), a + m + 1 = k → FilAt w0 W B kb fb bt bo gt k ts ov L vs → k ≤ 6 → l < 21 → L.length + cntT m l ≤ 10000 → w0.heap.size ≤ B →
    Calls Tryd.prog 30 #[.int .i64 a, .int .i64 l, .pointer (some ⟨kb, 0, none⟩), .pointer (some ⟨bt, 0, none⟩), .pointer (some ⟨bo, 0, none⟩), .pointer (some ⟨fb, 0, none⟩)] W fun e W' => e = .returned (.tuple #[]) ∧ ∃ ts' ov' vs', FilAt w0 W' B kb fb bt bo gt k ts' ov' (L ++ (typT m l).map (fun r => rowL ts a ++ r)) vs' ∧ ∀ i, i < a → ts' i = ts i
  | 0, a, l, w0, W, B, kb, fb, bt, bo, gt, k, ts, ov, L, vs, hk, h, hk6, hl, hL, hw0 => by
    obtain rfl : a + 1 = k := by omega
    exact fill_end w0 W B kb fb bt bo gt a l ts ov L vs h (by omega) (by omega) hw0
  | m + 1, a, l, w0, W, B, kb, fb, bt, bo, gt, k, ts, ov, L, vs, hk, h, hk6, hl, hL, hw0 => by
    have HI := Hid.mk' (fun (x : Nat) (W' : World) (ts' : Nat → Int) (ov' : Value) (L' : List (List Int)) (vs' : List Value) (h' : FilAt w0 W' B kb fb bt bo gt k ts' ov' L' vs') (hx : x ≤ l) (hL' : L'.length + cntT m (l - x) ≤ 10000) => fill_any m (a + 1) (l - x) w0 W' B kb fb bt bo gt k ts' ov' L' vs' (by omega) h' hk6 (by omega) hL' hw0)
    have ck := h.ck
    have haI : (a : Int) + 1 < (k : Int) := by omega
    have ha0 : (0 : Int) ≤ (a : Int) := by omega
    have hkI : (k : Int) ≤ 6 := by omega
    have hl0 : (0 : Int) ≤ (l : Int) := by omega
    have hlI : (l : Int) < 21 := by omega
    have hgb : ((a : Int) == (k : Int) - 1) = false := by simp; omega
    have HST := Hid.mk' h
    have HLEN : Hid (∀ x, x ≤ l → (L ++ (typS (fun i => typT m (l - i)) x).map (fun r => rowL ts a ++ r)).length + cntT m (l - x) ≤ 10000) := fun x hx => by
      rw [List.length_append, List.length_map, typS_length, cntS_congr (g := fun i => cntT m (l - i)) (fun i _ => typT_length m (l - i))]
      have h1 := cntS_le (fun i => cntT m (l - i)) (show x + 1 ≤ l + 1 by omega)
      have h2 : cntS (fun i => cntT m (l - i)) (x + 1) = cntS (fun i => cntT m (l - i)) x + cntT m (l - x) := rfl
      have h3 : cntT (m + 1) l = cntS (fun i => cntT m (l - i)) (l + 1) := rfl
      omega
    have HFIN : Hid (typT (m + 1) l = typS (fun i => typT m (l - i)) (l + 1)) := rfl
    have HNX : Hid (∀ x, typS (fun i => typT m (l - i)) (x + 1) = typS (fun i => typT m (l - i)) x ++ (typT m (l - x)).map (fun r => (x : Int) :: r)) := fun x => rfl
    have HKA := Hid.mk' hk
    clear h hL hk
    generalize (fun i => typT m (l - i)) = F at *
    go_enter Tryd.func30, Tryd.ntmps30
    go_wp2_with fail
    clear ck
    go_loopw [24] (fun i wr => ∃ (x : Nat) (ts' : Nat → Int) (ov' : Value) (vs' : List Value), x ≤ l + 1 ∧ i = .int .i64 x ∧ Hid (FilAt w0 wr B kb fb bt bo gt k ts' ov' (L ++ (typS F x).map (fun r => rowL ts a ++ r)) vs') ∧ Hid (∀ i, i < a → ts' i = ts i)) (fun i _ => l + 1 - (intOf i).toNat)
    case atStart => exact ⟨0, ts, ov, vs, Nat.zero_le _, rfl, by show FilAt _ _ _ _ _ _ _ _ _ _ _ _ _; simpa [typS] using HST.out, fun i _ => rfl⟩
    case round =>
      clear HST
      obtain ⟨x, ts', ov', vs', hx, rfl, HST, HTS⟩ := hrel
      have hx0 : (0 : Int) ≤ (x : Int) := by omega
      rcases Nat.lt_or_ge x (l + 1) with h1 | h1
      · have hxl : (x : Int) < (l : Int) + 1 := by omega
        have hak : a < k := by have := HKA.out; omega
        have hakI : (a : Int) < (k : Int) := by omega
        have ct := HST.out.ct
        have ca : wr.cell? ⟨gt, a, none⟩ = some (.int .i64 (ts' a)) := by have := HST.out.row a hak; rwa [Nat.zero_add] at this
        have fa := HST.out.fz a hak
        have HS := Hid.mk' (HST.out.set a hak (x : Int))
        have cf := HS.out.cf
        have HCL := Hid.mk' (HI.out x _ _ _ _ _ HS.out (by omega) (HLEN.out x (by omega)))
        rw [show ((a + 1 : Nat) : Int) = (a : Int) + 1 by omega, show ((l - x : Nat) : Int) = (l : Int) - (x : Int) by omega] at HCL
        go_wp2_with fail
        refine HCL.out.mono ?_
        rintro e w4 ⟨rfl, ts4, ov4, vs4, h4, t4⟩
        have HF4 := Hid.mk' h4
        have HT4 := Hid.mk' t4
        clear h4 t4 HCL HS HST ct ca fa cf
        go_wp2_with fail
        refine ⟨⟨x + 1, ts4, ov4, vs4, h1, by go_num, ?_, fun i hi => ?_⟩, by simp [intOf]; omega⟩
        · show FilAt _ _ _ _ _ _ _ _ _ _ _ _ _
          have e5 : rowL (fun i => if i = a then (x : Int) else ts' i) (a + 1) = rowL ts a ++ [(x : Int)] := by rw [rowL_set, rowL_congr HTS.out]
          have e6 := HF4.out
          rw [e5, List.append_assoc] at e6
          rw [HNX.out, List.map_append, List.map_map]
          have e7 : (fun r => rowL ts a ++ r) ∘ (fun r => (x : Int) :: r) = fun r => rowL ts a ++ [(x : Int)] ++ r := by
            funext r; simp
          rw [e7]
          exact e6
        · rw [HT4.out i (by omega), if_neg (by omega)]
          exact HTS.out i hi
      · obtain rfl : x = l + 1 := by omega
        have hxl : ¬ (((l + 1 : Nat) : Int) < (l : Int) + 1) := by omega
        go_wp2_with fail
        refine bodyPost_end (v := .tuple #[]) (by simp [results, Tryd.results30]) rfl ⟨rfl, ts', ⟨ov', vs', ?_⟩, HTS.out⟩
        rw [HFIN.out]
        exact HST.out
end Go.Proofs.YteicjedmingplaaDoor
