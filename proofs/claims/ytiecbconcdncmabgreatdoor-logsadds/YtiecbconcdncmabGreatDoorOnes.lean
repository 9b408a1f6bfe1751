/- The law's one, the document's OfFrac. -/
import Derived.Test.YtiecbconcdncmabGreatDoorSumSame
namespace Go.Proofs.YtiecbconcdncmabGreatDoor
open Go.RowKit

set_option maxRecDepth 10000 in
set_option maxHeartbeats 1000000 in
theorem one_one (w : World) : Calls Tryz.prog 10 #[.int .i64 1] w fun e w' => ∃ r, e = .returned r ∧ RatioAt w' r 1 1 ∧ Below w.heap.size w w' := by
  have hB0 : Below w.heap.size w (w.alloc (.cells #[.bool false, .slice none 0 0, .slice none 0 0] 35)) := new_below _ _
  have hN := noInts_new3 w false none 0 0 none 0 0 35
  have hro : Calls Tryz.prog 24 #[.int .i64 1, .int .i64 1] (w.alloc (.cells #[.bool false, .slice none 0 0, .slice none 0 0] 35)) fun e w' => ∃ r, e = .returned r ∧ RatioAt w' r 1 1 ∧ Below (w.alloc (.cells #[.bool false, .slice none 0 0, .slice none 0 0] 35)).heap.size (w.alloc (.cells #[.bool false, .slice none 0 0, .slice none 0 0] 35)) w' := RatioOf_any 1 1 _ (by decide) (by decide) (by decide) (by decide)
  have HB0 := Hid.mk' hB0
  have HN := Hid.mk' hN
  clear hB0 hN
  go_enter Tryz.func10, Tryz.ntmps10
  go_wp2_with fail
  refine hro.mono ?_
  clear hro
  rintro e w1 ⟨r, rfl, ⟨u, q, rfl, hu, hq⟩, hb1⟩
  obtain ⟨ad8, l8, cap8, rfl, _⟩ := hu.len
  obtain ⟨ad9, l9, cap9, rfl, _⟩ := hq.len
  have nb := newBox3_of (W0 := w) (Below.refl _ _) hb1
  have c0 := nb.c0
  have c1 := nb.c1
  have c2 := nb.c2
  have f0 := nb.f0
  have f1 := nb.f1
  have f2 := nb.f2
  have HNB := Hid.mk' nb
  have HU := Hid.mk' hu
  have HQ := Hid.mk' hq
  have HB1 := Hid.mk' (below_chain HB0.out hb1)
  clear hu hq hb1 nb
  go_wp2_with fail
  refine bodyPost_ret (v := .agg #[.bool (decide ((1 : Int) < 0)), .slice ad8 l8 cap8, .slice ad9 l9 cap9]) (by simp [results, Tryz.results10, go_sem, c0, c1, c2]) rfl ⟨_, rfl, ⟨_, _, rfl, HU.out.set3 HNB.out.no c0 c1, HQ.out.set3 HNB.out.no c0 c1⟩, below_set3 HB1.out (Nat.le_refl _) _ _ _⟩

set_option maxRecDepth 10000 in
set_option maxHeartbeats 1000000 in
theorem OfFrac_any (n : Int) (d : Nat) (w : World) (h0 : -4611686018427387904 ≤ n) (h1 : n ≤ 4611686018427387904) (hd : 0 < d) (hd1 : d ≤ 4611686018427387904) : Calls Tryz.prog 14 #[.agg #[.int .i64 n, .int .i64 d]] w fun e w' => ∃ r, e = .returned r ∧ RatioAt w' r (n.tdiv ((Nat.gcd n.natAbs d : Nat) : Int)) (d / Nat.gcd n.natAbs d) ∧ Below w.heap.size w w' := by
  have hB0 : Below w.heap.size w ((w.alloc (.cells #[.int .i64 n, .int .i64 d] 45)).alloc (.cells #[.bool false, .slice none 0 0, .slice none 0 0] 35)) := more_below (new_below _ _) _
  have hro := RatioOf_any n d ((w.alloc (.cells #[.int .i64 n, .int .i64 d] 45)).alloc (.cells #[.bool false, .slice none 0 0, .slice none 0 0] 35)) h0 h1 hd hd1
  have HB0 := Hid.mk' hB0
  clear hB0
  generalize n.tdiv ((Nat.gcd n.natAbs d : Nat) : Int) = x at hro ⊢
  generalize d / Nat.gcd n.natAbs d = y at hro ⊢
  go_enter Tryz.func14, Tryz.ntmps14
  go_wp2_with fail
  refine hro.mono ?_
  clear hro
  rintro e w1 ⟨r, rfl, ⟨u, q, rfl, hu, hq⟩, hb1⟩
  obtain ⟨ad8, l8, cap8, rfl, _⟩ := hu.len
  obtain ⟨ad9, l9, cap9, rfl, _⟩ := hq.len
  have nb := newBox3_of (W0 := w) (new_below w (.cells #[.int .i64 n, .int .i64 d] 45)) hb1
  simp only [World.size_alloc] at nb
  have c0 := nb.c0
  have c1 := nb.c1
  have c2 := nb.c2
  have f0 := nb.f0
  have f1 := nb.f1
  have f2 := nb.f2
  have HNB := Hid.mk' nb
  have HU := Hid.mk' hu
  have HQ := Hid.mk' hq
  have HB1 := Hid.mk' (below_chain HB0.out hb1)
  obtain ⟨sg, hsg⟩ : ∃ sg, decide (x < 0) = sg := ⟨_, rfl⟩
  have HSG := Hid.mk' hsg
  rw [hsg]
  clear hu hq hb1 nb hsg
  go_wp2_with fail
  refine bodyPost_ret (v := .agg #[.bool sg, .slice ad8 l8 cap8, .slice ad9 l9 cap9]) (by simp [results, Tryz.results14, go_sem, c0, c1, c2]) rfl ⟨_, rfl, ⟨_, _, by rw [HSG.out], HU.out.set3 HNB.out.no c0 c1, HQ.out.set3 HNB.out.no c0 c1⟩, below_set3 HB1.out (by omega) _ _ _⟩
end Go.Proofs.YtiecbconcdncmabGreatDoor
