/- The document's fractions: RatioOf, Times, Plus. -/
import Derived.Test.YtklhfagcembigaaDoorRatio
namespace Go.Proofs.YtklhfagcembigaaDoor
open Go.RowKit

/-- Two boxes and a result, three cells each, behind a call. -/
theorem nine_past {w w1 : World} {x0 x1 x2 y0 y1 y2 r0 r1 r2 : Value} {t : TypeId} (hb : Below (((w.alloc (.cells #[x0, x1, x2] t)).alloc (.cells #[y0, y1, y2] t)).alloc (.cells #[r0, r1, r2] t)).heap.size (((w.alloc (.cells #[x0, x1, x2] t)).alloc (.cells #[y0, y1, y2] t)).alloc (.cells #[r0, r1, r2] t)) w1) :
    (w1.cell? ⟨w.heap.size, 0, none⟩ = some x0 ∧ w1.cell? ⟨w.heap.size, 1, none⟩ = some x1 ∧ w1.cell? ⟨w.heap.size, 2, none⟩ = some x2) ∧ (w1.cell? ⟨w.heap.size + 1, 0, none⟩ = some y0 ∧ w1.cell? ⟨w.heap.size + 1, 1, none⟩ = some y1 ∧ w1.cell? ⟨w.heap.size + 1, 2, none⟩ = some y2) ∧ (w1.cell? ⟨w.heap.size + 1 + 1, 0, none⟩ = some r0 ∧ w1.cell? ⟨w.heap.size + 1 + 1, 1, none⟩ = some r1 ∧ w1.cell? ⟨w.heap.size + 1 + 1, 2, none⟩ = some r2) ∧ w1.frozen? ⟨w.heap.size + 1 + 1, 0, none⟩ = false ∧ w1.frozen? ⟨w.heap.size + 1 + 1, 1, none⟩ = false ∧ w1.frozen? ⟨w.heap.size + 1 + 1, 2, none⟩ = false := by
  have a : ∀ j v, #[x0, x1, x2][j]? = some v → (((w.alloc (.cells #[x0, x1, x2] t)).alloc (.cells #[y0, y1, y2] t)).alloc (.cells #[r0, r1, r2] t)).cell? ⟨w.heap.size, j, none⟩ = some v := fun j v h => by rw [World.cell?_alloc_lt _ _ ⟨w.heap.size, j, none⟩ (by simp; omega), World.cell?_alloc_lt _ _ ⟨w.heap.size, j, none⟩ (by simp), World.cell?_alloc_at _ _ _ _ rfl]; exact h
  have b : ∀ j v, #[y0, y1, y2][j]? = some v → (((w.alloc (.cells #[x0, x1, x2] t)).alloc (.cells #[y0, y1, y2] t)).alloc (.cells #[r0, r1, r2] t)).cell? ⟨w.heap.size + 1, j, none⟩ = some v := fun j v h => by rw [World.cell?_alloc_lt _ _ ⟨w.heap.size + 1, j, none⟩ (by simp), World.cell?_alloc_at _ _ _ _ (by simp)]; exact h
  have c : ∀ j v, #[r0, r1, r2][j]? = some v → (((w.alloc (.cells #[x0, x1, x2] t)).alloc (.cells #[y0, y1, y2] t)).alloc (.cells #[r0, r1, r2] t)).cell? ⟨w.heap.size + 1 + 1, j, none⟩ = some v := fun j v h => by rw [World.cell?_alloc_at _ _ _ _ (by simp)]; exact h
  exact ⟨⟨(cell_past (a 0 x0 rfl) hb).2, (cell_past (a 1 x1 rfl) hb).2, (cell_past (a 2 x2 rfl) hb).2⟩, ⟨(cell_past (b 0 y0 rfl) hb).2, (cell_past (b 1 y1 rfl) hb).2, (cell_past (b 2 y2 rfl) hb).2⟩, ⟨(cell_past (c 0 r0 rfl) hb).2, (cell_past (c 1 r1 rfl) hb).2, (cell_past (c 2 r2 rfl) hb).2⟩, (frozen_past (c 0 r0 rfl) (frozen_new (by simp)) hb).2, (frozen_past (c 1 r1 rfl) (frozen_new (by simp)) hb).2, (frozen_past (c 2 r2 rfl) (frozen_new (by simp)) hb).2⟩
theorem noInts_third3 (w : World) (X Y : Obj) (t : TypeId) : NoInts (((w.alloc X).alloc Y).alloc (.cells #[.bool false, .slice none 0 0, .slice none 0 0] t)) (w.heap.size + 1 + 1) := by
  have := noInts_new3 ((w.alloc X).alloc Y) false none 0 0 none 0 0 t
  simpa using this

set_option maxRecDepth 10000 in
set_option maxHeartbeats 2000000 in
/-- RatioOf a number over one that is above 0. -/
theorem RatioOf_any (n : Int) (d : Nat) (w : World) (h0 : -4611686018427387904 ≤ n) (h1 : n ≤ 4611686018427387904) (hd : 0 < d) (hd1 : d ≤ 4611686018427387904) :
    Calls Tryd.prog 15 #[.int .i64 n, .int .i64 d] w fun e w' => ∃ r, e = .returned r ∧ RatioAt w' r (n.tdiv ((Nat.gcd n.natAbs d : Nat) : Int)) (d / Nat.gcd n.natAbs d) ∧ Below w.heap.size w w' := by
  have hB0 : Below w.heap.size w (w.alloc (.cells #[.bool false, .slice none 0 0, .slice none 0 0] 33)) := (Below.refl _ _).alloc (Nat.le_refl _) _
  have hN := noInts_new3 w false none 0 0 none 0 0 33
  have hc : ∀ j v, #[.bool false, .slice none 0 0, .slice none 0 0][j]? = some v → (w.alloc (.cells #[.bool false, .slice none 0 0, .slice none 0 0] 33)).cell? ⟨w.heap.size, j, none⟩ = some v := fun j v h => by rw [World.cell?_alloc_at _ _ _ _ rfl]; exact h
  have hf : ∀ j, (w.alloc (.cells #[.bool false, .slice none 0 0, .slice none 0 0] 33)).frozen? ⟨w.heap.size, j, none⟩ = false := fun j => frozen_new rfl
  have hz0 : w.heap.size + 1 = (w.alloc (.cells #[.bool false, .slice none 0 0, .slice none 0 0] 33)).heap.size := by simp
  generalize hW : w.alloc (.cells #[.bool false, .slice none 0 0, .slice none 0 0] 33) = W0 at hB0 hN hc hf hz0
  have hs := SignedOf_any n W0 h0 h1
  have HW := Hid.mk' hW
  have HN := Hid.mk' hN
  have HB := Hid.mk' hB0
  have HC := Hid.mk' hc
  have HF := Hid.mk' hf
  clear hB0 hN hW hc hf
  go_enter Tryd.func15, Tryd.ntmps15
  go_wp2_with fail
  rw [HW.out]
  refine hs.mono ?_
  clear hs
  rintro e w1 ⟨v1, rfl, ⟨u1, rfl, hu1⟩, hb1⟩
  obtain ⟨ad1, l1, cap1, rfl, _⟩ := hu1.len
  obtain ⟨s, hs⟩ : ∃ s, decide (n < 0) = s := ⟨_, rfl⟩
  rw [hs]
  have HSN := Hid.mk' hs
  have hb1' := below_chain hb1 ((Below.refl w1.heap.size w1).alloc (Nat.le_refl _) (.cells #[.bool s, .slice ad1 l1 cap1] 31))
  have HU1 := Hid.mk' (hu1.later ((Below.refl w1.heap.size w1).alloc (Nat.le_refl _) (.cells #[.bool s, .slice ad1 l1 cap1] 31)))
  have hs2 := SignedOf_any (d : Int) (w1.alloc (.cells #[.bool s, .slice ad1 l1 cap1] 31)) (by omega) (by omega)
  have HB1 := Hid.mk' hb1'
  clear hu1 hb1 hb1' hs
  go_wp2_with fail
  refine hs2.mono ?_
  clear hs2
  rintro e w2 ⟨v2, rfl, ⟨u2, rfl, hu2⟩, hb2⟩
  rw [decide_eq_false (show ¬ (d : Int) < 0 by omega)]
  rw [Int.natAbs_natCast] at hu2
  obtain ⟨ad2, l2, cap2, rfl, _⟩ := hu2.len
  obtain ⟨x0, x1, _, _⟩ := res_past hb2
  have hal : Below w2.heap.size w2 (w2.alloc (.cells #[.bool false, .slice ad2 l2 cap2] 31)) := (Below.refl _ _).alloc (Nat.le_refl _) _
  have y0 := (cell_past x0 hal).2
  have y1 := (cell_past x1 hal).2
  have HRA : Hid (RatioAt (w2.alloc (.cells #[.bool false, .slice ad2 l2 cap2] 31)) (.agg #[.bool s, .slice ad1 l1 cap1, .slice ad2 l2 cap2]) n d) := ⟨_, _, by rw [HSN.out], (HU1.out.later hb2).later hal, hu2.later hal⟩
  have hB2 := below_chain (below_chain HB1.out hb2) hal
  have HB2 := Hid.mk' hB2
  obtain ⟨k, hk, hk6⟩ : ∃ k, 4611686018427387904 < 1000000 ^ k ∧ k + 1 ≤ 1000000 := ⟨4, by decide, by omega⟩
  have hlow := Lowest_any _ n d k _ HRA.out hd (Nat.lt_of_le_of_lt (by omega) hk) (Nat.lt_of_le_of_lt hd1 hk) hk6
  clear hu2 hb2 hal hB2 x0 x1 HB1 HU1 hk
  go_wp2_with fail
  refine hlow.mono ?_
  clear hlow y0 y1
  rintro e w3 ⟨rv, rfl, ⟨ur, qr, rfl, hur, hqr⟩, hb3⟩
  obtain ⟨ad5, l5, cap5, rfl, _⟩ := hur.len
  obtain ⟨ad6, l6, cap6, rfl, _⟩ := hqr.len
  have hbw := below_chain HB2.out hb3
  have c0 := (cell_past (HC.out 0 _ rfl) hbw).2
  have c1 := (cell_past (HC.out 1 _ rfl) hbw).2
  have c2 := (cell_past (HC.out 2 _ rfl) hbw).2
  have f0 := (frozen_past (HC.out 0 _ rfl) (HF.out 0) hbw).2
  have f1 := (frozen_past (HC.out 1 _ rfl) (HF.out 1) hbw).2
  have f2 := (frozen_past (HC.out 2 _ rfl) (HF.out 2) hbw).2
  have HUR := Hid.mk' hur
  have HQR := Hid.mk' hqr
  have HBW := Hid.mk' hbw
  clear hur hqr hb3 hbw
  go_wp2_with fail
  refine bodyPost_ret (v := .agg #[.bool (decide (n.tdiv ((Nat.gcd n.natAbs d : Nat) : Int) < 0)), .slice ad5 l5 cap5, .slice ad6 l6 cap6]) (by simp [results, Tryd.results15, go_sem, c0, c1, c2]) rfl ⟨_, rfl, ⟨_, _, rfl, HUR.out.set3 (HN.out.later (by omega) HBW.out) c0 c1, HQR.out.set3 (HN.out.later (by omega) HBW.out) c0 c1⟩, below_set3 (below_chain HB.out HBW.out) (by omega) _ _ _⟩
end Go.Proofs.YtklhfagcembigaaDoor
