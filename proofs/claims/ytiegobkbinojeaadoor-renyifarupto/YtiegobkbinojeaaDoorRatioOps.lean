/- The document's fractions: RatioOf, Times, Plus. -/
import Derived.Test.YtiegobkbinojeaaDoorRatio
namespace Go.Proofs.YtiegobkbinojeaaDoor
open Go.RowKit

/-- Two boxes and a result, three cells each, behind a call. -/
theorem nine_past {w w1 : World} {x0 x1 x2 y0 y1 y2 r0 r1 r2 : Value} {t : TypeId} (hb : Below (((w.alloc (.cells #[x0, x1, x2] t)).alloc (.cells #[y0, y1, y2] t)).alloc (.cells #[r0, r1, r2] t)).heap.size (((w.alloc (.cells #[x0, x1, x2] t)).alloc (.cells #[y0, y1, y2] t)).alloc (.cells #[r0, r1, r2] t)) w1) :
    (w1.cell? ⟨w.heap.size, 0, none⟩ = some x0 ∧ w1.cell? ⟨w.heap.size, 1, none⟩ = some x1 ∧ w1.cell? ⟨w.heap.size, 2, none⟩ = some x2) ∧ (w1.cell? ⟨w.heap.size + 1, 0, none⟩ = some y0 ∧ w1.cell? ⟨w.heap.size + 1, 1, none⟩ = some y1 ∧ w1.cell? ⟨w.heap.size + 1, 2, none⟩ = some y2) ∧ (w1.cell? ⟨w.heap.size + 1 + 1, 0, none⟩ = some r0 ∧ w1.cell? ⟨w.heap.size + 1 + 1, 1, none⟩ = some r1 ∧ w1.cell? ⟨w.heap.size + 1 + 1, 2, none⟩ = some r2) ∧ w1.frozen? ⟨w.heap.size + 1 + 1, 0, none⟩ = false ∧ w1.frozen? ⟨w.heap.size + 1 + 1, 1, none⟩ = false ∧ w1.frozen? ⟨w.heap.size + 1 + 1, 2, none⟩ = false := by
  have a : ∀ j v, #[x0, x1, x2][j]? = some v → (((w.alloc (.cells #[x0, x1, x2] t)).alloc (.cells #[y0, y1, y2] t)).alloc (.cells #[r0, r1, r2] t)).cell? ⟨w.heap.size, j, none⟩ = some v := fun j v h => by rw [World.cell?_alloc_lt _ _ ⟨w.heap.size, j, none⟩ (by simp; omega), World.cell?_alloc_lt _ _ ⟨w.heap.size, j, none⟩ (by simp), World.cell?_alloc_at _ _ _ _ rfl]; exact h
  have b : ∀ j v, #[y0, y1, y2][j]? = some v → (((w.alloc (.cells #[x0, x1, x2] t)).alloc (.cells #[y0, y1, y2] t)).alloc (.cells #[r0, r1, r2] t)).cell? ⟨w.heap.size + 1, j, none⟩ = some v := fun j v h => by rw [World.cell?_alloc_lt _ _ ⟨w.heap.size + 1, j, none⟩ (by simp), World.cell?_alloc_at _ _ _ _ (by simp)]; exact h
  have c : ∀ j v, #[r0, r1, r2][j]? = some v → (((w.alloc (.cells #[x0, x1, x2] t)).alloc (.cells #[y0, y1, y2] t)).alloc (.cells #[r0, r1, r2] t)).cell? ⟨w.heap.size + 1 + 1, j, none⟩ = some v := fun j v h => by rw [World.cell?_alloc_at _ _ _ _ (by simp)]; exact h
  exact ⟨⟨(cell_past (a 0 x0 rfl) hb).2, (cell_past (a 1 x1 rfl) hb).2, (cell_past (a 2 x2 rfl) hb).2⟩, ⟨(cell_past (b 0 y0 rfl) hb).2, (cell_past (b 1 y1 rfl) hb).2, (cell_past (b 2 y2 rfl) hb).2⟩, ⟨(cell_past (c 0 r0 rfl) hb).2, (cell_past (c 1 r1 rfl) hb).2, (cell_past (c 2 r2 rfl) hb).2⟩, (frozen_past (c 0 r0 rfl) (frozen_new (by simp)) hb).2, (frozen_past (c 1 r1 rfl) (frozen_new (by simp)) hb).2, (frozen_past (c 2 r2 rfl) (frozen_new (by simp)) hb).2⟩
theorem noInts_third3 (w : World) (X Y : Obj) (t : TypeId) : NoInts (((w.alloc X).alloc Y).alloc (.cells #[.bool false, .slice none 0 0, .slice none 0 0] t)) (w.heap.size + 1 + 1) := by
  have := noInts_new3 ((w.alloc X).alloc Y) false none 0 0 none 0 0 t
  simpa using this

set_option maxRecDepth 10000 in
set_option maxHeartbeats 4000000 in
/-- Times: the product, in its lowest terms. -/
theorem Times_ratio (v1 v2 : Value) (n1 n2 : Int) (d1 d2 k : Nat) (w : World) (h1 : RatioAt w v1 n1 d1) (h2 : RatioAt w v2 n2 d2) (hd1 : 0 < d1) (hd2 : 0 < d2) (hn1 : n1.natAbs < 1000000 ^ k) (hn2 : n2.natAbs < 1000000 ^ k) (hk1 : d1 < 1000000 ^ k) (hk2 : d2 < 1000000 ^ k) (hk : k + k + 1 ≤ 1000000) :
    Calls Tryd.prog 21 #[v1, v2] w fun e w' => ∃ r, e = .returned r ∧ RatioAt w' r ((n1 * n2).tdiv ((Nat.gcd (n1 * n2).natAbs (d1 * d2) : Nat) : Int)) (d1 * d2 / Nat.gcd (n1 * n2).natAbs (d1 * d2)) ∧ Below w.heap.size w w' := by
  obtain ⟨u1, q1, rfl, hu1, hq1⟩ := h1
  obtain ⟨u2, q2, rfl, hu2, hq2⟩ := h2
  obtain ⟨ad1, l1, cap1, rfl, _⟩ := hu1.len
  obtain ⟨bd1, m1, bap1, rfl, _⟩ := hq1.len
  obtain ⟨ad2, l2, cap2, rfl, _⟩ := hu2.len
  obtain ⟨bd2, m2, bap2, rfl, _⟩ := hq2.len
  obtain ⟨s1, hs1⟩ : ∃ s, decide (n1 < 0) = s := ⟨_, rfl⟩
  obtain ⟨s2, hs2⟩ : ∃ s, decide (n2 < 0) = s := ⟨_, rfl⟩
  rw [hs1, hs2]
  have hB0 : Below w.heap.size w (((w.alloc (.cells #[.bool s1, .slice ad1 l1 cap1, .slice bd1 m1 bap1] 50)).alloc (.cells #[.bool s2, .slice ad2 l2 cap2, .slice bd2 m2 bap2] 50)).alloc (.cells #[.bool false, .slice none 0 0, .slice none 0 0] 50)) := (((Below.refl _ _).alloc (Nat.le_refl _) _).alloc (by simp) _).alloc (by simp; omega) _
  have hN := noInts_third3 w (.cells #[.bool s1, .slice ad1 l1 cap1, .slice bd1 m1 bap1] 50) (.cells #[.bool s2, .slice ad2 l2 cap2, .slice bd2 m2 bap2] 50) 50
  have hNP := fun (w1 : World) => nine_past (w := w) (w1 := w1) (x0 := .bool s1) (x1 := .slice ad1 l1 cap1) (x2 := .slice bd1 m1 bap1) (y0 := .bool s2) (y1 := .slice ad2 l2 cap2) (y2 := .slice bd2 m2 bap2) (r0 := .bool false) (r1 := .slice none 0 0) (r2 := .slice none 0 0) (t := 50)
  have hz0 : w.heap.size + 1 + 1 + 1 = (((w.alloc (.cells #[.bool s1, .slice ad1 l1 cap1, .slice bd1 m1 bap1] 50)).alloc (.cells #[.bool s2, .slice ad2 l2 cap2, .slice bd2 m2 bap2] 50)).alloc (.cells #[.bool false, .slice none 0 0, .slice none 0 0] 50)).heap.size := by simp
  generalize hW : (((w.alloc (.cells #[.bool s1, .slice ad1 l1 cap1, .slice bd1 m1 bap1] 50)).alloc (.cells #[.bool s2, .slice ad2 l2 cap2, .slice bd2 m2 bap2] 50)).alloc (.cells #[.bool false, .slice none 0 0, .slice none 0 0] 50)) = W0 at hB0 hN hNP hz0
  have hKS : ∀ W, Below (w.heap.size + 1 + 1) W0 W → (W.cell? ⟨w.heap.size, 0, none⟩ = some (.bool s1) ∧ W.cell? ⟨w.heap.size, 1, none⟩ = some (.slice ad1 l1 cap1) ∧ W.cell? ⟨w.heap.size, 2, none⟩ = some (.slice bd1 m1 bap1)) ∧ (W.cell? ⟨w.heap.size + 1, 0, none⟩ = some (.bool s2) ∧ W.cell? ⟨w.heap.size + 1, 1, none⟩ = some (.slice ad2 l2 cap2) ∧ W.cell? ⟨w.heap.size + 1, 2, none⟩ = some (.slice bd2 m2 bap2)) := fun W hb => by
    obtain ⟨⟨a0, a1, a2⟩, ⟨b0, b1, b2⟩, _⟩ := hNP W0 (Below.refl _ _)
    have ha : ∀ j v, W0.cell? ⟨w.heap.size, j, none⟩ = some v → W.cell? ⟨w.heap.size, j, none⟩ = some v := fun j v h => by rw [hb.cell (p := ⟨w.heap.size, j, none⟩) (by show w.heap.size < _; omega)]; exact h
    have hb' : ∀ j v, W0.cell? ⟨w.heap.size + 1, j, none⟩ = some v → W.cell? ⟨w.heap.size + 1, j, none⟩ = some v := fun j v h => by rw [hb.cell (p := ⟨w.heap.size + 1, j, none⟩) (by show w.heap.size + 1 < _; omega)]; exact h
    exact ⟨⟨ha 0 _ a0, ha 1 _ a1, ha 2 _ a2⟩, ⟨hb' 0 _ b0, hb' 1 _ b1, hb' 2 _ b2⟩⟩
  have HS1 := Hid.mk' (show SignedAt W0.drew (.agg #[.bool s1, .slice ad1 l1 cap1]) n1 from ⟨_, by rw [hs1], (hu1.later hB0).later ((Below.refl _ _).drew)⟩)
  have HS2 := Hid.mk' (show SignedAt W0.drew (.agg #[.bool s2, .slice ad2 l2 cap2]) n2 from ⟨_, by rw [hs2], (hu2.later hB0).later ((Below.refl _ _).drew)⟩)
  have HD1 := Hid.mk' ((hq1.later hB0).later ((Below.refl _ _).drew))
  have HD2 := Hid.mk' ((hq2.later hB0).later ((Below.refl _ _).drew))
  have hmul := SignedMul_any _ _ n1 n2 k W0.drew HS1.out HS2.out hn1 hn2 (by omega)
  have HMUL := Hid.mk' hmul
  have HKS := Hid.mk' hKS
  have HW := Hid.mk' hW
  have HNP := Hid.mk' hNP
  have HN := Hid.mk' hN
  have HB := Hid.mk' hB0
  have HBD := Hid.mk' (And.intro hn1 (And.intro hn2 (And.intro hk1 hk2)))
  have hcur0 : Below (w.heap.size + 1 + 1) W0 W0 := Below.refl _ _
  have hcur : Below (w.heap.size + 1 + 1) W0 W0.drew := (Below.refl _ _).drew
  clear hs1 hs2 hu1 hu2 hq1 hq2 hB0 hN hNP hW hKS hmul hn1 hn2 hk1 hk2
  go_enter Tryd.func21, Tryd.ntmps21
  go_wp2_with fail
  rw [HW.out]
  go_region_held3 (fun W => (W.cell? ⟨w.heap.size, 0, none⟩ = some (.bool s1) ∧ W.cell? ⟨w.heap.size, 1, none⟩ = some (.slice ad1 l1 cap1) ∧ W.cell? ⟨w.heap.size, 2, none⟩ = some (.slice bd1 m1 bap1)) ∧ (W.cell? ⟨w.heap.size + 1, 0, none⟩ = some (.bool s2) ∧ W.cell? ⟨w.heap.size + 1, 1, none⟩ = some (.slice ad2 l2 cap2) ∧ W.cell? ⟨w.heap.size + 1, 2, none⟩ = some (.slice bd2 m2 bap2)))
    (first | exact HKS.out _ hcur0 | exact HKS.out _ hcur | exact HKS.out _ hc1 | exact HKS.out _ hc2 | exact HKS.out _ hc3 | exact HKS.out _ (below_set3 hc3 (Nat.le_refl _) _ _ _))
    (first
      | (go_at_call 47; refine HMUL.out.mono ?_; rintro e w1 ⟨sv, rfl, ⟨us, rfl, hus⟩, hb1⟩; obtain ⟨ad3, l3, cap3, rfl, _⟩ := hus.len; have hbw1 := below_chain ((Below.refl _ _).drew) hb1; have hc1 : Below (w.heap.size + 1 + 1) W0 w1 := hbw1.mono (by omega); have HUS := Hid.mk' hus; have HBW1 := Hid.mk' hbw1; have HBD1 := Hid.mk' hb1; clear hus hb1 hbw1)
      | (go_at_call 48; refine (BigMul_any _ _ _ _ k w1 (HD1.out.later HBD1.out) (HD2.out.later HBD1.out) HBD.out.2.2.1 HBD.out.2.2.2 (by omega)).mono ?_; rintro e w2 ⟨qv, rfl, hqv, hb2⟩; obtain ⟨ad4, l4, cap4, rfl, _⟩ := hqv.len; have hbw2 := below_chain HBW1.out hb2; have hc2 : Below (w.heap.size + 1 + 1) W0 w2 := hbw2.mono (by omega); have HRA : Hid (RatioAt w2 (.agg #[.bool (decide (n1 * n2 < 0)), .slice ad3 l3 cap3, .slice ad4 l4 cap4]) (n1 * n2) (d1 * d2)) := ⟨_, _, rfl, HUS.out.later hb2, hqv⟩; have HBW2 := Hid.mk' hbw2; clear hqv hb2 hbw2)
      | (go_at_call 46; refine (Lowest_any _ _ _ (k + k) w2 HRA.out (Nat.mul_pos hd1 hd2) (by rw [Int.natAbs_mul, Nat.pow_add]; exact Nat.mul_lt_mul'' HBD.out.1 HBD.out.2.1) (by rw [Nat.pow_add]; exact Nat.mul_lt_mul'' HBD.out.2.2.1 HBD.out.2.2.2) hk).mono ?_; rintro e w3 ⟨rv, rfl, ⟨ur, qr, rfl, hur, hqr⟩, hb3⟩; obtain ⟨ad5, l5, cap5, rfl, _⟩ := hur.len; obtain ⟨ad6, l6, cap6, rfl, _⟩ := hqr.len; have hbw3 := below_chain HBW2.out hb3; have hc3 : Below (w.heap.size + 1 + 1) W0 w3 := hbw3.mono (by omega); obtain ⟨_, _, ⟨c0, c1, c2⟩, f0, f1, f2⟩ := HNP.out w3 hbw3; have HUR := Hid.mk' hur; have HQR := Hid.mk' hqr; have HBW3 := Hid.mk' hbw3; clear hur hqr hb3 hbw3))
  go_wp2_with fail
  refine bodyPost_ret (v := .agg #[.bool (decide ((n1 * n2).tdiv ((Nat.gcd (n1 * n2).natAbs (d1 * d2) : Nat) : Int) < 0)), .slice ad5 l5 cap5, .slice ad6 l6 cap6]) (by simp [results, Tryd.results21, go_sem, c0, c1, c2]) rfl ⟨_, rfl, ⟨_, _, rfl, HUR.out.set3 (HN.out.later (by omega) HBW3.out) c0 c1, HQR.out.set3 (HN.out.later (by omega) HBW3.out) c0 c1⟩, below_set3 (below_chain HB.out HBW3.out) (by omega) _ _ _⟩

set_option maxRecDepth 10000 in
set_option maxHeartbeats 2000000 in
/-- RatioOf a number over one that is above 0. -/
theorem RatioOf_any (n : Int) (d : Nat) (w : World) (h0 : -4611686018427387904 ≤ n) (h1 : n ≤ 4611686018427387904) (hd : 0 < d) (hd1 : d ≤ 4611686018427387904) :
    Calls Tryd.prog 22 #[.int .i64 n, .int .i64 d] w fun e w' => ∃ r, e = .returned r ∧ RatioAt w' r (n.tdiv ((Nat.gcd n.natAbs d : Nat) : Int)) (d / Nat.gcd n.natAbs d) ∧ Below w.heap.size w w' := by
  have hB0 : Below w.heap.size w (w.alloc (.cells #[.bool false, .slice none 0 0, .slice none 0 0] 50)) := (Below.refl _ _).alloc (Nat.le_refl _) _
  have hN := noInts_new3 w false none 0 0 none 0 0 50
  have hc : ∀ j v, #[.bool false, .slice none 0 0, .slice none 0 0][j]? = some v → (w.alloc (.cells #[.bool false, .slice none 0 0, .slice none 0 0] 50)).cell? ⟨w.heap.size, j, none⟩ = some v := fun j v h => by rw [World.cell?_alloc_at _ _ _ _ rfl]; exact h
  have hf : ∀ j, (w.alloc (.cells #[.bool false, .slice none 0 0, .slice none 0 0] 50)).frozen? ⟨w.heap.size, j, none⟩ = false := fun j => frozen_new rfl
  have hz0 : w.heap.size + 1 = (w.alloc (.cells #[.bool false, .slice none 0 0, .slice none 0 0] 50)).heap.size := by simp
  generalize hW : w.alloc (.cells #[.bool false, .slice none 0 0, .slice none 0 0] 50) = W0 at hB0 hN hc hf hz0
  have hs := SignedOf_any n W0 h0 h1
  have HW := Hid.mk' hW
  have HN := Hid.mk' hN
  have HB := Hid.mk' hB0
  have HC := Hid.mk' hc
  have HF := Hid.mk' hf
  clear hB0 hN hW hc hf
  go_enter Tryd.func22, Tryd.ntmps22
  go_wp2_with fail
  rw [HW.out]
  refine hs.mono ?_
  clear hs
  rintro e w1 ⟨v1, rfl, ⟨u1, rfl, hu1⟩, hb1⟩
  obtain ⟨ad1, l1, cap1, rfl, _⟩ := hu1.len
  obtain ⟨s, hs⟩ : ∃ s, decide (n < 0) = s := ⟨_, rfl⟩
  rw [hs]
  have HSN := Hid.mk' hs
  have hb1' := below_chain hb1 ((Below.refl w1.heap.size w1).alloc (Nat.le_refl _) (.cells #[.bool s, .slice ad1 l1 cap1] 48))
  have HU1 := Hid.mk' (hu1.later ((Below.refl w1.heap.size w1).alloc (Nat.le_refl _) (.cells #[.bool s, .slice ad1 l1 cap1] 48)))
  have hs2 := SignedOf_any (d : Int) (w1.alloc (.cells #[.bool s, .slice ad1 l1 cap1] 48)) (by omega) (by omega)
  have HB1 := Hid.mk' hb1'
  clear hu1 hb1 hb1' hs
  go_wp2_with fail
  refine hs2.mono ?_
  clear hs2
  rintro e w2 ⟨v2, rfl, ⟨u2, rfl, hu2⟩, hb2⟩
  rw [decide_eq_false (show ¬ (d : Int) < 0 by omega)]
  rw [Int.natAbs_natCast] at hu2
  obtain ⟨ad2, l2, cap2, rfl, _⟩ := hu2.len
  obtain ⟨x0, x1, _, _⟩ := res_past hb2
  have hal : Below w2.heap.size w2 (w2.alloc (.cells #[.bool false, .slice ad2 l2 cap2] 48)) := (Below.refl _ _).alloc (Nat.le_refl _) _
  have y0 := (cell_past x0 hal).2
  have y1 := (cell_past x1 hal).2
  have HRA : Hid (RatioAt (w2.alloc (.cells #[.bool false, .slice ad2 l2 cap2] 48)) (.agg #[.bool s, .slice ad1 l1 cap1, .slice ad2 l2 cap2]) n d) := ⟨_, _, by rw [HSN.out], (HU1.out.later hb2).later hal, hu2.later hal⟩
  have hB2 := below_chain (below_chain HB1.out hb2) hal
  have HB2 := Hid.mk' hB2
  obtain ⟨k, hk, hk6⟩ : ∃ k, 4611686018427387904 < 1000000 ^ k ∧ k + 1 ≤ 1000000 := ⟨4, by decide, by omega⟩
  have hlow := Lowest_any _ n d k _ HRA.out hd (Nat.lt_of_le_of_lt (by omega) hk) (Nat.lt_of_le_of_lt hd1 hk) hk6
  clear hu2 hb2 hal hB2 x0 x1 HB1 HU1 hk
  go_wp2_with fail
  refine hlow.mono ?_
  clear hlow y0 y1
  rintro e w3 ⟨rv, rfl, ⟨ur, qr, rfl, hur, hqr⟩, hb3⟩
  obtain ⟨ad5, l5, cap5, rfl, _⟩ := hur.len
  obtain ⟨ad6, l6, cap6, rfl, _⟩ := hqr.len
  have hbw := below_chain HB2.out hb3
  have c0 := (cell_past (HC.out 0 _ rfl) hbw).2
  have c1 := (cell_past (HC.out 1 _ rfl) hbw).2
  have c2 := (cell_past (HC.out 2 _ rfl) hbw).2
  have f0 := (frozen_past (HC.out 0 _ rfl) (HF.out 0) hbw).2
  have f1 := (frozen_past (HC.out 1 _ rfl) (HF.out 1) hbw).2
  have f2 := (frozen_past (HC.out 2 _ rfl) (HF.out 2) hbw).2
  have HUR := Hid.mk' hur
  have HQR := Hid.mk' hqr
  have HBW := Hid.mk' hbw
  clear hur hqr hb3 hbw
  go_wp2_with fail
  refine bodyPost_ret (v := .agg #[.bool (decide (n.tdiv ((Nat.gcd n.natAbs d : Nat) : Int) < 0)), .slice ad5 l5 cap5, .slice ad6 l6 cap6]) (by simp [results, Tryd.results22, go_sem, c0, c1, c2]) rfl ⟨_, rfl, ⟨_, _, rfl, HUR.out.set3 (HN.out.later (by omega) HBW.out) c0 c1, HQR.out.set3 (HN.out.later (by omega) HBW.out) c0 c1⟩, below_set3 (below_chain HB.out HBW.out) (by omega) _ _ _⟩
end Go.Proofs.YtiegobkbinojeaaDoor
