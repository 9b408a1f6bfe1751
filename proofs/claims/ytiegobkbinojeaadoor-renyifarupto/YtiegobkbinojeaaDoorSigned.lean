/- The document's whole numbers with a sign. -/
import Derived.Test.YtiegobkbinojeaaDoorBigPart
namespace Go.Proofs.YtiegobkbinojeaaDoor
open Go.RowKit

/-- A block without whole numbers: a box of a number with a sign, or of a fraction. -/
def NoInts (w : World) (B : Nat) : Prop := ∀ j x, w.cell? ⟨B, j, none⟩ ≠ some (.int .i64 x)
theorem NoInts.later {w w' : World} {B : Nat} (h : NoInts w B) (hB : B < w.heap.size) (hb : Below w.heap.size w w') : NoInts w' B := fun j x => by
  rw [hb.cell (p := ⟨B, j, none⟩) hB]; exact h j x
theorem IntsAt.set {w : World} {u : Value} {l : List Nat} {B j : Nat} {y : Value} (h : IntsAt w u l) (hn : NoInts w B) : IntsAt (w.setCell ⟨B, j, none⟩ y) u l := by
  rcases h with h | ⟨b, o, cap, h1, h2, h3, h4⟩
  · exact Or.inl h
  · refine Or.inr ⟨b, o, cap, h1, h2, h3, fun i hi => ?_⟩
    have hne : b ≠ B := fun e => by have := h4 i hi; rw [e] at this; exact hn _ _ this
    rw [World.cell?_setCell_far _ _ _ _ (fun e => hne e.symm)]
    exact h4 i hi
theorem BigAt.set {w : World} {u : Value} {n B j : Nat} {y : Value} (h : BigAt w u n) (hn : NoInts w B) : BigAt (w.setCell ⟨B, j, none⟩ y) u n := by
  obtain ⟨l, h1, h2, h3, h4⟩ := h
  exact ⟨l, h1, h2, h3, h4.set hn⟩
theorem NoInts.set {w : World} {B j : Nat} {v y : Value} (h : NoInts w B) (hv : w.cell? ⟨B, j, none⟩ = some v) (hy : ∀ x, y ≠ .int .i64 x) : NoInts (w.setCell ⟨B, j, none⟩ y) B := fun i x e => by
  by_cases hij : i = j
  · subst hij
    rw [World.cell?_setCell_same _ _ _ hv] at e
    exact hy x (Option.some.inj e)
  · rw [World.cell?_setCell_other _ _ _ _ (by simp <;> omega)] at e
    exact h i x e
/-- Behind the store of a result: its numbers lie elsewhere. -/
theorem BigAt.set2 {w : World} {u : Value} {n B : Nat} {x y : Value} {a : Bool} {ad : Option Addr} {l cap : Nat} (h : BigAt w u n) (hn : NoInts w B) (c0 : w.cell? ⟨B, 0, none⟩ = some x) (_c1 : w.cell? ⟨B, 1, none⟩ = some y) : BigAt ((w.setCell ⟨B, 0, none⟩ (.bool a)).setCell ⟨B, 1, none⟩ (.slice ad l cap)) u n :=
  (h.set hn).set (hn.set c0 (fun x e => by cases e))
theorem noInts_new2 (w : World) (a : Bool) (ad : Option Addr) (n cap : Nat) (t : TypeId) : NoInts (w.alloc (.cells #[.bool a, .slice ad n cap] t)) w.heap.size := fun j x e => by
  rw [World.cell?_alloc_at _ _ _ _ rfl] at e
  rcases j with _ | _ | j
  · simp at e
  · simp at e
  · simp at e

/-- A number with a sign. -/
def SignedAt (w : World) (v : Value) (z : Int) : Prop := ∃ u, v = .agg #[.bool (decide (z < 0)), u] ∧ BigAt w u z.natAbs
theorem SignedAt.later {w w' : World} {v : Value} {z : Int} (h : SignedAt w v z) (hb : Below w.heap.size w w') : SignedAt w' v z := by
  obtain ⟨u, rfl, h⟩ := h
  exact ⟨u, rfl, h.later hb⟩

/-- What a result's cell holds behind a call. -/
theorem res_past {w w1 : World} {x y : Value} {t : TypeId} (hb : Below (w.alloc (.cells #[x, y] t)).heap.size (w.alloc (.cells #[x, y] t)) w1) : w1.cell? ⟨w.heap.size, 0, none⟩ = some x ∧ w1.cell? ⟨w.heap.size, 1, none⟩ = some y ∧ w1.frozen? ⟨w.heap.size, 0, none⟩ = false ∧ w1.frozen? ⟨w.heap.size, 1, none⟩ = false := by
  have c0 : (w.alloc (.cells #[x, y] t)).cell? ⟨w.heap.size, 0, none⟩ = some x := by rw [World.cell?_alloc_at _ _ _ _ rfl]; rfl
  have c1 : (w.alloc (.cells #[x, y] t)).cell? ⟨w.heap.size, 1, none⟩ = some y := by rw [World.cell?_alloc_at _ _ _ _ rfl]; rfl
  exact ⟨(cell_past c0 hb).2, (cell_past c1 hb).2, (frozen_past c0 (frozen_new rfl) hb).2, (frozen_past c1 (frozen_new rfl) hb).2⟩

set_option maxRecDepth 10000 in
set_option maxHeartbeats 1000000 in
theorem SignedOf_any (n : Int) (w : World) (h0 : -4611686018427387904 ≤ n) (h1 : n ≤ 4611686018427387904) :
    Calls Tryd.prog 49 #[.int .i64 n] w fun e w' => ∃ v, e = .returned v ∧ SignedAt w' v n ∧ Below w.heap.size w w' := by
  have hB0 : Below w.heap.size w (w.alloc (.cells #[.bool false, .slice none 0 0] 48)) := (Below.refl _ _).alloc (Nat.le_refl _) _
  have hN0 := noInts_new2 w false none 0 0 48
  by_cases hneg : n < 0
  · obtain ⟨m, rfl⟩ : ∃ m : Nat, n = -(m : Int) := ⟨(-n).toNat, by omega⟩
    have hof := BigOf_any m (w.alloc (.cells #[.bool false, .slice none 0 0] 48)) (by omega)
    have HN := Hid.mk' hN0
    have HB := Hid.mk' hB0
    clear hN0 hB0
    go_enter Tryd.func49, Tryd.ntmps49
    go_wp2_with fail
    refine hof.mono ?_
    clear hof
    rintro e w1 ⟨u, rfl, hu, hb1⟩
    obtain ⟨ad, l, cap, rfl, _⟩ := hu.len
    obtain ⟨c0, c1, f0, f1⟩ := res_past hb1
    have HU := Hid.mk' (BigAt.set2 (a := true) (ad := ad) (l := l) (cap := cap) hu (HN.out.later (by simp) hb1) c0 c1)
    have HB1 := Hid.mk' (below_chain HB.out hb1)
    clear hu hb1 HN HB
    go_wp2_with fail
    refine bodyPost_ret (v := .agg #[.bool true, .slice ad l cap]) (by simp [results, Tryd.results49, go_sem, c0, c1]) rfl ⟨_, rfl, ⟨.slice ad l cap, by rw [decide_eq_true hneg], by rw [Int.natAbs_neg, Int.natAbs_natCast]; exact HU.out⟩, (HB1.out.setCell (by simp) _).setCell (by simp) _⟩
  · obtain ⟨m, rfl⟩ := Int.eq_ofNat_of_zero_le (show 0 ≤ n by omega)
    have hof := BigOf_any m (w.alloc (.cells #[.bool false, .slice none 0 0] 48)) (by omega)
    have HN := Hid.mk' hN0
    have HB := Hid.mk' hB0
    clear hN0 hB0
    go_enter Tryd.func49, Tryd.ntmps49
    go_wp2_with fail
    refine hof.mono ?_
    clear hof
    rintro e w1 ⟨u, rfl, hu, hb1⟩
    obtain ⟨ad, l, cap, rfl, _⟩ := hu.len
    obtain ⟨c0, c1, f0, f1⟩ := res_past hb1
    have HU := Hid.mk' (BigAt.set2 (a := false) (ad := ad) (l := l) (cap := cap) hu (HN.out.later (by simp) hb1) c0 c1)
    have HB1 := Hid.mk' (below_chain HB.out hb1)
    clear hu hb1 HN HB
    go_wp2_with fail
    refine bodyPost_ret (v := .agg #[.bool false, .slice ad l cap]) (by simp [results, Tryd.results49, go_sem, c0, c1]) rfl ⟨_, rfl, ⟨.slice ad l cap, by rw [decide_eq_false (by omega)], by rw [Int.natAbs_natCast]; exact HU.out⟩, (HB1.out.setCell (by simp) _).setCell (by simp) _⟩

theorem wide_any (u : Value) (n : Nat) (w : World) (h : BigAt w u n) :
    Calls Tryd.prog 52 #[u] w fun e w' => ∃ v, e = .returned v ∧ SignedAt w' v (n : Int) ∧ Below w.heap.size w w' := by
  obtain ⟨ad, l, cap, rfl, _⟩ := h.len
  have hB0 : Below w.heap.size w (w.alloc (.cells #[.bool false, .slice ad l cap] 48)) := (Below.refl _ _).alloc (Nat.le_refl _) _
  have HU := Hid.mk' (h.later hB0)
  have HB := Hid.mk' hB0
  clear h hB0
  go_enter Tryd.func52, Tryd.ntmps52
  go_wp2_with fail
  refine bodyPost_ret (v := .agg #[.bool false, .slice ad l cap]) (by simp [results, Tryd.results52, go_sem]) rfl ⟨_, rfl, ⟨.slice ad l cap, by rw [decide_eq_false (by omega)], by rw [Int.natAbs_natCast]; exact HU.out⟩, HB.out⟩

set_option maxRecDepth 10000 in
set_option maxHeartbeats 1000000 in
theorem SignedBack_any (v : Value) (z : Int) (w : World) (h : SignedAt w v z) :
    Calls Tryd.prog 50 #[v] w fun e w' => ∃ r, e = .returned r ∧ SignedAt w' r (-z) ∧ Below w.heap.size w w' := by
  obtain ⟨u, rfl, hu⟩ := h
  obtain ⟨ad, l, cap, rfl, hl⟩ := hu.len
  have hB0 : ∀ x, Below w.heap.size w ((w.alloc (.cells #[.bool (decide (z < 0)), .slice ad l cap] 48)).alloc (.cells #[.bool x, .slice ad l cap] 48)) := fun x => ((Below.refl _ _).alloc (Nat.le_refl _) _).alloc (by simp) _
  have HU := Hid.mk' (fun x => hu.later (hB0 x))
  have HB := Hid.mk' hB0
  rcases Int.lt_trichotomy z 0 with h1 | h1 | h1
  · rw [decide_eq_true h1] at HU HB ⊢
    have hl0 : (0 : Int) < (l : Int) := by have := hl.1; omega
    clear hu hB0 hl
    go_enter Tryd.func50, Tryd.ntmps50
    go_wp2_with fail
    refine bodyPost_ret (v := .agg #[.bool false, .slice ad l cap]) (by simp [results, Tryd.results50, go_sem]) rfl ⟨_, rfl, ⟨.slice ad l cap, by rw [decide_eq_false (by omega)], by rw [Int.natAbs_neg]; exact HU.out _⟩, HB.out _⟩
  · subst h1
    have hl0 : l = 0 := hl.2 rfl
    subst hl0
    clear hu hB0 hl
    go_enter Tryd.func50, Tryd.ntmps50
    go_wp2_with fail
    refine bodyPost_ret (v := .agg #[.bool false, .slice ad 0 cap]) (by simp [results, Tryd.results50, go_sem]) rfl ⟨_, rfl, ⟨.slice ad 0 cap, rfl, HU.out _⟩, HB.out _⟩
  · rw [decide_eq_false (show ¬ z < 0 by omega)] at HU HB ⊢
    have hl0 : (0 : Int) < (l : Int) := by have := hl.1; omega
    clear hu hB0 hl
    go_enter Tryd.func50, Tryd.ntmps50
    go_wp2_with fail
    refine bodyPost_ret (v := .agg #[.bool true, .slice ad l cap]) (by simp [results, Tryd.results50, go_sem]; omega) rfl ⟨_, rfl, ⟨.slice ad l cap, by rw [decide_eq_true (by omega)], by rw [Int.natAbs_neg]; exact HU.out _⟩, HB.out _⟩

/-- Two boxes and a result, behind a call. -/
theorem three_past {w w1 : World} {x0 x1 y0 y1 r0 r1 : Value} {t : TypeId} (hb : Below (((w.alloc (.cells #[x0, x1] t)).alloc (.cells #[y0, y1] t)).alloc (.cells #[r0, r1] t)).heap.size (((w.alloc (.cells #[x0, x1] t)).alloc (.cells #[y0, y1] t)).alloc (.cells #[r0, r1] t)) w1) :
    (w1.cell? ⟨w.heap.size, 0, none⟩ = some x0 ∧ w1.cell? ⟨w.heap.size, 1, none⟩ = some x1) ∧ (w1.cell? ⟨w.heap.size + 1, 0, none⟩ = some y0 ∧ w1.cell? ⟨w.heap.size + 1, 1, none⟩ = some y1) ∧ (w1.cell? ⟨w.heap.size + 1 + 1, 0, none⟩ = some r0 ∧ w1.cell? ⟨w.heap.size + 1 + 1, 1, none⟩ = some r1) ∧ w1.frozen? ⟨w.heap.size + 1 + 1, 0, none⟩ = false ∧ w1.frozen? ⟨w.heap.size + 1 + 1, 1, none⟩ = false := by
  have a0 : (((w.alloc (.cells #[x0, x1] t)).alloc (.cells #[y0, y1] t)).alloc (.cells #[r0, r1] t)).cell? ⟨w.heap.size, 0, none⟩ = some x0 := by rw [World.cell?_alloc_lt _ _ ⟨w.heap.size, 0, none⟩ (by simp; omega), World.cell?_alloc_lt _ _ ⟨w.heap.size, 0, none⟩ (by simp), World.cell?_alloc_at _ _ _ _ rfl]; rfl
  have a1 : (((w.alloc (.cells #[x0, x1] t)).alloc (.cells #[y0, y1] t)).alloc (.cells #[r0, r1] t)).cell? ⟨w.heap.size, 1, none⟩ = some x1 := by rw [World.cell?_alloc_lt _ _ ⟨w.heap.size, 1, none⟩ (by simp; omega), World.cell?_alloc_lt _ _ ⟨w.heap.size, 1, none⟩ (by simp), World.cell?_alloc_at _ _ _ _ rfl]; rfl
  have b0 : (((w.alloc (.cells #[x0, x1] t)).alloc (.cells #[y0, y1] t)).alloc (.cells #[r0, r1] t)).cell? ⟨w.heap.size + 1, 0, none⟩ = some y0 := by rw [World.cell?_alloc_lt _ _ ⟨w.heap.size + 1, 0, none⟩ (by simp), World.cell?_alloc_at _ _ _ _ (by simp)]; rfl
  have b1 : (((w.alloc (.cells #[x0, x1] t)).alloc (.cells #[y0, y1] t)).alloc (.cells #[r0, r1] t)).cell? ⟨w.heap.size + 1, 1, none⟩ = some y1 := by rw [World.cell?_alloc_lt _ _ ⟨w.heap.size + 1, 1, none⟩ (by simp), World.cell?_alloc_at _ _ _ _ (by simp)]; rfl
  have c0 : (((w.alloc (.cells #[x0, x1] t)).alloc (.cells #[y0, y1] t)).alloc (.cells #[r0, r1] t)).cell? ⟨w.heap.size + 1 + 1, 0, none⟩ = some r0 := by rw [World.cell?_alloc_at _ _ _ _ (by simp)]; rfl
  have c1 : (((w.alloc (.cells #[x0, x1] t)).alloc (.cells #[y0, y1] t)).alloc (.cells #[r0, r1] t)).cell? ⟨w.heap.size + 1 + 1, 1, none⟩ = some r1 := by rw [World.cell?_alloc_at _ _ _ _ (by simp)]; rfl
  exact ⟨⟨(cell_past a0 hb).2, (cell_past a1 hb).2⟩, ⟨(cell_past b0 hb).2, (cell_past b1 hb).2⟩, ⟨(cell_past c0 hb).2, (cell_past c1 hb).2⟩, (frozen_past c0 (frozen_new (by simp)) hb).2, (frozen_past c1 (frozen_new (by simp)) hb).2⟩
theorem noInts_third (w : World) (X Y : Obj) (t : TypeId) : NoInts (((w.alloc X).alloc Y).alloc (.cells #[.bool false, .slice none 0 0] t)) (w.heap.size + 1 + 1) := by
  have := noInts_new2 ((w.alloc X).alloc Y) false none 0 0 t
  simpa using this
theorem mul_sign {x y : Int} {s1 s2 : Bool} (h1 : decide (x < 0) = s1) (h2 : decide (y < 0) = s2) : (x * y).natAbs = x.natAbs * y.natAbs ∧ (s1 = s2 → decide (x * y < 0) = false) ∧ (s1 ≠ s2 → ((x * y).natAbs = 0 → decide (x * y < 0) = false) ∧ ((x * y).natAbs ≠ 0 → decide (x * y < 0) = true)) := by
  refine ⟨Int.natAbs_mul x y, fun h => ?_, fun h => ⟨fun h0 => decide_eq_false (by omega), fun h0 => decide_eq_true ?_⟩⟩
  · subst h
    rw [decide_eq_false]
    by_cases hx : x < 0
    · have hy : y < 0 := by rw [decide_eq_true hx] at h1; rw [← h1] at h2; exact of_decide_eq_true h2
      have := Int.mul_nonneg_of_nonpos_of_nonpos (show x ≤ 0 by omega) (show y ≤ 0 by omega)
      omega
    · have hy : ¬ y < 0 := by rw [decide_eq_false hx] at h1; rw [← h1] at h2; exact of_decide_eq_false h2
      have := Int.mul_nonneg (show 0 ≤ x by omega) (show 0 ≤ y by omega)
      omega
  · by_cases hx : x < 0
    · have hy : ¬ y < 0 := fun hy => h (by rw [← h1, ← h2, decide_eq_true hx, decide_eq_true hy])
      have := Int.mul_nonpos_of_nonpos_of_nonneg (show x ≤ 0 by omega) (show 0 ≤ y by omega)
      omega
    · have hy : y < 0 := by
        by_cases hy : y < 0
        · exact hy
        · exact absurd (by rw [← h1, ← h2, decide_eq_false hx, decide_eq_false hy]) h
      have := Int.mul_nonpos_of_nonneg_of_nonpos (show 0 ≤ x by omega) (show y ≤ 0 by omega)
      omega

set_option maxRecDepth 10000 in
set_option maxHeartbeats 2000000 in
theorem SignedMul_any (v1 v2 : Value) (x y : Int) (k : Nat) (w : World) (h1 : SignedAt w v1 x) (h2 : SignedAt w v2 y) (hx : x.natAbs < 1000000 ^ k) (hy : y.natAbs < 1000000 ^ k) (hk : k ≤ 1000000) :
    Calls Tryd.prog 47 #[v1, v2] w fun e w' => ∃ r, e = .returned r ∧ SignedAt w' r (x * y) ∧ Below w.heap.size w w' := by
  obtain ⟨u1, rfl, hu1⟩ := h1
  obtain ⟨u2, rfl, hu2⟩ := h2
  obtain ⟨ad1, l1, cap1, rfl, _⟩ := hu1.len
  obtain ⟨ad2, l2, cap2, rfl, _⟩ := hu2.len
  obtain ⟨s1, hs1⟩ : ∃ s1, decide (x < 0) = s1 := ⟨_, rfl⟩
  obtain ⟨s2, hs2⟩ : ∃ s2, decide (y < 0) = s2 := ⟨_, rfl⟩
  rw [hs1, hs2]
  have hms := mul_sign hs1 hs2
  have hB0 : Below w.heap.size w (((w.alloc (.cells #[.bool s1, .slice ad1 l1 cap1] 48)).alloc (.cells #[.bool s2, .slice ad2 l2 cap2] 48)).alloc (.cells #[.bool false, .slice none 0 0] 48)) := (((Below.refl _ _).alloc (Nat.le_refl _) _).alloc (by simp) _).alloc (by simp; omega) _
  have hmul := BigMul_any _ _ _ _ k _ (hu1.later hB0) (hu2.later hB0) hx hy hk
  rw [← hms.1] at hmul
  have HN := Hid.mk' (noInts_third w (.cells #[.bool s1, .slice ad1 l1 cap1] 48) (.cells #[.bool s2, .slice ad2 l2 cap2] 48) 48)
  have HB := Hid.mk' hB0
  have HMS := Hid.mk' hms.2
  clear hms hs1 hs2 hu1 hu2 hx hy hB0
  generalize x * y = z at *
  go_enter Tryd.func47, Tryd.ntmps47
  go_wp2_with fail
  refine hmul.mono ?_
  clear hmul
  rintro e w1 ⟨u, rfl, hu, hb1⟩
  obtain ⟨ad, l, cap, rfl, hl⟩ := hu.len
  obtain ⟨⟨a0, a1⟩, ⟨b0, b1⟩, ⟨c0, c1⟩, f0, f1⟩ := three_past hb1
  have HNN := Hid.mk' (HN.out.later (by simp) hb1)
  have HU := Hid.mk' hu
  have HB1 := Hid.mk' (below_chain HB.out hb1)
  have HL := Hid.mk' hl
  clear hu hb1 HN HB hl
  cases s1 <;> cases s2
  case false.false =>
    have HD : Hid (decide (z < 0) = false) := HMS.out.1 rfl
    go_wp2_with fail
    refine bodyPost_ret (v := .agg #[.bool false, .slice ad l cap]) (by simp [results, Tryd.results47, go_sem, c0, c1]) rfl ⟨_, rfl, ⟨.slice ad l cap, by rw [HD.out], HU.out.set2 HNN.out c0 c1⟩, (HB1.out.setCell (by simp; omega) _).setCell (by simp; omega) _⟩
  case true.true =>
    have HD : Hid (decide (z < 0) = false) := HMS.out.1 rfl
    go_wp2_with fail
    refine bodyPost_ret (v := .agg #[.bool false, .slice ad l cap]) (by simp [results, Tryd.results47, go_sem, c0, c1]) rfl ⟨_, rfl, ⟨.slice ad l cap, by rw [HD.out], HU.out.set2 HNN.out c0 c1⟩, (HB1.out.setCell (by simp; omega) _).setCell (by simp; omega) _⟩
  all_goals
    rcases Nat.eq_zero_or_pos l with h0 | h0
    · have HD : Hid (decide (z < 0) = false) := (HMS.out.2 (by decide)).1 (HL.out.1 h0)
      subst h0
      go_wp2_with fail
      refine bodyPost_ret (v := .agg #[.bool false, .slice ad 0 cap]) (by simp [results, Tryd.results47, go_sem, c0, c1]) rfl ⟨_, rfl, ⟨.slice ad 0 cap, by rw [HD.out], HU.out.set2 HNN.out c0 c1⟩, (HB1.out.setCell (by simp; omega) _).setCell (by simp; omega) _⟩
    · have HD : Hid (decide (z < 0) = true) := (HMS.out.2 (by decide)).2 (fun h => by have := HL.out.2 h; omega)
      have hl0 : (0 : Int) < (l : Int) := by omega
      go_wp2_with fail
      refine bodyPost_ret (v := .agg #[.bool true, .slice ad l cap]) (by simp [results, Tryd.results47, go_sem, c0, c1] <;> omega) rfl ⟨_, rfl, ⟨.slice ad l cap, by rw [HD.out], HU.out.set2 HNN.out c0 c1⟩, (HB1.out.setCell (by simp; omega) _).setCell (by simp; omega) _⟩
end Go.Proofs.YtiegobkbinojeaaDoor
