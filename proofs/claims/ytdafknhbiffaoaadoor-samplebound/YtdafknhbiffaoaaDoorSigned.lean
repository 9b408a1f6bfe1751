/- The document's whole numbers with a sign. -/
import Derived.Test.YtdafknhbiffaoaaDoorBigPart
namespace Go.Proofs.YtdafknhbiffaoaaDoor
open Go.RowKit

/-- A block without whole numbers: a box of a number with a sign, or of a fraction. -/
def NoInts (w : World) (B : Nat) : Prop := ∀ j x, w.cell? ⟨B, j, none⟩ ≠ some (.int .i64 x)
theorem NoInts.later {w w' : World} {B : Nat} (h : NoInts w B) (hB : B < w.heap.size) (hb : Below w.heap.size w w') : NoInts w' B := fun j x => by
  rw [hb.cell (p := ⟨B, j, none⟩) hB]; exact h j x
theorem IntsAt.set {w : World} {u : Value} {l : List Nat} {B j : Nat} {y : Value} (h : IntsAt w u l) (hn : NoInts w B) : IntsAt (w.setCell ⟨B, j, none⟩ y) u l := by
  rcases h with h | ⟨b, o, cap, h1, h2, h3, h4⟩
  · exact Or.inl h
  · refine Or.inr ⟨b, o, cap, h1, h2, h3, fun i hi => ?_⟩
    have hne : b ≠ B := fun e => by have := h4 i hi; rw [e] at this; exact hn _ _ this
    rw [World.cell?_setCell_far _ _ _ _ (fun e => hne e.symm)]
    exact h4 i hi
theorem BigAt.set {w : World} {u : Value} {n B j : Nat} {y : Value} (h : BigAt w u n) (hn : NoInts w B) : BigAt (w.setCell ⟨B, j, none⟩ y) u n := by
  obtain ⟨l, h1, h2, h3, h4⟩ := h
  exact ⟨l, h1, h2, h3, h4.set hn⟩
theorem NoInts.set {w : World} {B j : Nat} {v y : Value} (h : NoInts w B) (hv : w.cell? ⟨B, j, none⟩ = some v) (hy : ∀ x, y ≠ .int .i64 x) : NoInts (w.setCell ⟨B, j, none⟩ y) B := fun i x e => by
  by_cases hij : i = j
  · subst hij
    rw [World.cell?_setCell_same _ _ _ hv] at e
    exact hy x (Option.some.inj e)
  · rw [World.cell?_setCell_other _ _ _ _ (by simp <;> omega)] at e
    exact h i x e
/-- Behind the store of a result: its numbers lie elsewhere. -/
theorem BigAt.set2 {w : World} {u : Value} {n B : Nat} {x y : Value} {a : Bool} {ad : Option Addr} {l cap : Nat} (h : BigAt w u n) (hn : NoInts w B) (c0 : w.cell? ⟨B, 0, none⟩ = some x) (_c1 : w.cell? ⟨B, 1, none⟩ = some y) : BigAt ((w.setCell ⟨B, 0, none⟩ (.bool a)).setCell ⟨B, 1, none⟩ (.slice ad l cap)) u n :=
  (h.set hn).set (hn.set c0 (fun x e => by cases e))
theorem noInts_new2 (w : World) (a : Bool) (ad : Option Addr) (n cap : Nat) (t : TypeId) : NoInts (w.alloc (.cells #[.bool a, .slice ad n cap] t)) w.heap.size := fun j x e => by
  rw [World.cell?_alloc_at _ _ _ _ rfl] at e
  rcases j with _ | _ | j
  · simp at e
  · simp at e
  · simp at e

/-- A number with a sign. -/
def SignedAt (w : World) (v : Value) (z : Int) : Prop := ∃ u, v = .agg #[.bool (decide (z < 0)), u] ∧ BigAt w u z.natAbs
theorem SignedAt.later {w w' : World} {v : Value} {z : Int} (h : SignedAt w v z) (hb : Below w.heap.size w w') : SignedAt w' v z := by
  obtain ⟨u, rfl, h⟩ := h
  exact ⟨u, rfl, h.later hb⟩

/-- What a result's cell holds behind a call. -/
theorem res_past {w w1 : World} {x y : Value} {t : TypeId} (hb : Below (w.alloc (.cells #[x, y] t)).heap.size (w.alloc (.cells #[x, y] t)) w1) : w1.cell? ⟨w.heap.size, 0, none⟩ = some x ∧ w1.cell? ⟨w.heap.size, 1, none⟩ = some y ∧ w1.frozen? ⟨w.heap.size, 0, none⟩ = false ∧ w1.frozen? ⟨w.heap.size, 1, none⟩ = false := by
  have c0 : (w.alloc (.cells #[x, y] t)).cell? ⟨w.heap.size, 0, none⟩ = some x := by rw [World.cell?_alloc_at _ _ _ _ rfl]; rfl
  have c1 : (w.alloc (.cells #[x, y] t)).cell? ⟨w.heap.size, 1, none⟩ = some y := by rw [World.cell?_alloc_at _ _ _ _ rfl]; rfl
  exact ⟨(cell_past c0 hb).2, (cell_past c1 hb).2, (frozen_past c0 (frozen_new rfl) hb).2, (frozen_past c1 (frozen_new rfl) hb).2⟩

/-- Two boxes and a result, behind a call. -/
theorem three_past {w w1 : World} {x0 x1 y0 y1 r0 r1 : Value} {t : TypeId} (hb : Below (((w.alloc (.cells #[x0, x1] t)).alloc (.cells #[y0, y1] t)).alloc (.cells #[r0, r1] t)).heap.size (((w.alloc (.cells #[x0, x1] t)).alloc (.cells #[y0, y1] t)).alloc (.cells #[r0, r1] t)) w1) :
    (w1.cell? ⟨w.heap.size, 0, none⟩ = some x0 ∧ w1.cell? ⟨w.heap.size, 1, none⟩ = some x1) ∧ (w1.cell? ⟨w.heap.size + 1, 0, none⟩ = some y0 ∧ w1.cell? ⟨w.heap.size + 1, 1, none⟩ = some y1) ∧ (w1.cell? ⟨w.heap.size + 1 + 1, 0, none⟩ = some r0 ∧ w1.cell? ⟨w.heap.size + 1 + 1, 1, none⟩ = some r1) ∧ w1.frozen? ⟨w.heap.size + 1 + 1, 0, none⟩ = false ∧ w1.frozen? ⟨w.heap.size + 1 + 1, 1, none⟩ = false := by
  have a0 : (((w.alloc (.cells #[x0, x1] t)).alloc (.cells #[y0, y1] t)).alloc (.cells #[r0, r1] t)).cell? ⟨w.heap.size, 0, none⟩ = some x0 := by rw [World.cell?_alloc_lt _ _ ⟨w.heap.size, 0, none⟩ (by simp; omega), World.cell?_alloc_lt _ _ ⟨w.heap.size, 0, none⟩ (by simp), World.cell?_alloc_at _ _ _ _ rfl]; rfl
  have a1 : (((w.alloc (.cells #[x0, x1] t)).alloc (.cells #[y0, y1] t)).alloc (.cells #[r0, r1] t)).cell? ⟨w.heap.size, 1, none⟩ = some x1 := by rw [World.cell?_alloc_lt _ _ ⟨w.heap.size, 1, none⟩ (by simp; omega), World.cell?_alloc_lt _ _ ⟨w.heap.size, 1, none⟩ (by simp), World.cell?_alloc_at _ _ _ _ rfl]; rfl
  have b0 : (((w.alloc (.cells #[x0, x1] t)).alloc (.cells #[y0, y1] t)).alloc (.cells #[r0, r1] t)).cell? ⟨w.heap.size + 1, 0, none⟩ = some y0 := by rw [World.cell?_alloc_lt _ _ ⟨w.heap.size + 1, 0, none⟩ (by simp), World.cell?_alloc_at _ _ _ _ (by simp)]; rfl
  have b1 : (((w.alloc (.cells #[x0, x1] t)).alloc (.cells #[y0, y1] t)).alloc (.cells #[r0, r1] t)).cell? ⟨w.heap.size + 1, 1, none⟩ = some y1 := by rw [World.cell?_alloc_lt _ _ ⟨w.heap.size + 1, 1, none⟩ (by simp), World.cell?_alloc_at _ _ _ _ (by simp)]; rfl
  have c0 : (((w.alloc (.cells #[x0, x1] t)).alloc (.cells #[y0, y1] t)).alloc (.cells #[r0, r1] t)).cell? ⟨w.heap.size + 1 + 1, 0, none⟩ = some r0 := by rw [World.cell?_alloc_at _ _ _ _ (by simp)]; rfl
  have c1 : (((w.alloc (.cells #[x0, x1] t)).alloc (.cells #[y0, y1] t)).alloc (.cells #[r0, r1] t)).cell? ⟨w.heap.size + 1 + 1, 1, none⟩ = some r1 := by rw [World.cell?_alloc_at _ _ _ _ (by simp)]; rfl
  exact ⟨⟨(cell_past a0 hb).2, (cell_past a1 hb).2⟩, ⟨(cell_past b0 hb).2, (cell_past b1 hb).2⟩, ⟨(cell_past c0 hb).2, (cell_past c1 hb).2⟩, (frozen_past c0 (frozen_new (by simp)) hb).2, (frozen_past c1 (frozen_new (by simp)) hb).2⟩
theorem noInts_third (w : World) (X Y : Obj) (t : TypeId) : NoInts (((w.alloc X).alloc Y).alloc (.cells #[.bool false, .slice none 0 0] t)) (w.heap.size + 1 + 1) := by
  have := noInts_new2 ((w.alloc X).alloc Y) false none 0 0 t
  simpa using this
theorem mul_sign {x y : Int} {s1 s2 : Bool} (h1 : decide (x < 0) = s1) (h2 : decide (y < 0) = s2) : (x * y).natAbs = x.natAbs * y.natAbs ∧ (s1 = s2 → decide (x * y < 0) = false) ∧ (s1 ≠ s2 → ((x * y).natAbs = 0 → decide (x * y < 0) = false) ∧ ((x * y).natAbs ≠ 0 → decide (x * y < 0) = true)) := by
  refine ⟨Int.natAbs_mul x y, fun h => ?_, fun h => ⟨fun h0 => decide_eq_false (by omega), fun h0 => decide_eq_true ?_⟩⟩
  · subst h
    rw [decide_eq_false]
    by_cases hx : x < 0
    · have hy : y < 0 := by rw [decide_eq_true hx] at h1; rw [← h1] at h2; exact of_decide_eq_true h2
      have := Int.mul_nonneg_of_nonpos_of_nonpos (show x ≤ 0 by omega) (show y ≤ 0 by omega)
      omega
    · have hy : ¬ y < 0 := by rw [decide_eq_false hx] at h1; rw [← h1] at h2; exact of_decide_eq_false h2
      have := Int.mul_nonneg (show 0 ≤ x by omega) (show 0 ≤ y by omega)
      omega
  · by_cases hx : x < 0
    · have hy : ¬ y < 0 := fun hy => h (by rw [← h1, ← h2, decide_eq_true hx, decide_eq_true hy])
      have := Int.mul_nonpos_of_nonpos_of_nonneg (show x ≤ 0 by omega) (show 0 ≤ y by omega)
      omega
    · have hy : y < 0 := by
        by_cases hy : y < 0
        · exact hy
        · exact absurd (by rw [← h1, ← h2, decide_eq_false hx, decide_eq_false hy]) h
      have := Int.mul_nonpos_of_nonneg_of_nonpos (show 0 ≤ x by omega) (show y ≤ 0 by omega)
      omega

end Go.Proofs.YtdafknhbiffaoaaDoor
