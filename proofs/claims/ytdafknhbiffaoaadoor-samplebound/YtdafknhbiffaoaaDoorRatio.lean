/- The document's fractions: Lowest, RatioOf. -/
import Derived.Test.YtdafknhbiffaoaaDoorSignedAdd
namespace Go.Proofs.YtdafknhbiffaoaaDoor
open Go.RowKit

/-- A fraction. -/
def RatioAt (w : World) (v : Value) (n : Int) (d : Nat) : Prop := ∃ u q, v = .agg #[.bool (decide (n < 0)), u, q] ∧ BigAt w u n.natAbs ∧ BigAt w q d
theorem RatioAt.later {w w' : World} {v : Value} {n : Int} {d : Nat} (h : RatioAt w v n d) (hb : Below w.heap.size w w') : RatioAt w' v n d := by
  obtain ⟨u, q, rfl, h1, h2⟩ := h
  exact ⟨u, q, rfl, h1.later hb, h2.later hb⟩
theorem noInts_new3 (w : World) (a : Bool) (ad : Option Addr) (n cap : Nat) (ad' : Option Addr) (n' cap' : Nat) (t : TypeId) : NoInts (w.alloc (.cells #[.bool a, .slice ad n cap, .slice ad' n' cap'] t)) w.heap.size := fun j x e => by
  rw [World.cell?_alloc_at _ _ _ _ rfl] at e
  rcases j with _ | _ | _ | j
  · simp at e
  · simp at e
  · simp at e
  · simp at e
theorem BigAt.set3 {w : World} {u : Value} {n B : Nat} {x y : Value} {a : Bool} {ad : Option Addr} {l cap : Nat} {ad' : Option Addr} {l' cap' : Nat} (h : BigAt w u n) (hn : NoInts w B) (c0 : w.cell? ⟨B, 0, none⟩ = some x) (c1 : w.cell? ⟨B, 1, none⟩ = some y) : BigAt (((w.setCell ⟨B, 0, none⟩ (.bool a)).setCell ⟨B, 1, none⟩ (.slice ad l cap)).setCell ⟨B, 2, none⟩ (.slice ad' l' cap')) u n := by
  have h1 := hn.set c0 (y := .bool a) (fun x e => by cases e)
  have c1' : (w.setCell ⟨B, 0, none⟩ (.bool a)).cell? ⟨B, 1, none⟩ = some y := by rw [World.cell?_setCell_other _ _ _ _ (by simp)]; exact c1
  exact ((h.set hn).set h1).set (h1.set c1' (fun x e => by cases e))
theorem below_set3 {w1 w2 : World} {N B : Nat} (h : Below N w1 w2) (hB : N ≤ B) (x y z : Value) : Below N w1 (((w2.setCell ⟨B, 0, none⟩ x).setCell ⟨B, 1, none⟩ y).setCell ⟨B, 2, none⟩ z) := ((h.setCell hB _).setCell hB _).setCell hB _
/-- A box and a result, three cells each, behind a call. -/
theorem six_past {w w1 : World} {x0 x1 x2 r0 r1 r2 : Value} {t : TypeId} (hb : Below ((w.alloc (.cells #[x0, x1, x2] t)).alloc (.cells #[r0, r1, r2] t)).heap.size ((w.alloc (.cells #[x0, x1, x2] t)).alloc (.cells #[r0, r1, r2] t)) w1) :
    (w1.cell? ⟨w.heap.size, 0, none⟩ = some x0 ∧ w1.cell? ⟨w.heap.size, 1, none⟩ = some x1 ∧ w1.cell? ⟨w.heap.size, 2, none⟩ = some x2) ∧ (w1.cell? ⟨w.heap.size + 1, 0, none⟩ = some r0 ∧ w1.cell? ⟨w.heap.size + 1, 1, none⟩ = some r1 ∧ w1.cell? ⟨w.heap.size + 1, 2, none⟩ = some r2) ∧ w1.frozen? ⟨w.heap.size + 1, 0, none⟩ = false ∧ w1.frozen? ⟨w.heap.size + 1, 1, none⟩ = false ∧ w1.frozen? ⟨w.heap.size + 1, 2, none⟩ = false := by
  have a : ∀ j v, #[x0, x1, x2][j]? = some v → ((w.alloc (.cells #[x0, x1, x2] t)).alloc (.cells #[r0, r1, r2] t)).cell? ⟨w.heap.size, j, none⟩ = some v := fun j v h => by rw [World.cell?_alloc_lt _ _ ⟨w.heap.size, j, none⟩ (by simp), World.cell?_alloc_at _ _ _ _ rfl]; exact h
  have c : ∀ j v, #[r0, r1, r2][j]? = some v → ((w.alloc (.cells #[x0, x1, x2] t)).alloc (.cells #[r0, r1, r2] t)).cell? ⟨w.heap.size + 1, j, none⟩ = some v := fun j v h => by rw [World.cell?_alloc_at _ _ _ _ (by simp)]; exact h
  exact ⟨⟨(cell_past (a 0 x0 rfl) hb).2, (cell_past (a 1 x1 rfl) hb).2, (cell_past (a 2 x2 rfl) hb).2⟩, ⟨(cell_past (c 0 r0 rfl) hb).2, (cell_past (c 1 r1 rfl) hb).2, (cell_past (c 2 r2 rfl) hb).2⟩, (frozen_past (c 0 r0 rfl) (frozen_new (by simp)) hb).2, (frozen_past (c 1 r1 rfl) (frozen_new (by simp)) hb).2, (frozen_past (c 2 r2 rfl) (frozen_new (by simp)) hb).2⟩
theorem low_sign {n : Int} {g d : Nat} (hn : n ≠ 0) (hg : g = Nat.gcd n.natAbs d) (hd : 0 < d) : decide (n.tdiv (g : Int) < 0) = decide (n < 0) ∧ (n.tdiv (g : Int)).natAbs = n.natAbs / g := by
  have hgp : 0 < g := by rw [hg]; exact Nat.gcd_pos_of_pos_right _ hd
  have hdv : g ∣ n.natAbs := by rw [hg]; exact Nat.gcd_dvd_left _ _
  have hq : 0 < n.natAbs / g := Nat.div_pos (Nat.le_of_dvd (by omega) hdv) hgp
  have hab : (n.tdiv (g : Int)).natAbs = n.natAbs / g := by rw [Int.natAbs_tdiv, Int.natAbs_natCast]; rfl
  refine ⟨?_, hab⟩
  by_cases h : n < 0
  · rw [decide_eq_true h, decide_eq_true]
    obtain ⟨m, rfl⟩ : ∃ m : Nat, n = -(m : Int) := ⟨n.natAbs, by omega⟩
    have h1 : (m : Int).tdiv (g : Int) = ((m / g : Nat) : Int) := by simp
    rw [Int.neg_tdiv, h1]
    rw [Int.natAbs_neg, Int.natAbs_natCast] at hq
    generalize m / g = q at hq
    omega
  · rw [decide_eq_false h, decide_eq_false]
    have := Int.tdiv_nonneg (show 0 ≤ n by omega) (show (0 : Int) ≤ (g : Int) by omega)
    omega

end Go.Proofs.YtdafknhbiffaoaaDoor
