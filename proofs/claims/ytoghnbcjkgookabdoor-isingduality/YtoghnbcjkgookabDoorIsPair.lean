/- Lists of pairs of numbers in memory; the bonds of a grid's columns, in order; a system in a box that grows. -/
import Derived.Test.YtoghnbcjkgookabDoorIsDoc
import Derived.Test.YtoghnbcjkgookabDoorTabCopy
import Derived.Deep.Onto
import Derived.Laws.StructEq
namespace Go.Proofs.YtoghnbcjkgookabDoor
open Go.RowKit

def pairCells (E : List (Nat × Nat)) : List Value := E.flatMap fun e => [.int .i64 (e.1 : Nat), .int .i64 (e.2 : Nat)]
theorem pairCells_snoc (E : List (Nat × Nat)) (i k : Nat) : pairCells (E ++ [(i, k)]) = pairCells E ++ [.int .i64 (i : Nat), .int .i64 (k : Nat)] := by simp [pairCells]
theorem pairCells_length : ∀ E : List (Nat × Nat), (pairCells E).length = E.length * 2
  | [] => rfl
  | e :: E => by
    have := pairCells_length E
    simp only [pairCells, List.flatMap_cons, List.length_append] at this ⊢
    simp only [List.length_cons, List.length_nil]
    omega
theorem pairCells_at : ∀ (E : List (Nat × Nat)) (i : Nat), i < E.length → (pairCells E)[i * 2]? = some (.int .i64 ((E.getD i (0, 0)).1 : Nat)) ∧ (pairCells E)[i * 2 + 1]? = some (.int .i64 ((E.getD i (0, 0)).2 : Nat))
  | [], i, h => by simp at h
  | e :: E, 0, _ => by simp [pairCells]
  | e :: E, i + 1, h => by
    have h1 := pairCells_at E i (by simpa using h)
    have e1 : pairCells (e :: E) = .int .i64 (e.1 : Nat) :: .int .i64 (e.2 : Nat) :: pairCells E := by simp [pairCells]
    rw [e1]
    have e2 : (i + 1) * 2 = i * 2 + 1 + 1 := by omega
    rw [e2]
    simpa using h1
theorem edAt_row {w : World} {base : Nat} {v : Value} {E : List (Nat × Nat)} (h : w.ownsRow base 34 2 v E.length (pairCells E)) : EdAt w v E.length (fun i => ((E.getD i (0, 0)).1 : Nat)) (fun i => ((E.getD i (0, 0)).2 : Nat)) := by
  obtain ⟨hl, hr⟩ := h
  rcases hr with ⟨rfl, h0⟩ | ⟨g, cap, cur, rfl, hg, hh, h1, h2, h3, h4⟩
  · exact ⟨none, 0, by rw [h0], Or.inl h0⟩
  · refine ⟨_, cap, rfl, Or.inr ⟨g, 0, rfl, fun i hi => ?_⟩⟩
    have e : ∀ j, j < E.length * 2 → w.cell? ⟨g, 0 + j, none⟩ = (pairCells E)[j]? := fun j hj => by
      rw [← h4, List.getElem?_take_of_lt hj]
      simp [World.cell?, hh]
    obtain ⟨g1, g2⟩ := pairCells_at E i hi
    refine ⟨by rw [e _ (by omega)]; exact g1, ?_⟩
    rw [Nat.add_assoc, e _ (by omega)]; exact g2
theorem two_newG (w : World) (x y : Value) (t : TypeId) (j : Nat) (u : Value) (h : [x, y][j]? = some u) : (w.alloc (.cells #[x, y] t)).cell? ((⟨w.heap.size, 0, none⟩ : Addr).add j) = some u := by
  rw [add_plain, World.cell?_alloc_at _ _ _ _ rfl]
  rw [Nat.zero_add]
  rcases j with _ | _ | j
  · simpa using h
  · simpa using h
  · simp at h

theorem row_shape2 {w : World} {base : Nat} {t : TypeId} {v : Value} {n : Nat} {xs : List Value} (h : w.ownsRow base t 2 v n xs) : ∃ ao c, v = .slice ao n c ∧ n ≤ c := by
  obtain ⟨_, hr⟩ := h
  rcases hr with ⟨rfl, rfl⟩ | ⟨g, cap, cur, rfl, _, _, h1, _⟩
  · exact ⟨_, _, rfl, Nat.le_refl _⟩
  · exact ⟨_, _, rfl, h1⟩

/-- The bonds that one place of a column has. -/
def cellB (A B : Nat → Nat → Nat × Nat) (h : Nat) (rt : Nat → Bool) (c r : Nat) : List (Nat × Nat) := (if r + 1 < h then [A c r] else []) ++ (if rt c then [B c r] else [])
/-- Those of the first r places of a column. -/
def colB (A B : Nat → Nat → Nat × Nat) (h : Nat) (rt : Nat → Bool) (c : Nat) : Nat → List (Nat × Nat)
  | 0 => []
  | r + 1 => colB A B h rt c r ++ cellB A B h rt c r
/-- Those of the first c columns. -/
def allB (A B : Nat → Nat → Nat × Nat) (h : Nat) (rt : Nat → Bool) : Nat → List (Nat × Nat)
  | 0 => []
  | c + 1 => allB A B h rt c ++ colB A B h rt c h
theorem cellB_length (A B : Nat → Nat → Nat × Nat) (h : Nat) (rt : Nat → Bool) (c r : Nat) : (cellB A B h rt c r).length ≤ 2 := by
  unfold cellB
  split <;> split <;> simp
theorem colB_length (A B : Nat → Nat → Nat × Nat) (h : Nat) (rt : Nat → Bool) (c : Nat) : ∀ r, (colB A B h rt c r).length ≤ r * 2
  | 0 => Nat.le_refl _
  | r + 1 => by
    have h1 := colB_length A B h rt c r
    have h2 := cellB_length A B h rt c r
    rw [colB, List.length_append]
    omega
theorem allB_length (A B : Nat → Nat → Nat × Nat) (h : Nat) (rt : Nat → Bool) : ∀ c, (allB A B h rt c).length ≤ c * (h * 2)
  | 0 => by simp [allB]
  | c + 1 => by
    have h1 := allB_length A B h rt c
    have h2 := colB_length A B h rt c h
    rw [allB, List.length_append, Nat.succ_mul]
    omega
theorem allB_small (A B : Nat → Nat → Nat × Nat) {h c : Nat} (rt : Nat → Bool) (hh : h ≤ 4) (hc : c ≤ 12) : (allB A B h rt c).length ≤ 96 := by
  have h1 := allB_length A B h rt c
  have h2 : c * (h * 2) ≤ 12 * (4 * 2) := Nat.mul_le_mul hc (by omega)
  omega
theorem part_small (A B : Nat → Nat → Nat × Nat) {h c r : Nat} (rt : Nat → Bool) (hh : h ≤ 4) (hc : c < 12) (hr : r ≤ h) : (allB A B h rt c ++ colB A B h rt c r).length ≤ 96 := by
  have h1 := allB_length A B h rt c
  have h2 := colB_length A B h rt c r
  have h3 : c * (h * 2) ≤ 11 * (4 * 2) := Nat.mul_le_mul (by omega) (by omega)
  rw [List.length_append]
  omega

/-- A system in a box whose bonds grow; all that lay ahead of the box is as it was. -/
structure GrAt (W0 W : World) (G : Nat) (N : Int) (ov : Value) (E : List (Nat × Nat)) : Prop where
  below : Below G W0 W
  g0 : W.cell? ⟨G, 0, none⟩ = some (.int .i64 N)
  g1 : W.cell? ⟨G, 1, none⟩ = some ov
  fg : W.frozen? ⟨G, 1, none⟩ = false
  own : W.ownsRow (G + 1) 34 2 ov E.length (pairCells E)
  lt : G < W.heap.size
theorem GrAt.later {W0 W W' : World} {G : Nat} {N : Int} {ov : Value} {E : List (Nat × Nat)} (h : GrAt W0 W G N ov E) (hb : Below W.heap.size W W') : GrAt W0 W' G N ov E :=
  ⟨h.below.trans (hb.mono (Nat.le_of_lt h.lt)), by rw [hb.cell (cell_lt h.g0)]; exact h.g0, by rw [hb.cell (cell_lt h.g1)]; exact h.g1, by rw [hb.frozen (p := ⟨G, 1, none⟩) h.lt]; exact h.fg, own_past h.own hb, Nat.lt_of_lt_of_le h.lt hb.size⟩
theorem GrAt.pushAt {W0 W W' : World} {G : Nat} {N : Int} {ov : Value} {E : List (Nat × Nat)} {X : Obj} (h : GrAt W0 W G N ov E) (hg : (W.alloc X).grownBy W' ov.ownBlock) : W'.cell? ⟨G, 1, none⟩ = some ov ∧ W'.frozen? ⟨G, 1, none⟩ = false ∧ W'.cell? ⟨G, 0, none⟩ = some (.int .i64 N) := by
  have hal : Below W.heap.size W (W.alloc X) := (Below.refl _ _).alloc (Nat.le_refl _) _
  have hne : some G ≠ ov.ownBlock := fun e => by have := (h.own.lt G e.symm).1; omega
  have hl := h.lt
  refine ⟨?_, ?_, ?_⟩
  · rw [hg.cell_far ⟨G, 1, none⟩ (by simp; omega) hne, hal.cell (p := ⟨G, 1, none⟩) hl]; exact h.g1
  · rw [hg.frozen_far ⟨G, 1, none⟩ (by simp; omega) hne, hal.frozen (p := ⟨G, 1, none⟩) hl]; exact h.fg
  · rw [hg.cell_far ⟨G, 0, none⟩ (by simp; omega) hne, hal.cell (p := ⟨G, 0, none⟩) hl]; exact h.g0
theorem GrAt.push {W0 W W' : World} {G : Nat} {N : Int} {ov ov' : Value} {E E' : List (Nat × Nat)} {X : Obj} (h : GrAt W0 W G N ov E) (hg : (W.alloc X).grownBy W' ov.ownBlock) (ho : W'.ownsRow (G + 1) 34 2 ov' E'.length (pairCells E')) : GrAt W0 (W'.setCell ⟨G, 1, none⟩ ov') G N ov' E' := by
  obtain ⟨c1, f1, c0⟩ := h.pushAt hg
  have hl := h.lt
  refine ⟨((h.below.alloc (Nat.le_of_lt hl) _).grown hg (by simp; omega) (fun k e => by have := (h.own.lt k e).1; omega)).setCell (Nat.le_refl _) _, ?_, ?_, ?_, ?_, ?_⟩
  · rw [put_cell _ c1, if_neg (fun e => by have e2 := congrArg Addr.off e; simp at e2)]; exact c0
  · rw [put_cell _ c1, if_pos rfl]
  · rw [World.frozen?_setCell]; exact f1
  · exact ownsRow_setCell_below ho (a := ⟨G, 1, none⟩) (Nat.lt_succ_self _) _
  · rw [World.size_setCell]
    have := hg.size
    simp at this
    omega
end Go.Proofs.YtoghnbcjkgookabDoor
