/- The document's SystemError; the law's system (a copy of the bonds) and tiny. -/
import Derived.Test.YtoghnbcjkgookabDoorIsSys
namespace Go.Proofs.YtoghnbcjkgookabDoor
open Go.RowKit

theorem Tryd.infoPair : (Tryd.prog.info? 34).map (fun i => (i.zero, i.size, i.bytes)) = some (some (.agg #[.int .i64 0, .int .i64 0]), 2, 16) := by kernel_rfl
theorem prAt_of_row {w : World} {base g n cap : Nat} {p c : Nat → Int} (h : w.ownsRow base 34 2 (.slice (some ⟨g, 0, none⟩) n cap) n (termCells p c n)) : TermsAt w g 0 n p c := by
  obtain ⟨hl, hr⟩ := h
  rcases hr with ⟨hx, _⟩ | ⟨g', cap', cur, hv, _, hh, _, _, hs, ht⟩
  · cases hx
  · obtain ⟨rfl, rfl⟩ : g = g' ∧ cap = cap' := by simpa using hv
    intro i hi
    obtain ⟨h1, h2⟩ := termCells_at p c n i hi
    have e : ∀ j, j < n * 2 → w.cell? ⟨g, 0 + j, none⟩ = (termCells p c n)[j]? := fun j hj => by
      rw [← ht, List.getElem?_take_of_lt hj]
      simp [World.cell?, hh]
    refine ⟨by rw [e _ (by omega)]; exact h1, ?_⟩
    rw [Nat.add_assoc, e _ (by omega)]; exact h2

/-- What the append has left of the three blocks ahead of it. -/
theorem gr_after {w w1 : World} {d0 d1 z0 z1 e0 e1 : Value} {t0 t : TypeId} {row : Option Nat} (hrow : row = none)
    (hg : (((w.alloc (.cells #[d0, d1] t0)).alloc (.cells #[z0, z1] t)).alloc (.cells #[e0, e1] t)).grownBy w1 row) :
    w1.cell? ⟨w.heap.size + 1, 0, none⟩ = some z0 ∧ w1.cell? ⟨w.heap.size + 1, 1, none⟩ = some z1 ∧ w1.cell? ⟨w.heap.size + 1 + 1, 0, none⟩ = some e0 ∧ w1.cell? ⟨w.heap.size + 1 + 1, 1, none⟩ = some e1 ∧
    w1.frozen? ⟨w.heap.size + 1, 0, none⟩ = false ∧ w1.frozen? ⟨w.heap.size + 1, 1, none⟩ = false ∧ w1.frozen? ⟨w.heap.size + 1 + 1, 0, none⟩ = false ∧ w1.frozen? ⟨w.heap.size + 1 + 1, 1, none⟩ = false ∧
    w.heap.size + 1 + 1 < w1.heap.size ∧ Below w.heap.size w w1 := by
  subst hrow
  have hb : Below (w.heap.size + 3) (((w.alloc (.cells #[d0, d1] t0)).alloc (.cells #[z0, z1] t)).alloc (.cells #[e0, e1] t)) w1 := (Below.refl _ _).grown hg (by simp) (fun k hk => by cases hk)
  have hs := hb.size
  simp at hs
  refine ⟨?_, ?_, ?_, ?_, ?_, ?_, ?_, ?_, by omega, ?_⟩
  · rw [hb.cell (p := ⟨w.heap.size + 1, 0, none⟩) (by show w.heap.size + 1 < w.heap.size + 3; omega), World.cell?_alloc_lt _ _ ⟨w.heap.size + 1, 0, none⟩ (by simp), World.cell?_alloc_at _ _ _ _ (by simp)]; rfl
  · rw [hb.cell (p := ⟨w.heap.size + 1, 1, none⟩) (by show w.heap.size + 1 < w.heap.size + 3; omega), World.cell?_alloc_lt _ _ ⟨w.heap.size + 1, 1, none⟩ (by simp), World.cell?_alloc_at _ _ _ _ (by simp)]; rfl
  · rw [hb.cell (p := ⟨w.heap.size + 1 + 1, 0, none⟩) (by show w.heap.size + 1 + 1 < w.heap.size + 3; omega), World.cell?_alloc_at _ _ _ _ (by simp)]; rfl
  · rw [hb.cell (p := ⟨w.heap.size + 1 + 1, 1, none⟩) (by show w.heap.size + 1 + 1 < w.heap.size + 3; omega), World.cell?_alloc_at _ _ _ _ (by simp)]; rfl
  · rw [hb.frozen (p := ⟨w.heap.size + 1, 0, none⟩) (by show w.heap.size + 1 < w.heap.size + 3; omega), World.frozen?_alloc_old _ _ ⟨w.heap.size + 1, 0, none⟩ (by simp)]; exact frozen_new (by simp)
  · rw [hb.frozen (p := ⟨w.heap.size + 1, 1, none⟩) (by show w.heap.size + 1 < w.heap.size + 3; omega), World.frozen?_alloc_old _ _ ⟨w.heap.size + 1, 1, none⟩ (by simp)]; exact frozen_new (by simp)
  · rw [hb.frozen (p := ⟨w.heap.size + 1 + 1, 0, none⟩) (by show w.heap.size + 1 + 1 < w.heap.size + 3; omega)]; exact frozen_new (by simp)
  · rw [hb.frozen (p := ⟨w.heap.size + 1 + 1, 1, none⟩) (by show w.heap.size + 1 + 1 < w.heap.size + 3; omega)]; exact frozen_new (by simp)
  · exact ((((Below.refl _ _).alloc (Nat.le_refl _) _).alloc (by simp) _).alloc (by simp; omega) _).trans (hb.mono (by omega))

theorem gr_append_zero (w : World) (ty : TypeId) (ad : Option Addr) (cap : Nat) : (Builtin.append_ #[23, 23] ty #[.slice none 0 0, .slice ad 0 cap]).run Tryd.prog w = .ok (.slice none 0 0) w := by
  obtain ⟨i, hi, hi2⟩ := Option.map_eq_some_iff.1 Tryd.infoPair
  refine run_append_nothing w _ _ ty 34 i Tryd.underlying23 hi none 0 0 (Nat.le_refl _) _ ?_
  cases ad with
  | none => exact Src.ofNil w Tryd.underlying23 cap
  | some a => exact Src.ofSlice w Tryd.underlying23 a 0 cap [] (by simp) (fun j u h => by simp at h) (fun u h => by simp at h)

theorem wpList_gr_zero {w : World} {ops : Array Oper} {rest : List Oper} {o : Oper} {a : Act} {Q : Exit → Act → World → Prop} (hgd : o.guard = none) (s x : Operand)
    (ho : o.op = .call { callee := .builtin .append, args := #[s, x], argTypes := #[23, 23] })
    (ad : Option Addr) (cap : Nat) (hs : a.eval s = .slice none 0 0) (hx : a.eval x = .slice ad 0 cap)
    (h : wpList Tryd.prog ops Q rest (a.put o.dst (.slice none 0 0)) w) : wpList Tryd.prog ops Q (o :: rest) a w := by
  refine wpList_plain hgd fun K hK => ?_
  have hrun := gr_append_zero w o.type ad cap
  unfold Oper.wp
  simp [execOp, ho, resolve, invoke, builtin, hs, hx, hrun, Result.andThen]
  exact hK _ _ h

end Go.Proofs.YtoghnbcjkgookabDoor
