/- logs.Add in general: ErrShape, ErrBound, or the sum in form. -/
import Derived.Test.YtdhbphdgdkfhfaaGreatDoorAddOk
import Derived.Test.YtdhbphdgdkfhfaaGreatDoorToldAny
namespace Go.Proofs.YtdhbphdgdkfhfaaGreatDoor
open Go.RowKit Go.Maps

theorem some_bool (P : Prop) : ∃ b : Bool, b = true ↔ P := by
  by_cases h : P
  · exact ⟨true, ⟨fun _ => h, fun _ => rfl⟩⟩
  · exact ⟨false, ⟨(fun e => by cases e), (fun e => absurd e h)⟩⟩
/-- Has a sum a form? -/
def Fits (den : Int) (G : Nat) (l : List (Int × Int)) : Prop := den / (G : Int) ≤ 1000000 ∧ ∀ e ∈ l, (e.2.tdiv (G : Int)).natAbs ≤ 1099511627776
/-- told by lists, in general. -/
theorem told_list_any (den : Int) (b nn : Nat) (l : List (Int × Int)) (w : World) (hown : w.ownsMap Tryz.prog 3 (plainElem (H := Unit) Tryz.prog 3) b nn (mapOf l)) (hr : Rising l) (hk : ∀ e ∈ l, 2 ≤ e.1 ∧ e.1 ≤ 1000000) (hlen : l.length ≤ 100000)
    (hb : ∀ x, -2305843009213693952 ≤ atL l x ∧ atL l x ≤ 2305843009213693952) (hd1 : 1 ≤ den) (hd2 : den ≤ 1000000000000) (G : Nat) (hG : gcdL den (atL l) (l.map Prod.fst) l.length = G) (a : Nat → Addr) (hE : Errs w a) (fit : Bool) (hfit : fit = true ↔ Fits den G l) :
    Calls Tryz.prog 44 #[.agg #[.int .i64 den, .map (some b)]] w fun e w' => ((fit = true ∧ ∃ v, e = .returned (.tuple #[.agg #[.int .i64 (den / (G : Int)), v], .nilIface]) ∧ w'.ownsRow w.heap.size 43 2 v (overL G l).length (termCells (pOf (overL G l)) (cOf (overL G l)) (overL G l).length)) ∨ (fit = false ∧ e = .returned (.tuple #[.agg #[.int .i64 0, .slice none 0 0], .iface 155 (.pointer (some (a 1)))]))) ∧ Below w.heap.size w w' := by
  have hcf : ∀ e ∈ l, atL l e.1 = e.2 := fun e he => atL_mem hr he
  have ht := terms_flat (atL l) G l hcf
  have hfit' : fit = true ↔ (den / (G : Int) ≤ 1000000 ∧ ∀ x ∈ l.map Prod.fst, (quo (atL l) G x).natAbs ≤ 1099511627776) := hfit.trans ⟨fun h => ⟨h.1, fun x hx => by obtain ⟨e, he, rfl⟩ := List.mem_map.1 hx; unfold quo; rw [hcf e he]; exact h.2 e he⟩, fun h => ⟨h.1, fun e he => by have := h.2 e.1 (List.mem_map.2 ⟨e, he, rfl⟩); unfold quo at this; rw [hcf e he] at this; exact this⟩⟩
  have := told_any den b nn (mapOf l) (atL l) (l.map Prod.fst) w hown (at_map l) (sort_keys hr) (by rw [size_map]; exact hlen) (by rw [List.length_map]; exact hlen)
    (fun x hx => by obtain ⟨e, he, rfl⟩ := List.mem_map.1 hx; have := hk e he; exact wf_int (by omega)) hd1 hd2 hb G (by rw [List.length_map]; exact hG) a hE fit hfit'
  rw [ht.1, ht.2, flat_cells] at this
  exact this

/-- Two boxes and a result. -/
theorem three_cells (w : World) (x0 x1 y0 y1 r0 r1 : Value) (t : TypeId) :
    ((((w.alloc (.cells #[x0, x1] t)).alloc (.cells #[y0, y1] t)).alloc (.cells #[r0, r1] t)).cell? ⟨w.heap.size, 0, none⟩ = some x0 ∧ (((w.alloc (.cells #[x0, x1] t)).alloc (.cells #[y0, y1] t)).alloc (.cells #[r0, r1] t)).cell? ⟨w.heap.size, 1, none⟩ = some x1) ∧ ((((w.alloc (.cells #[x0, x1] t)).alloc (.cells #[y0, y1] t)).alloc (.cells #[r0, r1] t)).cell? ⟨w.heap.size + 1, 0, none⟩ = some y0 ∧ (((w.alloc (.cells #[x0, x1] t)).alloc (.cells #[y0, y1] t)).alloc (.cells #[r0, r1] t)).cell? ⟨w.heap.size + 1, 1, none⟩ = some y1) ∧ ((((w.alloc (.cells #[x0, x1] t)).alloc (.cells #[y0, y1] t)).alloc (.cells #[r0, r1] t)).cell? ⟨w.heap.size + 1 + 1, 0, none⟩ = some r0 ∧ (((w.alloc (.cells #[x0, x1] t)).alloc (.cells #[y0, y1] t)).alloc (.cells #[r0, r1] t)).cell? ⟨w.heap.size + 1 + 1, 1, none⟩ = some r1) ∧ (((w.alloc (.cells #[x0, x1] t)).alloc (.cells #[y0, y1] t)).alloc (.cells #[r0, r1] t)).frozen? ⟨w.heap.size + 1 + 1, 0, none⟩ = false ∧ (((w.alloc (.cells #[x0, x1] t)).alloc (.cells #[y0, y1] t)).alloc (.cells #[r0, r1] t)).frozen? ⟨w.heap.size + 1 + 1, 1, none⟩ = false := by
  refine ⟨⟨?_, ?_⟩, ⟨?_, ?_⟩, ⟨?_, ?_⟩, frozen_new (by simp), frozen_new (by simp)⟩
  · rw [World.cell?_alloc_lt _ _ ⟨w.heap.size, 0, none⟩ (by simp; omega), World.cell?_alloc_lt _ _ ⟨w.heap.size, 0, none⟩ (by simp), World.cell?_alloc_at _ _ _ _ rfl]; rfl
  · rw [World.cell?_alloc_lt _ _ ⟨w.heap.size, 1, none⟩ (by simp; omega), World.cell?_alloc_lt _ _ ⟨w.heap.size, 1, none⟩ (by simp), World.cell?_alloc_at _ _ _ _ rfl]; rfl
  · rw [World.cell?_alloc_lt _ _ ⟨w.heap.size + 1, 0, none⟩ (by simp), World.cell?_alloc_at _ _ _ _ (by simp)]; rfl
  · rw [World.cell?_alloc_lt _ _ ⟨w.heap.size + 1, 1, none⟩ (by simp), World.cell?_alloc_at _ _ _ _ (by simp)]; rfl
  · rw [World.cell?_alloc_at _ _ _ _ (by simp)]; rfl
  · rw [World.cell?_alloc_at _ _ _ _ (by simp)]; rfl

end Go.Proofs.YtdhbphdgdkfhfaaGreatDoor
