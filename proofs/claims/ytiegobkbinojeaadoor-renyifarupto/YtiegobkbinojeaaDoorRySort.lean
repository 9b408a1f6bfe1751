/- A list of one's own, put in order and turned over. -/
import Derived.Test.YtiegobkbinojeaaDoorRyMath
import Derived.Test.YtiegobkbinojeaaDoorValidWalk
import Derived.Test.YtiegobkbinojeaaDoorLaysC
import Derived.Sort.LotA
namespace Go.Proofs.YtiegobkbinojeaaDoor
open Go.RowKit Go.Shelf Go.Sort

/-- A row that may be put into. -/
def FreeAt (w : World) (g n : Nat) (z : Nat → Int) : Prop := RowAt w g 0 n z ∧ ∀ j, j < n → w.frozen? ⟨g, 0 + j, none⟩ = false
theorem FreeAt.holds {w : World} {g : Nat} {l : List Int} (h : FreeAt w g l.length (atF l)) : Sort.Holds (Value.int .i64) w g 0 l.toArray := fun j hj => by
  have hj' : j < l.length := by simpa using hj
  refine ⟨?_, h.2 j hj'⟩
  rw [h.1 j hj', getElem!_pos l.toArray j hj]
  simp [atF, hj']
theorem FreeAt.of_holds {w : World} {g : Nat} {l : List Int} (h : Sort.Holds (Value.int .i64) w g 0 l.toArray) : FreeAt w g l.length (atF l) :=
  ⟨fun j hj => by
    have hj' : j < l.toArray.size := by simpa using hj
    rw [(h j hj').1, getElem!_pos l.toArray j hj']
    simp [atF, hj], fun j hj => (h j (by simpa using hj)).2⟩
theorem below_sortR {g n : Nat} {w W : World} {D : Array Int} {os : Array Obj} (h : Below w.heap.size w W) (hg : w.heap.size ≤ g) : Below w.heap.size w (Sort.grow (Sort.putRow (Value.int .i64) (Sort.ahead W n) g 0 D) os) :=
  ⟨h.os, h.tape, h.output, by have := h.size; rw [Sort.size_grow, Sort.size_putRow]; show w.heap.size ≤ W.heap.size + os.size; omega, fun k hk => by
    have := h.size
    rw [← h.block k hk, Sort.heap_grow_old _ _ (by rw [Sort.size_putRow]; show k < W.heap.size; omega)]
    simp only [Sort.putRow, Sort.mapBlock, Array.getElem?_modify]
    rw [if_neg (by omega)]; rfl⟩
theorem clone_free (v : Value) (n : Nat) (z : Nat → Int) (w : World) (h : NumsAt w v n z) (h0 : 0 < n) (hn : n ≤ 100000) :
    Calls Tryd.prog 53 #[v] w fun e w' => ∃ g cap, e = .returned (.slice (some ⟨g, 0, none⟩) n cap) ∧ w.heap.size ≤ g ∧ g < w'.heap.size ∧ FreeAt w' g n z ∧ Below w.heap.size w w' := by
  rcases h with ⟨_, _, _, h1⟩ | ⟨b, o, cap, rfl, _, hr⟩
  · omega
  refine (Any.slices_Clone_int (ρ := Tryd.cloneA_ren) Tryd.cloneA b o n cap (rowL z n) w (by rw [rowL_length]; exact Nat.le_refl _) (by omega) (fun j hj => ?_)).mono ?_
  · rw [rowL_length] at hj
    rw [hr j hj]
    simp [rowL, hj]
  · rintro e w' ⟨v', rfl, h1, _, h2⟩
    obtain ⟨hl, hrr⟩ := h1
    rcases hrr with ⟨hx, hy⟩ | ⟨g', cap', cur, hv, hg, hh, hnc, _, hs, ht⟩
    · omega
    · have hgl : g' < w'.heap.size := (Array.getElem?_eq_some_iff.1 hh).1
      refine ⟨g', cap', by rw [hv], hg, hgl, ⟨fun i hi => ?_, fun i hi => by simp [World.frozen?, hh]⟩, h2⟩
      have e1 : cur.toList[i]? = some (.int .i64 (z i)) := by
        have e2 : (cur.toList.take (n * 1))[i]? = some (.int .i64 (z i)) := by
          rw [ht, List.take_of_length_le (by rw [rowL_length]; exact Nat.le_refl _)]
          simp [rowL, hi]
        rwa [List.getElem?_take_of_lt (by omega)] at e2
      simp only [World.cell?, hh, Nat.zero_add]
      simp only [Option.isSome_none, Bool.false_eq_true, if_false]
      rw [← Array.getElem?_toList]; exact e1
theorem sort_free (g cap n : Nat) (z : Nat → Int) (w0 w : World) (h : FreeAt w g n z) (hg : w0.heap.size ≤ g) (hgl : g < w.heap.size) (hn : n ≤ 100000) (hb : Below w0.heap.size w0 w) :
    Calls Tryd.prog 54 #[.slice (some ⟨g, 0, none⟩) n cap] w fun e w' => e = .returned (.tuple #[]) ∧ g < w'.heap.size ∧ FreeAt w' g n (atF ((rowL z n).mergeSort fun x y => decide (x ≤ y))) ∧ Below w0.heap.size w0 w' := by
  have hl := rowL_length z n
  have hH : Sort.Holds (Value.int .i64) w g 0 (rowL z n).toArray := FreeAt.holds (l := rowL z n) (by
    rw [hl]
    exact ⟨fun j hj => by rw [h.1 j hj]; simp [atF, rowL, hj], h.2⟩)
  have hs := Any.slices_Sort_int (ρ := Tryd.sortR_ren) Tryd.sortR g 0 cap (rowL z n) w hH hgl (by rw [hl]; omega)
  rw [hl] at hs
  refine hs.mono ?_
  rintro e w' ⟨rfl, m, os, rfl⟩
  have hl2 : ((rowL z n).mergeSort fun x y => decide (x ≤ y)).length = n := by rw [List.length_mergeSort, hl]
  refine ⟨rfl, by rw [Sort.size_grow, Sort.size_putRow]; show g < w.heap.size + os.size; omega, ?_, below_sortR hb hg⟩
  have h1 := Sort.holds_grow (Value.int .i64) (Sort.putRow (Value.int .i64) (Sort.ahead w m) g 0 ((rowL z n).mergeSort fun x y => decide (x ≤ y)).toArray) os g 0 ((rowL z n).mergeSort fun x y => decide (x ≤ y)).toArray (by rw [Sort.size_putRow]; exact hgl) (Sort.holds_putRow (Value.int .i64) (Sort.ahead w m) g 0 (rowL z n).toArray _ hH (by simp))
  have h2 := FreeAt.of_holds h1
  rwa [hl2] at h2
theorem turn_free (g cap n : Nat) (l : List Int) (w0 w : World) (hl : l.length = n) (h : FreeAt w g n (atF l)) (hg : w0.heap.size ≤ g) (hn : n ≤ 100000) (hb : Below w0.heap.size w0 w) :
    Calls Tryd.prog 55 #[.slice (some ⟨g, 0, none⟩) n cap] w fun e w' => e = .returned (.tuple #[]) ∧ FreeAt w' g n (atF l.reverse) ∧ Below w0.heap.size w0 w' := by
  subst hl
  have hH := FreeAt.holds h
  have hs := Any.slices_Reverse_int (ρ := Tryd.reverseA_ren) Tryd.reverseA g 0 cap l w hH (by omega)
  refine hs.mono ?_
  rintro e w' ⟨rfl, m, rfl⟩
  refine ⟨rfl, ?_, ?_⟩
  · have h2 := FreeAt.of_holds (Sort.holds_putRow (Value.int .i64) (Sort.ahead w m) g 0 l.toArray l.reverse.toArray hH (by simp))
    rwa [List.length_reverse] at h2
  · have := below_sortR (n := m) (D := l.reverse.toArray) (os := #[]) hb hg
    rwa [Sort.grow_empty] at this
end Go.Proofs.YtiegobkbinojeaaDoor
