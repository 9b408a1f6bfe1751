/- The law's copies of tables; the program's list of a table's weights. -/
import Derived.Test.YtklhfagcembigaaGreatDoorTabErr
import Derived.Deep.Onto
namespace Go.Proofs.YtklhfagcembigaaGreatDoor
open Go.RowKit

theorem Tryz.infoInts : (Tryz.prog.info? 22).map (fun i => (i.zero, i.size, i.bytes)) = some (some (.slice none 0 0), 1, 24) := by kernel_rfl
def rowV (vs : Nat → Value) (k : Nat) : List Value := (List.range k).map vs
theorem rowV_length (vs : Nat → Value) (k : Nat) : (rowV vs k).length = k := by simp [rowV]
theorem rowV_push (vs : Nat → Value) (k : Nat) (v : Value) : rowV vs k ++ [v] = rowV (fun i => if i = k then v else vs i) (k + 1) := by
  unfold rowV
  rw [List.range_succ, List.map_append]
  congr 1
  · refine List.map_congr_left (fun i hi => ?_)
    have := List.mem_range.1 hi
    rw [if_neg (by omega)]
  · simp
theorem tabAt_of_row {w : World} {base : Nat} {t : TypeId} {v : Value} {R : Nat} {vs : Nat → Value} {ns : Nat → Nat} {zs : Nat → Nat → Int} (h : w.ownsRow base t 1 v R (rowV vs R)) (hn : ∀ i, i < R → NumsAt w (vs i) (ns i) (zs i)) : TabAt w v R vs ns zs := by
  rcases h.2 with ⟨hv, h0⟩ | ⟨g, cap, cur, hv, _, hh, _, _, hs, ht⟩
  · exact Or.inl ⟨none, 0, hv, h0⟩
  · rcases Nat.eq_zero_or_pos R with h0 | h0
    · exact Or.inl ⟨_, _, by rw [hv, h0], h0⟩
    · refine Or.inr ⟨g, 0, cap, hv, h0, fun i hi => ⟨?_, hn i hi⟩⟩
      have h1 : (rowV vs R)[i]? = some (vs i) := by simp [rowV, hi]
      rw [← h1, ← ht, List.getElem?_take_of_lt (by omega)]
      simp [World.cell?, hh]
theorem own_past {w w' : World} {base : Nat} {t : TypeId} {sz : Nat} {v : Value} {n : Nat} {xs : List Value} (h : w.ownsRow base t sz v n xs) (hb : Below w.heap.size w w') : w'.ownsRow base t sz v n xs := by
  obtain ⟨hl, hr⟩ := h
  refine ⟨hl, ?_⟩
  rcases hr with hr | ⟨g, cap, cur, hv, hb1, hh, rest⟩
  · exact Or.inl hr
  · exact Or.inr ⟨g, cap, cur, hv, hb1, by rw [hb.block g (heap_lt hh)]; exact hh, rest⟩
/-- A row of another kind beside the one that is grown. -/
theorem own_beside {w w' : World} {b1 b2 : Nat} {t1 t2 : TypeId} {v u : Value} {n m s1 s2 : Nat} {xs ys : List Value} (h : w.ownsRow b1 t1 s1 v n xs) (k : w.ownsRow b2 t2 s2 u m ys) (ht : t1 ≠ t2) (hg : w.grownBy w' u.ownBlock) : w'.ownsRow b1 t1 s1 v n xs := by
  obtain ⟨hl, hr⟩ := h
  refine ⟨hl, ?_⟩
  rcases hr with hr | ⟨g, cap, cur, hv, hb1, hh, rest⟩
  · exact Or.inl hr
  · refine Or.inr ⟨g, cap, cur, hv, hb1, ?_, rest⟩
    rw [hg.block g (heap_lt hh) (fun e => ?_)]
    · exact hh
    · rcases k.2 with ⟨rfl, _⟩ | ⟨g', cap', cur', rfl, _, hh', _⟩
      · cases e
      · obtain rfl : g = g' := by simpa [Value.ownBlock] using e
        rw [hh] at hh'
        simp at hh'
        exact ht hh'.2
end Go.Proofs.YtklhfagcembigaaGreatDoor
