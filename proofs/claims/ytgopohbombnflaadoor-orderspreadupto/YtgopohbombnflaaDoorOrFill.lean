/- A copy of a list, and what is put into it. -/
import Derived.Test.YtgopohbombnflaaDoorOrFit
import Derived.Test.YtgopohbombnflaaDoorFills
import Derived.Test.YtgopohbombnflaaDoorCopy
import Derived.Test.YtgopohbombnflaaDoorValidWalk
import Derived.Test.YtgopohbombnflaaDoorTab
import Derived.Test.YtgopohbombnflaaDoorLaysC
namespace Go.Proofs.YtgopohbombnflaaDoor
open Go.RowKit

theorem Fills.later {w W W' : World} {g T : Nat} {f : Nat → Int} (h : Fills w W g T f) (hb : Below W.heap.size W W') : Fills w W' g T f :=
  ⟨h.row.later hb, fun i hi => by rw [hb.frozen (cell_lt (h.row i hi))]; exact h.fz i hi, below_chain h.below hb, h.hg⟩
/-- A list that may be put into; none has no row. -/
def FillV (w W : World) (v : Value) (n : Nat) (f : Nat → Int) : Prop := Below w.heap.size w W ∧ ((n = 0 ∧ v = .slice none 0 0) ∨ ∃ g cap, v = .slice (some ⟨g, 0, none⟩) n cap ∧ Fills w W g n f)
theorem FillV.later {w W W' : World} {v : Value} {n : Nat} {f : Nat → Int} (h : FillV w W v n f) (hb : Below W.heap.size W W') : FillV w W' v n f := by
  refine ⟨below_chain h.1 hb, ?_⟩
  rcases h.2 with h | ⟨g, cap, hv, hf⟩
  · exact Or.inl h
  · exact Or.inr ⟨g, cap, hv, hf.later hb⟩
theorem FillV.nums {w W : World} {v : Value} {n : Nat} {f : Nat → Int} (h : FillV w W v n f) : NumsAt W v n f := by
  rcases h.2 with ⟨h0, hv⟩ | ⟨g, cap, hv, hf⟩
  · exact Or.inl ⟨_, _, hv, h0⟩
  · rcases Nat.eq_zero_or_pos n with h0 | h0
    · exact Or.inl ⟨_, _, by rw [hv, h0], h0⟩
    · exact Or.inr ⟨g, 0, cap, hv, h0, hf.row⟩
theorem FillV.some {w W : World} {v : Value} {n : Nat} {f : Nat → Int} (h : FillV w W v n f) (h0 : 0 < n) : ∃ g cap, v = .slice (some ⟨g, 0, none⟩) n cap ∧ Fills w W g n f := by
  rcases h.2 with ⟨h1, _⟩ | h
  · omega
  · exact h
theorem own_fill {w W : World} {v : Value} {n : Nat} {z : Nat → Int} {t : TypeId} (h : W.ownsRow w.heap.size t 1 v n (numCells z n)) (hb : Below w.heap.size w W) : FillV w W v n z := by
  refine ⟨hb, ?_⟩
  obtain ⟨hl, hr⟩ := h
  rcases hr with ⟨hx, h0⟩ | ⟨g', cap', cur, hv, hg, hh, _, _, hs, ht⟩
  · exact Or.inl ⟨h0, hx⟩
  · refine Or.inr ⟨g', cap', hv, fun i hi => ?_, fun i hi => ?_, hb, hg⟩
    · rw [← numCells_at z n i hi, ← ht, List.getElem?_take_of_lt (by omega)]
      simp [World.cell?, hh]
    · simp [World.frozen?, hh]
set_option maxRecDepth 100000 in
theorem clone_own (v : Value) (n : Nat) (z : Nat → Int) (w : World) (h : (v = .slice none 0 0 ∧ n = 0) ∨ ∃ g cap, v = .slice (some ⟨g, 0, none⟩) n cap ∧ RowAt w g 0 n z) (hn : n ≤ 100000) :
    Calls Tryd.prog 37 #[v] w fun e w' => ∃ v', e = .returned v' ∧ FillV w w' v' n z := by
  rcases h with ⟨rfl, rfl⟩ | ⟨g, cap, rfl, hr⟩
  · have he : ∀ w : World, (binOp .eql 22 (.slice none 0 0) (.slice none 0 0)).run Tryd.prog w = .ok (.bool true) w := fun _ => rfl
    go_enter Tryd.func37, Tryd.ntmps37
    go_wp2_with fail
    go_ret
    exact ⟨_, rfl, Below.refl _ _, Or.inl ⟨rfl, rfl⟩⟩
  · refine (Any.slices_Clone_int (ρ := Tryd.cloneA_ren) Tryd.cloneA g 0 n cap (rowL z n) w (by rw [rowL_length]; exact Nat.le_refl _) (by omega) (fun j hj => ?_)).mono ?_
    · rw [rowL_length] at hj
      rw [hr j hj]
      simp [rowL, hj]
    · rintro e w' ⟨v', rfl, h1, _, h2⟩
      refine ⟨v', rfl, ?_⟩
      rw [List.take_of_length_le (by rw [rowL_length]; exact Nat.le_refl _)] at h1
      have h3 : w'.ownsRow w.heap.size 3 1 v' n (numCells z n) := by rw [← cellL_row]; exact h1
      exact own_fill h3 h2
end Go.Proofs.YtgopohbombnflaaDoor
