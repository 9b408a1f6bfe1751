/- The closed fact at the head of chapter 6's laws: the phrases of aab. -/
import Derived.Test.YtiocbnjdmceadaaDoorParseP
namespace Go.Proofs.YtiocbnjdmceadaaDoor
open Go.RowKit

theorem ab_phr : pzL [97, 97, 98] = [⟨0, 97, false⟩, ⟨1, 98, false⟩] := by rfl
set_option maxRecDepth 100000 in
set_option maxHeartbeats 1000000 in
theorem abab_any (w : World) : Calls Tryd.prog 8 #[] w fun e w' => e = .returned (.bool true) ∧ Below w.heap.size w w' := by
  have hP := Parse_ok ⟨#[97, 97, 98]⟩ w (by decide)
  have e : (ByteArray.mk #[97, 97, 98]).data.toList = [97, 97, 98] := rfl
  rw [e, ab_phr] at hP
  clear e
  go_enter Tryd.func8, Tryd.ntmps8
  go_wp2_with fail
  refine hP.mono ?_
  clear hP
  rintro e w1 ⟨v, rfl, hr, hb⟩
  obtain ⟨ad, cap, rfl, g, rfl⟩ : ∃ ad cap, v = .slice ad 2 cap ∧ ∃ g, ad = some ⟨g, 0, none⟩ := by
    rcases hr.2 with ⟨rfl, h0⟩ | ⟨g, cap, cur, rfl, _⟩
    · cases h0
    · exact ⟨_, _, rfl, g, rfl⟩
  have c : ∀ j, j < 6 → w1.cell? ⟨g, j, none⟩ = (phrsC [⟨0, 97, false⟩, ⟨1, 98, false⟩])[j]? := fun j hj => hr.cellAt j hj
  have c0 := c 0 (by decide)
  have c1 := c 1 (by decide)
  have c2 := c 2 (by decide)
  have c3 := c 3 (by decide)
  have c4 := c 4 (by decide)
  have c5 := c 5 (by decide)
  simp only [phrsC, phrC, List.cons_append, List.nil_append, List.getElem?_cons_zero, List.getElem?_cons_succ] at c0 c1 c2 c3 c4 c5
  have HB := Hid.mk' hb
  clear hr hb c
  go_wp2_with fail
  go_ret
  exact ⟨rfl, HB.out⟩
end Go.Proofs.YtiocbnjdmceadaaDoor
