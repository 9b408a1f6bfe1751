/- Numbers stay as they are where a slice is put in a slice's place. -/
import Derived.Test.YtmdimdoglpiiiaaGreatDoorNatTold
namespace Go.Proofs.YtmdimdoglpiiiaaGreatDoor
open Go.RowKit

theorem NatAt.isSlice {w : World} {v : Value} {n : Nat} (h : NatAt w v n) : ∃ ad l cap, v = .slice ad l cap := by
  obtain ⟨x, _, _, _, hx⟩ := h
  obtain ⟨ad, cap, e⟩ := hx.form
  exact ⟨_, _, _, e⟩
theorem WordsAt.putS {W : World} {v y : Value} {l : List Nat} {p : Addr} {ad : Option Addr} {n c : Nat} (h : WordsAt W v l) (hc : W.cell? p = some (.slice ad n c)) : WordsAt (W.setCell p y) v l := by
  rcases h with h | ⟨b, o, cap, h1, h2, h3, h4⟩
  · exact Or.inl h
  · refine Or.inr ⟨b, o, cap, h1, h2, h3, fun i hi => ?_⟩
    rw [cell_put y hc, if_neg (fun e => ?_)]
    · exact h4 i hi
    · have := h4 i hi
      rw [e, hc] at this
      simp at this
theorem NatAt.putS {W : World} {v y : Value} {n : Nat} {p : Addr} {ad : Option Addr} {k c : Nat} (h : NatAt W v n) (hc : W.cell? p = some (.slice ad k c)) : NatAt (W.setCell p y) v n := by
  obtain ⟨l, h1, h2, h3, h4⟩ := h
  exact ⟨l, h1, h2, h3, h4.putS hc⟩
end Go.Proofs.YtmdimdoglpiiiaaGreatDoor
