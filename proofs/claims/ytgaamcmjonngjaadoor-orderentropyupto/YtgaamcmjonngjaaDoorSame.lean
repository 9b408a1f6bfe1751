/- SameLog at two that are the same; eighth. -/
import Derived.Test.YtgaamcmjonngjaaDoorPut8
namespace Go.Proofs.YtgaamcmjonngjaaDoor
open Go.RowKit Go.Maps

theorem TermsAt.later {w w' : World} {b o n : Nat} {p c : Nat → Int} (h : TermsAt w b o n p c) (hb : Below w.heap.size w w') : TermsAt w' b o n p c := fun k hk =>
  ⟨by rw [hb.cell (cell_lt (h k hk).1)]; exact (h k hk).1, by rw [hb.cell (cell_lt (h k hk).2)]; exact (h k hk).2⟩

end Go.Proofs.YtgaamcmjonngjaaDoor
