/- The law's isLog. -/
import Derived.Test.YtgaamcmjonngjaaDoorOfAny
import Derived.Test.YtgaamcmjonngjaaDoorCode
namespace Go.Proofs.YtgaamcmjonngjaaDoor
open Go.RowKit

theorem own_form {w : World} {v : Value} {n : Nat} {p c : Nat → Int} (h : OwnAt w v n p c) : ∃ ad m cap, v = .slice ad m cap := by
  rcases h with ⟨rfl, _⟩ | ⟨g, cap, rfl, _⟩
  · exact ⟨_, _, _, rfl⟩
  · exact ⟨_, _, _, rfl⟩

end Go.Proofs.YtgaamcmjonngjaaDoor
