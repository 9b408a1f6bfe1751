/- The law's isLog. -/
import Derived.Test.YtofflboheiflaaaGreatDoorOfAny
import Derived.Test.YtofflboheiflaaaGreatDoorCode
namespace Go.Proofs.YtofflboheiflaaaGreatDoor
open Go.RowKit

theorem same_own (den : Int) (v1 v2 : Value) (n : Nat) (p c : Nat → Int) (w : World) (h1 : OwnAt w v1 n p c) (h2 : OwnAt w v2 n p c) (hn : n ≤ 1000000) :
    Calls Tryz.prog 24 #[.agg #[.int .i64 den, v1], .agg #[.int .i64 den, v2]] w fun e w' => e = .returned (.bool true) ∧ Below w.heap.size w w' := by
  rcases h1 with ⟨rfl, rfl⟩ | ⟨g1, c1, rfl, t1⟩
  · rcases h2 with ⟨rfl, _⟩ | ⟨g2, c2, rfl, t2⟩
    · exact SameLog_none den none none 0 0 w
    · exact SameLog_none den none _ 0 c2 w
  · rcases h2 with ⟨rfl, rfl⟩ | ⟨g2, c2, rfl, t2⟩
    · exact SameLog_none den _ none c1 0 w
    · exact SameLog_some den g1 0 c1 g2 0 c2 n p c w t1 t2 hn
theorem own_form {w : World} {v : Value} {n : Nat} {p c : Nat → Int} (h : OwnAt w v n p c) : ∃ ad m cap, v = .slice ad m cap := by
  rcases h with ⟨rfl, _⟩ | ⟨g, cap, rfl, _⟩
  · exact ⟨_, _, _, rfl⟩
  · exact ⟨_, _, _, rfl⟩

end Go.Proofs.YtofflboheiflaaaGreatDoor
