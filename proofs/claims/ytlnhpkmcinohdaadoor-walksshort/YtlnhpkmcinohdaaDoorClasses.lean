/- chain.stays, leasts, closed, class. -/
import Derived.Test.YtlnhpkmcinohdaaDoorReach
import Derived.Test.YtlnhpkmcinohdaaDoorWeights
namespace Go.Proofs.YtlnhpkmcinohdaaDoor
open Go.RowKit

/-- A table of truths. -/
abbrev TruthAt (w : World) (v : Value) (n : Nat) (to : Nat → Nat → Bool) : Prop := GridAt w v n n (fun i k => .bool (to i k))
/-- States as a list in memory. -/
def natL (l : List Nat) : List Int := l.map fun x : Nat => (x : Int)
theorem natL_length (l : List Nat) : (natL l).length = l.length := by simp [natL]
theorem natL_push (l : List Nat) (k : Nat) : cellL (natL (l ++ [k])) = cellL (natL l) ++ [.int .i64 (k : Int)] := by simp [natL, cellL]
def StatesAt (w : World) (v : Value) (l : List Nat) : Prop := NumsAt w v l.length (fun i => ((l.getD i 0 : Nat) : Int))
theorem StatesAt.later {w w' : World} {v : Value} {l : List Nat} (h : StatesAt w v l) (hb : Below w.heap.size w w') : StatesAt w' v l := NumsAt.later h hb
theorem statesAt_row {w : World} {base : Nat} {v : Value} {l : List Nat} (h : w.ownsRow base 3 1 v l.length (cellL (natL l))) : StatesAt w v l := by
  have h1 : w.ownsRow base 3 1 v (natL l).length (cellL (natL l)) := by rw [natL_length]; exact h
  have h2 := numsAt_row h1
  rw [natL_length] at h2
  refine h2.congr fun i hi => ?_
  simp [atF, natL, hi]

end Go.Proofs.YtlnhpkmcinohdaaDoor
