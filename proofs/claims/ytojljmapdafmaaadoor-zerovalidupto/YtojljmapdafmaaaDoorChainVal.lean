/- Right chains: the document's and the program's. -/
import Derived.Test.YtojljmapdafmaaaDoorCodedV
import Derived.Test.YtojljmapdafmaaaDoorTabCopy
namespace Go.Proofs.YtojljmapdafmaaaDoor
open Go.RowKit

/-- A row among the first k that is of another length, below 0 or nothing; one that is too great. -/
def shapeB (n : Nat) (ns : Nat → Nat) (zs : Nat → Nat → Int) : Nat → Bool
  | 0 => false
  | k + 1 => shapeB n ns zs k || decide (ns k ≠ n ∨ listErr (zs k) (ns k) = 3)
def boundB (ns : Nat → Nat) (zs : Nat → Nat → Int) : Nat → Bool
  | 0 => false
  | k + 1 => boundB ns zs k || decide (listErr (zs k) (ns k) ≠ 0)
def chainErr (n : Nat) (ns : Nat → Nat) (zs : Nat → Nat → Int) : Nat := if 8 < n then 2 else if n = 0 then 3 else if shapeB n ns zs n = true then 3 else if boundB ns zs n = true then 2 else 0
theorem shapeB_at {n : Nat} {ns : Nat → Nat} {zs : Nat → Nat → Int} {k : Nat} : ∀ {m : Nat}, k < m → (ns k ≠ n ∨ listErr (zs k) (ns k) = 3) → shapeB n ns zs m = true
  | 0, h, _ => by omega
  | m + 1, h, hb => by
    rw [shapeB]
    rcases Nat.lt_or_ge k m with h1 | h1
    · rw [shapeB_at h1 hb]; rfl
    · obtain rfl : k = m := by omega
      rw [decide_eq_true hb]; simp
theorem shapeB_none {n : Nat} {ns : Nat → Nat} {zs : Nat → Nat → Int} : ∀ {m : Nat}, shapeB n ns zs m = false → ∀ k, k < m → ns k = n ∧ listErr (zs k) (ns k) ≠ 3
  | 0, _, k, h => by omega
  | m + 1, h, k, hk => by
    rw [shapeB, Bool.or_eq_false_iff] at h
    rcases Nat.lt_or_ge k m with h1 | h1
    · exact shapeB_none h.1 k h1
    · obtain rfl : k = m := by omega
      have := of_decide_eq_false h.2
      exact ⟨by omega, by omega⟩
theorem boundB_none {ns : Nat → Nat} {zs : Nat → Nat → Int} : ∀ {m : Nat}, boundB ns zs m = false → ∀ k, k < m → listErr (zs k) (ns k) = 0
  | 0, _, k, h => by omega
  | m + 1, h, k, hk => by
    rw [boundB, Bool.or_eq_false_iff] at h
    rcases Nat.lt_or_ge k m with h1 | h1
    · exact boundB_none h.1 k h1
    · obtain rfl : k = m := by omega
      have := of_decide_eq_false h.2
      omega
theorem listErr_cases (z : Nat → Int) (n : Nat) : listErr z n = 0 ∨ listErr z n = 2 ∨ listErr z n = 3 := by
  unfold listErr
  split
  · exact Or.inr (Or.inr rfl)
  · split
    · exact Or.inr (Or.inl rfl)
    · exact Or.inl rfl
theorem chainErr_le (n : Nat) (ns : Nat → Nat) (zs : Nat → Nat → Int) : chainErr n ns zs ≤ 3 := by
  unfold chainErr; split; omega; split; omega; split; omega; split <;> omega
/-- What a right chain is. -/
theorem chainErr_ok {n : Nat} {ns : Nat → Nat} {zs : Nat → Nat → Int} (h : chainErr n ns zs = 0) : 0 < n ∧ n ≤ 8 ∧ (∀ i, i < n → ns i = n) ∧ ∀ i, i < n → OkW (zs i) n := by
  unfold chainErr at h
  by_cases h1 : 8 < n
  · rw [if_pos h1] at h; cases h
  rw [if_neg h1] at h
  by_cases h2 : n = 0
  · rw [if_pos h2] at h; cases h
  rw [if_neg h2] at h
  cases h3 : shapeB n ns zs n with
  | true => rw [h3, if_pos rfl] at h; cases h
  | false =>
    rw [h3, if_neg (by simp)] at h
    cases h4 : boundB ns zs n with
    | true => rw [h4, if_pos rfl] at h; cases h
    | false =>
      refine ⟨by omega, by omega, fun i hi => (shapeB_none h3 i hi).1, fun i hi => ?_⟩
      have := listErr_ok (boundB_none h4 i hi)
      rw [(shapeB_none h3 i hi).1] at this
      exact this

end Go.Proofs.YtojljmapdafmaaaDoor
