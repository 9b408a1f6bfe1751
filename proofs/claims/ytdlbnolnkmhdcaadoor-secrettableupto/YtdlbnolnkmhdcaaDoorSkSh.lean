/- Shares: secret.Share; the document's ShareError, ValueAt. -/
import Derived.Test.YtdlbnolnkmhdcaaDoorSkPol
import Derived.Test.YtdlbnolnkmhdcaaDoorFills
import Derived.Test.YtdlbnolnkmhdcaaDoorCopy
import Derived.BigQuiet
namespace Go.Proofs.YtdlbnolnkmhdcaaDoor
open Go.RowKit

/-- What is wrong with shares asked for: p, n coefficients z, x shares. -/
def shE (p : Int) (n : Nat) (z : Nat → Int) (x : Int) : Nat := if fldB p = false then 8 else if x < 1 ∨ p - 1 < x ∨ 24 < x ∨ n = 0 ∨ 12 < n then 2 else if inFB z 0 p n = false then 3 else 0
theorem shE_le (p : Int) (n : Nat) (z : Nat → Int) (x : Int) : shE p n z x ≤ 8 := by
  unfold shE; repeat (split; omega)
  omega
/-- What right ones are, in numbers from 0 on. -/
theorem shE_ok {p : Int} {n : Nat} {z : Nat → Int} {x : Int} (h : shE p n z x = 0) : ∃ (P X : Nat) (c : Nat → Nat), p = (P : Int) ∧ x = (X : Int) ∧ 2 ≤ P ∧ P ≤ 997 ∧ primB P = true ∧ 1 ≤ X ∧ X + 1 ≤ P ∧ X ≤ 24 ∧ 0 < n ∧ n ≤ 12 ∧ (∀ i, c i < P) ∧ ∀ i, i < n → z i = (c i : Int) := by
  unfold shE at h
  cases h1 : fldB p with
  | false => rw [h1, if_pos rfl] at h; cases h
  | true =>
    rw [h1, if_neg (by simp)] at h
    by_cases h2 : x < 1 ∨ p - 1 < x ∨ 24 < x ∨ n = 0 ∨ 12 < n
    · rw [if_pos h2] at h; cases h
    · rw [if_neg h2] at h
      cases h3 : inFB z 0 p n with
      | false => rw [h3, if_pos rfl] at h; cases h
      | true =>
        obtain ⟨a, b, c⟩ := fldB_ok h1
        have hall := fun i (hi : i < n) => inFB_all h3 hi
        refine ⟨p.toNat, x.toNat, fun i => if i < n then (z i).toNat else 0, by omega, by omega, by omega, by omega, c, by omega, by omega, by omega, by omega, by omega, fun i => ?_, fun i hi => ?_⟩
        · show (if i < n then (z i).toNat else 0) < p.toNat
          split
          · rename_i hi; have := hall i hi; omega
          · omega
        · show z i = ((if i < n then (z i).toNat else 0 : Nat) : Int)
          rw [if_pos hi]; have := hall i hi; omega

/-- The share at i + 1. -/
def shaN (p n : Nat) (c : Nat → Nat) (i : Nat) : Int := (valN p c (i + 1) n : Int)
end Go.Proofs.YtdlbnolnkmhdcaaDoor
