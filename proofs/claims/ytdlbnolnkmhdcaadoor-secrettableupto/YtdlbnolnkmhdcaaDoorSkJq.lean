/- secret.Join. -/
import Derived.Test.YtdlbnolnkmhdcaaDoorSkJp
namespace Go.Proofs.YtdlbnolnkmhdcaaDoor
open Go.RowKit

/-- What is wrong with shares to be joined: p, m places z, n values y. -/
def joE (p : Int) (m : Nat) (z : Nat → Int) (n : Nat) (y : Nat → Int) : Nat := if fldB p = false then 8 else if m = 0 ∨ 12 < m then 2 else if n ≠ m ∨ inFB z 1 p m = false ∨ inFB y 0 p n = false ∨ twiB z m = true then 3 else 0
theorem joE_le (p : Int) (m : Nat) (z : Nat → Int) (n : Nat) (y : Nat → Int) : joE p m z n y ≤ 8 := by
  unfold joE; repeat (split; omega)
  omega
/-- What right ones are, in numbers from 0 on. -/
theorem joE_ok {p : Int} {m : Nat} {z : Nat → Int} {n : Nat} {y : Nat → Int} (h : joE p m z n y = 0) : ∃ (P : Nat) (A V : Nat → Nat), p = (P : Int) ∧ FldN P ∧ 0 < m ∧ m ≤ 12 ∧ n = m ∧ Places P m A ∧ (∀ i, V i < P) ∧ (∀ i, i < m → z i = (A i : Int)) ∧ ∀ i, i < m → y i = (V i : Int) := by
  unfold joE at h
  cases h1 : fldB p with
  | false => rw [h1, if_pos rfl] at h; cases h
  | true =>
    rw [h1, if_neg (by simp)] at h
    by_cases h2 : m = 0 ∨ 12 < m
    · rw [if_pos h2] at h; cases h
    · rw [if_neg h2] at h
      by_cases h3 : n ≠ m ∨ inFB z 1 p m = false ∨ inFB y 0 p n = false ∨ twiB z m = true
      · rw [if_pos h3] at h; cases h
      · have hnm : n = m := by
          by_cases e : n = m
          · exact e
          · exact absurd (Or.inl e) h3
        have hz : inFB z 1 p m = true := by
          cases e : inFB z 1 p m with
          | true => rfl
          | false => exact absurd (Or.inr (Or.inl e)) h3
        have hy : inFB y 0 p n = true := by
          cases e : inFB y 0 p n with
          | true => rfl
          | false => exact absurd (Or.inr (Or.inr (Or.inl e))) h3
        have ht : twiB z m = false := by
          cases e : twiB z m with
          | false => rfl
          | true => exact absurd (Or.inr (Or.inr (Or.inr e))) h3
        subst hnm
        obtain ⟨a, b, c⟩ := fldB_ok h1
        have hz' := fun i (hi : i < n) => inFB_all hz hi
        have hy' := fun i (hi : i < n) => inFB_all hy hi
        refine ⟨p.toNat, fun i => if i < n then (z i).toNat else 0, fun i => if i < n then (y i).toNat else 0, by omega, ⟨by omega, by omega, c⟩, by omega, by omega, rfl, ⟨fun i => ?_, fun i hi => ?_, fun i j hi hj hij => ?_⟩, fun i => ?_, fun i hi => ?_, fun i hi => ?_⟩
        · show (if i < n then (z i).toNat else 0) < p.toNat
          split
          · rename_i hi; have := hz' i hi; omega
          · omega
        · show 0 < (if i < n then (z i).toNat else 0)
          rw [if_pos hi]; have := hz' i hi; omega
        · show (if i < n then (z i).toNat else 0) ≠ (if j < n then (z j).toNat else 0)
          rw [if_pos hi, if_pos hj]
          have e1 := hz' i hi
          have e2 := hz' j hj
          have hne : z i ≠ z j := by
            rcases Nat.lt_or_ge i j with h4 | h4
            · exact twiB_no ht h4 hj
            · exact fun e => twiB_no ht (show j < i by omega) hi e.symm
          omega
        · show (if i < n then (y i).toNat else 0) < p.toNat
          split
          · rename_i hi; have := hy' i hi; omega
          · omega
        · show z i = ((if i < n then (z i).toNat else 0 : Nat) : Int)
          rw [if_pos hi]; have := hz' i hi; omega
        · show y i = ((if i < n then (y i).toNat else 0 : Nat) : Int)
          rw [if_pos hi]; have := hy' i hi; omega
theorem inFB_true {z : Nat → Int} {lo p : Int} : ∀ {n : Nat}, (∀ i, i < n → lo ≤ z i ∧ z i < p) → inFB z lo p n = true
  | 0, _ => rfl
  | n + 1, h => inFB_next (inFB_true fun i hi => h i (by omega)) (h n (by omega))
theorem twiB_false {z : Nat → Int} : ∀ {n : Nat}, (∀ i j, i < j → j < n → z i ≠ z j) → twiB z n = false
  | 0, _ => rfl
  | n + 1, h => by
    have ih := twiB_false (z := z) (n := n) fun i j hij hj => h i j hij (by omega)
    have h1 : inB z n (z n) = false := by
      cases e : inB z n (z n) with
      | false => rfl
      | true =>
        obtain ⟨i, hi, e1⟩ := (inB_iff z (z n) n).1 e
        exact absurd e1 (h i n hi (by omega))
    simp [twiB, ih, h1]
end Go.Proofs.YtdlbnolnkmhdcaaDoor
