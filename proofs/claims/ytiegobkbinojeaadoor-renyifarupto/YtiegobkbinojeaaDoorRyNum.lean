/- Numbers of a list: their sum, their squares, how many are above 0, the greatest. -/
import Derived.Test.YtiegobkbinojeaaDoorWeights
import Derived.Test.YtiegobkbinojeaaDoorRyMass
namespace Go.Proofs.YtiegobkbinojeaaDoor
open Go.RowKit

/-- Numbers of a list. -/
def wN (z : Nat → Int) (i : Nat) : Nat := (z i).toNat
theorem wN_sum {z : Nat → Int} : ∀ {n : Nat}, (∀ i, i < n → 0 ≤ z i) → (sumA (wN z) n : Int) = sumN z n
  | 0, _ => rfl
  | n + 1, h => by
    show ((sumA (wN z) n + wN z n : Nat) : Int) = sumN z n + z n
    have := h n (by omega)
    rw [Int.natCast_add, wN_sum (fun i hi => h i (by omega))]
    unfold wN; omega
/-- The sum of the squares. -/
def sqNR (z : Nat → Int) (n : Nat) : Nat := sumA (fun i => wN z i * wN z i) n
theorem sqN_leR {z : Nat → Int} {S : Nat} : ∀ {n : Nat}, sumA (wN z) n ≤ S → sqNR z n ≤ S * sumA (wN z) n
  | 0, _ => Nat.zero_le _
  | n + 1, h => by
    have h1 : sumA (wN z) n + wN z n ≤ S := h
    have h2 := sqN_leR (z := z) (S := S) (n := n) (by omega)
    show sqNR z n + wN z n * wN z n ≤ S * (sumA (wN z) n + wN z n)
    rw [Nat.mul_add]
    have : wN z n * wN z n ≤ S * wN z n := Nat.mul_le_mul_right _ (by omega)
    omega
theorem sqN_posR {z : Nat → Int} : ∀ {n : Nat}, 0 < sumA (wN z) n → 0 < sqNR z n
  | 0, h => h
  | n + 1, h => by
    have h1 : 0 < sumA (wN z) n + wN z n := h
    show 0 < sqNR z n + wN z n * wN z n
    rcases Nat.eq_zero_or_pos (wN z n) with h2 | h2
    · have := sqN_posR (z := z) (n := n) (by omega); omega
    · have := Nat.mul_pos h2 h2; omega
/-- How many are above 0. -/
def cntP (z : Nat → Int) : Nat → Nat
  | 0 => 0
  | n + 1 => cntP z n + if 0 < z n then 1 else 0
theorem cntP_le (z : Nat → Int) : ∀ n, cntP z n ≤ n
  | 0 => Nat.le_refl _
  | n + 1 => by
    have := cntP_le z n
    show cntP z n + (if 0 < z n then 1 else 0) ≤ n + 1
    split <;> omega
theorem cntP_pos {z : Nat → Int} : ∀ {n : Nat}, (∀ i, i < n → 0 ≤ z i) → 0 < sumN z n → 0 < cntP z n
  | 0, _, h => by simp [sumN] at h
  | n + 1, hn, h => by
    have h1 : 0 < sumN z n + z n := h
    show 0 < cntP z n + (if 0 < z n then 1 else 0)
    by_cases h2 : 0 < z n
    · rw [if_pos h2]; omega
    · have := cntP_pos (z := z) (n := n) (fun i hi => hn i (by omega)) (by omega)
      omega
/-- The greatest. -/
def mxNR (z : Nat → Int) (n : Nat) : Nat := (maxTo z (n - 1)).toNat
theorem mxN_atR {z : Nat → Int} {n : Nat} (h : OkW z n) : (mxNR z n : Int) = maxTo z (n - 1) ∧ 1 ≤ mxNR z n ∧ mxNR z n ≤ 4096 ∧ ∀ i, i < n → wN z i ≤ mxNR z n := by
  have hn := h.posN
  obtain ⟨j, hj, e⟩ := maxTo_mem z (n - 1)
  have hz := h.lt (i := j) (by omega)
  have hpos : 0 < maxTo z (n - 1) := by
    rw [maxTo_pos, show n - 1 + 1 = n by omega]
    rcases hs : someB z n with _ | _
    · exfalso
      have h1 : ∀ i, i < n → z i = 0 := fun i hi => by
        have := h.nn i hi
        rcases Int.lt_or_le 0 (z i) with h2 | h2
        · have := (someB_iff z n).2 ⟨i, hi, h2⟩
          rw [hs] at this; cases this
        · omega
      have h2 : sumN z n = sumN (fun _ => 0) n := sumN_congr h1
      have h3 : ∀ m, sumN (fun _ => 0) m = 0 := fun m => by
        induction m with
        | zero => rfl
        | succ m ih => show sumN (fun _ => 0) m + 0 = 0; rw [ih]; rfl
      have := h.pos
      rw [h2, h3] at this; omega
    · rfl
  unfold mxNR
  refine ⟨by omega, by omega, by omega, fun i hi => ?_⟩
  have := maxTo_ge z (n - 1) i (by omega)
  unfold wN; omega
end Go.Proofs.YtiegobkbinojeaaDoor
