/- Fields: secret.isModulus, allFrom; the document's IsField, InField. -/
import Derived.Test.YtdlbnolnkmhdcaaDoorSkMath
import Derived.Test.YtdlbnolnkmhdcaaDoorNums
import Derived.Test.YtdlbnolnkmhdcaaDoorSkRow
namespace Go.Proofs.YtdlbnolnkmhdcaaDoor
open Go.RowKit

theorem primB_iff {n : Nat} (hn : n ≤ 997) : primB n = true ↔ Pr n := by
  unfold primB Pr
  simp only [Bool.and_eq_true, decide_eq_true_eq, List.all_eq_true, List.mem_range, Bool.or_eq_true, bne_iff_ne]
  constructor
  · rintro ⟨h2, h⟩
    refine ⟨h2, fun d hd hdd => ?_⟩
    have h32 : d < 32 := by
      rcases Nat.lt_or_ge d 32 with h' | h'
      · exact h'
      · have := Nat.mul_le_mul h' h'; omega
    rcases h d h32 with (h1 | h1) | h1
    · omega
    · omega
    · exact h1
  · rintro ⟨h2, h⟩
    refine ⟨h2, fun d hd => ?_⟩
    by_cases h1 : d < 2
    · exact Or.inl (Or.inl h1)
    · by_cases h3 : n < d * d
      · exact Or.inl (Or.inr h3)
      · exact Or.inr (h d (by omega) (by omega))
/-- Is there a field of so many? -/
def fldB (p : Int) : Bool := decide (p ≤ 997) && (decide (2 ≤ p) && primB p.toNat)
theorem fldB_ok {p : Int} (h : fldB p = true) : 2 ≤ p ∧ p ≤ 997 ∧ primB p.toNat = true := by
  unfold fldB at h
  simp only [Bool.and_eq_true, decide_eq_true_eq] at h
  exact ⟨h.2.1, h.1, h.2.2⟩
theorem fermat_at {p n : Nat} (hp : p ≤ 997) (h : primB p = true) (h0 : 0 < n) (hn : n < p) : n ^ (p - 2) % p * n % p = 1 := by
  have h1 := List.all_eq_true.1 fermat_all p (List.mem_range.2 (by omega))
  rw [h] at h1
  simp only [Bool.not_true, Bool.false_or, List.all_eq_true, List.mem_range, Bool.or_eq_true, beq_iff_eq] at h1
  rcases h1 n hn with h2 | h2
  · omega
  · exact h2
theorem fl_of {p : Nat} (hp : p ≤ 997) (h : primB p = true) : Fl (p : Int) := fun a ha => by
  have h2 : 2 ≤ p := by unfold primB at h; simp at h; exact h.1
  obtain ⟨n, hn⟩ : ∃ n : Nat, a % (p : Int) = (n : Int) := ⟨_, (Int.toNat_of_nonneg (Int.emod_nonneg a (by omega))).symm⟩
  have hlt : n < p := by have := Int.emod_lt_of_pos a (show (0 : Int) < p by omega); omega
  have h0 : 0 < n := by
    rcases Nat.eq_zero_or_pos n with h | h
    · exfalso
      refine ha ((Mo.emod p a).symm.trans (Mo.of ?_))
      rw [hn, h]; rfl
    · exact h
  refine ⟨((n ^ (p - 2) % p : Nat) : Int), ?_⟩
  have h3 := fermat_at hp h h0 hlt
  have h4 : Mo (p : Int) (a * ((n ^ (p - 2) % p : Nat) : Int)) ((n : Int) * ((n ^ (p - 2) % p : Nat) : Int)) := ((Mo.emod p a).symm.trans (Mo.of hn)).mul (Mo.refl _ _)
  refine h4.trans (Mo.of_eq ?_)
  rw [show (n : Int) * ((n ^ (p - 2) % p : Nat) : Int) = ((n ^ (p - 2) % p * n : Nat) : Int) by rw [Int.natCast_mul]; exact Int.mul_comm _ _, ← Int.natCast_emod, h3]
  exact (Int.emod_eq_of_lt (by omega) (by omega)).symm

/-- Are the first k from lo on and below p? -/
def inFB (z : Nat → Int) (lo p : Int) : Nat → Bool
  | 0 => true
  | k + 1 => inFB z lo p k && decide (lo ≤ z k ∧ z k < p)
theorem inFB_no {z : Nat → Int} {lo p : Int} {k n : Nat} (h : ¬ (lo ≤ z k ∧ z k < p)) (hk : k < n) : inFB z lo p n = false := by
  induction n with
  | zero => omega
  | succ n ih =>
    rcases Nat.lt_or_ge k n with h1 | h1
    · simp [inFB, ih h1]
    · obtain rfl : k = n := by omega
      simp only [inFB, decide_eq_false h, Bool.and_false]
theorem inFB_next {z : Nat → Int} {lo p : Int} {k : Nat} (h : inFB z lo p k = true) (h1 : lo ≤ z k ∧ z k < p) : inFB z lo p (k + 1) = true := by simp [inFB, h, h1]
theorem inFB_all {z : Nat → Int} {lo p : Int} {n : Nat} (h : inFB z lo p n = true) {k : Nat} (hk : k < n) : lo ≤ z k ∧ z k < p := by
  by_cases e : lo ≤ z k ∧ z k < p
  · exact e
  · rw [inFB_no e hk] at h; cases h
end Go.Proofs.YtdlbnolnkmhdcaaDoor
