/- The longest text ahead that begins what is left. -/
import Derived.Test.YtiocbnjdmceadaaDoorPzMath
namespace Go.Proofs.YtiocbnjdmceadaaDoor

structure Best (K : List (List UInt8)) (R : List UInt8) (k best long : Nat) : Prop where
  is : (best = 0 ∧ long = 0) ∨ (1 ≤ best ∧ best ≤ k ∧ ∃ a, K[best - 1]? = some a ∧ a.length = long ∧ a <+: R)
  most : ∀ (i : Nat) (a : List UInt8), i < k → K[i]? = some a → a <+: R → a.length ≤ long
theorem Best.start (K : List (List UInt8)) (R : List UInt8) : Best K R 0 0 0 := ⟨Or.inl ⟨rfl, rfl⟩, fun i a h => by omega⟩
theorem Best.more {K : List (List UInt8)} {R : List UInt8} {k best long : Nat} (h : Best K R k best long) {a : List UInt8} (ha : K[k]? = some a) (hl : long < a.length) (hp : a <+: R) : Best K R (k + 1) (k + 1) a.length :=
  ⟨Or.inr ⟨by omega, Nat.le_refl _, a, ha, rfl, hp⟩, fun i b hi hb hbp => by
    rcases Nat.lt_or_ge i k with h' | h'
    · exact Nat.le_trans (h.most i b h' hb hbp) (Nat.le_of_lt hl)
    · obtain rfl : i = k := by omega
      rw [ha] at hb
      obtain rfl := Option.some.inj hb
      exact Nat.le_refl _⟩
theorem Best.same {K : List (List UInt8)} {R : List UInt8} {k best long : Nat} (h : Best K R k best long) {a : List UInt8} (ha : K[k]? = some a) (hl : ¬ (long < a.length ∧ a <+: R)) : Best K R (k + 1) best long :=
  ⟨by
    rcases h.is with h1 | ⟨h1, h2, h3⟩
    · exact Or.inl h1
    · exact Or.inr ⟨h1, by omega, h3⟩, fun i b hi hb hbp => by
    rcases Nat.lt_or_ge i k with h' | h'
    · exact h.most i b h' hb hbp
    · obtain rfl : i = k := by omega
      rw [ha] at hb
      obtain rfl := Option.some.inj hb
      rcases Nat.lt_or_ge long a.length with h2 | h2
      · exact absurd ⟨h2, hbp⟩ hl
      · exact h2⟩
theorem Best.text {K : List (List UInt8)} {R : List UInt8} {best long : Nat} (h : Best K R K.length best long) : best ≤ K.length ∧ long ≤ R.length ∧ txA K best = R.take long ∧ (long ≠ 0 → best ≠ 0) := by
  rcases h.is with ⟨rfl, rfl⟩ | ⟨h1, h2, a, h3, h4, h5⟩
  · exact ⟨Nat.zero_le _, Nat.zero_le _, by simp [txA], fun h => absurd rfl h⟩
  · refine ⟨h2, by rw [← h4]; exact h5.length_le, ?_, fun _ => by omega⟩
    have := txA_some (K := K) (o := best) (by omega) h2
    rw [h3] at this
    rw [← Option.some.inj this, ← h4]
    exact List.prefix_iff_eq_take.1 h5
theorem Best.walk {D : List (Nat × UInt8)} {K : List (List UInt8)} {R : List UInt8} {best long : Nat} (h : Best K R K.length best long) (ht : Trie D K) : pz (D, 0) (R.take long) = (D, best) := by
  obtain ⟨h1, h2, h3, _⟩ := h.text
  exact ht.walk R best long h1 h2 h3
theorem Best.next {D : List (Nat × UInt8)} {K : List (List UInt8)} {R : List UInt8} {best long : Nat} (h : Best K R K.length best long) (ht : Trie D K) (hl : long < R.length) : numOf D (best, R[long]) = 0 ∧ txA K best ++ [R[long]] = R.take (long + 1) := by
  obtain ⟨h1, h2, h3, _⟩ := h.text
  have hs : R.take (long + 1) = R.take long ++ [R[long]] := List.take_succ_eq_append_getElem hl
  refine ⟨?_, by rw [h3, hs]⟩
  rcases ht.step (c := R[long]) h1 with ⟨h4, _⟩ | ⟨h4, h5, h6⟩
  · exact h4
  · have h7 := txA_some h4 h5
    rw [h6, h3, ← hs] at h7
    have h8 := h.most _ _ (by omega) h7 (List.take_prefix _ _)
    rw [List.length_take] at h8
    omega
end Go.Proofs.YtiocbnjdmceadaaDoor
