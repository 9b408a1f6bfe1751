/- Copies of what stood ahead: what both the program and the document answer. -/
namespace Go.Proofs.YtiocbnjdmceadaaDoor

/-- How many bytes two texts begin with. -/
def cpL : List UInt8 → List UInt8 → Nat
  | x :: a, y :: b => if x = y then cpL a b + 1 else 0
  | _, _ => 0
theorem cpL_le : ∀ a b, cpL a b ≤ b.length
  | [], b => by simp [cpL]
  | x :: a, [] => by simp [cpL]
  | x :: a, y :: b => by
    have := cpL_le a b
    unfold cpL
    split
    · simp; omega
    · simp
theorem cpL_take : ∀ a b : List UInt8, (a.take (cpL a b)) = b.take (cpL a b)
  | [], b => by simp [cpL]
  | x :: a, [] => by simp [cpL]
  | x :: a, y :: b => by
    have := cpL_take a b
    unfold cpL
    split
    · next h => simp [h, this]
    · simp
theorem cpL_step (L : List UInt8) (f a n : Nat) (h1 : a + n < L.length) (h2 : f + n < L.length) : cpL (L.drop (f + n)) (L.drop (a + n)) = if L[f + n] = L[a + n] then cpL (L.drop (f + (n + 1))) (L.drop (a + (n + 1))) + 1 else 0 := by
  rw [List.drop_eq_getElem_cons h1, List.drop_eq_getElem_cons h2]
  rfl
theorem cpL_end (L : List UInt8) (f a n : Nat) (h1 : L.length ≤ a + n) : cpL (L.drop (f + n)) (L.drop (a + n)) = 0 := by
  rw [List.drop_eq_nil_of_le h1]
  cases L.drop (f + n) <;> rfl

/-- Of the first k places ahead the nearest of those that have most: how far back, and how much. -/
def bst (L : List UInt8) (at' : Nat) : Nat → Nat × Nat
  | 0 => (0, 0)
  | k + 1 => if (bst L at' k).2 < cpL (L.drop (at' - (k + 1))) (L.drop at') then (k + 1, cpL (L.drop (at' - (k + 1))) (L.drop at')) else bst L at' k
theorem bst_more {L : List UInt8} {p k : Nat} (h : (bst L p k).2 < cpL (L.drop (p - (k + 1))) (L.drop p)) : bst L p (k + 1) = (k + 1, cpL (L.drop (p - (k + 1))) (L.drop p)) := by
  show (if _ then _ else _) = _
  rw [if_pos h]
theorem bst_same {L : List UInt8} {p k : Nat} (h : ¬ (bst L p k).2 < cpL (L.drop (p - (k + 1))) (L.drop p)) : bst L p (k + 1) = bst L p k := by
  show (if _ then _ else _) = _
  rw [if_neg h]
theorem bst_le (L : List UInt8) (p : Nat) : ∀ k, (bst L p k).1 ≤ k ∧ (bst L p k).2 ≤ L.length - p
  | 0 => by simp [bst]
  | k + 1 => by
    have ih := bst_le L p k
    have hc := cpL_le (L.drop (p - (k + 1))) (L.drop p)
    rw [List.length_drop] at hc
    by_cases h : (bst L p k).2 < cpL (L.drop (p - (k + 1))) (L.drop p)
    · rw [bst_more h]; exact ⟨Nat.le_refl _, hc⟩
    · rw [bst_same h]; omega
theorem bst_zero (L : List UInt8) (p : Nat) : ∀ k, ((bst L p k).1 = 0 ↔ (bst L p k).2 = 0)
  | 0 => by simp [bst]
  | k + 1 => by
    have ih := bst_zero L p k
    by_cases h : (bst L p k).2 < cpL (L.drop (p - (k + 1))) (L.drop p)
    · rw [bst_more h]; simp; omega
    · rw [bst_same h]; exact ih
theorem bst_copy (L : List UInt8) (p : Nat) : ∀ k, (L.drop (p - (bst L p k).1)).take (bst L p k).2 = (L.drop p).take (bst L p k).2
  | 0 => by simp [bst]
  | k + 1 => by
    by_cases h : (bst L p k).2 < cpL (L.drop (p - (k + 1))) (L.drop p)
    · rw [bst_more h]; exact cpL_take _ _
    · rw [bst_same h]; exact bst_copy L p k

/-- A copy: how far back, how long, the byte behind it, whether it is the last. -/
structure Cpy where
  back : Nat
  len : Nat
  next : Nat
  last : Bool
/-- The copies of a text from a place on. -/
def slL (L : List UInt8) (w : Nat) : Nat → Nat → List Cpy
  | 0, _ => []
  | f + 1, p =>
    if p < L.length then
      (if p + (bst L p (min w p)).2 < L.length then ⟨(bst L p (min w p)).1, (bst L p (min w p)).2, (L.getD (p + (bst L p (min w p)).2) 0).toNat, false⟩ :: slL L w f (p + (bst L p (min w p)).2 + 1)
      else [⟨(bst L p (min w p)).1, (bst L p (min w p)).2, 0, true⟩])
    else []
theorem slL_end (L : List UInt8) (w f p : Nat) (h : L.length ≤ p) : slL L w f p = [] := by
  cases f with
  | zero => rfl
  | succ f => unfold slL; rw [if_neg (by omega)]
theorem slL_step (L : List UInt8) (w f p : Nat) (h : p < L.length) (h2 : p + (bst L p (min w p)).2 < L.length) : slL L w (f + 1) p = ⟨(bst L p (min w p)).1, (bst L p (min w p)).2, (L.getD (p + (bst L p (min w p)).2) 0).toNat, false⟩ :: slL L w f (p + (bst L p (min w p)).2 + 1) := by
  conv => lhs; unfold slL
  rw [if_pos h, if_pos h2]
theorem slL_last (L : List UInt8) (w f p : Nat) (h : p < L.length) (h2 : L.length ≤ p + (bst L p (min w p)).2) : slL L w (f + 1) p = [⟨(bst L p (min w p)).1, (bst L p (min w p)).2, 0, true⟩] := by
  conv => lhs; unfold slL
  rw [if_pos h, if_neg (by omega)]
end Go.Proofs.YtiocbnjdmceadaaDoor
