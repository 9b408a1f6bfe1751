/- Phrases undone: which are right, and what text they make. -/
namespace Go.Proofs.YtiocbnjdmceadaaDoor

/-- A phrase as it may come in. -/
structure PhI where
  of : Int
  next : UInt8
  last : Bool
/-- Is a phrase, the i-th of n, not in form? -/
def badP (n i : Nat) (p : PhI) : Bool := decide (p.of < 0 ∨ (i : Int) < p.of) || (p.last && decide (i + 1 < n ∨ p.of = 0 ∨ p.next.toNat ≠ 0))
theorem badP_yes {n i : Nat} {p : PhI} (h : badP n i p = true) : p.of < 0 ∨ (¬ p.of < 0 ∧ (i : Int) < p.of) ∨ (¬ p.of < 0 ∧ ¬ (i : Int) < p.of ∧ p.last = true ∧ ((i : Int) + 1 < (n : Int) ∨ (¬ (i : Int) + 1 < (n : Int) ∧ p.of = 0) ∨ (¬ (i : Int) + 1 < (n : Int) ∧ 0 < p.of ∧ p.next.toNat ≠ 0))) := by
  unfold badP at h
  simp only [Bool.or_eq_true, Bool.and_eq_true, decide_eq_true_eq] at h
  by_cases h5 : p.of < 0
  · exact Or.inl h5
  · by_cases h6 : (i : Int) < p.of
    · exact Or.inr (Or.inl ⟨h5, h6⟩)
    · rcases h with h | ⟨h, h7⟩
      · omega
      · exact Or.inr (Or.inr ⟨h5, h6, h, by omega⟩)
theorem badP_no {n i : Nat} {p : PhI} (h : badP n i p = false) : 0 ≤ p.of ∧ p.of ≤ (i : Int) ∧ (p.last = false ∨ (p.last = true ∧ ¬ (i : Int) + 1 < (n : Int) ∧ 0 < p.of ∧ p.next.toNat = 0)) := by
  unfold badP at h
  simp only [Bool.or_eq_false_iff, Bool.and_eq_false_iff, decide_eq_false_iff_not] at h
  obtain ⟨h1, h2⟩ := h
  refine ⟨by omega, by omega, ?_⟩
  rcases h2 with h2 | h2
  · exact Or.inl h2
  · cases hl : p.last with
    | false => exact Or.inl rfl
    | true => exact Or.inr ⟨rfl, by omega, by omega, by omega⟩
/-- The first one that is not in form. -/
def scanP (n : Nat) : List PhI → Nat → Option Nat
  | [], _ => none
  | p :: r, i => if badP n i p = true then some i else scanP n r (i + 1)
theorem scanP_bad {n i : Nat} {p : PhI} {r : List PhI} (h : badP n i p = true) : scanP n (p :: r) i = some i := by unfold scanP; rw [if_pos h]
theorem scanP_ok {n i : Nat} {p : PhI} {r : List PhI} (h : badP n i p = false) : scanP n (p :: r) i = scanP n r (i + 1) := by
  conv => lhs; unfold scanP
  rw [if_neg (by rw [h]; decide)]
theorem dropP {l : List PhI} {i : Nat} {c : PhI} (h : l[i]? = some c) : l.drop i = c :: l.drop (i + 1) := by
  obtain ⟨hi, rfl⟩ := List.getElem?_eq_some_iff.1 h
  exact List.drop_eq_getElem_cons hi
theorem scanP_at {n : Nat} : ∀ (r : List PhI) (i : Nat), scanP n r i = none → ∀ (k : Nat) (p : PhI), r[k]? = some p → badP n (i + k) p = false
  | [], i, h, k, p, hp => by simp at hp
  | d :: r, i, h, k, p, hp => by
    cases hb : badP n i d with
    | true => rw [scanP_bad hb] at h; cases h
    | false =>
      rw [scanP_ok hb] at h
      cases k with
      | zero =>
        obtain rfl : d = p := by simpa using hp
        exact hb
      | succ k =>
        have := scanP_at r (i + 1) h k p (by simpa using hp)
        rw [show i + (k + 1) = i + 1 + k by omega]
        exact this
/-- The text of a phrase, behind those ahead (the empty one first). -/
def txtP (K : List (List UInt8)) (p : PhI) : List UInt8 := if p.last = true then K.getD p.of.toNat [] else K.getD p.of.toNat [] ++ [p.next]
def stepP (s : List (List UInt8) × List UInt8) (p : PhI) : List (List UInt8) × List UInt8 := (s.1 ++ [txtP s.1 p], s.2 ++ txtP s.1 p)
def runP (l : List PhI) (s : List (List UInt8) × List UInt8) : List UInt8 := (l.foldl stepP s).2
def phT (l : List PhI) : List UInt8 := runP l ([[]], [])
theorem runP_le : ∀ (l : List PhI) (s : List (List UInt8) × List UInt8), s.2.length ≤ (runP l s).length
  | [], s => Nat.le_refl _
  | p :: r, s => by
    have := runP_le r (stepP s p)
    have h2 : (stepP s p).2.length = s.2.length + (txtP s.1 p).length := by simp [stepP]
    show _ ≤ (runP r (stepP s p)).length
    omega
def phE (l : List PhI) : Nat × Int :=
  if 4000 < l.length then (2, -1) else
    match scanP l.length l 0 with
    | some i => (3, (i : Int))
    | none => if 4000 < (phT l).length then (2, -1) else (0, -1)
end Go.Proofs.YtiocbnjdmceadaaDoor
