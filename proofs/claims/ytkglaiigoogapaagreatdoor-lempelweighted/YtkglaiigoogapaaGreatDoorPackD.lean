/- Phrases: what both the program, byte by byte, and the document, by the longest text ahead, answer. -/
import Derived.Test.YtkglaiigoogapaaGreatDoorOwn
import Derived.Test.YtkglaiigoogapaaGreatDoorValidWalk
import Derived.Test.YtkglaiigoogapaaGreatDoorWeights
import Derived.Deep.AppendLies
import Derived.OwnWalk
import Derived.Maps.OwnOps
import Derived.Maps.Views
import Derived.DeepKeys4
import Derived.Test.YtkglaiigoogapaaGreatDoorCode
import Derived.Test.YtkglaiigoogapaaGreatDoorPackC
import Derived.Test.YtkglaiigoogapaaGreatDoorRows
import Derived.ChangeSame
import Derived.ChangeVars
import Derived.JoinedOf
import Derived.LaidLaws
import Derived.LaidHandle
import Derived.LaidMore
import Derived.Stop.Joined
import Derived.Lay
import Derived.Test.YtkglaiigoogapaaGreatDoorInts
import Derived.Test.YtkglaiigoogapaaGreatDoorCards
import Derived.Test.YtkglaiigoogapaaGreatDoorTie
import Derived.SevenTiedAt
import Derived.ProofKit
import Derived.OpenShut
import Derived.ChangeOld
import Derived.Lib.SmallJoins
import Derived.Deep.Matrix
namespace Go.Proofs.YtkglaiigoogapaaGreatDoor

/-- The number of a phrase, from 1 on; 0: there is none. -/
def numOf : List (Nat × UInt8) → Nat × UInt8 → Nat
  | [], _ => 0
  | p :: r, q => if p = q then 1 else if numOf r q = 0 then 0 else numOf r q + 1
theorem numOf_snoc (p q : Nat × UInt8) : ∀ D : List (Nat × UInt8), numOf (D ++ [p]) q = if numOf D q ≠ 0 then numOf D q else if p = q then D.length + 1 else 0
  | [] => by simp [numOf]
  | d :: r => by
    have ih := numOf_snoc p q r
    by_cases h : d = q
    · simp [numOf, h]
    · simp only [List.cons_append, numOf, if_neg h, ih]
      by_cases h0 : numOf r q = 0
      · by_cases h2 : p = q
        · simp [h0, h2]
        · simp [h0, h2]
      · simp [h0]
theorem numOf_le (q : Nat × UInt8) : ∀ D : List (Nat × UInt8), numOf D q ≤ D.length
  | [] => Nat.le_refl _
  | d :: r => by
    have ih := numOf_le q r
    unfold numOf
    split
    · simp
    · split
      · simp
      · simp; omega
theorem numOf_at (q : Nat × UInt8) : ∀ (D : List (Nat × UInt8)), numOf D q ≠ 0 → D[numOf D q - 1]? = some q
  | [], h => by simp [numOf] at h
  | d :: r, h => by
    have ih := numOf_at q r
    by_cases h1 : d = q
    · simp [numOf, h1]
    · by_cases h0 : numOf r q = 0
      · simp [numOf, h1, h0] at h
      · simp only [numOf, if_neg h1, if_neg h0, Nat.add_sub_cancel]
        obtain ⟨m, hm⟩ : ∃ m, numOf r q = m + 1 := ⟨numOf r q - 1, by omega⟩
        have := ih h0
        rw [hm] at this ⊢
        simpa using this
theorem numOf_mem (q : Nat × UInt8) : ∀ (D : List (Nat × UInt8)), q ∈ D → numOf D q ≠ 0
  | [], h => by simp at h
  | d :: r, h => by
    by_cases h1 : d = q
    · simp [numOf, h1]
    · have : q ∈ r := by
        rcases List.mem_cons.1 h with h | h
        · exact absurd h.symm h1
        · exact h
      have ih := numOf_mem q r this
      simp [numOf, h1, ih]

/-- A byte more. -/
def pzS (s : List (Nat × UInt8) × Nat) (c : UInt8) : List (Nat × UInt8) × Nat := if numOf s.1 (s.2, c) = 0 then (s.1 ++ [(s.2, c)], 0) else (s.1, numOf s.1 (s.2, c))
def pz (s : List (Nat × UInt8) × Nat) (l : List UInt8) : List (Nat × UInt8) × Nat := l.foldl pzS s
theorem pz_snoc (s : List (Nat × UInt8) × Nat) (l : List UInt8) (c : UInt8) : pz s (l ++ [c]) = pzS (pz s l) c := by simp [pz]
theorem pz_append (s : List (Nat × UInt8) × Nat) (a b : List UInt8) : pz s (a ++ b) = pz (pz s a) b := by simp [pz]
theorem pzS_new {s : List (Nat × UInt8) × Nat} {c : UInt8} (h : numOf s.1 (s.2, c) = 0) : pzS s c = (s.1 ++ [(s.2, c)], 0) := by unfold pzS; rw [if_pos h]
theorem pzS_old {s : List (Nat × UInt8) × Nat} {c : UInt8} (h : numOf s.1 (s.2, c) ≠ 0) : pzS s c = (s.1, numOf s.1 (s.2, c)) := by unfold pzS; rw [if_neg h]
theorem pz_le : ∀ (l : List UInt8) (s : List (Nat × UInt8) × Nat), s.2 ≤ s.1.length → (pz s l).2 ≤ (pz s l).1.length ∧ (pz s l).1.length ≤ s.1.length + l.length
  | [], s, h => ⟨h, Nat.le_refl _⟩
  | c :: r, s, h => by
    have e : pz s (c :: r) = pz (pzS s c) r := rfl
    rw [e]
    by_cases h0 : numOf s.1 (s.2, c) = 0
    · rw [pzS_new h0]
      obtain ⟨h1, h2⟩ := pz_le r (s.1 ++ [(s.2, c)], 0) (Nat.zero_le _)
      refine ⟨h1, ?_⟩
      simp at h2 ⊢; omega
    · rw [pzS_old h0]
      obtain ⟨h1, h2⟩ := pz_le r (s.1, numOf s.1 (s.2, c)) (numOf_le _ _)
      refine ⟨h1, ?_⟩
      simp at h2 ⊢; omega

/-- A phrase: of which one ahead, the byte behind it, whether it is the last. -/
structure Phr where
  of : Nat
  next : Nat
  last : Bool
def phrs (D : List (Nat × UInt8)) : List Phr := D.map fun p => ⟨p.1, p.2.toNat, false⟩
theorem phrs_snoc (D : List (Nat × UInt8)) (o : Nat) (c : UInt8) : phrs (D ++ [(o, c)]) = phrs D ++ [⟨o, c.toNat, false⟩] := by simp [phrs]
theorem phrs_length (D : List (Nat × UInt8)) : (phrs D).length = D.length := by simp [phrs]
def pzO (s : List (Nat × UInt8) × Nat) : List Phr := if s.2 = 0 then phrs s.1 else phrs s.1 ++ [⟨s.2, 0, true⟩]
def pzL (l : List UInt8) : List Phr := pzO (pz ([], 0) l)

/-- The text of a phrase by its number. -/
def txA (K : List (List UInt8)) (o : Nat) : List UInt8 := if o = 0 then [] else K.getD (o - 1) []
/-- Phrases and their texts. -/
structure Trie (D : List (Nat × UInt8)) (K : List (List UInt8)) : Prop where
  len : K.length = D.length
  of : ∀ (i o : Nat) (c : UInt8), D[i]? = some (o, c) → o ≤ i ∧ K[i]? = some (txA K o ++ [c])
  apart : ∀ (i j : Nat) (a : List UInt8), K[i]? = some a → K[j]? = some a → i = j
theorem Trie.nil : Trie [] [] := ⟨rfl, fun i o c h => by simp at h, fun i j a h => by simp at h⟩
theorem txA_succ (K : List (List UInt8)) (o : Nat) : txA K (o + 1) = K.getD o [] := by simp [txA]
theorem txA_some {K : List (List UInt8)} {o : Nat} (h0 : o ≠ 0) (h1 : o ≤ K.length) : K[o - 1]? = some (txA K o) := by
  rw [txA, if_neg h0, List.getD_eq_getElem?_getD, List.getElem?_eq_getElem (by omega)]; rfl
theorem Trie.ne {D : List (Nat × UInt8)} {K : List (List UInt8)} (h : Trie D K) {i : Nat} {a : List UInt8} (hi : K[i]? = some a) : ∃ o c, D[i]? = some (o, c) ∧ o ≤ i ∧ a = txA K o ++ [c] := by
  have hl : i < K.length := by
    rcases Nat.lt_or_ge i K.length with h' | h'
    · exact h'
    · rw [List.getElem?_eq_none h'] at hi; cases hi
  have hd : D[i]? = some (D[i]'(by rw [← h.len]; exact hl)) := List.getElem?_eq_getElem _
  obtain ⟨h1, h2⟩ := h.of i _ _ (show D[i]? = some ((D[i]'(by rw [← h.len]; exact hl)).1, (D[i]'(by rw [← h.len]; exact hl)).2) from hd)
  rw [hi] at h2
  exact ⟨_, _, hd, h1, Option.some.inj h2⟩
theorem Trie.inj {D : List (Nat × UInt8)} {K : List (List UInt8)} (h : Trie D K) {a b : Nat} (ha : a ≤ K.length) (hb : b ≤ K.length) (e : txA K a = txA K b) : a = b := by
  by_cases h0 : a = 0
  · by_cases h1 : b = 0
    · omega
    · obtain ⟨o, c, _, _, h2⟩ := h.ne (txA_some h1 hb)
      rw [← e, h0] at h2
      simp [txA] at h2
  · by_cases h1 : b = 0
    · obtain ⟨o, c, _, _, h2⟩ := h.ne (txA_some h0 ha)
      rw [e, h1] at h2
      simp [txA] at h2
    · have h2 := txA_some h1 hb
      rw [← e] at h2
      have := h.apart _ _ _ (txA_some h0 ha) h2
      omega
/-- There is a phrase with a byte more just if there is one with that text. -/
theorem Trie.step {D : List (Nat × UInt8)} {K : List (List UInt8)} (h : Trie D K) {o : Nat} {c : UInt8} (ho : o ≤ K.length) : (numOf D (o, c) = 0 ∧ ∀ i : Nat, K[i]? ≠ some (txA K o ++ [c])) ∨ (numOf D (o, c) ≠ 0 ∧ numOf D (o, c) ≤ K.length ∧ txA K (numOf D (o, c)) = txA K o ++ [c]) := by
  by_cases h0 : numOf D (o, c) = 0
  · refine Or.inl ⟨h0, fun i hi => ?_⟩
    obtain ⟨o', c', hd, hle, e⟩ := h.ne hi
    have hi2 : i < K.length := by
      rcases Nat.lt_or_ge i K.length with h' | h'
      · exact h'
      · rw [List.getElem?_eq_none h'] at hi; cases hi
    obtain ⟨e1, e2⟩ := List.append_inj' e rfl
    obtain rfl : o = o' := h.inj ho (by omega) e1
    obtain rfl : c = c' := by simpa using e2
    exact numOf_mem _ _ (List.mem_of_getElem? hd) h0
  · have hl := numOf_le (o, c) D
    have ha := numOf_at (o, c) D h0
    obtain ⟨_, h2⟩ := h.of _ _ _ ha
    refine Or.inr ⟨h0, by rw [h.len]; exact hl, ?_⟩
    have h3 := txA_some h0 (K := K) (by rw [h.len]; exact hl)
    rw [h2] at h3
    exact (Option.some.inj h3).symm
theorem txA_append {K : List (List UInt8)} {o : Nat} (a : List UInt8) (h : o ≤ K.length) : txA (K ++ [a]) o = txA K o := by
  by_cases h0 : o = 0
  · simp [txA, h0]
  · rw [txA, txA, if_neg h0, if_neg h0, List.getD_eq_getElem?_getD, List.getD_eq_getElem?_getD, List.getElem?_append_left (by omega)]
theorem Trie.push {D : List (Nat × UInt8)} {K : List (List UInt8)} (h : Trie D K) {o : Nat} {c : UInt8} (ho : o ≤ K.length) (h0 : numOf D (o, c) = 0) : Trie (D ++ [(o, c)]) (K ++ [txA K o ++ [c]]) := by
  have hno : ∀ i : Nat, K[i]? ≠ some (txA K o ++ [c]) := by
    rcases h.step (c := c) ho with ⟨_, h1⟩ | ⟨h1, _⟩
    · exact h1
    · exact absurd h0 h1
  have hlt : ∀ {i : Nat} {a : List UInt8}, K[i]? = some a → i < K.length := fun {i a} hi => by
    rcases Nat.lt_or_ge i K.length with h' | h'
    · exact h'
    · rw [List.getElem?_eq_none h'] at hi; cases hi
  have hcase : ∀ {i : Nat} {a : List UInt8}, (K ++ [txA K o ++ [c]])[i]? = some a → K[i]? = some a ∨ (i = K.length ∧ a = txA K o ++ [c]) := fun {i a} hi => by
    rcases Nat.lt_or_ge i K.length with h' | h'
    · rw [List.getElem?_append_left h'] at hi; exact Or.inl hi
    · rw [List.getElem?_append_right h'] at hi
      rcases Nat.eq_or_lt_of_le h' with e | e
      · refine Or.inr ⟨e.symm, ?_⟩
        rw [← e, Nat.sub_self] at hi
        simpa using hi.symm
      · rw [List.getElem?_eq_none (by simp; omega)] at hi; cases hi
  refine ⟨by simp [h.len], fun i o' c' hi => ?_, fun i j a hi hj => ?_⟩
  · rcases Nat.lt_or_ge i D.length with h' | h'
    · rw [List.getElem?_append_left h'] at hi
      obtain ⟨h1, h2⟩ := h.of i o' c' hi
      refine ⟨h1, ?_⟩
      rw [txA_append _ (by rw [h.len]; omega), List.getElem?_append_left (by rw [h.len]; exact h')]
      exact h2
    · rw [List.getElem?_append_right h'] at hi
      rcases Nat.eq_or_lt_of_le h' with e | e
      · rw [← e, Nat.sub_self] at hi
        obtain ⟨rfl, rfl⟩ : o = o' ∧ c = c' := by simpa using hi
        refine ⟨by rw [← e, ← h.len]; exact ho, ?_⟩
        rw [txA_append _ ho, ← e, ← h.len, List.getElem?_append_right (Nat.le_refl _), Nat.sub_self]; rfl
      · rw [List.getElem?_eq_none (by simp; omega)] at hi; cases hi
  · rcases hcase hi with h1 | ⟨h1, h2⟩
    · rcases hcase hj with h3 | ⟨h3, h4⟩
      · exact h.apart i j a h1 h3
      · exact absurd (h4 ▸ h1) (hno i)
    · rcases hcase hj with h3 | ⟨h3, h4⟩
      · exact absurd (h2 ▸ h3) (hno j)
      · omega

/-- What begins the text of a phrase is itself one's. -/
theorem Trie.closed {D : List (Nat × UInt8)} {K : List (List UInt8)} (h : Trie D K) : ∀ (n i : Nat) (a : List UInt8), i < n → K[i]? = some a → ∀ j, j ≤ a.length → ∃ o, o ≤ K.length ∧ txA K o = a.take j
  | 0, i, a, hn, _, _, _ => by omega
  | n + 1, i, a, hn, hi, j, hj => by
    have hl : i < K.length := by
      rcases Nat.lt_or_ge i K.length with h' | h'
      · exact h'
      · rw [List.getElem?_eq_none h'] at hi; cases hi
    obtain ⟨o, c, hd, hle, e⟩ := h.ne hi
    by_cases hja : j = a.length
    · refine ⟨i + 1, hl, ?_⟩
      rw [hja, List.take_length, txA_succ, List.getD_eq_getElem?_getD, hi]; rfl
    · have hj2 : j ≤ (txA K o).length := by rw [e] at hj hja; simp at hj hja; omega
      have ht : a.take j = (txA K o).take j := by rw [e, List.take_append_of_le_length hj2]
      by_cases h0 : o = 0
      · refine ⟨0, Nat.zero_le _, ?_⟩
        rw [ht, h0]; simp [txA]
      · obtain ⟨o2, h1, h2⟩ := h.closed n (o - 1) (txA K o) (by omega) (txA_some h0 (by omega)) j hj2
        exact ⟨o2, h1, by rw [h2, ht]⟩
/-- From the empty phrase along a text whose beginnings are all phrases'. -/
theorem Trie.walk {D : List (Nat × UInt8)} {K : List (List UInt8)} (h : Trie D K) (R : List UInt8) (best long : Nat) (hb : best ≤ K.length) (hR : long ≤ R.length) (ht : txA K best = R.take long) : pz (D, 0) (R.take long) = (D, best) := by
  have key : ∀ j, j ≤ long → ∃ n, n ≤ K.length ∧ txA K n = R.take j ∧ pz (D, 0) (R.take j) = (D, n) := by
    intro j
    induction j with
    | zero => intro _; exact ⟨0, Nat.zero_le _, by simp [txA], by simp [pz]⟩
    | succ j ih =>
      intro hj
      obtain ⟨n, h1, h2, h3⟩ := ih (by omega)
      have hlen : (txA K best).length = long := by rw [ht, List.length_take]; omega
      have hb0 : best ≠ 0 := by intro e; rw [e] at hlen; simp [txA] at hlen; omega
      obtain ⟨o, h4, h5⟩ := h.closed (best - 1 + 1) (best - 1) (txA K best) (by omega) (txA_some hb0 hb) (j + 1) (by omega)
      rw [ht, List.take_take, Nat.min_eq_left hj] at h5
      have hs : R.take (j + 1) = R.take j ++ [R[j]'(by omega)] := List.take_succ_eq_append_getElem (by omega)
      rw [hs] at h5
      have ho0 : o ≠ 0 := by
        intro e
        have h9 := congrArg List.length h5
        rw [e, List.length_append] at h9
        simp only [txA, if_true, List.length_nil, List.length_cons] at h9
        omega
      have hex := txA_some ho0 h4
      rw [h5, ← h2] at hex
      rcases h.step (c := R[j]'(by omega)) h1 with ⟨_, h6⟩ | ⟨h6, h7, h8⟩
      · exact absurd hex (h6 _)
      · refine ⟨_, h7, by rw [h8, h2, hs], ?_⟩
        rw [hs, pz_snoc, h3, pzS_old h6]
  obtain ⟨n, h1, h2, h3⟩ := key long (Nat.le_refl _)
  rw [h3, h.inj h1 hb (by rw [h2, ht])]
end Go.Proofs.YtkglaiigoogapaaGreatDoor

/- Copies of what stood ahead: what both the program and the document answer. -/
namespace Go.Proofs.YtkglaiigoogapaaGreatDoor

/-- How many bytes two texts begin with. -/
def cpL : List UInt8 → List UInt8 → Nat
  | x :: a, y :: b => if x = y then cpL a b + 1 else 0
  | _, _ => 0
theorem cpL_le : ∀ a b, cpL a b ≤ b.length
  | [], b => by simp [cpL]
  | x :: a, [] => by simp [cpL]
  | x :: a, y :: b => by
    have := cpL_le a b
    unfold cpL
    split
    · simp; omega
    · simp
theorem cpL_take : ∀ a b : List UInt8, (a.take (cpL a b)) = b.take (cpL a b)
  | [], b => by simp [cpL]
  | x :: a, [] => by simp [cpL]
  | x :: a, y :: b => by
    have := cpL_take a b
    unfold cpL
    split
    · next h => simp [h, this]
    · simp
theorem cpL_step (L : List UInt8) (f a n : Nat) (h1 : a + n < L.length) (h2 : f + n < L.length) : cpL (L.drop (f + n)) (L.drop (a + n)) = if L[f + n] = L[a + n] then cpL (L.drop (f + (n + 1))) (L.drop (a + (n + 1))) + 1 else 0 := by
  rw [List.drop_eq_getElem_cons h1, List.drop_eq_getElem_cons h2]
  rfl
theorem cpL_end (L : List UInt8) (f a n : Nat) (h1 : L.length ≤ a + n) : cpL (L.drop (f + n)) (L.drop (a + n)) = 0 := by
  rw [List.drop_eq_nil_of_le h1]
  cases L.drop (f + n) <;> rfl

/-- Of the first k places ahead the nearest of those that have most: how far back, and how much. -/
def bst (L : List UInt8) (at' : Nat) : Nat → Nat × Nat
  | 0 => (0, 0)
  | k + 1 => if (bst L at' k).2 < cpL (L.drop (at' - (k + 1))) (L.drop at') then (k + 1, cpL (L.drop (at' - (k + 1))) (L.drop at')) else bst L at' k
theorem bst_more {L : List UInt8} {p k : Nat} (h : (bst L p k).2 < cpL (L.drop (p - (k + 1))) (L.drop p)) : bst L p (k + 1) = (k + 1, cpL (L.drop (p - (k + 1))) (L.drop p)) := by
  show (if _ then _ else _) = _
  rw [if_pos h]
theorem bst_same {L : List UInt8} {p k : Nat} (h : ¬ (bst L p k).2 < cpL (L.drop (p - (k + 1))) (L.drop p)) : bst L p (k + 1) = bst L p k := by
  show (if _ then _ else _) = _
  rw [if_neg h]
theorem bst_le (L : List UInt8) (p : Nat) : ∀ k, (bst L p k).1 ≤ k ∧ (bst L p k).2 ≤ L.length - p
  | 0 => by simp [bst]
  | k + 1 => by
    have ih := bst_le L p k
    have hc := cpL_le (L.drop (p - (k + 1))) (L.drop p)
    rw [List.length_drop] at hc
    by_cases h : (bst L p k).2 < cpL (L.drop (p - (k + 1))) (L.drop p)
    · rw [bst_more h]; exact ⟨Nat.le_refl _, hc⟩
    · rw [bst_same h]; omega
theorem bst_zero (L : List UInt8) (p : Nat) : ∀ k, ((bst L p k).1 = 0 ↔ (bst L p k).2 = 0)
  | 0 => by simp [bst]
  | k + 1 => by
    have ih := bst_zero L p k
    by_cases h : (bst L p k).2 < cpL (L.drop (p - (k + 1))) (L.drop p)
    · rw [bst_more h]; simp; omega
    · rw [bst_same h]; exact ih
theorem bst_copy (L : List UInt8) (p : Nat) : ∀ k, (L.drop (p - (bst L p k).1)).take (bst L p k).2 = (L.drop p).take (bst L p k).2
  | 0 => by simp [bst]
  | k + 1 => by
    by_cases h : (bst L p k).2 < cpL (L.drop (p - (k + 1))) (L.drop p)
    · rw [bst_more h]; exact cpL_take _ _
    · rw [bst_same h]; exact bst_copy L p k

/-- A copy: how far back, how long, the byte behind it, whether it is the last. -/
structure Cpy where
  back : Nat
  len : Nat
  next : Nat
  last : Bool
/-- The copies of a text from a place on. -/
def slL (L : List UInt8) (w : Nat) : Nat → Nat → List Cpy
  | 0, _ => []
  | f + 1, p =>
    if p < L.length then
      (if p + (bst L p (min w p)).2 < L.length then ⟨(bst L p (min w p)).1, (bst L p (min w p)).2, (L.getD (p + (bst L p (min w p)).2) 0).toNat, false⟩ :: slL L w f (p + (bst L p (min w p)).2 + 1)
      else [⟨(bst L p (min w p)).1, (bst L p (min w p)).2, 0, true⟩])
    else []
theorem slL_end (L : List UInt8) (w f p : Nat) (h : L.length ≤ p) : slL L w f p = [] := by
  cases f with
  | zero => rfl
  | succ f => unfold slL; rw [if_neg (by omega)]
theorem slL_step (L : List UInt8) (w f p : Nat) (h : p < L.length) (h2 : p + (bst L p (min w p)).2 < L.length) : slL L w (f + 1) p = ⟨(bst L p (min w p)).1, (bst L p (min w p)).2, (L.getD (p + (bst L p (min w p)).2) 0).toNat, false⟩ :: slL L w f (p + (bst L p (min w p)).2 + 1) := by
  conv => lhs; unfold slL
  rw [if_pos h, if_pos h2]
theorem slL_last (L : List UInt8) (w f p : Nat) (h : p < L.length) (h2 : L.length ≤ p + (bst L p (min w p)).2) : slL L w (f + 1) p = [⟨(bst L p (min w p)).1, (bst L p (min w p)).2, 0, true⟩] := by
  conv => lhs; unfold slL
  rw [if_pos h, if_neg (by omega)]
end Go.Proofs.YtkglaiigoogapaaGreatDoor

/- The program's search of the longest copy. -/
namespace Go.Proofs.YtkglaiigoogapaaGreatDoor
open Go.RowKit

theorem ret_num {a b : Int} (h : a = b) : Ending.returned (.int .i64 a) = .returned (.int .i64 b) := by rw [h]
theorem byte_list (t : ByteArray) (k : Nat) (h : k < t.size) (h' : k < t.data.toList.length) : t.data.toList[k]'h' = t[k]'h := by simp; rfl
theorem size_lst (a : ByteArray) : a.data.toList.length = a.size := by rw [Array.length_toList]; rfl

theorem ext_list (T : ByteArray) (p : Nat) : (T.extract p T.size).data.toList = T.data.toList.drop p := by
  rw [ByteArray.data_extract, Array.toList_extract, List.extract_eq_take_drop, ← size_lst]
  exact List.take_of_length_le (by rw [List.length_drop]; exact Nat.le_refl _)
theorem ext_size (T : ByteArray) (p : Nat) : (T.extract p T.size).size = T.size - p := by rw [ByteArray.size_extract]; omega
/-- The box of a copy. -/
structure BoxC (w : World) (b : Nat) (r : Nat × Nat) : Prop where
  c0 : w.cell? ⟨b, 0, none⟩ = some (.int .i64 (r.1 : Int))
  c1 : w.cell? ⟨b, 1, none⟩ = some (.int .i64 (r.2 : Int))
  c2 : w.cell? ⟨b, 2, none⟩ = some (.int .u8 0)
  c3 : w.cell? ⟨b, 3, none⟩ = some (.bool false)
  fz : ∀ i, w.frozen? ⟨b, i, none⟩ = false

theorem four_cells {w : World} {b : Nat} {x0 x1 x2 x3 : Value} (v0 v1 v2 v3 : Value) (c0 : w.cell? ⟨b, 0, none⟩ = some x0) (c1 : w.cell? ⟨b, 1, none⟩ = some x1) (c2 : w.cell? ⟨b, 2, none⟩ = some x2) (c3 : w.cell? ⟨b, 3, none⟩ = some x3) :
    ((((w.setCell ⟨b, 0, none⟩ v0).setCell ⟨b, 1, none⟩ v1).setCell ⟨b, 2, none⟩ v2).setCell ⟨b, 3, none⟩ v3).cell? ⟨b, 0, none⟩ = some v0 ∧
    ((((w.setCell ⟨b, 0, none⟩ v0).setCell ⟨b, 1, none⟩ v1).setCell ⟨b, 2, none⟩ v2).setCell ⟨b, 3, none⟩ v3).cell? ⟨b, 1, none⟩ = some v1 ∧
    ((((w.setCell ⟨b, 0, none⟩ v0).setCell ⟨b, 1, none⟩ v1).setCell ⟨b, 2, none⟩ v2).setCell ⟨b, 3, none⟩ v3).cell? ⟨b, 2, none⟩ = some v2 ∧
    ((((w.setCell ⟨b, 0, none⟩ v0).setCell ⟨b, 1, none⟩ v1).setCell ⟨b, 2, none⟩ v2).setCell ⟨b, 3, none⟩ v3).cell? ⟨b, 3, none⟩ = some v3 := by
  refine ⟨?_, ?_, ?_, ?_⟩
  · rw [World.cell?_setCell_other _ _ _ _ (by simp), World.cell?_setCell_other _ _ _ _ (by simp), World.cell?_setCell_other _ _ _ _ (by simp)]
    exact World.cell?_setCell_same _ _ _ c0
  · rw [World.cell?_setCell_other _ _ _ _ (by simp), World.cell?_setCell_other _ _ _ _ (by simp)]
    exact World.cell?_setCell_same _ _ _ (by rw [World.cell?_setCell_other _ _ _ _ (by simp)]; exact c1)
  · rw [World.cell?_setCell_other _ _ _ _ (by simp)]
    exact World.cell?_setCell_same _ _ _ (by rw [World.cell?_setCell_other _ _ _ _ (by simp), World.cell?_setCell_other _ _ _ _ (by simp)]; exact c2)
  · exact World.cell?_setCell_same _ _ _ (by rw [World.cell?_setCell_other _ _ _ _ (by simp), World.cell?_setCell_other _ _ _ _ (by simp), World.cell?_setCell_other _ _ _ _ (by simp)]; exact c3)
theorem four_other {w : World} {b b' i : Nat} (v0 v1 v2 v3 : Value) (h : b' ≠ b) : ((((w.setCell ⟨b, 0, none⟩ v0).setCell ⟨b, 1, none⟩ v1).setCell ⟨b, 2, none⟩ v2).setCell ⟨b, 3, none⟩ v3).cell? ⟨b', i, none⟩ = w.cell? ⟨b', i, none⟩ := by
  rw [World.cell?_setCell_other _ _ _ _ (fun e => h (by cases e; rfl)), World.cell?_setCell_other _ _ _ _ (fun e => h (by cases e; rfl)), World.cell?_setCell_other _ _ _ _ (fun e => h (by cases e; rfl)), World.cell?_setCell_other _ _ _ _ (fun e => h (by cases e; rfl))]
theorem four_frozen {w : World} {b : Nat} {x : Addr} (v0 v1 v2 v3 : Value) : ((((w.setCell ⟨b, 0, none⟩ v0).setCell ⟨b, 1, none⟩ v1).setCell ⟨b, 2, none⟩ v2).setCell ⟨b, 3, none⟩ v3).frozen? x = w.frozen? x := by
  rw [World.frozen?_setCell, World.frozen?_setCell, World.frozen?_setCell, World.frozen?_setCell]
theorem four_below {w0 w : World} {b n : Nat} (v0 v1 v2 v3 : Value) (h : Below n w0 w) (hb : n ≤ b) : Below n w0 ((((w.setCell ⟨b, 0, none⟩ v0).setCell ⟨b, 1, none⟩ v1).setCell ⟨b, 2, none⟩ v2).setCell ⟨b, 3, none⟩ v3) :=
  (((h.setCell hb _).setCell hb _).setCell hb _).setCell hb _
theorem BoxC.set {w : World} {b : Nat} {r : Nat × Nat} (h : BoxC w b r) (x y : Nat) : BoxC ((((w.setCell ⟨b, 0, none⟩ (.int .i64 (x : Int))).setCell ⟨b, 1, none⟩ (.int .i64 (y : Int))).setCell ⟨b, 2, none⟩ (.int .u8 0)).setCell ⟨b, 3, none⟩ (.bool false)) b (x, y) := by
  obtain ⟨h0, h1, h2, h3⟩ := four_cells (.int .i64 (x : Int)) (.int .i64 (y : Int)) (.int .u8 0) (.bool false) h.c0 h.c1 h.c2 h.c3
  exact ⟨h0, h1, h2, h3, fun i => by rw [four_frozen]; exact h.fz i⟩
theorem BoxC.beside {w : World} {b b' : Nat} {r : Nat × Nat} (v0 v1 v2 v3 : Value) (h : BoxC w b r) (hne : b ≠ b') : BoxC ((((w.setCell ⟨b', 0, none⟩ v0).setCell ⟨b', 1, none⟩ v1).setCell ⟨b', 2, none⟩ v2).setCell ⟨b', 3, none⟩ v3) b r := by
  refine ⟨?_, ?_, ?_, ?_, fun i => by rw [four_frozen]; exact h.fz i⟩
  · rw [four_other _ _ _ _ hne]; exact h.c0
  · rw [four_other _ _ _ _ hne]; exact h.c1
  · rw [four_other _ _ _ _ hne]; exact h.c2
  · rw [four_other _ _ _ _ hne]; exact h.c3
theorem BoxC.drewN {w : World} {b : Nat} {r : Nat × Nat} (h : BoxC w b r) : ∀ m, BoxC (w.drewN m) b r
  | 0 => h
  | m + 1 => ⟨(h.drewN m).c0, (h.drewN m).c1, (h.drewN m).c2, (h.drewN m).c3, (h.drewN m).fz⟩
theorem BoxC.made (w : World) (t : TypeId) : BoxC (w.alloc (.cells #[.int .i64 0, .int .i64 0, .int .u8 0, .bool false] t)) w.heap.size (0, 0) :=
  ⟨by simp, by simp, by simp, by simp, fun i => World.frozen?_alloc_new w _ t i⟩
theorem BoxC.later {w w' : World} {b : Nat} {r : Nat × Nat} (h : BoxC w b r) (hb : Below w.heap.size w w') : BoxC w' b r := by
  have hl : b < w.heap.size := cell_lt h.c0
  refine ⟨?_, ?_, ?_, ?_, fun i => by rw [hb.frozen (p := ⟨b, i, none⟩) hl]; exact h.fz i⟩
  · rw [hb.cell (p := ⟨b, 0, none⟩) hl]; exact h.c0
  · rw [hb.cell (p := ⟨b, 1, none⟩) hl]; exact h.c1
  · rw [hb.cell (p := ⟨b, 2, none⟩) hl]; exact h.c2
  · rw [hb.cell (p := ⟨b, 3, none⟩) hl]; exact h.c3

end Go.Proofs.YtkglaiigoogapaaGreatDoor

/- Rows that a call itself makes: they last, and grow. -/
namespace Go.Proofs.YtkglaiigoogapaaGreatDoor
open Go.RowKit

theorem lzrow_later {w w' : World} {base : Nat} {t : TypeId} {sz : Nat} {v : Value} {n : Nat} {xs : List Value} (h : w.ownsRow base t sz v n xs) (hb : Below w.heap.size w w') : w'.ownsRow base t sz v n xs := by
  refine ⟨h.1, ?_⟩
  rcases h.2 with hn | ⟨g, cap, cur, hv, hg, hh, rest⟩
  · exact Or.inl hn
  · exact Or.inr ⟨g, cap, cur, hv, hg, (hb.block g (heap_lt hh)).trans hh, rest⟩
theorem lzrow_set {w : World} {base : Nat} {t : TypeId} {sz : Nat} {v : Value} {n : Nat} {xs : List Value} (h : w.ownsRow base t sz v n xs) (a : Addr) (x : Value) (hne : v.ownBlock ≠ some a.block) : (w.setCell a x).ownsRow base t sz v n xs := by
  refine ⟨h.1, ?_⟩
  rcases h.2 with hn | ⟨g, cap, cur, hv, hg, hh, rest⟩
  · exact Or.inl hn
  · refine Or.inr ⟨g, cap, cur, hv, hg, ?_, rest⟩
    rw [Below.heap_setCell _ _ _ _ (fun e => hne (by rw [hv, ← e]; rfl))]
    exact hh
theorem lz_push {B : Nat} {w0 wr w3 : World} {v : Value} {e : TypeId} {size n : Nat} {xs : List Value} (hB : Below B w0 wr) (hle : B ≤ wr.heap.size) (hR : wr.ownsRow B e size v n xs) (hg : wr.grownBy w3 v.ownBlock) : Below B w0 w3 :=
  hB.trans ((Below.refl _ _).grown hg hle (fun k e => (hR.lt k e).1))
theorem lzrow_form {w : World} {base : Nat} {t : TypeId} {sz : Nat} {v : Value} {n : Nat} {xs : List Value} (h : w.ownsRow base t sz v n xs) : ∃ ad cap, v = .slice ad n cap := by
  rcases h.2 with ⟨rfl, rfl⟩ | ⟨g, cap, cur, rfl, _⟩
  · exact ⟨_, _, rfl⟩
  · exact ⟨_, _, rfl⟩
theorem four_new (w : World) (x0 x1 x2 x3 : Value) (t : TypeId) (j : Nat) (u : Value) (h : [x0, x1, x2, x3][j]? = some u) : (w.alloc (.cells #[x0, x1, x2, x3] t)).cell? ((⟨w.heap.size, 0, none⟩ : Addr).add j) = some u := by
  rw [add_plain, World.cell?_alloc_at _ _ _ _ rfl, Nat.zero_add]
  rcases j with _ | _ | _ | _ | j
  · simpa using h
  · simpa using h
  · simpa using h
  · simpa using h
  · simp at h

/-- The cells of copies. -/
def cpyC (c : Cpy) : List Value := [.int .i64 (c.back : Int), .int .i64 (c.len : Int), .int .u8 (c.next : Int), .bool c.last]
def cpysC : List Cpy → List Value
  | [] => []
  | c :: r => cpyC c ++ cpysC r
theorem cpysC_append : ∀ a b, cpysC (a ++ b) = cpysC a ++ cpysC b
  | [], b => rfl
  | c :: a, b => by simp [cpysC, cpysC_append a b]
theorem cpysC_snoc (a : List Cpy) (c : Cpy) : cpysC (a ++ [c]) = cpysC a ++ [.int .i64 (c.back : Int), .int .i64 (c.len : Int), .int .u8 (c.next : Int), .bool c.last] := by
  rw [cpysC_append]; rfl
theorem cpysC_length : ∀ l, (cpysC l).length = l.length * 4
  | [] => rfl
  | c :: r => by simp [cpysC, cpyC, cpysC_length r]; omega
/-- Copies in memory, of whichever of the two types. -/
def CpyAt (w : World) (v : Value) (l : List Cpy) : Prop := ∃ ad cap, v = .slice ad l.length cap ∧ ∀ i c, l[i]? = some c → ∃ b o, ad = some ⟨b, o, none⟩ ∧ w.cell? ⟨b, o + i * 4, none⟩ = some (.int .i64 (c.back : Int)) ∧ w.cell? ⟨b, o + i * 4 + 1, none⟩ = some (.int .i64 (c.len : Int)) ∧ w.cell? ⟨b, o + i * 4 + 2, none⟩ = some (.int .u8 (c.next : Int)) ∧ w.cell? ⟨b, o + i * 4 + 3, none⟩ = some (.bool c.last)
theorem cpysC_at : ∀ (l : List Cpy) (i : Nat) (c : Cpy), l[i]? = some c → (cpysC l)[i * 4]? = some (.int .i64 (c.back : Int)) ∧ (cpysC l)[i * 4 + 1]? = some (.int .i64 (c.len : Int)) ∧ (cpysC l)[i * 4 + 2]? = some (.int .u8 (c.next : Int)) ∧ (cpysC l)[i * 4 + 3]? = some (.bool c.last)
  | [], i, c, h => by simp at h
  | d :: r, 0, c, h => by
    obtain rfl : d = c := by simpa using h
    exact ⟨rfl, rfl, rfl, rfl⟩
  | d :: r, i + 1, c, h => by
    obtain ⟨h0, h1, h2, h3⟩ := cpysC_at r i c (by simpa using h)
    have e : ∀ k, (cpysC (d :: r))[(i + 1) * 4 + k]? = (cpysC r)[i * 4 + k]? := fun k => by
      show (cpyC d ++ cpysC r)[(i + 1) * 4 + k]? = _
      rw [List.getElem?_append_right (by show 4 ≤ _; omega)]
      congr 1
      show (i + 1) * 4 + k - 4 = _
      omega
    exact ⟨by have := e 0; simp only [Nat.add_zero] at this; rw [this]; exact h0, by rw [e 1]; exact h1, by rw [e 2]; exact h2, by rw [e 3]; exact h3⟩
theorem cpyAt_row {w : World} {base : Nat} {t : TypeId} {v : Value} {l : List Cpy} (h : w.ownsRow base t 4 v l.length (cpysC l)) : CpyAt w v l := by
  rcases h.2 with ⟨rfl, hn⟩ | ⟨g, cap, cur, rfl, _⟩
  · obtain rfl : l = [] := List.eq_nil_of_length_eq_zero hn
    exact ⟨_, _, rfl, fun i c hc => by simp at hc⟩
  · refine ⟨_, _, rfl, fun i c hc => ⟨g, 0, rfl, ?_⟩⟩
    have hi : i < l.length := by
      rcases Nat.lt_or_ge i l.length with h' | h'
      · exact h'
      · rw [List.getElem?_eq_none h'] at hc; cases hc
    obtain ⟨h0, h1, h2, h3⟩ := cpysC_at l i c hc
    have e : ∀ j, j < l.length * 4 → w.cell? ⟨g, j, none⟩ = (cpysC l)[j]? := fun j hj => h.cellAt j hj
    rw [Nat.zero_add]
    refine ⟨?_, ?_, ?_, ?_⟩
    · rw [e _ (by omega)]; exact h0
    · rw [e _ (by omega)]; exact h1
    · rw [e _ (by omega)]; exact h2
    · rw [e _ (by omega)]; exact h3
theorem CpyAt.later {w w' : World} {v : Value} {l : List Cpy} (h : CpyAt w v l) (hb : Below w.heap.size w w') : CpyAt w' v l := by
  obtain ⟨ad, cap, hv, hc⟩ := h
  refine ⟨ad, cap, hv, fun i c hi => ?_⟩
  obtain ⟨b, o, ha, h0, h1, h2, h3⟩ := hc i c hi
  refine ⟨b, o, ha, ?_, ?_, ?_, ?_⟩
  · rw [hb.cell (cell_lt h0)]; exact h0
  · rw [hb.cell (cell_lt h1)]; exact h1
  · rw [hb.cell (cell_lt h2)]; exact h2
  · rw [hb.cell (cell_lt h3)]; exact h3
end Go.Proofs.YtkglaiigoogapaaGreatDoor

/- The program's Parse: phrases in a map. -/
namespace Go.Proofs.YtkglaiigoogapaaGreatDoor
open Go.RowKit Go.Maps

theorem Tryz.zeroPz (w : World) : (zeroValue 3).run Tryz.prog w = .ok (.int .i64 0) w := by kernel_rfl
theorem Tryz.widePhr : (match Tryz.prog.underlying 52 with | some (.array _ _) | some (.struct _) => true | _ => false) = true := by rw [Tryz.underlying52]
theorem Tryz.rowPhr : (52 : TypeId) < Tryz.prog.types.size := of_decide_eq_true (by kernel_rfl)
theorem Tryz.cellsPhr : Tryz.prog.cellsOf 52 = 3 := by kernel_rfl
theorem Tryz.laidPz : laidOutB Tryz.prog = true := by kernel_rfl
set_option maxRecDepth 100000 in
theorem Tryz.lawPhr : Keyed Tryz.prog 52 := Keyed.of_law (deep_law_laid Tryz.laidPz (m := 2) (by omega) Tryz.rowPhr (by kernel_rfl) Tryz.widePhr)
theorem Tryz.infoPhr : (Tryz.prog.info? 52).map (fun i => (i.zero, i.size, i.bytes)) = some (some (.agg #[.int .i64 0, .int .u8 0, .bool false]), 3, 16) := by kernel_rfl

/-- A phrase as a key. -/
def phrV (o : Nat) (c : UInt8) : Value := .agg #[.int .i64 (o : Int), .int .u8 (c.toNat : Int), .bool false]
def phrK (o : Nat) (c : UInt8) : Lit := .string (keyBytes [.int .i64 (o : Int), .int .u8 (c.toNat : Int), .bool false])
theorem wf_i64 (o : Nat) (h : o ≤ 1000000) : (Lit.int .i64 (o : Int)).wf = true := by
  have h1 : IntKind.i64.min = -9223372036854775808 := by decide
  have h2 : IntKind.i64.max = 9223372036854775807 := by decide
  simp only [Lit.wf, h1, h2, Bool.and_eq_true, decide_eq_true_eq]
  omega
theorem wf_u8 (c : UInt8) : (Lit.int .u8 (c.toNat : Int)).wf = true := by
  have h0 := c.toNat_lt
  have h1 : IntKind.u8.min = 0 := by decide
  have h2 : IntKind.u8.max = 255 := by decide
  simp only [Lit.wf, h1, h2, Bool.and_eq_true, decide_eq_true_eq]
  omega
theorem phrK_is (o : Nat) (c : UInt8) (h : o ≤ 1000000) : keyOf Tryz.prog 52 (phrV o c) = some (phrK o c) := by
  have hk : Tryz.prog.keyType 52 = true := by kernel_rfl
  have hf : (phrV o c).formed Tryz.prog 52 = true := by simp [phrV, Value.formed, Tryz.underlying52, Tryz.cellsPhr]
  have hs : Tryz.prog.keyLits (Tryz.prog.types.size + 1) 52 (phrV o c).cells.toList = some [.int .i64 (o : Int), .int .u8 (c.toNat : Int), .bool false] := by
    obtain ⟨m, hm⟩ : ∃ m, Tryz.prog.types.size = m + 1 := ⟨208 - 1, by kernel_rfl⟩
    have e0 : Tryz.prog.cellsOf 3 = 1 := by kernel_rfl
    have e1 : Tryz.prog.cellsOf 5 = 1 := by kernel_rfl
    have e2 : Tryz.prog.cellsOf 4 = 1 := by kernel_rfl
    rw [hm]
    simp [Program.keyLits, phrV, Value.cells, Tryz.underlying52, Tryz.underlying3, Tryz.underlying5, Tryz.underlying4, Tryz.cellsPhr, e0, e1, e2, wf_i64 o h, wf_u8 c]
  unfold keyOf
  rw [Tryz.underlying52]
  show (if _ then _ else _) = _
  rw [if_pos (by rw [hk, hf]; rfl), hs]
  rfl
theorem phrK_inj {o o' : Nat} {c c' : UInt8} (h : o ≤ 1000000) (h' : o' ≤ 1000000) (e : phrK o c = phrK o' c') : o = o' ∧ c = c' := by
  have h1 := phrK_is o c h
  have h2 := phrK_is o' c' h'
  rw [← e] at h2
  have := Tryz.lawPhr.inj h1 h2
  simp only [phrV, Value.agg.injEq, Array.mk.injEq, List.cons.injEq, Value.int.injEq, and_true, true_and] at this
  exact ⟨by omega, UInt8.toNat_inj.1 (by omega)⟩

/-- The cells of phrases. -/
def phrC (p : Phr) : List Value := [.int .i64 (p.of : Int), .int .u8 (p.next : Int), .bool p.last]
def phrsC : List Phr → List Value
  | [] => []
  | c :: r => phrC c ++ phrsC r
theorem phrsC_append : ∀ a b, phrsC (a ++ b) = phrsC a ++ phrsC b
  | [], b => rfl
  | c :: a, b => by simp [phrsC, phrsC_append a b]
theorem phrsC_snoc (a : List Phr) (c : Phr) : phrsC (a ++ [c]) = phrsC a ++ [.int .i64 (c.of : Int), .int .u8 (c.next : Int), .bool c.last] := by
  rw [phrsC_append]; rfl
theorem three_new (w : World) (x0 x1 x2 : Value) (t : TypeId) (j : Nat) (u : Value) (h : [x0, x1, x2][j]? = some u) : (w.alloc (.cells #[x0, x1, x2] t)).cell? ((⟨w.heap.size, 0, none⟩ : Addr).add j) = some u := by
  rw [add_plain, World.cell?_alloc_at _ _ _ _ rfl, Nat.zero_add]
  rcases j with _ | _ | _ | j
  · simpa using h
  · simpa using h
  · simpa using h
  · simp at h
theorem cell_grown {w w' : World} {row : Option Nat} {B o : Nat} {v : Value} (hg : w.grownBy w' row) (hc : w.cell? ⟨B, o, none⟩ = some v) (hne : some B ≠ row) : w'.cell? ⟨B, o, none⟩ = some v := by
  have hlt := cell_lt hc
  have := World.cell?_of_block (a := ⟨B, o, none⟩) (w := w) (hg.block B hlt hne)
  rw [this]; exact hc
theorem atPz {D : DataW Unit} {n : Nat} {kl : Lit} {x : Int} (h : D.atKey kl (.lit (.int .i64 0)) = .lit (.int .i64 (n : Int))) (hat : D.atKey kl (.lit (.int .i64 0)) = .lit (.int .i64 x)) : x = (n : Int) := by
  rw [h] at hat
  simpa using hat.symm

/-- What Parse finds in memory. -/
structure InPz (w wr : World) (sv : Value) (D : List (Nat × UInt8)) (M : DataW Unit) : Prop where
  row : wr.ownsRow (w.heap.size + 1) 52 3 sv D.length (phrsC (phrs D))
  own : wr.ownsMap Tryz.prog 52 (plainElem (H := Unit) Tryz.prog 3) w.heap.size D.length M
  at' : ∀ o c, o ≤ 1000000 → M.atKey (phrK o c) (.lit (.int .i64 0)) = .lit (.int .i64 (numOf D (o, c) : Nat))
  isM : IsMap M
  below : Below w.heap.size w wr

theorem InPz.push {w w3 w4 : World} {sv' : Value} {D : List (Nat × UInt8)} {M : DataW Unit} {o : Nat} {c : UInt8} (hrow : w3.ownsRow (w.heap.size + 1) 52 3 sv' (D.length + 1) (phrsC (phrs D) ++ [.int .i64 (o : Int), .int .u8 (c.toNat : Int), .bool false])) (hb3 : Below w.heap.size w w3) (hM : IsMap M)
    (hat : ∀ o c, o ≤ 1000000 → M.atKey (phrK o c) (.lit (.int .i64 0)) = .lit (.int .i64 (numOf D (o, c) : Nat))) (ho4 : w4.ownsMap Tryz.prog 52 (plainElem (H := Unit) Tryz.prog 3) w.heap.size (D.length + 1) (M.put (phrK o c) (.lit (.int .i64 ((D.length : Int) + 1)))))
    (hg4 : w3.grownBy w4 (some w.heap.size)) (hn : numOf D (o, c) = 0) (ho : o ≤ 1000000) : InPz w w4 sv' (D ++ [(o, c)]) (M.put (phrK o c) (.lit (.int .i64 ((D.length : Int) + 1)))) := by
  have hne : sv'.ownBlock = none ∨ sv'.ownBlock ≠ some w.heap.size := Or.inr fun e => by have := (hrow.lt _ e).1; omega
  refine ⟨?_, by rw [List.length_append]; exact ho4, fun o' c' h' => ?_, hM.put _ _, hb3.trans ((Below.refl _ _).grown hg4 hb3.size (fun k e => by simp at e; omega))⟩
  · rw [phrs_snoc, phrsC_snoc, List.length_append]
    exact hrow.kept hg4 hne
  · rw [numOf_snoc]
    by_cases he : (o, c) = (o', c')
    · simp only [Prod.mk.injEq] at he
      obtain ⟨rfl, rfl⟩ := he
      rw [atKey_put_same hM (show WideAt.IsKeyLit (phrK o c) from trivial), hn]
      simp
    · rw [atKey_put_other (fun e => he (by obtain ⟨h1, h2⟩ := phrK_inj h' ho e; rw [h1, h2])), hat o' c' h', if_neg he]
      by_cases h0 : numOf D (o', c') = 0
      · simp [h0]
      · simp [h0]

set_option maxRecDepth 100000 in
set_option maxHeartbeats 2000000 in
theorem Parse_ok (T : ByteArray) (w : World) (hs : T.size ≤ 4000) :
    Calls Tryz.prog 17 #[.string T] w fun e w' => ∃ v, e = .returned (.tuple #[v, .nilIface]) ∧ w'.ownsRow (w.heap.size + 1) 52 3 v (pzL T.data.toList).length (phrsC (pzL T.data.toList)) ∧ Below w.heap.size w w' := by
  obtain ⟨i, hi, hi2⟩ := Option.map_eq_some_iff.1 Tryz.infoPhr
  obtain ⟨hz, hsz, hby⟩ : i.zero = some (.agg #[.int .i64 0, .int .u8 0, .bool false]) ∧ i.size = 3 ∧ i.bytes = 16 := by simpa using hi2
  have HINF := Hid.mk' (And.intro hi (And.intro hz (And.intro hsz hby)))
  clear hi hi2 hz hsz hby
  have HLL : Hid (T.data.toList.length = T.size) := size_lst T
  have hsI : ¬ (4000 : Int) < (T.size : Int) := by omega
  have hmm := @run_makeMap Tryz.prog
  go_enter Tryz.func17, Tryz.ntmps17
  go_wp2_with fail
  go_loopw [5, 6, 16] (fun s x t wr => ∃ (k o : Nat) (D : List (Nat × UInt8)) (M : DataW Unit), t = .int .i64 (k : Int) ∧ x = .int .i64 (o : Int) ∧ k ≤ T.size ∧ D.length ≤ k ∧ o ≤ D.length ∧ Hid (InPz w wr s D M) ∧ Hid (pz ([], 0) (T.data.toList.take k) = (D, o))) (fun _ _ t _ => T.size - (intOf t).toNat)
  case atStart => exact ⟨0, 0, [], .map [], rfl, rfl, Nat.zero_le _, Nat.le_refl _, Nat.le_refl _, ⟨World.ownsRow_nil _ _ _ _, World.ownsMap_made _ _ _ _, fun o c _ => rfl, isMap_empty, (Below.refl _ _).alloc (Nat.le_refl _) _⟩, by show _ = _; simp [pz]⟩
  case round =>
    obtain ⟨k, o, D, M, rfl, rfl, hk, hD, ho, HI, HP⟩ := hrel
    rcases Nat.lt_or_ge k T.size with h1 | h1
    · have hkI : (k : Int) < (T.size : Int) := by omega
      have hle := HI.out.below.size
      obtain ⟨c, hc⟩ : ∃ c, c = T[k]'h1 := ⟨_, rfl⟩
      have HTK : Hid (pz ([], 0) (T.data.toList.take (k + 1)) = pzS (D, o) c) := by
        show _ = _
        rw [List.take_succ_eq_append_getElem (by rw [HLL.out]; exact h1), pz_snoc, HP.out, byte_list T k h1 (by rw [HLL.out]; exact h1), hc]
      have hcI : ((T[k]'h1).toNat : Int) = (c.toNat : Int) := by rw [hc]
      clear hc
      have HKEY := Hid.mk' (phrK_is o c (by omega))
      have HAT := Hid.mk' (HI.out.at' o c (by omega))
      have hnl := numOf_le (o, c) D
      have HOW := Hid.mk' (HI.out.own.alloc (.cells #[.int .i64 (o : Int), .int .u8 (c.toNat : Int), .bool false] 52))
      have hml : Hid (w.heap.size < wr.heap.size) := HI.out.own.lt
      by_cases hn : numOf D (o, c) = 0
      · have HTK := Hid.mk' (HTK.out.trans (pzS_new hn))
        rw [hn] at HAT
        have HRR := Hid.mk' ((HI.out.row.alloc (.cells #[.int .i64 (o : Int), .int .u8 (c.toNat : Int), .bool false] 52)).alloc (.cells #[.int .i64 (o : Int), .int .u8 (c.toNat : Int), .bool false] 52))
        have HNE : Hid (some wr.heap.size ≠ u5.ownBlock) := fun e => by have := (HI.out.row.lt _ e.symm).2; omega
        have HNM : Hid (some w.heap.size ≠ u5.ownBlock) := fun e => by have := (HI.out.row.lt _ e.symm).1; omega
        have HC3 : Hid (((wr.alloc (.cells #[.int .i64 (o : Int), .int .u8 (c.toNat : Int), .bool false] 52)).alloc (.cells #[.int .i64 (o : Int), .int .u8 (c.toNat : Int), .bool false] 52)).cell? ⟨wr.heap.size, 0, none⟩ = some (.int .i64 (o : Int)) ∧ ((wr.alloc (.cells #[.int .i64 (o : Int), .int .u8 (c.toNat : Int), .bool false] 52)).alloc (.cells #[.int .i64 (o : Int), .int .u8 (c.toNat : Int), .bool false] 52)).cell? ⟨wr.heap.size, 1, none⟩ = some (.int .u8 (c.toNat : Int)) ∧ ((wr.alloc (.cells #[.int .i64 (o : Int), .int .u8 (c.toNat : Int), .bool false] 52)).alloc (.cells #[.int .i64 (o : Int), .int .u8 (c.toNat : Int), .bool false] 52)).cell? ⟨wr.heap.size, 2, none⟩ = some (.bool false)) := by
          refine ⟨?_, ?_, ?_⟩ <;> (rw [World.cell?_alloc_lt _ _ _ (by simp), World.cell?_alloc_at _ _ _ _ rfl]; rfl)
        have HN0 : Hid (∀ j u, [Value.int .i64 (o : Int), .int .u8 (c.toNat : Int), .bool false][j]? = some u → ((wr.alloc (.cells #[.int .i64 (o : Int), .int .u8 (c.toNat : Int), .bool false] 52)).alloc (.cells #[.int .i64 (o : Int), .int .u8 (c.toNat : Int), .bool false] 52)).cell? ((⟨wr.heap.size + 1, 0, none⟩ : Addr).add j) = some u) := fun j u hu => by
          have := three_new (wr.alloc (.cells #[.int .i64 (o : Int), .int .u8 (c.toNat : Int), .bool false] 52)) (.int .i64 (o : Int)) (.int .u8 (c.toNat : Int)) (.bool false) 52 j u hu
          simpa using this
        have HBB : Hid (Below w.heap.size w ((wr.alloc (.cells #[.int .i64 (o : Int), .int .u8 (c.toNat : Int), .bool false] 52)).alloc (.cells #[.int .i64 (o : Int), .int .u8 (c.toNat : Int), .bool false] 52))) := (HI.out.below.alloc hle _).alloc (by simp; omega) _
        have HWF : Hid ((Lit.int .i64 ((D.length : Int) + 1)).wf = true) := by show _ = _; have := wf_i64 (D.length + 1) (by omega); simpa using this
        go_wp2_with (first
          | (at_lookup; go_must (refine wpList_lookup_own_int _ rfl _ _ 77 rfl 52 3 .i64 Tryz.lawPhr Tryz.underlying77 Tryz.underlying3 (Tryz.zeroPz _) w.heap.size _ _ rfl HOW.out _ _ rfl HKEY.out ?_; intro x hat hwc; have hcc := atPz HAT.out hat; clear hat hwc; subst hcc))
          | (at_mapUpdate; go_must (refine wpList_mapUpdate_own _ rfl _ _ _ 77 rfl 52 3 Tryz.lawPhr Tryz.underlying77 _ w.heap.size _ _ rfl HM3.out (by unfold maxLen; omega) _ _ _ rfl rfl HKEY.out _ [] (plainElem_int Tryz.underlying3 HWF.out) ?_; intro w4 hown4 hgrow4; have HO4 := Hid.mk' hown4; have HG4 := Hid.mk' hgrow4; clear hown4 hgrow4))
          | (at_builtin; go_must (refine wpList_append_lies _ rfl _ _ _ rfl (w.heap.size + 1) 52 i _ 3 16 Tryz.underlying48 HINF.out.1 HINF.out.2.1 HINF.out.2.2.1 HINF.out.2.2.2 rfl (by omega) u5 D.length (phrsC (phrs D)) rfl HRR.out ⟨wr.heap.size + 1, 0, none⟩ 1 1 [.int .i64 (o : Int), .int .u8 (c.toNat : Int), .bool false] rfl rfl HN0.out (by simp [Value.oneCell']) (by omega) (by unfold maxLen; omega) (by omega) (by have := hml.out; simp; omega) _ rfl ?_; intro g' cap' w3 hown3 hgrow3 hat3 hlt3; have b0 := cell_grown hgrow3 HC3.out.1 HNE.out; have b1 := cell_grown hgrow3 HC3.out.2.1 HNE.out; have b2 := cell_grown hgrow3 HC3.out.2.2 HNE.out; have HM3 := Hid.mk' ((HOW.out.alloc (.cells #[.int .i64 (o : Int), .int .u8 (c.toNat : Int), .bool false] 52)).kept hgrow3 HNM.out); have HW3 := Hid.mk' hown3; have HB3 := Hid.mk' (HBB.out.trans ((Below.refl _ _).grown hgrow3 (by simp; omega) (fun k e => by have := (HRR.out.lt k e).1; omega))); clear hown3 hgrow3 hat3)))
        exact ⟨⟨k + 1, 0, D ++ [(o, c)], _, by go_num, rfl, h1, by simp; omega, Nat.zero_le _, InPz.push HW3.out HB3.out HI.out.isM HI.out.at' HO4.out HG4.out hn (by omega), HTK⟩, by simp [intOf]; omega⟩
      · have HTK := Hid.mk' (HTK.out.trans (pzS_old hn))
        generalize hnn : numOf D (o, c) = n at *
        have hnb : ((n : Int) == 0) = false := by rw [beq_eq_false_iff_ne]; omega
        clear hnn
        go_wp2_with (at_lookup; go_must (refine wpList_lookup_own_int _ rfl _ _ 77 rfl 52 3 .i64 Tryz.lawPhr Tryz.underlying77 Tryz.underlying3 (Tryz.zeroPz _) w.heap.size _ _ rfl HOW.out _ _ rfl HKEY.out ?_; intro x hat hwc; have hcc := atPz HAT.out hat; clear hat hwc; subst hcc))
        exact ⟨⟨k + 1, n, D, M, by go_num, rfl, h1, by omega, hnl, ⟨HI.out.row.alloc _, HOW.out, HI.out.at', HI.out.isM, HI.out.below.alloc hle _⟩, HTK⟩, by simp [intOf]; omega⟩
    · obtain rfl : k = T.size := by omega
      have hle := HI.out.below.size
      have hkI : ¬ (T.size : Int) < (T.size : Int) := by omega
      have HE : Hid (pzL T.data.toList = pzO (D, o)) := by
        show pzO _ = _
        have := HP.out
        rw [List.take_of_length_le (by rw [HLL.out]; exact Nat.le_refl _)] at this
        rw [this]
      by_cases h0 : o = 0
      · have HE2 : Hid (pzL T.data.toList = phrs D) := by show _ = _; rw [HE.out, pzO, if_pos h0]
        subst h0
        go_wp2_with fail
        go_ret2
        exact ⟨_, rfl, by rw [HE2.out, phrs_length]; exact HI.out.row, HI.out.below⟩
      · have HE2 : Hid (pzL T.data.toList = phrs D ++ [⟨o, 0, true⟩]) := by show _ = _; rw [HE.out, pzO, if_neg h0]
        have h0I : (0 : Int) < (o : Int) := by omega
        have HRR := Hid.mk' (HI.out.row.alloc (.cells #[.int .i64 (o : Int), .int .u8 0, .bool true] 52))
        have hml : Hid (w.heap.size < wr.heap.size) := HI.out.own.lt
        have HN0 : Hid (∀ j u, [Value.int .i64 (o : Int), .int .u8 0, .bool true][j]? = some u → (wr.alloc (.cells #[.int .i64 (o : Int), .int .u8 0, .bool true] 52)).cell? ((⟨wr.heap.size, 0, none⟩ : Addr).add j) = some u) := fun j u hu => three_new wr (.int .i64 (o : Int)) (.int .u8 0) (.bool true) 52 j u hu
        have HBB : Hid (Below w.heap.size w (wr.alloc (.cells #[.int .i64 (o : Int), .int .u8 0, .bool true] 52))) := HI.out.below.alloc hle _
        go_wp2_with (at_builtin; go_must (refine wpList_append_lies _ rfl _ _ _ rfl (w.heap.size + 1) 52 i _ 3 16 Tryz.underlying48 HINF.out.1 HINF.out.2.1 HINF.out.2.2.1 HINF.out.2.2.2 rfl (by omega) u5 D.length (phrsC (phrs D)) rfl HRR.out ⟨wr.heap.size, 0, none⟩ 1 1 [.int .i64 (o : Int), .int .u8 0, .bool true] rfl rfl HN0.out (by simp [Value.oneCell']) (by omega) (by unfold maxLen; omega) (by omega) (by have := hml.out; simp; omega) _ rfl ?_; intro g' cap' w3 hown3 hgrow3 hat3 hlt3; have HW3 := Hid.mk' hown3; have HB3 := Hid.mk' (HBB.out.trans ((Below.refl _ _).grown hgrow3 (by simp; omega) (fun k e => by have := (HRR.out.lt k e).1; omega))); clear hown3 hgrow3 hat3))
        go_ret2
        exact ⟨_, rfl, by rw [HE2.out, phrsC_snoc, List.length_append, phrs_length]; exact HW3.out, HB3.out⟩
end Go.Proofs.YtkglaiigoogapaaGreatDoor

/- The closed fact at the head of chapter 6's laws: the phrases of aab. -/
namespace Go.Proofs.YtkglaiigoogapaaGreatDoor
open Go.RowKit

theorem ab_phr : pzL [97, 97, 98] = [⟨0, 97, false⟩, ⟨1, 98, false⟩] := by rfl
set_option maxRecDepth 100000 in
set_option maxHeartbeats 1000000 in
theorem abab_any (w : World) : Calls Tryz.prog 5 #[] w fun e w' => e = .returned (.bool true) ∧ Below w.heap.size w w' := by
  have hP := Parse_ok ⟨#[97, 97, 98]⟩ w (by decide)
  have e : (ByteArray.mk #[97, 97, 98]).data.toList = [97, 97, 98] := rfl
  rw [e, ab_phr] at hP
  clear e
  go_enter Tryz.func5, Tryz.ntmps5
  go_wp2_with fail
  refine hP.mono ?_
  clear hP
  rintro e w1 ⟨v, rfl, hr, hb⟩
  obtain ⟨ad, cap, rfl, g, rfl⟩ : ∃ ad cap, v = .slice ad 2 cap ∧ ∃ g, ad = some ⟨g, 0, none⟩ := by
    rcases hr.2 with ⟨rfl, h0⟩ | ⟨g, cap, cur, rfl, _⟩
    · cases h0
    · exact ⟨_, _, rfl, g, rfl⟩
  have c : ∀ j, j < 6 → w1.cell? ⟨g, j, none⟩ = (phrsC [⟨0, 97, false⟩, ⟨1, 98, false⟩])[j]? := fun j hj => hr.cellAt j hj
  have c0 := c 0 (by decide)
  have c1 := c 1 (by decide)
  have c2 := c 2 (by decide)
  have c3 := c 3 (by decide)
  have c4 := c 4 (by decide)
  have c5 := c 5 (by decide)
  simp only [phrsC, phrC, List.cons_append, List.nil_append, List.getElem?_cons_zero, List.getElem?_cons_succ] at c0 c1 c2 c3 c4 c5
  have HB := Hid.mk' hb
  clear hr hb c
  go_wp2_with fail
  go_ret
  exact ⟨rfl, HB.out⟩
end Go.Proofs.YtkglaiigoogapaaGreatDoor

/- coded of an error by its number. -/
namespace Go.Proofs.YtkglaiigoogapaaGreatDoor
open Go.RowKit

theorem coded_errV (a : Nat → Addr) (c : Nat) (hc : c ≤ 8) (w : World) (h : Errs w a) :
    Calls Tryz.prog 10 #[errV a c, .int .i64 (c : Int)] w fun e w' => e = .returned (.bool true) ∧ Below w.heap.size w w' := by
  by_cases h0 : c = 0
  · subst h0
    rw [errV_zero]
    refine (coded_nil 0 w).mono ?_
    rintro e w' ⟨rfl, rfl⟩
    exact ⟨rfl, Below.refl _ _⟩
  · rw [errV_pos a h0]
    have h1 := coded_err a (c - 1) (by omega) (c : Int) w h
    have e : decide ((c : Int) = ((c - 1 : Nat) : Int) + 1) = true := decide_eq_true (by omega)
    rw [e] at h1
    exact h1
end Go.Proofs.YtkglaiigoogapaaGreatDoor

/- The law LempelWeighted. -/
namespace Go.Proofs.YtkglaiigoogapaaGreatDoor
open Go.RowKit

theorem low_nat (N D : Nat) : lowN D (N : Int) = ((N / Nat.gcd N D : Nat) : Int) ∧ lowD D (N : Int) = D / Nat.gcd N D := by
  unfold lowN lowD lowG
  rw [Int.natAbs_natCast]
  exact ⟨rfl, rfl⟩
/-- A fraction in a box. -/
structure FrAt (w : World) (b : Nat) (p q : Int) : Prop where
  c0 : w.cell? ⟨b, 0, none⟩ = some (.int .i64 p)
  c1 : w.cell? ⟨b, 1, none⟩ = some (.int .i64 q)
  f0 : w.frozen? ⟨b, 0, none⟩ = false
  f1 : w.frozen? ⟨b, 1, none⟩ = false
theorem FrAt.later {w w' : World} {b : Nat} {p q : Int} (h : FrAt w b p q) (hb : Below w.heap.size w w') : FrAt w' b p q :=
  ⟨by rw [hb.cell (cell_lt h.c0)]; exact h.c0, by rw [hb.cell (cell_lt h.c1)]; exact h.c1, by rw [hb.frozen (show b < w.heap.size from cell_lt h.c0)]; exact h.f0, by rw [hb.frozen (show b < w.heap.size from cell_lt h.c0)]; exact h.f1⟩
theorem FrAt.fresh (w : World) (p q : Int) : FrAt (w.alloc (.cells #[.int .i64 p, .int .i64 q] 25)) w.heap.size p q := by
  have := res_past (x := .int .i64 p) (y := .int .i64 q) (w := w) (t := 25) (Below.refl _ _)
  exact ⟨this.1, this.2.1, this.2.2.1, this.2.2.2⟩
theorem FrAt.put {w : World} {b : Nat} {p q : Int} (h : FrAt w b p q) (x y : Int) : FrAt ((w.setCell ⟨b, 0, none⟩ (.int .i64 x)).setCell ⟨b, 1, none⟩ (.int .i64 y)) b x y := by
  have := put_two (.int .i64 x) (.int .i64 y) h.c0 h.c1
  exact ⟨this.2.1, this.2.2, by rw [World.frozen?_setCell, World.frozen?_setCell]; exact h.f0, by rw [World.frozen?_setCell, World.frozen?_setCell]; exact h.f1⟩
set_option maxRecDepth 100000 in
set_option maxHeartbeats 4000000 in
theorem LempelWeighted_all (a : Nat → Addr) (s : ByteArray) (x : Int) (w : World) (hE : Errs w a) (hT : s.size ≤ maxLen) :
    Calls Tryz.prog 3 #[.string s, .int .i64 x] w fun e w' => e = .returned (.bool true) ∧ Below w.heap.size w w' := by
  have hA := abab_any w
  unfold maxLen at hT
  by_cases h4 : 400 < s.size
  · have h4I : (400 : Int) < (s.size : Int) := by omega
    clear hE
    go_enter Tryz.func3, Tryz.ntmps3
    go_wp2_with fail
    refine hA.mono ?_
    rintro e w1 ⟨rfl, hb1⟩
    have HB1 := Hid.mk' hb1
    clear hb1
    go_wp2_with fail
    go_ret
    exact ⟨rfl, HB1.out⟩
  have h4I : (s.size : Int) ≤ 400 := by omega
  have HBE := Hid.mk' (fun W => BitsError_any s W (by omega))
  by_cases hd : x < 0 ∨ 4 < x
  · have HCH := Hid.mk' (fun W (hb : Below w.heap.size w W) => Weighted_depth a s x W (hE.below hb) hd)
    have HCO := Hid.mk' (fun W (hb : Below w.heap.size w W) => coded_errV a 2 (by decide) W (hE.below hb))
    clear hE
    generalize errV a 2 = y at *
    rcases hd with hd | hd
    · go_enter Tryz.func3, Tryz.ntmps3
      go_wp2_with fail
      refine hA.mono ?_
      rintro e w2 ⟨rfl, hb2⟩
      have HB2 := Hid.mk' (below_chain hb2 (new_below w2 (.cells #[.int .i64 0, .int .i64 0] 25)))
      have HF2 := Hid.mk' (FrAt.fresh w2 0 0)
      clear hb2 hA
      go_wp2_with fail
      generalize w2.alloc (.cells #[.int .i64 0, .int .i64 0] 25) = W2 at *
      generalize w2.heap.size = B2 at *
      refine (HCH.out W2 HB2.out).mono ?_
      rintro e w6 ⟨rfl, hb6⟩
      have HB6 := Hid.mk' (below_chain (below_chain HB2.out hb6) (new_below w6 (.cells #[.int .i64 0, .int .i64 0] 25)))
      have HF6 := Hid.mk' ((HF2.out.later hb6).later (new_below w6 (.cells #[.int .i64 0, .int .i64 0] 25)))
      have HG6 := Hid.mk' (FrAt.fresh w6 0 0)
      clear hb6
      go_wp2_with fail
      generalize w6.alloc (.cells #[.int .i64 0, .int .i64 0] 25) = W6 at *
      generalize w6.heap.size = B6 at *
      refine (HCO.out W6 HB6.out).mono ?_
      rintro e w7 ⟨rfl, hb7⟩
      have HB7 := Hid.mk' (below_chain HB6.out hb7)
      obtain ⟨x0, x1, _, _⟩ := HF6.out.later hb7
      obtain ⟨z0, z1, _, _⟩ := HG6.out.later hb7
      clear hb7
      go_wp2_with fail
      go_ret
      exact ⟨rfl, HB7.out⟩
    · have hd0 : ¬ x < 0 := by omega
      go_enter Tryz.func3, Tryz.ntmps3
      go_wp2_with fail
      refine hA.mono ?_
      rintro e w2 ⟨rfl, hb2⟩
      have HB2 := Hid.mk' (below_chain hb2 (new_below w2 (.cells #[.int .i64 0, .int .i64 0] 25)))
      have HF2 := Hid.mk' (FrAt.fresh w2 0 0)
      clear hb2 hA
      go_wp2_with fail
      generalize w2.alloc (.cells #[.int .i64 0, .int .i64 0] 25) = W2 at *
      generalize w2.heap.size = B2 at *
      refine (HCH.out W2 HB2.out).mono ?_
      rintro e w6 ⟨rfl, hb6⟩
      have HB6 := Hid.mk' (below_chain (below_chain HB2.out hb6) (new_below w6 (.cells #[.int .i64 0, .int .i64 0] 25)))
      have HF6 := Hid.mk' ((HF2.out.later hb6).later (new_below w6 (.cells #[.int .i64 0, .int .i64 0] 25)))
      have HG6 := Hid.mk' (FrAt.fresh w6 0 0)
      clear hb6
      go_wp2_with fail
      generalize w6.alloc (.cells #[.int .i64 0, .int .i64 0] 25) = W6 at *
      generalize w6.heap.size = B6 at *
      refine (HCO.out W6 HB6.out).mono ?_
      rintro e w7 ⟨rfl, hb7⟩
      have HB7 := Hid.mk' (below_chain HB6.out hb7)
      obtain ⟨x0, x1, _, _⟩ := HF6.out.later hb7
      obtain ⟨z0, z1, _, _⟩ := HG6.out.later hb7
      clear hb7
      go_wp2_with fail
      go_ret
      exact ⟨rfl, HB7.out⟩
  obtain ⟨d, rfl⟩ : ∃ d : Nat, x = (d : Int) := ⟨x.toNat, by omega⟩
  have hd4 : d ≤ 4 := by omega
  have hdI : (d : Int) ≤ 4 := by omega
  have hdI0 : ¬ (d : Int) < 0 := by omega
  clear hd
  by_cases hc : bitsE s = 0
  · obtain ⟨hs, hb⟩ := bitsE_ok hc
    have hbits : BitsA s := fun i hi => bit_at hi hb
    have hok := wg_ok (rowZ s d) d s.size hs d ⟨#[]⟩
    have hw4 := wE_mono d hd4
    have hr1 := (wE_room (wE_le1 (Nat.le_trans hok.2.1 (Nat.le_trans hok.2.2 hw4)))).2
    have hr2 := (wE_room (wE_le1 (Nat.le_trans hok.2.2 hw4))).2
    have HLR := Hid.mk' (fun W => WeightedOf_any s d hd4 hs hbits d ⟨#[]⟩ W (Nat.zero_add _))
    rw [(low_nat _ _).1, (low_nat _ _).2] at HLR
    have HWO := Hid.mk' (fun (p q : Int) (er : Value) W (hb : Below w.heap.size w W) hv => Weighted_ok a s d p q er W (hE.below hb) hc hd4 hv)
    rw [hc] at HBE
    generalize (wg (rowZ s d) d s.size d ⟨#[]⟩).1 = NN at *
    generalize (wg (rowZ s d) d s.size d ⟨#[]⟩).2 = DD at *
    obtain ⟨p, q, er, ec, HOT, HCH, HCO⟩ : ∃ (p q : Int) (er : Value) (ec : Int), Hid (∀ W v, RatioAt W v ((NN / Nat.gcd NN DD : Nat) : Int) (DD / Nat.gcd NN DD) → Calls Tryz.prog 7 #[v] W fun e w' => e = .returned (.tuple #[.agg #[.int .i64 p, .int .i64 q], .int .i64 ec]) ∧ Below W.heap.size W w') ∧ Hid (∀ W, Below w.heap.size w W → Calls Tryz.prog 9 #[.string s, .int .i64 (d : Int)] W fun e w' => e = .returned (.tuple #[.agg #[.int .i64 p, .int .i64 q], er]) ∧ Below W.heap.size W w') ∧ Hid (∀ W, Below w.heap.size w W → Calls Tryz.prog 10 #[er, .int .i64 ec] W fun e w' => e = .returned (.bool true) ∧ Below W.heap.size W w') := by
      have q1 : NN / Nat.gcd NN DD ≤ NN := Nat.div_le_self _ _
      have q2 : DD / Nat.gcd NN DD ≤ DD := Nat.div_le_self _ _
      by_cases hf : NN / Nat.gcd NN DD ≤ 4611686018427387904 ∧ DD / Nat.gcd NN DD ≤ 4611686018427387904
      · refine ⟨_, _, .nilIface, 0, fun W v hv => ?_, fun W hb => HWO.out _ _ _ W hb (by unfold toldV; rw [if_pos hf]), fun W hb => by have := coded_errV a 0 (by decide) W (hE.below hb); rw [errV_zero] at this; exact this⟩
        obtain ⟨s0, ad, l, cap, ad', l', cap', rfl⟩ := hv.sl
        exact OneTold_by ad ad' l cap l' cap' s0 _ _ true W (fun W' hb => RTold_ok _ _ _ W' (hv.later hb) hf.1 hf.2) (fun h => by cases h)
      · refine ⟨0, 0, errV a 2, 2, fun W v hv => ?_, fun W hb => HWO.out _ _ _ W hb (by unfold toldV; rw [if_neg hf]), fun W hb => coded_errV a 2 (by decide) W (hE.below hb)⟩
        obtain ⟨s0, ad, l, cap, ad', l', cap', rfl⟩ := hv.sl
        exact OneTold_by ad ad' l cap l' cap' s0 0 0 false W (fun W' hb => RTold_notK _ _ _ 700 W' (hv.later hb) (Nat.lt_of_le_of_lt q1 hr1) (Nat.lt_of_le_of_lt q2 hr2) (by decide) (by decide) (by omega)) (fun _ => ⟨rfl, rfl⟩)
    clear hok hw4 hr1 hr2 hE hc hb hbits HWO hs
    generalize ((NN / Nat.gcd NN DD : Nat) : Int) = NQ at *
    generalize DD / Nat.gcd NN DD = DQ at *
    go_enter Tryz.func3, Tryz.ntmps3
    go_wp2_with fail
    refine hA.mono ?_
    rintro e w1 ⟨rfl, hb1⟩
    have HB1 := Hid.mk' hb1
    clear hb1 hA
    go_wp2_with fail
    refine (HBE.out w1).mono ?_
    rintro e w2 ⟨rfl, hb2⟩
    have HB2 := Hid.mk' (below_chain (below_chain HB1.out hb2) (new_below w2 (.cells #[.int .i64 0, .int .i64 0] 25)))
    have HLT : Hid (w.heap.size ≤ w2.heap.size) := (below_chain HB1.out hb2).size
    have HF2 := Hid.mk' (FrAt.fresh w2 0 0)
    clear hb2
    go_wp2_with fail
    generalize w2.alloc (.cells #[.int .i64 0, .int .i64 0] 25) = W2 at *
    generalize w2.heap.size = B2 at *
    refine (HLR.out W2).mono ?_
    rintro e w3 ⟨v3, rfl, hv3, hb3⟩
    have HB3 := Hid.mk' (below_chain HB2.out hb3)
    have HF3 := Hid.mk' (HF2.out.later hb3)
    have HV3 := Hid.mk' hv3
    clear hb3 hv3
    go_wp2_with fail
    refine (HOT.out w3 v3 HV3.out).mono ?_
    rintro e w4 ⟨rfl, hb4⟩
    have HB4 := Hid.mk' (below_chain HB3.out hb4)
    have HF4 := Hid.mk' (HF3.out.later hb4)
    obtain ⟨g0, g1, f0, f1⟩ := HF4.out
    clear hb4
    have HB5 : Hid (Below w.heap.size w ((w4.setCell ⟨B2, 0, none⟩ (.int .i64 p)).setCell ⟨B2, 1, none⟩ (.int .i64 q))) := (HB4.out.setCell HLT.out _).setCell HLT.out _
    have HF5 := Hid.mk' (HF4.out.put p q)
    go_wp2_with fail
    generalize (w4.setCell ⟨B2, 0, none⟩ (.int .i64 p)).setCell ⟨B2, 1, none⟩ (.int .i64 q) = W5 at *
    clear g0 g1 f0 f1 HF4 HB4
    refine (HCH.out W5 HB5.out).mono ?_
    rintro e w6 ⟨rfl, hb6⟩
    have HB6 := Hid.mk' (below_chain (below_chain HB5.out hb6) (new_below w6 (.cells #[.int .i64 p, .int .i64 q] 25)))
    have HF6 := Hid.mk' ((HF5.out.later hb6).later (new_below w6 (.cells #[.int .i64 p, .int .i64 q] 25)))
    have HG6 := Hid.mk' (FrAt.fresh w6 p q)
    clear hb6
    go_wp2_with fail
    generalize w6.alloc (.cells #[.int .i64 p, .int .i64 q] 25) = W6 at *
    generalize w6.heap.size = B6 at *
    refine (HCO.out W6 HB6.out).mono ?_
    rintro e w7 ⟨rfl, hb7⟩
    have HB7 := Hid.mk' (below_chain HB6.out hb7)
    obtain ⟨x0, x1, _, _⟩ := HF6.out.later hb7
    obtain ⟨z0, z1, _, _⟩ := HG6.out.later hb7
    clear hb7
    go_wp2_with fail
    go_ret
    exact ⟨rfl, HB7.out⟩
  · obtain ⟨c, hcv⟩ : ∃ c, bitsE s = c := ⟨_, rfl⟩
    have hc12 : c ≠ 0 := by omega
    have hc8 : c ≤ 8 := by have := bitsE_le s; omega
    have hcb : ((c : Int) == 0) = false := by simp; omega
    have HCH := Hid.mk' (fun W (hb : Below w.heap.size w W) => Weighted_bits a s (d : Int) c W (hE.below hb) (by omega) hdI (by omega) hcv hc12)
    have HCO := Hid.mk' (fun W (hb : Below w.heap.size w W) => coded_errV a c hc8 W (hE.below hb))
    rw [hcv] at HBE
    clear hcv hc hE
    generalize errV a c = y at *
    go_enter Tryz.func3, Tryz.ntmps3
    go_wp2_with fail
    refine hA.mono ?_
    rintro e w1 ⟨rfl, hb1⟩
    have HB1 := Hid.mk' hb1
    clear hb1 hA
    go_wp2_with fail
    refine (HBE.out w1).mono ?_
    rintro e w2 ⟨rfl, hb2⟩
    have HB2 := Hid.mk' (below_chain (below_chain HB1.out hb2) (new_below w2 (.cells #[.int .i64 0, .int .i64 0] 25)))
    have HF2 := Hid.mk' (FrAt.fresh w2 0 0)
    clear hb2
    go_wp2_with fail
    generalize w2.alloc (.cells #[.int .i64 0, .int .i64 0] 25) = W2 at *
    generalize w2.heap.size = B2 at *
    refine (HCH.out W2 HB2.out).mono ?_
    rintro e w6 ⟨rfl, hb6⟩
    have HB6 := Hid.mk' (below_chain (below_chain HB2.out hb6) (new_below w6 (.cells #[.int .i64 0, .int .i64 0] 25)))
    have HF6 := Hid.mk' ((HF2.out.later hb6).later (new_below w6 (.cells #[.int .i64 0, .int .i64 0] 25)))
    have HG6 := Hid.mk' (FrAt.fresh w6 0 0)
    clear hb6
    go_wp2_with fail
    generalize w6.alloc (.cells #[.int .i64 0, .int .i64 0] 25) = W6 at *
    generalize w6.heap.size = B6 at *
    refine (HCO.out W6 HB6.out).mono ?_
    rintro e w7 ⟨rfl, hb7⟩
    have HB7 := Hid.mk' (below_chain HB6.out hb7)
    obtain ⟨x0, x1, _, _⟩ := HF6.out.later hb7
    obtain ⟨z0, z1, _, _⟩ := HG6.out.later hb7
    clear hb7
    go_wp2_with fail
    go_ret
    exact ⟨rfl, HB7.out⟩
end Go.Proofs.YtkglaiigoogapaaGreatDoor

/- What the rows' condition on package variables gives a walk: eight different sentinels with their texts, and the handle of the type error; the tables of unicode/utf8 are listed besides. -/
namespace Go.Proofs.YtkglaiigoogapaaGreatDoor
open Go.ChangeShapes Go.WideShapes Go.RowKit

theorem Tryz.own : ownKnob Tryz.prog.godebug = none := by kernel_rfl
theorem Tryz.et : Tryz.prog.globalNamed "errors.errorType" = some 8 := by kernel_rfl
theorem Tryz.rt : (Tryz.prog.cutTypes.find? (·.1 == "internal/reflectlite.rtype")).map (·.2) = some 151 := by kernel_rfl
theorem Tryz.oneRow : ((List.range 208).filter fun t => Tryz.prog.rowNamed t [101, 114, 114, 111, 114]) = [36] := by kernel_rfl
theorem Tryz.size : Tryz.prog.types.size = 208 := by kernel_rfl
theorem Tryz.star : ("*" ++ "errors.errorString" : String) = "*errors.errorString" := by decide
theorem Tryz.rowE (u : TypeId) (h : Tryz.prog.typeName? 3 u = some "*errors.errorString") : u = 179 :=
  typeName_ptr_named (nm := "errors.errorString") (by rw [Tryz.star]; kernel_rfl) (by kernel_rfl) (by decide) u (by rw [Tryz.star]; exact h)
theorem Tryz.cellsE : Tryz.prog.cellsOf 197 = 1 := by kernel_rfl
theorem Tryz.cellsS : Tryz.prog.cellsOf 9 = 1 := by kernel_rfl
theorem Tryz.g0 : Tryz.prog.globalNamed "demon/api.ErrText" = some 1 := by kernel_rfl
theorem Tryz.g1 : Tryz.prog.globalNamed "demon/api.ErrBound" = some 0 := by kernel_rfl
theorem Tryz.g2 : Tryz.prog.globalNamed "demon/api.ErrShape" = some 2 := by kernel_rfl
theorem Tryz.g3 : Tryz.prog.globalNamed "demon/api.ErrZero" = some 3 := by kernel_rfl
theorem Tryz.g4 : Tryz.prog.globalNamed "demon/api.ErrName" = some 4 := by kernel_rfl
theorem Tryz.g5 : Tryz.prog.globalNamed "demon/api.ErrNone" = some 5 := by kernel_rfl
theorem Tryz.g6 : Tryz.prog.globalNamed "demon/api.ErrOrder" = some 6 := by kernel_rfl
theorem Tryz.g7 : Tryz.prog.globalNamed "demon/api.ErrKind" = some 7 := by kernel_rfl

/-- Any number of listed sentinels of one type: each one's pointer, text and row; no two are one. -/
theorem laid_list {P : Program} {W : World} {nm : String} {ti tp te ts : TypeId} {ms : Array (String × TypeId)} {f : Field}
    (hi : P.underlying ti = some (.interface ms)) (hrow : ∀ u, P.typeName? 3 u = some nm → u = tp)
    (hp : P.underlying tp = some (.pointer te)) (he : P.underlying te = some (.struct #[f])) (hft : f.type = ts) (hfo : f.offset = 0) (hs : P.underlying ts = some .string) (hc : P.cellsOf te = 1) (hcs : P.cellsOf ts = 1) :
    ∀ (L : List (String × List UInt8)) (ps : List MemPlace), (∀ x, x ∈ L → ∃ g, P.globalNamed x.1 = some g ∧ (P.globals[g]?).map (·.type) = some ti) →
      DataW.LaidVars P W (L.map fun x => (x.1, .iface nm (.ptr (.agg [.lit (.string x.2)])))) ps → ps.Nodup →
      (∀ b off, MemPlace.cell b off ∈ ps → (∃ c t, W.heap[b]? = some (.cells c t (0, 0))) ∧ ∀ u v, W.cell? ⟨b, off, none⟩ = some (.iface u v) → Value.okWide P W .any 0 u v) →
      ∃ a : Nat → Addr, (∀ i x, L[i]? = some x → W.var? P x.1 = some #[.iface tp (.pointer (some (a i)))] ∧ (∃ s, W.cell? (a i) = some (.string s) ∧ s.data.toList = x.2) ∧
          (∃ c t, W.heap[(a i).block]? = some (.cells c t (0, 0))) ∧ MemPlace.cell (a i).block (a i).off ∈ ps) ∧
        ∀ i j, i < L.length → j < L.length → i ≠ j → a i ≠ a j := by
  intro L
  induction L with
  | nil => intro ps _ _ _ _; exact ⟨fun _ => default, fun i x h => by simp at h, fun i j h => by simp at h⟩
  | cons x r ih =>
    intro ps hgs hv hnd hrows
    obtain ⟨n, text⟩ := x
    obtain ⟨g0, t0, cs0, f0, p0, q0, hg0, ht0, hv0, hd0, hvr, e0⟩ := hv
    obtain ⟨g, hg, ht⟩ := hgs (n, text) (List.mem_cons_self ..)
    obtain rfl := Option.some.inj (hg.symm.trans hg0)
    obtain rfl := Option.some.inj (ht.symm.trans ht0)
    subst e0
    obtain ⟨l0⟩ := cs0
    have ok0 : ∀ u v, l0 = [.iface u v] → Value.okWide P W .any 0 u v := fun u v e => by
      subst e
      exact (hrows g 0 (by simp [MemPlace.row])).2 u v (by simpa using World.var?_cell hg0 hv0 0)
    obtain ⟨a0, s0, rfl, hc0, hs0, hz0, rfl⟩ := errorString_of_trod hi hrow hp he hft hfo hs hc hcs hd0 ok0
    obtain ⟨c0, tt0, hb0⟩ := (hrows a0.block a0.off (by simp [MemPlace.row])).1
    have hnq : q0.Nodup := List.Nodup.sublist (List.sublist_append_right _ _) hnd
    obtain ⟨a', ha', hne'⟩ := ih q0 (fun x hx => hgs x (List.mem_cons_of_mem _ hx)) hvr hnq (fun b off hm => hrows b off (List.mem_append_right _ hm))
    have hnot : MemPlace.cell a0.block a0.off ∉ q0 := by
      intro hm
      have := (List.nodup_append.1 hnd).2.2
      exact this (.cell a0.block a0.off) (by simp [MemPlace.row]) (.cell a0.block a0.off) hm rfl
    refine ⟨fun i => match i with | 0 => a0 | k + 1 => a' k, ?_, ?_⟩
    · intro i x hx
      cases i with
      | zero =>
        simp only [List.getElem?_cons_zero, Option.some.injEq] at hx
        subst hx
        exact ⟨hv0, ⟨s0, hc0, hs0⟩, ⟨c0, tt0, hb0⟩, by simp [MemPlace.row]⟩
      | succ k =>
        simp only [List.getElem?_cons_succ] at hx
        obtain ⟨h1, h2, h3, h4⟩ := ha' k x hx
        exact ⟨h1, h2, h3, List.mem_append_right _ h4⟩
    · have far : ∀ k, k < r.length → a0 ≠ a' k := fun k hk e => by
        obtain ⟨_, _, _, h4⟩ := ha' k r[k] (by simp [hk])
        rw [← e] at h4
        exact hnot h4
      intro i j hi' hj' hij
      cases i with
      | zero =>
        cases j with
        | zero => exact absurd rfl hij
        | succ k => exact far k (by simpa using hj')
      | succ m =>
        cases j with
        | zero => exact (far m (by simpa using hi')).symm
        | succ k => exact hne' m k (by simpa using hi') (by simpa using hj') (by omega)

/-- The names and texts, in the rows' order. -/
def eightNames : List (String × List UInt8) := [("demon/api.ErrText", [100, 101, 109, 111, 110, 58, 32, 116, 101, 120, 116]), ("demon/api.ErrBound", [100, 101, 109, 111, 110, 58, 32, 98, 111, 117, 110, 100]), ("demon/api.ErrShape", [100, 101, 109, 111, 110, 58, 32, 115, 104, 97, 112, 101]), ("demon/api.ErrZero", [100, 101, 109, 111, 110, 58, 32, 122, 101, 114, 111]), ("demon/api.ErrName", [100, 101, 109, 111, 110, 58, 32, 110, 97, 109, 101]), ("demon/api.ErrNone", [100, 101, 109, 111, 110, 58, 32, 110, 111, 110, 101]), ("demon/api.ErrOrder", [100, 101, 109, 111, 110, 58, 32, 111, 114, 100, 101, 114]), ("demon/api.ErrKind", [100, 101, 109, 111, 110, 58, 32, 107, 105, 110, 100])]
def laidAll : List (String × DataW Unit) := [("unicode/utf8.acceptRanges", Rows.laid_unicode_utf8_acceptRanges), ("errors.errorType", Rows.laid_errors_errorType), ("demon/api.ErrText", Rows.laid_demon_api_ErrText), ("demon/api.ErrBound", Rows.laid_demon_api_ErrBound), ("demon/api.ErrShape", Rows.laid_demon_api_ErrShape), ("demon/api.ErrZero", Rows.laid_demon_api_ErrZero), ("demon/api.ErrName", Rows.laid_demon_api_ErrName), ("demon/api.ErrNone", Rows.laid_demon_api_ErrNone), ("demon/api.ErrOrder", Rows.laid_demon_api_ErrOrder), ("demon/api.ErrKind", Rows.laid_demon_api_ErrKind), ("unicode/utf8.first", Rows.laid_unicode_utf8_first)]
theorem laidAll_parts (W : World) : laidMetH Tryz.prog laidAll W = (laidMet Tryz.prog ([("unicode/utf8.acceptRanges", Rows.laid_unicode_utf8_acceptRanges)] ++ ((eightNames.map fun x => (x.1, .iface "*errors.errorString" (.ptr (.agg [.lit (.string x.2)])))) ++ [("unicode/utf8.first", Rows.laid_unicode_utf8_first)])) W ∧ handlesMet Tryz.prog [("errors.errorType", Rows.laid_errors_errorType)] W) := by kernel_rfl

theorem var_at {W : World} {n : String} {g : Nat} {v : Value} (hg : Tryz.prog.globalNamed n = some g) (h : W.var? Tryz.prog n = some #[v]) : W.cell? ⟨g, 0, none⟩ = some v := by
  simpa using World.var?_cell hg h 0

theorem laid_tail {P : Program} {W : World} {x : String × DataW Unit} {L : List (String × DataW Unit)} (h : laidMet P (x :: L) W) : laidMet P L W := by
  obtain ⟨n, d⟩ := x
  obtain ⟨ps, hv, hnd, hrows⟩ := h
  obtain ⟨g, t, cs, f, p, q, _, _, _, _, hvr, e⟩ := hv
  subst e
  exact ⟨q, hvr, List.Nodup.sublist (List.sublist_append_right _ _) hnd, fun b off hm => hrows b off (List.mem_append_right _ hm)⟩
theorem vars_front {P : Program} {W : World} : ∀ (L B : List (String × DataW Unit)) (ps : List MemPlace), DataW.LaidVars P W (L ++ B) ps → ∃ p1 p2, ps = p1 ++ p2 ∧ DataW.LaidVars P W L p1
  | [], B, ps, _ => ⟨[], ps, rfl, rfl⟩
  | (n, d) :: L, B, ps, h => by
    obtain ⟨g, t, cs, f, p, q, h1, h2, h3, h4, hvr, e⟩ := h
    obtain ⟨p1, p2, e2, h5⟩ := vars_front L B q hvr
    exact ⟨(MemPlace.row ⟨g, 0, none⟩ cs.size ++ p) ++ p1, p2, by rw [e, e2, ← List.append_assoc], g, t, cs, f, p, p1, h1, h2, h3, h4, h5, rfl⟩
theorem laid_front {P : Program} {W : World} {L B : List (String × DataW Unit)} (h : laidMet P (L ++ B) W) : laidMet P L W := by
  obtain ⟨ps, hv, hnd, hrows⟩ := h
  obtain ⟨p1, p2, e, h5⟩ := vars_front L B ps hv
  subst e
  exact ⟨p1, h5, List.Nodup.sublist (List.sublist_append_left _ _) hnd, fun b off hm => hrows b off (List.mem_append_left _ hm)⟩
theorem errs_of_laid {W : World} (h : laidMetH Tryz.prog laidAll W) : ∃ a : Nat → Addr, Errs W a ∧ ∀ i x, eightNames[i]? = some x → ∃ s, W.cell? (a i) = some (.string s) ∧ s.data.toList = x.2 := by
  rw [laidAll_parts] at h
  obtain ⟨hl0, hh⟩ := h
  obtain ⟨ps, hv, hnd, hrows⟩ := laid_front (L := eightNames.map fun x => (x.1, .iface "*errors.errorString" (.ptr (.agg [.lit (.string x.2)])))) (laid_tail hl0)
  obtain ⟨name, u, ty, e1, e2, e3, e4, e5⟩ := hh _ (List.mem_singleton.2 rfl)
  have en : name = [101, 114, 114, 111, 114] := (Option.some.inj e1).symm
  subst en
  obtain rfl := Option.some.inj (Tryz.rt.symm.trans e2)
  have hm : ty ∈ (List.range 208).filter fun t => Tryz.prog.rowNamed t [101, 114, 114, 111, 114] := List.mem_filter.2 ⟨List.mem_range.2 (by rw [← Tryz.size]; exact e3), e4⟩
  rw [Tryz.oneRow] at hm
  obtain rfl := List.mem_singleton.1 hm
  have hth : typeHandle Tryz.prog 36 = .pointer (some ⟨12, 36, none⟩) := by kernel_rfl
  rw [hth] at e5
  obtain ⟨a, ha, hne⟩ := laid_list Tryz.underlying36 Tryz.rowE Tryz.underlying179 Tryz.underlying197 rfl rfl Tryz.underlying9 Tryz.cellsE Tryz.cellsS eightNames ps
    (fun x hx => by
      simp only [eightNames, List.mem_cons, List.not_mem_nil, or_false] at hx
      rcases hx with rfl | rfl | rfl | rfl | rfl | rfl | rfl | rfl
      · exact ⟨_, Tryz.g0, by kernel_rfl⟩
      · exact ⟨_, Tryz.g1, by kernel_rfl⟩
      · exact ⟨_, Tryz.g2, by kernel_rfl⟩
      · exact ⟨_, Tryz.g3, by kernel_rfl⟩
      · exact ⟨_, Tryz.g4, by kernel_rfl⟩
      · exact ⟨_, Tryz.g5, by kernel_rfl⟩
      · exact ⟨_, Tryz.g6, by kernel_rfl⟩
      · exact ⟨_, Tryz.g7, by kernel_rfl⟩) hv hnd hrows
  refine ⟨a, ⟨var_at Tryz.g0 (ha 0 _ rfl).1, var_at Tryz.g1 (ha 1 _ rfl).1, var_at Tryz.g2 (ha 2 _ rfl).1, var_at Tryz.g3 (ha 3 _ rfl).1, var_at Tryz.g4 (ha 4 _ rfl).1, var_at Tryz.g5 (ha 5 _ rfl).1, var_at Tryz.g6 (ha 6 _ rfl).1, var_at Tryz.g7 (ha 7 _ rfl).1, var_at Tryz.et e5, ?_, ?_⟩, fun i x hx => (ha i x hx).2.1⟩
  · intro i hi
    have hl : eightNames.length = 8 := rfl
    exact (ha i eightNames[i] (List.getElem?_eq_getElem (by omega))).2.2.1
  · intro i j hi hj hij
    exact hne i j hi hj hij

/-- The door's own heap meets the condition. -/
theorem door_met (os : Os) (args : Array Value) : laidMetH Tryz.prog laidAll ((World.layVars Tryz.prog (World.doorLaid Tryz.prog 178 os) [("unicode/utf8.first", Rows.laid_unicode_utf8_first)]).forCall (fun _ _ => 0) ⟨#[], args, []⟩).memory :=
  laidMetH_of_parts3 (fuel := 8) (laidMet_of_run' 8 (by kernel_rfl) (by kernel_rfl)) (by kernel_rfl) (by kernel_rfl)
end Go.Proofs.YtkglaiigoogapaaGreatDoor

/- A parameter of type []int opened. -/
namespace Go.Proofs.YtkglaiigoogapaaGreatDoor
open Go.ChangeShapes Go.WideShapes Go.ChangeAt Go.RowKit Go.Joins Go.Deep

theorem Tryz.laidOut : laidOutB Tryz.prog = true := by kernel_rfl
theorem Tryz.cellsInt : Tryz.prog.cellsOf 3 = 1 := by kernel_rfl
theorem Tryz.cellsInts : Tryz.prog.cellsOf 28 = 1 := by kernel_rfl

set_option maxRecDepth 100000 in
/-- What a parameter of type []int gives: its slice, its numbers. -/
theorem open_nums {H : Type} {enc : TypeId × Value → H} {W : World} {base : Nat} {v : Value} {d : DataW H} {p : List MemPlace} (hv : Value.okWide Tryz.prog W .any base 28 v)
    (h : DataW.Trod enc Tryz.prog W 0 (fun _ => true) true 28 v d p) :
    ∃ (ad : Option Addr) (n cap : Nat) (z : Nat → Int), v = .slice ad n cap ∧ n ≤ maxLen ∧ NumsAt W (.slice ad n cap) n z := by
  obtain ⟨ad, n, cap, rfl⟩ := okWide_slice Tryz.underlying28 hv
  obtain ⟨fuel, hf⟩ := h
  rcases open_ints Tryz.underlying28 Tryz.underlying3 Tryz.cellsInt hf with ⟨hc, _⟩ | ⟨a, len, cap', zs, hc, _, hl, hm, hz, _, hcell, _⟩
  · simp [Value.cells] at hc
    obtain ⟨rfl, rfl, rfl⟩ := hc
    exact ⟨none, 0, 0, fun _ => 0, rfl, Nat.zero_le _, Or.inl ⟨none, 0, rfl, rfl⟩⟩
  · simp [Value.cells] at hc
    obtain ⟨rfl, rfl, rfl⟩ := hc
    simp only [if_true] at hz
    rcases Nat.eq_zero_or_pos n with rfl | hpos
    · exact ⟨some a, 0, cap, fun _ => 0, rfl, Nat.zero_le _, Or.inl ⟨some a, cap, rfl, rfl⟩⟩
    · obtain ⟨b, o, spot⟩ := a
      have hspot : spot = none := by simpa [Addr.add] using World.cell?_spot (hcell 0 (by omega))
      subst hspot
      refine ⟨_, n, cap, fun i => zs.getD i 0, rfl, by omega, Or.inr ⟨b, o, cap, rfl, hpos, fun i hi => ?_⟩⟩
      have := hcell i (by omega)
      rw [Go.Proofs.YtkglaiigoogapaaGreatDoor.add_plain] at this
      exact this
end Go.Proofs.YtkglaiigoogapaaGreatDoor
