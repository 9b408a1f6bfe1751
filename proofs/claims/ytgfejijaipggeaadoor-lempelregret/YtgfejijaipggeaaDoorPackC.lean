/- Phrases: what both the program, byte by byte, and the document, by the longest text ahead, answer. -/
import Derived.Test.YtgfejijaipggeaaDoorOwn
import Derived.Test.YtgfejijaipggeaaDoorValidWalk
import Derived.Test.YtgfejijaipggeaaDoorWeights
import Derived.Deep.AppendLies
import Derived.OwnWalk
import Derived.Maps.OwnOps
import Derived.Maps.Views
import Derived.DeepKeys4
import Derived.Test.YtgfejijaipggeaaDoorCode
import Derived.Test.YtgfejijaipggeaaDoorPackB
import Derived.Test.YtgfejijaipggeaaDoorRgMath
namespace Go.Proofs.YtgfejijaipggeaaDoor

/-- The number of a phrase, from 1 on; 0: there is none. -/
def numOf : List (Nat × UInt8) → Nat × UInt8 → Nat
  | [], _ => 0
  | p :: r, q => if p = q then 1 else if numOf r q = 0 then 0 else numOf r q + 1
theorem numOf_snoc (p q : Nat × UInt8) : ∀ D : List (Nat × UInt8), numOf (D ++ [p]) q = if numOf D q ≠ 0 then numOf D q else if p = q then D.length + 1 else 0
  | [] => by simp [numOf]
  | d :: r => by
    have ih := numOf_snoc p q r
    by_cases h : d = q
    · simp [numOf, h]
    · simp only [List.cons_append, numOf, if_neg h, ih]
      by_cases h0 : numOf r q = 0
      · by_cases h2 : p = q
        · simp [h0, h2]
        · simp [h0, h2]
      · simp [h0]
theorem numOf_le (q : Nat × UInt8) : ∀ D : List (Nat × UInt8), numOf D q ≤ D.length
  | [] => Nat.le_refl _
  | d :: r => by
    have ih := numOf_le q r
    unfold numOf
    split
    · simp
    · split
      · simp
      · simp; omega
theorem numOf_at (q : Nat × UInt8) : ∀ (D : List (Nat × UInt8)), numOf D q ≠ 0 → D[numOf D q - 1]? = some q
  | [], h => by simp [numOf] at h
  | d :: r, h => by
    have ih := numOf_at q r
    by_cases h1 : d = q
    · simp [numOf, h1]
    · by_cases h0 : numOf r q = 0
      · simp [numOf, h1, h0] at h
      · simp only [numOf, if_neg h1, if_neg h0, Nat.add_sub_cancel]
        obtain ⟨m, hm⟩ : ∃ m, numOf r q = m + 1 := ⟨numOf r q - 1, by omega⟩
        have := ih h0
        rw [hm] at this ⊢
        simpa using this
theorem numOf_mem (q : Nat × UInt8) : ∀ (D : List (Nat × UInt8)), q ∈ D → numOf D q ≠ 0
  | [], h => by simp at h
  | d :: r, h => by
    by_cases h1 : d = q
    · simp [numOf, h1]
    · have : q ∈ r := by
        rcases List.mem_cons.1 h with h | h
        · exact absurd h.symm h1
        · exact h
      have ih := numOf_mem q r this
      simp [numOf, h1, ih]

/-- A byte more. -/
def pzS (s : List (Nat × UInt8) × Nat) (c : UInt8) : List (Nat × UInt8) × Nat := if numOf s.1 (s.2, c) = 0 then (s.1 ++ [(s.2, c)], 0) else (s.1, numOf s.1 (s.2, c))
def pz (s : List (Nat × UInt8) × Nat) (l : List UInt8) : List (Nat × UInt8) × Nat := l.foldl pzS s
theorem pz_snoc (s : List (Nat × UInt8) × Nat) (l : List UInt8) (c : UInt8) : pz s (l ++ [c]) = pzS (pz s l) c := by simp [pz]
theorem pz_append (s : List (Nat × UInt8) × Nat) (a b : List UInt8) : pz s (a ++ b) = pz (pz s a) b := by simp [pz]
theorem pzS_new {s : List (Nat × UInt8) × Nat} {c : UInt8} (h : numOf s.1 (s.2, c) = 0) : pzS s c = (s.1 ++ [(s.2, c)], 0) := by unfold pzS; rw [if_pos h]
theorem pzS_old {s : List (Nat × UInt8) × Nat} {c : UInt8} (h : numOf s.1 (s.2, c) ≠ 0) : pzS s c = (s.1, numOf s.1 (s.2, c)) := by unfold pzS; rw [if_neg h]
theorem pz_le : ∀ (l : List UInt8) (s : List (Nat × UInt8) × Nat), s.2 ≤ s.1.length → (pz s l).2 ≤ (pz s l).1.length ∧ (pz s l).1.length ≤ s.1.length + l.length
  | [], s, h => ⟨h, Nat.le_refl _⟩
  | c :: r, s, h => by
    have e : pz s (c :: r) = pz (pzS s c) r := rfl
    rw [e]
    by_cases h0 : numOf s.1 (s.2, c) = 0
    · rw [pzS_new h0]
      obtain ⟨h1, h2⟩ := pz_le r (s.1 ++ [(s.2, c)], 0) (Nat.zero_le _)
      refine ⟨h1, ?_⟩
      simp at h2 ⊢; omega
    · rw [pzS_old h0]
      obtain ⟨h1, h2⟩ := pz_le r (s.1, numOf s.1 (s.2, c)) (numOf_le _ _)
      refine ⟨h1, ?_⟩
      simp at h2 ⊢; omega

/-- A phrase: of which one ahead, the byte behind it, whether it is the last. -/
structure Phr where
  of : Nat
  next : Nat
  last : Bool
def phrs (D : List (Nat × UInt8)) : List Phr := D.map fun p => ⟨p.1, p.2.toNat, false⟩
theorem phrs_snoc (D : List (Nat × UInt8)) (o : Nat) (c : UInt8) : phrs (D ++ [(o, c)]) = phrs D ++ [⟨o, c.toNat, false⟩] := by simp [phrs]
theorem phrs_length (D : List (Nat × UInt8)) : (phrs D).length = D.length := by simp [phrs]
def pzO (s : List (Nat × UInt8) × Nat) : List Phr := if s.2 = 0 then phrs s.1 else phrs s.1 ++ [⟨s.2, 0, true⟩]
def pzL (l : List UInt8) : List Phr := pzO (pz ([], 0) l)

/-- The text of a phrase by its number. -/
def txA (K : List (List UInt8)) (o : Nat) : List UInt8 := if o = 0 then [] else K.getD (o - 1) []
/-- Phrases and their texts. -/
structure Trie (D : List (Nat × UInt8)) (K : List (List UInt8)) : Prop where
  len : K.length = D.length
  of : ∀ (i o : Nat) (c : UInt8), D[i]? = some (o, c) → o ≤ i ∧ K[i]? = some (txA K o ++ [c])
  apart : ∀ (i j : Nat) (a : List UInt8), K[i]? = some a → K[j]? = some a → i = j
theorem Trie.nil : Trie [] [] := ⟨rfl, fun i o c h => by simp at h, fun i j a h => by simp at h⟩
theorem txA_succ (K : List (List UInt8)) (o : Nat) : txA K (o + 1) = K.getD o [] := by simp [txA]
theorem txA_some {K : List (List UInt8)} {o : Nat} (h0 : o ≠ 0) (h1 : o ≤ K.length) : K[o - 1]? = some (txA K o) := by
  rw [txA, if_neg h0, List.getD_eq_getElem?_getD, List.getElem?_eq_getElem (by omega)]; rfl
theorem Trie.ne {D : List (Nat × UInt8)} {K : List (List UInt8)} (h : Trie D K) {i : Nat} {a : List UInt8} (hi : K[i]? = some a) : ∃ o c, D[i]? = some (o, c) ∧ o ≤ i ∧ a = txA K o ++ [c] := by
  have hl : i < K.length := by
    rcases Nat.lt_or_ge i K.length with h' | h'
    · exact h'
    · rw [List.getElem?_eq_none h'] at hi; cases hi
  have hd : D[i]? = some (D[i]'(by rw [← h.len]; exact hl)) := List.getElem?_eq_getElem _
  obtain ⟨h1, h2⟩ := h.of i _ _ (show D[i]? = some ((D[i]'(by rw [← h.len]; exact hl)).1, (D[i]'(by rw [← h.len]; exact hl)).2) from hd)
  rw [hi] at h2
  exact ⟨_, _, hd, h1, Option.some.inj h2⟩
theorem Trie.inj {D : List (Nat × UInt8)} {K : List (List UInt8)} (h : Trie D K) {a b : Nat} (ha : a ≤ K.length) (hb : b ≤ K.length) (e : txA K a = txA K b) : a = b := by
  by_cases h0 : a = 0
  · by_cases h1 : b = 0
    · omega
    · obtain ⟨o, c, _, _, h2⟩ := h.ne (txA_some h1 hb)
      rw [← e, h0] at h2
      simp [txA] at h2
  · by_cases h1 : b = 0
    · obtain ⟨o, c, _, _, h2⟩ := h.ne (txA_some h0 ha)
      rw [e, h1] at h2
      simp [txA] at h2
    · have h2 := txA_some h1 hb
      rw [← e] at h2
      have := h.apart _ _ _ (txA_some h0 ha) h2
      omega
/-- There is a phrase with a byte more just if there is one with that text. -/
theorem Trie.step {D : List (Nat × UInt8)} {K : List (List UInt8)} (h : Trie D K) {o : Nat} {c : UInt8} (ho : o ≤ K.length) : (numOf D (o, c) = 0 ∧ ∀ i : Nat, K[i]? ≠ some (txA K o ++ [c])) ∨ (numOf D (o, c) ≠ 0 ∧ numOf D (o, c) ≤ K.length ∧ txA K (numOf D (o, c)) = txA K o ++ [c]) := by
  by_cases h0 : numOf D (o, c) = 0
  · refine Or.inl ⟨h0, fun i hi => ?_⟩
    obtain ⟨o', c', hd, hle, e⟩ := h.ne hi
    have hi2 : i < K.length := by
      rcases Nat.lt_or_ge i K.length with h' | h'
      · exact h'
      · rw [List.getElem?_eq_none h'] at hi; cases hi
    obtain ⟨e1, e2⟩ := List.append_inj' e rfl
    obtain rfl : o = o' := h.inj ho (by omega) e1
    obtain rfl : c = c' := by simpa using e2
    exact numOf_mem _ _ (List.mem_of_getElem? hd) h0
  · have hl := numOf_le (o, c) D
    have ha := numOf_at (o, c) D h0
    obtain ⟨_, h2⟩ := h.of _ _ _ ha
    refine Or.inr ⟨h0, by rw [h.len]; exact hl, ?_⟩
    have h3 := txA_some h0 (K := K) (by rw [h.len]; exact hl)
    rw [h2] at h3
    exact (Option.some.inj h3).symm
theorem txA_append {K : List (List UInt8)} {o : Nat} (a : List UInt8) (h : o ≤ K.length) : txA (K ++ [a]) o = txA K o := by
  by_cases h0 : o = 0
  · simp [txA, h0]
  · rw [txA, txA, if_neg h0, if_neg h0, List.getD_eq_getElem?_getD, List.getD_eq_getElem?_getD, List.getElem?_append_left (by omega)]
theorem Trie.push {D : List (Nat × UInt8)} {K : List (List UInt8)} (h : Trie D K) {o : Nat} {c : UInt8} (ho : o ≤ K.length) (h0 : numOf D (o, c) = 0) : Trie (D ++ [(o, c)]) (K ++ [txA K o ++ [c]]) := by
  have hno : ∀ i : Nat, K[i]? ≠ some (txA K o ++ [c]) := by
    rcases h.step (c := c) ho with ⟨_, h1⟩ | ⟨h1, _⟩
    · exact h1
    · exact absurd h0 h1
  have hlt : ∀ {i : Nat} {a : List UInt8}, K[i]? = some a → i < K.length := fun {i a} hi => by
    rcases Nat.lt_or_ge i K.length with h' | h'
    · exact h'
    · rw [List.getElem?_eq_none h'] at hi; cases hi
  have hcase : ∀ {i : Nat} {a : List UInt8}, (K ++ [txA K o ++ [c]])[i]? = some a → K[i]? = some a ∨ (i = K.length ∧ a = txA K o ++ [c]) := fun {i a} hi => by
    rcases Nat.lt_or_ge i K.length with h' | h'
    · rw [List.getElem?_append_left h'] at hi; exact Or.inl hi
    · rw [List.getElem?_append_right h'] at hi
      rcases Nat.eq_or_lt_of_le h' with e | e
      · refine Or.inr ⟨e.symm, ?_⟩
        rw [← e, Nat.sub_self] at hi
        simpa using hi.symm
      · rw [List.getElem?_eq_none (by simp; omega)] at hi; cases hi
  refine ⟨by simp [h.len], fun i o' c' hi => ?_, fun i j a hi hj => ?_⟩
  · rcases Nat.lt_or_ge i D.length with h' | h'
    · rw [List.getElem?_append_left h'] at hi
      obtain ⟨h1, h2⟩ := h.of i o' c' hi
      refine ⟨h1, ?_⟩
      rw [txA_append _ (by rw [h.len]; omega), List.getElem?_append_left (by rw [h.len]; exact h')]
      exact h2
    · rw [List.getElem?_append_right h'] at hi
      rcases Nat.eq_or_lt_of_le h' with e | e
      · rw [← e, Nat.sub_self] at hi
        obtain ⟨rfl, rfl⟩ : o = o' ∧ c = c' := by simpa using hi
        refine ⟨by rw [← e, ← h.len]; exact ho, ?_⟩
        rw [txA_append _ ho, ← e, ← h.len, List.getElem?_append_right (Nat.le_refl _), Nat.sub_self]; rfl
      · rw [List.getElem?_eq_none (by simp; omega)] at hi; cases hi
  · rcases hcase hi with h1 | ⟨h1, h2⟩
    · rcases hcase hj with h3 | ⟨h3, h4⟩
      · exact h.apart i j a h1 h3
      · exact absurd (h4 ▸ h1) (hno i)
    · rcases hcase hj with h3 | ⟨h3, h4⟩
      · exact absurd (h2 ▸ h3) (hno j)
      · omega

/-- What begins the text of a phrase is itself one's. -/
theorem Trie.closed {D : List (Nat × UInt8)} {K : List (List UInt8)} (h : Trie D K) : ∀ (n i : Nat) (a : List UInt8), i < n → K[i]? = some a → ∀ j, j ≤ a.length → ∃ o, o ≤ K.length ∧ txA K o = a.take j
  | 0, i, a, hn, _, _, _ => by omega
  | n + 1, i, a, hn, hi, j, hj => by
    have hl : i < K.length := by
      rcases Nat.lt_or_ge i K.length with h' | h'
      · exact h'
      · rw [List.getElem?_eq_none h'] at hi; cases hi
    obtain ⟨o, c, hd, hle, e⟩ := h.ne hi
    by_cases hja : j = a.length
    · refine ⟨i + 1, hl, ?_⟩
      rw [hja, List.take_length, txA_succ, List.getD_eq_getElem?_getD, hi]; rfl
    · have hj2 : j ≤ (txA K o).length := by rw [e] at hj hja; simp at hj hja; omega
      have ht : a.take j = (txA K o).take j := by rw [e, List.take_append_of_le_length hj2]
      by_cases h0 : o = 0
      · refine ⟨0, Nat.zero_le _, ?_⟩
        rw [ht, h0]; simp [txA]
      · obtain ⟨o2, h1, h2⟩ := h.closed n (o - 1) (txA K o) (by omega) (txA_some h0 (by omega)) j hj2
        exact ⟨o2, h1, by rw [h2, ht]⟩
/-- From the empty phrase along a text whose beginnings are all phrases'. -/
theorem Trie.walk {D : List (Nat × UInt8)} {K : List (List UInt8)} (h : Trie D K) (R : List UInt8) (best long : Nat) (hb : best ≤ K.length) (hR : long ≤ R.length) (ht : txA K best = R.take long) : pz (D, 0) (R.take long) = (D, best) := by
  have key : ∀ j, j ≤ long → ∃ n, n ≤ K.length ∧ txA K n = R.take j ∧ pz (D, 0) (R.take j) = (D, n) := by
    intro j
    induction j with
    | zero => intro _; exact ⟨0, Nat.zero_le _, by simp [txA], by simp [pz]⟩
    | succ j ih =>
      intro hj
      obtain ⟨n, h1, h2, h3⟩ := ih (by omega)
      have hlen : (txA K best).length = long := by rw [ht, List.length_take]; omega
      have hb0 : best ≠ 0 := by intro e; rw [e] at hlen; simp [txA] at hlen; omega
      obtain ⟨o, h4, h5⟩ := h.closed (best - 1 + 1) (best - 1) (txA K best) (by omega) (txA_some hb0 hb) (j + 1) (by omega)
      rw [ht, List.take_take, Nat.min_eq_left hj] at h5
      have hs : R.take (j + 1) = R.take j ++ [R[j]'(by omega)] := List.take_succ_eq_append_getElem (by omega)
      rw [hs] at h5
      have ho0 : o ≠ 0 := by
        intro e
        have h9 := congrArg List.length h5
        rw [e, List.length_append] at h9
        simp only [txA, if_true, List.length_nil, List.length_cons] at h9
        omega
      have hex := txA_some ho0 h4
      rw [h5, ← h2] at hex
      rcases h.step (c := R[j]'(by omega)) h1 with ⟨_, h6⟩ | ⟨h6, h7, h8⟩
      · exact absurd hex (h6 _)
      · refine ⟨_, h7, by rw [h8, h2, hs], ?_⟩
        rw [hs, pz_snoc, h3, pzS_old h6]
  obtain ⟨n, h1, h2, h3⟩ := key long (Nat.le_refl _)
  rw [h3, h.inj h1 hb (by rw [h2, ht])]
end Go.Proofs.YtgfejijaipggeaaDoor

/- Copies of what stood ahead: what both the program and the document answer. -/
namespace Go.Proofs.YtgfejijaipggeaaDoor

/-- How many bytes two texts begin with. -/
def cpL : List UInt8 → List UInt8 → Nat
  | x :: a, y :: b => if x = y then cpL a b + 1 else 0
  | _, _ => 0
theorem cpL_le : ∀ a b, cpL a b ≤ b.length
  | [], b => by simp [cpL]
  | x :: a, [] => by simp [cpL]
  | x :: a, y :: b => by
    have := cpL_le a b
    unfold cpL
    split
    · simp; omega
    · simp
theorem cpL_take : ∀ a b : List UInt8, (a.take (cpL a b)) = b.take (cpL a b)
  | [], b => by simp [cpL]
  | x :: a, [] => by simp [cpL]
  | x :: a, y :: b => by
    have := cpL_take a b
    unfold cpL
    split
    · next h => simp [h, this]
    · simp
theorem cpL_step (L : List UInt8) (f a n : Nat) (h1 : a + n < L.length) (h2 : f + n < L.length) : cpL (L.drop (f + n)) (L.drop (a + n)) = if L[f + n] = L[a + n] then cpL (L.drop (f + (n + 1))) (L.drop (a + (n + 1))) + 1 else 0 := by
  rw [List.drop_eq_getElem_cons h1, List.drop_eq_getElem_cons h2]
  rfl
theorem cpL_end (L : List UInt8) (f a n : Nat) (h1 : L.length ≤ a + n) : cpL (L.drop (f + n)) (L.drop (a + n)) = 0 := by
  rw [List.drop_eq_nil_of_le h1]
  cases L.drop (f + n) <;> rfl

/-- Of the first k places ahead the nearest of those that have most: how far back, and how much. -/
def bst (L : List UInt8) (at' : Nat) : Nat → Nat × Nat
  | 0 => (0, 0)
  | k + 1 => if (bst L at' k).2 < cpL (L.drop (at' - (k + 1))) (L.drop at') then (k + 1, cpL (L.drop (at' - (k + 1))) (L.drop at')) else bst L at' k
theorem bst_more {L : List UInt8} {p k : Nat} (h : (bst L p k).2 < cpL (L.drop (p - (k + 1))) (L.drop p)) : bst L p (k + 1) = (k + 1, cpL (L.drop (p - (k + 1))) (L.drop p)) := by
  show (if _ then _ else _) = _
  rw [if_pos h]
theorem bst_same {L : List UInt8} {p k : Nat} (h : ¬ (bst L p k).2 < cpL (L.drop (p - (k + 1))) (L.drop p)) : bst L p (k + 1) = bst L p k := by
  show (if _ then _ else _) = _
  rw [if_neg h]
theorem bst_le (L : List UInt8) (p : Nat) : ∀ k, (bst L p k).1 ≤ k ∧ (bst L p k).2 ≤ L.length - p
  | 0 => by simp [bst]
  | k + 1 => by
    have ih := bst_le L p k
    have hc := cpL_le (L.drop (p - (k + 1))) (L.drop p)
    rw [List.length_drop] at hc
    by_cases h : (bst L p k).2 < cpL (L.drop (p - (k + 1))) (L.drop p)
    · rw [bst_more h]; exact ⟨Nat.le_refl _, hc⟩
    · rw [bst_same h]; omega
theorem bst_zero (L : List UInt8) (p : Nat) : ∀ k, ((bst L p k).1 = 0 ↔ (bst L p k).2 = 0)
  | 0 => by simp [bst]
  | k + 1 => by
    have ih := bst_zero L p k
    by_cases h : (bst L p k).2 < cpL (L.drop (p - (k + 1))) (L.drop p)
    · rw [bst_more h]; simp; omega
    · rw [bst_same h]; exact ih
theorem bst_copy (L : List UInt8) (p : Nat) : ∀ k, (L.drop (p - (bst L p k).1)).take (bst L p k).2 = (L.drop p).take (bst L p k).2
  | 0 => by simp [bst]
  | k + 1 => by
    by_cases h : (bst L p k).2 < cpL (L.drop (p - (k + 1))) (L.drop p)
    · rw [bst_more h]; exact cpL_take _ _
    · rw [bst_same h]; exact bst_copy L p k

/-- A copy: how far back, how long, the byte behind it, whether it is the last. -/
structure Cpy where
  back : Nat
  len : Nat
  next : Nat
  last : Bool
/-- The copies of a text from a place on. -/
def slL (L : List UInt8) (w : Nat) : Nat → Nat → List Cpy
  | 0, _ => []
  | f + 1, p =>
    if p < L.length then
      (if p + (bst L p (min w p)).2 < L.length then ⟨(bst L p (min w p)).1, (bst L p (min w p)).2, (L.getD (p + (bst L p (min w p)).2) 0).toNat, false⟩ :: slL L w f (p + (bst L p (min w p)).2 + 1)
      else [⟨(bst L p (min w p)).1, (bst L p (min w p)).2, 0, true⟩])
    else []
theorem slL_end (L : List UInt8) (w f p : Nat) (h : L.length ≤ p) : slL L w f p = [] := by
  cases f with
  | zero => rfl
  | succ f => unfold slL; rw [if_neg (by omega)]
theorem slL_step (L : List UInt8) (w f p : Nat) (h : p < L.length) (h2 : p + (bst L p (min w p)).2 < L.length) : slL L w (f + 1) p = ⟨(bst L p (min w p)).1, (bst L p (min w p)).2, (L.getD (p + (bst L p (min w p)).2) 0).toNat, false⟩ :: slL L w f (p + (bst L p (min w p)).2 + 1) := by
  conv => lhs; unfold slL
  rw [if_pos h, if_pos h2]
theorem slL_last (L : List UInt8) (w f p : Nat) (h : p < L.length) (h2 : L.length ≤ p + (bst L p (min w p)).2) : slL L w (f + 1) p = [⟨(bst L p (min w p)).1, (bst L p (min w p)).2, 0, true⟩] := by
  conv => lhs; unfold slL
  rw [if_pos h, if_neg (by omega)]
end Go.Proofs.YtgfejijaipggeaaDoor

/- The program's search of the longest copy. -/
namespace Go.Proofs.YtgfejijaipggeaaDoor
open Go.RowKit

theorem ret_num {a b : Int} (h : a = b) : Ending.returned (.int .i64 a) = .returned (.int .i64 b) := by rw [h]
theorem byte_list (t : ByteArray) (k : Nat) (h : k < t.size) (h' : k < t.data.toList.length) : t.data.toList[k]'h' = t[k]'h := by simp; rfl
theorem size_lst (a : ByteArray) : a.data.toList.length = a.size := by rw [Array.length_toList]; rfl

theorem ext_list (T : ByteArray) (p : Nat) : (T.extract p T.size).data.toList = T.data.toList.drop p := by
  rw [ByteArray.data_extract, Array.toList_extract, List.extract_eq_take_drop, ← size_lst]
  exact List.take_of_length_le (by rw [List.length_drop]; exact Nat.le_refl _)
theorem ext_size (T : ByteArray) (p : Nat) : (T.extract p T.size).size = T.size - p := by rw [ByteArray.size_extract]; omega
/-- The box of a copy. -/
structure BoxC (w : World) (b : Nat) (r : Nat × Nat) : Prop where
  c0 : w.cell? ⟨b, 0, none⟩ = some (.int .i64 (r.1 : Int))
  c1 : w.cell? ⟨b, 1, none⟩ = some (.int .i64 (r.2 : Int))
  c2 : w.cell? ⟨b, 2, none⟩ = some (.int .u8 0)
  c3 : w.cell? ⟨b, 3, none⟩ = some (.bool false)
  fz : ∀ i, w.frozen? ⟨b, i, none⟩ = false

theorem four_cells {w : World} {b : Nat} {x0 x1 x2 x3 : Value} (v0 v1 v2 v3 : Value) (c0 : w.cell? ⟨b, 0, none⟩ = some x0) (c1 : w.cell? ⟨b, 1, none⟩ = some x1) (c2 : w.cell? ⟨b, 2, none⟩ = some x2) (c3 : w.cell? ⟨b, 3, none⟩ = some x3) :
    ((((w.setCell ⟨b, 0, none⟩ v0).setCell ⟨b, 1, none⟩ v1).setCell ⟨b, 2, none⟩ v2).setCell ⟨b, 3, none⟩ v3).cell? ⟨b, 0, none⟩ = some v0 ∧
    ((((w.setCell ⟨b, 0, none⟩ v0).setCell ⟨b, 1, none⟩ v1).setCell ⟨b, 2, none⟩ v2).setCell ⟨b, 3, none⟩ v3).cell? ⟨b, 1, none⟩ = some v1 ∧
    ((((w.setCell ⟨b, 0, none⟩ v0).setCell ⟨b, 1, none⟩ v1).setCell ⟨b, 2, none⟩ v2).setCell ⟨b, 3, none⟩ v3).cell? ⟨b, 2, none⟩ = some v2 ∧
    ((((w.setCell ⟨b, 0, none⟩ v0).setCell ⟨b, 1, none⟩ v1).setCell ⟨b, 2, none⟩ v2).setCell ⟨b, 3, none⟩ v3).cell? ⟨b, 3, none⟩ = some v3 := by
  refine ⟨?_, ?_, ?_, ?_⟩
  · rw [World.cell?_setCell_other _ _ _ _ (by simp), World.cell?_setCell_other _ _ _ _ (by simp), World.cell?_setCell_other _ _ _ _ (by simp)]
    exact World.cell?_setCell_same _ _ _ c0
  · rw [World.cell?_setCell_other _ _ _ _ (by simp), World.cell?_setCell_other _ _ _ _ (by simp)]
    exact World.cell?_setCell_same _ _ _ (by rw [World.cell?_setCell_other _ _ _ _ (by simp)]; exact c1)
  · rw [World.cell?_setCell_other _ _ _ _ (by simp)]
    exact World.cell?_setCell_same _ _ _ (by rw [World.cell?_setCell_other _ _ _ _ (by simp), World.cell?_setCell_other _ _ _ _ (by simp)]; exact c2)
  · exact World.cell?_setCell_same _ _ _ (by rw [World.cell?_setCell_other _ _ _ _ (by simp), World.cell?_setCell_other _ _ _ _ (by simp), World.cell?_setCell_other _ _ _ _ (by simp)]; exact c3)
theorem four_other {w : World} {b b' i : Nat} (v0 v1 v2 v3 : Value) (h : b' ≠ b) : ((((w.setCell ⟨b, 0, none⟩ v0).setCell ⟨b, 1, none⟩ v1).setCell ⟨b, 2, none⟩ v2).setCell ⟨b, 3, none⟩ v3).cell? ⟨b', i, none⟩ = w.cell? ⟨b', i, none⟩ := by
  rw [World.cell?_setCell_other _ _ _ _ (fun e => h (by cases e; rfl)), World.cell?_setCell_other _ _ _ _ (fun e => h (by cases e; rfl)), World.cell?_setCell_other _ _ _ _ (fun e => h (by cases e; rfl)), World.cell?_setCell_other _ _ _ _ (fun e => h (by cases e; rfl))]
theorem four_frozen {w : World} {b : Nat} {x : Addr} (v0 v1 v2 v3 : Value) : ((((w.setCell ⟨b, 0, none⟩ v0).setCell ⟨b, 1, none⟩ v1).setCell ⟨b, 2, none⟩ v2).setCell ⟨b, 3, none⟩ v3).frozen? x = w.frozen? x := by
  rw [World.frozen?_setCell, World.frozen?_setCell, World.frozen?_setCell, World.frozen?_setCell]
theorem four_below {w0 w : World} {b n : Nat} (v0 v1 v2 v3 : Value) (h : Below n w0 w) (hb : n ≤ b) : Below n w0 ((((w.setCell ⟨b, 0, none⟩ v0).setCell ⟨b, 1, none⟩ v1).setCell ⟨b, 2, none⟩ v2).setCell ⟨b, 3, none⟩ v3) :=
  (((h.setCell hb _).setCell hb _).setCell hb _).setCell hb _
theorem BoxC.set {w : World} {b : Nat} {r : Nat × Nat} (h : BoxC w b r) (x y : Nat) : BoxC ((((w.setCell ⟨b, 0, none⟩ (.int .i64 (x : Int))).setCell ⟨b, 1, none⟩ (.int .i64 (y : Int))).setCell ⟨b, 2, none⟩ (.int .u8 0)).setCell ⟨b, 3, none⟩ (.bool false)) b (x, y) := by
  obtain ⟨h0, h1, h2, h3⟩ := four_cells (.int .i64 (x : Int)) (.int .i64 (y : Int)) (.int .u8 0) (.bool false) h.c0 h.c1 h.c2 h.c3
  exact ⟨h0, h1, h2, h3, fun i => by rw [four_frozen]; exact h.fz i⟩
theorem BoxC.beside {w : World} {b b' : Nat} {r : Nat × Nat} (v0 v1 v2 v3 : Value) (h : BoxC w b r) (hne : b ≠ b') : BoxC ((((w.setCell ⟨b', 0, none⟩ v0).setCell ⟨b', 1, none⟩ v1).setCell ⟨b', 2, none⟩ v2).setCell ⟨b', 3, none⟩ v3) b r := by
  refine ⟨?_, ?_, ?_, ?_, fun i => by rw [four_frozen]; exact h.fz i⟩
  · rw [four_other _ _ _ _ hne]; exact h.c0
  · rw [four_other _ _ _ _ hne]; exact h.c1
  · rw [four_other _ _ _ _ hne]; exact h.c2
  · rw [four_other _ _ _ _ hne]; exact h.c3
theorem BoxC.drewN {w : World} {b : Nat} {r : Nat × Nat} (h : BoxC w b r) : ∀ m, BoxC (w.drewN m) b r
  | 0 => h
  | m + 1 => ⟨(h.drewN m).c0, (h.drewN m).c1, (h.drewN m).c2, (h.drewN m).c3, (h.drewN m).fz⟩
theorem BoxC.made (w : World) (t : TypeId) : BoxC (w.alloc (.cells #[.int .i64 0, .int .i64 0, .int .u8 0, .bool false] t)) w.heap.size (0, 0) :=
  ⟨by simp, by simp, by simp, by simp, fun i => World.frozen?_alloc_new w _ t i⟩
theorem BoxC.later {w w' : World} {b : Nat} {r : Nat × Nat} (h : BoxC w b r) (hb : Below w.heap.size w w') : BoxC w' b r := by
  have hl : b < w.heap.size := cell_lt h.c0
  refine ⟨?_, ?_, ?_, ?_, fun i => by rw [hb.frozen (p := ⟨b, i, none⟩) hl]; exact h.fz i⟩
  · rw [hb.cell (p := ⟨b, 0, none⟩) hl]; exact h.c0
  · rw [hb.cell (p := ⟨b, 1, none⟩) hl]; exact h.c1
  · rw [hb.cell (p := ⟨b, 2, none⟩) hl]; exact h.c2
  · rw [hb.cell (p := ⟨b, 3, none⟩) hl]; exact h.c3

end Go.Proofs.YtgfejijaipggeaaDoor

/- Rows that a call itself makes: they last, and grow. -/
namespace Go.Proofs.YtgfejijaipggeaaDoor
open Go.RowKit

theorem lzrow_later {w w' : World} {base : Nat} {t : TypeId} {sz : Nat} {v : Value} {n : Nat} {xs : List Value} (h : w.ownsRow base t sz v n xs) (hb : Below w.heap.size w w') : w'.ownsRow base t sz v n xs := by
  refine ⟨h.1, ?_⟩
  rcases h.2 with hn | ⟨g, cap, cur, hv, hg, hh, rest⟩
  · exact Or.inl hn
  · exact Or.inr ⟨g, cap, cur, hv, hg, (hb.block g (heap_lt hh)).trans hh, rest⟩
theorem lzrow_set {w : World} {base : Nat} {t : TypeId} {sz : Nat} {v : Value} {n : Nat} {xs : List Value} (h : w.ownsRow base t sz v n xs) (a : Addr) (x : Value) (hne : v.ownBlock ≠ some a.block) : (w.setCell a x).ownsRow base t sz v n xs := by
  refine ⟨h.1, ?_⟩
  rcases h.2 with hn | ⟨g, cap, cur, hv, hg, hh, rest⟩
  · exact Or.inl hn
  · refine Or.inr ⟨g, cap, cur, hv, hg, ?_, rest⟩
    rw [Below.heap_setCell _ _ _ _ (fun e => hne (by rw [hv, ← e]; rfl))]
    exact hh
theorem lz_push {B : Nat} {w0 wr w3 : World} {v : Value} {e : TypeId} {size n : Nat} {xs : List Value} (hB : Below B w0 wr) (hle : B ≤ wr.heap.size) (hR : wr.ownsRow B e size v n xs) (hg : wr.grownBy w3 v.ownBlock) : Below B w0 w3 :=
  hB.trans ((Below.refl _ _).grown hg hle (fun k e => (hR.lt k e).1))
theorem lzrow_form {w : World} {base : Nat} {t : TypeId} {sz : Nat} {v : Value} {n : Nat} {xs : List Value} (h : w.ownsRow base t sz v n xs) : ∃ ad cap, v = .slice ad n cap := by
  rcases h.2 with ⟨rfl, rfl⟩ | ⟨g, cap, cur, rfl, _⟩
  · exact ⟨_, _, rfl⟩
  · exact ⟨_, _, rfl⟩
theorem four_new (w : World) (x0 x1 x2 x3 : Value) (t : TypeId) (j : Nat) (u : Value) (h : [x0, x1, x2, x3][j]? = some u) : (w.alloc (.cells #[x0, x1, x2, x3] t)).cell? ((⟨w.heap.size, 0, none⟩ : Addr).add j) = some u := by
  rw [add_plain, World.cell?_alloc_at _ _ _ _ rfl, Nat.zero_add]
  rcases j with _ | _ | _ | _ | j
  · simpa using h
  · simpa using h
  · simpa using h
  · simpa using h
  · simp at h

/-- The cells of copies. -/
def cpyC (c : Cpy) : List Value := [.int .i64 (c.back : Int), .int .i64 (c.len : Int), .int .u8 (c.next : Int), .bool c.last]
def cpysC : List Cpy → List Value
  | [] => []
  | c :: r => cpyC c ++ cpysC r
theorem cpysC_append : ∀ a b, cpysC (a ++ b) = cpysC a ++ cpysC b
  | [], b => rfl
  | c :: a, b => by simp [cpysC, cpysC_append a b]
theorem cpysC_snoc (a : List Cpy) (c : Cpy) : cpysC (a ++ [c]) = cpysC a ++ [.int .i64 (c.back : Int), .int .i64 (c.len : Int), .int .u8 (c.next : Int), .bool c.last] := by
  rw [cpysC_append]; rfl
theorem cpysC_length : ∀ l, (cpysC l).length = l.length * 4
  | [] => rfl
  | c :: r => by simp [cpysC, cpyC, cpysC_length r]; omega
/-- Copies in memory, of whichever of the two types. -/
def CpyAt (w : World) (v : Value) (l : List Cpy) : Prop := ∃ ad cap, v = .slice ad l.length cap ∧ ∀ i c, l[i]? = some c → ∃ b o, ad = some ⟨b, o, none⟩ ∧ w.cell? ⟨b, o + i * 4, none⟩ = some (.int .i64 (c.back : Int)) ∧ w.cell? ⟨b, o + i * 4 + 1, none⟩ = some (.int .i64 (c.len : Int)) ∧ w.cell? ⟨b, o + i * 4 + 2, none⟩ = some (.int .u8 (c.next : Int)) ∧ w.cell? ⟨b, o + i * 4 + 3, none⟩ = some (.bool c.last)
theorem cpysC_at : ∀ (l : List Cpy) (i : Nat) (c : Cpy), l[i]? = some c → (cpysC l)[i * 4]? = some (.int .i64 (c.back : Int)) ∧ (cpysC l)[i * 4 + 1]? = some (.int .i64 (c.len : Int)) ∧ (cpysC l)[i * 4 + 2]? = some (.int .u8 (c.next : Int)) ∧ (cpysC l)[i * 4 + 3]? = some (.bool c.last)
  | [], i, c, h => by simp at h
  | d :: r, 0, c, h => by
    obtain rfl : d = c := by simpa using h
    exact ⟨rfl, rfl, rfl, rfl⟩
  | d :: r, i + 1, c, h => by
    obtain ⟨h0, h1, h2, h3⟩ := cpysC_at r i c (by simpa using h)
    have e : ∀ k, (cpysC (d :: r))[(i + 1) * 4 + k]? = (cpysC r)[i * 4 + k]? := fun k => by
      show (cpyC d ++ cpysC r)[(i + 1) * 4 + k]? = _
      rw [List.getElem?_append_right (by show 4 ≤ _; omega)]
      congr 1
      show (i + 1) * 4 + k - 4 = _
      omega
    exact ⟨by have := e 0; simp only [Nat.add_zero] at this; rw [this]; exact h0, by rw [e 1]; exact h1, by rw [e 2]; exact h2, by rw [e 3]; exact h3⟩
theorem cpyAt_row {w : World} {base : Nat} {t : TypeId} {v : Value} {l : List Cpy} (h : w.ownsRow base t 4 v l.length (cpysC l)) : CpyAt w v l := by
  rcases h.2 with ⟨rfl, hn⟩ | ⟨g, cap, cur, rfl, _⟩
  · obtain rfl : l = [] := List.eq_nil_of_length_eq_zero hn
    exact ⟨_, _, rfl, fun i c hc => by simp at hc⟩
  · refine ⟨_, _, rfl, fun i c hc => ⟨g, 0, rfl, ?_⟩⟩
    have hi : i < l.length := by
      rcases Nat.lt_or_ge i l.length with h' | h'
      · exact h'
      · rw [List.getElem?_eq_none h'] at hc; cases hc
    obtain ⟨h0, h1, h2, h3⟩ := cpysC_at l i c hc
    have e : ∀ j, j < l.length * 4 → w.cell? ⟨g, j, none⟩ = (cpysC l)[j]? := fun j hj => h.cellAt j hj
    rw [Nat.zero_add]
    refine ⟨?_, ?_, ?_, ?_⟩
    · rw [e _ (by omega)]; exact h0
    · rw [e _ (by omega)]; exact h1
    · rw [e _ (by omega)]; exact h2
    · rw [e _ (by omega)]; exact h3
theorem CpyAt.later {w w' : World} {v : Value} {l : List Cpy} (h : CpyAt w v l) (hb : Below w.heap.size w w') : CpyAt w' v l := by
  obtain ⟨ad, cap, hv, hc⟩ := h
  refine ⟨ad, cap, hv, fun i c hi => ?_⟩
  obtain ⟨b, o, ha, h0, h1, h2, h3⟩ := hc i c hi
  refine ⟨b, o, ha, ?_, ?_, ?_, ?_⟩
  · rw [hb.cell (cell_lt h0)]; exact h0
  · rw [hb.cell (cell_lt h1)]; exact h1
  · rw [hb.cell (cell_lt h2)]; exact h2
  · rw [hb.cell (cell_lt h3)]; exact h3
end Go.Proofs.YtgfejijaipggeaaDoor

/- The program's Parse: phrases in a map. -/
namespace Go.Proofs.YtgfejijaipggeaaDoor
open Go.RowKit Go.Maps

theorem Tryd.zeroPz (w : World) : (zeroValue 3).run Tryd.prog w = .ok (.int .i64 0) w := by kernel_rfl
theorem Tryd.widePhr : (match Tryd.prog.underlying 76 with | some (.array _ _) | some (.struct _) => true | _ => false) = true := by rw [Tryd.underlying76]
theorem Tryd.rowPhr : (76 : TypeId) < Tryd.prog.types.size := of_decide_eq_true (by kernel_rfl)
theorem Tryd.cellsPhr : Tryd.prog.cellsOf 76 = 3 := by kernel_rfl
theorem Tryd.laidPz : laidOutB Tryd.prog = true := by kernel_rfl
set_option maxRecDepth 100000 in
theorem Tryd.lawPhr : Keyed Tryd.prog 76 := Keyed.of_law (deep_law_laid Tryd.laidPz (m := 2) (by omega) Tryd.rowPhr (by kernel_rfl) Tryd.widePhr)
theorem Tryd.infoPhr : (Tryd.prog.info? 76).map (fun i => (i.zero, i.size, i.bytes)) = some (some (.agg #[.int .i64 0, .int .u8 0, .bool false]), 3, 16) := by kernel_rfl

/-- A phrase as a key. -/
def phrV (o : Nat) (c : UInt8) : Value := .agg #[.int .i64 (o : Int), .int .u8 (c.toNat : Int), .bool false]
def phrK (o : Nat) (c : UInt8) : Lit := .string (keyBytes [.int .i64 (o : Int), .int .u8 (c.toNat : Int), .bool false])
theorem wf_i64 (o : Nat) (h : o ≤ 1000000) : (Lit.int .i64 (o : Int)).wf = true := by
  have h1 : IntKind.i64.min = -9223372036854775808 := by decide
  have h2 : IntKind.i64.max = 9223372036854775807 := by decide
  simp only [Lit.wf, h1, h2, Bool.and_eq_true, decide_eq_true_eq]
  omega
theorem wf_u8 (c : UInt8) : (Lit.int .u8 (c.toNat : Int)).wf = true := by
  have h0 := c.toNat_lt
  have h1 : IntKind.u8.min = 0 := by decide
  have h2 : IntKind.u8.max = 255 := by decide
  simp only [Lit.wf, h1, h2, Bool.and_eq_true, decide_eq_true_eq]
  omega
theorem phrK_is (o : Nat) (c : UInt8) (h : o ≤ 1000000) : keyOf Tryd.prog 76 (phrV o c) = some (phrK o c) := by
  have hk : Tryd.prog.keyType 76 = true := by kernel_rfl
  have hf : (phrV o c).formed Tryd.prog 76 = true := by simp [phrV, Value.formed, Tryd.underlying76, Tryd.cellsPhr]
  have hs : Tryd.prog.keyLits (Tryd.prog.types.size + 1) 76 (phrV o c).cells.toList = some [.int .i64 (o : Int), .int .u8 (c.toNat : Int), .bool false] := by
    obtain ⟨m, hm⟩ : ∃ m, Tryd.prog.types.size = m + 1 := ⟨214 - 1, by kernel_rfl⟩
    have e0 : Tryd.prog.cellsOf 3 = 1 := by kernel_rfl
    have e1 : Tryd.prog.cellsOf 5 = 1 := by kernel_rfl
    have e2 : Tryd.prog.cellsOf 4 = 1 := by kernel_rfl
    rw [hm]
    simp [Program.keyLits, phrV, Value.cells, Tryd.underlying76, Tryd.underlying3, Tryd.underlying5, Tryd.underlying4, Tryd.cellsPhr, e0, e1, e2, wf_i64 o h, wf_u8 c]
  unfold keyOf
  rw [Tryd.underlying76]
  show (if _ then _ else _) = _
  rw [if_pos (by rw [hk, hf]; rfl), hs]
  rfl
theorem phrK_inj {o o' : Nat} {c c' : UInt8} (h : o ≤ 1000000) (h' : o' ≤ 1000000) (e : phrK o c = phrK o' c') : o = o' ∧ c = c' := by
  have h1 := phrK_is o c h
  have h2 := phrK_is o' c' h'
  rw [← e] at h2
  have := Tryd.lawPhr.inj h1 h2
  simp only [phrV, Value.agg.injEq, Array.mk.injEq, List.cons.injEq, Value.int.injEq, and_true, true_and] at this
  exact ⟨by omega, UInt8.toNat_inj.1 (by omega)⟩

/-- The cells of phrases. -/
def phrC (p : Phr) : List Value := [.int .i64 (p.of : Int), .int .u8 (p.next : Int), .bool p.last]
def phrsC : List Phr → List Value
  | [] => []
  | c :: r => phrC c ++ phrsC r
theorem phrsC_append : ∀ a b, phrsC (a ++ b) = phrsC a ++ phrsC b
  | [], b => rfl
  | c :: a, b => by simp [phrsC, phrsC_append a b]
theorem phrsC_snoc (a : List Phr) (c : Phr) : phrsC (a ++ [c]) = phrsC a ++ [.int .i64 (c.of : Int), .int .u8 (c.next : Int), .bool c.last] := by
  rw [phrsC_append]; rfl
theorem three_new (w : World) (x0 x1 x2 : Value) (t : TypeId) (j : Nat) (u : Value) (h : [x0, x1, x2][j]? = some u) : (w.alloc (.cells #[x0, x1, x2] t)).cell? ((⟨w.heap.size, 0, none⟩ : Addr).add j) = some u := by
  rw [add_plain, World.cell?_alloc_at _ _ _ _ rfl, Nat.zero_add]
  rcases j with _ | _ | _ | j
  · simpa using h
  · simpa using h
  · simpa using h
  · simp at h
theorem cell_grown {w w' : World} {row : Option Nat} {B o : Nat} {v : Value} (hg : w.grownBy w' row) (hc : w.cell? ⟨B, o, none⟩ = some v) (hne : some B ≠ row) : w'.cell? ⟨B, o, none⟩ = some v := by
  have hlt := cell_lt hc
  have := World.cell?_of_block (a := ⟨B, o, none⟩) (w := w) (hg.block B hlt hne)
  rw [this]; exact hc
theorem atPz {D : DataW Unit} {n : Nat} {kl : Lit} {x : Int} (h : D.atKey kl (.lit (.int .i64 0)) = .lit (.int .i64 (n : Int))) (hat : D.atKey kl (.lit (.int .i64 0)) = .lit (.int .i64 x)) : x = (n : Int) := by
  rw [h] at hat
  simpa using hat.symm

/-- What Parse finds in memory. -/
structure InPz (w wr : World) (sv : Value) (D : List (Nat × UInt8)) (M : DataW Unit) : Prop where
  row : wr.ownsRow (w.heap.size + 1) 76 3 sv D.length (phrsC (phrs D))
  own : wr.ownsMap Tryd.prog 76 (plainElem (H := Unit) Tryd.prog 3) w.heap.size D.length M
  at' : ∀ o c, o ≤ 1000000 → M.atKey (phrK o c) (.lit (.int .i64 0)) = .lit (.int .i64 (numOf D (o, c) : Nat))
  isM : IsMap M
  below : Below w.heap.size w wr

theorem InPz.push {w w3 w4 : World} {sv' : Value} {D : List (Nat × UInt8)} {M : DataW Unit} {o : Nat} {c : UInt8} (hrow : w3.ownsRow (w.heap.size + 1) 76 3 sv' (D.length + 1) (phrsC (phrs D) ++ [.int .i64 (o : Int), .int .u8 (c.toNat : Int), .bool false])) (hb3 : Below w.heap.size w w3) (hM : IsMap M)
    (hat : ∀ o c, o ≤ 1000000 → M.atKey (phrK o c) (.lit (.int .i64 0)) = .lit (.int .i64 (numOf D (o, c) : Nat))) (ho4 : w4.ownsMap Tryd.prog 76 (plainElem (H := Unit) Tryd.prog 3) w.heap.size (D.length + 1) (M.put (phrK o c) (.lit (.int .i64 ((D.length : Int) + 1)))))
    (hg4 : w3.grownBy w4 (some w.heap.size)) (hn : numOf D (o, c) = 0) (ho : o ≤ 1000000) : InPz w w4 sv' (D ++ [(o, c)]) (M.put (phrK o c) (.lit (.int .i64 ((D.length : Int) + 1)))) := by
  have hne : sv'.ownBlock = none ∨ sv'.ownBlock ≠ some w.heap.size := Or.inr fun e => by have := (hrow.lt _ e).1; omega
  refine ⟨?_, by rw [List.length_append]; exact ho4, fun o' c' h' => ?_, hM.put _ _, hb3.trans ((Below.refl _ _).grown hg4 hb3.size (fun k e => by simp at e; omega))⟩
  · rw [phrs_snoc, phrsC_snoc, List.length_append]
    exact hrow.kept hg4 hne
  · rw [numOf_snoc]
    by_cases he : (o, c) = (o', c')
    · simp only [Prod.mk.injEq] at he
      obtain ⟨rfl, rfl⟩ := he
      rw [atKey_put_same hM (show WideAt.IsKeyLit (phrK o c) from trivial), hn]
      simp
    · rw [atKey_put_other (fun e => he (by obtain ⟨h1, h2⟩ := phrK_inj h' ho e; rw [h1, h2])), hat o' c' h', if_neg he]
      by_cases h0 : numOf D (o', c') = 0
      · simp [h0]
      · simp [h0]

set_option maxRecDepth 100000 in
set_option maxHeartbeats 2000000 in
theorem Parse_ok (T : ByteArray) (w : World) (hs : T.size ≤ 4000) :
    Calls Tryd.prog 36 #[.string T] w fun e w' => ∃ v, e = .returned (.tuple #[v, .nilIface]) ∧ w'.ownsRow (w.heap.size + 1) 76 3 v (pzL T.data.toList).length (phrsC (pzL T.data.toList)) ∧ Below w.heap.size w w' := by
  obtain ⟨i, hi, hi2⟩ := Option.map_eq_some_iff.1 Tryd.infoPhr
  obtain ⟨hz, hsz, hby⟩ : i.zero = some (.agg #[.int .i64 0, .int .u8 0, .bool false]) ∧ i.size = 3 ∧ i.bytes = 16 := by simpa using hi2
  have HINF := Hid.mk' (And.intro hi (And.intro hz (And.intro hsz hby)))
  clear hi hi2 hz hsz hby
  have HLL : Hid (T.data.toList.length = T.size) := size_lst T
  have hsI : ¬ (4000 : Int) < (T.size : Int) := by omega
  have hmm := @run_makeMap Tryd.prog
  go_enter Tryd.func36, Tryd.ntmps36
  go_wp2_with fail
  go_loopw [5, 6, 16] (fun s x t wr => ∃ (k o : Nat) (D : List (Nat × UInt8)) (M : DataW Unit), t = .int .i64 (k : Int) ∧ x = .int .i64 (o : Int) ∧ k ≤ T.size ∧ D.length ≤ k ∧ o ≤ D.length ∧ Hid (InPz w wr s D M) ∧ Hid (pz ([], 0) (T.data.toList.take k) = (D, o))) (fun _ _ t _ => T.size - (intOf t).toNat)
  case atStart => exact ⟨0, 0, [], .map [], rfl, rfl, Nat.zero_le _, Nat.le_refl _, Nat.le_refl _, ⟨World.ownsRow_nil _ _ _ _, World.ownsMap_made _ _ _ _, fun o c _ => rfl, isMap_empty, (Below.refl _ _).alloc (Nat.le_refl _) _⟩, by show _ = _; simp [pz]⟩
  case round =>
    obtain ⟨k, o, D, M, rfl, rfl, hk, hD, ho, HI, HP⟩ := hrel
    rcases Nat.lt_or_ge k T.size with h1 | h1
    · have hkI : (k : Int) < (T.size : Int) := by omega
      have hle := HI.out.below.size
      obtain ⟨c, hc⟩ : ∃ c, c = T[k]'h1 := ⟨_, rfl⟩
      have HTK : Hid (pz ([], 0) (T.data.toList.take (k + 1)) = pzS (D, o) c) := by
        show _ = _
        rw [List.take_succ_eq_append_getElem (by rw [HLL.out]; exact h1), pz_snoc, HP.out, byte_list T k h1 (by rw [HLL.out]; exact h1), hc]
      have hcI : ((T[k]'h1).toNat : Int) = (c.toNat : Int) := by rw [hc]
      clear hc
      have HKEY := Hid.mk' (phrK_is o c (by omega))
      have HAT := Hid.mk' (HI.out.at' o c (by omega))
      have hnl := numOf_le (o, c) D
      have HOW := Hid.mk' (HI.out.own.alloc (.cells #[.int .i64 (o : Int), .int .u8 (c.toNat : Int), .bool false] 76))
      have hml : Hid (w.heap.size < wr.heap.size) := HI.out.own.lt
      by_cases hn : numOf D (o, c) = 0
      · have HTK := Hid.mk' (HTK.out.trans (pzS_new hn))
        rw [hn] at HAT
        have HRR := Hid.mk' ((HI.out.row.alloc (.cells #[.int .i64 (o : Int), .int .u8 (c.toNat : Int), .bool false] 76)).alloc (.cells #[.int .i64 (o : Int), .int .u8 (c.toNat : Int), .bool false] 76))
        have HNE : Hid (some wr.heap.size ≠ u5.ownBlock) := fun e => by have := (HI.out.row.lt _ e.symm).2; omega
        have HNM : Hid (some w.heap.size ≠ u5.ownBlock) := fun e => by have := (HI.out.row.lt _ e.symm).1; omega
        have HC3 : Hid (((wr.alloc (.cells #[.int .i64 (o : Int), .int .u8 (c.toNat : Int), .bool false] 76)).alloc (.cells #[.int .i64 (o : Int), .int .u8 (c.toNat : Int), .bool false] 76)).cell? ⟨wr.heap.size, 0, none⟩ = some (.int .i64 (o : Int)) ∧ ((wr.alloc (.cells #[.int .i64 (o : Int), .int .u8 (c.toNat : Int), .bool false] 76)).alloc (.cells #[.int .i64 (o : Int), .int .u8 (c.toNat : Int), .bool false] 76)).cell? ⟨wr.heap.size, 1, none⟩ = some (.int .u8 (c.toNat : Int)) ∧ ((wr.alloc (.cells #[.int .i64 (o : Int), .int .u8 (c.toNat : Int), .bool false] 76)).alloc (.cells #[.int .i64 (o : Int), .int .u8 (c.toNat : Int), .bool false] 76)).cell? ⟨wr.heap.size, 2, none⟩ = some (.bool false)) := by
          refine ⟨?_, ?_, ?_⟩ <;> (rw [World.cell?_alloc_lt _ _ _ (by simp), World.cell?_alloc_at _ _ _ _ rfl]; rfl)
        have HN0 : Hid (∀ j u, [Value.int .i64 (o : Int), .int .u8 (c.toNat : Int), .bool false][j]? = some u → ((wr.alloc (.cells #[.int .i64 (o : Int), .int .u8 (c.toNat : Int), .bool false] 76)).alloc (.cells #[.int .i64 (o : Int), .int .u8 (c.toNat : Int), .bool false] 76)).cell? ((⟨wr.heap.size + 1, 0, none⟩ : Addr).add j) = some u) := fun j u hu => by
          have := three_new (wr.alloc (.cells #[.int .i64 (o : Int), .int .u8 (c.toNat : Int), .bool false] 76)) (.int .i64 (o : Int)) (.int .u8 (c.toNat : Int)) (.bool false) 76 j u hu
          simpa using this
        have HBB : Hid (Below w.heap.size w ((wr.alloc (.cells #[.int .i64 (o : Int), .int .u8 (c.toNat : Int), .bool false] 76)).alloc (.cells #[.int .i64 (o : Int), .int .u8 (c.toNat : Int), .bool false] 76))) := (HI.out.below.alloc hle _).alloc (by simp; omega) _
        have HWF : Hid ((Lit.int .i64 ((D.length : Int) + 1)).wf = true) := by show _ = _; have := wf_i64 (D.length + 1) (by omega); simpa using this
        go_wp2_with (first
          | (at_lookup; go_must (refine wpList_lookup_own_int _ rfl _ _ 108 rfl 76 3 .i64 Tryd.lawPhr Tryd.underlying108 Tryd.underlying3 (Tryd.zeroPz _) w.heap.size _ _ rfl HOW.out _ _ rfl HKEY.out ?_; intro x hat hwc; have hcc := atPz HAT.out hat; clear hat hwc; subst hcc))
          | (at_mapUpdate; go_must (refine wpList_mapUpdate_own _ rfl _ _ _ 108 rfl 76 3 Tryd.lawPhr Tryd.underlying108 _ w.heap.size _ _ rfl HM3.out (by unfold maxLen; omega) _ _ _ rfl rfl HKEY.out _ [] (plainElem_int Tryd.underlying3 HWF.out) ?_; intro w4 hown4 hgrow4; have HO4 := Hid.mk' hown4; have HG4 := Hid.mk' hgrow4; clear hown4 hgrow4))
          | (at_builtin; go_must (refine wpList_append_lies _ rfl _ _ _ rfl (w.heap.size + 1) 76 i _ 3 16 Tryd.underlying72 HINF.out.1 HINF.out.2.1 HINF.out.2.2.1 HINF.out.2.2.2 rfl (by omega) u5 D.length (phrsC (phrs D)) rfl HRR.out ⟨wr.heap.size + 1, 0, none⟩ 1 1 [.int .i64 (o : Int), .int .u8 (c.toNat : Int), .bool false] rfl rfl HN0.out (by simp [Value.oneCell']) (by omega) (by unfold maxLen; omega) (by omega) (by have := hml.out; simp; omega) _ rfl ?_; intro g' cap' w3 hown3 hgrow3 hat3 hlt3; have b0 := cell_grown hgrow3 HC3.out.1 HNE.out; have b1 := cell_grown hgrow3 HC3.out.2.1 HNE.out; have b2 := cell_grown hgrow3 HC3.out.2.2 HNE.out; have HM3 := Hid.mk' ((HOW.out.alloc (.cells #[.int .i64 (o : Int), .int .u8 (c.toNat : Int), .bool false] 76)).kept hgrow3 HNM.out); have HW3 := Hid.mk' hown3; have HB3 := Hid.mk' (HBB.out.trans ((Below.refl _ _).grown hgrow3 (by simp; omega) (fun k e => by have := (HRR.out.lt k e).1; omega))); clear hown3 hgrow3 hat3)))
        exact ⟨⟨k + 1, 0, D ++ [(o, c)], _, by go_num, rfl, h1, by simp; omega, Nat.zero_le _, InPz.push HW3.out HB3.out HI.out.isM HI.out.at' HO4.out HG4.out hn (by omega), HTK⟩, by simp [intOf]; omega⟩
      · have HTK := Hid.mk' (HTK.out.trans (pzS_old hn))
        generalize hnn : numOf D (o, c) = n at *
        have hnb : ((n : Int) == 0) = false := by rw [beq_eq_false_iff_ne]; omega
        clear hnn
        go_wp2_with (at_lookup; go_must (refine wpList_lookup_own_int _ rfl _ _ 108 rfl 76 3 .i64 Tryd.lawPhr Tryd.underlying108 Tryd.underlying3 (Tryd.zeroPz _) w.heap.size _ _ rfl HOW.out _ _ rfl HKEY.out ?_; intro x hat hwc; have hcc := atPz HAT.out hat; clear hat hwc; subst hcc))
        exact ⟨⟨k + 1, n, D, M, by go_num, rfl, h1, by omega, hnl, ⟨HI.out.row.alloc _, HOW.out, HI.out.at', HI.out.isM, HI.out.below.alloc hle _⟩, HTK⟩, by simp [intOf]; omega⟩
    · obtain rfl : k = T.size := by omega
      have hle := HI.out.below.size
      have hkI : ¬ (T.size : Int) < (T.size : Int) := by omega
      have HE : Hid (pzL T.data.toList = pzO (D, o)) := by
        show pzO _ = _
        have := HP.out
        rw [List.take_of_length_le (by rw [HLL.out]; exact Nat.le_refl _)] at this
        rw [this]
      by_cases h0 : o = 0
      · have HE2 : Hid (pzL T.data.toList = phrs D) := by show _ = _; rw [HE.out, pzO, if_pos h0]
        subst h0
        go_wp2_with fail
        go_ret2
        exact ⟨_, rfl, by rw [HE2.out, phrs_length]; exact HI.out.row, HI.out.below⟩
      · have HE2 : Hid (pzL T.data.toList = phrs D ++ [⟨o, 0, true⟩]) := by show _ = _; rw [HE.out, pzO, if_neg h0]
        have h0I : (0 : Int) < (o : Int) := by omega
        have HRR := Hid.mk' (HI.out.row.alloc (.cells #[.int .i64 (o : Int), .int .u8 0, .bool true] 76))
        have hml : Hid (w.heap.size < wr.heap.size) := HI.out.own.lt
        have HN0 : Hid (∀ j u, [Value.int .i64 (o : Int), .int .u8 0, .bool true][j]? = some u → (wr.alloc (.cells #[.int .i64 (o : Int), .int .u8 0, .bool true] 76)).cell? ((⟨wr.heap.size, 0, none⟩ : Addr).add j) = some u) := fun j u hu => three_new wr (.int .i64 (o : Int)) (.int .u8 0) (.bool true) 76 j u hu
        have HBB : Hid (Below w.heap.size w (wr.alloc (.cells #[.int .i64 (o : Int), .int .u8 0, .bool true] 76))) := HI.out.below.alloc hle _
        go_wp2_with (at_builtin; go_must (refine wpList_append_lies _ rfl _ _ _ rfl (w.heap.size + 1) 76 i _ 3 16 Tryd.underlying72 HINF.out.1 HINF.out.2.1 HINF.out.2.2.1 HINF.out.2.2.2 rfl (by omega) u5 D.length (phrsC (phrs D)) rfl HRR.out ⟨wr.heap.size, 0, none⟩ 1 1 [.int .i64 (o : Int), .int .u8 0, .bool true] rfl rfl HN0.out (by simp [Value.oneCell']) (by omega) (by unfold maxLen; omega) (by omega) (by have := hml.out; simp; omega) _ rfl ?_; intro g' cap' w3 hown3 hgrow3 hat3 hlt3; have HW3 := Hid.mk' hown3; have HB3 := Hid.mk' (HBB.out.trans ((Below.refl _ _).grown hgrow3 (by simp; omega) (fun k e => by have := (HRR.out.lt k e).1; omega))); clear hown3 hgrow3 hat3))
        go_ret2
        exact ⟨_, rfl, by rw [HE2.out, phrsC_snoc, List.length_append, phrs_length]; exact HW3.out, HB3.out⟩
end Go.Proofs.YtgfejijaipggeaaDoor

/- The closed fact at the head of chapter 6's laws: the phrases of aab. -/
namespace Go.Proofs.YtgfejijaipggeaaDoor
open Go.RowKit

theorem ab_phr : pzL [97, 97, 98] = [⟨0, 97, false⟩, ⟨1, 98, false⟩] := by rfl
set_option maxRecDepth 100000 in
set_option maxHeartbeats 1000000 in
theorem abab_any (w : World) : Calls Tryd.prog 14 #[] w fun e w' => e = .returned (.bool true) ∧ Below w.heap.size w w' := by
  have hP := Parse_ok ⟨#[97, 97, 98]⟩ w (by decide)
  have e : (ByteArray.mk #[97, 97, 98]).data.toList = [97, 97, 98] := rfl
  rw [e, ab_phr] at hP
  clear e
  go_enter Tryd.func14, Tryd.ntmps14
  go_wp2_with fail
  refine hP.mono ?_
  clear hP
  rintro e w1 ⟨v, rfl, hr, hb⟩
  obtain ⟨ad, cap, rfl, g, rfl⟩ : ∃ ad cap, v = .slice ad 2 cap ∧ ∃ g, ad = some ⟨g, 0, none⟩ := by
    rcases hr.2 with ⟨rfl, h0⟩ | ⟨g, cap, cur, rfl, _⟩
    · cases h0
    · exact ⟨_, _, rfl, g, rfl⟩
  have c : ∀ j, j < 6 → w1.cell? ⟨g, j, none⟩ = (phrsC [⟨0, 97, false⟩, ⟨1, 98, false⟩])[j]? := fun j hj => hr.cellAt j hj
  have c0 := c 0 (by decide)
  have c1 := c 1 (by decide)
  have c2 := c 2 (by decide)
  have c3 := c 3 (by decide)
  have c4 := c 4 (by decide)
  have c5 := c 5 (by decide)
  simp only [phrsC, phrC, List.cons_append, List.nil_append, List.getElem?_cons_zero, List.getElem?_cons_succ] at c0 c1 c2 c3 c4 c5
  have HB := Hid.mk' hb
  clear hr hb c
  go_wp2_with fail
  go_ret
  exact ⟨rfl, HB.out⟩
end Go.Proofs.YtgfejijaipggeaaDoor

/- coded of an error by its number. -/
namespace Go.Proofs.YtgfejijaipggeaaDoor
open Go.RowKit

theorem coded_errV (a : Nat → Addr) (c : Nat) (hc : c ≤ 8) (w : World) (h : Errs w a) :
    Calls Tryd.prog 19 #[errV a c, .int .i64 (c : Int)] w fun e w' => e = .returned (.bool true) ∧ Below w.heap.size w w' := by
  by_cases h0 : c = 0
  · subst h0
    rw [errV_zero]
    refine (coded_nil 0 w).mono ?_
    rintro e w' ⟨rfl, rfl⟩
    exact ⟨rfl, Below.refl _ _⟩
  · rw [errV_pos a h0]
    have h1 := coded_err a (c - 1) (by omega) (c : Int) w h
    have e : decide ((c : Int) = ((c - 1 : Nat) : Int) + 1) = true := decide_eq_true (by omega)
    rw [e] at h1
    exact h1
end Go.Proofs.YtgfejijaipggeaaDoor

/- The law LempelChance. -/
namespace Go.Proofs.YtgfejijaipggeaaDoor
open Go.RowKit

theorem low_nat (N D : Nat) : lowN D (N : Int) = ((N / Nat.gcd N D : Nat) : Int) ∧ lowD D (N : Int) = D / Nat.gcd N D := by
  unfold lowN lowD lowG
  rw [Int.natAbs_natCast]
  exact ⟨rfl, rfl⟩
/-- A fraction in a box. -/
structure FrAt (w : World) (b : Nat) (p q : Int) : Prop where
  c0 : w.cell? ⟨b, 0, none⟩ = some (.int .i64 p)
  c1 : w.cell? ⟨b, 1, none⟩ = some (.int .i64 q)
  f0 : w.frozen? ⟨b, 0, none⟩ = false
  f1 : w.frozen? ⟨b, 1, none⟩ = false
theorem FrAt.later {w w' : World} {b : Nat} {p q : Int} (h : FrAt w b p q) (hb : Below w.heap.size w w') : FrAt w' b p q :=
  ⟨by rw [hb.cell (cell_lt h.c0)]; exact h.c0, by rw [hb.cell (cell_lt h.c1)]; exact h.c1, by rw [hb.frozen (show b < w.heap.size from cell_lt h.c0)]; exact h.f0, by rw [hb.frozen (show b < w.heap.size from cell_lt h.c0)]; exact h.f1⟩
theorem FrAt.fresh (w : World) (p q : Int) : FrAt (w.alloc (.cells #[.int .i64 p, .int .i64 q] 38)) w.heap.size p q := by
  have := res_past (x := .int .i64 p) (y := .int .i64 q) (w := w) (t := 38) (Below.refl _ _)
  exact ⟨this.1, this.2.1, this.2.2.1, this.2.2.2⟩
theorem FrAt.put {w : World} {b : Nat} {p q : Int} (h : FrAt w b p q) (x y : Int) : FrAt ((w.setCell ⟨b, 0, none⟩ (.int .i64 x)).setCell ⟨b, 1, none⟩ (.int .i64 y)) b x y := by
  have := put_two (.int .i64 x) (.int .i64 y) h.c0 h.c1
  exact ⟨this.2.1, this.2.2, by rw [World.frozen?_setCell, World.frozen?_setCell]; exact h.f0, by rw [World.frozen?_setCell, World.frozen?_setCell]; exact h.f1⟩

set_option maxRecDepth 100000 in
set_option maxHeartbeats 4000000 in
theorem LempelChance_all (a : Nat → Addr) (s : ByteArray) (w : World) (hE : Errs w a) (hT : s.size ≤ maxLen) :
    Calls Tryd.prog 4 #[.string s] w fun e w' => e = .returned (.bool true) ∧ Below w.heap.size w w' := by
  have hA := abab_any w
  unfold maxLen at hT
  by_cases h4 : 400 < s.size
  · have h4I : (400 : Int) < (s.size : Int) := by omega
    clear hE
    go_enter Tryd.func4, Tryd.ntmps4
    go_wp2_with fail
    refine hA.mono ?_
    rintro e w1 ⟨rfl, hb1⟩
    have HB1 := Hid.mk' hb1
    clear hb1 hA
    go_wp2_with fail
    go_ret
    exact ⟨rfl, HB1.out⟩
  · have h4I : ¬ (400 : Int) < (s.size : Int) := by omega
    by_cases hc : bitsE s = 0
    · have HBE := Hid.mk' (fun W => BitsError_any s W (by omega))
      rw [hc] at HBE
      obtain ⟨hs, hbb⟩ := bitsE_ok hc
      have HLR := Hid.mk' (fun W => LearntOf_any s W hs (fun i hi => bit_at hi hbb))
      have hle := lnN_le s s.size
      have hsm := (lnD_small (i := s.size) (by omega)).1
      have hln := low_nat (lnN s s.size) (lnD s.size)
      rw [hln.1, hln.2] at HLR
      obtain ⟨p, q, y, c, HOT, HCH, HCO⟩ : ∃ (p q : Int) (y : Value) (c : Int), Hid (∀ W v, RatioAt W v ((lnN s s.size / Nat.gcd (lnN s s.size) (lnD s.size) : Nat) : Int) (lnD s.size / Nat.gcd (lnN s s.size) (lnD s.size)) → Calls Tryd.prog 16 #[v] W fun e w' => e = .returned (.tuple #[.agg #[.int .i64 p, .int .i64 q], .int .i64 c]) ∧ Below W.heap.size W w') ∧ Hid (∀ W, Below w.heap.size w W → Calls Tryd.prog 18 #[.string s] W fun e w' => e = .returned (.tuple #[.agg #[.int .i64 p, .int .i64 q], y]) ∧ Below W.heap.size W w') ∧ Hid (∀ W, Below w.heap.size w W → Calls Tryd.prog 19 #[y, .int .i64 c] W fun e w' => e = .returned (.bool true) ∧ Below W.heap.size W w') := by
        have hn1 := Nat.div_le_self (lnN s s.size) (Nat.gcd (lnN s s.size) (lnD s.size))
        have hd1 := Nat.div_le_self (lnD s.size) (Nat.gcd (lnN s s.size) (lnD s.size))
        by_cases hf : lnN s s.size / Nat.gcd (lnN s s.size) (lnD s.size) ≤ 4611686018427387904 ∧ lnD s.size / Nat.gcd (lnN s s.size) (lnD s.size) ≤ 4611686018427387904
        · refine ⟨_, _, .nilIface, 0, fun W v hv => ?_, fun W hb => Chance_ok a s _ _ _ W (hE.below hb) hc (by unfold toldV; rw [if_pos hf]), fun W hb => coded_errV a 0 (by decide) W (hE.below hb)⟩
          obtain ⟨s0, ad, l, cap, ad', l', cap', rfl⟩ := hv.sl
          exact OneTold_by ad ad' l cap l' cap' s0 _ _ true W (fun W' hb => RTold_ok _ _ _ W' (hv.later hb) hf.1 hf.2) (fun h => by cases h)
        · refine ⟨0, 0, errV a 2, 2, fun W v hv => ?_, fun W hb => Chance_ok a s _ _ _ W (hE.below hb) hc (by unfold toldV; rw [if_neg hf]), fun W hb => coded_errV a 2 (by decide) W (hE.below hb)⟩
          obtain ⟨s0, ad, l, cap, ad', l', cap', rfl⟩ := hv.sl
          exact OneTold_by ad ad' l cap l' cap' s0 0 0 false W (fun W' hb => RTold_not _ _ _ W' (hv.later hb) (by omega) (by omega) (by omega)) (fun _ => ⟨rfl, rfl⟩)
      clear hln hle hsm hE hc hbb
      generalize ((lnN s s.size / Nat.gcd (lnN s s.size) (lnD s.size) : Nat) : Int) = NN at *
      generalize lnD s.size / Nat.gcd (lnN s s.size) (lnD s.size) = DD at *
      go_enter Tryd.func4, Tryd.ntmps4
      go_wp2_with fail
      refine hA.mono ?_
      rintro e w1 ⟨rfl, hb1⟩
      have HB1 := Hid.mk' hb1
      clear hb1 hA
      go_wp2_with fail
      refine (HBE.out w1).mono ?_
      rintro e w2 ⟨rfl, hb2⟩
      have HB2 := Hid.mk' (below_chain (below_chain HB1.out hb2) (new_below w2 (.cells #[.int .i64 0, .int .i64 0] 38)))
      have HLT : Hid (w.heap.size ≤ w2.heap.size) := (below_chain HB1.out hb2).size
      have HF2 := Hid.mk' (FrAt.fresh w2 0 0)
      clear hb2
      go_wp2_with fail
      generalize w2.alloc (.cells #[.int .i64 0, .int .i64 0] 38) = W2 at *
      generalize w2.heap.size = B2 at *
      refine (HLR.out W2).mono ?_
      rintro e w3 ⟨v3, rfl, hv3, hb3⟩
      have HB3 := Hid.mk' (below_chain HB2.out hb3)
      have HF3 := Hid.mk' (HF2.out.later hb3)
      have HV3 := Hid.mk' hv3
      clear hb3 hv3
      go_wp2_with fail
      refine (HOT.out w3 v3 HV3.out).mono ?_
      rintro e w4 ⟨rfl, hb4⟩
      have HB4 := Hid.mk' (below_chain HB3.out hb4)
      have HF4 := Hid.mk' (HF3.out.later hb4)
      obtain ⟨g0, g1, f0, f1⟩ := HF4.out
      clear hb4
      have HB5 : Hid (Below w.heap.size w ((w4.setCell ⟨B2, 0, none⟩ (.int .i64 p)).setCell ⟨B2, 1, none⟩ (.int .i64 q))) := (HB4.out.setCell HLT.out _).setCell HLT.out _
      have HF5 := Hid.mk' (HF4.out.put p q)
      go_wp2_with fail
      generalize (w4.setCell ⟨B2, 0, none⟩ (.int .i64 p)).setCell ⟨B2, 1, none⟩ (.int .i64 q) = W5 at *
      clear g0 g1 f0 f1 HF4 HB4
      refine (HCH.out W5 HB5.out).mono ?_
      rintro e w6 ⟨rfl, hb6⟩
      have HB6 := Hid.mk' (below_chain (below_chain HB5.out hb6) (new_below w6 (.cells #[.int .i64 p, .int .i64 q] 38)))
      have HF6 := Hid.mk' ((HF5.out.later hb6).later (new_below w6 (.cells #[.int .i64 p, .int .i64 q] 38)))
      have HG6 := Hid.mk' (FrAt.fresh w6 p q)
      clear hb6
      go_wp2_with fail
      generalize w6.alloc (.cells #[.int .i64 p, .int .i64 q] 38) = W6 at *
      generalize w6.heap.size = B6 at *
      refine (HCO.out W6 HB6.out).mono ?_
      rintro e w7 ⟨rfl, hb7⟩
      have HB7 := Hid.mk' (below_chain HB6.out hb7)
      obtain ⟨x0, x1, _, _⟩ := HF6.out.later hb7
      obtain ⟨z0, z1, _, _⟩ := HG6.out.later hb7
      clear hb7
      go_wp2_with fail
      go_ret
      exact ⟨rfl, HB7.out⟩
    · obtain ⟨c, hcv⟩ : ∃ c, bitsE s = c := ⟨_, rfl⟩
      have hc12 : c = 1 ∨ c = 2 := by have := bitsE_le s; omega
      have hc0 : ¬ (c : Int) = 0 := by omega
      have HBE := Hid.mk' (fun W => BitsError_any s W (by omega))
      have HCH := Hid.mk' (fun W (hb : Below w.heap.size w W) => Chance_bad a s c W (hE.below hb) (by omega) hcv hc12)
      have HCO := Hid.mk' (fun W (hb : Below w.heap.size w W) => coded_errV a c (by omega) W (hE.below hb))
      rw [hcv] at HBE
      clear hcv hc hE
      generalize errV a c = y at *
      go_enter Tryd.func4, Tryd.ntmps4
      go_wp2_with fail
      refine hA.mono ?_
      rintro e w1 ⟨rfl, hb1⟩
      have HB1 := Hid.mk' hb1
      clear hb1 hA
      go_wp2_with fail
      refine (HBE.out w1).mono ?_
      rintro e w2 ⟨rfl, hb2⟩
      have HB2 := Hid.mk' (below_chain (below_chain HB1.out hb2) (new_below w2 (.cells #[.int .i64 0, .int .i64 0] 38)))
      have HF2 := Hid.mk' (FrAt.fresh w2 0 0)
      clear hb2
      go_wp2_with fail
      generalize w2.alloc (.cells #[.int .i64 0, .int .i64 0] 38) = W2 at *
      generalize w2.heap.size = B2 at *
      refine (HCH.out W2 HB2.out).mono ?_
      rintro e w6 ⟨rfl, hb6⟩
      have HB6 := Hid.mk' (below_chain (below_chain HB2.out hb6) (new_below w6 (.cells #[.int .i64 0, .int .i64 0] 38)))
      have HF6 := Hid.mk' ((HF2.out.later hb6).later (new_below w6 (.cells #[.int .i64 0, .int .i64 0] 38)))
      have HG6 := Hid.mk' (FrAt.fresh w6 0 0)
      clear hb6
      go_wp2_with fail
      generalize w6.alloc (.cells #[.int .i64 0, .int .i64 0] 38) = W6 at *
      generalize w6.heap.size = B6 at *
      refine (HCO.out W6 HB6.out).mono ?_
      rintro e w7 ⟨rfl, hb7⟩
      have HB7 := Hid.mk' (below_chain HB6.out hb7)
      obtain ⟨x0, x1, _, _⟩ := HF6.out.later hb7
      obtain ⟨z0, z1, _, _⟩ := HG6.out.later hb7
      clear hb7
      go_wp2_with fail
      go_ret
      exact ⟨rfl, HB7.out⟩
end Go.Proofs.YtgfejijaipggeaaDoor

/- The document's order of fractions. -/
namespace Go.Proofs.YtgfejijaipggeaaDoor
open Go.RowKit

/-- The sign of a difference. -/
def sgnZ (z : Int) : Int := if z = 0 then 0 else if z < 0 then -1 else 1
set_option maxRecDepth 100000 in
set_option maxHeartbeats 4000000 in
theorem SignedCmp_any (v1 v2 : Value) (x y : Int) (k : Nat) (w : World) (h1 : SignedAt w v1 x) (h2 : SignedAt w v2 y) (hx : x.natAbs < 1000000 ^ k) (hy : y.natAbs < 1000000 ^ k) (hk : k ≤ 1000000) :
    Calls Tryd.prog 46 #[v1, v2] w fun e w' => e = .returned (.int .i64 (sgnZ (x - y))) ∧ Below w.heap.size w w' := by
  obtain ⟨u1, rfl, hu1⟩ := h1
  obtain ⟨u2, rfl, hu2⟩ := h2
  obtain ⟨ad1, l1, cap1, rfl, _⟩ := hu1.len
  obtain ⟨ad2, l2, cap2, rfl, _⟩ := hu2.len
  obtain ⟨s1, hs1⟩ : ∃ s, decide (x < 0) = s := ⟨_, rfl⟩
  obtain ⟨s2, hs2⟩ : ∃ s, decide (y < 0) = s := ⟨_, rfl⟩
  rw [hs1, hs2]
  obtain ⟨W0, hW0⟩ : ∃ W0, (w.alloc (.cells #[.bool s1, .slice ad1 l1 cap1] 43)).alloc (.cells #[.bool s2, .slice ad2 l2 cap2] 43) = W0 := ⟨_, rfl⟩
  have hB0 : Below w.heap.size w W0 := by rw [← hW0]; exact below_chain (new_below _ _) (new_below _ _)
  have HKS : Hid (∀ W, Below W0.heap.size W0 W → (W.cell? ⟨w.heap.size, 0, none⟩ = some (.bool s1) ∧ W.cell? ⟨w.heap.size, 1, none⟩ = some (.slice ad1 l1 cap1)) ∧ (W.cell? ⟨w.heap.size + 1, 0, none⟩ = some (.bool s2) ∧ W.cell? ⟨w.heap.size + 1, 1, none⟩ = some (.slice ad2 l2 cap2))) := fun W hb => by
    have a : ∀ j v, (#[Value.bool s1, .slice ad1 l1 cap1] : Array Value)[j]? = some v → W0.cell? ⟨w.heap.size, j, none⟩ = some v := fun j v h => by rw [← hW0, World.cell?_alloc_lt _ _ ⟨w.heap.size, j, none⟩ (by simp), World.cell?_alloc_at _ _ _ _ rfl]; exact h
    have b : ∀ j v, (#[Value.bool s2, .slice ad2 l2 cap2] : Array Value)[j]? = some v → W0.cell? ⟨w.heap.size + 1, j, none⟩ = some v := fun j v h => by rw [← hW0, World.cell?_alloc_at _ _ _ _ (by simp)]; exact h
    exact ⟨⟨by rw [hb.cell (cell_lt (a 0 _ rfl))]; exact a 0 _ rfl, by rw [hb.cell (cell_lt (a 1 _ rfl))]; exact a 1 _ rfl⟩, by rw [hb.cell (cell_lt (b 0 _ rfl))]; exact b 0 _ rfl, by rw [hb.cell (cell_lt (b 1 _ rfl))]; exact b 1 _ rfl⟩
  have HS1 : Hid (∀ W, Below W0.heap.size W0 W → SignedAt W (.agg #[.bool s1, .slice ad1 l1 cap1]) x) := fun W hb => ⟨_, by rw [hs1], (hu1.later hB0).later hb⟩
  have HS2 : Hid (∀ W, Below W0.heap.size W0 W → SignedAt W (.agg #[.bool s2, .slice ad2 l2 cap2]) y) := fun W hb => ⟨_, by rw [hs2], (hu2.later hB0).later hb⟩
  have HW := Hid.mk' hW0
  have HB := Hid.mk' hB0
  have hcur0 : Below W0.heap.size W0 W0 := Below.refl _ _
  have hcur : Below W0.heap.size W0 W0.drew := (Below.refl _ _).drew
  have hcurA : ∀ X, Below W0.heap.size W0 (W0.alloc X).drew := fun X => (new_below _ _).drew
  have HHY : Hid ((-y).natAbs < 1000000 ^ k) := by show _ < _; rw [Int.natAbs_neg]; exact hy
  clear hs1 hs2 hu1 hu2 hB0 hW0
  generalize hz : x + -y = z at *
  have HZ := Hid.mk' hz
  have HZ2 : Hid (sgnZ (x - y) = sgnZ z) := by show _ = _; rw [← hz, Int.sub_eq_add_neg]
  clear hz
  go_enter Tryd.func46, Tryd.ntmps46
  go_wp2_with fail
  rw [HW.out]
  go_cut [5] from 6 (fun s wx => ∃ Bs : Nat, s = .pointer (some ⟨Bs, 0, none⟩) ∧ Hid (SignBox W0 wx Bs z))
  case first =>
    go_region_held3 (fun W => (W.cell? ⟨w.heap.size, 0, none⟩ = some (.bool s1) ∧ W.cell? ⟨w.heap.size, 1, none⟩ = some (.slice ad1 l1 cap1)) ∧ (W.cell? ⟨w.heap.size + 1, 0, none⟩ = some (.bool s2) ∧ W.cell? ⟨w.heap.size + 1, 1, none⟩ = some (.slice ad2 l2 cap2)))
      (first | exact HKS.out _ hcur0 | exact HKS.out _ hcur | exact HKS.out _ (hcurA _) | (refine HKS.out _ ?_; assumption) | (refine HKS.out _ (more_below ?_ _); assumption) | (refine HKS.out _ (setB_below ?_ NB.hB _ _); assumption))
      (first
        | (go_at_call 72; refine (SignedAdd_any _ _ x (-y) k _ (HS1.out _ ?_) (HX1.out _ ?_) hx HHY.out hk).mono ?_; (first | exact hbw1 | exact more_below hbw1 _); (first | exact Below.refl _ _ | exact new_below _ _); rintro e w5 ⟨sv5, rfl, ⟨x5, rfl, hx5⟩, hb5⟩; rw [HZ.out] at hx5 ⊢; obtain ⟨ad7, l7, cap7, rfl, _⟩ := hx5.len; (first | (have hbw5 := below_chain hbw1 hb5; try have NB := NB.later hb5) | (have hbw5 := below_chain (more_below hbw1 _) hb5; have NB := newBox_of hbw1 hb5)); (try (have y0 := NB.c0; have y1 := NB.c1; have y2 := NB.f0; have y3 := NB.f1)); have HX5 := Hid.mk' hx5; clear hx5 hb5)
        | (go_at_call 42; refine (SignedBack_any _ y _ (HS2.out _ ?_)).mono ?_; (first | exact hcur | exact hcurA _); rintro e w1 ⟨sv1, rfl, ⟨x1, rfl, hx1⟩, hb1⟩; obtain ⟨sg1, hsg1⟩ : ∃ sg, decide (-y < 0) = sg := ⟨_, rfl⟩; rw [hsg1]; obtain ⟨ad3, l3, cap3, rfl, _⟩ := hx1.len; (first | have hbw1 := below_chain hcur hb1 | (have hbw1 := below_chain (hcurA _) hb1; have NB := newBox_of hcur0 (below_chain ((Below.refl _ _).drew) hb1))); have HX1 : Hid (∀ W, Below w1.heap.size w1 W → SignedAt W (.agg #[.bool sg1, .slice ad3 l3 cap3]) (-y)) := (fun W hb => ⟨_, by rw [hsg1], hx1.later hb⟩); clear hx1 hb1 hsg1))
    all_goals
      go_wp2_with fail
      go_meet
      first | exact ⟨_, rfl, signBox_late hbw5 HX5.out⟩ | exact ⟨_, rfl, signBox_soon hbw5 HX5.out NB⟩
  case rest =>
  obtain ⟨Bs, rfl, HSB⟩ := hcut
  obtain ⟨u, x0, x1, hu⟩ := HSB.out.box
  obtain ⟨ad, l, cap, rfl, hlz⟩ := hu.len
  have HBF := Hid.mk' (below_chain HB.out HSB.out.below)
  by_cases hz0 : z = 0
  · have hl0 : l = 0 := hlz.2 (by rw [hz0]; rfl)
    subst hl0
    have HE : Hid (sgnZ z = 0) := if_pos hz0
    clear hlz hz0 hu
    go_wp2_with fail
    go_ret
    exact ⟨by rw [HZ2.out, HE.out]; rfl, HBF.out⟩
  · have hl0 : ((l : Int) == 0) = false := by
      have : l ≠ 0 := fun h => hz0 (Int.natAbs_eq_zero.1 (hlz.1 h))
      simp; exact this
    obtain ⟨sg, hsg⟩ : ∃ sg, decide (z < 0) = sg := ⟨_, rfl⟩
    rw [hsg] at x0
    have HE : Hid (sgnZ z = if sg = true then -1 else 1) := by
      show (if z = 0 then 0 else if z < 0 then -1 else 1) = _
      rw [if_neg hz0, ← hsg]
      by_cases h : z < 0
      · rw [if_pos h, decide_eq_true h, if_pos rfl]
      · rw [if_neg h, decide_eq_false h]; rfl
    clear hlz hz0 hu hsg
    cases sg with
    | true =>
      go_wp2_with fail
      go_ret
      exact ⟨by rw [HZ2.out, HE.out]; rfl, HBF.out⟩
    | false =>
      go_wp2_with fail
      go_ret
      exact ⟨by rw [HZ2.out, HE.out]; rfl, HBF.out⟩
set_option maxRecDepth 100000 in
set_option maxHeartbeats 4000000 in
theorem RCmp_any (v1 v2 : Value) (n1 n2 : Int) (d1 d2 k : Nat) (w : World) (h1 : RatioAt w v1 n1 d1) (h2 : RatioAt w v2 n2 d2) (hn1 : n1.natAbs < 1000000 ^ k) (hn2 : n2.natAbs < 1000000 ^ k) (hk1 : d1 < 1000000 ^ k) (hk2 : d2 < 1000000 ^ k) (hk : k + k ≤ 1000000) :
    Calls Tryd.prog 24 #[v1, v2] w fun e w' => e = .returned (.int .i64 (sgnZ (n1 * d2 - n2 * d1))) ∧ Below w.heap.size w w' := by
  obtain ⟨u1, q1, rfl, hu1, hq1⟩ := h1
  obtain ⟨u2, q2, rfl, hu2, hq2⟩ := h2
  obtain ⟨ad1, l1, cap1, rfl, _⟩ := hu1.len
  obtain ⟨bd1, m1, bap1, rfl, _⟩ := hq1.len
  obtain ⟨ad2, l2, cap2, rfl, _⟩ := hu2.len
  obtain ⟨bd2, m2, bap2, rfl, _⟩ := hq2.len
  obtain ⟨s1, hs1⟩ : ∃ s, decide (n1 < 0) = s := ⟨_, rfl⟩
  obtain ⟨s2, hs2⟩ : ∃ s, decide (n2 < 0) = s := ⟨_, rfl⟩
  rw [hs1, hs2]
  obtain ⟨W0, hW0⟩ : ∃ W0, (w.alloc (.cells #[.bool s1, .slice ad1 l1 cap1, .slice bd1 m1 bap1] 45)).alloc (.cells #[.bool s2, .slice ad2 l2 cap2, .slice bd2 m2 bap2] 45) = W0 := ⟨_, rfl⟩
  have hB0 : Below w.heap.size w W0 := by rw [← hW0]; exact below_chain (new_below _ _) (new_below _ _)
  have HKS : Hid (∀ W, Below W0.heap.size W0 W → (W.cell? ⟨w.heap.size, 0, none⟩ = some (.bool s1) ∧ W.cell? ⟨w.heap.size, 1, none⟩ = some (.slice ad1 l1 cap1) ∧ W.cell? ⟨w.heap.size, 2, none⟩ = some (.slice bd1 m1 bap1)) ∧ (W.cell? ⟨w.heap.size + 1, 0, none⟩ = some (.bool s2) ∧ W.cell? ⟨w.heap.size + 1, 1, none⟩ = some (.slice ad2 l2 cap2) ∧ W.cell? ⟨w.heap.size + 1, 2, none⟩ = some (.slice bd2 m2 bap2))) := fun W hb => by
    have a : ∀ j v, (#[Value.bool s1, .slice ad1 l1 cap1, .slice bd1 m1 bap1] : Array Value)[j]? = some v → W0.cell? ⟨w.heap.size, j, none⟩ = some v := fun j v h => by rw [← hW0, World.cell?_alloc_lt _ _ ⟨w.heap.size, j, none⟩ (by simp), World.cell?_alloc_at _ _ _ _ rfl]; exact h
    have b : ∀ j v, (#[Value.bool s2, .slice ad2 l2 cap2, .slice bd2 m2 bap2] : Array Value)[j]? = some v → W0.cell? ⟨w.heap.size + 1, j, none⟩ = some v := fun j v h => by rw [← hW0, World.cell?_alloc_at _ _ _ _ (by simp)]; exact h
    exact ⟨⟨by rw [hb.cell (cell_lt (a 0 _ rfl))]; exact a 0 _ rfl, by rw [hb.cell (cell_lt (a 1 _ rfl))]; exact a 1 _ rfl, by rw [hb.cell (cell_lt (a 2 _ rfl))]; exact a 2 _ rfl⟩, by rw [hb.cell (cell_lt (b 0 _ rfl))]; exact b 0 _ rfl, by rw [hb.cell (cell_lt (b 1 _ rfl))]; exact b 1 _ rfl, by rw [hb.cell (cell_lt (b 2 _ rfl))]; exact b 2 _ rfl⟩
  have HS1 : Hid (∀ W, Below W0.heap.size W0 W → SignedAt W (.agg #[.bool s1, .slice ad1 l1 cap1]) n1) := fun W hb => ⟨_, by rw [hs1], (hu1.later hB0).later hb⟩
  have HS2 : Hid (∀ W, Below W0.heap.size W0 W → SignedAt W (.agg #[.bool s2, .slice ad2 l2 cap2]) n2) := fun W hb => ⟨_, by rw [hs2], (hu2.later hB0).later hb⟩
  have HD1 : Hid (∀ W, Below W0.heap.size W0 W → BigAt W (.slice bd1 m1 bap1) d1) := fun W hb => (hq1.later hB0).later hb
  have HD2 : Hid (∀ W, Below W0.heap.size W0 W → BigAt W (.slice bd2 m2 bap2) d2) := fun W hb => (hq2.later hB0).later hb
  have hm1 : (n1 * (d2 : Int)).natAbs < 1000000 ^ (k + k) := by rw [Int.natAbs_mul, Int.natAbs_natCast, Nat.pow_add]; exact Nat.mul_lt_mul'' hn1 hk2
  have hm2 : (n2 * (d1 : Int)).natAbs < 1000000 ^ (k + k) := by rw [Int.natAbs_mul, Int.natAbs_natCast, Nat.pow_add]; exact Nat.mul_lt_mul'' hn2 hk1
  have HM := Hid.mk' (And.intro hm1 hm2)
  have HBD : Hid (n1.natAbs < 1000000 ^ k ∧ (d2 : Int).natAbs < 1000000 ^ k ∧ n2.natAbs < 1000000 ^ k ∧ (d1 : Int).natAbs < 1000000 ^ k) := ⟨hn1, by rw [Int.natAbs_natCast]; exact hk2, hn2, by rw [Int.natAbs_natCast]; exact hk1⟩
  have HW := Hid.mk' hW0
  have HB := Hid.mk' hB0
  have hcur0 : Below W0.heap.size W0 W0 := Below.refl _ _
  have hcur : Below W0.heap.size W0 W0.drew := (Below.refl _ _).drew
  have hdn1 : ¬ (d1 : Int) < 0 := by omega
  have hdn2 : ¬ (d2 : Int) < 0 := by omega
  have HDE : Hid (decide ((d1 : Int) < 0) = false ∧ decide ((d2 : Int) < 0) = false) := ⟨decide_eq_false hdn1, decide_eq_false hdn2⟩
  clear hs1 hs2 hu1 hu2 hq1 hq2 hB0 hW0 hn1 hn2 hk1 hk2 hm1 hm2 hdn1 hdn2
  go_enter Tryd.func24, Tryd.ntmps24
  go_wp2_with fail
  rw [HW.out]
  go_region_held3 (fun W => (W.cell? ⟨w.heap.size, 0, none⟩ = some (.bool s1) ∧ W.cell? ⟨w.heap.size, 1, none⟩ = some (.slice ad1 l1 cap1) ∧ W.cell? ⟨w.heap.size, 2, none⟩ = some (.slice bd1 m1 bap1)) ∧ (W.cell? ⟨w.heap.size + 1, 0, none⟩ = some (.bool s2) ∧ W.cell? ⟨w.heap.size + 1, 1, none⟩ = some (.slice ad2 l2 cap2) ∧ W.cell? ⟨w.heap.size + 1, 2, none⟩ = some (.slice bd2 m2 bap2)))
    (first | exact HKS.out _ hcur0 | exact HKS.out _ hcur | (refine HKS.out _ ?_; assumption))
    (first
      | (go_at_call 46; refine (SignedCmp_any _ _ (n1 * (d2 : Int)) (n2 * (d1 : Int)) (k + k) _ (HX2.out _ h24) (HX4.out _ (Below.refl _ _)) HM.out.1 HM.out.2 hk).mono ?_; rintro e w5 ⟨rfl, hb5⟩; have hbw5 := below_chain hbw4 hb5; clear hb5)
      | (go_at_call 44; refine (SignedMul_any _ _ n2 (d1 : Int) k _ (HS2.out _ hbw3) (HX3.out _ (Below.refl _ _)) HBD.out.2.2.1 HBD.out.2.2.2 (by omega)).mono ?_; rintro e w4 ⟨sv4, rfl, ⟨x4, rfl, hx4⟩, hb4⟩; obtain ⟨sg4, hsg4⟩ : ∃ sg, decide (n2 * (d1 : Int) < 0) = sg := ⟨_, rfl⟩; rw [hsg4]; obtain ⟨ad6, l6, cap6, rfl, _⟩ := hx4.len; have hbw4 := below_chain hbw3 hb4; have h24 := below_chain h23 hb4; have HX4 : Hid (∀ W, Below w4.heap.size w4 W → SignedAt W (.agg #[.bool sg4, .slice ad6 l6 cap6]) (n2 * (d1 : Int))) := (fun W hb => ⟨_, by rw [hsg4], hx4.later hb⟩); clear hx4 hb4 hsg4)
      | (go_at_call 47; refine (wide_any (.slice bd1 m1 bap1) d1 _ (HD1.out _ hbw2)).mono ?_; rintro e w3 ⟨sv3, rfl, ⟨x3, rfl, hx3⟩, hb3⟩; rw [HDE.out.1]; obtain ⟨ad5, l5, cap5, rfl, _⟩ := hx3.len; have hbw3 := below_chain hbw2 hb3; have h23 := below_chain (Below.refl _ w2) hb3; have HX3 : Hid (∀ W, Below w3.heap.size w3 W → SignedAt W (.agg #[.bool false, .slice ad5 l5 cap5]) (d1 : Int)) := (fun W hb => ⟨_, by rw [HDE.out.1], hx3.later hb⟩); clear hx3 hb3)
      | (go_at_call 44; refine (SignedMul_any _ _ n1 (d2 : Int) k _ (HS1.out _ hbw1) (HX1.out _ (Below.refl _ _)) HBD.out.1 HBD.out.2.1 (by omega)).mono ?_; rintro e w2 ⟨sv2, rfl, ⟨x2, rfl, hx2⟩, hb2⟩; obtain ⟨sg2, hsg2⟩ : ∃ sg, decide (n1 * (d2 : Int) < 0) = sg := ⟨_, rfl⟩; rw [hsg2]; obtain ⟨ad4, l4, cap4, rfl, _⟩ := hx2.len; have hbw2 := below_chain hbw1 hb2; have HX2 : Hid (∀ W, Below w2.heap.size w2 W → SignedAt W (.agg #[.bool sg2, .slice ad4 l4 cap4]) (n1 * (d2 : Int))) := (fun W hb => ⟨_, by rw [hsg2], hx2.later hb⟩); clear hx2 hb2 hsg2)
      | (go_at_call 47; refine (wide_any (.slice bd2 m2 bap2) d2 _ (HD2.out _ hcur)).mono ?_; rintro e w1 ⟨sv1, rfl, ⟨x1, rfl, hx1⟩, hb1⟩; rw [HDE.out.2]; obtain ⟨ad3, l3, cap3, rfl, _⟩ := hx1.len; have hbw1 := below_chain hcur hb1; have HX1 : Hid (∀ W, Below w1.heap.size w1 W → SignedAt W (.agg #[.bool false, .slice ad3 l3 cap3]) (d2 : Int)) := (fun W hb => ⟨_, by rw [HDE.out.2], hx1.later hb⟩); clear hx1 hb1))
  go_wp2_with fail
  go_ret
  exact ⟨rfl, below_chain HB.out hbw5⟩
/-- Which of two fractions is the less. -/
theorem sgnZ_neg (z : Int) : sgnZ z < 0 ↔ z < 0 := by
  unfold sgnZ
  split
  · omega
  · split <;> omega
end Go.Proofs.YtgfejijaipggeaaDoor

/- Fractions in lowest terms: OfFrac, Times, Cmp. -/
namespace Go.Proofs.YtgfejijaipggeaaDoor
open Go.RowKit

theorem Times_low (u v : Value) (M1 M2 : Nat) (z1 z2 : Int) (w : World) (hu : RatioAt w u (lowN M1 z1) (lowD M1 z1)) (hv : RatioAt w v (lowN M2 z2) (lowD M2 z2)) (h1 : 0 < M1) (h2 : 0 < M2) (b1 : M1 < 1000000 ^ 60) (b2 : M2 < 1000000 ^ 60) (c1 : z1.natAbs < 1000000 ^ 60) (c2 : z2.natAbs < 1000000 ^ 60) :
    Calls Tryd.prog 22 #[u, v] w fun e w' => ∃ r, e = .returned r ∧ RatioAt w' r (lowN (M1 * M2) (z1 * z2)) (lowD (M1 * M2) (z1 * z2)) ∧ Below w.heap.size w w' := by
  have h3 := Times_ratio u v _ _ _ _ 60 w hu hv (lowD_pos h1 _) (lowD_pos h2 _) (Nat.lt_of_le_of_lt (lowN_le h1 _) c1) (Nat.lt_of_le_of_lt (lowN_le h2 _) c2) (Nat.lt_of_le_of_lt (lowD_le _ _) b1) (Nat.lt_of_le_of_lt (lowD_le _ _) b2) (by decide)
  have h4 := low_step h1 h2 z1 z2
  rw [h4.1, h4.2] at h3
  exact h3
theorem Cmp_ge (u v : Value) (M1 M2 : Nat) (z1 z2 : Int) (w : World) (hu : RatioAt w u (lowN M1 z1) (lowD M1 z1)) (hv : RatioAt w v (lowN M2 z2) (lowD M2 z2)) (h1 : 0 < M1) (h2 : 0 < M2) (b1 : M1 < 1000000 ^ 60) (b2 : M2 < 1000000 ^ 60) (c1 : z1.natAbs < 1000000 ^ 60) (c2 : z2.natAbs < 1000000 ^ 60) (h : z2 * (M1 : Int) ≤ z1 * (M2 : Int)) :
    Calls Tryd.prog 24 #[u, v] w fun e w' => ∃ z : Int, e = .returned (.int .i64 z) ∧ 0 ≤ z ∧ Below w.heap.size w w' := by
  have h3 := RCmp_any u v _ _ _ _ 60 w hu hv (Nat.lt_of_le_of_lt (lowN_le h1 _) c1) (Nat.lt_of_le_of_lt (lowN_le h2 _) c2) (Nat.lt_of_le_of_lt (lowD_le _ _) b1) (Nat.lt_of_le_of_lt (lowD_le _ _) b2) (by decide)
  refine h3.mono fun e w' ⟨he, hb⟩ => ⟨_, he, ?_, hb⟩
  have h4 := low_ge h1 h2 h
  have h5 := sgnZ_neg (lowN M1 z1 * (lowD M2 z2 : Int) - lowN M2 z2 * (lowD M1 z1 : Int))
  omega
set_option maxRecDepth 100000 in
theorem OfFrac_lw (N D p q : Nat) (w : World) (hD : 0 < D) (hp : p = N / Nat.gcd N D) (hq : q = D / Nat.gcd N D) (hp1 : p ≤ 4611686018427387904) (hq1 : q ≤ 4611686018427387904) :
    Calls Tryd.prog 23 #[.agg #[.int .i64 (p : Int), .int .i64 (q : Int)]] w fun e w' => ∃ r, e = .returned r ∧ RatioAt w' r (lowN D (N : Int)) (lowD D (N : Int)) ∧ Below w.heap.size w w' := by
  have hq0 : 0 < q := by rw [hq]; exact Nat.div_pos (Nat.gcd_le_right N hD) (Nat.gcd_pos_of_pos_right N hD)
  have hlow := low_same (M := D) (d := q) (z := (N : Int)) (n := (p : Int)) hD hq0 (by
    have h1 := low_cross hD (N : Int)
    rw [(low_nat N D).1, (low_nat N D).2, ← hp, ← hq] at h1
    exact h1)
  obtain ⟨W0, hW0⟩ : ∃ W0, W0 = (w.alloc (.cells #[.int .i64 (p : Int), .int .i64 (q : Int)] 38)).alloc (.cells #[.bool false, .slice none 0 0, .slice none 0 0] 45) := ⟨_, rfl⟩
  have hb0 : Below w.heap.size w W0 := by rw [hW0]; exact below_chain (new_below _ _) (new_below _ _)
  have hro := RatioOf_any (p : Int) q W0 (by omega) (by omega) hq0 hq1
  rw [hlow.1, hlow.2] at hro
  have HR0 : Hid (∀ W, Below W0.heap.size W0 W → RBox W (w.heap.size + 1) false none 0 0 none 0 0 0 0) := fun W hb => by
    have h : RBox W0 (w.heap.size + 1) false none 0 0 none 0 0 0 0 := by
      have := RBox.fresh (w := w.alloc (.cells #[.int .i64 (p : Int), .int .i64 (q : Int)] 38)) (n := 0) (d := 0) (s := false) ⟨_, _, rfl, big_none _, big_none _⟩
      rw [World.size_alloc] at this
      rw [hW0]; exact this
    exact h.later hb
  have z0 : W0.cell? ⟨w.heap.size, 0, none⟩ = some (.int .i64 (p : Int)) := by rw [hW0, World.cell?_alloc_lt _ _ ⟨w.heap.size, 0, none⟩ (by simp), World.cell?_alloc_at _ _ _ _ rfl]; rfl
  have z1 : W0.cell? ⟨w.heap.size, 1, none⟩ = some (.int .i64 (q : Int)) := by rw [hW0, World.cell?_alloc_lt _ _ ⟨w.heap.size, 1, none⟩ (by simp), World.cell?_alloc_at _ _ _ _ rfl]; rfl
  have HB0 := Hid.mk' hb0
  have HW0 := Hid.mk' hW0
  clear hb0 hW0 hlow hp hq hq0 hp1 hq1
  go_enter Tryd.func23, Tryd.ntmps23
  go_upto_region 1 with fail
  rw [← HW0.out]
  go_wp2_with fail
  refine hro.mono ?_
  clear hro
  rintro e w1 ⟨r, rfl, hr, hb1⟩
  obtain ⟨s1, x1, l1, c1, x1', l1', c1', rfl⟩ := hr.sl
  have hR := HR0.out _ hb1
  have y0 := hR.c0
  have y1 := hR.c1
  have y2 := hR.c2
  have f0 := hR.fz 0 (by decide)
  have f1 := hR.fz 1 (by decide)
  have f2 := hR.fz 2 (by decide)
  obtain ⟨⟨g0, g1⟩, ⟨g2, g3⟩, g4⟩ := put_three' (.bool s1) (.slice x1 l1 c1) (.slice x1' l1' c1') y0 y1 y2
  have HP := Hid.mk' (hR.put hr)
  have HBF := Hid.mk' (below_chain HB0.out hb1)
  clear hR hr hb1
  unfold put3 at HP
  go_wp2_with fail
  refine bodyPost_ret (v := .agg #[.bool s1, .slice x1 l1 c1, .slice x1' l1' c1']) (by simp [results, Tryd.results23, go_sem, HP.out.c0, HP.out.c1, HP.out.c2]) rfl ⟨_, rfl, HP.out.rat, ?_⟩
  exact (((HBF.out.setCell (Nat.le_succ _) _).setCell (Nat.le_succ _) _).setCell (Nat.le_succ _) _)
end Go.Proofs.YtgfejijaipggeaaDoor
