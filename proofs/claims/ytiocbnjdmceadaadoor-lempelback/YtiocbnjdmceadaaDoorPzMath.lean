/- Phrases: what both the program, byte by byte, and the document, by the longest text ahead, answer. -/
namespace Go.Proofs.YtiocbnjdmceadaaDoor

/-- The number of a phrase, from 1 on; 0: there is none. -/
def numOf : List (Nat × UInt8) → Nat × UInt8 → Nat
  | [], _ => 0
  | p :: r, q => if p = q then 1 else if numOf r q = 0 then 0 else numOf r q + 1
theorem numOf_snoc (p q : Nat × UInt8) : ∀ D : List (Nat × UInt8), numOf (D ++ [p]) q = if numOf D q ≠ 0 then numOf D q else if p = q then D.length + 1 else 0
  | [] => by simp [numOf]
  | d :: r => by
    have ih := numOf_snoc p q r
    by_cases h : d = q
    · simp [numOf, h]
    · simp only [List.cons_append, numOf, if_neg h, ih]
      by_cases h0 : numOf r q = 0
      · by_cases h2 : p = q
        · simp [h0, h2]
        · simp [h0, h2]
      · simp [h0]
theorem numOf_le (q : Nat × UInt8) : ∀ D : List (Nat × UInt8), numOf D q ≤ D.length
  | [] => Nat.le_refl _
  | d :: r => by
    have ih := numOf_le q r
    unfold numOf
    split
    · simp
    · split
      · simp
      · simp; omega
theorem numOf_at (q : Nat × UInt8) : ∀ (D : List (Nat × UInt8)), numOf D q ≠ 0 → D[numOf D q - 1]? = some q
  | [], h => by simp [numOf] at h
  | d :: r, h => by
    have ih := numOf_at q r
    by_cases h1 : d = q
    · simp [numOf, h1]
    · by_cases h0 : numOf r q = 0
      · simp [numOf, h1, h0] at h
      · simp only [numOf, if_neg h1, if_neg h0, Nat.add_sub_cancel]
        obtain ⟨m, hm⟩ : ∃ m, numOf r q = m + 1 := ⟨numOf r q - 1, by omega⟩
        have := ih h0
        rw [hm] at this ⊢
        simpa using this
theorem numOf_mem (q : Nat × UInt8) : ∀ (D : List (Nat × UInt8)), q ∈ D → numOf D q ≠ 0
  | [], h => by simp at h
  | d :: r, h => by
    by_cases h1 : d = q
    · simp [numOf, h1]
    · have : q ∈ r := by
        rcases List.mem_cons.1 h with h | h
        · exact absurd h.symm h1
        · exact h
      have ih := numOf_mem q r this
      simp [numOf, h1, ih]

/-- A byte more. -/
def pzS (s : List (Nat × UInt8) × Nat) (c : UInt8) : List (Nat × UInt8) × Nat := if numOf s.1 (s.2, c) = 0 then (s.1 ++ [(s.2, c)], 0) else (s.1, numOf s.1 (s.2, c))
def pz (s : List (Nat × UInt8) × Nat) (l : List UInt8) : List (Nat × UInt8) × Nat := l.foldl pzS s
theorem pz_snoc (s : List (Nat × UInt8) × Nat) (l : List UInt8) (c : UInt8) : pz s (l ++ [c]) = pzS (pz s l) c := by simp [pz]
theorem pz_append (s : List (Nat × UInt8) × Nat) (a b : List UInt8) : pz s (a ++ b) = pz (pz s a) b := by simp [pz]
theorem pzS_new {s : List (Nat × UInt8) × Nat} {c : UInt8} (h : numOf s.1 (s.2, c) = 0) : pzS s c = (s.1 ++ [(s.2, c)], 0) := by unfold pzS; rw [if_pos h]
theorem pzS_old {s : List (Nat × UInt8) × Nat} {c : UInt8} (h : numOf s.1 (s.2, c) ≠ 0) : pzS s c = (s.1, numOf s.1 (s.2, c)) := by unfold pzS; rw [if_neg h]
theorem pz_le : ∀ (l : List UInt8) (s : List (Nat × UInt8) × Nat), s.2 ≤ s.1.length → (pz s l).2 ≤ (pz s l).1.length ∧ (pz s l).1.length ≤ s.1.length + l.length
  | [], s, h => ⟨h, Nat.le_refl _⟩
  | c :: r, s, h => by
    have e : pz s (c :: r) = pz (pzS s c) r := rfl
    rw [e]
    by_cases h0 : numOf s.1 (s.2, c) = 0
    · rw [pzS_new h0]
      obtain ⟨h1, h2⟩ := pz_le r (s.1 ++ [(s.2, c)], 0) (Nat.zero_le _)
      refine ⟨h1, ?_⟩
      simp at h2 ⊢; omega
    · rw [pzS_old h0]
      obtain ⟨h1, h2⟩ := pz_le r (s.1, numOf s.1 (s.2, c)) (numOf_le _ _)
      refine ⟨h1, ?_⟩
      simp at h2 ⊢; omega

/-- A phrase: of which one ahead, the byte behind it, whether it is the last. -/
structure Phr where
  of : Nat
  next : Nat
  last : Bool
def phrs (D : List (Nat × UInt8)) : List Phr := D.map fun p => ⟨p.1, p.2.toNat, false⟩
theorem phrs_snoc (D : List (Nat × UInt8)) (o : Nat) (c : UInt8) : phrs (D ++ [(o, c)]) = phrs D ++ [⟨o, c.toNat, false⟩] := by simp [phrs]
theorem phrs_length (D : List (Nat × UInt8)) : (phrs D).length = D.length := by simp [phrs]
def pzO (s : List (Nat × UInt8) × Nat) : List Phr := if s.2 = 0 then phrs s.1 else phrs s.1 ++ [⟨s.2, 0, true⟩]
def pzL (l : List UInt8) : List Phr := pzO (pz ([], 0) l)

/-- The text of a phrase by its number. -/
def txA (K : List (List UInt8)) (o : Nat) : List UInt8 := if o = 0 then [] else K.getD (o - 1) []
/-- Phrases and their texts. -/
structure Trie (D : List (Nat × UInt8)) (K : List (List UInt8)) : Prop where
  len : K.length = D.length
  of : ∀ (i o : Nat) (c : UInt8), D[i]? = some (o, c) → o ≤ i ∧ K[i]? = some (txA K o ++ [c])
  apart : ∀ (i j : Nat) (a : List UInt8), K[i]? = some a → K[j]? = some a → i = j
theorem Trie.nil : Trie [] [] := ⟨rfl, fun i o c h => by simp at h, fun i j a h => by simp at h⟩
theorem txA_succ (K : List (List UInt8)) (o : Nat) : txA K (o + 1) = K.getD o [] := by simp [txA]
theorem txA_some {K : List (List UInt8)} {o : Nat} (h0 : o ≠ 0) (h1 : o ≤ K.length) : K[o - 1]? = some (txA K o) := by
  rw [txA, if_neg h0, List.getD_eq_getElem?_getD, List.getElem?_eq_getElem (by omega)]; rfl
theorem Trie.ne {D : List (Nat × UInt8)} {K : List (List UInt8)} (h : Trie D K) {i : Nat} {a : List UInt8} (hi : K[i]? = some a) : ∃ o c, D[i]? = some (o, c) ∧ o ≤ i ∧ a = txA K o ++ [c] := by
  have hl : i < K.length := by
    rcases Nat.lt_or_ge i K.length with h' | h'
    · exact h'
    · rw [List.getElem?_eq_none h'] at hi; cases hi
  have hd : D[i]? = some (D[i]'(by rw [← h.len]; exact hl)) := List.getElem?_eq_getElem _
  obtain ⟨h1, h2⟩ := h.of i _ _ (show D[i]? = some ((D[i]'(by rw [← h.len]; exact hl)).1, (D[i]'(by rw [← h.len]; exact hl)).2) from hd)
  rw [hi] at h2
  exact ⟨_, _, hd, h1, Option.some.inj h2⟩
theorem Trie.inj {D : List (Nat × UInt8)} {K : List (List UInt8)} (h : Trie D K) {a b : Nat} (ha : a ≤ K.length) (hb : b ≤ K.length) (e : txA K a = txA K b) : a = b := by
  by_cases h0 : a = 0
  · by_cases h1 : b = 0
    · omega
    · obtain ⟨o, c, _, _, h2⟩ := h.ne (txA_some h1 hb)
      rw [← e, h0] at h2
      simp [txA] at h2
  · by_cases h1 : b = 0
    · obtain ⟨o, c, _, _, h2⟩ := h.ne (txA_some h0 ha)
      rw [e, h1] at h2
      simp [txA] at h2
    · have h2 := txA_some h1 hb
      rw [← e] at h2
      have := h.apart _ _ _ (txA_some h0 ha) h2
      omega
/-- There is a phrase with a byte more just if there is one with that text. -/
theorem Trie.step {D : List (Nat × UInt8)} {K : List (List UInt8)} (h : Trie D K) {o : Nat} {c : UInt8} (ho : o ≤ K.length) : (numOf D (o, c) = 0 ∧ ∀ i : Nat, K[i]? ≠ some (txA K o ++ [c])) ∨ (numOf D (o, c) ≠ 0 ∧ numOf D (o, c) ≤ K.length ∧ txA K (numOf D (o, c)) = txA K o ++ [c]) := by
  by_cases h0 : numOf D (o, c) = 0
  · refine Or.inl ⟨h0, fun i hi => ?_⟩
    obtain ⟨o', c', hd, hle, e⟩ := h.ne hi
    have hi2 : i < K.length := by
      rcases Nat.lt_or_ge i K.length with h' | h'
      · exact h'
      · rw [List.getElem?_eq_none h'] at hi; cases hi
    obtain ⟨e1, e2⟩ := List.append_inj' e rfl
    obtain rfl : o = o' := h.inj ho (by omega) e1
    obtain rfl : c = c' := by simpa using e2
    exact numOf_mem _ _ (List.mem_of_getElem? hd) h0
  · have hl := numOf_le (o, c) D
    have ha := numOf_at (o, c) D h0
    obtain ⟨_, h2⟩ := h.of _ _ _ ha
    refine Or.inr ⟨h0, by rw [h.len]; exact hl, ?_⟩
    have h3 := txA_some h0 (K := K) (by rw [h.len]; exact hl)
    rw [h2] at h3
    exact (Option.some.inj h3).symm
theorem txA_append {K : List (List UInt8)} {o : Nat} (a : List UInt8) (h : o ≤ K.length) : txA (K ++ [a]) o = txA K o := by
  by_cases h0 : o = 0
  · simp [txA, h0]
  · rw [txA, txA, if_neg h0, if_neg h0, List.getD_eq_getElem?_getD, List.getD_eq_getElem?_getD, List.getElem?_append_left (by omega)]
theorem Trie.push {D : List (Nat × UInt8)} {K : List (List UInt8)} (h : Trie D K) {o : Nat} {c : UInt8} (ho : o ≤ K.length) (h0 : numOf D (o, c) = 0) : Trie (D ++ [(o, c)]) (K ++ [txA K o ++ [c]]) := by
  have hno : ∀ i : Nat, K[i]? ≠ some (txA K o ++ [c]) := by
    rcases h.step (c := c) ho with ⟨_, h1⟩ | ⟨h1, _⟩
    · exact h1
    · exact absurd h0 h1
  have hlt : ∀ {i : Nat} {a : List UInt8}, K[i]? = some a → i < K.length := fun {i a} hi => by
    rcases Nat.lt_or_ge i K.length with h' | h'
    · exact h'
    · rw [List.getElem?_eq_none h'] at hi; cases hi
  have hcase : ∀ {i : Nat} {a : List UInt8}, (K ++ [txA K o ++ [c]])[i]? = some a → K[i]? = some a ∨ (i = K.length ∧ a = txA K o ++ [c]) := fun {i a} hi => by
    rcases Nat.lt_or_ge i K.length with h' | h'
    · rw [List.getElem?_append_left h'] at hi; exact Or.inl hi
    · rw [List.getElem?_append_right h'] at hi
      rcases Nat.eq_or_lt_of_le h' with e | e
      · refine Or.inr ⟨e.symm, ?_⟩
        rw [← e, Nat.sub_self] at hi
        simpa using hi.symm
      · rw [List.getElem?_eq_none (by simp; omega)] at hi; cases hi
  refine ⟨by simp [h.len], fun i o' c' hi => ?_, fun i j a hi hj => ?_⟩
  · rcases Nat.lt_or_ge i D.length with h' | h'
    · rw [List.getElem?_append_left h'] at hi
      obtain ⟨h1, h2⟩ := h.of i o' c' hi
      refine ⟨h1, ?_⟩
      rw [txA_append _ (by rw [h.len]; omega), List.getElem?_append_left (by rw [h.len]; exact h')]
      exact h2
    · rw [List.getElem?_append_right h'] at hi
      rcases Nat.eq_or_lt_of_le h' with e | e
      · rw [← e, Nat.sub_self] at hi
        obtain ⟨rfl, rfl⟩ : o = o' ∧ c = c' := by simpa using hi
        refine ⟨by rw [← e, ← h.len]; exact ho, ?_⟩
        rw [txA_append _ ho, ← e, ← h.len, List.getElem?_append_right (Nat.le_refl _), Nat.sub_self]; rfl
      · rw [List.getElem?_eq_none (by simp; omega)] at hi; cases hi
  · rcases hcase hi with h1 | ⟨h1, h2⟩
    · rcases hcase hj with h3 | ⟨h3, h4⟩
      · exact h.apart i j a h1 h3
      · exact absurd (h4 ▸ h1) (hno i)
    · rcases hcase hj with h3 | ⟨h3, h4⟩
      · exact absurd (h2 ▸ h3) (hno j)
      · omega

/-- What begins the text of a phrase is itself one's. -/
theorem Trie.closed {D : List (Nat × UInt8)} {K : List (List UInt8)} (h : Trie D K) : ∀ (n i : Nat) (a : List UInt8), i < n → K[i]? = some a → ∀ j, j ≤ a.length → ∃ o, o ≤ K.length ∧ txA K o = a.take j
  | 0, i, a, hn, _, _, _ => by omega
  | n + 1, i, a, hn, hi, j, hj => by
    have hl : i < K.length := by
      rcases Nat.lt_or_ge i K.length with h' | h'
      · exact h'
      · rw [List.getElem?_eq_none h'] at hi; cases hi
    obtain ⟨o, c, hd, hle, e⟩ := h.ne hi
    by_cases hja : j = a.length
    · refine ⟨i + 1, hl, ?_⟩
      rw [hja, List.take_length, txA_succ, List.getD_eq_getElem?_getD, hi]; rfl
    · have hj2 : j ≤ (txA K o).length := by rw [e] at hj hja; simp at hj hja; omega
      have ht : a.take j = (txA K o).take j := by rw [e, List.take_append_of_le_length hj2]
      by_cases h0 : o = 0
      · refine ⟨0, Nat.zero_le _, ?_⟩
        rw [ht, h0]; simp [txA]
      · obtain ⟨o2, h1, h2⟩ := h.closed n (o - 1) (txA K o) (by omega) (txA_some h0 (by omega)) j hj2
        exact ⟨o2, h1, by rw [h2, ht]⟩
/-- From the empty phrase along a text whose beginnings are all phrases'. -/
theorem Trie.walk {D : List (Nat × UInt8)} {K : List (List UInt8)} (h : Trie D K) (R : List UInt8) (best long : Nat) (hb : best ≤ K.length) (hR : long ≤ R.length) (ht : txA K best = R.take long) : pz (D, 0) (R.take long) = (D, best) := by
  have key : ∀ j, j ≤ long → ∃ n, n ≤ K.length ∧ txA K n = R.take j ∧ pz (D, 0) (R.take j) = (D, n) := by
    intro j
    induction j with
    | zero => intro _; exact ⟨0, Nat.zero_le _, by simp [txA], by simp [pz]⟩
    | succ j ih =>
      intro hj
      obtain ⟨n, h1, h2, h3⟩ := ih (by omega)
      have hlen : (txA K best).length = long := by rw [ht, List.length_take]; omega
      have hb0 : best ≠ 0 := by intro e; rw [e] at hlen; simp [txA] at hlen; omega
      obtain ⟨o, h4, h5⟩ := h.closed (best - 1 + 1) (best - 1) (txA K best) (by omega) (txA_some hb0 hb) (j + 1) (by omega)
      rw [ht, List.take_take, Nat.min_eq_left hj] at h5
      have hs : R.take (j + 1) = R.take j ++ [R[j]'(by omega)] := List.take_succ_eq_append_getElem (by omega)
      rw [hs] at h5
      have ho0 : o ≠ 0 := by
        intro e
        have h9 := congrArg List.length h5
        rw [e, List.length_append] at h9
        simp only [txA, if_true, List.length_nil, List.length_cons] at h9
        omega
      have hex := txA_some ho0 h4
      rw [h5, ← h2] at hex
      rcases h.step (c := R[j]'(by omega)) h1 with ⟨_, h6⟩ | ⟨h6, h7, h8⟩
      · exact absurd hex (h6 _)
      · refine ⟨_, h7, by rw [h8, h2, hs], ?_⟩
        rw [hs, pz_snoc, h3, pzS_old h6]
  obtain ⟨n, h1, h2, h3⟩ := key long (Nat.le_refl _)
  rw [h3, h.inj h1 hb (by rw [h2, ht])]
end Go.Proofs.YtiocbnjdmceadaaDoor
