/- Copies undone: which are right, and what text they make. -/
namespace Go.Proofs.YtiocbnjdmceadaaDoor

/-- A copy as it may come in. -/
structure CpI where
  back : Int
  len : Int
  next : UInt8
  last : Bool
/-- Is a copy, the i-th of n, behind s bytes, not in form? -/
def badC (n i s : Nat) (c : CpI) : Bool := decide (c.back < 0 ∨ (s : Int) < c.back ∨ c.len < 0 ∨ (c.back = 0 ∧ c.len ≠ 0) ∨ (c.back ≠ 0 ∧ c.len = 0)) || (c.last && decide (i + 1 < n ∨ c.len = 0 ∨ c.next.toNat ≠ 0))
/-- How many bytes there are behind it. -/
def stepC (s : Nat) (c : CpI) : Nat := s + c.len.toNat + (if c.last = true then 0 else 1)
/-- The first one that is not in form, or how many bytes they make. -/
def scanC (n : Nat) : List CpI → Nat → Nat → Nat ⊕ Nat
  | [], _, s => .inr s
  | c :: r, i, s => if badC n i s c = true then .inl i else scanC n r (i + 1) (stepC s c)
def cpE (l : List CpI) : Nat × Int :=
  if 4000 < l.length then (2, -1) else if l.any (fun c => decide (4000 < c.len)) = true then (2, -1) else
    match scanC l.length l 0 0 with
    | .inl i => (3, (i : Int))
    | .inr s => if 4000 < s then (2, -1) else (0, -1)
theorem badC_yes {n i s : Nat} {c : CpI} (h : badC n i s c = true) : c.back < 0 ∨ (¬ c.back < 0 ∧ (s : Int) < c.back) ∨ (¬ c.back < 0 ∧ ¬ (s : Int) < c.back ∧ c.len < 0) ∨ (¬ c.back < 0 ∧ ¬ (s : Int) < c.back ∧ ¬ c.len < 0 ∧ c.back = 0 ∧ 0 < c.len) ∨ (¬ c.back < 0 ∧ ¬ (s : Int) < c.back ∧ ¬ c.len < 0 ∧ 0 < c.back ∧ c.len = 0) ∨
    (¬ c.back < 0 ∧ ¬ (s : Int) < c.back ∧ ¬ c.len < 0 ∧ ((c.back = 0 ∧ c.len = 0) ∨ (0 < c.back ∧ 0 < c.len)) ∧ c.last = true ∧ ((i : Int) + 1 < (n : Int) ∨ (¬ (i : Int) + 1 < (n : Int) ∧ c.len = 0) ∨ (¬ (i : Int) + 1 < (n : Int) ∧ 0 < c.len ∧ c.next.toNat ≠ 0))) := by
  unfold badC at h
  simp only [Bool.or_eq_true, Bool.and_eq_true, decide_eq_true_eq] at h
  by_cases h5 : c.back < 0 ∨ (s : Int) < c.back ∨ c.len < 0 ∨ (c.back = 0 ∧ c.len ≠ 0) ∨ (c.back ≠ 0 ∧ c.len = 0)
  · have h6 : c.back < 0 ∨ (¬ c.back < 0 ∧ (s : Int) < c.back) ∨ (¬ c.back < 0 ∧ ¬ (s : Int) < c.back ∧ c.len < 0) ∨ (¬ c.back < 0 ∧ ¬ (s : Int) < c.back ∧ ¬ c.len < 0 ∧ c.back = 0 ∧ 0 < c.len) ∨ (¬ c.back < 0 ∧ ¬ (s : Int) < c.back ∧ ¬ c.len < 0 ∧ 0 < c.back ∧ c.len = 0) := by omega
    rcases h6 with h6 | h6 | h6 | h6 | h6
    · exact Or.inl h6
    · exact Or.inr (Or.inl h6)
    · exact Or.inr (Or.inr (Or.inl h6))
    · exact Or.inr (Or.inr (Or.inr (Or.inl h6)))
    · exact Or.inr (Or.inr (Or.inr (Or.inr (Or.inl h6))))
  · rcases h with h | ⟨h, h7⟩
    · exact absurd h h5
    · exact Or.inr (Or.inr (Or.inr (Or.inr (Or.inr ⟨by omega, by omega, by omega, by omega, h, by omega⟩))))
theorem badC_no {n i s : Nat} {c : CpI} (h : badC n i s c = false) : 0 ≤ c.back ∧ c.back ≤ (s : Int) ∧ 0 ≤ c.len ∧ ((c.back = 0 ∧ c.len = 0) ∨ (0 < c.back ∧ 0 < c.len)) ∧ (c.last = false ∨ (c.last = true ∧ ¬ (i : Int) + 1 < (n : Int) ∧ 0 < c.len ∧ c.next.toNat = 0)) := by
  unfold badC at h
  simp only [Bool.or_eq_false_iff, Bool.and_eq_false_iff, decide_eq_false_iff_not] at h
  obtain ⟨h1, h2⟩ := h
  refine ⟨by omega, by omega, by omega, by omega, ?_⟩
  rcases h2 with h2 | h2
  · exact Or.inl h2
  · cases hl : c.last with
    | false => exact Or.inl rfl
    | true => exact Or.inr ⟨rfl, by omega, by omega, by omega⟩
theorem scanC_bad {n i s : Nat} {c : CpI} {r : List CpI} (h : badC n i s c = true) : scanC n (c :: r) i s = .inl i := by unfold scanC; rw [if_pos h]
theorem scanC_ok {n i s : Nat} {c : CpI} {r : List CpI} (h : badC n i s c = false) : scanC n (c :: r) i s = scanC n r (i + 1) (stepC s c) := by
  conv => lhs; unfold scanC
  rw [if_neg (by rw [h]; decide)]
theorem drop_at {α : Type} {l : List α} {i : Nat} {c : α} (h : l[i]? = some c) : l.drop i = c :: l.drop (i + 1) := by
  obtain ⟨hi, rfl⟩ := List.getElem?_eq_some_iff.1 h
  exact List.drop_eq_getElem_cons hi
theorem any_at {l : List CpI} {i : Nat} {c : CpI} (h : l[i]? = some c) (hc : 4000 < c.len) : l.any (fun c => decide (4000 < c.len)) = true := by
  rw [List.any_eq_true]
  exact ⟨c, List.mem_of_getElem? h, decide_eq_true hc⟩
theorem any_none {l : List CpI} (h : ∀ (i : Nat) (c : CpI), l[i]? = some c → ¬ 4000 < c.len) : l.any (fun c => decide (4000 < c.len)) = false := by
  rw [List.any_eq_false]
  intro c hc
  obtain ⟨i, hi⟩ := List.getElem?_of_mem hc
  rw [decide_eq_true_eq]
  exact h i c hi

/-- Bytes copied one by one. -/
def cpyN : Nat → Nat → List UInt8 → List UInt8
  | 0, _, b => b
  | n + 1, k, b => cpyN n k (b ++ [b.getD (b.length - k) 0])
theorem cpyN_length : ∀ n k b, (cpyN n k b).length = b.length + n
  | 0, k, b => rfl
  | n + 1, k, b => by rw [cpyN, cpyN_length n k]; simp; omega
/-- What a copy makes of what stands there. -/
def stepT (b : List UInt8) (c : CpI) : List UInt8 := if c.last = true then cpyN c.len.toNat c.back.toNat b else cpyN c.len.toNat c.back.toNat b ++ [c.next]
def cpT (l : List CpI) : List UInt8 := l.foldl stepT []
theorem stepT_length (b : List UInt8) (c : CpI) : (stepT b c).length = stepC b.length c := by
  unfold stepT stepC
  split
  · rw [cpyN_length]; omega
  · rw [List.length_append, cpyN_length]; rfl
theorem scan_len (n : Nat) : ∀ (r : List CpI) (i : Nat) (b : List UInt8) (t : Nat), scanC n r i b.length = .inr t → (r.foldl stepT b).length = t
  | [], i, b, t, h => by
    unfold scanC at h
    exact Sum.inr.inj h
  | c :: r, i, b, t, h => by
    cases hb : badC n i b.length c with
    | true => rw [scanC_bad hb] at h; cases h
    | false =>
      rw [scanC_ok hb, ← stepT_length] at h
      exact scan_len n r (i + 1) (stepT b c) t h
/-- At each place the copies are in form, and no more bytes are made than all. -/
theorem scan_at (n : Nat) : ∀ (r : List CpI) (i s t : Nat), scanC n r i s = .inr t → ∀ (k : Nat) (c : CpI), r[k]? = some c → ∃ s', badC n (i + k) s' c = false ∧ scanC n (r.drop k) (i + k) s' = .inr t ∧ scanC n (r.drop (k + 1)) (i + k + 1) (stepC s' c) = .inr t
  | [], i, s, t, h, k, c, hc => by simp at hc
  | d :: r, i, s, t, h, 0, c, hc => by
    obtain rfl : d = c := by simpa using hc
    cases hb : badC n i s d with
    | true => rw [scanC_bad hb] at h; cases h
    | false =>
      refine ⟨s, hb, h, ?_⟩
      rw [scanC_ok hb] at h
      simpa using h
  | d :: r, i, s, t, h, k + 1, c, hc => by
    cases hb : badC n i s d with
    | true => rw [scanC_bad hb] at h; cases h
    | false =>
      rw [scanC_ok hb] at h
      obtain ⟨s', h1, h2, h3⟩ := scan_at n r (i + 1) (stepC s d) t h k c (by simpa using hc)
      refine ⟨s', by rw [show i + (k + 1) = i + 1 + k by omega]; exact h1, by rw [show i + (k + 1) = i + 1 + k by omega]; simpa using h2, by rw [show i + (k + 1) + 1 = i + 1 + k + 1 by omega]; simpa using h3⟩
theorem scan_more (n : Nat) : ∀ (r : List CpI) (i s t : Nat), scanC n r i s = .inr t → s ≤ t
  | [], i, s, t, h => by
    unfold scanC at h
    have := Sum.inr.inj h
    omega
  | c :: r, i, s, t, h => by
    cases hb : badC n i s c with
    | true => rw [scanC_bad hb] at h; cases h
    | false =>
      rw [scanC_ok hb] at h
      have := scan_more n r (i + 1) (stepC s c) t h
      unfold stepC at this
      omega
end Go.Proofs.YtiocbnjdmceadaaDoor
