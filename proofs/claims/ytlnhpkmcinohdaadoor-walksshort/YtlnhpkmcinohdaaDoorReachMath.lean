/- Who comes to whom: by WARSHALL's rounds, and by looking on from what is found. Plain functions. -/
namespace Go.Proofs.YtlnhpkmcinohdaaDoor

/-- Behind m rounds: a way whose states between are among the first m. -/
def war (e : Nat → Nat → Bool) : Nat → Nat → Nat → Bool
  | 0, i, k => e i k
  | m + 1, i, k => war e m i k || (war e m i m && war e m m k)
/-- A way of a step at least, within the first n states: the least relation that has single steps and is closed under a step ahead. -/
def Way (e : Nat → Nat → Bool) (n i k : Nat) : Prop :=
  ∀ R : Nat → Nat → Prop, (∀ i k, i < n → k < n → e i k = true → R i k) → (∀ i j k, i < n → j < n → e i j = true → R j k → R i k) → R i k
theorem Way.one {e : Nat → Nat → Bool} {n i k : Nat} (hi : i < n) (hk : k < n) (he : e i k = true) : Way e n i k := fun _ h1 _ => h1 i k hi hk he
theorem Way.more {e : Nat → Nat → Bool} {n i j k : Nat} (hi : i < n) (hj : j < n) (he : e i j = true) (h : Way e n j k) : Way e n i k := fun R h1 h2 => h2 i j k hi hj he (h R h1 h2)
/-- To show something of all ways: of one step, and of a step ahead of a way of which it holds. -/
theorem Way.ind {e : Nat → Nat → Bool} {n : Nat} {R : Nat → Nat → Prop} (h1 : ∀ i k, i < n → k < n → e i k = true → R i k) (h2 : ∀ i j k, i < n → j < n → e i j = true → Way e n j k → R j k → R i k) {i k : Nat} (h : Way e n i k) : R i k :=
  (h (fun i k => Way e n i k ∧ R i k) (fun i k hi hk he => ⟨.one hi hk he, h1 i k hi hk he⟩) (fun i j k hi hj he h' => ⟨.more hi hj he h'.1, h2 i j k hi hj he h'.1 h'.2⟩)).2
theorem Way.trans {e : Nat → Nat → Bool} {n i j k : Nat} (h : Way e n i j) (h' : Way e n j k) : Way e n i k :=
  Way.ind (R := fun i j => Way e n j k → Way e n i k) (fun _ _ a b c h' => .more a b c h') (fun _ _ _ a b c _ ih h' => .more a b c (ih h')) h h'
theorem Way.lt {e : Nat → Nat → Bool} {n i k : Nat} (h : Way e n i k) : i < n ∧ k < n :=
  Way.ind (R := fun i k => i < n ∧ k < n) (fun _ _ a b _ => ⟨a, b⟩) (fun _ _ _ a _ _ _ ih => ⟨a, ih.2⟩) h
theorem Way.last {e : Nat → Nat → Bool} {n i j k : Nat} (h : Way e n i j) (hk : k < n) (he : e j k = true) : Way e n i k := h.trans (.one h.lt.2 hk he)
theorem war_way {e : Nat → Nat → Bool} {n : Nat} : ∀ {m i k : Nat}, m ≤ n → i < n → k < n → war e m i k = true → Way e n i k
  | 0, i, k, _, hi, hk, h => .one hi hk h
  | m + 1, i, k, hm, hi, hk, h => by
    simp only [war, Bool.or_eq_true, Bool.and_eq_true] at h
    rcases h with h | ⟨h1, h2⟩
    · exact war_way (by omega) hi hk h
    · exact (war_way (by omega) hi (by omega) h1).trans (war_way (by omega) (by omega) hk h2)
theorem war_edge {e : Nat → Nat → Bool} {i k : Nat} (h : e i k = true) : ∀ m, war e m i k = true
  | 0 => h
  | m + 1 => by simp [war, war_edge h m]
theorem war_trans {e : Nat → Nat → Bool} : ∀ {m i j k : Nat}, j < m → war e m i j = true → war e m j k = true → war e m i k = true
  | 0, _, _, _, h, _, _ => by omega
  | m + 1, i, j, k, hj, h1, h2 => by
    simp only [war, Bool.or_eq_true, Bool.and_eq_true] at h1 h2 ⊢
    rcases Nat.lt_or_ge j m with hj' | hj'
    · rcases h1 with h1 | ⟨h1, h1'⟩
      · rcases h2 with h2 | ⟨h2, h2'⟩
        · exact Or.inl (war_trans hj' h1 h2)
        · exact Or.inr ⟨war_trans hj' h1 h2, h2'⟩
      · rcases h2 with h2 | ⟨h2, h2'⟩
        · exact Or.inr ⟨h1, war_trans hj' h1' h2⟩
        · exact Or.inr ⟨h1, h2'⟩
    · obtain rfl : j = m := by omega
      rcases h1 with h1 | ⟨h1, _⟩
      · rcases h2 with h2 | ⟨_, h2⟩
        · exact Or.inr ⟨h1, h2⟩
        · exact Or.inr ⟨h1, h2⟩
      · rcases h2 with h2 | ⟨_, h2⟩
        · exact Or.inr ⟨h1, h2⟩
        · exact Or.inr ⟨h1, h2⟩
theorem war_iff {e : Nat → Nat → Bool} {n i k : Nat} (hi : i < n) (hk : k < n) : war e n i k = true ↔ Way e n i k := by
  constructor
  · exact war_way (Nat.le_refl n) hi hk
  · exact Way.ind (R := fun i k => war e n i k = true) (fun _ _ _ _ h => war_edge h n) (fun _ _ _ _ hj h _ ih => war_trans hj (war_edge h n) ih)
/-- Within a round what is asked for does not change. -/
theorem war_row (e : Nat → Nat → Bool) (m i : Nat) : war e (m + 1) i m = war e m i m := by
  simp only [war]; cases war e m i m <;> simp
theorem war_col (e : Nat → Nat → Bool) (m k : Nat) : war e (m + 1) m k = war e m m k := by
  simp only [war]; cases war e m m k <;> simp

/-- The least state of a state's class. -/
def leastTo (to : Nat → Nat → Bool) (i : Nat) : Nat → Nat → Nat
  | 0, d => d
  | k + 1, d => if to i k = true ∧ to k i = true then leastTo to i k k else leastTo to i k d
def least (to : Nat → Nat → Bool) (i : Nat) : Nat := leastTo to i i i
theorem leastTo_spec (to : Nat → Nat → Bool) (i : Nat) : ∀ k d, (leastTo to i k d = d ∧ ∀ j, j < k → ¬ (to i j = true ∧ to j i = true)) ∨ (leastTo to i k d < k ∧ to i (leastTo to i k d) = true ∧ to (leastTo to i k d) i = true ∧ ∀ j, j < leastTo to i k d → ¬ (to i j = true ∧ to j i = true))
  | 0, d => Or.inl ⟨rfl, fun j hj => by omega⟩
  | k + 1, d => by
    by_cases h : to i k = true ∧ to k i = true
    · rw [leastTo, if_pos h]
      rcases leastTo_spec to i k k with ⟨h1, h2⟩ | ⟨h1, h2⟩
      · rw [h1]; exact Or.inr ⟨by omega, h.1, h.2, h2⟩
      · exact Or.inr ⟨by omega, h2⟩
    · rw [leastTo, if_neg h]
      rcases leastTo_spec to i k d with ⟨h1, h2⟩ | ⟨h1, h2⟩
      · refine Or.inl ⟨h1, fun j hj => ?_⟩
        rcases Nat.lt_or_ge j k with h' | h'
        · exact h2 j h'
        · obtain rfl : j = k := by omega
          exact h
      · exact Or.inr ⟨by omega, h2⟩
theorem least_first {to : Nat → Nat → Bool} {i k : Nat} (hk : k < i) (h1 : to i k = true) (h2 : to k i = true) (h : ∀ j, j < k → ¬ (to i j = true ∧ to j i = true)) : least to i = k := by
  unfold least
  rcases leastTo_spec to i i i with ⟨_, h'⟩ | ⟨_, h3, h4, h5⟩
  · exact absurd ⟨h1, h2⟩ (h' k hk)
  · rcases Nat.lt_trichotomy (leastTo to i i i) k with hl | hl | hl
    · exact absurd ⟨h3, h4⟩ (h _ hl)
    · exact hl
    · exact absurd ⟨h1, h2⟩ (h5 k hl)
theorem least_none {to : Nat → Nat → Bool} {i : Nat} (h : ∀ j, j < i → ¬ (to i j = true ∧ to j i = true)) : least to i = i := by
  unfold least
  rcases leastTo_spec to i i i with ⟨h1, _⟩ | ⟨h1, h2, h3, _⟩
  · exact h1
  · exact absurd ⟨h2, h3⟩ (h _ h1)
theorem least_le (to : Nat → Nat → Bool) (i : Nat) : least to i ≤ i := by
  unfold least
  rcases leastTo_spec to i i i with ⟨h1, _⟩ | ⟨h1, _⟩ <;> omega
theorem least_own {to : Nat → Nat → Bool} {i : Nat} (h : least to i ≠ i) : to i (least to i) = true ∧ to (least to i) i = true := by
  unfold least at *
  rcases leastTo_spec to i i i with ⟨h1, _⟩ | ⟨_, h2, h3, _⟩
  · exact absurd h1 h
  · exact ⟨h2, h3⟩
/-- Who can always come back. -/
def staysB (to : Nat → Nat → Bool) (i : Nat) : Nat → Bool
  | 0 => true
  | k + 1 => staysB to i k && !(to i k && !to k i)
theorem stays_iff (to : Nat → Nat → Bool) (i : Nat) : ∀ n, staysB to i n = true ↔ ∀ k, k < n → to i k = true → to k i = true
  | 0 => by simp [staysB]
  | n + 1 => by
    simp only [staysB, Bool.and_eq_true, Bool.not_eq_true', Bool.and_eq_false_iff, Bool.not_eq_false', stays_iff to i n]
    constructor
    · rintro ⟨h1, h2⟩ k hk ht
      rcases Nat.lt_or_ge k n with h' | h'
      · exact h1 k h' ht
      · obtain rfl : k = n := by omega
        rcases h2 with h2 | h2
        · rw [h2] at ht; cases ht
        · exact h2
    · intro h
      refine ⟨fun k hk => h k (by omega), ?_⟩
      cases ht : to i n
      · exact Or.inl rfl
      · exact Or.inr (h n (by omega) ht)
/-- The least states of closed classes among the first n, of N. -/
def closedL (to : Nat → Nat → Bool) (N : Nat) : Nat → List Nat
  | 0 => []
  | n + 1 => if least to n = n ∧ staysB to n N = true then closedL to N n ++ [n] else closedL to N n
/-- States that can be come to. -/
def classL (to : Nat → Nat → Bool) (i : Nat) : Nat → List Nat
  | 0 => []
  | n + 1 => if to i n = true then classL to i n ++ [n] else classL to i n
end Go.Proofs.YtlnhpkmcinohdaaDoor
