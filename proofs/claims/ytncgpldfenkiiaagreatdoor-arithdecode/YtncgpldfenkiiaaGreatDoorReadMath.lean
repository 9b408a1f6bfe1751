/- Words read bit by bit: what both the program and the document answer. -/
namespace Go.Proofs.YtncgpldfenkiiaaGreatDoor

/-- The bit at a place, if there is one. -/
def bitAt (t : ByteArray) (k : Nat) : Option Nat := if h : k < t.size then (if (t[k]'h) = 48 then some 0 else if (t[k]'h) = 49 then some 1 else none) else none
theorem bitAt_zero {t : ByteArray} {k : Nat} (h : k < t.size) (hx : (t[k]'h) = 48) : bitAt t k = some 0 := by unfold bitAt; rw [dif_pos h, if_pos hx]
theorem bitAt_one {t : ByteArray} {k : Nat} (h : k < t.size) (hx : (t[k]'h) = 49) : bitAt t k = some 1 := by unfold bitAt; rw [dif_pos h, if_neg (by rw [hx]; decide), if_pos hx]
theorem bitAt_other {t : ByteArray} {k : Nat} (h : k < t.size) (h0 : ¬ (t[k]'h) = 48) (h1 : ¬ (t[k]'h) = 49) : bitAt t k = none := by unfold bitAt; rw [dif_pos h, if_neg h0, if_neg h1]
theorem bitAt_end {t : ByteArray} {k : Nat} (h : t.size ≤ k) : bitAt t k = none := by unfold bitAt; rw [dif_neg (by omega)]
theorem bitAt_some {t : ByteArray} {k b : Nat} (h : bitAt t k = some b) : k < t.size ∧ (b = 0 ∨ b = 1) := by
  unfold bitAt at h
  split at h
  · rename_i hk
    refine ⟨hk, ?_⟩
    split at h
    · exact Or.inl (by simpa using h.symm)
    · split at h
      · exact Or.inr (by simpa using h.symm)
      · cases h
  · cases h
/-- The number that has n ahead and c digits behind it (left: an error's number; right: the number, the place behind). -/
def digR (t : ByteArray) : Nat → Nat → Nat → Nat ⊕ (Nat × Nat)
  | 0, n, k => .inr (n, k)
  | c + 1, n, k => match bitAt t k with
    | none => .inl 1
    | some b => digR t c (2 * n + b) (k + 1)
theorem digR_none {t : ByteArray} {c n k : Nat} (h : bitAt t k = none) : digR t (c + 1) n k = .inl 1 := by simp only [digR, h]
theorem digR_some {t : ByteArray} {c n k b : Nat} (h : bitAt t k = some b) : digR t (c + 1) n k = digR t c (2 * n + b) (k + 1) := by simp only [digR, h]
theorem digR_end (t : ByteArray) (n k : Nat) : digR t 0 n k = .inr (n, k) := rfl
theorem digR_le {t : ByteArray} : ∀ {c n k n' k' : Nat}, digR t c n k = .inr (n', k') → k ≤ t.size → n ≤ n' ∧ n' < (n + 1) * 2 ^ c ∧ k' = k + c ∧ k' ≤ t.size
  | 0, n, k, n', k', h, hk => by
    simp only [digR, Sum.inr.injEq, Prod.mk.injEq] at h
    obtain ⟨rfl, rfl⟩ := h
    simp; exact hk
  | c + 1, n, k, n', k', h, hk => by
    cases hb : bitAt t k with
    | none => rw [digR_none hb] at h; cases h
    | some b =>
      rw [digR_some hb] at h
      obtain ⟨h1, h2⟩ := bitAt_some hb
      obtain ⟨h3, h4, h5, h6⟩ := digR_le h (by omega)
      refine ⟨by omega, Nat.lt_of_lt_of_le h4 ?_, by omega, h6⟩
      rw [Nat.pow_succ, ← Nat.mul_assoc, Nat.mul_comm _ (2 ^ c), Nat.mul_comm _ (2 ^ c), Nat.mul_assoc]
      exact Nat.mul_le_mul_left _ (by omega)
/-- Gamma: z bits 0 are met. -/
def gamR (t : ByteArray) : Nat → Nat → Nat → Nat ⊕ (Nat × Nat)
  | 0, _, _ => .inl 2
  | f + 1, z, k => match bitAt t k with
    | none => .inl 1
    | some b => if b = 1 then digR t z 1 (k + 1) else gamR t f (z + 1) (k + 1)
theorem gamR_none {t : ByteArray} {f z k : Nat} (h : bitAt t k = none) : gamR t (f + 1) z k = .inl 1 := by simp only [gamR, h]
theorem gamR_one {t : ByteArray} {f z k : Nat} (h : bitAt t k = some 1) : gamR t (f + 1) z k = digR t z 1 (k + 1) := by simp only [gamR, h, if_true]
theorem gamR_zero {t : ByteArray} {f z k : Nat} (h : bitAt t k = some 0) : gamR t (f + 1) z k = gamR t f (z + 1) (k + 1) := by simp [gamR, h]
theorem gamR_le {t : ByteArray} : ∀ {f z k n' k' : Nat}, gamR t f z k = .inr (n', k') → k ≤ t.size → z + f ≤ 31 → 1 ≤ n' ∧ n' < 2 ^ 31 ∧ k' ≤ t.size
  | 0, z, k, n', k', h, hk, hz => by cases h
  | f + 1, z, k, n', k', h, hk, hz => by
    cases hb : bitAt t k with
    | none => rw [gamR_none hb] at h; cases h
    | some b =>
      obtain ⟨h1, h2⟩ := bitAt_some hb
      rcases h2 with rfl | rfl
      · rw [gamR_zero hb] at h
        exact gamR_le h (by omega) (by omega)
      · rw [gamR_one hb] at h
        obtain ⟨h3, h4, h5, h6⟩ := digR_le h (by omega)
        refine ⟨h3, Nat.lt_of_lt_of_le h4 ?_, h6⟩
        show 2 * 2 ^ z ≤ 2 ^ 31
        rw [Nat.mul_comm, ← Nat.pow_succ]
        exact Nat.pow_le_pow_right (by decide) (by omega)
def delR (t : ByteArray) (k : Nat) : Nat ⊕ (Nat × Nat) := match gamR t 31 0 k with
  | .inl e => .inl e
  | .inr p => if 30 < p.1 then .inl 2 else digR t (p.1 - 1) 1 p.2
theorem delR_bad {t : ByteArray} {k e : Nat} (h : gamR t 31 0 k = .inl e) : delR t k = .inl e := by unfold delR; rw [h]
theorem delR_great {t : ByteArray} {k c k' : Nat} (h : gamR t 31 0 k = .inr (c, k')) (hc : 30 < c) : delR t k = .inl 2 := by unfold delR; rw [h]; exact if_pos hc
theorem delR_ok {t : ByteArray} {k c k' : Nat} (h : gamR t 31 0 k = .inr (c, k')) (hc : ¬ 30 < c) : delR t k = digR t (c - 1) 1 k' := by unfold delR; rw [h]; exact if_neg hc
def omR (t : ByteArray) : Nat → Nat → Nat → Nat ⊕ (Nat × Nat)
  | 0, _, _ => .inl 1
  | f + 1, n, k => match bitAt t k with
    | none => .inl 1
    | some b => if b = 0 then .inr (n, k + 1) else if 30 ≤ n then .inl 2 else match digR t n 1 (k + 1) with
      | .inl e => .inl e
      | .inr p => omR t f p.1 p.2
theorem omR_none {t : ByteArray} {f n k : Nat} (h : bitAt t k = none) : omR t f n k = .inl 1 := by
  cases f with
  | zero => rfl
  | succ f => simp only [omR, h]
theorem omR_zero {t : ByteArray} {f n k : Nat} (h : bitAt t k = some 0) : omR t (f + 1) n k = .inr (n, k + 1) := by simp [omR, h]
theorem omR_great {t : ByteArray} {f n k : Nat} (h : bitAt t k = some 1) (hn : 30 ≤ n) : omR t (f + 1) n k = .inl 2 := by simp [omR, h, hn]
theorem omR_bad {t : ByteArray} {f n k e : Nat} (h : bitAt t k = some 1) (hn : ¬ 30 ≤ n) (hd : digR t n 1 (k + 1) = .inl e) : omR t (f + 1) n k = .inl e := by
  simp only [omR, h, hd]
  rw [if_neg (by decide), if_neg hn]
theorem omR_next {t : ByteArray} {f n k n' k' : Nat} (h : bitAt t k = some 1) (hn : ¬ 30 ≤ n) (hd : digR t n 1 (k + 1) = .inr (n', k')) : omR t (f + 1) n k = omR t f n' k' := by
  simp only [omR, h, hd]
  rw [if_neg (by decide), if_neg hn]
/-- What is read of a kind of words. -/
def wordR (t : ByteArray) : Nat → Nat ⊕ (Nat × Nat)
  | 0 => gamR t 31 0 0
  | 1 => delR t 0
  | _ => omR t t.size 1 0
/-- The answer: the number, its word's length, an error's number. -/
def finR : Nat ⊕ (Nat × Nat) → Nat × Nat × Nat
  | .inl e => (0, 0, e)
  | .inr p => if 1000000000 < p.1 then (0, 0, 2) else (p.1, p.2, 0)
theorem finR_bad (e : Nat) : finR (.inl e) = (0, 0, e) := rfl
theorem finR_great {n k : Nat} (h : 1000000000 < n) : finR (.inr (n, k)) = (0, 0, 2) := if_pos h
theorem finR_ok {n k : Nat} (h : ¬ 1000000000 < n) : finR (.inr (n, k)) = (n, k, 0) := if_neg h
/-- Errors are 1 or 2. -/
theorem digR_err {t : ByteArray} : ∀ {c n k e : Nat}, digR t c n k = .inl e → e = 1
  | 0, n, k, e, h => by cases h
  | c + 1, n, k, e, h => by
    cases hb : bitAt t k with
    | none => rw [digR_none hb] at h; simpa using h.symm
    | some b => rw [digR_some hb] at h; exact digR_err h
theorem gamR_err {t : ByteArray} : ∀ {f z k e : Nat}, gamR t f z k = .inl e → e = 1 ∨ e = 2
  | 0, z, k, e, h => Or.inr (by simpa [gamR] using h.symm)
  | f + 1, z, k, e, h => by
    cases hb : bitAt t k with
    | none => rw [gamR_none hb] at h; exact Or.inl (by simpa using h.symm)
    | some b =>
      rcases (bitAt_some hb).2 with rfl | rfl
      · rw [gamR_zero hb] at h; exact gamR_err h
      · rw [gamR_one hb] at h; exact Or.inl (digR_err h)
end Go.Proofs.YtncgpldfenkiiaaGreatDoor
