/- All sets tried, one behind the other: the document's way to the first of the greatest. Plain functions. -/
import Derived.Test.YtojljmapdafmaaaDoorZeNear
namespace Go.Proofs.YtojljmapdafmaaaDoor

def apF (p q : Nat → Nat) (m v : Nat) : Nat := 18446744073709551615 - nrB p q m v
/-- What two vertices fit by: bits. -/
def okF (fit : Nat → Nat) (v i : Nat) : Bool := (fit v).testBit i
def lstB (n t : Nat) : List Nat := (List.range n).filter fun i => t.testBit i
theorem lstB_asc (n t : Nat) : Asc n (lstB n t) := (Asc.range n).filter _
theorem lstB_bits {n : Nat} {l : List Nat} (h : Asc n l) : lstB n (bitZ l) = l := by
  have e : (fun i => (bitZ l).testBit i) = fun i => decide (i ∈ l) := funext fun i => bitZ_test l i
  rw [lstB, e, asc_filter h]
theorem mem_lstB {n t i : Nat} : i ∈ lstB n t ↔ i < n ∧ t.testBit i = true := by simp [lstB]
theorem lstB_succ (n t : Nat) : lstB (n + 1) t = if t.testBit n then lstB n t ++ [n] else lstB n t := by
  unfold lstB
  rw [List.range_succ, List.filter_append]
  by_cases h : t.testBit n
  · simp [h]
  · simp [h]
/-- No edge within, among the first k. -/
def freeK (p q : Nat → Nat) (t : Nat) : Nat → Bool
  | 0 => true
  | k + 1 => freeK p q t k && (!t.testBit (p k) || !t.testBit (q k))
theorem freeK_iff {p q : Nat → Nat} {t : Nat} : ∀ {m : Nat}, freeK p q t m = true ↔ ∀ k, k < m → ¬ (t.testBit (p k) = true ∧ t.testBit (q k) = true)
  | 0 => by simp [freeK]
  | m + 1 => by
    rw [freeK, Bool.and_eq_true, freeK_iff]
    constructor
    · rintro ⟨h1, h2⟩ k hk
      rcases Nat.lt_or_ge k m with h3 | h3
      · exact h1 k h3
      · obtain rfl : k = m := by omega
        rintro ⟨h4, h5⟩
        rw [h4, h5] at h2
        cases h2
    · intro h
      refine ⟨fun k hk => h k (by omega), ?_⟩
      have h1 := h m (by omega)
      cases h2 : t.testBit (p m) <;> cases h3 : t.testBit (q m) <;> simp_all
theorem freeK_stop {p q : Nat → Nat} {t k : Nat} (h : freeK p q t k = false) : ∀ {m : Nat}, k ≤ m → freeK p q t m = false
  | 0, hk => by
    obtain rfl : k = 0 := by omega
    exact h
  | m + 1, hk => by
    rcases Nat.eq_or_lt_of_le hk with rfl | h1
    · exact h
    · rw [freeK, freeK_stop h (m := m) (by omega), Bool.false_and]
theorem pairwise_mem {S : Nat → Nat → Prop} : ∀ {l : List Nat}, l.Pairwise (· < ·) → l.Pairwise S → ∀ {a b : Nat}, a ∈ l → b ∈ l → a < b → S a b
  | [], _, _, a, _, h, _, _ => by cases h
  | x :: l, h1, h2, a, b, ha, hb, hab => by
    obtain ⟨g1, g2⟩ := List.pairwise_cons.1 h1
    obtain ⟨k1, k2⟩ := List.pairwise_cons.1 h2
    rcases List.mem_cons.1 ha with e1 | e1
    · rcases List.mem_cons.1 hb with e2 | e2
      · omega
      · rw [e1]; exact k1 b e2
    · rcases List.mem_cons.1 hb with e2 | e2
      · have := g1 a e1; omega
      · exact pairwise_mem g2 k2 e1 e2 hab
theorem okG_iff {p q : Nat → Nat} {m n a b : Nat} (hn : n ≤ 16) (hpq : ∀ k, k < m → p k < q k ∧ q k < n) (ha : a < n) (hb : b < n) (hab : a ≠ b) : okF (apF p q m) a b = true ↔ joinB p q m a b = false := by
  have hx : nrB p q m a < 2 ^ 64 := nrB_lt p q m a 64 (by omega) (fun k hk => by have := hpq k hk; omega)
  unfold okF apF
  rw [test_not hx (by omega), nrB_test p q m a b (fun k hk => (hpq k hk).1)]
  have e : decide (b = a) = false := decide_eq_false (fun h => hab h.symm)
  rw [e, Bool.false_or]
  cases joinB p q m a b <;> simp
/-- A set without edges: no two of it are joined. -/
theorem fits_iff {p q : Nat → Nat} {m n : Nat} {l : List Nat} (hn : n ≤ 16) (hpq : ∀ k, k < m → p k < q k ∧ q k < n) : FitsZ (okF (apF p q m)) n l ↔ Asc n l ∧ ∀ k, k < m → ¬ (p k ∈ l ∧ q k ∈ l) := by
  constructor
  · rintro ⟨h1, h2⟩
    refine ⟨h1, fun k hk hh => ?_⟩
    have h3 := pairwise_mem h1.1 h2 hh.1 hh.2 (hpq k hk).1
    rw [okG_iff hn hpq (h1.2 _ hh.1) (h1.2 _ hh.2) (Nat.ne_of_lt (hpq k hk).1)] at h3
    have h4 : joinB p q m (p k) (q k) = true := joinB_iff.2 ⟨k, hk, Or.inl ⟨rfl, rfl⟩⟩
    rw [h3] at h4
    cases h4
  · rintro ⟨h1, h2⟩
    refine ⟨h1, h1.1.imp_of_mem fun {a b} ha hb hab => ?_⟩
    rw [okG_iff hn hpq (h1.2 _ ha) (h1.2 _ hb) (Nat.ne_of_lt hab)]
    cases h3 : joinB p q m a b
    · rfl
    · obtain ⟨k, hk, h4⟩ := joinB_iff.1 h3
      rcases h4 with ⟨rfl, rfl⟩ | ⟨rfl, rfl⟩
      · exact absurd ⟨ha, hb⟩ (h2 k hk)
      · exact absurd ⟨hb, ha⟩ (h2 k hk)
theorem free_fits {p q : Nat → Nat} {m n t : Nat} (hn : n ≤ 16) (hpq : ∀ k, k < m → p k < q k ∧ q k < n) : FitsZ (okF (apF p q m)) n (lstB n t) ↔ freeK p q t m = true := by
  rw [fits_iff hn hpq, freeK_iff]
  constructor
  · rintro ⟨_, h⟩ k hk ⟨h1, h2⟩
    exact h k hk ⟨mem_lstB.2 ⟨by have := hpq k hk; omega, h1⟩, mem_lstB.2 ⟨(hpq k hk).2, h2⟩⟩
  · intro h
    exact ⟨lstB_asc n t, fun k hk hh => h k hk ⟨(mem_lstB.1 hh.1).2, (mem_lstB.1 hh.2).2⟩⟩
/-- The best of the first t sets. -/
def BestTo (ok : Nat → Nat → Bool) (n t : Nat) (B : List Nat) : Prop := FitsZ ok n B ∧ ∀ s, s < t → FitsZ ok n (lstB n s) → (lstB n s).length < B.length ∨ ((lstB n s).length = B.length ∧ aheadB (lstB n s) B = false)
theorem BestTo.zero (ok : Nat → Nat → Bool) (n : Nat) : BestTo ok n 0 [] := ⟨⟨⟨List.Pairwise.nil, fun _ h => by cases h⟩, List.Pairwise.nil⟩, fun s hs => by omega⟩
theorem BestTo.skip {ok : Nat → Nat → Bool} {n t : Nat} {B : List Nat} (h : BestTo ok n t B) (hs : FitsZ ok n (lstB n t) → (lstB n t).length < B.length ∨ ((lstB n t).length = B.length ∧ aheadB (lstB n t) B = false)) : BestTo ok n (t + 1) B :=
  ⟨h.1, fun s h1 h2 => by
    rcases Nat.lt_or_ge s t with h3 | h3
    · exact h.2 s h3 h2
    · obtain rfl : s = t := by omega
      exact hs h2⟩
theorem BestTo.take {ok : Nat → Nat → Bool} {n t : Nat} {B : List Nat} (h : BestTo ok n t B) (hf : FitsZ ok n (lstB n t)) (h1 : ¬ (lstB n t).length < B.length) (h2 : (lstB n t).length = B.length → aheadB (lstB n t) B = true) : BestTo ok n (t + 1) (lstB n t) :=
  ⟨hf, fun s h3 h4 => by
    rcases Nat.lt_or_ge s t with h5 | h5
    · rcases h.2 s h5 h4 with h6 | ⟨h6, h7⟩
      · exact Or.inl (by omega)
      · by_cases h8 : (lstB n t).length = B.length
        · refine Or.inr ⟨by omega, ?_⟩
          cases h9 : aheadB (lstB n s) (lstB n t)
          · rfl
          · rw [ahead_trans h9 (h2 h8)] at h7
            cases h7
        · exact Or.inl (by omega)
    · obtain rfl : s = t := by omega
      exact Or.inr ⟨rfl, ahead_irr _⟩⟩
theorem BestTo.done {ok : Nat → Nat → Bool} {n : Nat} {B : List Nat} (h : BestTo ok n (2 ^ n) B) : B = aloneL ok n := by
  refine alone_only h.1 fun t ht => ?_
  have h1 := h.2 (bitZ t) ht.1.lt
  rw [lstB_bits ht.1] at h1
  exact h1 ht
end Go.Proofs.YtojljmapdafmaaaDoor
