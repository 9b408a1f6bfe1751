/- Lists of numbers in memory, and their sums. -/
import Derived.Test.YtiegobkbinojeaaDoorOwn
namespace Go.Proofs.YtiegobkbinojeaaDoor
open Go.RowKit

def RowAt (w : World) (b o n : Nat) (z : Nat → Int) : Prop := ∀ i, i < n → w.cell? ⟨b, o + i, none⟩ = some (.int .i64 (z i))
def NumsAt (w : World) (v : Value) (n : Nat) (z : Nat → Int) : Prop := (∃ ad cap, v = .slice ad 0 cap ∧ n = 0) ∨ ∃ b o cap, v = .slice (some ⟨b, o, none⟩) n cap ∧ 0 < n ∧ RowAt w b o n z
theorem RowAt.later {w w' : World} {b o n : Nat} {z : Nat → Int} (h : RowAt w b o n z) (hb : Below w.heap.size w w') : RowAt w' b o n z := fun i hi => by
  rw [hb.cell (cell_lt (h i hi))]; exact h i hi
theorem NumsAt.later {w w' : World} {v : Value} {n : Nat} {z : Nat → Int} (h : NumsAt w v n z) (hb : Below w.heap.size w w') : NumsAt w' v n z := by
  rcases h with h | ⟨b, o, cap, hv, hn, hr⟩
  · exact Or.inl h
  · exact Or.inr ⟨b, o, cap, hv, hn, hr.later hb⟩
theorem NumsAt.form {w : World} {v : Value} {n : Nat} {z : Nat → Int} (h : NumsAt w v n z) : ∃ ad cap, v = .slice ad n cap := by
  rcases h with ⟨ad, cap, rfl, rfl⟩ | ⟨b, o, cap, rfl, _⟩
  · exact ⟨_, _, rfl⟩
  · exact ⟨_, _, rfl⟩
theorem NumsAt.congr {w : World} {v : Value} {n : Nat} {z z' : Nat → Int} (h : NumsAt w v n z) (he : ∀ i, i < n → z i = z' i) : NumsAt w v n z' := by
  rcases h with h | ⟨b, o, cap, hv, hn, hr⟩
  · exact Or.inl h
  · exact Or.inr ⟨b, o, cap, hv, hn, fun i hi => by rw [← he i hi]; exact hr i hi⟩

/-- The cells of n numbers. -/
def numCells (z : Nat → Int) : Nat → List Value
  | 0 => []
  | n + 1 => numCells z n ++ [.int .i64 (z n)]
theorem numCells_length (z : Nat → Int) : ∀ n, (numCells z n).length = n
  | 0 => rfl
  | n + 1 => by simp [numCells, numCells_length z n]
theorem numCells_at (z : Nat → Int) : ∀ n i, i < n → (numCells z n)[i]? = some (.int .i64 (z i))
  | 0, i, h => by omega
  | n + 1, i, h => by
    have hl := numCells_length z n
    simp only [numCells]
    rcases Nat.lt_or_ge i n with h' | h'
    · rw [List.getElem?_append_left (by omega)]
      exact numCells_at z n i h'
    · obtain rfl : i = n := by omega
      rw [List.getElem?_append_right (by omega), hl]
      simp
theorem numCells_ints (z : Nat → Int) (n : Nat) (u : Value) (h : u ∈ numCells z n) : ∃ x, u = .int .i64 x := by
  obtain ⟨i, hi⟩ := List.getElem?_of_mem h
  have hl := numCells_length z n
  have hlt : i < n := by
    rcases Nat.lt_or_ge i n with h' | h'
    · exact h'
    · rw [List.getElem?_eq_none (by omega)] at hi; cases hi
  rw [numCells_at z n i hlt] at hi
  exact ⟨_, (Option.some.inj hi).symm⟩
theorem numCells_news {w : World} {b o n : Nat} {z : Nat → Int} (h : RowAt w b o n z) (j : Nat) (u : Value) (hu : (numCells z n)[j]? = some u) : w.cell? ((⟨b, o, none⟩ : Addr).add j) = some u := by
  have hl := numCells_length z n
  have hj : j < n := by
    rcases Nat.lt_or_ge j n with h' | h'
    · exact h'
    · rw [List.getElem?_eq_none (by omega)] at hu; cases hu
  rw [numCells_at z n j hj] at hu
  rw [← hu, add_plain]
  exact h j hj
theorem rowAt_of_row {w : World} {base g n cap : Nat} {t : TypeId} {z : Nat → Int} (h : w.ownsRow base t 1 (.slice (some ⟨g, 0, none⟩) n cap) n (numCells z n)) : RowAt w g 0 n z := by
  obtain ⟨hl, hr⟩ := h
  rcases hr with ⟨hx, _⟩ | ⟨g', cap', cur, hv, _, hh, _, _, hs, ht⟩
  · cases hx
  · obtain ⟨rfl, rfl⟩ : g = g' ∧ cap = cap' := by simpa using hv
    intro i hi
    rw [← numCells_at z n i hi, ← ht, List.getElem?_take_of_lt (by omega)]
    simp [World.cell?, hh]

/-- Sums of numbers. -/
def sumN (z : Nat → Int) : Nat → Int
  | 0 => 0
  | n + 1 => sumN z n + z n
theorem sumN_congr {z z' : Nat → Int} : ∀ {n : Nat}, (∀ i, i < n → z i = z' i) → sumN z n = sumN z' n
  | 0, _ => rfl
  | n + 1, h => by
    simp only [sumN]
    rw [sumN_congr (fun i hi => h i (by omega)), h n (by omega)]
theorem sumN_nonneg {z : Nat → Int} : ∀ {n : Nat}, (∀ i, i < n → 0 ≤ z i) → 0 ≤ sumN z n
  | 0, _ => Int.le_refl _
  | n + 1, h => by
    have h1 := sumN_nonneg (z := z) (n := n) (fun i hi => h i (by omega))
    have h2 := h n (by omega)
    simp only [sumN]
    omega
theorem sumN_mono {z : Nat → Int} {k : Nat} : ∀ {n : Nat}, (∀ i, i < n → 0 ≤ z i) → k ≤ n → sumN z k ≤ sumN z n
  | 0, _, hk => by obtain rfl : k = 0 := by omega
                   exact Int.le_refl _
  | n + 1, h, hk => by
    rcases Nat.lt_or_ge k (n + 1) with hlt | hge
    · have h1 := sumN_mono (z := z) (k := k) (n := n) (fun i hi => h i (by omega)) (by omega)
      have h2 := h n (by omega)
      simp only [sumN]
      omega
    · obtain rfl : k = n + 1 := by omega
      exact Int.le_refl _
theorem sumN_ge {z : Nat → Int} {n i : Nat} (h : ∀ i, i < n → 0 ≤ z i) (hi : i < n) : z i ≤ sumN z n := by
  have h1 := sumN_mono (k := i + 1) h hi
  have h2 := sumN_nonneg (z := z) (n := i) (fun j hj => h j (by omega))
  simp only [sumN] at h1
  omega

theorem sumN_le {f g : Nat → Int} : ∀ {n : Nat}, (∀ i, i < n → f i ≤ g i) → sumN f n ≤ sumN g n
  | 0, _ => Int.le_refl _
  | n + 1, h => by
    have h1 := sumN_le (f := f) (g := g) (n := n) (fun i hi => h i (by omega))
    have h2 := h n (by omega)
    simp only [sumN]
    omega

/-- Is one below 0? Is one above? -/
def negB (z : Nat → Int) : Nat → Bool
  | 0 => false
  | n + 1 => negB z n || decide (z n < 0)
def someB (z : Nat → Int) : Nat → Bool
  | 0 => false
  | n + 1 => someB z n || decide (0 < z n)
theorem negB_iff (z : Nat → Int) : ∀ n, negB z n = true ↔ ∃ i, i < n ∧ z i < 0
  | 0 => by simp [negB]
  | n + 1 => by
    have ih := negB_iff z n
    simp only [negB, Bool.or_eq_true, decide_eq_true_eq, ih]
    constructor
    · rintro (⟨i, h1, h2⟩ | h)
      · exact ⟨i, by omega, h2⟩
      · exact ⟨n, by omega, h⟩
    · rintro ⟨i, h1, h2⟩
      rcases Nat.lt_or_ge i n with h | h
      · exact Or.inl ⟨i, h, h2⟩
      · obtain rfl : i = n := by omega
        exact Or.inr h2
theorem someB_iff (z : Nat → Int) : ∀ n, someB z n = true ↔ ∃ i, i < n ∧ 0 < z i
  | 0 => by simp [someB]
  | n + 1 => by
    have ih := someB_iff z n
    simp only [someB, Bool.or_eq_true, decide_eq_true_eq, ih]
    constructor
    · rintro (⟨i, h1, h2⟩ | h)
      · exact ⟨i, by omega, h2⟩
      · exact ⟨n, by omega, h⟩
    · rintro ⟨i, h1, h2⟩
      rcases Nat.lt_or_ge i n with h | h
      · exact Or.inl ⟨i, h, h2⟩
      · obtain rfl : i = n := by omega
        exact Or.inr h2
theorem not_neg {z : Nat → Int} {n : Nat} (h : negB z n = false) : ∀ i, i < n → 0 ≤ z i := fun i hi => by
  rcases Int.lt_or_le (z i) 0 with h' | h'
  · have := (negB_iff z n).2 ⟨i, hi, h'⟩
    rw [h] at this; cases this
  · exact h'
/-- The number of a list's error, as the document says it: 0, 2 (ErrBound), 3 (ErrShape). -/
def listErr (z : Nat → Int) (n : Nat) : Nat := if negB z n = true ∨ someB z n = false then 3 else if 4096 < sumN z n then 2 else 0
def weightsErr (z : Nat → Int) (n : Nat) : Nat := if 16 < n then 2 else listErr z n
/-- Right weights. -/
structure OkW (z : Nat → Int) (n : Nat) : Prop where
  nn : ∀ i, i < n → 0 ≤ z i
  pos : 0 < sumN z n
  le : sumN z n ≤ 4096
theorem listErr_ok {z : Nat → Int} {n : Nat} (h : listErr z n = 0) : OkW z n := by
  unfold listErr at h
  by_cases h1 : negB z n = true ∨ someB z n = false
  · rw [if_pos h1] at h; cases h
  · rw [if_neg h1] at h
    have hn : negB z n = false := by cases hh : negB z n with | true => exact absurd (Or.inl hh) h1 | false => rfl
    have hs : someB z n = true := by cases hh : someB z n with | false => exact absurd (Or.inr hh) h1 | true => rfl
    by_cases h2 : 4096 < sumN z n
    · rw [if_pos h2] at h; cases h
    · obtain ⟨i, hi, hz⟩ := (someB_iff z n).1 hs
      have := sumN_ge (not_neg hn) hi
      exact ⟨not_neg hn, by omega, by omega⟩
theorem OkW.posN {z : Nat → Int} {n : Nat} (h : OkW z n) : 0 < n := by
  rcases Nat.eq_zero_or_pos n with rfl | h'
  · have := h.pos; simp [sumN] at this
  · exact h'
theorem OkW.lt {z : Nat → Int} {n : Nat} (h : OkW z n) {i : Nat} (hi : i < n) : 0 ≤ z i ∧ z i ≤ 4096 := by
  have h1 := h.nn i hi
  have h2 := sumN_ge h.nn hi
  have h3 := h.le
  exact ⟨h1, by omega⟩
theorem OkW.part {z : Nat → Int} {n : Nat} (h : OkW z n) {k : Nat} (hk : k ≤ n) : 0 ≤ sumN z k ∧ sumN z k ≤ 4096 := by
  have h1 := sumN_nonneg (z := z) (n := k) (fun i hi => h.nn i (by omega))
  have h2 := sumN_mono h.nn hk
  have h3 := h.le
  exact ⟨h1, by omega⟩

/-- An error by its number. -/
def errV (a : Nat → Addr) (k : Nat) : Value := if k = 0 then .nilIface else .iface 149 (.pointer (some (a (k - 1))))
end Go.Proofs.YtiegobkbinojeaaDoor
