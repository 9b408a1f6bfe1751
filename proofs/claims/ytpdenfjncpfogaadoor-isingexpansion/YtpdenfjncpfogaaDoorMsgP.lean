/- Messages: which are right, in the program and in the document; errors with their places. -/
import Derived.Test.YtpdenfjncpfogaaDoorWeights
import Derived.Test.YtpdenfjncpfogaaDoorCode
namespace Go.Proofs.YtpdenfjncpfogaaDoor
open Go.RowKit

/-- The first one of n of which something holds; n, if there is none. -/
def fstB (p : Nat → Bool) : Nat → Nat
  | 0 => 0
  | n + 1 => if fstB p n < n then fstB p n else if p n then n else n + 1
theorem fstB_le (p : Nat → Bool) : ∀ n, fstB p n ≤ n
  | 0 => Nat.le_refl _
  | n + 1 => by
    have := fstB_le p n
    unfold fstB
    split
    · omega
    · split <;> omega
theorem fstB_none {p : Nat → Bool} : ∀ {n : Nat}, fstB p n = n → ∀ i, i < n → p i = false
  | 0, _, i, hi => by omega
  | n + 1, h, i, hi => by
    unfold fstB at h
    have hle := fstB_le p n
    by_cases h1 : fstB p n < n
    · rw [if_pos h1] at h; omega
    · rw [if_neg h1] at h
      cases hp : p n with
      | true => rw [hp] at h; simp at h
      | false =>
        rcases Nat.lt_or_ge i n with h2 | h2
        · exact fstB_none (by omega) i h2
        · obtain rfl : i = n := by omega
          exact hp
theorem fstB_all {p : Nat → Bool} : ∀ {n : Nat}, (∀ i, i < n → p i = false) → fstB p n = n
  | 0, _ => rfl
  | n + 1, h => by
    unfold fstB
    rw [fstB_all (fun i hi => h i (by omega)), if_neg (Nat.lt_irrefl _), h n (by omega)]
    rfl
theorem fstB_at {p : Nat → Bool} {k : Nat} (h0 : ∀ i, i < k → p i = false) (h1 : p k = true) : ∀ {n : Nat}, k < n → fstB p n = k
  | 0, h => by omega
  | n + 1, h => by
    unfold fstB
    rcases Nat.lt_or_ge k n with h2 | h2
    · rw [fstB_at h0 h1 h2, if_pos h2]
    · obtain rfl : k = n := by omega
      rw [fstB_all h0, if_neg (Nat.lt_irrefl _), h1, if_pos rfl]
theorem fstB_is {p : Nat → Bool} : ∀ {n : Nat}, fstB p n < n → p (fstB p n) = true ∧ ∀ i, i < fstB p n → p i = false
  | 0, h => by omega
  | n + 1, h => by
    have hle := fstB_le p n
    by_cases h1 : fstB p n < n
    · have e : fstB p (n + 1) = fstB p n := by
        show (if fstB p n < n then fstB p n else if p n then n else n + 1) = _
        rw [if_pos h1]
      rw [e]; exact fstB_is h1
    · have h2 : fstB p n = n := by omega
      have e : fstB p (n + 1) = if p n then n else n + 1 := by
        show (if fstB p n < n then fstB p n else if p n then n else n + 1) = _
        rw [if_neg h1]
      rw [e] at h ⊢
      cases hp : p n with
      | false => rw [hp] at h; simp at h
      | true =>
        rw [if_pos rfl]
        exact ⟨hp, fstB_none h2⟩

/-- A symbol that is none; one whose weight is 0. -/
def badS (n : Nat) (l : Nat → Int) (i : Nat) : Bool := decide (l i < 0 ∨ (n : Int) ≤ l i)
def zerS (z : Nat → Int) (l : Nat → Int) (i : Nat) : Bool := decide (z (l i).toNat = 0)
/-- The number of a message's error, and its place. -/
def msgE (z : Nat → Int) (n m : Nat) (l : Nat → Int) : Nat × Int :=
  if 200 < m then (2, -1) else if fstB (badS n l) m < m then (3, (fstB (badS n l) m : Int)) else if fstB (zerS z l) m < m then (4, (fstB (zerS z l) m : Int)) else (0, -1)
def mesE (z : Nat → Int) (n m : Nat) (l : Nat → Int) : Nat × Int := if weightsErr z n = 0 then msgE z n m l else (weightsErr z n, -1)
/-- An error by its number and place, in memory. -/
def ErrIs (a : Nat → Addr) (w : World) (v : Value) (c : Nat × Int) : Prop :=
  (v = errV a c.1 ∧ c.2 = -1 ∧ c.1 ≤ 8) ∨ ∃ pb, v = .iface 98 (.pointer (some ⟨pb, 0, none⟩)) ∧ w.cell? ⟨pb, 0, none⟩ = some (.int .i64 c.2) ∧ w.cell? ⟨pb, 1, none⟩ = some (.iface 143 (.pointer (some (a (c.1 - 1))))) ∧ 1 ≤ c.1 ∧ c.1 ≤ 8
theorem ErrIs.later {a : Nat → Addr} {w w' : World} {v : Value} {c : Nat × Int} (h : ErrIs a w v c) (hb : Below w.heap.size w w') : ErrIs a w' v c := by
  rcases h with h | ⟨pb, h1, h2, h3, h4⟩
  · exact Or.inl h
  · exact Or.inr ⟨pb, h1, by rw [hb.cell (cell_lt h2)]; exact h2, by rw [hb.cell (cell_lt h3)]; exact h3, h4⟩

theorem NumsAt.cellAt {w : World} {v : Value} {n : Nat} {z : Nat → Int} (h : NumsAt w v n z) (h0 : 0 < n) : ∃ b o cap, v = .slice (some ⟨b, o, none⟩) n cap ∧ RowAt w b o n z := by
  rcases h with ⟨_, _, _, rfl⟩ | ⟨b, o, cap, h1, _, h2⟩
  · omega
  · exact ⟨b, o, cap, h1, h2⟩
/-- A list whose length and row are known (nothing is said of the place of an empty one). -/
theorem NumsAt.rowAt {w : World} {v : Value} {n : Nat} {z : Nat → Int} (h : NumsAt w v n z) : ∃ ad cap, v = .slice ad n cap ∧ ∀ i, i < n → ∃ b o, ad = some ⟨b, o, none⟩ ∧ w.cell? ⟨b, o + i, none⟩ = some (.int .i64 (z i)) := by
  rcases h with ⟨ad, cap, rfl, rfl⟩ | ⟨b, o, cap, rfl, _, h2⟩
  · exact ⟨ad, cap, rfl, fun i hi => by omega⟩
  · exact ⟨_, cap, rfl, fun i hi => ⟨b, o, rfl, h2 i hi⟩⟩

end Go.Proofs.YtpdenfjncpfogaaDoor
