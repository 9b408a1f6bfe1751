/- The law's helpers own and short: a copy of a logarithm, and how many terms it has. -/
import Derived.Test.YtiegobkbinojeaaDoorLogError
import Derived.Deep.AppendLies
import Derived.OwnWalk
import Derived.WalkSpells
import Derived.Deep.Upon
namespace Go.Proofs.YtiegobkbinojeaaDoor
open Go.RowKit

theorem Hid.mk' {p : Prop} (h : p) : Hid p := h

/-- The cells of n terms. -/
def termCells (p c : Nat → Int) : Nat → List Value
  | 0 => []
  | n + 1 => termCells p c n ++ [.int .i64 (p n), .int .i64 (c n)]
theorem termCells_length (p c : Nat → Int) : ∀ n, (termCells p c n).length = n * 2
  | 0 => rfl
  | n + 1 => by simp [termCells, termCells_length p c n]; omega
theorem termCells_at (p c : Nat → Int) : ∀ n i, i < n → (termCells p c n)[i * 2]? = some (.int .i64 (p i)) ∧ (termCells p c n)[i * 2 + 1]? = some (.int .i64 (c i))
  | 0, i, h => by omega
  | n + 1, i, h => by
    have hl := termCells_length p c n
    rcases Nat.lt_or_ge i n with h' | h'
    · obtain ⟨h1, h2⟩ := termCells_at p c n i h'
      simp only [termCells]
      rw [List.getElem?_append_left (by omega), List.getElem?_append_left (by omega)]
      exact ⟨h1, h2⟩
    · obtain rfl : i = n := by omega
      simp only [termCells]
      rw [List.getElem?_append_right (by omega), List.getElem?_append_right (by omega), hl]
      simp
theorem termCells_ints (p c : Nat → Int) : ∀ n u, u ∈ termCells p c n → ∃ x, u = .int .i64 x
  | 0, u, h => by simp [termCells] at h
  | n + 1, u, h => by
    simp only [termCells, List.mem_append, List.mem_cons, List.not_mem_nil, or_false] at h
    rcases h with h | h | h
    · exact termCells_ints p c n u h
    · exact ⟨_, h⟩
    · exact ⟨_, h⟩
theorem add_plain (b o j : Nat) : (⟨b, o, none⟩ : Addr).add j = ⟨b, o + j, none⟩ := by
  unfold Addr.add
  split
  · rename_i h
    subst h
    rfl
  · rfl
theorem termCells_news {w : World} {b o n : Nat} {p c : Nat → Int} (h : TermsAt w b o n p c) (j : Nat) (u : Value) (hu : (termCells p c n)[j]? = some u) : w.cell? ((⟨b, o, none⟩ : Addr).add j) = some u := by
  have hl := termCells_length p c n
  have hj : j < n * 2 := by
    rcases Nat.lt_or_ge j (n * 2) with h' | h'
    · exact h'
    · rw [List.getElem?_eq_none (by omega)] at hu; cases hu
  obtain ⟨i, r, hr, rfl⟩ : ∃ i r, r < 2 ∧ j = i * 2 + r := ⟨j / 2, j % 2, by omega, by omega⟩
  have hi : i < n := by omega
  obtain ⟨h1, h2⟩ := termCells_at p c n i hi
  obtain ⟨h3, h4⟩ := h i hi
  rcases (show r = 0 ∨ r = 1 by omega) with rfl | rfl
  · rw [Nat.add_zero] at hu ⊢
    rw [h1] at hu
    rw [← hu, add_plain]; exact h3
  · rw [h2] at hu
    rw [← hu, add_plain, ← Nat.add_assoc]; exact h4
theorem frozen_new {w : World} {cs : Array Value} {t : TypeId} {b i : Nat} (h : b = w.heap.size) : (w.alloc (.cells cs t)).frozen? ⟨b, i, none⟩ = false := by
  subst h
  exact World.frozen?_alloc_new w cs t i

/-- What the append has left of the three blocks ahead of it. -/
theorem own_after {w w1 : World} {d0 d1 z0 z1 e0 e1 : Value} {t : TypeId} {row : Option Nat} (hrow : row = none)
    (hg : (((w.alloc (.cells #[d0, d1] t)).alloc (.cells #[z0, z1] t)).alloc (.cells #[e0, e1] t)).grownBy w1 row) :
    w1.cell? ⟨w.heap.size + 1, 0, none⟩ = some z0 ∧ w1.cell? ⟨w.heap.size + 1, 1, none⟩ = some z1 ∧ w1.cell? ⟨w.heap.size + 1 + 1, 0, none⟩ = some e0 ∧ w1.cell? ⟨w.heap.size + 1 + 1, 1, none⟩ = some e1 ∧
    w1.frozen? ⟨w.heap.size + 1, 0, none⟩ = false ∧ w1.frozen? ⟨w.heap.size + 1, 1, none⟩ = false ∧ w1.frozen? ⟨w.heap.size + 1 + 1, 0, none⟩ = false ∧ w1.frozen? ⟨w.heap.size + 1 + 1, 1, none⟩ = false ∧
    w.heap.size + 1 + 1 < w1.heap.size ∧ Below w.heap.size w w1 := by
  subst hrow
  have hb : Below (w.heap.size + 3) (((w.alloc (.cells #[d0, d1] t)).alloc (.cells #[z0, z1] t)).alloc (.cells #[e0, e1] t)) w1 := (Below.refl _ _).grown hg (by simp) (fun k hk => by cases hk)
  have hs := hb.size
  simp at hs
  refine ⟨?_, ?_, ?_, ?_, ?_, ?_, ?_, ?_, by omega, ?_⟩
  · rw [hb.cell (p := ⟨w.heap.size + 1, 0, none⟩) (by show w.heap.size + 1 < w.heap.size + 3; omega), World.cell?_alloc_lt _ _ ⟨w.heap.size + 1, 0, none⟩ (by simp), World.cell?_alloc_at _ _ _ _ (by simp)]; rfl
  · rw [hb.cell (p := ⟨w.heap.size + 1, 1, none⟩) (by show w.heap.size + 1 < w.heap.size + 3; omega), World.cell?_alloc_lt _ _ ⟨w.heap.size + 1, 1, none⟩ (by simp), World.cell?_alloc_at _ _ _ _ (by simp)]; rfl
  · rw [hb.cell (p := ⟨w.heap.size + 1 + 1, 0, none⟩) (by show w.heap.size + 1 + 1 < w.heap.size + 3; omega), World.cell?_alloc_at _ _ _ _ (by simp)]; rfl
  · rw [hb.cell (p := ⟨w.heap.size + 1 + 1, 1, none⟩) (by show w.heap.size + 1 + 1 < w.heap.size + 3; omega), World.cell?_alloc_at _ _ _ _ (by simp)]; rfl
  · rw [hb.frozen (p := ⟨w.heap.size + 1, 0, none⟩) (by show w.heap.size + 1 < w.heap.size + 3; omega), World.frozen?_alloc_old _ _ ⟨w.heap.size + 1, 0, none⟩ (by simp)]; exact frozen_new (by simp)
  · rw [hb.frozen (p := ⟨w.heap.size + 1, 1, none⟩) (by show w.heap.size + 1 < w.heap.size + 3; omega), World.frozen?_alloc_old _ _ ⟨w.heap.size + 1, 1, none⟩ (by simp)]; exact frozen_new (by simp)
  · rw [hb.frozen (p := ⟨w.heap.size + 1 + 1, 0, none⟩) (by show w.heap.size + 1 + 1 < w.heap.size + 3; omega)]; exact frozen_new (by simp)
  · rw [hb.frozen (p := ⟨w.heap.size + 1 + 1, 1, none⟩) (by show w.heap.size + 1 + 1 < w.heap.size + 3; omega)]; exact frozen_new (by simp)
  · exact ((((Below.refl _ _).alloc (Nat.le_refl _) _).alloc (by simp) _).alloc (by simp; omega) _).trans (hb.mono (by omega))

end Go.Proofs.YtiegobkbinojeaaDoor
