/- The law's helpers own and short: a copy of a logarithm, and how many terms it has. -/
import Derived.Test.YtklhfagcembigaaGreatDoorLogError
import Derived.Deep.AppendLies
import Derived.OwnWalk
import Derived.WalkSpells
import Derived.Deep.Upon
namespace Go.Proofs.YtklhfagcembigaaGreatDoor
open Go.RowKit

theorem Tryz.infoTerm : (Tryz.prog.info? 90).map (fun i => (i.zero, i.size, i.bytes)) = some (some (.agg #[.int .i64 0, .int .i64 0]), 2, 16) := by kernel_rfl

theorem Hid.mk' {p : Prop} (h : p) : Hid p := h

/-- The cells of n terms. -/
def termCells (p c : Nat → Int) : Nat → List Value
  | 0 => []
  | n + 1 => termCells p c n ++ [.int .i64 (p n), .int .i64 (c n)]
theorem termCells_length (p c : Nat → Int) : ∀ n, (termCells p c n).length = n * 2
  | 0 => rfl
  | n + 1 => by simp [termCells, termCells_length p c n]; omega
theorem termCells_at (p c : Nat → Int) : ∀ n i, i < n → (termCells p c n)[i * 2]? = some (.int .i64 (p i)) ∧ (termCells p c n)[i * 2 + 1]? = some (.int .i64 (c i))
  | 0, i, h => by omega
  | n + 1, i, h => by
    have hl := termCells_length p c n
    rcases Nat.lt_or_ge i n with h' | h'
    · obtain ⟨h1, h2⟩ := termCells_at p c n i h'
      simp only [termCells]
      rw [List.getElem?_append_left (by omega), List.getElem?_append_left (by omega)]
      exact ⟨h1, h2⟩
    · obtain rfl : i = n := by omega
      simp only [termCells]
      rw [List.getElem?_append_right (by omega), List.getElem?_append_right (by omega), hl]
      simp
theorem termCells_ints (p c : Nat → Int) : ∀ n u, u ∈ termCells p c n → ∃ x, u = .int .i64 x
  | 0, u, h => by simp [termCells] at h
  | n + 1, u, h => by
    simp only [termCells, List.mem_append, List.mem_cons, List.not_mem_nil, or_false] at h
    rcases h with h | h | h
    · exact termCells_ints p c n u h
    · exact ⟨_, h⟩
    · exact ⟨_, h⟩
theorem add_plain (b o j : Nat) : (⟨b, o, none⟩ : Addr).add j = ⟨b, o + j, none⟩ := by
  unfold Addr.add
  split
  · rename_i h
    subst h
    rfl
  · rfl
theorem termCells_news {w : World} {b o n : Nat} {p c : Nat → Int} (h : TermsAt w b o n p c) (j : Nat) (u : Value) (hu : (termCells p c n)[j]? = some u) : w.cell? ((⟨b, o, none⟩ : Addr).add j) = some u := by
  have hl := termCells_length p c n
  have hj : j < n * 2 := by
    rcases Nat.lt_or_ge j (n * 2) with h' | h'
    · exact h'
    · rw [List.getElem?_eq_none (by omega)] at hu; cases hu
  obtain ⟨i, r, hr, rfl⟩ : ∃ i r, r < 2 ∧ j = i * 2 + r := ⟨j / 2, j % 2, by omega, by omega⟩
  have hi : i < n := by omega
  obtain ⟨h1, h2⟩ := termCells_at p c n i hi
  obtain ⟨h3, h4⟩ := h i hi
  rcases (show r = 0 ∨ r = 1 by omega) with rfl | rfl
  · rw [Nat.add_zero] at hu ⊢
    rw [h1] at hu
    rw [← hu, add_plain]; exact h3
  · rw [h2] at hu
    rw [← hu, add_plain, ← Nat.add_assoc]; exact h4
theorem termsAt_of_row {w : World} {base g n cap : Nat} {p c : Nat → Int} (h : w.ownsRow base 90 2 (.slice (some ⟨g, 0, none⟩) n cap) n (termCells p c n)) : TermsAt w g 0 n p c := by
  obtain ⟨hl, hr⟩ := h
  rcases hr with ⟨hx, _⟩ | ⟨g', cap', cur, hv, _, hh, _, _, hs, ht⟩
  · cases hx
  · obtain ⟨rfl, rfl⟩ : g = g' ∧ cap = cap' := by simpa using hv
    intro i hi
    obtain ⟨h1, h2⟩ := termCells_at p c n i hi
    have e : ∀ j, j < n * 2 → w.cell? ⟨g, 0 + j, none⟩ = (termCells p c n)[j]? := fun j hj => by
      rw [← ht, List.getElem?_take_of_lt hj]
      simp [World.cell?, hh]
    refine ⟨by rw [e _ (by omega)]; exact h1, ?_⟩
    rw [Nat.add_assoc, e _ (by omega)]; exact h2

theorem frozen_new {w : World} {cs : Array Value} {t : TypeId} {b i : Nat} (h : b = w.heap.size) : (w.alloc (.cells cs t)).frozen? ⟨b, i, none⟩ = false := by
  subst h
  exact World.frozen?_alloc_new w cs t i

/-- What the append has left of the three blocks ahead of it. -/
theorem own_after {w w1 : World} {d0 d1 z0 z1 e0 e1 : Value} {t : TypeId} {row : Option Nat} (hrow : row = none)
    (hg : (((w.alloc (.cells #[d0, d1] t)).alloc (.cells #[z0, z1] t)).alloc (.cells #[e0, e1] t)).grownBy w1 row) :
    w1.cell? ⟨w.heap.size + 1, 0, none⟩ = some z0 ∧ w1.cell? ⟨w.heap.size + 1, 1, none⟩ = some z1 ∧ w1.cell? ⟨w.heap.size + 1 + 1, 0, none⟩ = some e0 ∧ w1.cell? ⟨w.heap.size + 1 + 1, 1, none⟩ = some e1 ∧
    w1.frozen? ⟨w.heap.size + 1, 0, none⟩ = false ∧ w1.frozen? ⟨w.heap.size + 1, 1, none⟩ = false ∧ w1.frozen? ⟨w.heap.size + 1 + 1, 0, none⟩ = false ∧ w1.frozen? ⟨w.heap.size + 1 + 1, 1, none⟩ = false ∧
    w.heap.size + 1 + 1 < w1.heap.size ∧ Below w.heap.size w w1 := by
  subst hrow
  have hb : Below (w.heap.size + 3) (((w.alloc (.cells #[d0, d1] t)).alloc (.cells #[z0, z1] t)).alloc (.cells #[e0, e1] t)) w1 := (Below.refl _ _).grown hg (by simp) (fun k hk => by cases hk)
  have hs := hb.size
  simp at hs
  refine ⟨?_, ?_, ?_, ?_, ?_, ?_, ?_, ?_, by omega, ?_⟩
  · rw [hb.cell (p := ⟨w.heap.size + 1, 0, none⟩) (by show w.heap.size + 1 < w.heap.size + 3; omega), World.cell?_alloc_lt _ _ ⟨w.heap.size + 1, 0, none⟩ (by simp), World.cell?_alloc_at _ _ _ _ (by simp)]; rfl
  · rw [hb.cell (p := ⟨w.heap.size + 1, 1, none⟩) (by show w.heap.size + 1 < w.heap.size + 3; omega), World.cell?_alloc_lt _ _ ⟨w.heap.size + 1, 1, none⟩ (by simp), World.cell?_alloc_at _ _ _ _ (by simp)]; rfl
  · rw [hb.cell (p := ⟨w.heap.size + 1 + 1, 0, none⟩) (by show w.heap.size + 1 + 1 < w.heap.size + 3; omega), World.cell?_alloc_at _ _ _ _ (by simp)]; rfl
  · rw [hb.cell (p := ⟨w.heap.size + 1 + 1, 1, none⟩) (by show w.heap.size + 1 + 1 < w.heap.size + 3; omega), World.cell?_alloc_at _ _ _ _ (by simp)]; rfl
  · rw [hb.frozen (p := ⟨w.heap.size + 1, 0, none⟩) (by show w.heap.size + 1 < w.heap.size + 3; omega), World.frozen?_alloc_old _ _ ⟨w.heap.size + 1, 0, none⟩ (by simp)]; exact frozen_new (by simp)
  · rw [hb.frozen (p := ⟨w.heap.size + 1, 1, none⟩) (by show w.heap.size + 1 < w.heap.size + 3; omega), World.frozen?_alloc_old _ _ ⟨w.heap.size + 1, 1, none⟩ (by simp)]; exact frozen_new (by simp)
  · rw [hb.frozen (p := ⟨w.heap.size + 1 + 1, 0, none⟩) (by show w.heap.size + 1 + 1 < w.heap.size + 3; omega)]; exact frozen_new (by simp)
  · rw [hb.frozen (p := ⟨w.heap.size + 1 + 1, 1, none⟩) (by show w.heap.size + 1 + 1 < w.heap.size + 3; omega)]; exact frozen_new (by simp)
  · exact ((((Below.refl _ _).alloc (Nat.le_refl _) _).alloc (by simp) _).alloc (by simp; omega) _).trans (hb.mono (by omega))

theorem append_zero (w : World) (ty : TypeId) (ad : Option Addr) (cap : Nat) : (Builtin.append_ #[25, 25] ty #[.slice none 0 0, .slice ad 0 cap]).run Tryz.prog w = .ok (.slice none 0 0) w := by
  obtain ⟨i, hi, hi2⟩ := Option.map_eq_some_iff.1 Tryz.infoTerm
  refine run_append_nothing w _ _ ty 90 i Tryz.underlying25 hi none 0 0 (Nat.le_refl _) _ ?_
  cases ad with
  | none => exact Src.ofNil w Tryz.underlying25 cap
  | some a => exact Src.ofSlice w Tryz.underlying25 a 0 cap [] (by simp) (fun j u h => by simp at h) (fun u h => by simp at h)

theorem wpList_append_zero {w : World} {ops : Array Oper} {rest : List Oper} {o : Oper} {a : Act} {Q : Exit → Act → World → Prop} (hgd : o.guard = none) (s x : Operand)
    (ho : o.op = .call { callee := .builtin .append, args := #[s, x], argTypes := #[25, 25] })
    (ad : Option Addr) (cap : Nat) (hs : a.eval s = .slice none 0 0) (hx : a.eval x = .slice ad 0 cap)
    (h : wpList Tryz.prog ops Q rest (a.put o.dst (.slice none 0 0)) w) : wpList Tryz.prog ops Q (o :: rest) a w := by
  refine wpList_plain hgd fun K hK => ?_
  have hrun := append_zero w o.type ad cap
  unfold Oper.wp
  simp [execOp, ho, resolve, invoke, builtin, hs, hx, hrun, Result.andThen]
  exact hK _ _ h

end Go.Proofs.YtklhfagcembigaaGreatDoor
