/- Rows that a call itself makes: they last, and grow. -/
import Derived.Test.YtiocbnjdmceadaaDoorSlideP
import Derived.Test.YtiocbnjdmceadaaDoorValidWalk
namespace Go.Proofs.YtiocbnjdmceadaaDoor
open Go.RowKit

theorem lzrow_later {w w' : World} {base : Nat} {t : TypeId} {sz : Nat} {v : Value} {n : Nat} {xs : List Value} (h : w.ownsRow base t sz v n xs) (hb : Below w.heap.size w w') : w'.ownsRow base t sz v n xs := by
  refine ⟨h.1, ?_⟩
  rcases h.2 with hn | ⟨g, cap, cur, hv, hg, hh, rest⟩
  · exact Or.inl hn
  · exact Or.inr ⟨g, cap, cur, hv, hg, (hb.block g (heap_lt hh)).trans hh, rest⟩
theorem lzrow_set {w : World} {base : Nat} {t : TypeId} {sz : Nat} {v : Value} {n : Nat} {xs : List Value} (h : w.ownsRow base t sz v n xs) (a : Addr) (x : Value) (hne : v.ownBlock ≠ some a.block) : (w.setCell a x).ownsRow base t sz v n xs := by
  refine ⟨h.1, ?_⟩
  rcases h.2 with hn | ⟨g, cap, cur, hv, hg, hh, rest⟩
  · exact Or.inl hn
  · refine Or.inr ⟨g, cap, cur, hv, hg, ?_, rest⟩
    rw [Below.heap_setCell _ _ _ _ (fun e => hne (by rw [hv, ← e]; rfl))]
    exact hh
theorem lz_push {B : Nat} {w0 wr w3 : World} {v : Value} {e : TypeId} {size n : Nat} {xs : List Value} (hB : Below B w0 wr) (hle : B ≤ wr.heap.size) (hR : wr.ownsRow B e size v n xs) (hg : wr.grownBy w3 v.ownBlock) : Below B w0 w3 :=
  hB.trans ((Below.refl _ _).grown hg hle (fun k e => (hR.lt k e).1))
theorem lzrow_form {w : World} {base : Nat} {t : TypeId} {sz : Nat} {v : Value} {n : Nat} {xs : List Value} (h : w.ownsRow base t sz v n xs) : ∃ ad cap, v = .slice ad n cap := by
  rcases h.2 with ⟨rfl, rfl⟩ | ⟨g, cap, cur, rfl, _⟩
  · exact ⟨_, _, rfl⟩
  · exact ⟨_, _, rfl⟩
theorem four_new (w : World) (x0 x1 x2 x3 : Value) (t : TypeId) (j : Nat) (u : Value) (h : [x0, x1, x2, x3][j]? = some u) : (w.alloc (.cells #[x0, x1, x2, x3] t)).cell? ((⟨w.heap.size, 0, none⟩ : Addr).add j) = some u := by
  rw [add_plain, World.cell?_alloc_at _ _ _ _ rfl, Nat.zero_add]
  rcases j with _ | _ | _ | _ | j
  · simpa using h
  · simpa using h
  · simpa using h
  · simpa using h
  · simp at h

/-- The cells of copies. -/
def cpyC (c : Cpy) : List Value := [.int .i64 (c.back : Int), .int .i64 (c.len : Int), .int .u8 (c.next : Int), .bool c.last]
def cpysC : List Cpy → List Value
  | [] => []
  | c :: r => cpyC c ++ cpysC r
theorem cpysC_append : ∀ a b, cpysC (a ++ b) = cpysC a ++ cpysC b
  | [], b => rfl
  | c :: a, b => by simp [cpysC, cpysC_append a b]
theorem cpysC_snoc (a : List Cpy) (c : Cpy) : cpysC (a ++ [c]) = cpysC a ++ [.int .i64 (c.back : Int), .int .i64 (c.len : Int), .int .u8 (c.next : Int), .bool c.last] := by
  rw [cpysC_append]; rfl
theorem cpysC_length : ∀ l, (cpysC l).length = l.length * 4
  | [] => rfl
  | c :: r => by simp [cpysC, cpyC, cpysC_length r]; omega
/-- Copies in memory, of whichever of the two types. -/
def CpyAt (w : World) (v : Value) (l : List Cpy) : Prop := ∃ ad cap, v = .slice ad l.length cap ∧ ∀ i c, l[i]? = some c → ∃ b o, ad = some ⟨b, o, none⟩ ∧ w.cell? ⟨b, o + i * 4, none⟩ = some (.int .i64 (c.back : Int)) ∧ w.cell? ⟨b, o + i * 4 + 1, none⟩ = some (.int .i64 (c.len : Int)) ∧ w.cell? ⟨b, o + i * 4 + 2, none⟩ = some (.int .u8 (c.next : Int)) ∧ w.cell? ⟨b, o + i * 4 + 3, none⟩ = some (.bool c.last)
theorem cpysC_at : ∀ (l : List Cpy) (i : Nat) (c : Cpy), l[i]? = some c → (cpysC l)[i * 4]? = some (.int .i64 (c.back : Int)) ∧ (cpysC l)[i * 4 + 1]? = some (.int .i64 (c.len : Int)) ∧ (cpysC l)[i * 4 + 2]? = some (.int .u8 (c.next : Int)) ∧ (cpysC l)[i * 4 + 3]? = some (.bool c.last)
  | [], i, c, h => by simp at h
  | d :: r, 0, c, h => by
    obtain rfl : d = c := by simpa using h
    exact ⟨rfl, rfl, rfl, rfl⟩
  | d :: r, i + 1, c, h => by
    obtain ⟨h0, h1, h2, h3⟩ := cpysC_at r i c (by simpa using h)
    have e : ∀ k, (cpysC (d :: r))[(i + 1) * 4 + k]? = (cpysC r)[i * 4 + k]? := fun k => by
      show (cpyC d ++ cpysC r)[(i + 1) * 4 + k]? = _
      rw [List.getElem?_append_right (by show 4 ≤ _; omega)]
      congr 1
      show (i + 1) * 4 + k - 4 = _
      omega
    exact ⟨by have := e 0; simp only [Nat.add_zero] at this; rw [this]; exact h0, by rw [e 1]; exact h1, by rw [e 2]; exact h2, by rw [e 3]; exact h3⟩
theorem cpyAt_row {w : World} {base : Nat} {t : TypeId} {v : Value} {l : List Cpy} (h : w.ownsRow base t 4 v l.length (cpysC l)) : CpyAt w v l := by
  rcases h.2 with ⟨rfl, hn⟩ | ⟨g, cap, cur, rfl, _⟩
  · obtain rfl : l = [] := List.eq_nil_of_length_eq_zero hn
    exact ⟨_, _, rfl, fun i c hc => by simp at hc⟩
  · refine ⟨_, _, rfl, fun i c hc => ⟨g, 0, rfl, ?_⟩⟩
    have hi : i < l.length := by
      rcases Nat.lt_or_ge i l.length with h' | h'
      · exact h'
      · rw [List.getElem?_eq_none h'] at hc; cases hc
    obtain ⟨h0, h1, h2, h3⟩ := cpysC_at l i c hc
    have e : ∀ j, j < l.length * 4 → w.cell? ⟨g, j, none⟩ = (cpysC l)[j]? := fun j hj => h.cellAt j hj
    rw [Nat.zero_add]
    refine ⟨?_, ?_, ?_, ?_⟩
    · rw [e _ (by omega)]; exact h0
    · rw [e _ (by omega)]; exact h1
    · rw [e _ (by omega)]; exact h2
    · rw [e _ (by omega)]; exact h3
theorem CpyAt.later {w w' : World} {v : Value} {l : List Cpy} (h : CpyAt w v l) (hb : Below w.heap.size w w') : CpyAt w' v l := by
  obtain ⟨ad, cap, hv, hc⟩ := h
  refine ⟨ad, cap, hv, fun i c hi => ?_⟩
  obtain ⟨b, o, ha, h0, h1, h2, h3⟩ := hc i c hi
  refine ⟨b, o, ha, ?_, ?_, ?_, ?_⟩
  · rw [hb.cell (cell_lt h0)]; exact h0
  · rw [hb.cell (cell_lt h1)]; exact h1
  · rw [hb.cell (cell_lt h2)]; exact h2
  · rw [hb.cell (cell_lt h3)]; exact h3
end Go.Proofs.YtiocbnjdmceadaaDoor
