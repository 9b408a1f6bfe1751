/- (chain.folded).visits. -/
import Derived.Test.YtlmehmbipbkeiaaDoorTakeOut
import Derived.Test.YtlmehmbipbkeiaaDoorTabCopy
namespace Go.Proofs.YtlmehmbipbkeiaaDoor
open Go.RowKit

theorem Tryd.infoNat : (Tryd.prog.info? 50).map (fun i => (i.zero, i.size, i.bytes)) = some (some (.slice none 0 0), 1, 24) := by kernel_rfl
/-- A list of numbers without a bound, as one reads it. -/
def NatsAt (w : World) (v : Value) (n : Nat) (V : Nat → Nat) : Prop := ∃ (g o cap : Nat) (f : Nat → Value), v = .slice (some ⟨g, o, none⟩) n cap ∧ ∀ i, i < n → w.cell? ⟨g, o + i, none⟩ = some (f i) ∧ NatAt w (f i) (V i)
theorem NatsAt.later {w w' : World} {v : Value} {n : Nat} {V : Nat → Nat} (h : NatsAt w v n V) (hb : Below w.heap.size w w') : NatsAt w' v n V := by
  obtain ⟨g, o, cap, f, hv, hr⟩ := h
  exact ⟨g, o, cap, f, hv, fun i hi => ⟨by rw [hb.cell (cell_lt (hr i hi).1)]; exact (hr i hi).1, (hr i hi).2.later hb⟩⟩
theorem ownsRow_cells {w : World} {B e gb s cap : Nat} {f : Nat → Value} (h : w.ownsRow B e 1 (.slice (some ⟨gb, 0, none⟩) s cap) s (rowV f s)) : B ≤ gb ∧ gb < w.heap.size ∧ ∀ i, i < s → w.cell? ⟨gb, i, none⟩ = some (f i) ∧ w.frozen? ⟨gb, i, none⟩ = false := by
  obtain ⟨hl, hr⟩ := h
  rcases hr with ⟨hx, _⟩ | ⟨g', cap', cur, hv, hb, hh, h1, _, hs, ht⟩
  · cases hx
  · simp only [Value.slice.injEq, Option.some.injEq, Addr.mk.injEq, and_true, true_and] at hv
    obtain ⟨rfl, rfl⟩ := hv
    refine ⟨hb, heap_lt hh, fun i hi => ⟨?_, by simp [World.frozen?, hh]⟩⟩
    have e1 : w.cell? ⟨gb, i, none⟩ = cur.toList[i]? := by simp [World.cell?, hh]
    rw [e1]
    have e2 : cur.toList[i]? = (rowV f s)[i]? := by rw [← ht, List.getElem?_take_of_lt (by omega)]
    rw [e2]
    simp [rowV, hi]
theorem rowV_set (f : Nat → Value) (s k : Nat) (y : Value) : (rowV f s).set k y = rowV (fun i => if i = k then y else f i) s := by
  refine List.ext_getElem? fun j => ?_
  rw [List.getElem?_set]
  by_cases hj : j < s
  · by_cases hk : k = j
    · subst hk; simp [rowV, hj]
    · simp [rowV, hj, hk, Ne.symm hk]
  · have : (rowV f s)[j]? = none := by simp [rowV]; omega
    have h2 : (rowV (fun i => if i = k then y else f i) s)[j]? = none := by simp [rowV]; omega
    rw [h2]
    split
    · split
      · rename_i h3; simp [rowV] at h3; omega
      · rfl
    · exact this
theorem ownsRow_set {w : World} {B e gb s cap k : Nat} {xs : List Value} (y : Value) (h : w.ownsRow B e 1 (.slice (some ⟨gb, 0, none⟩) s cap) s xs) : (w.setCell ⟨gb, k, none⟩ y).ownsRow B e 1 (.slice (some ⟨gb, 0, none⟩) s cap) s (xs.set k y) := by
  obtain ⟨hl, hr⟩ := h
  refine ⟨by simpa using hl, ?_⟩
  rcases hr with ⟨hx, _⟩ | ⟨g', cap', cur, hv, hb, hh, h1, h2, hs, ht⟩
  · cases hx
  · simp only [Value.slice.injEq, Option.some.injEq, Addr.mk.injEq, and_true, true_and] at hv
    obtain ⟨rfl, rfl⟩ := hv
    refine Or.inr ⟨gb, cap, cur.setIfInBounds k y, rfl, hb, ?_, h1, h2, by simpa using hs, ?_⟩
    · show (w.setCell ⟨gb, k, none⟩ y).heap[gb]? = _
      unfold World.setCell
      simp [Array.getElem?_modify, hh]
    · rw [← ht]
      simp [List.take_set]
/-- The words of a number do not lie in a block. -/
def Off (gb : Nat) (v : Value) : Prop := ∀ b o l c, v = .slice (some ⟨b, o, none⟩) l c → 0 < l → b ≠ gb
theorem NatNew.off {B gb : Nat} {w : World} {v : Value} {n : Nat} (h : NatNew B w v n) (hg : gb < B) : Off gb v := fun b o l c hv hl => by have := h.2 b o l c hv hl; omega
theorem NatAt.off {gb : Nat} {w : World} {v : Value} {n : Nat} (h : NatAt w v n) (hg : w.heap.size ≤ gb) : Off gb v := fun b o l c hv hl => by
  obtain ⟨x, _, _, _, hx⟩ := h
  rcases hx with ⟨ad, cap, h1, _⟩ | ⟨b', o', cap, h1, h2, h3, h4⟩
  · rw [hv] at h1; simp at h1; omega
  · rw [hv] at h1
    simp only [Value.slice.injEq, Option.some.injEq, Addr.mk.injEq, and_true] at h1
    obtain ⟨⟨rfl, rfl⟩, rfl, rfl⟩ := h1
    have : b < w.heap.size := cell_lt (h4 0 h3)
    omega
theorem NatAt.grown {w w' : World} {gb : Nat} {v : Value} {n : Nat} (h : NatAt w v n) (hg : w.grownBy w' (some gb)) (ho : Off gb v) : NatAt w' v n := by
  obtain ⟨x, h1, h2, h3, hx⟩ := h
  refine ⟨x, h1, h2, h3, ?_⟩
  rcases hx with hx | ⟨b, o, cap, e1, e2, e3, e4⟩
  · exact Or.inl hx
  · refine Or.inr ⟨b, o, cap, e1, e2, e3, fun i hi => ?_⟩
    rw [World.cell?_of_block (hg.block b (cell_lt (e4 i hi)) (fun e => ho b o _ cap e1 e3 (Option.some.inj e)))]
    exact e4 i hi
/-- A list of one's own. -/
structure NatsOwn (B : Nat) (wr : World) (gb s cap : Nat) (f : Nat → Value) (V : Nat → Nat) : Prop where
  own : wr.ownsRow B 50 1 (.slice (some ⟨gb, 0, none⟩) s cap) s (rowV f s)
  nats : ∀ i, i < s → NatAt wr (f i) (V i)
  off : ∀ i, i < s → Off gb (f i)
/-- How often one is in each state, behind s of them. -/
def vis (n : Nat) (V : Nat → Nat → Nat) : Nat → Nat → Nat
  | 0, _ => 1
  | 1, _ => 1
  | s + 2, i => if i < s + 1 then vis n V (s + 1) i * V (n + 1) (s + 1) else sumTo (fun j => vis n V (s + 1) j * V j (s + 1)) (s + 1)
theorem vis_next (n : Nat) (V : Nat → Nat → Nat) (s i : Nat) (hs : 1 ≤ s) : vis n V (s + 1) i = if i < s then vis n V s i * V (n + 1) s else sumTo (fun j => vis n V s j * V j s) s := by
  obtain ⟨t, rfl⟩ : ∃ t, s = t + 1 := ⟨s - 1, by omega⟩
  rfl
theorem sumTo_lt {z : Nat → Nat} {M n : Nat} (hn : n ≤ 8) (h : ∀ i, i < n → z i < M) : sumTo z n < M * 18446744073709551616 ∨ M = 0 := by
  rcases Nat.eq_zero_or_pos M with h0 | h0
  · exact Or.inr h0
  · left
    have h1 := sumTo_le (z := z) (M := M) (n := n) (fun i hi => Nat.le_of_lt (h i hi))
    have h2 : n * M ≤ 8 * M := Nat.mul_le_mul_right _ hn
    omega
theorem vis_lt {n : Nat} {V : Nat → Nat → Nat} (hn : n ≤ 8) (hV : ∀ i k, i < n + 2 → k < n → V i k < 18446744073709551616 ^ 40) : ∀ s, 1 ≤ s → s ≤ n → ∀ i, i < s → vis n V s i < 18446744073709551616 ^ (41 * s)
  | 0, h, _, _, _ => by omega
  | 1, _, _, i, _ => by show 1 < _; exact Nat.one_lt_pow (by decide) (by decide)
  | s + 2, _, hs, i, hi => by
    have ih := vis_lt hn hV (s + 1) (by omega) (by omega)
    have e : 18446744073709551616 ^ (41 * (s + 2)) = 18446744073709551616 ^ (41 * (s + 1)) * 18446744073709551616 ^ 40 * 18446744073709551616 := by rw [← Nat.pow_add, ← Nat.pow_succ]; congr 1
    rw [vis_next n V (s + 1) i (by omega), e]
    have h1 : ∀ j, j < n + 2 → V j (s + 1) < 18446744073709551616 ^ 40 := fun j hj => hV j (s + 1) hj (by omega)
    have hp1 : 0 < 18446744073709551616 ^ (41 * (s + 1)) := Nat.pow_pos (by decide)
    have hp2 : 0 < 18446744073709551616 ^ 40 := Nat.pow_pos (by decide)
    generalize 18446744073709551616 ^ (41 * (s + 1)) = A at *
    generalize 18446744073709551616 ^ 40 = C at *
    have hp : 0 < A * C := Nat.mul_pos hp1 hp2
    split
    · rename_i h
      have := Nat.mul_lt_mul'' (ih i h) (h1 (n + 1) (by omega))
      omega
    · rcases sumTo_lt (z := fun j => vis n V (s + 1) j * V j (s + 1)) (M := A * C) (n := s + 1) (by omega) (fun j hj => Nat.mul_lt_mul'' (ih j hj) (h1 j (by omega))) with h | h
      · exact h
      · omega
end Go.Proofs.YtlmehmbipbkeiaaDoor
