/- A tree's rows in memory, as they grow. -/
import Derived.Test.YtobmngkaoahmiaaDoorSmMath
import Derived.Test.YtobmngkaoahmiaaDoorGrid
import Derived.Test.YtobmngkaoahmiaaDoorClasses
import Derived.Test.YtobmngkaoahmiaaDoorLol
namespace Go.Proofs.YtobmngkaoahmiaaDoor
open Go.RowKit

/-- T rows of numbers that grow, each in a block of its own, in a list that is made. -/
structure TreeS (w wr : World) (g B T : Nat) (ls : Nat → List Nat) (vs : Nat → Value) : Prop where
  below : Below w.heap.size w wr
  hg : w.heap.size ≤ g ∧ g < B ∧ B ≤ wr.heap.size
  cell : ∀ d, d < T → wr.cell? ⟨g, d, none⟩ = some (vs d)
  fz : ∀ d, d < T → wr.frozen? ⟨g, d, none⟩ = false
  rows : ∀ d, d < T → wr.ownsRow B 3 1 (vs d) (ls d).length (cellL (natL (ls d)))
  apart : ∀ d e, d < T → e < T → d ≠ e → ∀ b, (vs d).ownBlock = some b → (vs e).ownBlock ≠ some b
theorem TreeS.later {w wr wn : World} {g B T : Nat} {ls : Nat → List Nat} {vs : Nat → Value} (h : TreeS w wr g B T ls vs) (hb : Below wr.heap.size wr wn) : TreeS w wn g B T ls vs := by
  refine ⟨below_chain h.below hb, ⟨h.hg.1, h.hg.2.1, Nat.le_trans h.hg.2.2 hb.size⟩, fun d hd => ?_, fun d hd => ?_, fun d hd => own_past (h.rows d hd) hb, h.apart⟩
  · rw [hb.cell (cell_lt (h.cell d hd))]; exact h.cell d hd
  · rw [hb.frozen (cell_lt (h.cell d hd))]; exact h.fz d hd
theorem TreeS.congr {w wr : World} {g B T : Nat} {ls ls' : Nat → List Nat} {vs : Nat → Value} (h : TreeS w wr g B T ls vs) (he : ∀ d, d < T → ls d = ls' d) : TreeS w wr g B T ls' vs :=
  ⟨h.below, h.hg, h.cell, h.fz, fun d hd => by rw [← he d hd]; exact h.rows d hd, h.apart⟩
theorem own_grown {w w' : World} {b1 : Nat} {t1 : TypeId} {v : Value} {o : Option Nat} {n s1 : Nat} {xs : List Value} (h : w.ownsRow b1 t1 s1 v n xs) (hg : w.grownBy w' o) (hne : ∀ b, v.ownBlock = some b → o ≠ some b) : w'.ownsRow b1 t1 s1 v n xs := by
  obtain ⟨hl, hr⟩ := h
  refine ⟨hl, ?_⟩
  rcases hr with hr | ⟨g, cap, cur, hv, hb1, hh, rest⟩
  · exact Or.inl hr
  · refine Or.inr ⟨g, cap, cur, hv, hb1, ?_, rest⟩
    rw [hg.block g (heap_lt hh) (fun e => hne g (by rw [hv]; rfl) e.symm)]
    exact hh
theorem TreeS.push {w wr w3 : World} {g B T d k : Nat} {ls : Nat → List Nat} {vs : Nat → Value} {v' : Value} (h : TreeS w wr g B T ls vs) (hd : d < T) (hg : wr.grownBy w3 (vs d).ownBlock) (ho : w3.ownsRow B 3 1 v' ((ls d).length + 1) (cellL (natL (ls d)) ++ [.int .i64 (k : Int)])) (hat : ∀ b, v'.ownBlock = some b → (vs d).ownBlock = some b ∨ wr.heap.size ≤ b) :
    TreeS w (w3.setCell ⟨g, d, none⟩ v') g B T (fun e => if e = d then ls d ++ [k] else ls e) (fun e => if e = d then v' else vs e) := by
  obtain ⟨g1, g2, g3⟩ := h.hg
  have hlt := (h.rows d hd).lt
  have hne : (vs d).ownBlock ≠ some g := fun e => by have := (hlt g e).1; omega
  have hgl : g < wr.heap.size := by omega
  have hc : ∀ e, e < T → w3.cell? ⟨g, e, none⟩ = some (vs e) := fun e he => by
    rw [hg.cell_far ⟨g, e, none⟩ hgl (fun q => hne q.symm)]; exact h.cell e he
  have hf : ∀ e, e < T → w3.frozen? ⟨g, e, none⟩ = false := fun e he => by
    rw [hg.frozen_far ⟨g, e, none⟩ hgl (fun q => hne q.symm)]; exact h.fz e he
  have hlv : ∀ b, v'.ownBlock = some b → B ≤ b := fun b e => (ho.lt b e).1
  have hbl : Below w.heap.size w w3 := h.below.grown hg (Nat.le_trans (Nat.le_trans g1 (Nat.le_of_lt g2)) g3) (fun q e => by have := (hlt q e).1; omega)
  refine ⟨hbl.setCell g1 _, ⟨g1, g2, ?_⟩, fun e he => ?_, fun e he => by rw [World.frozen?_setCell]; exact hf e he, fun e he => ?_, fun e e' he he' hn b hb => ?_⟩
  · rw [World.size_setCell]; exact Nat.le_trans g3 hg.size
  · rw [put_cell _ (hc d hd)]
    by_cases hed : e = d
    · subst hed; rw [if_pos rfl, if_pos rfl]
    · rw [if_neg (fun q => hed (by simpa using congrArg Addr.off q)), if_neg hed]
      exact hc e he
  · by_cases hed : e = d
    · subst hed
      rw [if_pos rfl, if_pos rfl, natL_push, List.length_append]
      exact own_put ho _ _ (fun q => by have := hlv _ q; simp at this; omega)
    · rw [if_neg hed, if_neg hed]
      refine own_put (own_grown (h.rows e he) hg (fun b hb q => ?_)) _ _ (fun q => ?_)
      · exact h.apart e d he hd hed b hb q
      · have := ((h.rows e he).lt _ q).1
        simp at this; omega
  · by_cases hed : e = d
    · rw [if_pos hed] at hb
      rw [if_neg (fun q => hn (hed.trans q.symm))]
      intro q
      rcases hat b hb with h1 | h1
      · exact h.apart d e' hd he' (fun q' => hn (hed.trans q')) b h1 q
      · have := ((h.rows e' he').lt b q).2; omega
    · rw [if_neg hed] at hb
      by_cases hed' : e' = d
      · rw [if_pos hed']
        intro q
        rcases hat b q with h1 | h1
        · exact h.apart e d he hd hed b hb h1
        · have := ((h.rows e he).lt b hb).2; omega
      · rw [if_neg hed']; exact h.apart e e' he he' hn b hb
theorem tree_start {w w2 : World} {g T : Nat} (h : RowIs w2 g T (fun _ => .slice none 0 0)) (hb : Below w.heap.size w w2) (hg : w.heap.size ≤ g) (hg2 : g < w2.heap.size) : TreeS w w2 g w2.heap.size T (fun _ => []) (fun _ => .slice none 0 0) :=
  ⟨hb, ⟨hg, hg2, Nat.le_refl _⟩, fun d hd => h.row d hd, fun d hd => h.fz d hd, fun d hd => ⟨rfl, Or.inl ⟨rfl, rfl⟩⟩, fun d e hd he hn b hb => by cases hb⟩
/-- To be read. -/
theorem TreeS.tab {w wr : World} {g B T : Nat} {ls : Nat → List Nat} {vs : Nat → Value} (h : TreeS w wr g B T ls vs) (hT : 0 < T) (cap : Nat) : TabAt wr (.slice (some ⟨g, 0, none⟩) T cap) T vs (fun d => (ls d).length) (fun d i => (((ls d).getD i 0 : Nat) : Int)) :=
  Or.inr ⟨g, 0, cap, rfl, hT, fun d hd => ⟨by rw [Nat.zero_add]; exact h.cell d hd, statesAt_row (h.rows d hd)⟩⟩
end Go.Proofs.YtobmngkaoahmiaaDoor
