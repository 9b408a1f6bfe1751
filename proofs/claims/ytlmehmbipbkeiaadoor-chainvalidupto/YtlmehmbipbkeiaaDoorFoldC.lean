/- chain.fold: rows that grow. -/
import Derived.Test.YtlmehmbipbkeiaaDoorFoldB
namespace Go.Proofs.YtlmehmbipbkeiaaDoor
open Go.RowKit

/-- How many of each row are there. -/
def lenAt (n i k r : Nat) : Nat := if r < i then n else if r = i then k else 0
/-- The rows while they are built, and the times. -/
structure Build (w0 wr : World) (B n g gt go fb : Nat) (len : Nat → Nat) (rv : Nat → Value) (f : Nat → Nat → Value) (tf : Nat → Value) (V : Nat → Nat → Nat) (T : Nat → Nat) : Prop where
  below : Below w0.heap.size w0 wr
  size : B ≤ wr.heap.size
  outer : RowIs wr g n rv
  own : ∀ r, r < n → wr.ownsRow B 50 1 (rv r) (len r) (rowV (f r) (len r))
  sep : ∀ r r' b, r < n → r' < n → r ≠ r' → (rv r).ownBlock = some b → (rv r').ownBlock ≠ some b
  nats : ∀ r k, r < n → k < len r → NatAt wr (f r k) (V r k)
  off : ∀ r k r' b, r < n → k < len r → r' < n → (rv r').ownBlock = some b → Off b (f r k)
  times : RowIs wr gt n tf
  tnats : ∀ r, r < n → NatAt wr (tf r) (T r)
  toff : ∀ r r' b, r < n → r' < n → (rv r').ownBlock = some b → Off b (tf r)
  outs : RowIs wr go n (fun _ => .slice none 0 0)
  c0 : wr.cell? ⟨fb, 0, none⟩ = some (.slice (some ⟨g, 0, none⟩) n n)
  c1 : wr.cell? ⟨fb, 1, none⟩ = some (.slice (some ⟨gt, 0, none⟩) n n)
  c2 : wr.cell? ⟨fb, 2, none⟩ = some (.slice (some ⟨go, 0, none⟩) n n)
/-- The blocks that were there. -/
structure Fixed (w0 : World) (B g gt go fb : Nat) : Prop where
  ge : w0.heap.size ≤ g ∧ w0.heap.size ≤ gt ∧ w0.heap.size ≤ go ∧ w0.heap.size ≤ fb
  lt : g < B ∧ gt < B ∧ go < B ∧ fb < B
  ne : g ≠ gt ∧ g ≠ go ∧ g ≠ fb ∧ gt ≠ go ∧ gt ≠ fb ∧ go ≠ fb
theorem own_ge {w : World} {B e n : Nat} {v : Value} {xs : List Value} (h : w.ownsRow B e 1 v n xs) {b : Nat} (hb : v.ownBlock = some b) : B ≤ b ∧ b < w.heap.size := by
  rcases h.2 with ⟨rfl, _⟩ | ⟨g, cap, cur, rfl, hg, hh, _⟩
  · cases hb
  · obtain rfl : g = b := by simpa [Value.ownBlock] using hb
    exact ⟨hg, heap_lt hh⟩
theorem build_start {w0 W : World} {n g gt go fb : Nat} (h : Laid3 w0 W n g gt go fb) (f : Nat → Nat → Value) (V : Nat → Nat → Nat) : Build w0 W W.heap.size n g gt go fb (lenAt n 0 0) (fun _ => .slice none 0 0) f (fun _ => .slice none 0 0) V (fun _ => 0) := by
  have hl : ∀ r, lenAt n 0 0 r = 0 := fun r => by unfold lenAt; rw [if_neg (by omega)]; split <;> rfl
  refine ⟨h.below, Nat.le_refl _, h.rw, fun r _ => ?_, fun r r' b _ _ _ hb => (by cases hb), fun r k _ hk => ?_, fun r k r' b _ _ _ hb => (by cases hb), h.rt, fun r _ => natAt_none _, fun r r' b _ _ hb => (by cases hb), h.ro, h.c0, h.c1, h.c2⟩
  · rw [hl]; exact ⟨rfl, Or.inl ⟨rfl, rfl⟩⟩
  · rw [hl] at hk; omega
theorem Laid3.fixed {w0 W : World} {n g gt go fb : Nat} (h : Laid3 w0 W n g gt go fb) : Fixed w0 W.heap.size g gt go fb := ⟨h.ge, h.lt, h.ne⟩
theorem Build.later {w0 wr wn : World} {B n g gt go fb : Nat} {len : Nat → Nat} {rv : Nat → Value} {f : Nat → Nat → Value} {tf : Nat → Value} {V : Nat → Nat → Nat} {T : Nat → Nat} (h : Build w0 wr B n g gt go fb len rv f tf V T) (hb : Below wr.heap.size wr wn) : Build w0 wn B n g gt go fb len rv f tf V T :=
  ⟨below_chain h.below hb, Nat.le_trans h.size hb.size, h.outer.later hb, fun r hr => own_past (h.own r hr) hb, h.sep, fun r k hr hk => (h.nats r k hr hk).later hb, h.off, h.times.later hb, fun r hr => (h.tnats r hr).later hb, h.toff, h.outs.later hb, by rw [hb.cell (cell_lt h.c0)]; exact h.c0, by rw [hb.cell (cell_lt h.c1)]; exact h.c1, by rw [hb.cell (cell_lt h.c2)]; exact h.c2⟩
/-- A time is told. -/
theorem Build.time {w0 wr : World} {B n g gt go fb : Nat} {len : Nat → Nat} {rv : Nat → Value} {f : Nat → Nat → Value} {tf : Nat → Value} {V : Nat → Nat → Nat} {T : Nat → Nat} (h : Build w0 wr B n g gt go fb len rv f tf V T) (hF : Fixed w0 B g gt go fb) {i v : Nat} {y : Value} (hi : i < n) (hy : NatAt wr y v) (hyo : ∀ r' b, r' < n → (rv r').ownBlock = some b → Off b y) :
    Build w0 (wr.setCell ⟨gt, i, none⟩ y) B n g gt go fb len rv f (fun r => if r = i then y else tf r) V (fun r => if r = i then v else T r) := by
  have hx := h.times.row i hi
  obtain ⟨ad, l, c, hs⟩ := (h.tnats i hi).isSlice
  rw [hs] at hx
  obtain ⟨n1, n2, n3, n4, n5, n6⟩ := hF.ne
  refine ⟨h.below.setCell hF.ge.2.1 _, by simpa using h.size, h.outer.put hx n1 _, fun r hr => ?_, h.sep, fun r k hr hk => (h.nats r k hr hk).putS hx, h.off, ⟨fun j hj => ?_, fun j hj => ?_⟩, fun r hr => ?_, fun r r' b hr hr' hb => ?_, h.outs.put hx (Ne.symm n4) _, ?_, ?_, ?_⟩
  · obtain ⟨hl, ho⟩ := h.own r hr
    refine ⟨hl, ?_⟩
    rcases ho with ho | ⟨q, cap, cur, hv, hg, hh, r2⟩
    · exact Or.inl ho
    · exact Or.inr ⟨q, cap, cur, hv, hg, by rw [Below.heap_setCell _ _ _ _ (by have := hF.lt.2.1; show q ≠ gt; omega)]; exact hh, r2⟩
  · rw [cell_put _ hx]
    by_cases hj' : j = i
    · subst hj'; rw [if_pos rfl, if_pos rfl]
    · rw [if_neg (fun e => hj' (congrArg Addr.off e)), if_neg hj']; exact h.times.row j hj
  · rw [World.frozen?_setCell]; exact h.times.fz j hj
  · by_cases hr' : r = i
    · rw [if_pos hr', if_pos hr']; exact hy.putS hx
    · rw [if_neg hr', if_neg hr']; exact (h.tnats r hr).putS hx
  · by_cases hri : r = i
    · rw [if_pos hri]; exact hyo r' b hr' hb
    · rw [if_neg hri]; exact h.toff r r' b hr hr' hb
  · rw [cell_put _ hx, if_neg (fun e => n5 (congrArg Addr.block e).symm)]; exact h.c0
  · rw [cell_put _ hx, if_neg (fun e => n5 (congrArg Addr.block e).symm)]; exact h.c1
  · rw [cell_put _ hx, if_neg (fun e => n5 (congrArg Addr.block e).symm)]; exact h.c2
/-- A row grows, and its place in the list is set. -/
theorem Build.push {w0 wr w3 : World} {B n g gt go fb g' cap' i v : Nat} {len : Nat → Nat} {rv : Nat → Value} {f : Nat → Nat → Value} {tf : Nat → Value} {V : Nat → Nat → Nat} {T : Nat → Nat} {y : Value} (h : Build w0 wr B n g gt go fb len rv f tf V T) (hF : Fixed w0 B g gt go fb) (hi : i < n) (hy : NatAt wr y v) (hyo : ∀ r' b, r' < n → (rv r').ownBlock = some b → Off b y)
    (hg : wr.grownBy w3 (rv i).ownBlock) (hown : w3.ownsRow B 50 1 (.slice (some ⟨g', 0, none⟩) (len i + 1) cap') (len i + 1) (rowV (f i) (len i) ++ [y])) (hat : (rv i).ownBlock = some g' ∨ g' = wr.heap.size) :
    Build w0 (w3.setCell ⟨g, i, none⟩ (.slice (some ⟨g', 0, none⟩) (len i + 1) cap')) B n g gt go fb (fun r => if r = i then len i + 1 else len r) (fun r => if r = i then .slice (some ⟨g', 0, none⟩) (len i + 1) cap' else rv r) (fun r k => if r = i ∧ k = len i then y else f r k) tf (fun r k => if r = i ∧ k = len i then v else V r k) T := by
  obtain ⟨n1, n2, n3, n4, n5, n6⟩ := hF.ne
  have old : ∀ q, q < B → some q ≠ (rv i).ownBlock := fun q hq e => by have := (own_ge (h.own i hi) e.symm).1; omega
  have blk : ∀ q, q < B → w3.heap[q]? = wr.heap[q]? := fun q hq => hg.block q (Nat.lt_of_lt_of_le hq h.size) (old q hq)
  have cel : ∀ q j x, q < B → wr.cell? ⟨q, j, none⟩ = some x → w3.cell? ⟨q, j, none⟩ = some x := fun q j x hq hx => by rw [World.cell?_of_block (a := ⟨q, j, none⟩) (blk q hq)]; exact hx
  have row3 : ∀ q F, q < B → RowIs wr q n F → RowIs w3 q n F := fun q F hq hr => ⟨fun k hk => cel q k _ hq (hr.row k hk), fun k hk => by rw [World.frozen?_of_block (a := ⟨q, k, none⟩) (blk q hq)]; exact hr.fz k hk⟩
  have nat3 : ∀ u m, NatAt wr u m → (∀ b, (rv i).ownBlock = some b → Off b u) → NatAt w3 u m := fun u m hu ho => by
    cases hb : (rv i).ownBlock with
    | some b => rw [hb] at hg; exact hu.grown hg (ho b hb)
    | none =>
      rw [hb] at hg
      exact hu.later ((Below.refl _ _).grown hg (Nat.le_refl _) (fun k hk => by cases hk))
  have offn : ∀ u m, NatAt wr u m → (∀ b, (rv i).ownBlock = some b → Off b u) → Off g' u := fun u m hu ho => by
    rcases hat with h1 | h1
    · exact ho g' h1
    · exact hu.off (by omega)
  have hbel : Below w0.heap.size w0 w3 := h.below.grown hg h.below.size (fun q hq => by have := (own_ge (h.own i hi) hq).1; have := hF.lt.1; have := hF.ge.1; omega)
  have hsz3 : B ≤ w3.heap.size := Nat.le_trans h.size hg.size
  have hxo := h.outer.row i hi
  have hx3 : w3.cell? ⟨g, i, none⟩ = some (rv i) := cel g i _ hF.lt.1 hxo
  obtain ⟨ad, l, c, hs⟩ : ∃ ad l c, rv i = .slice ad l c := by
    rcases (h.own i hi).2 with ⟨e, _⟩ | ⟨q, cap, cur, e, _⟩ <;> exact ⟨_, _, _, e⟩
  have hx4 := hx3
  rw [hs] at hx4
  have gne : ∀ r b, r < n → r ≠ i → (rv r).ownBlock = some b → b ≠ g' := fun r b hr hri hb e => by
    rcases hat with h1 | h1
    · exact h.sep r i b hr hi hri hb (by rw [h1, e])
    · have := (own_ge (h.own r hr) hb).2; omega
  have keepRow : ∀ (v : Value) (m : Nat) (xs : List Value), w3.ownsRow B 50 1 v m xs → (w3.setCell ⟨g, i, none⟩ (.slice (some ⟨g', 0, none⟩) (len i + 1) cap')).ownsRow B 50 1 v m xs := fun v m xs ho => by
    obtain ⟨hl, ho⟩ := ho
    refine ⟨hl, ?_⟩
    rcases ho with ho | ⟨q, cap, cur, hv, hq, hh, r2⟩
    · exact Or.inl ho
    · exact Or.inr ⟨q, cap, cur, hv, hq, by rw [Below.heap_setCell _ _ _ _ (by have := hF.lt.1; show q ≠ g; omega)]; exact hh, r2⟩
  refine ⟨hbel.setCell hF.ge.1 _, by simpa using hsz3, ⟨fun j hj => ?_, fun j hj => ?_⟩, fun r hr => ?_, fun r r' b hr hr' hne hb => ?_, fun r k hr hk => ?_, fun r k r' b hr hk hr' hb => ?_, (row3 gt _ hF.lt.2.1 h.times).put hx3 (Ne.symm n1) _, fun r hr => ?_, fun r r' b hr hr' hb => ?_, (row3 go _ hF.lt.2.2.1 h.outs).put hx3 (Ne.symm n2) _, ?_, ?_, ?_⟩
  · rw [cell_put _ hx3]
    by_cases hj' : j = i
    · subst hj'; rw [if_pos rfl, if_pos rfl]
    · rw [if_neg (fun e => hj' (congrArg Addr.off e)), if_neg hj']; exact cel g j _ hF.lt.1 (h.outer.row j hj)
  · rw [World.frozen?_setCell, World.frozen?_of_block (a := ⟨g, j, none⟩) (blk g hF.lt.1)]; exact h.outer.fz j hj
  · by_cases hri : r = i
    · subst hri
      simp only [if_true, true_and]
      have e : rowV (fun k => if k = len r then y else f r k) (len r + 1) = rowV (f r) (len r) ++ [y] := (rowV_push (f r) (len r) y).symm
      rw [e]
      exact keepRow _ _ _ hown
    · simp only [hri, if_false, false_and]
      refine keepRow _ _ _ ?_
      obtain ⟨hl, ho⟩ := h.own r hr
      refine ⟨hl, ?_⟩
      rcases ho with ho | ⟨q, cap, cur, hv, hq, hh, r2⟩
      · exact Or.inl ho
      · refine Or.inr ⟨q, cap, cur, hv, hq, ?_, r2⟩
        rw [hg.block q (heap_lt hh) (fun e => h.sep r i q hr hi hri (by rw [hv]; rfl) e.symm)]; exact hh
  · by_cases hri : r = i
    · rw [if_pos hri] at hb
      have e1 : g' = b := by simpa [Value.ownBlock] using hb
      rw [if_neg (by omega)]
      intro hb'
      exact gne r' b hr' (by omega) hb' e1.symm
    · rw [if_neg hri] at hb
      by_cases hri' : r' = i
      · rw [if_pos hri']
        intro hb'
        have e1 : g' = b := by simpa [Value.ownBlock] using hb'
        exact gne r b hr hri hb e1.symm
      · rw [if_neg hri']; exact h.sep r r' b hr hr' hne hb
  · by_cases hrk : r = i ∧ k = len i
    · rw [if_pos hrk, if_pos hrk]; exact (nat3 _ _ hy (fun b hb => hyo i b hi hb)).putS hx4
    · rw [if_neg hrk, if_neg hrk]
      have hk' : k < len r := by
        by_cases hri : r = i
        · rw [if_pos hri] at hk; subst hri; omega
        · rw [if_neg hri] at hk; exact hk
      exact (nat3 _ _ (h.nats r k hr hk') (fun b hb => h.off r k i b hr hk' hi hb)).putS hx4
  · have key : ∀ u m, NatAt wr u m → (∀ r' b, r' < n → (rv r').ownBlock = some b → Off b u) → Off b u := fun u m hu ho => by
      by_cases hri' : r' = i
      · rw [if_pos hri'] at hb
        have e1 : g' = b := by simpa [Value.ownBlock] using hb
        rw [← e1]; exact offn u m hu (fun b hb => ho i b hi hb)
      · rw [if_neg hri'] at hb; exact ho r' b hr' hb
    by_cases hrk : r = i ∧ k = len i
    · rw [if_pos hrk]; exact key _ _ hy hyo
    · rw [if_neg hrk]
      have hk' : k < len r := by
        by_cases hri : r = i
        · rw [if_pos hri] at hk; subst hri; omega
        · rw [if_neg hri] at hk; exact hk
      exact key _ _ (h.nats r k hr hk') (fun r' b hr' hb => h.off r k r' b hr hk' hr' hb)
  · exact (nat3 _ _ (h.tnats r hr) (fun b hb => h.toff r i b hr hi hb)).putS hx4
  · by_cases hri' : r' = i
    · rw [if_pos hri'] at hb
      have e1 : g' = b := by simpa [Value.ownBlock] using hb
      rw [← e1]; exact offn _ _ (h.tnats r hr) (fun b hb => h.toff r i b hr hi hb)
    · rw [if_neg hri'] at hb; exact h.toff r r' b hr hr' hb
  · rw [cell_put _ hx3, if_neg (fun e => n3 (congrArg Addr.block e).symm)]; exact cel fb 0 _ hF.lt.2.2.2 h.c0
  · rw [cell_put _ hx3, if_neg (fun e => n3 (congrArg Addr.block e).symm)]; exact cel fb 1 _ hF.lt.2.2.2 h.c1
  · rw [cell_put _ hx3, if_neg (fun e => n3 (congrArg Addr.block e).symm)]; exact cel fb 2 _ hF.lt.2.2.2 h.c2
end Go.Proofs.YtlmehmbipbkeiaaDoor
