/- Rows of their own that are made one by one and filled. -/
import Derived.Test.YthknaphclijncaaDoorPackC
import Derived.Deep.RegionHeld3
namespace Go.Proofs.YthknaphclijncaaDoor
open Go.RowKit

/-- Cells of a row that is made. -/
structure RowIs (wr : World) (b n : Nat) (f : Nat → Value) : Prop where
  row : ∀ k, k < n → wr.cell? ⟨b, k, none⟩ = some (f k)
  fz : ∀ k, k < n → wr.frozen? ⟨b, k, none⟩ = false
theorem RowIs.later {w w' : World} {b n : Nat} {f : Nat → Value} (h : RowIs w b n f) (hb : Below w.heap.size w w') : RowIs w' b n f :=
  ⟨fun k hk => by rw [hb.cell (cell_lt (h.row k hk))]; exact h.row k hk, fun k hk => by rw [hb.frozen (cell_lt (h.row k hk))]; exact h.fz k hk⟩
theorem rowIs_made {w w2 : World} {g n : Nat} {t : TypeId} {z : Value} {xs : List Value} (h : w2.ownsRow w.heap.size t 1 (.slice (some ⟨g, 0, none⟩) n n) n xs) (hx : ∀ i, i < n → xs[i]? = some z) : RowIs w2 g n (fun _ => z) := by
  obtain ⟨hl, hr⟩ := h
  rcases hr with ⟨hx, _⟩ | ⟨g', cap', cur, hv, hb, hh, _, _, hs, ht⟩
  · cases hx
  · obtain ⟨rfl, rfl⟩ : g = g' ∧ n = cap' := by simpa using hv
    refine ⟨fun i hi => ?_, fun i hi => ?_⟩
    · rw [← hx i hi, ← ht, List.getElem?_take_of_lt (by omega)]
      simp [World.cell?, hh]
    · simp [World.frozen?, hh]
theorem made_one (z : Value) (hz : z.cells = #[z]) (n i : Nat) (hi : i < n) : (madeCells z.cells (n * 1)).toList[i]? = some z := by
  simp [madeCells, hi, Nat.mod_one, hz]
theorem made_below {w w2 : World} (hg : w.grownBy w2 none) : Below w.heap.size w w2 := (Below.refl _ _).grown hg (Nat.le_refl _) (fun k hk => by cases hk)
theorem put_cell {W : World} {p : Addr} {x : Value} (y : Value) (h : W.cell? p = some x) (q : Addr) : (W.setCell p y).cell? q = if q = p then some y else W.cell? q := by
  split
  · rename_i e; subst e; exact World.cell?_setCell_same _ _ _ h
  · rename_i e; exact World.cell?_setCell_other _ _ _ _ (fun e' => e e'.symm)

/-- The first m of n rows are made, of C cells each. -/
structure GridB (w wr : World) (g n C m : Nat) (rb : Nat → Nat) (f : Nat → Nat → Value) : Prop where
  below : Below w.heap.size w wr
  hg : w.heap.size ≤ g
  outer : ∀ i, i < n → ∃ x, wr.cell? ⟨g, i, none⟩ = some x
  made : ∀ i, i < m → wr.cell? ⟨g, i, none⟩ = some (.slice (some ⟨rb i, 0, none⟩) C C)
  ofz : ∀ i, i < n → wr.frozen? ⟨g, i, none⟩ = false
  rge : ∀ i, i < m → w.heap.size ≤ rb i ∧ rb i ≠ g ∧ rb i < wr.heap.size
  inj : ∀ i j, i < m → j < m → rb i = rb j → i = j
  rows : ∀ i, i < m → RowIs wr (rb i) C (f i)
theorem GridB.later {w wr wn : World} {g n C m : Nat} {rb : Nat → Nat} {f : Nat → Nat → Value} (h : GridB w wr g n C m rb f) (hb : Below wr.heap.size wr wn) : GridB w wn g n C m rb f := by
  refine ⟨h.below.trans (hb.mono h.below.size), h.hg, fun i hi => ?_, fun i hi => ?_, fun i hi => ?_, fun i hi => ⟨(h.rge i hi).1, (h.rge i hi).2.1, Nat.lt_of_lt_of_le (h.rge i hi).2.2 hb.size⟩, h.inj, fun i hi => (h.rows i hi).later hb⟩
  · obtain ⟨x, hx⟩ := h.outer i hi
    exact ⟨x, by rw [hb.cell (cell_lt hx)]; exact hx⟩
  · rw [hb.cell (cell_lt (h.made i hi))]; exact h.made i hi
  · obtain ⟨x, hx⟩ := h.outer i hi
    rw [hb.frozen (cell_lt hx)]; exact h.ofz i hi
theorem gridB_start {w w2 : World} {g n C : Nat} {z : Value} (h : RowIs w2 g n (fun _ => z)) (hb : Below w.heap.size w w2) (hg : w.heap.size ≤ g) (rb : Nat → Nat) (f : Nat → Nat → Value) : GridB w w2 g n C 0 rb f :=
  ⟨hb, hg, fun i hi => ⟨z, h.row i hi⟩, fun i hi => by omega, fun i hi => h.fz i hi, fun i hi => by omega, fun i j hi => by omega, fun i hi => by omega⟩
/-- A row more. -/
theorem GridB.push {w wr w2 : World} {g n C m r : Nat} {rb : Nat → Nat} {f : Nat → Nat → Value} {z : Value} (h : GridB w wr g n C m rb f) (hm : m < n) (hb : Below wr.heap.size wr w2) (hr : wr.heap.size ≤ r) (hr2 : r < w2.heap.size) (hz : RowIs w2 r C (fun _ => z)) :
    GridB w (w2.setCell ⟨g, m, none⟩ (.slice (some ⟨r, 0, none⟩) C C)) g n C (m + 1) (fun i => if i = m then r else rb i) (fun i k => if i = m then z else f i k) := by
  have h2 := h.later hb
  obtain ⟨x, hx⟩ := h2.outer m hm
  obtain ⟨x0, hx0⟩ := h.outer m hm
  have hgl : g < wr.heap.size := cell_lt hx0
  have hgr : g ≠ r := by omega
  refine ⟨h2.below.setCell h.hg _, h.hg, fun i hi => ?_, fun i hi => ?_, fun i hi => ?_, fun i hi => ?_, fun i j hi hj e => ?_, fun i hi => ?_⟩
  · rw [put_cell _ hx]
    split
    · exact ⟨_, rfl⟩
    · exact h2.outer i hi
  · rw [put_cell _ hx]
    by_cases him : i = m
    · subst him; rw [if_pos rfl, if_pos rfl]
    · rw [if_neg (fun e => him (by simpa using congrArg Addr.off e)), if_neg him]
      exact h2.made i (by omega)
  · rw [World.frozen?_setCell]; exact h2.ofz i hi
  · by_cases him : i = m
    · subst him
      rw [if_pos rfl]
      have := h.below.size
      exact ⟨by omega, fun e => hgr e.symm, by simpa using hr2⟩
    · rw [if_neg him]; simpa using h2.rge i (by omega)
  · by_cases him : i = m
    · subst him
      by_cases hjm : j = i
      · exact hjm.symm
      · rw [if_pos rfl, if_neg hjm] at e
        have h5 := (h.rge j (by omega)).2.2
        omega
    · by_cases hjm : j = m
      · subst hjm
        rw [if_neg him, if_pos rfl] at e
        have h5 := (h.rge i (by omega)).2.2
        omega
      · rw [if_neg him, if_neg hjm] at e
        exact h.inj i j (by omega) (by omega) e
  · refine ⟨fun k hk => ?_, fun k hk => ?_⟩
    · rw [put_cell _ hx]
      by_cases him : i = m
      · subst him
        rw [if_pos rfl, if_pos rfl, if_neg (fun e => hgr (congrArg Addr.block e).symm)]
        exact hz.row k hk
      · rw [if_neg him, if_neg him, if_neg (fun e => (h.rge i (by omega)).2.1 (congrArg Addr.block e))]
        exact (h2.rows i (by omega)).row k hk
    · rw [World.frozen?_setCell]
      by_cases him : i = m
      · subst him; rw [if_pos rfl]; exact hz.fz k hk
      · rw [if_neg him]; exact (h2.rows i (by omega)).fz k hk
/-- A cell of a row is put. -/
theorem GridB.set {w wr : World} {g n C m : Nat} {rb : Nat → Nat} {f : Nat → Nat → Value} (h : GridB w wr g n C m rb f) {i k : Nat} (hi : i < m) (hk : k < C) (y : Value) {f' : Nat → Nat → Value} (hf : ∀ i' k', i' < m → k' < C → f' i' k' = if i' = i ∧ k' = k then y else f i' k') :
    GridB w (wr.setCell ⟨rb i, k, none⟩ y) g n C m rb f' := by
  have hx := (h.rows i hi).row k hk
  have hne := (h.rge i hi).2.1
  refine ⟨h.below.setCell (h.rge i hi).1 _, h.hg, fun j hj => ?_, fun j hj => ?_, fun j hj => ?_, fun j hj => by simpa using h.rge j hj, h.inj, fun j hj => ⟨fun c hc => ?_, fun c hc => ?_⟩⟩
  · rw [put_cell _ hx, if_neg (fun e => hne (congrArg Addr.block e).symm)]
    exact h.outer j hj
  · rw [put_cell _ hx, if_neg (fun e => hne (congrArg Addr.block e).symm)]
    exact h.made j hj
  · rw [World.frozen?_setCell]; exact h.ofz j hj
  · rw [put_cell _ hx, hf j c hj hc]
    by_cases hjc : j = i ∧ c = k
    · obtain ⟨rfl, rfl⟩ := hjc
      rw [if_pos rfl, if_pos ⟨rfl, rfl⟩]
    · rw [if_neg hjc, if_neg (fun e => hjc ⟨h.inj j i hj hi (congrArg Addr.block e), congrArg Addr.off e⟩)]
      exact (h.rows j hj).row c hc
  · rw [World.frozen?_setCell]; exact (h.rows j hj).fz c hc
theorem GridB.drewN {w wr : World} {g n C m : Nat} {rb : Nat → Nat} {f : Nat → Nat → Value} (h : GridB w wr g n C m rb f) : GridB w wr.drew g n C m rb f := h.later (Below.refl _ _).drew

/-- A table of cells, as one reads it. -/
def GridAt (w : World) (v : Value) (n C : Nat) (f : Nat → Nat → Value) : Prop := ∃ g o cap, v = .slice (some ⟨g, o, none⟩) n cap ∧ ∀ i, i < n → ∃ b o' cap', w.cell? ⟨g, o + i, none⟩ = some (.slice (some ⟨b, o', none⟩) C cap') ∧ ∀ k, k < C → w.cell? ⟨b, o' + k, none⟩ = some (f i k)
theorem GridAt.later {w w' : World} {v : Value} {n C : Nat} {f : Nat → Nat → Value} (h : GridAt w v n C f) (hb : Below w.heap.size w w') : GridAt w' v n C f := by
  obtain ⟨g, o, cap, hv, hr⟩ := h
  refine ⟨g, o, cap, hv, fun i hi => ?_⟩
  obtain ⟨b, o', cap', h1, h2⟩ := hr i hi
  exact ⟨b, o', cap', by rw [hb.cell (cell_lt h1)]; exact h1, fun k hk => by rw [hb.cell (cell_lt (h2 k hk))]; exact h2 k hk⟩
theorem GridAt.rowAt {w : World} {b o n C cap : Nat} {f : Nat → Nat → Value} (h : GridAt w (.slice (some ⟨b, o, none⟩) n cap) n C f) (i : Nat) (hi : i < n) : ∃ b1 o1 cap1, w.cell? ⟨b, o + i, none⟩ = some (.slice (some ⟨b1, o1, none⟩) C cap1) ∧ ∀ k, k < C → w.cell? ⟨b1, o1 + k, none⟩ = some (f i k) := by
  obtain ⟨b', o', cap', hv', hr'⟩ := h
  simp only [Value.slice.injEq, Option.some.injEq, Addr.mk.injEq, and_true, true_and] at hv'
  obtain ⟨⟨rfl, rfl⟩, rfl⟩ := hv'
  exact hr' i hi
theorem GridB.at {w wr : World} {g n C : Nat} {rb : Nat → Nat} {f : Nat → Nat → Value} (h : GridB w wr g n C n rb f) : GridAt wr (.slice (some ⟨g, 0, none⟩) n n) n C f :=
  ⟨g, 0, n, rfl, fun i hi => ⟨rb i, 0, C, by rw [Nat.zero_add]; exact h.made i hi, fun k hk => by rw [Nat.zero_add]; exact (h.rows i hi).row k hk⟩⟩
/-- The rows of a chain. -/
def RowsAt (w : World) (v : Value) (n : Nat) (zs : Nat → Nat → Int) : Prop := GridAt w v n n (fun i k => .int .i64 (zs i k))
theorem rowsAt_of_tab {w : World} {v : Value} {n : Nat} {vs : Nat → Value} {ns : Nat → Nat} {zs : Nat → Nat → Int} (h : TabAt w v n vs ns zs) (h0 : 0 < n) (he : ∀ i, i < n → ns i = n) : RowsAt w v n zs := by
  rcases h with ⟨_, _, _, h'⟩ | ⟨b, o, c, hv, _, hr⟩
  · omega
  · refine ⟨b, o, c, hv, fun i hi => ?_⟩
    obtain ⟨h1, h2⟩ := hr i hi
    rw [he i hi] at h2
    rcases h2 with ⟨_, _, _, h3⟩ | ⟨b1, o1, c1, hv1, _, hr1⟩
    · omega
    · exact ⟨b1, o1, c1, by rw [h1, hv1], hr1⟩
end Go.Proofs.YthknaphclijncaaDoor

/- A region that draws its order, whose last operation waits for all the others: what is held of the world need not be held behind that one. -/
namespace Go.Proofs.YthknaphclijncaaDoor
open Go

/-- What is asked ahead of the last operation. -/
def aheadOf (P : Program) (ops : Array Oper) (Q : Exit → Act → World → Prop) (n : Nat) : Exit → Act → World → Prop
  | .normal, a, w => wpOp P ops Q n (fun a' w' => Q .normal a' w') a w
  | e, a, w => Q e a w
theorem aheadOf_out {P : Program} {ops : Array Oper} {Q : Exit → Act → World → Prop} {n : Nat} (h : LetsOut (aheadOf P ops Q n)) : LetsOut Q := h
theorem upon_ahead {P : Program} {ops : Array Oper} {Q : Exit → Act → World → Prop} {n : Nat} {o : Oper} {a : Act} {K : Act → World → Prop} (r : Result Next) (h : o.upon P a K (aheadOf P ops Q n) r) : o.upon P a K Q r := by
  cases r with
  | ok x w' =>
    cases x with
    | enter f args => exact Calls.mono h (fun e w'' he => by cases e <;> exact he)
    | value v => exact h
    | skip => exact h
    | defer d => exact h
    | row row args => exact h
    | _ => exact h
  | halt x w' => cases x <;> exact h
theorem wpOp_ahead {P : Program} {ops : Array Oper} {Q : Exit → Act → World → Prop} {n i : Nat} {K : Act → World → Prop} {a : Act} {w : World} (h : wpOp P ops (aheadOf P ops Q n) i K a w) : wpOp P ops Q i K a w := by
  unfold wpOp at *
  cases hi : ops[i]? with
  | none => rw [hi] at h; exact h
  | some o =>
    rw [hi] at h
    dsimp only at h ⊢
    by_cases hw : Region.wanted o (yielded ops a.tmps) = true
    · rw [if_pos hw] at h ⊢
      exact h.imp (upon_ahead _) (fun x => ⟨x.1, aheadOf_out x.2⟩)
    · rw [if_neg hw] at h ⊢; exact h

/-- Nobody waits for a later one; the last one waits for all. -/
def lastWaits (ops : Array Oper) : Bool :=
  ((List.range ops.size).all fun j => ((ops[j]?).map (·.after.all fun e => decide (e.on < j))).getD false) && (List.range (ops.size - 1)).all fun j => ((ops[ops.size - 1]?).map (·.after.any fun e => Region.binds .any e && decide (e.on = j))).getD false
theorem getD_push_lt {L : Array Bool} {b d : Bool} {j : Nat} (h : j < L.size) : (L.push b).getD j d = L.getD j d := by
  simp [Array.getElem?_push, Nat.ne_of_lt h]
theorem getD_push_eq {L : Array Bool} {b d : Bool} : (L.push b).getD L.size d = b := by simp
theorem set_push {L : Array Bool} {b : Bool} {i : Nat} (h : i < L.size) : (L.push b).setIfInBounds i true = (L.setIfInBounds i true).push b := by
  apply Array.ext_getElem?
  intro j
  simp only [Array.getElem?_setIfInBounds, Array.getElem?_push, Array.size_push, Array.size_setIfInBounds]
  by_cases h1 : i = j
  · subst h1; simp [h, Nat.ne_of_lt h, Nat.lt_succ_of_lt h]
  · simp [h1]
theorem set_last {L : Array Bool} : (L.push false).setIfInBounds L.size true = L.push true := by
  apply Array.ext_getElem?
  intro j
  simp only [Array.getElem?_setIfInBounds, Array.getElem?_push, Array.size_push]
  by_cases h1 : L.size = j
  · subst h1; simp
  · simp [h1, Ne.symm h1]

section
variable {P : Program} {ops : Array Oper} {Q : Exit → Act → World → Prop} {S : World → Prop}
theorem waits_parts {n : Nat} (hn : ops.size = n + 1) (h : lastWaits ops = true) : (∀ j o, j ≤ n → ops[j]? = some o → ∀ e ∈ o.after, e.on < j) ∧ (∀ o, ops[n]? = some o → ∀ j, j < n → ∃ e ∈ o.after, Region.binds .any e = true ∧ e.on = j) := by
  unfold lastWaits at h
  rw [hn, Nat.add_sub_cancel, Bool.and_eq_true, List.all_eq_true, List.all_eq_true] at h
  constructor
  · intro j o hj ho e he
    have h1 := h.1 j (List.mem_range.2 (by omega))
    rw [ho] at h1
    simp only [Option.map_some, Option.getD_some] at h1
    have := (Array.all_eq_true_iff_forall_mem.1 h1) e he
    exact of_decide_eq_true this
  · intro o ho j hj
    have h1 := h.2 j (List.mem_range.2 hj)
    rw [ho] at h1
    simp only [Option.map_some, Option.getD_some] at h1
    rw [Array.any_eq_true'] at h1
    obtain ⟨e, he, hb⟩ := h1
    rw [Bool.and_eq_true] at hb
    exact ⟨e, he, hb.1, of_decide_eq_true hb.2⟩
/-- While one of the others is left, the ready ones are the same, and the last one is not among them. -/
theorem ready_same {n i : Nat} {L : Array Bool} (hL : L.size = n) (hs : ops.size = n + 1) (h : lastWaits ops = true) (hi : i < n) : i ∈ Region.ready .any ops (L.push false) ↔ i ∈ Region.ready .any ops (L.push true) := by
  rw [mem_ready, mem_ready, getD_push_lt (by omega), getD_push_lt (by omega)]
  refine and_congr_right fun _ => exists_congr fun o => and_congr_right fun ho => forall_congr' fun e => ?_
  constructor
  · intro h1 he hb
    have hlt := (waits_parts hs h).1 i o (Nat.le_of_lt hi) ho e he
    have := h1 he hb
    rw [getD_push_lt (by omega)] at this ⊢; exact this
  · intro h1 he hb
    have hlt := (waits_parts hs h).1 i o (Nat.le_of_lt hi) ho e he
    have := h1 he hb
    rw [getD_push_lt (by omega)] at this ⊢; exact this
theorem ready_lt {i : Nat} {L : Array Bool} (h : i ∈ Region.ready .any ops L) : i < ops.size := by
  obtain ⟨_, o, ho, _⟩ := mem_ready.1 h
  exact (Array.getElem?_eq_some_iff.1 ho).1
/-- If none of the others is ready, all are done. -/
theorem none_left {n : Nat} {L : Array Bool} (hL : L.size = n) (hs : ops.size = n + 1) (h : lastWaits ops = true) (hr : Region.ready .any ops (L.push true) = []) : ∀ j, j < n → L.getD j false = true := by
  intro j
  induction j using Nat.strongRecOn with
  | _ j ih =>
    intro hj
    cases hb : L.getD j false with
    | true => rfl
    | false =>
      exfalso
      have hjs : j < ops.size := by omega
      have : j ∈ Region.ready .any ops (L.push true) := by
        rw [mem_ready, getD_push_lt (by omega)]
        have e1 : L.getD j true = false := by
          have hlt : j < L.size := by omega
          simp [hlt] at hb ⊢; exact hb
        refine ⟨e1, ops[j], by simp [hjs], fun e he _ => ?_⟩
        have hlt := (waits_parts hs h).1 j ops[j] (Nat.le_of_lt hj) (by simp [hjs]) e he
        rw [getD_push_lt (by omega)]
        exact ih e.on hlt (by omega)
      rw [hr] at this
      cases this
theorem last_one {n fuel : Nat} {L : Array Bool} {a : Act} {w : World} (hs : ops.size = n + 1) (h : lastWaits ops = true) (hL : L.size = n) (hr : Region.ready .any ops (L.push true) = []) (hq : aheadOf P ops Q n .normal a w) : wpAny P .any ops Q (fuel + 1) (L.push false) a w := by
  have hall := none_left hL hs h hr
  have hns : n < ops.size := by omega
  have hin : n ∈ Region.ready .any ops (L.push false) := by
    rw [mem_ready]
    refine ⟨by rw [← hL]; exact getD_push_eq, ops[n], by simp [hns], fun e he hb => ?_⟩
    have hlt := (waits_parts hs h).1 n ops[n] (Nat.le_refl _) (by simp [hns]) e he
    rw [getD_push_lt (by omega)]
    exact hall e.on hlt
  refine ⟨fun h0 => (by rw [h0] at hin; cases hin), fun i hi => ?_⟩
  have hil := ready_lt hi
  rcases Nat.lt_or_ge i n with hlt | hge
  · have := (ready_same hL hs h hlt).1 hi
    rw [hr] at this; cases this
  · obtain rfl : i = n := by omega
    refine wpOp_mono (fun a' w' hq' => ?_) hq
    have e : (L.push false).setIfInBounds i true = L.push true := by rw [← hL]; exact set_last
    rw [e]
    exact wpAny_done hr hq' _
theorem any_of_ahead {n : Nat} (hs : ops.size = n + 1) (h : lastWaits ops = true) : ∀ (fuel : Nat) (L : Array Bool) (a : Act) (w : World), L.size = n → wpAnyH P .any ops (aheadOf P ops Q n) S fuel (L.push true) a w → wpAny P .any ops Q (fuel + 1) (L.push false) a w := by
  intro fuel
  induction fuel with
  | zero =>
    intro L a w hL H
    exact last_one hs h hL H.1 H.2
  | succ fuel ih =>
    intro L a w hL H
    by_cases hr : Region.ready .any ops (L.push true) = []
    · exact last_one hs h hL hr (H.1 hr)
    · obtain ⟨j, hj⟩ := List.exists_mem_of_ne_nil _ hr
      have hjn : j < n := by
        have h1 := ready_lt hj
        rcases Nat.lt_or_ge j n with h2 | h2
        · exact h2
        · obtain rfl : j = n := by omega
          have h3 := (mem_ready.1 hj).1
          rw [← hL, getD_push_eq] at h3
          cases h3
      have hjf := (ready_same hL hs h hjn).2 hj
      refine ⟨fun h0 => (by rw [h0] at hjf; cases hjf), fun i hi => ?_⟩
      have hil := ready_lt hi
      rcases Nat.lt_or_ge i n with hlt | hge
      · have h1 := H.2 i ((ready_same hL hs h hlt).1 hi)
        have h2 := wpOp_ahead h1
        refine wpOp_mono (fun a' w' h3 => ?_) h2
        rw [set_push (by omega)] at h3 ⊢
        exact ih _ a' w' (by simpa using hL) h3.2
      · exfalso
        obtain rfl : i = n := by omega
        obtain ⟨_, o, ho, hall⟩ := mem_ready.1 hi
        obtain ⟨e, he, hb, hon⟩ := (waits_parts hs h).2 o ho j hjn
        have h4 := hall e he hb
        rw [hon, getD_push_lt (by omega)] at h4
        have h5 := (mem_ready.1 hj).1
        rw [getD_push_lt (by omega)] at h5
        have hlt : j < L.size := by omega
        simp [hlt] at h4 h5
        rw [h4] at h5; cases h5
/-- The last one. -/
theorem ahead_last {n : Nat} {o : Oper} {a : Act} {w : World} (ho : ops[n]? = some o) (h : ∀ K' : Act → World → Prop, (∀ a' w', Q .normal a' w' → K' a' w') → if Region.wanted o (yielded ops a.tmps) = true then Oper.wp P o a w K' Q else K' (a.put o.dst undef) w) : aheadOf P ops Q n .normal a w := wpOp_step ho h
/-- The beginning: all but the last. -/
theorem region_but_last {n id : Nat} {a : Act} {w : World} (hm : P.follows .mixedOrders = true) (hs : ops.size = n + 1) (h : lastWaits ops = true) (hS : S w.drew) (H : S w.drew → wpAnyH P .any ops (aheadOf P ops Q n) S n ((Array.replicate n false).push true) a w.drew) : (Code.region id ops true).wp P Q a w := by
  refine wp_region_any hm ?_
  rw [hs, Array.replicate_succ]
  exact any_of_ahead hs h n _ a _ (by simp) (H hS)
end
end Go.Proofs.YthknaphclijncaaDoor

/- types.All: how it begins: two rows and two boxes, made in whatever order. -/
namespace Go.Proofs.YthknaphclijncaaDoor
open Go.RowKit

/-- make, at a step of a region that draws its order. -/
theorem tstep_make (w : World) {P : Program} {ops : Array Oper} {o : Oper} {a : Act} {K : Act → World → Prop} {Q : Exit → Act → World → Prop} {E : Prop} (hgd : o.guard = none)
    (l c : Operand) (t : TypeId) (hop : o.op = Op.makeSlice t l c) (e : TypeId) (i : TypeInfo) (z : Value) (h1 : P.underlying t = some (.slice e)) (h2 : P.info? e = some i) (h3 : i.zero = some z) (h4 : i.size = 1)
    (n : Nat) (hl : a.eval l = .int .i64 n) (hc : a.eval c = .int .i64 n) (b2 : i.bytes * n ≤ 281474976710656) (b3 : n ≤ maxLen)
    (hK : ∀ w', w'.ownsRow w.heap.size e 1 (.slice (some ⟨w.heap.size, 0, none⟩) n n) n (madeCells z.cells (n * 1)).toList → w.grownBy w' none → K (a.put o.dst (.slice (some ⟨w.heap.size, 0, none⟩) n n)) w') :
    if Region.wanted o (yielded ops a.tmps) = true then Oper.wp P o a w K Q else E := by
  have hw : Region.wanted o (yielded ops a.tmps) = true := by simp [Region.wanted, hgd]
  rw [if_pos hw]
  obtain ⟨w', hrun, r1, r2⟩ := run_make_full (P := P) w w.heap.size t e i z 1 h1 h2 h3 h4 .i64 .i64 n b2 b3 (Nat.le_refl _)
  unfold Oper.wp
  simp [execOp, hop, hl, hc, hrun, Result.andThen]
  exact hK w' r1 r2
theorem tstep_room (w : World) {P : Program} {ops : Array Oper} {o : Oper} {a : Act} {K : Act → World → Prop} {Q : Exit → Act → World → Prop} {E : Prop} (hgd : o.guard = none)
    (l c : Operand) (t : TypeId) (hop : o.op = Op.makeSlice t l c) (e : TypeId) (i : TypeInfo) (z : Value) (h1 : P.underlying t = some (.slice e)) (h2 : P.info? e = some i) (h3 : i.zero = some z) (h4 : i.size = 1)
    (n : Nat) (hl : a.eval l = .int .i64 0) (hc : a.eval c = .int .i64 n) (b2 : i.bytes * n ≤ 281474976710656) (b3 : n ≤ maxLen)
    (hK : ∀ w', w'.ownsRow w.heap.size e 1 (.slice (some ⟨w.heap.size, 0, none⟩) 0 n) 0 [] → w.grownBy w' none → K (a.put o.dst (.slice (some ⟨w.heap.size, 0, none⟩) 0 n)) w') :
    if Region.wanted o (yielded ops a.tmps) = true then Oper.wp P o a w K Q else E := by
  have hw : Region.wanted o (yielded ops a.tmps) = true := by simp [Region.wanted, hgd]
  rw [if_pos hw]
  obtain ⟨w', hrun, r1, r2⟩ := run_make_own (P := P) w w.heap.size t e i z 1 h1 h2 h3 h4 .i64 .i64 n b2 b3 (Nat.le_refl _)
  unfold Oper.wp
  simp [execOp, hop, hl, hc, hrun, Result.andThen]
  exact hK w' r1 r2
theorem row_heap {w : World} {B e s b n cap k : Nat} {xs : List Value} (h : w.ownsRow B e s (.slice (some ⟨b, 0, none⟩) n cap) k xs) : b < w.heap.size := by
  rcases h.2 with ⟨hx, _⟩ | ⟨g', cap', cur, hv, _, hh, _⟩
  · cases hx
  · obtain ⟨rfl, _⟩ : b = g' ∧ _ := by simpa using hv
    exact heap_lt hh

/-- What is made already: 0 the list, 1 the type, 2 and 3 their boxes; v is what the list's box holds. -/
structure Beg (w W : World) (kb k c : Nat) (v : Value) (x : Nat → Option Nat) : Prop where
  below : Below w.heap.size w W
  ck : W.cell? ⟨kb, 0, none⟩ = some (.int .i64 (k : Int))
  ge : ∀ j b, x j = some b → w.heap.size ≤ b ∧ b < W.heap.size
  ne : ∀ j j' b, j ≠ j' → x j = some b → x j' ≠ some b
  r0 : ∀ b, x 0 = some b → W.ownsRow w.heap.size 22 1 (.slice (some ⟨b, 0, none⟩) 0 c) 0 []
  r1 : ∀ b, x 1 = some b → RowIs W b k (fun _ => .int .i64 0)
  b2 : ∀ b, x 2 = some b → RowIs W b 1 (fun _ => v)
  b3 : ∀ b, x 3 = some b → RowIs W b 1 (fun _ => .slice none 0 0)
theorem beg_start {w W : World} {kb k c : Nat} {v : Value} (h : Below w.heap.size w W) (hk : W.cell? ⟨kb, 0, none⟩ = some (.int .i64 (k : Int))) : Beg w W kb k c v (fun _ => none) :=
  ⟨h, hk, fun j b hb => (by cases hb), fun j j' b _ hb => (by cases hb), fun b hb => (by cases hb), fun b hb => (by cases hb), fun b hb => (by cases hb), fun b hb => (by cases hb)⟩
theorem Beg.add {w W W' : World} {kb k c : Nat} {v : Value} {x : Nat → Option Nat} (h : Beg w W kb k c v x) (j : Nat) (hb : Below W.heap.size W W') (hs : W.heap.size < W'.heap.size)
    (n0 : j = 0 → W'.ownsRow w.heap.size 22 1 (.slice (some ⟨W.heap.size, 0, none⟩) 0 c) 0 []) (n1 : j = 1 → RowIs W' W.heap.size k (fun _ => .int .i64 0)) (n2 : j = 2 → RowIs W' W.heap.size 1 (fun _ => v)) (n3 : j = 3 → RowIs W' W.heap.size 1 (fun _ => .slice none 0 0)) :
    Beg w W' kb k c v (fun i => if i = j then some W.heap.size else x i) := by
  refine ⟨below_chain h.below hb, by rw [hb.cell (cell_lt h.ck)]; exact h.ck, fun i b hx => ?_, fun i i' b hne hx hx' => ?_, fun b hx => ?_, fun b hx => ?_, fun b hx => ?_, fun b hx => ?_⟩
  · by_cases hij : i = j
    · rw [if_pos hij] at hx; obtain rfl := Option.some.inj hx; exact ⟨h.below.size, hs⟩
    · rw [if_neg hij] at hx; have := h.ge i b hx; exact ⟨this.1, by omega⟩
  · by_cases hij : i = j
    · rw [if_pos hij] at hx; rw [if_neg (by omega)] at hx'
      have := (h.ge i' b hx').2
      have := Option.some.inj hx
      omega
    · rw [if_neg hij] at hx
      by_cases hij' : i' = j
      · rw [if_pos hij'] at hx'
        have := (h.ge i b hx).2
        have := Option.some.inj hx'
        omega
      · rw [if_neg hij'] at hx'; exact h.ne i i' b hne hx hx'
  · by_cases hij : 0 = j
    · rw [if_pos hij] at hx; obtain rfl := Option.some.inj hx; exact n0 hij.symm
    · rw [if_neg hij] at hx; exact own_past (h.r0 b hx) hb
  · by_cases hij : 1 = j
    · rw [if_pos hij] at hx; obtain rfl := Option.some.inj hx; exact n1 hij.symm
    · rw [if_neg hij] at hx; exact (h.r1 b hx).later hb
  · by_cases hij : 2 = j
    · rw [if_pos hij] at hx; obtain rfl := Option.some.inj hx; exact n2 hij.symm
    · rw [if_neg hij] at hx; exact (h.b2 b hx).later hb
  · by_cases hij : 3 = j
    · rw [if_pos hij] at hx; obtain rfl := Option.some.inj hx; exact n3 hij.symm
    · rw [if_neg hij] at hx; exact (h.b3 b hx).later hb
theorem Beg.add0 {w W W' : World} {kb k c : Nat} {v : Value} {x : Nat → Option Nat} (h : Beg w W kb k c v x) (ho : W'.ownsRow W.heap.size 22 1 (.slice (some ⟨W.heap.size, 0, none⟩) 0 c) 0 []) (hg : W.grownBy W' none) : Beg w W' kb k c v (fun i => if i = 0 then some W.heap.size else x i) :=
  h.add 0 (made_below hg) (row_heap ho) (fun _ => ho.mono h.below.size) (fun e => by cases e) (fun e => by cases e) (fun e => by cases e)
theorem Beg.add1 {w W W' : World} {kb k c : Nat} {v : Value} {x : Nat → Option Nat} (h : Beg w W kb k c v x) (ho : W'.ownsRow W.heap.size 3 1 (.slice (some ⟨W.heap.size, 0, none⟩) k k) k (madeCells (Value.int .i64 0).cells (k * 1)).toList) (hg : W.grownBy W' none) : Beg w W' kb k c v (fun i => if i = 1 then some W.heap.size else x i) :=
  h.add 1 (made_below hg) (row_heap ho) (fun e => by cases e) (fun _ => rowIs_made ho (made_one (.int .i64 0) rfl k)) (fun e => by cases e) (fun e => by cases e)
theorem one_box (W : World) (t : TypeId) (v : Value) : RowIs (W.alloc (.cells #[v] t)) W.heap.size 1 (fun _ => v) :=
  ⟨fun k hk => by obtain rfl : k = 0 := by omega
                  rw [World.cell?_alloc_at _ _ _ _ rfl]; rfl, fun k hk => World.frozen?_alloc_new W _ _ _⟩
theorem Beg.add2 {w W : World} {kb k c : Nat} {x : Nat → Option Nat} (h : Beg w W kb k c (.slice none 0 0) x) (t : TypeId) : Beg w (W.alloc (.cells #[.slice none 0 0] t)) kb k c (.slice none 0 0) (fun i => if i = 2 then some W.heap.size else x i) :=
  h.add 2 ((Below.refl _ _).alloc (Nat.le_refl _) _) (by simp) (fun e => by cases e) (fun e => by cases e) (fun _ => one_box W t _) (fun e => by cases e)
theorem Beg.add3 {w W : World} {kb k c : Nat} {v : Value} {x : Nat → Option Nat} (h : Beg w W kb k c v x) (t : TypeId) : Beg w (W.alloc (.cells #[.slice none 0 0] t)) kb k c v (fun i => if i = 3 then some W.heap.size else x i) :=
  h.add 3 ((Below.refl _ _).alloc (Nat.le_refl _) _) (by simp) (fun e => by cases e) (fun e => by cases e) (fun e => by cases e) (fun _ => one_box W t _)
theorem rowIs_put {W : World} {b n p k : Nat} {f : Nat → Value} {x : Value} (h : RowIs W b n f) (hx : W.cell? ⟨p, k, none⟩ = some x) (hne : b ≠ p) (y : Value) : RowIs (W.setCell ⟨p, k, none⟩ y) b n f :=
  ⟨fun j hj => by rw [put_cell _ hx, if_neg (fun e => hne (congrArg Addr.block e))]; exact h.row j hj, fun j hj => by rw [World.frozen?_setCell]; exact h.fz j hj⟩
theorem rowIs_here {W : World} {b : Nat} {x : Value} (h : RowIs W b 1 (fun _ => x)) (y : Value) : RowIs (W.setCell ⟨b, 0, none⟩ y) b 1 (fun _ => y) :=
  ⟨fun j hj => by obtain rfl : j = 0 := by omega
                  rw [put_cell _ (h.row 0 (by omega)), if_pos rfl], fun j hj => by rw [World.frozen?_setCell]; exact h.fz j hj⟩
theorem Beg.store {w W : World} {kb k c b : Nat} {v : Value} {x : Nat → Option Nat} (h : Beg w W kb k c v x) (h2 : x 2 = some b) (hkb : kb < w.heap.size) (y : Value) : Beg w (W.setCell ⟨b, 0, none⟩ y) kb k c y x := by
  have hc := h.b2 b h2
  have h0 := hc.row 0 (by omega)
  have hg := h.ge 2 b h2
  refine ⟨h.below.setCell hg.1 _, ?_, fun j b' hj => by rw [World.size_setCell]; exact h.ge j b' hj, h.ne, fun b' hb' => ?_, fun b' hb' => ?_, fun b' hb' => ?_, fun b' hb' => ?_⟩
  · rw [put_cell _ h0, if_neg (fun e => by have := congrArg Addr.block e; simp at this; omega)]; exact h.ck
  · exact own_put (h.r0 b' hb') _ _ (fun e => h.ne 0 2 b' (by decide) hb' (by have : b' = b := by simpa [Value.ownBlock] using e
                                                                              rw [this]; exact h2))
  · exact rowIs_put (h.r1 b' hb') h0 (fun e => h.ne 1 2 b' (by decide) hb' (e ▸ h2)) _
  · obtain rfl : b' = b := Option.some.inj (hb'.symm.trans h2)
    exact rowIs_here hc y
  · exact rowIs_put (h.b3 b' hb') h0 (fun e => h.ne 3 2 b' (by decide) hb' (e ▸ h2)) _
/-- All is made and stored. -/
structure Lai (w W : World) (kb k c go gt bo bt : Nat) : Prop where
  below : Below w.heap.size w W
  ck : W.cell? ⟨kb, 0, none⟩ = some (.int .i64 (k : Int))
  ge : w.heap.size ≤ go ∧ w.heap.size ≤ gt ∧ w.heap.size ≤ bo ∧ w.heap.size ≤ bt
  lt : go < W.heap.size ∧ gt < W.heap.size ∧ bo < W.heap.size ∧ bt < W.heap.size
  ne : go ≠ gt ∧ go ≠ bo ∧ go ≠ bt ∧ gt ≠ bo ∧ gt ≠ bt ∧ bo ≠ bt
  own : W.ownsRow w.heap.size 22 1 (.slice (some ⟨go, 0, none⟩) 0 c) 0 []
  row : RowIs W gt k (fun _ => .int .i64 0)
  co : RowIs W bo 1 (fun _ => .slice (some ⟨go, 0, none⟩) 0 c)
  ct : RowIs W bt 1 (fun _ => .slice (some ⟨gt, 0, none⟩) k k)
theorem Beg.lai {w W : World} {kb k c go gt bo bt : Nat} {x : Nat → Option Nat} (h : Beg w W kb k c (.slice (some ⟨go, 0, none⟩) 0 c) x) (h0 : x 0 = some go) (h1 : x 1 = some gt) (h2 : x 2 = some bo) (h3 : x 3 = some bt) (hkb : kb < w.heap.size) :
    Lai w (W.setCell ⟨bt, 0, none⟩ (.slice (some ⟨gt, 0, none⟩) k k)) kb k c go gt bo bt := by
  have hc := h.b3 bt h3
  have hr := hc.row 0 (by omega)
  have n03 : go ≠ bt := fun e => h.ne 0 3 go (by decide) h0 (e ▸ h3)
  have n13 : gt ≠ bt := fun e => h.ne 1 3 gt (by decide) h1 (e ▸ h3)
  have n23 : bo ≠ bt := fun e => h.ne 2 3 bo (by decide) h2 (e ▸ h3)
  refine ⟨h.below.setCell (h.ge 3 bt h3).1 _, ?_, ⟨(h.ge 0 go h0).1, (h.ge 1 gt h1).1, (h.ge 2 bo h2).1, (h.ge 3 bt h3).1⟩, ?_, ⟨fun e => h.ne 0 1 go (by decide) h0 (e ▸ h1), fun e => h.ne 0 2 go (by decide) h0 (e ▸ h2), n03, fun e => h.ne 1 2 gt (by decide) h1 (e ▸ h2), n13, n23⟩, ?_, rowIs_put (h.r1 gt h1) hr n13 _, rowIs_put (h.b2 bo h2) hr n23 _, rowIs_here hc _⟩
  · have := (h.ge 3 bt h3).1
    rw [put_cell _ hr, if_neg (fun e => by have := congrArg Addr.block e; simp at this; omega)]; exact h.ck
  · simp only [World.size_setCell]; exact ⟨(h.ge 0 go h0).2, (h.ge 1 gt h1).2, (h.ge 2 bo h2).2, (h.ge 3 bt h3).2⟩
  · exact own_put (h.r0 go h0) _ _ (fun e => n03 (by simpa [Value.ownBlock] using e))
end Go.Proofs.YthknaphclijncaaDoor

/- types.All: the function that fills a type from a place on. -/
namespace Go.Proofs.YthknaphclijncaaDoor
open Go.RowKit

theorem clone_any (b n c : Nat) (z : Nat → Int) (w : World) (h : RowAt w b 0 n z) (hn : n ≤ 1000) :
    Calls Tryd.prog 53 #[.slice (some ⟨b, 0, none⟩) n c] w fun e w' => ∃ v, e = .returned v ∧ w'.ownsRow w.heap.size 3 1 v n (cellL (rowL z n)) ∧ Below w.heap.size w w' := by
  refine (Any.slices_Clone_int (ρ := Tryd.cloneA_ren) Tryd.cloneA b 0 n c (rowL z n) w (by rw [rowL_length]; exact Nat.le_refl _) (by omega) (fun j hj => ?_)).mono ?_
  · rw [rowL_length] at hj
    rw [h j hj]
    simp [rowL, hj]
  · rintro e w' ⟨v', rfl, h1, _, h2⟩
    refine ⟨v', rfl, ?_, h2⟩
    rw [List.take_of_length_le (by rw [rowL_length]; exact Nat.le_refl _)] at h1
    exact h1

/-- What the closure sees: the boxes, the type under way, the list so far. -/
structure FilAt (w0 W : World) (B kb fb bt bo gt k : Nat) (ts : Nat → Int) (ov : Value) (L : List (List Int)) (vs : List Value) : Prop where
  below : Below w0.heap.size w0 W
  ge : w0.heap.size ≤ bt ∧ w0.heap.size ≤ bo ∧ w0.heap.size ≤ gt
  lt : kb < B ∧ fb < B ∧ bt < B ∧ bo < B ∧ gt < B ∧ B ≤ W.heap.size
  no : bo ≠ kb ∧ bo ≠ fb ∧ bo ≠ bt ∧ bo ≠ gt
  ng : gt ≠ kb ∧ gt ≠ fb ∧ gt ≠ bt
  ck : W.cell? ⟨kb, 0, none⟩ = some (.int .i64 (k : Int))
  cf : W.cell? ⟨fb, 0, none⟩ = some (.func (.func 52) #[] #[.pointer (some ⟨kb, 0, none⟩), .pointer (some ⟨bt, 0, none⟩), .pointer (some ⟨bo, 0, none⟩), .pointer (some ⟨fb, 0, none⟩)])
  ct : W.cell? ⟨bt, 0, none⟩ = some (.slice (some ⟨gt, 0, none⟩) k k)
  co : W.cell? ⟨bo, 0, none⟩ = some ov
  fo : W.frozen? ⟨bo, 0, none⟩ = false
  row : RowAt W gt 0 k ts
  fz : ∀ i, i < k → W.frozen? ⟨gt, i, none⟩ = false
  own : LolOwn w0.heap.size B W ov L vs
  on : ∀ g, ov.ownBlock = some g → g ≠ kb ∧ g ≠ fb ∧ g ≠ bt ∧ g ≠ bo ∧ g ≠ gt
theorem FilAt.later {w0 W W' : World} {B kb fb bt bo gt k : Nat} {ts : Nat → Int} {ov : Value} {L : List (List Int)} {vs : List Value} (h : FilAt w0 W B kb fb bt bo gt k ts ov L vs) (hb : Below W.heap.size W W') : FilAt w0 W' B kb fb bt bo gt k ts ov L vs :=
  ⟨below_chain h.below hb, h.ge, ⟨h.lt.1, h.lt.2.1, h.lt.2.2.1, h.lt.2.2.2.1, h.lt.2.2.2.2.1, Nat.le_trans h.lt.2.2.2.2.2 hb.size⟩, h.no, h.ng, by rw [hb.cell (cell_lt h.ck)]; exact h.ck, by rw [hb.cell (cell_lt h.cf)]; exact h.cf, by rw [hb.cell (cell_lt h.ct)]; exact h.ct, by rw [hb.cell (cell_lt h.co)]; exact h.co, by rw [hb.frozen (cell_lt h.co)]; exact h.fo, h.row.later hb, fun i hi => by rw [hb.frozen (cell_lt (by have := h.row i hi; rwa [Nat.zero_add] at this))]; exact h.fz i hi, h.own.later hb, h.on⟩
theorem FilAt.set {w0 W : World} {B kb fb bt bo gt k : Nat} {ts : Nat → Int} {ov : Value} {L : List (List Int)} {vs : List Value} (h : FilAt w0 W B kb fb bt bo gt k ts ov L vs) (a : Nat) (ha : a < k) (x : Int) : FilAt w0 (W.setCell ⟨gt, a, none⟩ (.int .i64 x)) B kb fb bt bo gt k (fun i => if i = a then x else ts i) ov L vs := by
  have hc : W.cell? ⟨gt, a, none⟩ = some (.int .i64 (ts a)) := by have := h.row a ha; rwa [Nat.zero_add] at this
  have far : ∀ b, gt ≠ b → (W.setCell ⟨gt, a, none⟩ (.int .i64 x)).cell? ⟨b, 0, none⟩ = W.cell? ⟨b, 0, none⟩ := fun b hb => by
    rw [put_cell _ hc, if_neg (fun e => hb (congrArg Addr.block e).symm)]
  refine ⟨h.below.setCell h.ge.2.2 _, h.ge, by rw [World.size_setCell]; exact h.lt, h.no, h.ng, by rw [far _ h.ng.1]; exact h.ck, by rw [far _ h.ng.2.1]; exact h.cf, by rw [far _ h.ng.2.2]; exact h.ct, by rw [far _ (Ne.symm h.no.2.2.2)]; exact h.co, by rw [World.frozen?_setCell]; exact h.fo, fun i hi => ?_, fun i hi => by rw [World.frozen?_setCell]; exact h.fz i hi, h.own.put _ _ (fun e => (h.on _ e).2.2.2.2 rfl) h.lt.2.2.2.2.1, h.on⟩
  rw [put_cell _ hc]
  by_cases hi2 : i = a
  · subst hi2; simp
  · rw [if_neg (fun e => hi2 (by have := congrArg Addr.off e; simpa using this))]
    simp only [hi2, if_false]
    exact h.row i hi
/-- The list's box gets a new list. -/
theorem FilAt.push {w0 W W' : World} {B kb fb bt bo gt k : Nat} {ts : Nat → Int} {ov ov' : Value} {L L' : List (List Int)} {vs vs' : List Value} (h : FilAt w0 W B kb fb bt bo gt k ts ov L vs) (hg : W.grownBy W' ov.ownBlock) (ho : LolOwn w0.heap.size B W' ov' L' vs') (hat : ∀ g, ov'.ownBlock = some g → ov.ownBlock = some g ∨ W.heap.size ≤ g) (hbo : ∀ g, ov.ownBlock = some g → w0.heap.size ≤ g) : FilAt w0 (W'.setCell ⟨bo, 0, none⟩ ov') B kb fb bt bo gt k ts ov' L' vs' := by
  have on' : ∀ g, ov'.ownBlock = some g → g ≠ kb ∧ g ≠ fb ∧ g ≠ bt ∧ g ≠ bo ∧ g ≠ gt := fun g hg' => by
    rcases hat g hg' with e | e
    · exact h.on g e
    · have := h.lt
      omega
  have far : ∀ b j, b < B → (∀ g, ov.ownBlock = some g → g ≠ b) → W'.cell? ⟨b, j, none⟩ = W.cell? ⟨b, j, none⟩ ∧ W'.frozen? ⟨b, j, none⟩ = W.frozen? ⟨b, j, none⟩ := fun b j hb hne =>
    ⟨hg.cell_far ⟨b, j, none⟩ (Nat.lt_of_lt_of_le hb h.lt.2.2.2.2.2) (fun e => hne b e.symm rfl), hg.frozen_far ⟨b, j, none⟩ (Nat.lt_of_lt_of_le hb h.lt.2.2.2.2.2) (fun e => hne b e.symm rfl)⟩
  have l := h.lt
  have hco : W'.cell? ⟨bo, 0, none⟩ = some ov := by rw [(far bo 0 l.2.2.2.1 (fun g e => (h.on g e).2.2.2.1)).1]; exact h.co
  have put : ∀ b j, bo ≠ b → (W'.setCell ⟨bo, 0, none⟩ ov').cell? ⟨b, j, none⟩ = W'.cell? ⟨b, j, none⟩ := fun b j hb => by
    rw [put_cell _ hco, if_neg (fun e => hb (congrArg Addr.block e).symm)]
  refine ⟨(h.below.grown hg h.below.size hbo).setCell h.ge.2.1 _, h.ge, ⟨l.1, l.2.1, l.2.2.1, l.2.2.2.1, l.2.2.2.2.1, by rw [World.size_setCell]; exact Nat.le_trans l.2.2.2.2.2 hg.size⟩, h.no, h.ng, ?_, ?_, ?_, ?_, ?_, fun i hi => ?_, fun i hi => ?_, ho.put _ _ (fun e => (on' _ e).2.2.2.1 rfl) l.2.2.2.1, on'⟩
  · rw [put _ _ h.no.1, (far kb 0 l.1 (fun g e => (h.on g e).1)).1]; exact h.ck
  · rw [put _ _ h.no.2.1, (far fb 0 l.2.1 (fun g e => (h.on g e).2.1)).1]; exact h.cf
  · rw [put _ _ h.no.2.2.1, (far bt 0 l.2.2.1 (fun g e => (h.on g e).2.2.1)).1]; exact h.ct
  · rw [put_cell _ hco, if_pos rfl]
  · rw [World.frozen?_setCell, (far bo 0 l.2.2.2.1 (fun g e => (h.on g e).2.2.2.1)).2]; exact h.fo
  · rw [put _ _ h.no.2.2.2, (far gt _ l.2.2.2.2.1 (fun g e => (h.on g e).2.2.2.2)).1]; exact h.row i hi
  · rw [World.frozen?_setCell, (far gt _ l.2.2.2.2.1 (fun g e => (h.on g e).2.2.2.2)).2]; exact h.fz i hi
theorem FilAt.far {w0 W W' : World} {B kb fb bt bo gt k : Nat} {ts : Nat → Int} {ov : Value} {L : List (List Int)} {vs : List Value} (h : FilAt w0 W B kb fb bt bo gt k ts ov L vs) (hg : W.grownBy W' ov.ownBlock) : W'.cell? ⟨bo, 0, none⟩ = some ov ∧ W'.cell? ⟨bt, 0, none⟩ = some (.slice (some ⟨gt, 0, none⟩) k k) ∧ W'.frozen? ⟨bo, 0, none⟩ = false := by
  have l := h.lt
  have e1 : bo < W.heap.size := Nat.lt_of_lt_of_le l.2.2.2.1 l.2.2.2.2.2
  have e2 : bt < W.heap.size := Nat.lt_of_lt_of_le l.2.2.1 l.2.2.2.2.2
  exact ⟨by rw [hg.cell_far ⟨bo, 0, none⟩ e1 (fun e => (h.on bo e.symm).2.2.2.1 rfl)]; exact h.co, by rw [hg.cell_far ⟨bt, 0, none⟩ e2 (fun e => (h.on bt e.symm).2.2.1 rfl)]; exact h.ct, by rw [hg.frozen_far ⟨bo, 0, none⟩ e1 (fun e => (h.on bo e.symm).2.2.2.1 rfl)]; exact h.fo⟩
theorem rowL_set (ts : Nat → Int) (a : Nat) (x : Int) : rowL (fun i => if i = a then x else ts i) (a + 1) = rowL ts a ++ [x] := by
  unfold rowL
  rw [List.range_succ, List.map_append]
  congr 1
  · refine List.map_congr_left (fun i hi => ?_)
    have := List.mem_range.1 hi
    rw [if_neg (by omega)]
  · simp
theorem rowL_congr {f g : Nat → Int} {n : Nat} (h : ∀ i, i < n → f i = g i) : rowL f n = rowL g n := by
  unfold rowL
  exact List.map_congr_left (fun i hi => h i (List.mem_range.1 hi))

set_option maxRecDepth 100000 in
set_option maxHeartbeats 4000000 in
theorem fill_end (w0 W : World) (B kb fb bt bo gt a l : Nat) (ts : Nat → Int) (ov : Value) (L : List (List Int)) (vs : List Value) (h : FilAt w0 W B kb fb bt bo gt (a + 1) ts ov L vs) (ha : a < 6) (hL : L.length ≤ 10000) (hw0 : w0.heap.size ≤ B) :
    Calls Tryd.prog 52 #[.int .i64 a, .int .i64 l, .pointer (some ⟨kb, 0, none⟩), .pointer (some ⟨bt, 0, none⟩), .pointer (some ⟨bo, 0, none⟩), .pointer (some ⟨fb, 0, none⟩)] W fun e W' => e = .returned (.tuple #[]) ∧ ∃ ts' ov' vs', FilAt w0 W' B kb fb bt bo gt (a + 1) ts' ov' (L ++ [rowL ts a ++ [(l : Int)]]) vs' ∧ ∀ i, i < a → ts' i = ts i := by
  obtain ⟨i0, hi, hz0, hz1, hz2⟩ := info_parts Tryd.infoInts
  have HINF : Hid (Tryd.prog.info? 22 = some i0 ∧ i0.zero = some (.slice none 0 0) ∧ i0.size = 1 ∧ i0.bytes = 24) := ⟨hi, hz0, hz1, hz2⟩
  clear hi hz0 hz1 hz2
  have HS := Hid.mk' (h.set a (by omega) (l : Int))
  have ck := h.ck
  have ct := h.ct
  have ca : W.cell? ⟨gt, a, none⟩ = some (.int .i64 (ts a)) := by have := h.row a (by omega); rwa [Nat.zero_add] at this
  have fa := h.fz a (by omega)
  rw [show ((a + 1 : Nat) : Int) = (a : Int) + 1 by omega] at ck
  have haI : (a : Int) < 6 := by omega
  have ha0 : (0 : Int) ≤ (a : Int) := by omega
  have hab : (a : Int) < (a : Int) + 1 := by omega
  obtain ⟨ao, cc, hov⟩ := h.own.form
  subst hov
  clear h
  go_enter Tryd.func52, Tryd.ntmps52
  go_wp2_with fail
  generalize W.setCell ⟨gt, a, none⟩ (.int .i64 (l : Int)) = W1 at HS ⊢
  clear ck ct ca fa
  have hcur : Below W1.heap.size W1 W1.drew := (Below.refl _ _).drew
  have HX : Hid (∀ Wx, Below W1.heap.size W1 Wx → Wx.cell? ⟨bo, 0, none⟩ = some (.slice ao L.length cc) ∧ Wx.cell? ⟨bt, 0, none⟩ = some (.slice (some ⟨gt, 0, none⟩) (a + 1) (a + 1))) := fun Wx hb => ⟨(HS.out.later hb).co, (HS.out.later hb).ct⟩
  refine region_but_last (n := 5) (S := fun Wx => Wx.cell? ⟨bo, 0, none⟩ = some (.slice ao L.length cc) ∧ Wx.cell? ⟨bt, 0, none⟩ = some (.slice (some ⟨gt, 0, none⟩) (a + 1) (a + 1))) (by kernel_rfl) (by kernel_rfl) (by kernel_rfl) (HX.out _ hcur) (fun hHeld => ?_)
  refine wpAnyH_take (i := 0) (v := ?v0a) rfl (by kernel_rfl) (by kernel_rfl) (by kernel_rfl) (fun _ _ _ h => h) (Or.inl ⟨by rfl, ?hy0a⟩) (by assumption) ?rest0a
  case hy0a => (intro w hSw; (try dsimp only at hSw); go_simp <;> (try with_reducible rfl))
  simp only [Act.put]
  refine wpAnyH_take (i := 1) (v := ?v1a) rfl (by kernel_rfl) (by kernel_rfl) (by kernel_rfl) (fun _ _ _ h => h) (Or.inl ⟨by rfl, ?hy1a⟩) (by assumption) ?rest1a
  case hy1a => (intro w hSw; (try dsimp only at hSw); go_simp <;> (try with_reducible rfl))
  simp only [Act.put]
  refine wpAnyH_ready (rs := [2]) (by kernel_rfl) (by simp) ?_
  refine AllReadyH.cons rfl (fun K hK => ?_) AllReadyH.nil
  go_simp
  refine (clone_any gt (a + 1) (a + 1) _ _ (HS.out.later hcur).row (by omega)).mono ?_
  rintro e w5 ⟨v5, rfl, h5, hb5⟩
  have HR5 := Hid.mk' (h5.mono (Nat.le_trans HS.out.lt.2.2.2.2.2 hcur.size))
  have hcur := below_chain hcur hb5
  obtain ⟨a5, c5, rfl, _⟩ := row_shape h5
  clear h5 hb5
  go_wp2_with fail
  refine hK.out _ _ ?_ (fun hHeld => ?_)
  · exact HX.out _ hcur
  clear hK K
  refine wpAnyH_ready (rs := [3]) (by kernel_rfl) (by simp) ?_
  refine AllReadyH.cons rfl (fun K hK => ?_) AllReadyH.nil
  go_simp
  have hcur6 := hcur.alloc hcur.size (.cells #[.slice a5 (a + 1) c5] 22)
  refine hK.out _ _ ?_ (fun hHeld => ?_)
  · exact HX.out _ hcur6
  clear hK K
  have HF6 := Hid.mk' (HS.out.later hcur6)
  have HR6 := Hid.mk' (own_past HR5.out ((Below.refl w5.heap.size w5).alloc (Nat.le_refl _) (.cells #[.slice a5 (a + 1) c5] 22)))
  have HNW : Hid (∀ j u, [Value.slice a5 (a + 1) c5][j]? = some u → (w5.alloc (.cells #[.slice a5 (a + 1) c5] 22)).cell? ((⟨w5.heap.size, 0, none⟩ : Addr).add j) = some u) := one_new _ _ _
  generalize w5.alloc (.cells #[.slice a5 (a + 1) c5] 22) = w6 at *
  generalize w5.heap.size = b6 at *
  clear HR5 hcur6 hcur
  refine wpAnyH_ready (rs := [4]) (by kernel_rfl) (by simp) ?_
  refine AllReadyH.cons rfl (fun K hK => ?_) AllReadyH.nil
  refine step_append_lies _ rfl _ _ _ rfl w0.heap.size 22 i0 _ 1 24 Tryd.underlying42 HINF.out.1 HINF.out.2.1 HINF.out.2.2.1 HINF.out.2.2.2 rfl (by omega) (.slice ao L.length cc) _ _ rfl HF6.out.own.1 ⟨b6, 0, none⟩ 1 1 [.slice a5 (a + 1) c5] rfl rfl HNW.out (by simp [Value.oneCell']) (by omega) (by unfold maxLen; omega) (by omega) (Nat.le_trans hw0 HF6.out.lt.2.2.2.2.2) _ rfl ?_
  intro g7 cap7 w7 hown7 hgrow7 hat7 hlt7
  have hat : ∀ g, (Value.slice (some ⟨g7, 0, none⟩) (L.length + 1) cap7).ownBlock = some g → (Value.slice ao L.length cc).ownBlock = some g ∨ w6.heap.size ≤ g := fun g hg => by
    have e : g7 = g := by simpa [Value.ownBlock] using hg
    subst e
    exact hat7.imp id (fun e => Nat.le_of_eq e.symm)
  have hfar := HF6.out.far hgrow7
  have HP := Hid.mk' (HF6.out.push hgrow7 (HF6.out.own.push (r := rowL (fun i => if i = a then (l : Int) else ts i) (a + 1)) (by rw [rowL_length]; exact HR6.out) hgrow7 hown7) hat (fun g hg => (HF6.out.own.1.lt g hg).1))
  refine hK.out _ _ ⟨hfar.1, hfar.2.1⟩ (fun hHeld => ?_)
  obtain ⟨k0, -, k1⟩ := hfar
  clear hK K hown7 hgrow7 hat7 hlt7 hat HR6 HF6 HNW
  refine wpAnyH_done (by kernel_rfl) ?_ _
  refine ahead_last rfl (fun K hK => ?_)
  go_simp
  refine hK _ _ ?_
  clear hK K
  generalize w7.setCell ⟨bo, 0, none⟩ (.slice (some ⟨g7, 0, none⟩) (L.length + 1) cap7) = w8 at *
  go_wp2_with fail
  refine bodyPost_ret (v := .tuple #[]) (by simp [results, Tryd.results52]) rfl ⟨rfl, (fun i => if i = a then (l : Int) else ts i), .slice (some ⟨g7, 0, none⟩) (L.length + 1) cap7, vs ++ [.slice a5 (a + 1) c5], ?_, ?_⟩
  · rw [← rowL_set]
    exact HP.out
  · intro i hi
    exact if_neg (by omega)

set_option maxRecDepth 100000 in
set_option maxHeartbeats 4000000 in
theorem fill_any : ∀ (m a l : Nat) (w0 W : World) (B kb fb bt bo gt k : Nat) (ts : Nat → Int) (ov : Value) (L : List (List Int)) (vs : List Value), a + m + 1 = k → FilAt w0 W B kb fb bt bo gt k ts ov L vs → k ≤ 6 → l < 21 → L.length + cntT m l ≤ 10000 → w0.heap.size ≤ B →
    Calls Tryd.prog 52 #[.int .i64 a, .int .i64 l, .pointer (some ⟨kb, 0, none⟩), .pointer (some ⟨bt, 0, none⟩), .pointer (some ⟨bo, 0, none⟩), .pointer (some ⟨fb, 0, none⟩)] W fun e W' => e = .returned (.tuple #[]) ∧ ∃ ts' ov' vs', FilAt w0 W' B kb fb bt bo gt k ts' ov' (L ++ (typT m l).map (fun r => rowL ts a ++ r)) vs' ∧ ∀ i, i < a → ts' i = ts i
  | 0, a, l, w0, W, B, kb, fb, bt, bo, gt, k, ts, ov, L, vs, hk, h, hk6, hl, hL, hw0 => by
    obtain rfl : a + 1 = k := by omega
    exact fill_end w0 W B kb fb bt bo gt a l ts ov L vs h (by omega) (by omega) hw0
  | m + 1, a, l, w0, W, B, kb, fb, bt, bo, gt, k, ts, ov, L, vs, hk, h, hk6, hl, hL, hw0 => by
    have HI := Hid.mk' (fun (x : Nat) (W' : World) (ts' : Nat → Int) (ov' : Value) (L' : List (List Int)) (vs' : List Value) (h' : FilAt w0 W' B kb fb bt bo gt k ts' ov' L' vs') (hx : x ≤ l) (hL' : L'.length + cntT m (l - x) ≤ 10000) => fill_any m (a + 1) (l - x) w0 W' B kb fb bt bo gt k ts' ov' L' vs' (by omega) h' hk6 (by omega) hL' hw0)
    have ck := h.ck
    have haI : (a : Int) + 1 < (k : Int) := by omega
    have ha0 : (0 : Int) ≤ (a : Int) := by omega
    have hkI : (k : Int) ≤ 6 := by omega
    have hl0 : (0 : Int) ≤ (l : Int) := by omega
    have hlI : (l : Int) < 21 := by omega
    have hgb : ((a : Int) == (k : Int) - 1) = false := by simp; omega
    have HST := Hid.mk' h
    have HLEN : Hid (∀ x, x ≤ l → (L ++ (typS (fun i => typT m (l - i)) x).map (fun r => rowL ts a ++ r)).length + cntT m (l - x) ≤ 10000) := fun x hx => by
      rw [List.length_append, List.length_map, typS_length, cntS_congr (g := fun i => cntT m (l - i)) (fun i _ => typT_length m (l - i))]
      have h1 := cntS_le (fun i => cntT m (l - i)) (show x + 1 ≤ l + 1 by omega)
      have h2 : cntS (fun i => cntT m (l - i)) (x + 1) = cntS (fun i => cntT m (l - i)) x + cntT m (l - x) := rfl
      have h3 : cntT (m + 1) l = cntS (fun i => cntT m (l - i)) (l + 1) := rfl
      omega
    have HFIN : Hid (typT (m + 1) l = typS (fun i => typT m (l - i)) (l + 1)) := rfl
    have HNX : Hid (∀ x, typS (fun i => typT m (l - i)) (x + 1) = typS (fun i => typT m (l - i)) x ++ (typT m (l - x)).map (fun r => (x : Int) :: r)) := fun x => rfl
    have HKA := Hid.mk' hk
    clear h hL hk
    generalize (fun i => typT m (l - i)) = F at *
    go_enter Tryd.func52, Tryd.ntmps52
    go_wp2_with fail
    clear ck
    go_loopw [24] (fun i wr => ∃ (x : Nat) (ts' : Nat → Int) (ov' : Value) (vs' : List Value), x ≤ l + 1 ∧ i = .int .i64 x ∧ Hid (FilAt w0 wr B kb fb bt bo gt k ts' ov' (L ++ (typS F x).map (fun r => rowL ts a ++ r)) vs') ∧ Hid (∀ i, i < a → ts' i = ts i)) (fun i _ => l + 1 - (intOf i).toNat)
    case atStart => exact ⟨0, ts, ov, vs, Nat.zero_le _, rfl, by show FilAt _ _ _ _ _ _ _ _ _ _ _ _ _; simpa [typS] using HST.out, fun i _ => rfl⟩
    case round =>
      clear HST
      obtain ⟨x, ts', ov', vs', hx, rfl, HST, HTS⟩ := hrel
      have hx0 : (0 : Int) ≤ (x : Int) := by omega
      rcases Nat.lt_or_ge x (l + 1) with h1 | h1
      · have hxl : (x : Int) < (l : Int) + 1 := by omega
        have hak : a < k := by have := HKA.out; omega
        have hakI : (a : Int) < (k : Int) := by omega
        have ct := HST.out.ct
        have ca : wr.cell? ⟨gt, a, none⟩ = some (.int .i64 (ts' a)) := by have := HST.out.row a hak; rwa [Nat.zero_add] at this
        have fa := HST.out.fz a hak
        have HS := Hid.mk' (HST.out.set a hak (x : Int))
        have cf := HS.out.cf
        have HCL := Hid.mk' (HI.out x _ _ _ _ _ HS.out (by omega) (HLEN.out x (by omega)))
        rw [show ((a + 1 : Nat) : Int) = (a : Int) + 1 by omega, show ((l - x : Nat) : Int) = (l : Int) - (x : Int) by omega] at HCL
        go_wp2_with fail
        refine HCL.out.mono ?_
        rintro e w4 ⟨rfl, ts4, ov4, vs4, h4, t4⟩
        have HF4 := Hid.mk' h4
        have HT4 := Hid.mk' t4
        clear h4 t4 HCL HS HST ct ca fa cf
        go_wp2_with fail
        refine ⟨⟨x + 1, ts4, ov4, vs4, h1, by go_num, ?_, fun i hi => ?_⟩, by simp [intOf]; omega⟩
        · show FilAt _ _ _ _ _ _ _ _ _ _ _ _ _
          have e5 : rowL (fun i => if i = a then (x : Int) else ts' i) (a + 1) = rowL ts a ++ [(x : Int)] := by rw [rowL_set, rowL_congr HTS.out]
          have e6 := HF4.out
          rw [e5, List.append_assoc] at e6
          rw [HNX.out, List.map_append, List.map_map]
          have e7 : (fun r => rowL ts a ++ r) ∘ (fun r => (x : Int) :: r) = fun r => rowL ts a ++ [(x : Int)] ++ r := by
            funext r; simp
          rw [e7]
          exact e6
        · rw [HT4.out i (by omega), if_neg (by omega)]
          exact HTS.out i hi
      · obtain rfl : x = l + 1 := by omega
        have hxl : ¬ (((l + 1 : Nat) : Int) < (l : Int) + 1) := by omega
        go_wp2_with fail
        refine bodyPost_end (v := .tuple #[]) (by simp [results, Tryd.results52]) rfl ⟨rfl, ts', ⟨ov', vs', ?_⟩, HTS.out⟩
        rw [HFIN.out]
        exact HST.out
end Go.Proofs.YthknaphclijncaaDoor
