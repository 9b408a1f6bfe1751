/- Rows of their own that are made one by one and filled. -/
import Derived.Test.YtlnhpkmcinohdaaDoorFills
import Derived.Test.YtlnhpkmcinohdaaDoorTab
namespace Go.Proofs.YtlnhpkmcinohdaaDoor
open Go.RowKit

/-- Cells of a row that is made. -/
structure RowIs (wr : World) (b n : Nat) (f : Nat → Value) : Prop where
  row : ∀ k, k < n → wr.cell? ⟨b, k, none⟩ = some (f k)
  fz : ∀ k, k < n → wr.frozen? ⟨b, k, none⟩ = false
theorem RowIs.later {w w' : World} {b n : Nat} {f : Nat → Value} (h : RowIs w b n f) (hb : Below w.heap.size w w') : RowIs w' b n f :=
  ⟨fun k hk => by rw [hb.cell (cell_lt (h.row k hk))]; exact h.row k hk, fun k hk => by rw [hb.frozen (cell_lt (h.row k hk))]; exact h.fz k hk⟩
theorem rowIs_made {w w2 : World} {g n : Nat} {t : TypeId} {z : Value} {xs : List Value} (h : w2.ownsRow w.heap.size t 1 (.slice (some ⟨g, 0, none⟩) n n) n xs) (hx : ∀ i, i < n → xs[i]? = some z) : RowIs w2 g n (fun _ => z) := by
  obtain ⟨hl, hr⟩ := h
  rcases hr with ⟨hx, _⟩ | ⟨g', cap', cur, hv, hb, hh, _, _, hs, ht⟩
  · cases hx
  · obtain ⟨rfl, rfl⟩ : g = g' ∧ n = cap' := by simpa using hv
    refine ⟨fun i hi => ?_, fun i hi => ?_⟩
    · rw [← hx i hi, ← ht, List.getElem?_take_of_lt (by omega)]
      simp [World.cell?, hh]
    · simp [World.frozen?, hh]
theorem made_one (z : Value) (hz : z.cells = #[z]) (n i : Nat) (hi : i < n) : (madeCells z.cells (n * 1)).toList[i]? = some z := by
  simp [madeCells, hi, Nat.mod_one, hz]
theorem made_below {w w2 : World} (hg : w.grownBy w2 none) : Below w.heap.size w w2 := (Below.refl _ _).grown hg (Nat.le_refl _) (fun k hk => by cases hk)
theorem put_cell {W : World} {p : Addr} {x : Value} (y : Value) (h : W.cell? p = some x) (q : Addr) : (W.setCell p y).cell? q = if q = p then some y else W.cell? q := by
  split
  · rename_i e; subst e; exact World.cell?_setCell_same _ _ _ h
  · rename_i e; exact World.cell?_setCell_other _ _ _ _ (fun e' => e e'.symm)

/-- The first m of n rows are made, of C cells each. -/
structure GridB (w wr : World) (g n C m : Nat) (rb : Nat → Nat) (f : Nat → Nat → Value) : Prop where
  below : Below w.heap.size w wr
  hg : w.heap.size ≤ g
  outer : ∀ i, i < n → ∃ x, wr.cell? ⟨g, i, none⟩ = some x
  made : ∀ i, i < m → wr.cell? ⟨g, i, none⟩ = some (.slice (some ⟨rb i, 0, none⟩) C C)
  ofz : ∀ i, i < n → wr.frozen? ⟨g, i, none⟩ = false
  rge : ∀ i, i < m → w.heap.size ≤ rb i ∧ rb i ≠ g ∧ rb i < wr.heap.size
  inj : ∀ i j, i < m → j < m → rb i = rb j → i = j
  rows : ∀ i, i < m → RowIs wr (rb i) C (f i)
theorem GridB.later {w wr wn : World} {g n C m : Nat} {rb : Nat → Nat} {f : Nat → Nat → Value} (h : GridB w wr g n C m rb f) (hb : Below wr.heap.size wr wn) : GridB w wn g n C m rb f := by
  refine ⟨h.below.trans (hb.mono h.below.size), h.hg, fun i hi => ?_, fun i hi => ?_, fun i hi => ?_, fun i hi => ⟨(h.rge i hi).1, (h.rge i hi).2.1, Nat.lt_of_lt_of_le (h.rge i hi).2.2 hb.size⟩, h.inj, fun i hi => (h.rows i hi).later hb⟩
  · obtain ⟨x, hx⟩ := h.outer i hi
    exact ⟨x, by rw [hb.cell (cell_lt hx)]; exact hx⟩
  · rw [hb.cell (cell_lt (h.made i hi))]; exact h.made i hi
  · obtain ⟨x, hx⟩ := h.outer i hi
    rw [hb.frozen (cell_lt hx)]; exact h.ofz i hi
theorem gridB_start {w w2 : World} {g n C : Nat} {z : Value} (h : RowIs w2 g n (fun _ => z)) (hb : Below w.heap.size w w2) (hg : w.heap.size ≤ g) (rb : Nat → Nat) (f : Nat → Nat → Value) : GridB w w2 g n C 0 rb f :=
  ⟨hb, hg, fun i hi => ⟨z, h.row i hi⟩, fun i hi => by omega, fun i hi => h.fz i hi, fun i hi => by omega, fun i j hi => by omega, fun i hi => by omega⟩
/-- A row more. -/
theorem GridB.push {w wr w2 : World} {g n C m r : Nat} {rb : Nat → Nat} {f : Nat → Nat → Value} {z : Value} (h : GridB w wr g n C m rb f) (hm : m < n) (hb : Below wr.heap.size wr w2) (hr : wr.heap.size ≤ r) (hr2 : r < w2.heap.size) (hz : RowIs w2 r C (fun _ => z)) :
    GridB w (w2.setCell ⟨g, m, none⟩ (.slice (some ⟨r, 0, none⟩) C C)) g n C (m + 1) (fun i => if i = m then r else rb i) (fun i k => if i = m then z else f i k) := by
  have h2 := h.later hb
  obtain ⟨x, hx⟩ := h2.outer m hm
  obtain ⟨x0, hx0⟩ := h.outer m hm
  have hgl : g < wr.heap.size := cell_lt hx0
  have hgr : g ≠ r := by omega
  refine ⟨h2.below.setCell h.hg _, h.hg, fun i hi => ?_, fun i hi => ?_, fun i hi => ?_, fun i hi => ?_, fun i j hi hj e => ?_, fun i hi => ?_⟩
  · rw [put_cell _ hx]
    split
    · exact ⟨_, rfl⟩
    · exact h2.outer i hi
  · rw [put_cell _ hx]
    by_cases him : i = m
    · subst him; rw [if_pos rfl, if_pos rfl]
    · rw [if_neg (fun e => him (by simpa using congrArg Addr.off e)), if_neg him]
      exact h2.made i (by omega)
  · rw [World.frozen?_setCell]; exact h2.ofz i hi
  · by_cases him : i = m
    · subst him
      rw [if_pos rfl]
      have := h.below.size
      exact ⟨by omega, fun e => hgr e.symm, by simpa using hr2⟩
    · rw [if_neg him]; simpa using h2.rge i (by omega)
  · by_cases him : i = m
    · subst him
      by_cases hjm : j = i
      · exact hjm.symm
      · rw [if_pos rfl, if_neg hjm] at e
        have h5 := (h.rge j (by omega)).2.2
        omega
    · by_cases hjm : j = m
      · subst hjm
        rw [if_neg him, if_pos rfl] at e
        have h5 := (h.rge i (by omega)).2.2
        omega
      · rw [if_neg him, if_neg hjm] at e
        exact h.inj i j (by omega) (by omega) e
  · refine ⟨fun k hk => ?_, fun k hk => ?_⟩
    · rw [put_cell _ hx]
      by_cases him : i = m
      · subst him
        rw [if_pos rfl, if_pos rfl, if_neg (fun e => hgr (congrArg Addr.block e).symm)]
        exact hz.row k hk
      · rw [if_neg him, if_neg him, if_neg (fun e => (h.rge i (by omega)).2.1 (congrArg Addr.block e))]
        exact (h2.rows i (by omega)).row k hk
    · rw [World.frozen?_setCell]
      by_cases him : i = m
      · subst him; rw [if_pos rfl]; exact hz.fz k hk
      · rw [if_neg him]; exact (h2.rows i (by omega)).fz k hk
/-- A cell of a row is put. -/
theorem GridB.set {w wr : World} {g n C m : Nat} {rb : Nat → Nat} {f : Nat → Nat → Value} (h : GridB w wr g n C m rb f) {i k : Nat} (hi : i < m) (hk : k < C) (y : Value) {f' : Nat → Nat → Value} (hf : ∀ i' k', i' < m → k' < C → f' i' k' = if i' = i ∧ k' = k then y else f i' k') :
    GridB w (wr.setCell ⟨rb i, k, none⟩ y) g n C m rb f' := by
  have hx := (h.rows i hi).row k hk
  have hne := (h.rge i hi).2.1
  refine ⟨h.below.setCell (h.rge i hi).1 _, h.hg, fun j hj => ?_, fun j hj => ?_, fun j hj => ?_, fun j hj => by simpa using h.rge j hj, h.inj, fun j hj => ⟨fun c hc => ?_, fun c hc => ?_⟩⟩
  · rw [put_cell _ hx, if_neg (fun e => hne (congrArg Addr.block e).symm)]
    exact h.outer j hj
  · rw [put_cell _ hx, if_neg (fun e => hne (congrArg Addr.block e).symm)]
    exact h.made j hj
  · rw [World.frozen?_setCell]; exact h.ofz j hj
  · rw [put_cell _ hx, hf j c hj hc]
    by_cases hjc : j = i ∧ c = k
    · obtain ⟨rfl, rfl⟩ := hjc
      rw [if_pos rfl, if_pos ⟨rfl, rfl⟩]
    · rw [if_neg hjc, if_neg (fun e => hjc ⟨h.inj j i hj hi (congrArg Addr.block e), congrArg Addr.off e⟩)]
      exact (h.rows j hj).row c hc
  · rw [World.frozen?_setCell]; exact (h.rows j hj).fz c hc
theorem GridB.drewN {w wr : World} {g n C m : Nat} {rb : Nat → Nat} {f : Nat → Nat → Value} (h : GridB w wr g n C m rb f) : GridB w wr.drew g n C m rb f := h.later (Below.refl _ _).drew

/-- A table of cells, as one reads it. -/
def GridAt (w : World) (v : Value) (n C : Nat) (f : Nat → Nat → Value) : Prop := ∃ g o cap, v = .slice (some ⟨g, o, none⟩) n cap ∧ ∀ i, i < n → ∃ b o' cap', w.cell? ⟨g, o + i, none⟩ = some (.slice (some ⟨b, o', none⟩) C cap') ∧ ∀ k, k < C → w.cell? ⟨b, o' + k, none⟩ = some (f i k)
theorem GridAt.later {w w' : World} {v : Value} {n C : Nat} {f : Nat → Nat → Value} (h : GridAt w v n C f) (hb : Below w.heap.size w w') : GridAt w' v n C f := by
  obtain ⟨g, o, cap, hv, hr⟩ := h
  refine ⟨g, o, cap, hv, fun i hi => ?_⟩
  obtain ⟨b, o', cap', h1, h2⟩ := hr i hi
  exact ⟨b, o', cap', by rw [hb.cell (cell_lt h1)]; exact h1, fun k hk => by rw [hb.cell (cell_lt (h2 k hk))]; exact h2 k hk⟩
theorem GridAt.rowAt {w : World} {b o n C cap : Nat} {f : Nat → Nat → Value} (h : GridAt w (.slice (some ⟨b, o, none⟩) n cap) n C f) (i : Nat) (hi : i < n) : ∃ b1 o1 cap1, w.cell? ⟨b, o + i, none⟩ = some (.slice (some ⟨b1, o1, none⟩) C cap1) ∧ ∀ k, k < C → w.cell? ⟨b1, o1 + k, none⟩ = some (f i k) := by
  obtain ⟨b', o', cap', hv', hr'⟩ := h
  simp only [Value.slice.injEq, Option.some.injEq, Addr.mk.injEq, and_true, true_and] at hv'
  obtain ⟨⟨rfl, rfl⟩, rfl⟩ := hv'
  exact hr' i hi
theorem GridB.at {w wr : World} {g n C : Nat} {rb : Nat → Nat} {f : Nat → Nat → Value} (h : GridB w wr g n C n rb f) : GridAt wr (.slice (some ⟨g, 0, none⟩) n n) n C f :=
  ⟨g, 0, n, rfl, fun i hi => ⟨rb i, 0, C, by rw [Nat.zero_add]; exact h.made i hi, fun k hk => by rw [Nat.zero_add]; exact (h.rows i hi).row k hk⟩⟩
/-- The rows of a chain. -/
def RowsAt (w : World) (v : Value) (n : Nat) (zs : Nat → Nat → Int) : Prop := GridAt w v n n (fun i k => .int .i64 (zs i k))
theorem rowsAt_of_tab {w : World} {v : Value} {n : Nat} {vs : Nat → Value} {ns : Nat → Nat} {zs : Nat → Nat → Int} (h : TabAt w v n vs ns zs) (h0 : 0 < n) (he : ∀ i, i < n → ns i = n) : RowsAt w v n zs := by
  rcases h with ⟨_, _, _, h'⟩ | ⟨b, o, c, hv, _, hr⟩
  · omega
  · refine ⟨b, o, c, hv, fun i hi => ?_⟩
    obtain ⟨h1, h2⟩ := hr i hi
    rw [he i hi] at h2
    rcases h2 with ⟨_, _, _, h3⟩ | ⟨b1, o1, c1, hv1, _, hr1⟩
    · omega
    · exact ⟨b1, o1, c1, by rw [h1, hv1], hr1⟩
end Go.Proofs.YtlnhpkmcinohdaaDoor
