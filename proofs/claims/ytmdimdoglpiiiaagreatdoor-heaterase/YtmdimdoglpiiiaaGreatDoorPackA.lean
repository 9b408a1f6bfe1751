/- Tables in memory; all of a table's weights as one list. -/
import Derived.Test.YtmdimdoglpiiiaaGreatDoorCopy
import Derived.Test.YtmdimdoglpiiiaaGreatDoorLaysG
import Derived.BigQuiet
import Derived.Test.YtmdimdoglpiiiaaGreatDoorFills
import Derived.Test.YtmdimdoglpiiiaaGreatDoorHtMath
import Derived.Test.YtmdimdoglpiiiaaGreatDoorHtNat
import Derived.Test.YtmdimdoglpiiiaaGreatDoorLastOp
import Derived.Test.YtmdimdoglpiiiaaGreatDoorValidWalk
import Derived.Deep.CutRange
import Derived.Deep.RegionHeld3
import Derived.Test.YtmdimdoglpiiiaaGreatDoorNatPlus
namespace Go.Proofs.YtmdimdoglpiiiaaGreatDoor
open Go.RowKit

def TabAt (w : World) (v : Value) (R : Nat) (vs : Nat → Value) (ns : Nat → Nat) (zs : Nat → Nat → Int) : Prop := (∃ ad cap, v = .slice ad 0 cap ∧ R = 0) ∨ ∃ b o cap, v = .slice (some ⟨b, o, none⟩) R cap ∧ 0 < R ∧ ∀ i, i < R → w.cell? ⟨b, o + i, none⟩ = some (vs i) ∧ NumsAt w (vs i) (ns i) (zs i)
theorem TabAt.later {w w' : World} {v : Value} {R : Nat} {vs : Nat → Value} {ns : Nat → Nat} {zs : Nat → Nat → Int} (h : TabAt w v R vs ns zs) (hb : Below w.heap.size w w') : TabAt w' v R vs ns zs := by
  rcases h with h | ⟨b, o, cap, hv, hn, hr⟩
  · exact Or.inl h
  · exact Or.inr ⟨b, o, cap, hv, hn, fun i hi => ⟨by rw [hb.cell (cell_lt (hr i hi).1)]; exact (hr i hi).1, (hr i hi).2.later hb⟩⟩
theorem TabAt.form {w : World} {v : Value} {R : Nat} {vs : Nat → Value} {ns : Nat → Nat} {zs : Nat → Nat → Int} (h : TabAt w v R vs ns zs) : ∃ ad cap, v = .slice ad R cap := by
  rcases h with ⟨ad, cap, rfl, rfl⟩ | ⟨b, o, cap, rfl, _⟩
  · exact ⟨_, _, rfl⟩
  · exact ⟨_, _, rfl⟩
def rowL (z : Nat → Int) (n : Nat) : List Int := (List.range n).map z
/-- All weights of the first k rows. -/
def flatL (ns : Nat → Nat) (zs : Nat → Nat → Int) : Nat → List Int
  | 0 => []
  | k + 1 => flatL ns zs k ++ rowL (zs k) (ns k)
def cellL (l : List Int) : List Value := l.map fun x => .int .i64 x
theorem cellL_length (l : List Int) : (cellL l).length = l.length := by simp [cellL]
theorem cellL_append (l r : List Int) : cellL (l ++ r) = cellL l ++ cellL r := by simp [cellL]
theorem rowL_length (z : Nat → Int) (n : Nat) : (rowL z n).length = n := by simp [rowL]
theorem cellL_row (z : Nat → Int) : ∀ n, cellL (rowL z n) = numCells z n
  | 0 => rfl
  | n + 1 => by
    have ih := cellL_row z n
    unfold cellL rowL at ih ⊢
    rw [List.range_succ, List.map_append, List.map_append, ih]
    rfl
def sumT (ns : Nat → Nat) : Nat → Nat
  | 0 => 0
  | k + 1 => sumT ns k + ns k
theorem flatL_length (ns : Nat → Nat) (zs : Nat → Nat → Int) : ∀ k, (flatL ns zs k).length = sumT ns k
  | 0 => rfl
  | k + 1 => by
    show (flatL ns zs k ++ rowL (zs k) (ns k)).length = sumT ns k + ns k
    rw [List.length_append, flatL_length ns zs k, rowL_length]
theorem sumT_mono (ns : Nat → Nat) {k n : Nat} (h : k ≤ n) : sumT ns k ≤ sumT ns n := by
  induction n with
  | zero => obtain rfl : k = 0 := by omega
            exact Nat.le_refl _
  | succ n ih =>
    rcases Nat.lt_or_ge k (n + 1) with h' | h'
    · have := ih (by omega); show sumT ns k ≤ sumT ns n + ns n; omega
    · obtain rfl : k = n + 1 := by omega
      exact Nat.le_refl _
/-- A list as a row of numbers. -/
def atF (l : List Int) (i : Nat) : Int := l.getD i 0
theorem numCells_list : ∀ l : List Int, numCells (atF l) l.length = cellL l := fun l => by
  rw [← cellL_row]
  congr 1
  refine List.ext_getElem (by simp [rowL]) (fun i h1 h2 => ?_)
  simp [rowL, atF, List.getD, List.getElem?_eq_getElem h2]
theorem numsAt_row {w : World} {base : Nat} {v : Value} {l : List Int} (h : w.ownsRow base 3 1 v l.length (cellL l)) : NumsAt w v l.length (atF l) := by
  rcases h.2 with ⟨hv, h0⟩ | ⟨g, cap, cur, hv, _⟩
  · exact Or.inl ⟨none, 0, hv, h0⟩
  · rcases Nat.eq_zero_or_pos l.length with h0 | h0
    · exact Or.inl ⟨_, _, by rw [hv, h0], h0⟩
    · refine Or.inr ⟨g, 0, cap, hv, h0, ?_⟩
      subst hv
      rw [← numCells_list] at h
      exact rowAt_of_row h

theorem append_nothing (w : World) (ty : TypeId) (ao : Option Addr) (l c : Nat) (hl : l ≤ c) (ad : Option Addr) (cap : Nat) : (Builtin.append_ #[32, 32] ty #[.slice ao l c, .slice ad 0 cap]).run Tryz.prog w = .ok (.slice ao l c) w := by
  obtain ⟨i, hi, hi2⟩ := Option.map_eq_some_iff.1 Tryz.infoInt
  refine run_append_nothing w _ _ ty 3 i Tryz.underlying32 hi ao l c hl _ ?_
  cases ad with
  | none => exact Src.ofNil w Tryz.underlying32 cap
  | some a => exact Src.ofSlice w Tryz.underlying32 a 0 cap [] (by simp) (fun j u h => by simp at h) (fun u h => by simp at h)
theorem wpList_append_nothing {w : World} {ops : Array Oper} {rest : List Oper} {o : Oper} {a : Act} {Q : Exit → Act → World → Prop} (hgd : o.guard = none) (s x : Operand)
    (ho : o.op = .call { callee := .builtin .append, args := #[s, x], argTypes := #[32, 32] })
    (ao : Option Addr) (l c : Nat) (hl : l ≤ c) (ad : Option Addr) (cap : Nat) (hs : a.eval s = .slice ao l c) (hx : a.eval x = .slice ad 0 cap)
    (h : wpList Tryz.prog ops Q rest (a.put o.dst (.slice ao l c)) w) : wpList Tryz.prog ops Q (o :: rest) a w := by
  refine wpList_plain hgd fun K hK => ?_
  have hrun := append_nothing w o.type ao l c hl ad cap
  unfold Oper.wp
  simp [execOp, ho, resolve, invoke, builtin, hs, hx, hrun, Result.andThen]
  exact hK _ _ h
theorem row_shape {w : World} {base : Nat} {t : TypeId} {v : Value} {n : Nat} {xs : List Value} (h : w.ownsRow base t 1 v n xs) : ∃ ao c, v = .slice ao n c ∧ n ≤ c := by
  rcases h.2 with ⟨rfl, rfl⟩ | ⟨g, cap, cur, rfl, _, _, hc, _⟩
  · exact ⟨none, 0, rfl, Nat.le_refl _⟩
  · exact ⟨_, _, rfl, hc⟩
theorem below_grow {w wr w3 : World} {v : Value} {e : TypeId} {size n : Nat} {xs : List Value} (hB : Below w.heap.size w wr) (hR : wr.ownsRow w.heap.size e size v n xs) (hg : wr.grownBy w3 v.ownBlock) : Below w.heap.size w w3 :=
  hB.grown hg hB.size (fun k e => (hR.lt k e).1)

/-- Is a row longer than 16? Is one not as long as the first? -/
def longB (ns : Nat → Nat) : Nat → Bool
  | 0 => false
  | k + 1 => longB ns k || decide (16 < ns k)
def unevenB (ns : Nat → Nat) : Nat → Bool
  | 0 => false
  | k + 1 => unevenB ns k || !decide (ns k = ns 0)
theorem longB_mono {ns : Nat → Nat} {k n : Nat} (hk : k < n) (h : 16 < ns k) : longB ns n = true := by
  induction n with
  | zero => omega
  | succ n ih =>
    show (longB ns n || decide (16 < ns n)) = true
    rcases Nat.lt_or_ge k n with h' | h'
    · rw [ih h']; rfl
    · obtain rfl : k = n := by omega
      rw [decide_eq_true h, Bool.or_true]
theorem unevenB_mono {ns : Nat → Nat} {k n : Nat} (hk : k < n) (h : ns k ≠ ns 0) : unevenB ns n = true := by
  induction n with
  | zero => omega
  | succ n ih =>
    show (unevenB ns n || !decide (ns n = ns 0)) = true
    rcases Nat.lt_or_ge k n with h' | h'
    · rw [ih h']; rfl
    · obtain rfl : k = n := by omega
      rw [decide_eq_false h]; simp
/-- The number of a table's error, as the document says it. -/
def tabErr (R : Nat) (ns : Nat → Nat) (zs : Nat → Nat → Int) : Nat := if 16 < R then 2 else if longB ns R = true then 2 else if unevenB ns R = true then 3 else listErr (atF (flatL ns zs R)) (flatL ns zs R).length
end Go.Proofs.YtmdimdoglpiiiaaGreatDoor

/- Rows of their own that are made one by one and filled. -/
namespace Go.Proofs.YtmdimdoglpiiiaaGreatDoor
open Go.RowKit

/-- Cells of a row that is made. -/
structure RowIs (wr : World) (b n : Nat) (f : Nat → Value) : Prop where
  row : ∀ k, k < n → wr.cell? ⟨b, k, none⟩ = some (f k)
  fz : ∀ k, k < n → wr.frozen? ⟨b, k, none⟩ = false
theorem RowIs.later {w w' : World} {b n : Nat} {f : Nat → Value} (h : RowIs w b n f) (hb : Below w.heap.size w w') : RowIs w' b n f :=
  ⟨fun k hk => by rw [hb.cell (cell_lt (h.row k hk))]; exact h.row k hk, fun k hk => by rw [hb.frozen (cell_lt (h.row k hk))]; exact h.fz k hk⟩
theorem rowIs_made {w w2 : World} {g n : Nat} {t : TypeId} {z : Value} {xs : List Value} (h : w2.ownsRow w.heap.size t 1 (.slice (some ⟨g, 0, none⟩) n n) n xs) (hx : ∀ i, i < n → xs[i]? = some z) : RowIs w2 g n (fun _ => z) := by
  obtain ⟨hl, hr⟩ := h
  rcases hr with ⟨hx, _⟩ | ⟨g', cap', cur, hv, hb, hh, _, _, hs, ht⟩
  · cases hx
  · obtain ⟨rfl, rfl⟩ : g = g' ∧ n = cap' := by simpa using hv
    refine ⟨fun i hi => ?_, fun i hi => ?_⟩
    · rw [← hx i hi, ← ht, List.getElem?_take_of_lt (by omega)]
      simp [World.cell?, hh]
    · simp [World.frozen?, hh]
theorem made_one (z : Value) (hz : z.cells = #[z]) (n i : Nat) (hi : i < n) : (madeCells z.cells (n * 1)).toList[i]? = some z := by
  simp [madeCells, hi, Nat.mod_one, hz]
theorem made_below {w w2 : World} (hg : w.grownBy w2 none) : Below w.heap.size w w2 := (Below.refl _ _).grown hg (Nat.le_refl _) (fun k hk => by cases hk)
theorem put_cell {W : World} {p : Addr} {x : Value} (y : Value) (h : W.cell? p = some x) (q : Addr) : (W.setCell p y).cell? q = if q = p then some y else W.cell? q := by
  split
  · rename_i e; subst e; exact World.cell?_setCell_same _ _ _ h
  · rename_i e; exact World.cell?_setCell_other _ _ _ _ (fun e' => e e'.symm)

/-- The first m of n rows are made, of C cells each. -/
structure GridB (w wr : World) (g n C m : Nat) (rb : Nat → Nat) (f : Nat → Nat → Value) : Prop where
  below : Below w.heap.size w wr
  hg : w.heap.size ≤ g
  outer : ∀ i, i < n → ∃ x, wr.cell? ⟨g, i, none⟩ = some x
  made : ∀ i, i < m → wr.cell? ⟨g, i, none⟩ = some (.slice (some ⟨rb i, 0, none⟩) C C)
  ofz : ∀ i, i < n → wr.frozen? ⟨g, i, none⟩ = false
  rge : ∀ i, i < m → w.heap.size ≤ rb i ∧ rb i ≠ g ∧ rb i < wr.heap.size
  inj : ∀ i j, i < m → j < m → rb i = rb j → i = j
  rows : ∀ i, i < m → RowIs wr (rb i) C (f i)
theorem GridB.later {w wr wn : World} {g n C m : Nat} {rb : Nat → Nat} {f : Nat → Nat → Value} (h : GridB w wr g n C m rb f) (hb : Below wr.heap.size wr wn) : GridB w wn g n C m rb f := by
  refine ⟨h.below.trans (hb.mono h.below.size), h.hg, fun i hi => ?_, fun i hi => ?_, fun i hi => ?_, fun i hi => ⟨(h.rge i hi).1, (h.rge i hi).2.1, Nat.lt_of_lt_of_le (h.rge i hi).2.2 hb.size⟩, h.inj, fun i hi => (h.rows i hi).later hb⟩
  · obtain ⟨x, hx⟩ := h.outer i hi
    exact ⟨x, by rw [hb.cell (cell_lt hx)]; exact hx⟩
  · rw [hb.cell (cell_lt (h.made i hi))]; exact h.made i hi
  · obtain ⟨x, hx⟩ := h.outer i hi
    rw [hb.frozen (cell_lt hx)]; exact h.ofz i hi
theorem gridB_start {w w2 : World} {g n C : Nat} {z : Value} (h : RowIs w2 g n (fun _ => z)) (hb : Below w.heap.size w w2) (hg : w.heap.size ≤ g) (rb : Nat → Nat) (f : Nat → Nat → Value) : GridB w w2 g n C 0 rb f :=
  ⟨hb, hg, fun i hi => ⟨z, h.row i hi⟩, fun i hi => by omega, fun i hi => h.fz i hi, fun i hi => by omega, fun i j hi => by omega, fun i hi => by omega⟩
/-- A row more. -/
theorem GridB.push {w wr w2 : World} {g n C m r : Nat} {rb : Nat → Nat} {f : Nat → Nat → Value} {z : Value} (h : GridB w wr g n C m rb f) (hm : m < n) (hb : Below wr.heap.size wr w2) (hr : wr.heap.size ≤ r) (hr2 : r < w2.heap.size) (hz : RowIs w2 r C (fun _ => z)) :
    GridB w (w2.setCell ⟨g, m, none⟩ (.slice (some ⟨r, 0, none⟩) C C)) g n C (m + 1) (fun i => if i = m then r else rb i) (fun i k => if i = m then z else f i k) := by
  have h2 := h.later hb
  obtain ⟨x, hx⟩ := h2.outer m hm
  obtain ⟨x0, hx0⟩ := h.outer m hm
  have hgl : g < wr.heap.size := cell_lt hx0
  have hgr : g ≠ r := by omega
  refine ⟨h2.below.setCell h.hg _, h.hg, fun i hi => ?_, fun i hi => ?_, fun i hi => ?_, fun i hi => ?_, fun i j hi hj e => ?_, fun i hi => ?_⟩
  · rw [put_cell _ hx]
    split
    · exact ⟨_, rfl⟩
    · exact h2.outer i hi
  · rw [put_cell _ hx]
    by_cases him : i = m
    · subst him; rw [if_pos rfl, if_pos rfl]
    · rw [if_neg (fun e => him (by simpa using congrArg Addr.off e)), if_neg him]
      exact h2.made i (by omega)
  · rw [World.frozen?_setCell]; exact h2.ofz i hi
  · by_cases him : i = m
    · subst him
      rw [if_pos rfl]
      have := h.below.size
      exact ⟨by omega, fun e => hgr e.symm, by simpa using hr2⟩
    · rw [if_neg him]; simpa using h2.rge i (by omega)
  · by_cases him : i = m
    · subst him
      by_cases hjm : j = i
      · exact hjm.symm
      · rw [if_pos rfl, if_neg hjm] at e
        have h5 := (h.rge j (by omega)).2.2
        omega
    · by_cases hjm : j = m
      · subst hjm
        rw [if_neg him, if_pos rfl] at e
        have h5 := (h.rge i (by omega)).2.2
        omega
      · rw [if_neg him, if_neg hjm] at e
        exact h.inj i j (by omega) (by omega) e
  · refine ⟨fun k hk => ?_, fun k hk => ?_⟩
    · rw [put_cell _ hx]
      by_cases him : i = m
      · subst him
        rw [if_pos rfl, if_pos rfl, if_neg (fun e => hgr (congrArg Addr.block e).symm)]
        exact hz.row k hk
      · rw [if_neg him, if_neg him, if_neg (fun e => (h.rge i (by omega)).2.1 (congrArg Addr.block e))]
        exact (h2.rows i (by omega)).row k hk
    · rw [World.frozen?_setCell]
      by_cases him : i = m
      · subst him; rw [if_pos rfl]; exact hz.fz k hk
      · rw [if_neg him]; exact (h2.rows i (by omega)).fz k hk
/-- A cell of a row is put. -/
theorem GridB.set {w wr : World} {g n C m : Nat} {rb : Nat → Nat} {f : Nat → Nat → Value} (h : GridB w wr g n C m rb f) {i k : Nat} (hi : i < m) (hk : k < C) (y : Value) {f' : Nat → Nat → Value} (hf : ∀ i' k', i' < m → k' < C → f' i' k' = if i' = i ∧ k' = k then y else f i' k') :
    GridB w (wr.setCell ⟨rb i, k, none⟩ y) g n C m rb f' := by
  have hx := (h.rows i hi).row k hk
  have hne := (h.rge i hi).2.1
  refine ⟨h.below.setCell (h.rge i hi).1 _, h.hg, fun j hj => ?_, fun j hj => ?_, fun j hj => ?_, fun j hj => by simpa using h.rge j hj, h.inj, fun j hj => ⟨fun c hc => ?_, fun c hc => ?_⟩⟩
  · rw [put_cell _ hx, if_neg (fun e => hne (congrArg Addr.block e).symm)]
    exact h.outer j hj
  · rw [put_cell _ hx, if_neg (fun e => hne (congrArg Addr.block e).symm)]
    exact h.made j hj
  · rw [World.frozen?_setCell]; exact h.ofz j hj
  · rw [put_cell _ hx, hf j c hj hc]
    by_cases hjc : j = i ∧ c = k
    · obtain ⟨rfl, rfl⟩ := hjc
      rw [if_pos rfl, if_pos ⟨rfl, rfl⟩]
    · rw [if_neg hjc, if_neg (fun e => hjc ⟨h.inj j i hj hi (congrArg Addr.block e), congrArg Addr.off e⟩)]
      exact (h.rows j hj).row c hc
  · rw [World.frozen?_setCell]; exact (h.rows j hj).fz c hc
theorem GridB.drewN {w wr : World} {g n C m : Nat} {rb : Nat → Nat} {f : Nat → Nat → Value} (h : GridB w wr g n C m rb f) : GridB w wr.drew g n C m rb f := h.later (Below.refl _ _).drew

/-- A table of cells, as one reads it. -/
def GridAt (w : World) (v : Value) (n C : Nat) (f : Nat → Nat → Value) : Prop := ∃ g o cap, v = .slice (some ⟨g, o, none⟩) n cap ∧ ∀ i, i < n → ∃ b o' cap', w.cell? ⟨g, o + i, none⟩ = some (.slice (some ⟨b, o', none⟩) C cap') ∧ ∀ k, k < C → w.cell? ⟨b, o' + k, none⟩ = some (f i k)
theorem GridAt.later {w w' : World} {v : Value} {n C : Nat} {f : Nat → Nat → Value} (h : GridAt w v n C f) (hb : Below w.heap.size w w') : GridAt w' v n C f := by
  obtain ⟨g, o, cap, hv, hr⟩ := h
  refine ⟨g, o, cap, hv, fun i hi => ?_⟩
  obtain ⟨b, o', cap', h1, h2⟩ := hr i hi
  exact ⟨b, o', cap', by rw [hb.cell (cell_lt h1)]; exact h1, fun k hk => by rw [hb.cell (cell_lt (h2 k hk))]; exact h2 k hk⟩
theorem GridAt.rowAt {w : World} {b o n C cap : Nat} {f : Nat → Nat → Value} (h : GridAt w (.slice (some ⟨b, o, none⟩) n cap) n C f) (i : Nat) (hi : i < n) : ∃ b1 o1 cap1, w.cell? ⟨b, o + i, none⟩ = some (.slice (some ⟨b1, o1, none⟩) C cap1) ∧ ∀ k, k < C → w.cell? ⟨b1, o1 + k, none⟩ = some (f i k) := by
  obtain ⟨b', o', cap', hv', hr'⟩ := h
  simp only [Value.slice.injEq, Option.some.injEq, Addr.mk.injEq, and_true, true_and] at hv'
  obtain ⟨⟨rfl, rfl⟩, rfl⟩ := hv'
  exact hr' i hi
theorem GridB.at {w wr : World} {g n C : Nat} {rb : Nat → Nat} {f : Nat → Nat → Value} (h : GridB w wr g n C n rb f) : GridAt wr (.slice (some ⟨g, 0, none⟩) n n) n C f :=
  ⟨g, 0, n, rfl, fun i hi => ⟨rb i, 0, C, by rw [Nat.zero_add]; exact h.made i hi, fun k hk => by rw [Nat.zero_add]; exact (h.rows i hi).row k hk⟩⟩
/-- The rows of a chain. -/
def RowsAt (w : World) (v : Value) (n : Nat) (zs : Nat → Nat → Int) : Prop := GridAt w v n n (fun i k => .int .i64 (zs i k))
theorem rowsAt_of_tab {w : World} {v : Value} {n : Nat} {vs : Nat → Value} {ns : Nat → Nat} {zs : Nat → Nat → Int} (h : TabAt w v n vs ns zs) (h0 : 0 < n) (he : ∀ i, i < n → ns i = n) : RowsAt w v n zs := by
  rcases h with ⟨_, _, _, h'⟩ | ⟨b, o, c, hv, _, hr⟩
  · omega
  · refine ⟨b, o, c, hv, fun i hi => ?_⟩
    obtain ⟨h1, h2⟩ := hr i hi
    rw [he i hi] at h2
    rcases h2 with ⟨_, _, _, h3⟩ | ⟨b1, o1, c1, hv1, _, hr1⟩
    · omega
    · exact ⟨b1, o1, c1, by rw [h1, hv1], hr1⟩
end Go.Proofs.YtmdimdoglpiiiaaGreatDoor

/- heat.carried in memory: parts in a list, and their denominator, as they are filled. -/
namespace Go.Proofs.YtmdimdoglpiiiaaGreatDoor
open Go.RowKit

theorem Tryz.infoNt : (Tryz.prog.info? 94).map (fun i => (i.zero, i.size, i.bytes)) = some (some (.slice none 0 0), 1, 24) := by kernel_rfl
theorem natAt_nilH (w : World) : NatAt w (.slice none 0 0) 0 := ⟨[], fun i hi => by simp at hi, fun i hi => by simp at hi, rfl, Or.inl ⟨_, _, rfl, rfl⟩⟩
theorem NatOf_zeroH (w : World) : Calls Tryz.prog 39 #[.int .u64 0] w fun e w' => e = .returned (.slice none 0 0) ∧ w' = w := by
  go_enter Tryz.func39, Tryz.ntmps39
  go_wp2_with fail
  go_ret
  exact ⟨rfl, rfl⟩
/-- Parts in a list. -/
structure NtsAt (w : World) (g n : Nat) (F : Nat → Value) (X : Nat → Nat) : Prop where
  row : RowIs w g n F
  nat : ∀ k, k < n → NatAt w (F k) (X k)
theorem NtsAt.later {w w' : World} {g n : Nat} {F : Nat → Value} {X : Nat → Nat} (h : NtsAt w g n F X) (hb : Below w.heap.size w w') : NtsAt w' g n F X := ⟨h.row.later hb, fun k hk => (h.nat k hk).later hb⟩
theorem NtsAt.congr {w : World} {g n : Nat} {F : Nat → Value} {X Y : Nat → Nat} (h : NtsAt w g n F X) (e : ∀ k, k < n → X k = Y k) : NtsAt w g n F Y := ⟨h.row, fun k hk => by rw [← e k hk]; exact h.nat k hk⟩
theorem NtsAt.put {w : World} {g n k v : Nat} {F : Nat → Value} {X : Nat → Nat} {y : Value} (h : NtsAt w g n F X) (hk : k < n) (hy : NatAt w y v) : NtsAt (w.setCell ⟨g, k, none⟩ y) g n (fun j => if j = k then y else F j) (fun j => if j = k then v else X j) := by
  have hx := h.row.row k hk
  obtain ⟨ad, l, c, hs⟩ := (h.nat k hk).isSlice
  rw [hs] at hx
  refine ⟨⟨fun j hj => ?_, fun j hj => by rw [World.frozen?_setCell]; exact h.row.fz j hj⟩, fun j hj => ?_⟩
  · rw [cell_put _ hx]
    by_cases e : j = k
    · subst e; rw [if_pos rfl, if_pos rfl]
    · rw [if_neg (fun e' => e (congrArg Addr.off e')), if_neg e]; exact h.row.row j hj
  · by_cases e : j = k
    · rw [if_pos e, if_pos e]; exact hy.putS hx
    · rw [if_neg e, if_neg e]; exact (h.nat j hj).putS hx
theorem NtsAt.aside {w : World} {g n : Nat} {F : Nat → Value} {X : Nat → Nat} {p : Addr} {ad : Option Addr} {l c : Nat} {y : Value} (h : NtsAt w g n F X) (hp : w.cell? p = some (.slice ad l c)) (hne : p.block ≠ g) : NtsAt (w.setCell p y) g n F X :=
  ⟨⟨fun j hj => by rw [cell_put _ hp, if_neg (fun e => hne (congrArg Addr.block e).symm)]; exact h.row.row j hj, fun j hj => by rw [World.frozen?_setCell]; exact h.row.fz j hj⟩, fun j hj => (h.nat j hj).putS hp⟩
/-- A variable that holds parts and a denominator. -/
structure OvS (w1 wr : World) (B g n : Nat) (y : Value) (E : Nat) (F : Nat → Value) (X : Nat → Nat) : Prop where
  below : Below w1.heap.size w1 wr
  hB : w1.heap.size ≤ B
  hg : w1.heap.size ≤ g
  ne : B ≠ g
  c0 : wr.cell? ⟨B, 0, none⟩ = some (.slice (some ⟨g, 0, none⟩) n n)
  c1 : wr.cell? ⟨B, 1, none⟩ = some y
  f1 : wr.frozen? ⟨B, 1, none⟩ = false
  nd : NatAt wr y E
  nts : NtsAt wr g n F X
theorem OvS.later {w1 wr wn : World} {B g n : Nat} {y : Value} {E : Nat} {F : Nat → Value} {X : Nat → Nat} (h : OvS w1 wr B g n y E F X) (hb : Below wr.heap.size wr wn) : OvS w1 wn B g n y E F X :=
  ⟨below_chain h.below hb, h.hB, h.hg, h.ne, by rw [hb.cell (cell_lt h.c0)]; exact h.c0, by rw [hb.cell (cell_lt h.c1)]; exact h.c1, by rw [hb.frozen (show B < wr.heap.size from cell_lt h.c1)]; exact h.f1, h.nd.later hb, h.nts.later hb⟩
theorem OvS.congr {w1 wr : World} {B g n : Nat} {y : Value} {E : Nat} {F : Nat → Value} {X Y : Nat → Nat} (h : OvS w1 wr B g n y E F X) (e : ∀ k, k < n → X k = Y k) : OvS w1 wr B g n y E F Y := ⟨h.below, h.hB, h.hg, h.ne, h.c0, h.c1, h.f1, h.nd, h.nts.congr e⟩
theorem OvS.putD {w1 wr : World} {B g n : Nat} {y : Value} {E : Nat} {F : Nat → Value} {X : Nat → Nat} {x : Value} {v : Nat} (h : OvS w1 wr B g n y E F X) (hx : NatAt wr x v) : OvS w1 (wr.setCell ⟨B, 1, none⟩ x) B g n x v F X := by
  obtain ⟨ad, l, c, hs⟩ := h.nd.isSlice
  have hc := h.c1
  rw [hs] at hc
  exact ⟨h.below.setCell h.hB _, h.hB, h.hg, h.ne, by rw [cell_put _ hc, if_neg (by simp)]; exact h.c0, by rw [cell_put _ hc, if_pos rfl], by rw [World.frozen?_setCell]; exact h.f1, hx.putS hc, h.nts.aside hc h.ne⟩
theorem OvS.putP {w1 wr : World} {B g n k : Nat} {y : Value} {E : Nat} {F : Nat → Value} {X : Nat → Nat} {x : Value} {v : Nat} (h : OvS w1 wr B g n y E F X) (hk : k < n) (hx : NatAt wr x v) : OvS w1 (wr.setCell ⟨g, k, none⟩ x) B g n y E (fun j => if j = k then x else F j) (fun j => if j = k then v else X j) := by
  have hc := h.nts.row.row k hk
  obtain ⟨ad, l, c, hs⟩ := (h.nts.nat k hk).isSlice
  rw [hs] at hc
  exact ⟨h.below.setCell h.hg _, h.hB, h.hg, h.ne, by rw [cell_put _ hc, if_neg (fun e => h.ne (congrArg Addr.block e))]; exact h.c0, by rw [cell_put _ hc, if_neg (fun e => h.ne (congrArg Addr.block e))]; exact h.c1, by rw [World.frozen?_setCell]; exact h.f1, h.nd.putS hc, h.nts.put hk hx⟩
/-- A list that is made, then its variable; and the other way round. -/
theorem ovs_late {w1 w2 : World} {g n : Nat} {ya : Option Addr} {yl yc E : Nat} (hb : Below w1.heap.size w1 w2) (hg : w1.heap.size ≤ g) (hn : 0 < n) (hr : RowIs w2 g n (fun _ => .slice none 0 0)) (hd : NatAt w2 (.slice ya yl yc) E) :
    OvS w1 (w2.alloc (.cells #[.slice (some ⟨g, 0, none⟩) n n, .slice ya yl yc] 96)) w2.heap.size g n (.slice ya yl yc) E (fun _ => .slice none 0 0) (fun _ => 0) := by
  have hgl : g < w2.heap.size := cell_lt (hr.row 0 hn)
  have h9 : Below w2.heap.size w2 (w2.alloc (.cells #[.slice (some ⟨g, 0, none⟩) n n, .slice ya yl yc] 96)) := (Below.refl _ _).alloc (Nat.le_refl _) _
  exact ⟨below_chain hb h9, hb.size, hg, by omega, by simp, by simp, by simp, hd.later h9, hr.later h9, fun k _ => natAt_nilH _⟩
theorem ovs_soon {w1 W w2 : World} {g n : Nat} {ya : Option Addr} {yl yc E : Nat} {x0 x1 : Option Addr} {l0 l1 k0 k1 : Nat} (hW : W.heap.size = w1.heap.size + 1) (hbW : Below w1.heap.size w1 W) (hb : Below W.heap.size W w2) (hg : w1.heap.size + 1 ≤ g) (hr : RowIs w2 g n (fun _ => .slice none 0 0)) (hd : NatAt w1 (.slice ya yl yc) E)
    (c0 : W.cell? ⟨w1.heap.size, 0, none⟩ = some (.slice x0 l0 k0)) (c1 : W.cell? ⟨w1.heap.size, 1, none⟩ = some (.slice x1 l1 k1)) (f1 : W.frozen? ⟨w1.heap.size, 1, none⟩ = false) :
    OvS w1 ((w2.setCell ⟨w1.heap.size, 0, none⟩ (.slice (some ⟨g, 0, none⟩) n n)).setCell ⟨w1.heap.size, 1, none⟩ (.slice ya yl yc)) w1.heap.size g n (.slice ya yl yc) E (fun _ => .slice none 0 0) (fun _ => 0) := by
  have d0 : w2.cell? ⟨w1.heap.size, 0, none⟩ = some (.slice x0 l0 k0) := by rw [hb.cell (cell_lt c0)]; exact c0
  have d1 : w2.cell? ⟨w1.heap.size, 1, none⟩ = some (.slice x1 l1 k1) := by rw [hb.cell (cell_lt c1)]; exact c1
  have e1 : (w2.setCell ⟨w1.heap.size, 0, none⟩ (.slice (some ⟨g, 0, none⟩) n n)).cell? ⟨w1.heap.size, 1, none⟩ = some (.slice x1 l1 k1) := by rw [cell_put _ d0, if_neg (by simp)]; exact d1
  have hN : NtsAt w2 g n (fun _ => .slice none 0 0) (fun _ => 0) := ⟨hr, fun k _ => natAt_nilH _⟩
  refine ⟨((below_chain hbW hb).setCell (Nat.le_refl _) _).setCell (Nat.le_refl _) _, Nat.le_refl _, by omega, by omega, ?_, ?_, ?_, ?_, ?_⟩
  · rw [cell_put _ e1, if_neg (by simp), cell_put _ d0, if_pos rfl]
  · rw [cell_put _ e1, if_pos rfl]
  · rw [World.frozen?_setCell, World.frozen?_setCell, hb.frozen (show w1.heap.size < W.heap.size by omega)]; exact f1
  · exact ((hd.later (below_chain hbW hb)).putS d0).putS e1
  · exact (hN.aside d0 (by show w1.heap.size ≠ g; omega)).aside e1 (by show w1.heap.size ≠ g; omega)
theorem ovs_put {w1 Wf : World} {B g n : Nat} {ya : Option Addr} {yl yc E : Nat} {x0 x1 : Option Addr} {l0 l1 k0 k1 : Nat} (hb : Below w1.heap.size w1 Wf) (hB : w1.heap.size ≤ B) (hg : w1.heap.size ≤ g) (hne : B ≠ g) (hr : RowIs Wf g n (fun _ => .slice none 0 0)) (hd : NatAt Wf (.slice ya yl yc) E)
    (d0 : Wf.cell? ⟨B, 0, none⟩ = some (.slice x0 l0 k0)) (d1 : Wf.cell? ⟨B, 1, none⟩ = some (.slice x1 l1 k1)) (f1 : Wf.frozen? ⟨B, 1, none⟩ = false) :
    OvS w1 ((Wf.setCell ⟨B, 0, none⟩ (.slice (some ⟨g, 0, none⟩) n n)).setCell ⟨B, 1, none⟩ (.slice ya yl yc)) B g n (.slice ya yl yc) E (fun _ => .slice none 0 0) (fun _ => 0) := by
  have e1 : (Wf.setCell ⟨B, 0, none⟩ (.slice (some ⟨g, 0, none⟩) n n)).cell? ⟨B, 1, none⟩ = some (.slice x1 l1 k1) := by rw [cell_put _ d0, if_neg (by simp)]; exact d1
  have hN : NtsAt Wf g n (fun _ => .slice none 0 0) (fun _ => 0) := ⟨hr, fun k _ => natAt_nilH _⟩
  refine ⟨(hb.setCell hB _).setCell hB _, hB, hg, hne, ?_, ?_, ?_, ?_, ?_⟩
  · rw [cell_put _ e1, if_neg (by simp), cell_put _ d0, if_pos rfl]
  · rw [cell_put _ e1, if_pos rfl]
  · rw [World.frozen?_setCell, World.frozen?_setCell]; exact f1
  · exact (hd.putS d0).putS e1
  · exact (hN.aside d0 hne).aside e1 hne
theorem ovs_of {w1 w2 : World} {g n : Nat} {y : Value} {E : Nat} {F : Nat → Value} {X : Nat → Nat} (hb : Below w1.heap.size w1 w2) (hg : w1.heap.size ≤ g) (hn : 0 < n) (h : NtsAt w2 g n F X) (hd : NatAt w2 y E) :
    OvS w1 (w2.alloc (.cells #[.slice (some ⟨g, 0, none⟩) n n, y] 96)) w2.heap.size g n y E F X := by
  have hgl : g < w2.heap.size := cell_lt (h.row.row 0 hn)
  have h9 : Below w2.heap.size w2 (w2.alloc (.cells #[.slice (some ⟨g, 0, none⟩) n n, y] 96)) := (Below.refl _ _).alloc (Nat.le_refl _) _
  exact ⟨below_chain hb h9, hb.size, hg, by omega, by simp, by simp, by simp, hd.later h9, h.later h9⟩
/-- What is handed back: the same in another variable ahead of it. -/
theorem OvS.fin {w1 wr : World} {B g n R : Nat} {y : Value} {E : Nat} {F : Nat → Value} {X : Nat → Nat} (h : OvS w1 wr B g n y E F X) (hR : R < w1.heap.size) {x0 x1 : Option Addr} {l0 l1 k0 k1 : Nat} (c0 : wr.cell? ⟨R, 0, none⟩ = some (.slice x0 l0 k0)) (c1 : wr.cell? ⟨R, 1, none⟩ = some (.slice x1 l1 k1)) :
    NtsAt ((wr.setCell ⟨R, 0, none⟩ (.slice (some ⟨g, 0, none⟩) n n)).setCell ⟨R, 1, none⟩ y) g n F X ∧ NatAt ((wr.setCell ⟨R, 0, none⟩ (.slice (some ⟨g, 0, none⟩) n n)).setCell ⟨R, 1, none⟩ y) y E ∧ ((wr.setCell ⟨R, 0, none⟩ (.slice (some ⟨g, 0, none⟩) n n)).setCell ⟨R, 1, none⟩ y).cell? ⟨R, 0, none⟩ = some (.slice (some ⟨g, 0, none⟩) n n) ∧ ((wr.setCell ⟨R, 0, none⟩ (.slice (some ⟨g, 0, none⟩) n n)).setCell ⟨R, 1, none⟩ y).cell? ⟨R, 1, none⟩ = some y := by
  have e1 : (wr.setCell ⟨R, 0, none⟩ (.slice (some ⟨g, 0, none⟩) n n)).cell? ⟨R, 1, none⟩ = some (.slice x1 l1 k1) := by rw [cell_put _ c0, if_neg (by simp)]; exact c1
  have hne : R ≠ g := by have := h.hg; omega
  exact ⟨(h.nts.aside c0 hne).aside e1 hne, (h.nd.putS c0).putS e1, by rw [cell_put _ e1, if_neg (by simp), cell_put _ c0, if_pos rfl], by rw [cell_put _ e1, if_pos rfl]⟩
/-- times, also by 0. -/
theorem Times_byH (u : Value) (n m k : Nat) (w : World) (h : NatAt w u n) (hm : m < 18446744073709551616) (hk : n < 18446744073709551616 ^ k) (hk6 : k ≤ 1000000) :
    Calls Tryz.prog 54 #[u, .int .u64 (m : Int)] w fun e w' => ∃ v, e = .returned v ∧ NatAt w' v (n * m) ∧ Below w.heap.size w w' := by
  rcases Nat.eq_zero_or_pos m with rfl | h0
  · obtain ⟨ad, l, c, rfl⟩ := h.isSlice
    clear h hk
    go_enter Tryz.func54, Tryz.ntmps54
    go_wp2_with fail
    go_ret
    exact ⟨_, rfl, natAt_nilH _, Below.refl _ _⟩
  · exact Times_any u n m k w h h0 hm hk hk6
theorem NatOf_allH (n : Nat) (w : World) (h : n < 18446744073709551616) : Calls Tryz.prog 39 #[.int .u64 n] w fun e w' => ∃ v, e = .returned v ∧ NatAt w' v n ∧ Below w.heap.size w w' := by
  rcases Nat.eq_zero_or_pos n with rfl | h0
  · exact (NatOf_zeroH w).mono fun e w' ⟨he, hw⟩ => ⟨_, he, natAt_nilH _, by rw [hw]; exact Below.refl _ _⟩
  · exact NatOf_any n w h0 h
end Go.Proofs.YtmdimdoglpiiiaaGreatDoor

/- (heat.carried).over: each part over a number of its own. -/
namespace Go.Proofs.YtmdimdoglpiiiaaGreatDoor
open Go.RowKit

set_option maxRecDepth 100000 in
set_option maxHeartbeats 16000000 in
theorem over_any (n g : Nat) (F : Nat → Value) (P : Nat → Nat) (dv : Value) (D : Nat) (b o cap : Nat) (u : Nat → Nat) (w : World) (hN : NtsAt w g n F P) (hD : NatAt w dv D) (hu : RowAt w b o n (fun i => (u i : Int))) (h0 : 0 < n) (hn : n ≤ 4) (hub : ∀ i, i < n → u i ≤ 4096) (hPB : ∀ i, i < n → ∀ k, k ≤ n → P i * prdX u i k < 18446744073709551616 ^ 12) (hDB : ∀ k, k ≤ n → D * prdU u k < 18446744073709551616 ^ 12) :
    Calls Tryz.prog 71 #[.agg #[.slice (some ⟨g, 0, none⟩) n n, dv], .slice (some ⟨b, o, none⟩) n cap] w fun e w' => ∃ g' y, e = .returned (.agg #[.slice (some ⟨g', 0, none⟩) n n, y]) ∧ (∃ F', NtsAt w' g' n F' (fun i => P i * prdX u i n)) ∧ NatAt w' y (D * prdU u n) ∧ w.heap.size ≤ g' ∧ Below w.heap.size w w' := by
  obtain ⟨da, dl, dc, rfl⟩ := hD.isSlice
  obtain ⟨i0, hi, hz0, hz1, hz2⟩ := info_parts Tryz.infoNt
  have HINF : Hid (Tryz.prog.info? 94 = some i0 ∧ i0.zero = some (.slice none 0 0) ∧ i0.size = 1 ∧ i0.bytes = 24) := ⟨hi, hz0, hz1, hz2⟩
  clear hi hz0 hz1 hz2
  obtain ⟨w1, hw1⟩ : ∃ w1, w1 = (w.alloc (.cells #[.slice (some ⟨g, 0, none⟩) n n, .slice da dl dc] 96)).alloc (.cells #[.slice none 0 0, .slice none 0 0] 96) := ⟨_, rfl⟩
  have hb1 : Below w.heap.size w w1 := by rw [hw1]; exact ((Below.refl _ _).alloc (Nat.le_refl _) _).alloc (by simp) _
  have c0 : w1.cell? ⟨w.heap.size, 0, none⟩ = some (.slice (some ⟨g, 0, none⟩) n n) := by rw [hw1, World.cell?_alloc_lt _ _ ⟨w.heap.size, 0, none⟩ (by simp), World.cell?_alloc_at _ _ _ _ rfl]; rfl
  have c1 : w1.cell? ⟨w.heap.size, 1, none⟩ = some (.slice da dl dc) := by rw [hw1, World.cell?_alloc_lt _ _ ⟨w.heap.size, 1, none⟩ (by simp), World.cell?_alloc_at _ _ _ _ rfl]; rfl
  have c2 : w1.cell? ⟨w.heap.size + 1, 0, none⟩ = some (.slice none 0 0) := by rw [hw1, World.cell?_alloc_at _ _ _ _ (by simp)]; rfl
  have c3 : w1.cell? ⟨w.heap.size + 1, 1, none⟩ = some (.slice none 0 0) := by rw [hw1, World.cell?_alloc_at _ _ _ _ (by simp)]; rfl
  have c4 : w1.frozen? ⟨w.heap.size + 1, 0, none⟩ = false := by rw [hw1]; exact frozen_new (by simp)
  have c5 : w1.frozen? ⟨w.heap.size + 1, 1, none⟩ = false := by rw [hw1]; exact frozen_new (by simp)
  have hsz : w.heap.size + 1 < w1.heap.size := by rw [hw1]; simp
  have HSZ := Hid.mk' hsz
  have HC : Hid (∀ W, Below w1.heap.size w1 W → (W.cell? ⟨w.heap.size, 0, none⟩ = some (.slice (some ⟨g, 0, none⟩) n n) ∧ W.cell? ⟨w.heap.size, 1, none⟩ = some (.slice da dl dc)) ∧ (W.cell? ⟨w.heap.size + 1, 0, none⟩ = some (.slice none 0 0) ∧ W.cell? ⟨w.heap.size + 1, 1, none⟩ = some (.slice none 0 0)) ∧ W.frozen? ⟨w.heap.size + 1, 0, none⟩ = false ∧ W.frozen? ⟨w.heap.size + 1, 1, none⟩ = false) := fun W hb => ⟨⟨by rw [hb.cell (cell_lt c0)]; exact c0, by rw [hb.cell (cell_lt c1)]; exact c1⟩, ⟨by rw [hb.cell (cell_lt c2)]; exact c2, by rw [hb.cell (cell_lt c3)]; exact c3⟩, by rw [hb.frozen (show w.heap.size + 1 < w1.heap.size from hsz)]; exact c4, by rw [hb.frozen (show w.heap.size + 1 < w1.heap.size from hsz)]; exact c5⟩
  have HEND : Hid (∀ W, Below w1.heap.size w1 W → Below w.heap.size w W) := fun W hb => hb1.trans (hb.mono hb1.size)
  have HW1 := Hid.mk' hw1
  have HNT : Hid (∀ W, Below w1.heap.size w1 W → NtsAt W g n F P ∧ NatAt W (.slice da dl dc) D ∧ RowAt W b o n (fun i => (u i : Int))) := fun W hb => ⟨hN.later (HEND.out W hb), hD.later (HEND.out W hb), hu.later (HEND.out W hb)⟩
  have HUB := Hid.mk' hub
  have HPB := Hid.mk' hPB
  have HDB := Hid.mk' hDB
  have hnI : (n : Int) ≤ 4 := by omega
  have hn0I : (0 : Int) < (n : Int) := by omega
  clear hN hD hu hub hPB hDB hw1 hb1 hsz
  go_enter Tryz.func71, Tryz.ntmps71
  go_upto_region 1 with fail
  rw [← HW1.out]
  clear c0 c1 c2 c3 c4 c5
  obtain ⟨XB, hXB⟩ : ∃ XB, XB = Obj.cells #[.slice none 0 0, .slice none 0 0] 96 := ⟨_, rfl⟩
  obtain ⟨mA, hmA, homA, hgmA⟩ := run_make_full (P := Tryz.prog) (w1.drew) (w1.drew).heap.size 92 94 i0 _ 1 Tryz.underlying92 HINF.out.1 HINF.out.2.1 HINF.out.2.2.1 .i64 .i64 n (by rw [HINF.out.2.2.2]; omega) (by unfold maxLen; omega) (Nat.le_refl _)
  have HRmA : Hid (RowIs mA (w1.drew).heap.size n (fun _ => .slice none 0 0)) := rowIs_made homA (made_one (.slice none 0 0) rfl n)
  have HMmA : Hid (Below (w1.drew).heap.size (w1.drew) mA) := made_below hgmA
  clear homA hgmA
  obtain ⟨mB, hmB, homB, hgmB⟩ := run_make_full (P := Tryz.prog) ((w1.alloc (.cells #[.slice none 0 0, .slice none 0 0] 96)).drew) ((w1.alloc (.cells #[.slice none 0 0, .slice none 0 0] 96)).drew).heap.size 92 94 i0 _ 1 Tryz.underlying92 HINF.out.1 HINF.out.2.1 HINF.out.2.2.1 .i64 .i64 n (by rw [HINF.out.2.2.2]; omega) (by unfold maxLen; omega) (Nat.le_refl _)
  have HRmB : Hid (RowIs mB ((w1.alloc (.cells #[.slice none 0 0, .slice none 0 0] 96)).drew).heap.size n (fun _ => .slice none 0 0)) := rowIs_made homB (made_one (.slice none 0 0) rfl n)
  have HMmB : Hid (Below ((w1.alloc (.cells #[.slice none 0 0, .slice none 0 0] 96)).drew).heap.size ((w1.alloc (.cells #[.slice none 0 0, .slice none 0 0] 96)).drew) mB) := made_below hgmB
  clear homB hgmB
  have hcA : Below w1.heap.size w1 w1.drew := (Below.refl _ _).drew
  have hcB : Below w1.heap.size w1 (w1.alloc (.cells #[.slice none 0 0, .slice none 0 0] 96)).drew := ((Below.refl _ _).alloc (Nat.le_refl _) _).drew
  have HBA : Hid (Below w1.heap.size w1 mA) := below_chain hcA HMmA.out
  have HBB : Hid (Below w1.heap.size w1 mB) := below_chain hcB HMmB.out
  have hzB : (w1.alloc (.cells #[.slice none 0 0, .slice none 0 0] 96)).drew.heap.size = w1.heap.size + 1 := by simp
  have HZB := Hid.mk' hzB
  clear hzB hXB XB
  have kB0 : (w1.alloc (.cells #[.slice none 0 0, .slice none 0 0] 96)).drew.cell? ⟨w1.heap.size, 0, none⟩ = some (.slice none 0 0) := by show (w1.alloc (.cells #[.slice none 0 0, .slice none 0 0] 96)).cell? _ = _; simp
  have kB1 : (w1.alloc (.cells #[.slice none 0 0, .slice none 0 0] 96)).drew.cell? ⟨w1.heap.size, 1, none⟩ = some (.slice none 0 0) := by show (w1.alloc (.cells #[.slice none 0 0, .slice none 0 0] 96)).cell? _ = _; simp
  have kF0 : (w1.alloc (.cells #[.slice none 0 0, .slice none 0 0] 96)).drew.frozen? ⟨w1.heap.size, 0, none⟩ = false := by show (w1.alloc (.cells #[.slice none 0 0, .slice none 0 0] 96)).frozen? _ = _; simp
  have kF1 : (w1.alloc (.cells #[.slice none 0 0, .slice none 0 0] 96)).drew.frozen? ⟨w1.heap.size, 1, none⟩ = false := by show (w1.alloc (.cells #[.slice none 0 0, .slice none 0 0] 96)).frozen? _ = _; simp
  have mB0 : mB.cell? ⟨w1.heap.size, 0, none⟩ = some (.slice none 0 0) := by rw [HMmB.out.cell (cell_lt kB0)]; exact kB0
  have mB1 : mB.cell? ⟨w1.heap.size, 1, none⟩ = some (.slice none 0 0) := by rw [HMmB.out.cell (cell_lt kB1)]; exact kB1
  have mF0 : mB.frozen? ⟨w1.heap.size, 0, none⟩ = false := by rw [HMmB.out.frozen (cell_lt kB0)]; exact kF0
  have mF1 : mB.frozen? ⟨w1.heap.size, 1, none⟩ = false := by rw [HMmB.out.frozen (cell_lt kB1)]; exact kF1
  have HSO : Hid (OvS w1 ((mB.setCell ⟨w1.heap.size, 0, none⟩ (.slice (some ⟨w1.heap.size + 1, 0, none⟩) n n)).setCell ⟨w1.heap.size, 1, none⟩ (.slice da dl dc)) w1.heap.size (w1.heap.size + 1) n (.slice da dl dc) D (fun _ => .slice none 0 0) (fun _ => 0)) := ovs_soon HZB.out hcB HMmB.out (Nat.le_refl _) (by have := HRmB.out; rw [HZB.out] at this; exact this) (HNT.out w1 (Below.refl _ _)).2.1 kB0 kB1 kF1
  have HLA : Hid (OvS w1 (mA.alloc (.cells #[.slice (some ⟨w1.heap.size, 0, none⟩) n n, (.slice da dl dc)] 96)) mA.heap.size w1.heap.size n (.slice da dl dc) D (fun _ => .slice none 0 0) (fun _ => 0)) := ovs_late HBA.out (Nat.le_refl _) (by omega) HRmA.out (((HNT.out w1 (Below.refl _ _)).2.1).later HBA.out)
  clear kB0 kB1 kF0 kF1 HRmA HRmB HMmA HMmB
  have HKS : Hid (∀ W, Below w1.heap.size w1 W → W.cell? ⟨w.heap.size, 1, none⟩ = some (.slice da dl dc)) := fun W hb => (HC.out W hb).1.2
  go_cut [5] from 8 (fun s wx => ∃ B g' : Nat, s = .pointer (some ⟨B, 0, none⟩) ∧ Hid (OvS w1 wx B g' n (.slice da dl dc) D (fun _ => .slice none 0 0) (fun _ => 0)))
  case first =>
    go_region_held3 (fun W => W.cell? ⟨w.heap.size, 1, none⟩ = some (.slice da dl dc))
      (first | exact HKS.out _ hcA | exact HKS.out _ hcB | exact HKS.out _ HBA.out | exact HKS.out _ HBB.out | exact HKS.out _ (HLA.out.below) | exact HKS.out _ (HSO.out.below) | exact HKS.out _ (Below.refl _ _) | exact HKS.out _ (HBA.out.alloc HBA.out.size _))
      (fail)
    all_goals
      go_wp2_with fail
      go_meet
      first | exact ⟨_, _, rfl, HLA⟩ | exact ⟨_, _, rfl, HSO⟩
  case rest =>
  obtain ⟨B, g1, rfl, HOV⟩ := hcut
  clear hmA hmB HBA HBB HSO HLA mB0 mB1 mF0 mF1 hcA hcB HKS
  have HOV0 : Hid (OvS w1 wc B g1 n (.slice da dl dc) (D * prdU u 0) (fun _ => .slice none 0 0) (fun j => if j < 0 then P j * prdX u j n else 0)) := by
    have := HOV.out.congr (Y := fun j => if j < 0 then P j * prdX u j n else 0) (fun k _ => by rw [if_neg (by omega)])
    rw [show D * prdU u 0 = D by simp [prdU]]
    exact this
  clear HOV
  go_wp2_with fail
  go_loopw [16] (fun t wr => ∃ (i : Nat) (ya : Option Addr) (yl yc : Nat) (F1 : Nat → Value), i ≤ n ∧ t = .int .i64 i ∧ Hid (OvS w1 wr B g1 n (.slice ya yl yc) (D * prdU u i) F1 (fun j => if j < i then P j * prdX u j n else 0))) (fun t _ => n - (intOf t).toNat)
  case atStart => exact ⟨0, da, dl, dc, _, Nat.zero_le _, rfl, HOV0⟩
  case round =>
    clear HOV0
    obtain ⟨i, ya, yl, yc, F1, hi, rfl, HOV⟩ := hrel
    rcases Nat.lt_or_ge i n with h1 | h1
    · have hiI : (i : Int) < (n : Int) := by omega
      have hi0 : (0 : Int) ≤ (i : Int) := by omega
      have hub := HUB.out i h1
      have hwx : IntKind.u64.wrap ((u i : Nat) : Int) = ((u i : Nat) : Int) := by rw [IntKind.wrap_u64]; exact Int.emod_eq_of_lt (by omega) (by omega)
      have HTI : Hid (∀ W, Below wr.heap.size wr W → Calls Tryz.prog 54 #[.slice ya yl yc, .int .u64 ((u i : Nat) : Int)] W fun e w' => ∃ v, e = .returned v ∧ NatAt w' v (D * prdU u (i + 1)) ∧ Below W.heap.size W w') := fun W hb => by
        have := Times_byH (.slice ya yl yc) (D * prdU u i) (u i) 12 W (HOV.out.nd.later hb) (by omega) (HDB.out i hi) (by decide)
        rw [Nat.mul_assoc] at this
        exact this
      have HKS : Hid (∀ W, Below wr.heap.size wr W → W.cell? ⟨B, 1, none⟩ = some (.slice ya yl yc) ∧ W.cell? ⟨b, o + i, none⟩ = some (.int .i64 ((u i : Nat) : Int))) := fun W hb => ⟨(HOV.out.later hb).c1, (HNT.out W (HOV.out.later hb).below).2.2 i h1⟩
      have hcur : Below wr.heap.size wr wr.drew := (Below.refl _ _).drew
      go_upto_region 5 with fail
      refine region_but_last (n := 9) (S := fun W => W.cell? ⟨B, 1, none⟩ = some (.slice ya yl yc) ∧ W.cell? ⟨b, o + i, none⟩ = some (.int .i64 ((u i : Nat) : Int))) (by kernel_rfl) (by kernel_rfl) (by kernel_rfl) (HKS.out _ hcur) (fun hHeld => ?_)
      refine wpAnyH_take (i := 0) (v := ?v0a) rfl (by kernel_rfl) (by kernel_rfl) (by kernel_rfl) (fun _ _ _ h => h) (Or.inl ⟨by rfl, ?hy0a⟩) (by assumption) ?rest0a
      case hy0a => (intro w hSw; (try dsimp only at hSw); go_simp <;> (try with_reducible rfl))
      simp only [Act.put]
      refine wpAnyH_take (i := 1) (v := ?v1a) rfl (by kernel_rfl) (by kernel_rfl) (by kernel_rfl) (fun _ _ _ h => h) (Or.inl ⟨by rfl, ?hy1a⟩) (by assumption) ?rest1a
      case hy1a => (intro w hSw; (try dsimp only at hSw); go_simp <;> (try with_reducible rfl))
      simp only [Act.put]
      refine wpAnyH_take (i := 2) (v := ?v2a) rfl (by kernel_rfl) (by kernel_rfl) (by kernel_rfl) (fun _ _ _ h => h) (Or.inl ⟨by rfl, ?hy2a⟩) (by assumption) ?rest2a
      case hy2a => (intro w hSw; (try dsimp only at hSw); go_simp <;> (try with_reducible rfl))
      simp only [Act.put]
      refine wpAnyH_take (i := 3) (v := ?v3a) rfl (by kernel_rfl) (by kernel_rfl) (by kernel_rfl) (fun _ _ _ h => h) (Or.inl ⟨by rfl, ?hy3a⟩) (by assumption) ?rest3a
      case hy3a => (intro w hSw; (try dsimp only at hSw); go_simp <;> (try with_reducible rfl))
      simp only [Act.put]
      refine wpAnyH_take (i := 4) (v := ?v4a) rfl (by kernel_rfl) (by kernel_rfl) (by kernel_rfl) (fun _ _ _ h => h) (Or.inl ⟨by rfl, ?hy4a⟩) (by assumption) ?rest4a
      case hy4a => (intro w hSw; (try dsimp only at hSw); go_simp <;> (try with_reducible rfl))
      simp only [Act.put]
      refine wpAnyH_take (i := 5) (v := ?v5a) rfl (by kernel_rfl) (by kernel_rfl) (by kernel_rfl) (fun _ _ _ h => h) (Or.inl ⟨by rfl, ?hy5a⟩) (by assumption) ?rest5a
      case hy5a => (intro w hSw; (try dsimp only at hSw); go_simp <;> (try with_reducible rfl))
      simp only [Act.put]
      refine wpAnyH_take (i := 6) (v := ?v6a) rfl (by kernel_rfl) (by kernel_rfl) (by kernel_rfl) (fun _ _ _ h => h) (Or.inl ⟨by rfl, ?hy6a⟩) (by assumption) ?rest6a
      case hy6a => (intro w hSw; (try dsimp only at hSw); go_simp <;> (try with_reducible rfl))
      simp only [Act.put]
      refine wpAnyH_ready (rs := [7]) (by kernel_rfl) (by simp) ?_
      refine AllReadyH.cons rfl (fun K hK => ?_) AllReadyH.nil
      go_simp
      refine (HTI.out _ hcur).mono ?_
      rintro e w5 ⟨rv, rfl, hrv, hb5⟩
      obtain ⟨ra, rl, rc, rfl⟩ := hrv.isSlice
      have hcur := below_chain hcur hb5
      have z1 := (HOV.out.later hcur).c1
      have z2 := (HOV.out.later hcur).f1
      have HO5 := Hid.mk' ((HOV.out.later hcur).putD hrv)
      clear hrv hb5
      go_wp2_with fail
      refine hK.out _ _ ?_ (fun hHeld => ?_)
      · exact HKS.out _ hcur
      clear hK K
      refine wpAnyH_take (i := 8) (v := ?v8a) rfl (by kernel_rfl) (by kernel_rfl) (by kernel_rfl) (fun _ _ _ h => h) (Or.inl ⟨by rfl, ?hy8a⟩) (by assumption) ?rest8a
      case hy8a => (intro w hSw; (try dsimp only at hSw); go_simp <;> (try with_reducible rfl))
      simp only [Act.put]
      refine wpAnyH_done (by kernel_rfl) ?_ _
      refine ahead_last rfl (fun K hK => ?_)
      go_simp
      refine hK _ _ ?_
      clear hK K
      clear HTI HKS z1 z2 hHeld HOV hcur
      obtain ⟨W5, hW5⟩ : ∃ W5, W5 = w5.setCell ⟨B, 1, none⟩ (.slice ra rl rc) := ⟨_, rfl⟩
      rw [← hW5] at HO5 ⊢
      clear hW5
      have HKS : Hid (∀ W, Below W5.heap.size W5 W → W.cell? ⟨B, 0, none⟩ = some (.slice (some ⟨g1, 0, none⟩) n n) ∧ W.cell? ⟨w.heap.size, 0, none⟩ = some (.slice (some ⟨g, 0, none⟩) n n) ∧ W.cell? ⟨g, i, none⟩ = some (F i)) := fun W hb => ⟨(HO5.out.later hb).c0, (HC.out W (HO5.out.later hb).below).1.1, (HNT.out W (HO5.out.later hb).below).1.row.row i h1⟩
      have hcur : Below W5.heap.size W5 W5.drew := (Below.refl _ _).drew
      obtain ⟨fa, fl, fc, hfe⟩ := ((HNT.out W5 HO5.out.below).1.nat i h1).isSlice
      have HFN := Hid.mk' ((HNT.out W5 HO5.out.below).1.nat i h1)
      rw [hfe] at HKS HFN
      have z3 := (HO5.out.later hcur).nts.row.row i h1
      obtain ⟨qa, ql, qc, hqe⟩ := ((HO5.out.later hcur).nts.nat i h1).isSlice
      rw [hqe] at z3
      have z4 := (HO5.out.later hcur).nts.row.fz i h1
      have HO6 := Hid.mk' ((HO5.out.putP h1 HFN.out).later (Below.refl _ _).drew)
      clear hfe hqe HFN
      go_upto_region 6 with fail
      refine region_but_last (n := 9) (S := fun W => W.cell? ⟨B, 0, none⟩ = some (.slice (some ⟨g1, 0, none⟩) n n) ∧ W.cell? ⟨w.heap.size, 0, none⟩ = some (.slice (some ⟨g, 0, none⟩) n n) ∧ W.cell? ⟨g, i, none⟩ = some (.slice fa fl fc)) (by kernel_rfl) (by kernel_rfl) (by kernel_rfl) (HKS.out _ hcur) (fun hHeld => ?_)
      refine wpAnyH_take (i := 0) (v := ?v0b) rfl (by kernel_rfl) (by kernel_rfl) (by kernel_rfl) (fun _ _ _ h => h) (Or.inl ⟨by rfl, ?hy0b⟩) (by assumption) ?rest0b
      case hy0b => (intro w hSw; (try dsimp only at hSw); go_simp <;> (try with_reducible rfl))
      simp only [Act.put]
      refine wpAnyH_take (i := 1) (v := ?v1b) rfl (by kernel_rfl) (by kernel_rfl) (by kernel_rfl) (fun _ _ _ h => h) (Or.inl ⟨by rfl, ?hy1b⟩) (by assumption) ?rest1b
      case hy1b => (intro w hSw; (try dsimp only at hSw); go_simp <;> (try with_reducible rfl))
      simp only [Act.put]
      refine wpAnyH_take (i := 2) (v := ?v2b) rfl (by kernel_rfl) (by kernel_rfl) (by kernel_rfl) (fun _ _ _ h => h) (Or.inl ⟨by rfl, ?hy2b⟩) (by assumption) ?rest2b
      case hy2b => (intro w hSw; (try dsimp only at hSw); go_simp <;> (try with_reducible rfl))
      simp only [Act.put]
      refine wpAnyH_take (i := 3) (v := ?v3b) rfl (by kernel_rfl) (by kernel_rfl) (by kernel_rfl) (fun _ _ _ h => h) (Or.inl ⟨by rfl, ?hy3b⟩) (by assumption) ?rest3b
      case hy3b => (intro w hSw; (try dsimp only at hSw); go_simp <;> (try with_reducible rfl))
      simp only [Act.put]
      refine wpAnyH_take (i := 4) (v := ?v4b) rfl (by kernel_rfl) (by kernel_rfl) (by kernel_rfl) (fun _ _ _ h => h) (Or.inl ⟨by rfl, ?hy4b⟩) (by assumption) ?rest4b
      case hy4b => (intro w hSw; (try dsimp only at hSw); go_simp <;> (try with_reducible rfl))
      simp only [Act.put]
      refine wpAnyH_take (i := 5) (v := ?v5b) rfl (by kernel_rfl) (by kernel_rfl) (by kernel_rfl) (fun _ _ _ h => h) (Or.inl ⟨by rfl, ?hy5b⟩) (by assumption) ?rest5b
      case hy5b => (intro w hSw; (try dsimp only at hSw); go_simp <;> (try with_reducible rfl))
      simp only [Act.put]
      refine wpAnyH_take (i := 6) (v := ?v6b) rfl (by kernel_rfl) (by kernel_rfl) (by kernel_rfl) (fun _ _ _ h => h) (Or.inl ⟨by rfl, ?hy6b⟩) (by assumption) ?rest6b
      case hy6b => (intro w hSw; (try dsimp only at hSw); go_simp <;> (try with_reducible rfl))
      simp only [Act.put]
      refine wpAnyH_take (i := 7) (v := ?v7b) rfl (by kernel_rfl) (by kernel_rfl) (by kernel_rfl) (fun _ _ _ h => h) (Or.inl ⟨by rfl, ?hy7b⟩) (by assumption) ?rest7b
      case hy7b => (intro w hSw; (try dsimp only at hSw); go_simp <;> (try with_reducible rfl))
      simp only [Act.put]
      refine wpAnyH_take (i := 8) (v := ?v8b) rfl (by kernel_rfl) (by kernel_rfl) (by kernel_rfl) (fun _ _ _ h => h) (Or.inl ⟨by rfl, ?hy8b⟩) (by assumption) ?rest8b
      case hy8b => (intro w hSw; (try dsimp only at hSw); go_simp <;> (try with_reducible rfl))
      simp only [Act.put]
      refine wpAnyH_done (by kernel_rfl) ?_ _
      refine ahead_last rfl (fun K hK => ?_)
      go_simp
      refine hK _ _ ?_
      clear hK K
      clear HKS z3 z4 hHeld HO5 hcur
      obtain ⟨W6, hW6⟩ : ∃ W6, W6 = (W5.setCell ⟨g1, i, none⟩ (.slice fa fl fc)).drew := ⟨_, rfl⟩
      rw [← hW6] at HO6 ⊢
      clear hW6
      have HO7 : Hid (∃ F2, OvS w1 W6 B g1 n (.slice ra rl rc) (D * prdU u (i + 1)) F2 (fun j => if j = i then P i * prdX u i 0 else if j < i then P j * prdX u j n else 0)) := ⟨_, HO6.out.congr fun j _ => by
        by_cases e : j = i
        · rw [if_pos e, if_pos e]; simp [prdX]
        · rw [if_neg e, if_neg e]⟩
      obtain ⟨F2, hO7⟩ := HO7.out
      have HO8 := Hid.mk' hO7
      clear HO6 HO7 hO7
      go_wp2_with fail
      go_loopw [39] (fun t wr => ∃ (k : Nat) (F1 : Nat → Value), k ≤ n ∧ t = .int .i64 k ∧ Hid (OvS w1 wr B g1 n (.slice ra rl rc) (D * prdU u (i + 1)) F1 (fun j => if j = i then P i * prdX u i k else if j < i then P j * prdX u j n else 0))) (fun t _ => n - (intOf t).toNat)
      case atStart => exact ⟨0, F2, Nat.zero_le _, rfl, HO8⟩
      case round =>
        clear HO8
        obtain ⟨k, F3, hk, rfl, HOV⟩ := hrel
        rcases Nat.lt_or_ge k n with h2 | h2
        · have hkI : (k : Int) < (n : Int) := by omega
          have hk0 : (0 : Int) ≤ (k : Int) := by omega
          by_cases hki : k = i
          · have hne : ((k : Int) != (i : Int)) = false := by rw [bne_eq_false_iff_eq]; omega
            have HF : Hid (OvS w1 wr B g1 n (.slice ra rl rc) (D * prdU u (i + 1)) F3 (fun j => if j = i then P i * prdX u i (k + 1) else if j < i then P j * prdX u j n else 0)) := HOV.out.congr fun j _ => by rw [show prdX u i (k + 1) = prdX u i k by rw [prdX, if_pos hki]]
            clear hki
            go_wp2_with fail
            exact ⟨⟨k + 1, F3, h2, by go_num, HF⟩, by simp [intOf]; omega⟩
          · have hne : ((k : Int) != (i : Int)) = true := by rw [bne_iff_ne]; omega
            have hub := HUB.out k h2
            have hwx : IntKind.u64.wrap ((u k : Nat) : Int) = ((u k : Nat) : Int) := by rw [IntKind.wrap_u64]; exact Int.emod_eq_of_lt (by omega) (by omega)
            have HNI : Hid (NatAt wr (F3 i) (P i * prdX u i k)) := by have := HOV.out.nts.nat i h1; rw [if_pos rfl] at this; exact this
            have y3 := HOV.out.nts.row.row i h1
            have y4 := HOV.out.nts.row.fz i h1
            obtain ⟨xa, xl, xc, hxe⟩ := HNI.out.isSlice
            rw [hxe] at HNI y3
            have HPX : Hid (prdX u i (k + 1) = prdX u i k * u k) := by show _ = _; rw [prdX, if_neg hki]
            have HTI : Hid (∀ W, Below wr.heap.size wr W → Calls Tryz.prog 54 #[.slice xa xl xc, .int .u64 ((u k : Nat) : Int)] W fun e w' => ∃ v, e = .returned v ∧ NatAt w' v (P i * prdX u i (k + 1)) ∧ Below W.heap.size W w') := fun W hb => by
              have := Times_byH (.slice xa xl xc) (P i * prdX u i k) (u k) 12 W (HNI.out.later hb) (by omega) (HPB.out i h1 k hk) (by decide)
              rw [Nat.mul_assoc, ← HPX.out] at this
              exact this
            have HKS : Hid (∀ W, Below wr.heap.size wr W → W.cell? ⟨B, 0, none⟩ = some (.slice (some ⟨g1, 0, none⟩) n n) ∧ W.cell? ⟨g1, i, none⟩ = some (.slice xa xl xc) ∧ W.cell? ⟨b, o + k, none⟩ = some (.int .i64 ((u k : Nat) : Int))) := fun W hb => ⟨(HOV.out.later hb).c0, by rw [hb.cell (cell_lt y3)]; exact y3, (HNT.out W (HOV.out.later hb).below).2.2 k h2⟩
            have HFZ : Hid (∀ W, Below wr.heap.size wr W → W.frozen? ⟨g1, i, none⟩ = false) := fun W hb => by rw [hb.frozen (show g1 < wr.heap.size from cell_lt y3)]; exact y4
            have hcur : Below wr.heap.size wr wr.drew := (Below.refl _ _).drew
            clear hxe hki y3 y4 HNI
            go_upto_region 11 with fail
            refine region_but_last (n := 15) (S := fun W => W.cell? ⟨B, 0, none⟩ = some (.slice (some ⟨g1, 0, none⟩) n n) ∧ W.cell? ⟨g1, i, none⟩ = some (.slice xa xl xc) ∧ W.cell? ⟨b, o + k, none⟩ = some (.int .i64 ((u k : Nat) : Int))) (by kernel_rfl) (by kernel_rfl) (by kernel_rfl) (HKS.out _ hcur) (fun hHeld => ?_)
            refine wpAnyH_take (i := 0) (v := ?v0c) rfl (by kernel_rfl) (by kernel_rfl) (by kernel_rfl) (fun _ _ _ h => h) (Or.inl ⟨by rfl, ?hy0c⟩) (by assumption) ?rest0c
            case hy0c => (intro w hSw; (try dsimp only at hSw); go_simp <;> (try with_reducible rfl))
            simp only [Act.put]
            refine wpAnyH_take (i := 1) (v := ?v1c) rfl (by kernel_rfl) (by kernel_rfl) (by kernel_rfl) (fun _ _ _ h => h) (Or.inl ⟨by rfl, ?hy1c⟩) (by assumption) ?rest1c
            case hy1c => (intro w hSw; (try dsimp only at hSw); go_simp <;> (try with_reducible rfl))
            simp only [Act.put]
            refine wpAnyH_take (i := 2) (v := ?v2c) rfl (by kernel_rfl) (by kernel_rfl) (by kernel_rfl) (fun _ _ _ h => h) (Or.inl ⟨by rfl, ?hy2c⟩) (by assumption) ?rest2c
            case hy2c => (intro w hSw; (try dsimp only at hSw); go_simp <;> (try with_reducible rfl))
            simp only [Act.put]
            refine wpAnyH_take (i := 3) (v := ?v3c) rfl (by kernel_rfl) (by kernel_rfl) (by kernel_rfl) (fun _ _ _ h => h) (Or.inl ⟨by rfl, ?hy3c⟩) (by assumption) ?rest3c
            case hy3c => (intro w hSw; (try dsimp only at hSw); go_simp <;> (try with_reducible rfl))
            simp only [Act.put]
            refine wpAnyH_take (i := 4) (v := ?v4c) rfl (by kernel_rfl) (by kernel_rfl) (by kernel_rfl) (fun _ _ _ h => h) (Or.inl ⟨by rfl, ?hy4c⟩) (by assumption) ?rest4c
            case hy4c => (intro w hSw; (try dsimp only at hSw); go_simp <;> (try with_reducible rfl))
            simp only [Act.put]
            refine wpAnyH_take (i := 5) (v := ?v5c) rfl (by kernel_rfl) (by kernel_rfl) (by kernel_rfl) (fun _ _ _ h => h) (Or.inl ⟨by rfl, ?hy5c⟩) (by assumption) ?rest5c
            case hy5c => (intro w hSw; (try dsimp only at hSw); go_simp <;> (try with_reducible rfl))
            simp only [Act.put]
            refine wpAnyH_take (i := 6) (v := ?v6c) rfl (by kernel_rfl) (by kernel_rfl) (by kernel_rfl) (fun _ _ _ h => h) (Or.inl ⟨by rfl, ?hy6c⟩) (by assumption) ?rest6c
            case hy6c => (intro w hSw; (try dsimp only at hSw); go_simp <;> (try with_reducible rfl))
            simp only [Act.put]
            refine wpAnyH_take (i := 7) (v := ?v7c) rfl (by kernel_rfl) (by kernel_rfl) (by kernel_rfl) (fun _ _ _ h => h) (Or.inl ⟨by rfl, ?hy7c⟩) (by assumption) ?rest7c
            case hy7c => (intro w hSw; (try dsimp only at hSw); go_simp <;> (try with_reducible rfl))
            simp only [Act.put]
            refine wpAnyH_take (i := 8) (v := ?v8c) rfl (by kernel_rfl) (by kernel_rfl) (by kernel_rfl) (fun _ _ _ h => h) (Or.inl ⟨by rfl, ?hy8c⟩) (by assumption) ?rest8c
            case hy8c => (intro w hSw; (try dsimp only at hSw); go_simp <;> (try with_reducible rfl))
            simp only [Act.put]
            refine wpAnyH_take (i := 9) (v := ?v9c) rfl (by kernel_rfl) (by kernel_rfl) (by kernel_rfl) (fun _ _ _ h => h) (Or.inl ⟨by rfl, ?hy9c⟩) (by assumption) ?rest9c
            case hy9c => (intro w hSw; (try dsimp only at hSw); go_simp <;> (try with_reducible rfl))
            simp only [Act.put]
            refine wpAnyH_take (i := 10) (v := ?v10c) rfl (by kernel_rfl) (by kernel_rfl) (by kernel_rfl) (fun _ _ _ h => h) (Or.inl ⟨by rfl, ?hy10c⟩) (by assumption) ?rest10c
            case hy10c => (intro w hSw; (try dsimp only at hSw); go_simp <;> (try with_reducible rfl))
            simp only [Act.put]
            refine wpAnyH_take (i := 11) (v := ?v11c) rfl (by kernel_rfl) (by kernel_rfl) (by kernel_rfl) (fun _ _ _ h => h) (Or.inl ⟨by rfl, ?hy11c⟩) (by assumption) ?rest11c
            case hy11c => (intro w hSw; (try dsimp only at hSw); go_simp <;> (try with_reducible rfl))
            simp only [Act.put]
            refine wpAnyH_take (i := 12) (v := ?v12c) rfl (by kernel_rfl) (by kernel_rfl) (by kernel_rfl) (fun _ _ _ h => h) (Or.inl ⟨by rfl, ?hy12c⟩) (by assumption) ?rest12c
            case hy12c => (intro w hSw; (try dsimp only at hSw); go_simp <;> (try with_reducible rfl))
            simp only [Act.put]
            refine wpAnyH_ready (rs := [13]) (by kernel_rfl) (by simp) ?_
            refine AllReadyH.cons rfl (fun K hK => ?_) AllReadyH.nil
            go_simp
            refine (HTI.out _ hcur).mono ?_
            rintro e w7 ⟨rv, rfl, hrv, hb7⟩
            obtain ⟨ta, tl, tc, rfl⟩ := hrv.isSlice
            have hcur := below_chain hcur hb7
            have z1 := (HKS.out _ hcur).2.1
            have z2 := HFZ.out _ hcur
            have HO9 := Hid.mk' (((HOV.out.later hcur).putP h1 hrv).congr (Y := fun j => if j = i then P i * prdX u i (k + 1) else if j < i then P j * prdX u j n else 0) (fun j _ => by
              by_cases e : j = i
              · rw [if_pos e, if_pos e]
              · rw [if_neg e, if_neg e, if_neg e]))
            clear hrv hb7
            go_wp2_with fail
            refine hK.out _ _ ?_ (fun hHeld => ?_)
            · exact HKS.out _ hcur
            clear hK K
            refine wpAnyH_take (i := 14) (v := ?v14c) rfl (by kernel_rfl) (by kernel_rfl) (by kernel_rfl) (fun _ _ _ h => h) (Or.inl ⟨by rfl, ?hy14c⟩) (by assumption) ?rest14c
            case hy14c => (intro w hSw; (try dsimp only at hSw); go_simp <;> (try with_reducible rfl))
            simp only [Act.put]
            refine wpAnyH_done (by kernel_rfl) ?_ _
            refine ahead_last rfl (fun K hK => ?_)
            go_simp
            refine hK _ _ ?_
            clear hK K
            clear HTI HKS HFZ z1 z2 hHeld HOV hcur HPX
            go_wp2_with fail
            exact ⟨⟨k + 1, _, h2, by go_num, HO9⟩, by simp [intOf]; omega⟩
        · obtain rfl : k = n := by omega
          have HF : Hid (OvS w1 wr B g1 k (.slice ra rl rc) (D * prdU u (i + 1)) F3 (fun j => if j < i + 1 then P j * prdX u j k else 0)) := HOV.out.congr fun j _ => by
            by_cases e : j = i
            · subst e; rw [if_pos rfl, if_pos (by omega)]
            · rw [if_neg e]
              by_cases e2 : j < i
              · rw [if_pos e2, if_pos (by omega)]
              · rw [if_neg e2, if_neg (by omega)]
          have hkI : ¬ ((k : Int) < (k : Int)) := by omega
          go_wp2_with fail
          exact ⟨⟨i + 1, ra, rl, rc, F3, h1, by go_num, HF⟩, by simp [intOf]; omega⟩
    · obtain rfl : i = n := by omega
      have hiI : ¬ ((i : Int) < (i : Int)) := by omega
      have HOW : Hid (OvS w1 wr B g1 i (.slice ya yl yc) (D * prdU u i) F1 (fun j => P j * prdX u j i)) := HOV.out.congr fun j hj => by rw [if_pos hj]
      clear HOV
      obtain ⟨_, ⟨d2, d3⟩, d4, d5⟩ := HC.out _ HOW.out.below
      have HFI := Hid.mk' (HOW.out.fin (R := w.heap.size + 1) HSZ.out d2 d3)
      have k0 := HOW.out.c0
      have k1 := HOW.out.c1
      have HBE : Hid (Below w.heap.size w ((wr.setCell ⟨w.heap.size + 1, 0, none⟩ (.slice (some ⟨g1, 0, none⟩) i i)).setCell ⟨w.heap.size + 1, 1, none⟩ (.slice ya yl yc))) := ((HEND.out _ HOW.out.below).setCell (by simp) _).setCell (by simp) _
      have HGE : Hid (w.heap.size ≤ g1) := by have := HOW.out.hg; have := HSZ.out; show _ ≤ _; omega
      clear HOW
      go_wp2_with fail
      generalize (wr.setCell ⟨w.heap.size + 1, 0, none⟩ (.slice (some ⟨g1, 0, none⟩) i i)).setCell ⟨w.heap.size + 1, 1, none⟩ (.slice ya yl yc) = W9 at *
      refine bodyPost_ret (v := .agg #[.slice (some ⟨g1, 0, none⟩) i i, (.slice ya yl yc)]) (by simp [results, Tryz.results71, go_sem, HFI.out.2.2.1, HFI.out.2.2.2]) rfl ⟨_, _, rfl, ⟨_, HFI.out.1⟩, HFI.out.2.1, HGE.out, HBE.out⟩
end Go.Proofs.YtmdimdoglpiiiaaGreatDoor

/- (heat.carried).gain: as the weights change. -/
namespace Go.Proofs.YtmdimdoglpiiiaaGreatDoor
open Go.RowKit

set_option maxRecDepth 100000 in
set_option maxHeartbeats 16000000 in
theorem gain_any (n g : Nat) (F : Nat → Value) (P : Nat → Nat) (dv : Value) (D : Nat) (b o cap : Nat) (u : Nat → Nat) (b2 o2 cap2 : Nat) (x : Nat → Nat) (w : World) (hN : NtsAt w g n F P) (hD : NatAt w dv D) (hu : RowAt w b o n (fun i => (u i : Int))) (hx : RowAt w b2 o2 n (fun i => (x i : Int))) (h0 : 0 < n) (hn : n ≤ 4) (hub : ∀ i, i < n → u i ≤ 4096) (hxb : ∀ i, i < n → x i ≤ 4096) (hPB : ∀ i, i < n → ∀ k, k ≤ n → P i * prdX u i k < 18446744073709551616 ^ 12) (hDB : ∀ k, k ≤ n → D * prdU u k < 18446744073709551616 ^ 12) :
    Calls Tryz.prog 37 #[.agg #[.slice (some ⟨g, 0, none⟩) n n, dv], .slice (some ⟨b, o, none⟩) n cap, .slice (some ⟨b2, o2, none⟩) n cap2] w fun e w' => ∃ g' y, e = .returned (.agg #[.slice (some ⟨g', 0, none⟩) n n, y]) ∧ (∃ F', NtsAt w' g' n F' (fun i => P i * prdX u i n * x i)) ∧ NatAt w' y (D * prdU u n) ∧ w.heap.size ≤ g' ∧ Below w.heap.size w w' := by
  obtain ⟨da, dl, dc, rfl⟩ := hD.isSlice
  obtain ⟨w1, hw1⟩ : ∃ w1, w1 = (w.alloc (.cells #[.slice (some ⟨g, 0, none⟩) n n, .slice da dl dc] 96)).alloc (.cells #[.slice none 0 0, .slice none 0 0] 96) := ⟨_, rfl⟩
  have hb1 : Below w.heap.size w w1 := by rw [hw1]; exact ((Below.refl _ _).alloc (Nat.le_refl _) _).alloc (by simp) _
  have c0 : w1.cell? ⟨w.heap.size, 0, none⟩ = some (.slice (some ⟨g, 0, none⟩) n n) := by rw [hw1, World.cell?_alloc_lt _ _ ⟨w.heap.size, 0, none⟩ (by simp), World.cell?_alloc_at _ _ _ _ rfl]; rfl
  have c1 : w1.cell? ⟨w.heap.size, 1, none⟩ = some (.slice da dl dc) := by rw [hw1, World.cell?_alloc_lt _ _ ⟨w.heap.size, 1, none⟩ (by simp), World.cell?_alloc_at _ _ _ _ rfl]; rfl
  have c2 : w1.cell? ⟨w.heap.size + 1, 0, none⟩ = some (.slice none 0 0) := by rw [hw1, World.cell?_alloc_at _ _ _ _ (by simp)]; rfl
  have c3 : w1.cell? ⟨w.heap.size + 1, 1, none⟩ = some (.slice none 0 0) := by rw [hw1, World.cell?_alloc_at _ _ _ _ (by simp)]; rfl
  have c4 : w1.frozen? ⟨w.heap.size + 1, 0, none⟩ = false := by rw [hw1]; exact frozen_new (by simp)
  have c5 : w1.frozen? ⟨w.heap.size + 1, 1, none⟩ = false := by rw [hw1]; exact frozen_new (by simp)
  have hsz : w.heap.size + 1 < w1.heap.size := by rw [hw1]; simp
  have HSZ := Hid.mk' hsz
  have HC : Hid (∀ W, Below w1.heap.size w1 W → (W.cell? ⟨w.heap.size, 0, none⟩ = some (.slice (some ⟨g, 0, none⟩) n n) ∧ W.cell? ⟨w.heap.size, 1, none⟩ = some (.slice da dl dc)) ∧ (W.cell? ⟨w.heap.size + 1, 0, none⟩ = some (.slice none 0 0) ∧ W.cell? ⟨w.heap.size + 1, 1, none⟩ = some (.slice none 0 0)) ∧ W.frozen? ⟨w.heap.size + 1, 0, none⟩ = false ∧ W.frozen? ⟨w.heap.size + 1, 1, none⟩ = false) := fun W hb => ⟨⟨by rw [hb.cell (cell_lt c0)]; exact c0, by rw [hb.cell (cell_lt c1)]; exact c1⟩, ⟨by rw [hb.cell (cell_lt c2)]; exact c2, by rw [hb.cell (cell_lt c3)]; exact c3⟩, by rw [hb.frozen (show w.heap.size + 1 < w1.heap.size from hsz)]; exact c4, by rw [hb.frozen (show w.heap.size + 1 < w1.heap.size from hsz)]; exact c5⟩
  have HEND : Hid (∀ W, Below w1.heap.size w1 W → Below w.heap.size w W) := fun W hb => hb1.trans (hb.mono hb1.size)
  have HW1 := Hid.mk' hw1
  have HOC := Hid.mk' (over_any n g F P (.slice da dl dc) D b o cap u w1 (hN.later hb1) (hD.later hb1) (hu.later hb1) h0 hn hub hPB hDB)
  have HNX : Hid (∀ W, Below w1.heap.size w1 W → RowAt W b2 o2 n (fun i => (x i : Int))) := fun W hb => hx.later (HEND.out W hb)
  have HXB := Hid.mk' hxb
  have HPB : Hid (∀ i, i < n → P i * prdX u i n < 18446744073709551616 ^ 12) := fun i hi => hPB i hi n (Nat.le_refl _)
  have hnI : (n : Int) ≤ 4 := by omega
  have hn0I : (0 : Int) < (n : Int) := by omega
  clear hN hD hu hx hub hxb hPB hDB hw1 hb1 hsz
  go_enter Tryz.func37, Tryz.ntmps37
  go_upto_region 1 with fail
  rw [← HW1.out]
  go_wp2_with fail
  refine HOC.out.mono ?_
  rintro e w2 ⟨g1, y, rfl, ⟨F1, hN1⟩, hy, hge, hb2⟩
  obtain ⟨ya, yl, yc, rfl⟩ := hy.isSlice
  have HOV := Hid.mk' (ovs_of hb2 hge h0 hN1 hy)
  clear HOC hN1 hy hge hb2 c0 c1 c2 c3 c4 c5
  go_upto_region 2 with fail
  obtain ⟨B, hB⟩ : ∃ B, B = w2.heap.size := ⟨_, rfl⟩
  rw [← hB] at HOV ⊢
  clear hB
  generalize w2.alloc (.cells #[.slice (some ⟨g1, 0, none⟩) n n, .slice ya yl yc] 96) = wc at *
  have HOV0 : Hid (OvS w1 wc B g1 n (.slice ya yl yc) (D * prdU u n) F1 (fun j => if j < 0 then P j * prdX u j n * x j else P j * prdX u j n)) := HOV.out.congr fun j _ => by rw [if_neg (by omega)]
  clear HOV
  go_wp2_with fail
  go_loopw [15] (fun t wr => ∃ (i : Nat) (F1 : Nat → Value), i ≤ n ∧ t = .int .i64 i ∧ Hid (OvS w1 wr B g1 n (.slice ya yl yc) (D * prdU u n) F1 (fun j => if j < i then P j * prdX u j n * x j else P j * prdX u j n))) (fun t _ => n - (intOf t).toNat)
  case atStart => exact ⟨0, F1, Nat.zero_le _, rfl, HOV0⟩
  case round =>
    clear HOV0
    obtain ⟨i, F3, hi, rfl, HOV⟩ := hrel
    rcases Nat.lt_or_ge i n with h1 | h1
    · have hiI : (i : Int) < (n : Int) := by omega
      have hi0 : (0 : Int) ≤ (i : Int) := by omega
      have hub := HXB.out i h1
      have hcx := HNX.out wr HOV.out.below i h1
      have hwx : IntKind.u64.wrap ((x i : Nat) : Int) = ((x i : Nat) : Int) := by rw [IntKind.wrap_u64]; exact Int.emod_eq_of_lt (by omega) (by omega)
      have HNI : Hid (NatAt wr (F3 i) (P i * prdX u i n)) := by have := HOV.out.nts.nat i h1; rw [if_neg (Nat.lt_irrefl _)] at this; exact this
      have y3 := HOV.out.nts.row.row i h1
      have y4 := HOV.out.nts.row.fz i h1
      obtain ⟨xa, xl, xc, hxe⟩ := HNI.out.isSlice
      rw [hxe] at HNI y3
      have HTI : Hid (∀ W, Below wr.heap.size wr W → Calls Tryz.prog 54 #[.slice xa xl xc, .int .u64 ((x i : Nat) : Int)] W fun e w' => ∃ v, e = .returned v ∧ NatAt w' v (P i * prdX u i n * x i) ∧ Below W.heap.size W w') := fun W hb => Times_byH (.slice xa xl xc) (P i * prdX u i n) (x i) 12 W (HNI.out.later hb) (by omega) (HPB.out i h1) (by decide)
      have HKS : Hid (∀ W, Below wr.heap.size wr W → W.cell? ⟨B, 0, none⟩ = some (.slice (some ⟨g1, 0, none⟩) n n) ∧ W.cell? ⟨g1, i, none⟩ = some (.slice xa xl xc)) := fun W hb => ⟨(HOV.out.later hb).c0, by rw [hb.cell (cell_lt y3)]; exact y3⟩
      have HFZ : Hid (∀ W, Below wr.heap.size wr W → W.frozen? ⟨g1, i, none⟩ = false) := fun W hb => by rw [hb.frozen (show g1 < wr.heap.size from cell_lt y3)]; exact y4
      have hcur : Below wr.heap.size wr wr.drew := (Below.refl _ _).drew
      clear hxe y3 y4 HNI
      go_upto_region 5 with fail
      refine region_but_last (n := 12) (S := fun W => W.cell? ⟨B, 0, none⟩ = some (.slice (some ⟨g1, 0, none⟩) n n) ∧ W.cell? ⟨g1, i, none⟩ = some (.slice xa xl xc)) (by kernel_rfl) (by kernel_rfl) (by kernel_rfl) (HKS.out _ hcur) (fun hHeld => ?_)
      refine wpAnyH_take (i := 0) (v := ?v0c) rfl (by kernel_rfl) (by kernel_rfl) (by kernel_rfl) (fun _ _ _ h => h) (Or.inl ⟨by rfl, ?hy0c⟩) (by assumption) ?rest0c
      case hy0c => (intro w hSw; (try dsimp only at hSw); go_simp <;> (try with_reducible rfl))
      simp only [Act.put]
      refine wpAnyH_take (i := 1) (v := ?v1c) rfl (by kernel_rfl) (by kernel_rfl) (by kernel_rfl) (fun _ _ _ h => h) (Or.inl ⟨by rfl, ?hy1c⟩) (by assumption) ?rest1c
      case hy1c => (intro w hSw; (try dsimp only at hSw); go_simp <;> (try with_reducible rfl))
      simp only [Act.put]
      refine wpAnyH_take (i := 2) (v := ?v2c) rfl (by kernel_rfl) (by kernel_rfl) (by kernel_rfl) (fun _ _ _ h => h) (Or.inl ⟨by rfl, ?hy2c⟩) (by assumption) ?rest2c
      case hy2c => (intro w hSw; (try dsimp only at hSw); go_simp <;> (try with_reducible rfl))
      simp only [Act.put]
      refine wpAnyH_take (i := 3) (v := ?v3c) rfl (by kernel_rfl) (by kernel_rfl) (by kernel_rfl) (fun _ _ _ h => h) (Or.inl ⟨by rfl, ?hy3c⟩) (by assumption) ?rest3c
      case hy3c => (intro w hSw; (try dsimp only at hSw); go_simp <;> (try with_reducible rfl))
      simp only [Act.put]
      refine wpAnyH_take (i := 4) (v := ?v4c) rfl (by kernel_rfl) (by kernel_rfl) (by kernel_rfl) (fun _ _ _ h => h) (Or.inl ⟨by rfl, ?hy4c⟩) (by assumption) ?rest4c
      case hy4c => (intro w hSw; (try dsimp only at hSw); go_simp <;> (try with_reducible rfl))
      simp only [Act.put]
      refine wpAnyH_take (i := 5) (v := ?v5c) rfl (by kernel_rfl) (by kernel_rfl) (by kernel_rfl) (fun _ _ _ h => h) (Or.inl ⟨by rfl, ?hy5c⟩) (by assumption) ?rest5c
      case hy5c => (intro w hSw; (try dsimp only at hSw); go_simp <;> (try with_reducible rfl))
      simp only [Act.put]
      refine wpAnyH_take (i := 6) (v := ?v6c) rfl (by kernel_rfl) (by kernel_rfl) (by kernel_rfl) (fun _ _ _ h => h) (Or.inl ⟨by rfl, ?hy6c⟩) (by assumption) ?rest6c
      case hy6c => (intro w hSw; (try dsimp only at hSw); go_simp <;> (try with_reducible rfl))
      simp only [Act.put]
      refine wpAnyH_take (i := 7) (v := ?v7c) rfl (by kernel_rfl) (by kernel_rfl) (by kernel_rfl) (fun _ _ _ h => h) (Or.inl ⟨by rfl, ?hy7c⟩) (by assumption) ?rest7c
      case hy7c => (intro w hSw; (try dsimp only at hSw); go_simp <;> (try with_reducible rfl))
      simp only [Act.put]
      refine wpAnyH_take (i := 8) (v := ?v8c) rfl (by kernel_rfl) (by kernel_rfl) (by kernel_rfl) (fun _ _ _ h => h) (Or.inl ⟨by rfl, ?hy8c⟩) (by assumption) ?rest8c
      case hy8c => (intro w hSw; (try dsimp only at hSw); go_simp <;> (try with_reducible rfl))
      simp only [Act.put]
      refine wpAnyH_take (i := 9) (v := ?v9c) rfl (by kernel_rfl) (by kernel_rfl) (by kernel_rfl) (fun _ _ _ h => h) (Or.inl ⟨by rfl, ?hy9c⟩) (by assumption) ?rest9c
      case hy9c => (intro w hSw; (try dsimp only at hSw); go_simp <;> (try with_reducible rfl))
      simp only [Act.put]
      refine wpAnyH_ready (rs := [10]) (by kernel_rfl) (by simp) ?_
      refine AllReadyH.cons rfl (fun K hK => ?_) AllReadyH.nil
      go_simp
      refine (HTI.out _ hcur).mono ?_
      rintro e w7 ⟨rv, rfl, hrv, hb7⟩
      obtain ⟨ta, tl, tc, rfl⟩ := hrv.isSlice
      have hcur := below_chain hcur hb7
      have z1 := (HKS.out _ hcur).2
      have z2 := HFZ.out _ hcur
      have HO9 := Hid.mk' (((HOV.out.later hcur).putP h1 hrv).congr (Y := fun j => if j < i + 1 then P j * prdX u j n * x j else P j * prdX u j n) (fun j _ => by
        by_cases e : j = i
        · subst e; rw [if_pos rfl, if_pos (by omega)]
        · rw [if_neg e]
          by_cases e2 : j < i
          · rw [if_pos e2, if_pos (by omega)]
          · rw [if_neg e2, if_neg (by omega)]))
      clear hrv hb7
      go_wp2_with fail
      refine hK.out _ _ ?_ (fun hHeld => ?_)
      · exact HKS.out _ hcur
      clear hK K
      refine wpAnyH_take (i := 11) (v := ?v11c) rfl (by kernel_rfl) (by kernel_rfl) (by kernel_rfl) (fun _ _ _ h => h) (Or.inl ⟨by rfl, ?hy11c⟩) (by assumption) ?rest11c
      case hy11c => (intro w hSw; (try dsimp only at hSw); go_simp <;> (try with_reducible rfl))
      simp only [Act.put]
      refine wpAnyH_done (by kernel_rfl) ?_ _
      refine ahead_last rfl (fun K hK => ?_)
      go_simp
      refine hK _ _ ?_
      clear hK K
      clear HTI HKS HFZ z1 z2 hHeld HOV hcur
      go_wp2_with fail
      exact ⟨⟨i + 1, _, h1, by go_num, HO9⟩, by simp [intOf]; omega⟩
    · obtain rfl : i = n := by omega
      have hiI : ¬ ((i : Int) < (i : Int)) := by omega
      have HOW : Hid (OvS w1 wr B g1 i (.slice ya yl yc) (D * prdU u i) F3 (fun j => P j * prdX u j i * x j)) := HOV.out.congr fun j hj => by rw [if_pos hj]
      clear HOV
      obtain ⟨_, ⟨d2, d3⟩, d4, d5⟩ := HC.out _ HOW.out.below
      have HFI := Hid.mk' (HOW.out.fin (R := w.heap.size + 1) HSZ.out d2 d3)
      have k0 := HOW.out.c0
      have k1 := HOW.out.c1
      have HBE : Hid (Below w.heap.size w ((wr.setCell ⟨w.heap.size + 1, 0, none⟩ (.slice (some ⟨g1, 0, none⟩) i i)).setCell ⟨w.heap.size + 1, 1, none⟩ (.slice ya yl yc))) := ((HEND.out _ HOW.out.below).setCell (by simp) _).setCell (by simp) _
      have HGE : Hid (w.heap.size ≤ g1) := by have := HOW.out.hg; have := HSZ.out; show _ ≤ _; omega
      clear HOW
      go_wp2_with fail
      generalize (wr.setCell ⟨w.heap.size + 1, 0, none⟩ (.slice (some ⟨g1, 0, none⟩) i i)).setCell ⟨w.heap.size + 1, 1, none⟩ (.slice ya yl yc) = W9 at *
      refine bodyPost_ret (v := .agg #[.slice (some ⟨g1, 0, none⟩) i i, (.slice ya yl yc)]) (by simp [results, Tryz.results37, go_sem, HFI.out.2.2.1, HFI.out.2.2.2]) rfl ⟨_, _, rfl, ⟨_, HFI.out.1⟩, HFI.out.2.1, HGE.out, HBE.out⟩
end Go.Proofs.YtmdimdoglpiiiaaGreatDoor

/- (heat.carried).step: by the rows of a chain. -/
namespace Go.Proofs.YtmdimdoglpiiiaaGreatDoor
open Go.RowKit

theorem Tryz.infoIn : (Tryz.prog.info? 3).map (fun i => (i.zero, i.size, i.bytes)) = some (some (.int .i64 0), 1, 8) := by kernel_rfl
set_option maxRecDepth 100000 in
set_option maxHeartbeats 16000000 in
theorem step_any (n g : Nat) (F : Nat → Value) (P : Nat → Nat) (dv : Value) (D : Nat) (b o cap : Nat) (q : Nat → Nat → Nat) (R : Nat → Nat) (w : World) (hN : NtsAt w g n F P) (hD : NatAt w dv D) (hrows : ∀ i, i < n → ∃ rb ro rc, w.cell? ⟨b, o + i, none⟩ = some (.slice (some ⟨rb, ro, none⟩) n rc) ∧ RowAt w rb ro n (fun k => (q i k : Int))) (hR : ∀ i, i < n → R i = smU (q i) n) (h0 : 0 < n) (hn : n ≤ 4) (hub : ∀ i, i < n → R i ≤ 4096) (hPB : ∀ i, i < n → ∀ k, k ≤ n → P i * prdX R i k < 18446744073709551616 ^ 12) (hDB : ∀ k, k ≤ n → D * prdU R k < 18446744073709551616 ^ 12) (hSB : ∀ k, k < n → ∀ i, i ≤ n → smU (fun j => P j * prdX R j n * q j k) i < 18446744073709551616 ^ 12) :
    Calls Tryz.prog 38 #[.agg #[.slice (some ⟨g, 0, none⟩) n n, dv], .slice (some ⟨b, o, none⟩) n cap] w fun e w' => ∃ g' y, e = .returned (.agg #[.slice (some ⟨g', 0, none⟩) n n, y]) ∧ (∃ F', NtsAt w' g' n F' (fun k => smU (fun j => P j * prdX R j n * q j k) n)) ∧ NatAt w' y (D * prdU R n) ∧ w.heap.size ≤ g' ∧ Below w.heap.size w w' := by
  obtain ⟨da, dl, dc, rfl⟩ := hD.isSlice
  obtain ⟨i0, hi, hz0, hz1, hz2⟩ := info_parts Tryz.infoNt
  have HINF : Hid (Tryz.prog.info? 94 = some i0 ∧ i0.zero = some (.slice none 0 0) ∧ i0.size = 1 ∧ i0.bytes = 24) := ⟨hi, hz0, hz1, hz2⟩
  clear hi hz0 hz1 hz2
  obtain ⟨i1, hi, hz0, hz1, hz2⟩ := info_parts Tryz.infoIn
  have HIN1 : Hid (Tryz.prog.info? 3 = some i1 ∧ i1.zero = some (.int .i64 0) ∧ i1.size = 1 ∧ i1.bytes = 8) := ⟨hi, hz0, hz1, hz2⟩
  clear hi hz0 hz1 hz2
  obtain ⟨w1, hw1⟩ : ∃ w1, w1 = (w.alloc (.cells #[.slice (some ⟨g, 0, none⟩) n n, .slice da dl dc] 96)).alloc (.cells #[.slice none 0 0, .slice none 0 0] 96) := ⟨_, rfl⟩
  have hb1 : Below w.heap.size w w1 := by rw [hw1]; exact ((Below.refl _ _).alloc (Nat.le_refl _) _).alloc (by simp) _
  have c0 : w1.cell? ⟨w.heap.size, 0, none⟩ = some (.slice (some ⟨g, 0, none⟩) n n) := by rw [hw1, World.cell?_alloc_lt _ _ ⟨w.heap.size, 0, none⟩ (by simp), World.cell?_alloc_at _ _ _ _ rfl]; rfl
  have c1 : w1.cell? ⟨w.heap.size, 1, none⟩ = some (.slice da dl dc) := by rw [hw1, World.cell?_alloc_lt _ _ ⟨w.heap.size, 1, none⟩ (by simp), World.cell?_alloc_at _ _ _ _ rfl]; rfl
  have c2 : w1.cell? ⟨w.heap.size + 1, 0, none⟩ = some (.slice none 0 0) := by rw [hw1, World.cell?_alloc_at _ _ _ _ (by simp)]; rfl
  have c3 : w1.cell? ⟨w.heap.size + 1, 1, none⟩ = some (.slice none 0 0) := by rw [hw1, World.cell?_alloc_at _ _ _ _ (by simp)]; rfl
  have c4 : w1.frozen? ⟨w.heap.size + 1, 0, none⟩ = false := by rw [hw1]; exact frozen_new (by simp)
  have c5 : w1.frozen? ⟨w.heap.size + 1, 1, none⟩ = false := by rw [hw1]; exact frozen_new (by simp)
  have hsz : w.heap.size + 1 < w1.heap.size := by rw [hw1]; simp
  have HSZ := Hid.mk' hsz
  have HC : Hid (∀ W, Below w1.heap.size w1 W → (W.cell? ⟨w.heap.size, 0, none⟩ = some (.slice (some ⟨g, 0, none⟩) n n) ∧ W.cell? ⟨w.heap.size, 1, none⟩ = some (.slice da dl dc)) ∧ (W.cell? ⟨w.heap.size + 1, 0, none⟩ = some (.slice none 0 0) ∧ W.cell? ⟨w.heap.size + 1, 1, none⟩ = some (.slice none 0 0)) ∧ W.frozen? ⟨w.heap.size + 1, 0, none⟩ = false ∧ W.frozen? ⟨w.heap.size + 1, 1, none⟩ = false) := fun W hb => ⟨⟨by rw [hb.cell (cell_lt c0)]; exact c0, by rw [hb.cell (cell_lt c1)]; exact c1⟩, ⟨by rw [hb.cell (cell_lt c2)]; exact c2, by rw [hb.cell (cell_lt c3)]; exact c3⟩, by rw [hb.frozen (show w.heap.size + 1 < w1.heap.size from hsz)]; exact c4, by rw [hb.frozen (show w.heap.size + 1 < w1.heap.size from hsz)]; exact c5⟩
  have HEND : Hid (∀ W, Below w1.heap.size w1 W → Below w.heap.size w W) := fun W hb => hb1.trans (hb.mono hb1.size)
  have HW1 := Hid.mk' hw1
  have HNT : Hid (∀ W, Below w1.heap.size w1 W → NtsAt W g n F P ∧ NatAt W (.slice da dl dc) D) := fun W hb => ⟨hN.later (HEND.out W hb), hD.later (HEND.out W hb)⟩
  have HRW : Hid (∀ i, i < n → ∃ rb ro rc, ∀ W, Below w1.heap.size w1 W → W.cell? ⟨b, o + i, none⟩ = some (.slice (some ⟨rb, ro, none⟩) n rc) ∧ RowAt W rb ro n (fun k => (q i k : Int))) := fun i hi => by
    obtain ⟨rb, ro, rc, h1, h2⟩ := hrows i hi
    exact ⟨rb, ro, rc, fun W hb => ⟨by rw [(HEND.out W hb).cell (cell_lt h1)]; exact h1, h2.later (HEND.out W hb)⟩⟩
  have HQB : Hid (∀ i k, i < n → k < n → q i k ≤ 4096) := fun i k hi hk => by
    have h1 := smU_ge (u := q i) hk
    have h2 := hub i hi
    rw [hR i hi] at h2
    omega
  have HTO : Hid (∀ i, i < n → ∀ rb ro rc W, RowAt W rb ro n (fun k => (q i k : Int)) → Calls Tryz.prog 29 #[.slice (some ⟨rb, ro, none⟩) n rc] W fun e w' => e = .returned (.int .i64 ((R i : Nat) : Int)) ∧ w' = W) := fun i hi rb ro rc W hr => by
    have h1 := total_some rb ro rc n (fun k => (q i k : Int)) W hr (fun k hk => by
      rw [sumN_smU (u := q i) (fun _ _ => rfl)]
      have h3 := smU_mono (q i) hk
      have h2 := hub i hi
      rw [hR i hi] at h2
      omega) (fun k hk => by have := HQB.out i k hi hk; omega) (by omega)
    rw [sumN_smU (u := q i) (fun _ _ => rfl), ← hR i hi] at h1
    exact h1
  have HUB := Hid.mk' hub
  have HPB := Hid.mk' hPB
  have HDB := Hid.mk' hDB
  have HSB := Hid.mk' hSB
  have hnI : (n : Int) ≤ 4 := by omega
  have hn0I : (0 : Int) < (n : Int) := by omega
  clear hN hD hrows hR hub hPB hDB hSB hw1 hb1 hsz
  go_enter Tryz.func38, Tryz.ntmps38
  go_upto_region 1 with fail
  rw [← HW1.out]
  clear c0 c1 c2 c3 c4 c5
  go_wp2_with (at_make; go_must (refine wpList_make_full _ rfl _ _ _ rfl w1.heap.size 3 i1 _ 1 Tryz.underlying32 HIN1.out.1 HIN1.out.2.1 HIN1.out.2.2.1 .i64 .i64 _ _ n rfl rfl rfl rfl (by rw [HIN1.out.2.2.2]; omega) (by unfold maxLen; omega) (Nat.le_refl _) ?_; intro w2 hown2 hgrow2; have HF2 := Hid.mk' (fills_made hown2 (made_zero n) hgrow2); clear hown2 hgrow2))
  obtain ⟨gs, hgs⟩ : ∃ gs, gs = w1.heap.size := ⟨_, rfl⟩
  rw [← hgs] at HF2 ⊢
  clear hgs
  have HF0 : Hid (Fills w1 w2 gs n (fun j => ((if j < 0 then R j else 0 : Nat) : Int))) := by
    have h9 : (fun j => ((if j < 0 then R j else 0 : Nat) : Int)) = fun _ => 0 := by funext j; rw [if_neg (by omega)]; rfl
    show Fills _ _ _ _ _
    rw [h9]
    exact HF2.out
  clear HF2
  go_loopw [17] (fun t wr => ∃ i : Nat, i ≤ n ∧ t = .int .i64 i ∧ Hid (Fills w1 wr gs n (fun j => ((if j < i then R j else 0 : Nat) : Int)))) (fun t _ => n - (intOf t).toNat)
  case atStart => exact ⟨0, Nat.zero_le _, rfl, HF0⟩
  case round =>
    clear HF0
    obtain ⟨i, hi, rfl, HFI⟩ := hrel
    rcases Nat.lt_or_ge i n with h1 | h1
    · have hiI : (i : Int) < (n : Int) := by omega
      have hi0 : (0 : Int) ≤ (i : Int) := by omega
      obtain ⟨rb, ro, rc, hrow⟩ := HRW.out i h1
      have k0 := (hrow wr HFI.out.below).1
      have HCT := Hid.mk' (HTO.out i h1 rb ro rc wr (hrow wr HFI.out.below).2)
      have k1 := HFI.out.row i h1
      have k2 := HFI.out.fz i h1
      rw [Nat.zero_add] at k1 k2
      have HFN : Hid (Fills w1 (wr.setCell ⟨gs, i, none⟩ (.int .i64 ((R i : Nat) : Int))) gs n (fun j => ((if j < i + 1 then R j else 0 : Nat) : Int))) := HFI.out.set h1 _ fun j _ => by
        by_cases e : j = i
        · subst e; rw [if_pos (Nat.lt_succ_self _), if_pos rfl]
        · rw [if_neg e]
          by_cases e2 : j < i
          · rw [if_pos (show j < i + 1 by omega), if_pos e2]
          · rw [if_neg (show ¬ j < i + 1 by omega), if_neg e2]
      clear hrow HFI
      go_wp2_with fail
      refine HCT.out.mono ?_
      rintro e w3 ⟨rfl, hw3⟩
      rw [hw3]
      clear hw3 HCT
      go_wp2_with fail
      exact ⟨⟨i + 1, h1, by go_num, HFN⟩, by simp [intOf]; omega⟩
    · obtain rfl : n = i := by omega
      have hiI : ¬ ((n : Int) < (n : Int)) := by omega
      have HRS : Hid (RowAt wr gs 0 n (fun j => ((R j : Nat) : Int))) := fun j hj => by have := HFI.out.row j hj; rw [if_pos hj] at this; exact this
      have HBS := Hid.mk' HFI.out.below
      have HOC := Hid.mk' (over_any n g F P (.slice da dl dc) D gs 0 n R wr (HNT.out wr HBS.out).1 (HNT.out wr HBS.out).2 HRS.out h0 hn HUB.out HPB.out HDB.out)
      obtain ⟨⟨c0, c1⟩, _⟩ := HC.out wr HBS.out
      clear HFI HRS
      obtain ⟨W3, hW3⟩ : ∃ W3, W3 = wr := ⟨_, rfl⟩
      rw [← hW3] at HBS HOC c0 c1 ⊢
      clear hW3
      go_wp2_with fail
      refine HOC.out.mono ?_
      rintro e w4 ⟨gf, y, rfl, ⟨FF, hN1⟩, hy, hge, hb4⟩
      obtain ⟨ya, yl, yc, rfl⟩ := hy.isSlice
      have HOF := Hid.mk' (ovs_of hb4 hge h0 hN1 hy)
      clear HOC hN1 hy hge hb4 c0 c1
      go_upto_region 8 with fail
      obtain ⟨Bf, hBf⟩ : ∃ Bf, Bf = w4.heap.size := ⟨_, rfl⟩
      rw [← hBf] at HOF ⊢
      clear hBf
      generalize w4.alloc (.cells #[.slice (some ⟨gf, 0, none⟩) n n, .slice ya yl yc] 96) = WF at *
      have HBF := Hid.mk' (below_chain HBS.out HOF.out.below)
      obtain ⟨XB, hXB⟩ : ∃ XB, XB = Obj.cells #[.slice none 0 0, .slice none 0 0] 96 := ⟨_, rfl⟩
      obtain ⟨mA, hmA, homA, hgmA⟩ := run_make_full (P := Tryz.prog) (WF.drew) (WF.drew).heap.size 92 94 i0 _ 1 Tryz.underlying92 HINF.out.1 HINF.out.2.1 HINF.out.2.2.1 .i64 .i64 n (by rw [HINF.out.2.2.2]; omega) (by unfold maxLen; omega) (Nat.le_refl _)
      have HRmA : Hid (RowIs mA (WF.drew).heap.size n (fun _ => .slice none 0 0)) := rowIs_made homA (made_one (.slice none 0 0) rfl n)
      have HMmA : Hid (Below (WF.drew).heap.size (WF.drew) mA) := made_below hgmA
      clear homA hgmA
      obtain ⟨mB, hmB, homB, hgmB⟩ := run_make_full (P := Tryz.prog) ((WF.alloc (.cells #[.slice none 0 0, .slice none 0 0] 96)).drew) ((WF.alloc (.cells #[.slice none 0 0, .slice none 0 0] 96)).drew).heap.size 92 94 i0 _ 1 Tryz.underlying92 HINF.out.1 HINF.out.2.1 HINF.out.2.2.1 .i64 .i64 n (by rw [HINF.out.2.2.2]; omega) (by unfold maxLen; omega) (Nat.le_refl _)
      have HRmB : Hid (RowIs mB ((WF.alloc (.cells #[.slice none 0 0, .slice none 0 0] 96)).drew).heap.size n (fun _ => .slice none 0 0)) := rowIs_made homB (made_one (.slice none 0 0) rfl n)
      have HMmB : Hid (Below ((WF.alloc (.cells #[.slice none 0 0, .slice none 0 0] 96)).drew).heap.size ((WF.alloc (.cells #[.slice none 0 0, .slice none 0 0] 96)).drew) mB) := made_below hgmB
      clear homB hgmB
      have hcA : Below WF.heap.size WF WF.drew := (Below.refl _ _).drew
      have hcB : Below WF.heap.size WF (WF.alloc (.cells #[.slice none 0 0, .slice none 0 0] 96)).drew := ((Below.refl _ _).alloc (Nat.le_refl _) _).drew
      have HBA : Hid (Below WF.heap.size WF mA) := below_chain hcA HMmA.out
      have HBB : Hid (Below WF.heap.size WF mB) := below_chain hcB HMmB.out
      have hzB : (WF.alloc (.cells #[.slice none 0 0, .slice none 0 0] 96)).drew.heap.size = WF.heap.size + 1 := by simp
      have HZB := Hid.mk' hzB
      clear hzB hXB XB
      have kB0 : (WF.alloc (.cells #[.slice none 0 0, .slice none 0 0] 96)).drew.cell? ⟨WF.heap.size, 0, none⟩ = some (.slice none 0 0) := by show (WF.alloc (.cells #[.slice none 0 0, .slice none 0 0] 96)).cell? _ = _; simp
      have kB1 : (WF.alloc (.cells #[.slice none 0 0, .slice none 0 0] 96)).drew.cell? ⟨WF.heap.size, 1, none⟩ = some (.slice none 0 0) := by show (WF.alloc (.cells #[.slice none 0 0, .slice none 0 0] 96)).cell? _ = _; simp
      have kF0 : (WF.alloc (.cells #[.slice none 0 0, .slice none 0 0] 96)).drew.frozen? ⟨WF.heap.size, 0, none⟩ = false := by show (WF.alloc (.cells #[.slice none 0 0, .slice none 0 0] 96)).frozen? _ = _; simp
      have kF1 : (WF.alloc (.cells #[.slice none 0 0, .slice none 0 0] 96)).drew.frozen? ⟨WF.heap.size, 1, none⟩ = false := by show (WF.alloc (.cells #[.slice none 0 0, .slice none 0 0] 96)).frozen? _ = _; simp
      have mB0 : mB.cell? ⟨WF.heap.size, 0, none⟩ = some (.slice none 0 0) := by rw [HMmB.out.cell (cell_lt kB0)]; exact kB0
      have mB1 : mB.cell? ⟨WF.heap.size, 1, none⟩ = some (.slice none 0 0) := by rw [HMmB.out.cell (cell_lt kB1)]; exact kB1
      have mF0 : mB.frozen? ⟨WF.heap.size, 0, none⟩ = false := by rw [HMmB.out.frozen (cell_lt kB0)]; exact kF0
      have mF1 : mB.frozen? ⟨WF.heap.size, 1, none⟩ = false := by rw [HMmB.out.frozen (cell_lt kB1)]; exact kF1
      have HSO : Hid (OvS WF ((mB.setCell ⟨WF.heap.size, 0, none⟩ (.slice (some ⟨WF.heap.size + 1, 0, none⟩) n n)).setCell ⟨WF.heap.size, 1, none⟩ (.slice ya yl yc)) WF.heap.size (WF.heap.size + 1) n (.slice ya yl yc) (D * prdU R n) (fun _ => .slice none 0 0) (fun _ => 0)) := ovs_soon HZB.out hcB HMmB.out (Nat.le_refl _) (by have := HRmB.out; rw [HZB.out] at this; exact this) HOF.out.nd kB0 kB1 kF1
      have HLA : Hid (OvS WF (mA.alloc (.cells #[.slice (some ⟨WF.heap.size, 0, none⟩) n n, (.slice ya yl yc)] 96)) mA.heap.size WF.heap.size n (.slice ya yl yc) (D * prdU R n) (fun _ => .slice none 0 0) (fun _ => 0)) := ovs_late HBA.out (Nat.le_refl _) (by omega) HRmA.out ((HOF.out.nd).later HBA.out)
      clear kB0 kB1 kF0 kF1 HRmA HRmB HMmA HMmB
      have HKS : Hid (∀ W, Below WF.heap.size WF W → W.cell? ⟨Bf, 1, none⟩ = some (.slice ya yl yc)) := fun W hb => (HOF.out.later hb).c1
      go_cut [9] from 31 (fun s wx => ∃ B g' : Nat, s = .pointer (some ⟨B, 0, none⟩) ∧ Hid (OvS WF wx B g' n (.slice ya yl yc) (D * prdU R n) (fun _ => .slice none 0 0) (fun _ => 0)))
      case first =>
        go_region_held3 (fun W => W.cell? ⟨Bf, 1, none⟩ = some (.slice ya yl yc))
          (first | exact HKS.out _ hcA | exact HKS.out _ hcB | exact HKS.out _ HBA.out | exact HKS.out _ HBB.out | exact HKS.out _ (HLA.out.below) | exact HKS.out _ (HSO.out.below) | exact HKS.out _ (Below.refl _ _) | exact HKS.out _ (HBA.out.alloc HBA.out.size _))
          (fail)
        all_goals
          go_wp2_with fail
          go_meet
          first | exact ⟨_, _, rfl, HLA⟩ | exact ⟨_, _, rfl, HSO⟩
      case rest =>
      obtain ⟨B, g1, rfl, HOV⟩ := hcut
      clear hmA hmB HBA HBB HSO HLA mB0 mB1 mF0 mF1 hcA hcB HKS
      have HOV0 : Hid (OvS WF wc B g1 n (.slice ya yl yc) (D * prdU R n) (fun _ => .slice none 0 0) (fun k => smU (fun j => P j * prdX R j n * q j k) 0)) := HOV.out.congr fun k _ => rfl
      clear HOV
      go_wp2_with fail
      go_loopw [39] (fun t wr => ∃ (i : Nat) (F1 : Nat → Value), i ≤ n ∧ t = .int .i64 i ∧ Hid (OvS WF wr B g1 n (.slice ya yl yc) (D * prdU R n) F1 (fun k => smU (fun j => P j * prdX R j n * q j k) i))) (fun t _ => n - (intOf t).toNat)
      case atStart => exact ⟨0, _, Nat.zero_le _, rfl, HOV0⟩
      case round =>
        clear HOV0
        obtain ⟨i, F1, hi, rfl, HOV⟩ := hrel
        rcases Nat.lt_or_ge i n with h1 | h1
        · have hiI : (i : Int) < (n : Int) := by omega
          have hi0 : (0 : Int) ≤ (i : Int) := by omega
          obtain ⟨rb, ro, rc, hrow⟩ := HRW.out i h1
          have HRI := Hid.mk' hrow
          have HNF : Hid (∀ W, Below WF.heap.size WF W → W.cell? ⟨Bf, 0, none⟩ = some (.slice (some ⟨gf, 0, none⟩) n n) ∧ W.cell? ⟨gf, i, none⟩ = some (FF i) ∧ NatAt W (FF i) (P i * prdX R i n)) := fun W hb => ⟨(HOF.out.later hb).c0, (HOF.out.later hb).nts.row.row i h1, (HOF.out.later hb).nts.nat i h1⟩
          obtain ⟨fa, fl, fc, hfe⟩ := (HNF.out WF (Below.refl _ _)).2.2.isSlice
          rw [hfe] at HNF
          have HO0 : Hid (OvS WF wr B g1 n (.slice ya yl yc) (D * prdU R n) F1 (fun k => if k < 0 then smU (fun j => P j * prdX R j n * q j k) (i + 1) else smU (fun j => P j * prdX R j n * q j k) i)) := HOV.out.congr fun k _ => by rw [if_neg (by omega)]
          clear hrow HOV hfe
          obtain ⟨W5, hW5⟩ : ∃ W5, W5 = wr := ⟨_, rfl⟩
          rw [← hW5] at HO0 ⊢
          clear hW5
          go_wp2_with fail
          go_loopw [44] (fun t wr => ∃ (k : Nat) (F1 : Nat → Value), k ≤ n ∧ t = .int .i64 k ∧ Hid (OvS WF wr B g1 n (.slice ya yl yc) (D * prdU R n) F1 (fun k' => if k' < k then smU (fun j => P j * prdX R j n * q j k') (i + 1) else smU (fun j => P j * prdX R j n * q j k') i))) (fun t _ => n - (intOf t).toNat)
          case atStart => exact ⟨0, F1, Nat.zero_le _, rfl, HO0⟩
          case round =>
            clear HO0
            obtain ⟨k, F3, hk, rfl, HOV⟩ := hrel
            rcases Nat.lt_or_ge k n with h2 | h2
            · have hkI : (k : Int) < (n : Int) := by omega
              have hk0 : (0 : Int) ≤ (k : Int) := by omega
              have hqb := HQB.out i k h1 h2
              have hwx : IntKind.u64.wrap ((q i k : Nat) : Int) = ((q i k : Nat) : Int) := by rw [IntKind.wrap_u64]; exact Int.emod_eq_of_lt (by omega) (by omega)
              have HNI : Hid (NatAt wr (F3 k) (smU (fun j => P j * prdX R j n * q j k) i)) := by have := HOV.out.nts.nat k h2; rw [if_neg (Nat.lt_irrefl _)] at this; exact this
              have y3 := HOV.out.nts.row.row k h2
              have y4 := HOV.out.nts.row.fz k h2
              obtain ⟨xa, xl, xc, hxe⟩ := HNI.out.isSlice
              rw [hxe] at HNI y3
              have HBW : Hid (∀ W, Below wr.heap.size wr W → Below WF.heap.size WF W) := fun W hb => below_chain HOV.out.below hb
              have HTI : Hid (∀ W, Below wr.heap.size wr W → Calls Tryz.prog 54 #[.slice fa fl fc, .int .u64 ((q i k : Nat) : Int)] W fun e w' => ∃ v, e = .returned v ∧ NatAt w' v (P i * prdX R i n * q i k) ∧ Below W.heap.size W w') := fun W hb => Times_byH (.slice fa fl fc) (P i * prdX R i n) (q i k) 12 W (HNF.out W (HBW.out W hb)).2.2 (by omega) (HPB.out i h1 n (Nat.le_refl _)) (by decide)
              have HPL : Hid (∀ W v, Below wr.heap.size wr W → NatAt W v (P i * prdX R i n * q i k) → Calls Tryz.prog 40 #[.slice xa xl xc, v] W fun e w' => ∃ r, e = .returned r ∧ NatAt w' r (smU (fun j => P j * prdX R j n * q j k) (i + 1)) ∧ Below W.heap.size W w') := fun W v hb hv => Plus_any (.slice xa xl xc) v _ _ 12 W (HNI.out.later hb) hv (HSB.out k h2 i hi) (Nat.lt_of_le_of_lt (smU_ge (u := fun j => P j * prdX R j n * q j k) (Nat.lt_succ_self i)) (HSB.out k h2 (i + 1) h1)) (by decide)
              have HKS : Hid (∀ W, Below wr.heap.size wr W → W.cell? ⟨B, 0, none⟩ = some (.slice (some ⟨g1, 0, none⟩) n n) ∧ W.cell? ⟨g1, k, none⟩ = some (.slice xa xl xc) ∧ W.cell? ⟨Bf, 0, none⟩ = some (.slice (some ⟨gf, 0, none⟩) n n) ∧ W.cell? ⟨gf, i, none⟩ = some (.slice fa fl fc) ∧ W.cell? ⟨b, o + i, none⟩ = some (.slice (some ⟨rb, ro, none⟩) n rc) ∧ W.cell? ⟨rb, ro + k, none⟩ = some (.int .i64 ((q i k : Nat) : Int))) := fun W hb => ⟨(HOV.out.later hb).c0, by rw [hb.cell (cell_lt y3)]; exact y3, (HNF.out W (HBW.out W hb)).1, (HNF.out W (HBW.out W hb)).2.1, (HRI.out W (below_chain HBF.out (HBW.out W hb))).1, (HRI.out W (below_chain HBF.out (HBW.out W hb))).2 k h2⟩
              have HFZ : Hid (∀ W, Below wr.heap.size wr W → W.frozen? ⟨g1, k, none⟩ = false) := fun W hb => by rw [hb.frozen (show g1 < wr.heap.size from cell_lt y3)]; exact y4
              have hcur : Below wr.heap.size wr wr.drew := (Below.refl _ _).drew
              clear hxe y3 y4
              go_upto_region 15 with fail
              refine region_but_last (n := 24) (S := fun W => W.cell? ⟨B, 0, none⟩ = some (.slice (some ⟨g1, 0, none⟩) n n) ∧ W.cell? ⟨g1, k, none⟩ = some (.slice xa xl xc) ∧ W.cell? ⟨Bf, 0, none⟩ = some (.slice (some ⟨gf, 0, none⟩) n n) ∧ W.cell? ⟨gf, i, none⟩ = some (.slice fa fl fc) ∧ W.cell? ⟨b, o + i, none⟩ = some (.slice (some ⟨rb, ro, none⟩) n rc) ∧ W.cell? ⟨rb, ro + k, none⟩ = some (.int .i64 ((q i k : Nat) : Int))) (by kernel_rfl) (by kernel_rfl) (by kernel_rfl) (HKS.out _ hcur) (fun hHeld => ?_)
              refine wpAnyH_take (i := 0) (v := ?v0c) rfl (by kernel_rfl) (by kernel_rfl) (by kernel_rfl) (fun _ _ _ h => h) (Or.inl ⟨by rfl, ?hy0c⟩) (by assumption) ?rest0c
              case hy0c => (intro w hSw; (try dsimp only at hSw); go_simp <;> (try with_reducible rfl))
              simp only [Act.put]
              refine wpAnyH_take (i := 1) (v := ?v1c) rfl (by kernel_rfl) (by kernel_rfl) (by kernel_rfl) (fun _ _ _ h => h) (Or.inl ⟨by rfl, ?hy1c⟩) (by assumption) ?rest1c
              case hy1c => (intro w hSw; (try dsimp only at hSw); go_simp <;> (try with_reducible rfl))
              simp only [Act.put]
              refine wpAnyH_take (i := 2) (v := ?v2c) rfl (by kernel_rfl) (by kernel_rfl) (by kernel_rfl) (fun _ _ _ h => h) (Or.inl ⟨by rfl, ?hy2c⟩) (by assumption) ?rest2c
              case hy2c => (intro w hSw; (try dsimp only at hSw); go_simp <;> (try with_reducible rfl))
              simp only [Act.put]
              refine wpAnyH_take (i := 3) (v := ?v3c) rfl (by kernel_rfl) (by kernel_rfl) (by kernel_rfl) (fun _ _ _ h => h) (Or.inl ⟨by rfl, ?hy3c⟩) (by assumption) ?rest3c
              case hy3c => (intro w hSw; (try dsimp only at hSw); go_simp <;> (try with_reducible rfl))
              simp only [Act.put]
              refine wpAnyH_take (i := 4) (v := ?v4c) rfl (by kernel_rfl) (by kernel_rfl) (by kernel_rfl) (fun _ _ _ h => h) (Or.inl ⟨by rfl, ?hy4c⟩) (by assumption) ?rest4c
              case hy4c => (intro w hSw; (try dsimp only at hSw); go_simp <;> (try with_reducible rfl))
              simp only [Act.put]
              refine wpAnyH_take (i := 5) (v := ?v5c) rfl (by kernel_rfl) (by kernel_rfl) (by kernel_rfl) (fun _ _ _ h => h) (Or.inl ⟨by rfl, ?hy5c⟩) (by assumption) ?rest5c
              case hy5c => (intro w hSw; (try dsimp only at hSw); go_simp <;> (try with_reducible rfl))
              simp only [Act.put]
              refine wpAnyH_take (i := 6) (v := ?v6c) rfl (by kernel_rfl) (by kernel_rfl) (by kernel_rfl) (fun _ _ _ h => h) (Or.inl ⟨by rfl, ?hy6c⟩) (by assumption) ?rest6c
              case hy6c => (intro w hSw; (try dsimp only at hSw); go_simp <;> (try with_reducible rfl))
              simp only [Act.put]
              refine wpAnyH_take (i := 7) (v := ?v7c) rfl (by kernel_rfl) (by kernel_rfl) (by kernel_rfl) (fun _ _ _ h => h) (Or.inl ⟨by rfl, ?hy7c⟩) (by assumption) ?rest7c
              case hy7c => (intro w hSw; (try dsimp only at hSw); go_simp <;> (try with_reducible rfl))
              simp only [Act.put]
              refine wpAnyH_take (i := 8) (v := ?v8c) rfl (by kernel_rfl) (by kernel_rfl) (by kernel_rfl) (fun _ _ _ h => h) (Or.inl ⟨by rfl, ?hy8c⟩) (by assumption) ?rest8c
              case hy8c => (intro w hSw; (try dsimp only at hSw); go_simp <;> (try with_reducible rfl))
              simp only [Act.put]
              refine wpAnyH_take (i := 9) (v := ?v9c) rfl (by kernel_rfl) (by kernel_rfl) (by kernel_rfl) (fun _ _ _ h => h) (Or.inl ⟨by rfl, ?hy9c⟩) (by assumption) ?rest9c
              case hy9c => (intro w hSw; (try dsimp only at hSw); go_simp <;> (try with_reducible rfl))
              simp only [Act.put]
              refine wpAnyH_take (i := 10) (v := ?v10c) rfl (by kernel_rfl) (by kernel_rfl) (by kernel_rfl) (fun _ _ _ h => h) (Or.inl ⟨by rfl, ?hy10c⟩) (by assumption) ?rest10c
              case hy10c => (intro w hSw; (try dsimp only at hSw); go_simp <;> (try with_reducible rfl))
              simp only [Act.put]
              refine wpAnyH_take (i := 11) (v := ?v11c) rfl (by kernel_rfl) (by kernel_rfl) (by kernel_rfl) (fun _ _ _ h => h) (Or.inl ⟨by rfl, ?hy11c⟩) (by assumption) ?rest11c
              case hy11c => (intro w hSw; (try dsimp only at hSw); go_simp <;> (try with_reducible rfl))
              simp only [Act.put]
              refine wpAnyH_take (i := 12) (v := ?v12c) rfl (by kernel_rfl) (by kernel_rfl) (by kernel_rfl) (fun _ _ _ h => h) (Or.inl ⟨by rfl, ?hy12c⟩) (by assumption) ?rest12c
              case hy12c => (intro w hSw; (try dsimp only at hSw); go_simp <;> (try with_reducible rfl))
              simp only [Act.put]
              refine wpAnyH_take (i := 13) (v := ?v13c) rfl (by kernel_rfl) (by kernel_rfl) (by kernel_rfl) (fun _ _ _ h => h) (Or.inl ⟨by rfl, ?hy13c⟩) (by assumption) ?rest13c
              case hy13c => (intro w hSw; (try dsimp only at hSw); go_simp <;> (try with_reducible rfl))
              simp only [Act.put]
              refine wpAnyH_take (i := 14) (v := ?v14c) rfl (by kernel_rfl) (by kernel_rfl) (by kernel_rfl) (fun _ _ _ h => h) (Or.inl ⟨by rfl, ?hy14c⟩) (by assumption) ?rest14c
              case hy14c => (intro w hSw; (try dsimp only at hSw); go_simp <;> (try with_reducible rfl))
              simp only [Act.put]
              refine wpAnyH_take (i := 15) (v := ?v15c) rfl (by kernel_rfl) (by kernel_rfl) (by kernel_rfl) (fun _ _ _ h => h) (Or.inl ⟨by rfl, ?hy15c⟩) (by assumption) ?rest15c
              case hy15c => (intro w hSw; (try dsimp only at hSw); go_simp <;> (try with_reducible rfl))
              simp only [Act.put]
              refine wpAnyH_take (i := 16) (v := ?v16c) rfl (by kernel_rfl) (by kernel_rfl) (by kernel_rfl) (fun _ _ _ h => h) (Or.inl ⟨by rfl, ?hy16c⟩) (by assumption) ?rest16c
              case hy16c => (intro w hSw; (try dsimp only at hSw); go_simp <;> (try with_reducible rfl))
              simp only [Act.put]
              refine wpAnyH_take (i := 17) (v := ?v17c) rfl (by kernel_rfl) (by kernel_rfl) (by kernel_rfl) (fun _ _ _ h => h) (Or.inl ⟨by rfl, ?hy17c⟩) (by assumption) ?rest17c
              case hy17c => (intro w hSw; (try dsimp only at hSw); go_simp <;> (try with_reducible rfl))
              simp only [Act.put]
              refine wpAnyH_take (i := 18) (v := ?v18c) rfl (by kernel_rfl) (by kernel_rfl) (by kernel_rfl) (fun _ _ _ h => h) (Or.inl ⟨by rfl, ?hy18c⟩) (by assumption) ?rest18c
              case hy18c => (intro w hSw; (try dsimp only at hSw); go_simp <;> (try with_reducible rfl))
              simp only [Act.put]
              refine wpAnyH_take (i := 19) (v := ?v19c) rfl (by kernel_rfl) (by kernel_rfl) (by kernel_rfl) (fun _ _ _ h => h) (Or.inl ⟨by rfl, ?hy19c⟩) (by assumption) ?rest19c
              case hy19c => (intro w hSw; (try dsimp only at hSw); go_simp <;> (try with_reducible rfl))
              simp only [Act.put]
              refine wpAnyH_take (i := 20) (v := ?v20c) rfl (by kernel_rfl) (by kernel_rfl) (by kernel_rfl) (fun _ _ _ h => h) (Or.inl ⟨by rfl, ?hy20c⟩) (by assumption) ?rest20c
              case hy20c => (intro w hSw; (try dsimp only at hSw); go_simp <;> (try with_reducible rfl))
              simp only [Act.put]
              refine wpAnyH_ready (rs := [21]) (by kernel_rfl) (by simp) ?_
              refine AllReadyH.cons rfl (fun K hK => ?_) AllReadyH.nil
              go_simp
              refine (HTI.out _ hcur).mono ?_
              rintro e w6 ⟨rp, rfl, hrp, hb6⟩
              obtain ⟨pa, pl, pc, rfl⟩ := hrp.isSlice
              have hcur := below_chain hcur hb6
              have HRP := Hid.mk' hrp
              clear hrp hb6
              go_wp2_with fail
              refine hK.out _ _ ?_ (fun hHeld => ?_)
              · exact HKS.out _ hcur
              clear hK K
              refine wpAnyH_ready (rs := [22]) (by kernel_rfl) (by simp) ?_
              refine AllReadyH.cons rfl (fun K hK => ?_) AllReadyH.nil
              go_simp
              refine (HPL.out _ _ hcur HRP.out).mono ?_
              rintro e w7 ⟨rv, rfl, hrv, hb7⟩
              obtain ⟨ta, tl, tc, rfl⟩ := hrv.isSlice
              have hcur := below_chain hcur hb7
              have z1 := (HKS.out _ hcur).2.1
              have z2 := HFZ.out _ hcur
              have HO9 := Hid.mk' (((HOV.out.later hcur).putP h2 hrv).congr (Y := fun k' => if k' < k + 1 then smU (fun j => P j * prdX R j n * q j k') (i + 1) else smU (fun j => P j * prdX R j n * q j k') i) (fun j _ => by
                by_cases e : j = k
                · subst e; rw [if_pos rfl, if_pos (by omega)]
                · rw [if_neg e]
                  by_cases e2 : j < k
                  · rw [if_pos e2, if_pos (by omega)]
                  · rw [if_neg e2, if_neg (by omega)]))
              clear hrv hb7
              go_wp2_with fail
              refine hK.out _ _ ?_ (fun hHeld => ?_)
              · exact HKS.out _ hcur
              clear hK K
              refine wpAnyH_take (i := 23) (v := ?v23c) rfl (by kernel_rfl) (by kernel_rfl) (by kernel_rfl) (fun _ _ _ h => h) (Or.inl ⟨by rfl, ?hy23c⟩) (by assumption) ?rest23c
              case hy23c => (intro w hSw; (try dsimp only at hSw); go_simp <;> (try with_reducible rfl))
              simp only [Act.put]
              refine wpAnyH_done (by kernel_rfl) ?_ _
              refine ahead_last rfl (fun K hK => ?_)
              go_simp
              refine hK _ _ ?_
              clear hK K
              clear HTI HPL HKS HFZ z1 z2 hHeld HOV hcur HNI HBW HRP
              go_wp2_with fail
              exact ⟨⟨k + 1, _, h2, by go_num, HO9⟩, by simp [intOf]; omega⟩
            · obtain rfl : k = n := by omega
              have hkI : ¬ ((k : Int) < (k : Int)) := by omega
              have HF : Hid (OvS WF wr B g1 k (.slice ya yl yc) (D * prdU R k) F3 (fun k' => smU (fun j => P j * prdX R j k * q j k') (i + 1))) := HOV.out.congr fun j hj => by rw [if_pos hj]
              clear HOV
              go_wp2_with fail
              exact ⟨⟨i + 1, F3, h1, by go_num, HF⟩, by simp [intOf]; omega⟩
        · obtain rfl : i = n := by omega
          have hiI : ¬ ((i : Int) < (i : Int)) := by omega
          have HOW : Hid (OvS w1 wr B g1 i (.slice ya yl yc) (D * prdU R i) F1 (fun k => smU (fun j => P j * prdX R j i * q j k) i)) := ⟨below_chain HBF.out HOV.out.below, Nat.le_trans HBF.out.size HOV.out.hB, Nat.le_trans HBF.out.size HOV.out.hg, HOV.out.ne, HOV.out.c0, HOV.out.c1, HOV.out.f1, HOV.out.nd, HOV.out.nts⟩
          clear HOV
          obtain ⟨_, ⟨d2, d3⟩, d4, d5⟩ := HC.out _ HOW.out.below
          have HFI := Hid.mk' (HOW.out.fin (R := w.heap.size + 1) HSZ.out d2 d3)
          have k0 := HOW.out.c0
          have k1 := HOW.out.c1
          have HBE : Hid (Below w.heap.size w ((wr.setCell ⟨w.heap.size + 1, 0, none⟩ (.slice (some ⟨g1, 0, none⟩) i i)).setCell ⟨w.heap.size + 1, 1, none⟩ (.slice ya yl yc))) := ((HEND.out _ HOW.out.below).setCell (by simp) _).setCell (by simp) _
          have HGE : Hid (w.heap.size ≤ g1) := by have := HOW.out.hg; have := HSZ.out; show _ ≤ _; omega
          clear HOW
          go_wp2_with fail
          generalize (wr.setCell ⟨w.heap.size + 1, 0, none⟩ (.slice (some ⟨g1, 0, none⟩) i i)).setCell ⟨w.heap.size + 1, 1, none⟩ (.slice ya yl yc) = W9 at *
          refine bodyPost_ret (v := .agg #[.slice (some ⟨g1, 0, none⟩) i i, (.slice ya yl yc)]) (by simp [results, Tryz.results38, go_sem, HFI.out.2.2.1, HFI.out.2.2.2]) rfl ⟨_, _, rfl, ⟨_, HFI.out.1⟩, HFI.out.2.1, HGE.out, HBE.out⟩
end Go.Proofs.YtmdimdoglpiiiaaGreatDoor
