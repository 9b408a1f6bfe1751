/- A chain that is folded, as it lies in memory. -/
import Derived.Test.YtlnhpkmcinohdaaDoorNatTold
import Derived.Test.YtlnhpkmcinohdaaDoorClosed
namespace Go.Proofs.YtlnhpkmcinohdaaDoor
open Go.RowKit

theorem NatAt.isSlice {w : World} {v : Value} {n : Nat} (h : NatAt w v n) : ∃ ad l cap, v = .slice ad l cap := by
  obtain ⟨x, _, _, _, hx⟩ := h
  obtain ⟨ad, cap, e⟩ := hx.form
  exact ⟨_, _, _, e⟩
theorem WordsAt.putS {W : World} {v y : Value} {l : List Nat} {p : Addr} {ad : Option Addr} {n c : Nat} (h : WordsAt W v l) (hc : W.cell? p = some (.slice ad n c)) : WordsAt (W.setCell p y) v l := by
  rcases h with h | ⟨b, o, cap, h1, h2, h3, h4⟩
  · exact Or.inl h
  · refine Or.inr ⟨b, o, cap, h1, h2, h3, fun i hi => ?_⟩
    rw [cell_put y hc, if_neg (fun e => ?_)]
    · exact h4 i hi
    · have := h4 i hi
      rw [e, hc] at this
      simp at this
theorem NatAt.putS {W : World} {v y : Value} {n : Nat} {p : Addr} {ad : Option Addr} {k c : Nat} (h : NatAt W v n) (hc : W.cell? p = some (.slice ad k c)) : NatAt (W.setCell p y) v n := by
  obtain ⟨l, h1, h2, h3, h4⟩ := h
  exact ⟨l, h1, h2, h3, h4.putS hc⟩

/-- Rows 0 to n - 1: the weights; row n: the times; row n + 1: what goes out. -/
structure FoldAt (w wr : World) (n g : Nat) (rb cp : Nat → Nat) (f : Nat → Nat → Value) (V : Nat → Nat → Nat) : Prop where
  below : Below w.heap.size w wr
  hg : w.heap.size ≤ g
  outer : ∀ i, i < n → wr.cell? ⟨g, i, none⟩ = some (.slice (some ⟨rb i, 0, none⟩) n (cp i))
  rge : ∀ i, i < n + 2 → w.heap.size ≤ rb i ∧ rb i ≠ g
  inj : ∀ i j, i < n + 2 → j < n + 2 → rb i = rb j → i = j
  rows : ∀ i, i < n + 2 → RowIs wr (rb i) n (f i)
  nats : ∀ i k, i < n + 2 → k < n → NatAt wr (f i k) (V i k)
theorem FoldAt.later {w wr wn : World} {n g : Nat} {rb cp : Nat → Nat} {f : Nat → Nat → Value} {V : Nat → Nat → Nat} (h : FoldAt w wr n g rb cp f V) (hb : Below wr.heap.size wr wn) : FoldAt w wn n g rb cp f V :=
  ⟨below_chain h.below hb, h.hg, fun i hi => by rw [hb.cell (cell_lt (h.outer i hi))]; exact h.outer i hi, h.rge, h.inj, fun i hi => (h.rows i hi).later hb, fun i k hi hk => (h.nats i k hi hk).later hb⟩
theorem FoldAt.set {w wr : World} {n g : Nat} {rb cp : Nat → Nat} {f : Nat → Nat → Value} {V : Nat → Nat → Nat} (h : FoldAt w wr n g rb cp f V) {i k : Nat} (hi : i < n + 2) (hk : k < n) {y : Value} {v : Nat} (hy : NatAt wr y v) {V' : Nat → Nat → Nat} (hV : ∀ i' k', i' < n + 2 → k' < n → V' i' k' = if i' = i ∧ k' = k then v else V i' k') :
    FoldAt w (wr.setCell ⟨rb i, k, none⟩ y) n g rb cp (fun i' k' => if i' = i ∧ k' = k then y else f i' k') V' := by
  have hx := (h.rows i hi).row k hk
  obtain ⟨ad, l, c, hs⟩ := (h.nats i k hi hk).isSlice
  rw [hs] at hx
  refine ⟨h.below.setCell (h.rge i hi).1 _, h.hg, fun j hj => ?_, h.rge, h.inj, fun j hj => ⟨fun c hc => ?_, fun c hc => ?_⟩, fun j c hj hc => ?_⟩
  · rw [cell_put _ hx, if_neg (fun e => (h.rge i hi).2 (congrArg Addr.block e).symm)]; exact h.outer j hj
  · rw [cell_put _ hx]
    by_cases hjc : j = i ∧ c = k
    · obtain ⟨rfl, rfl⟩ := hjc
      rw [if_pos rfl, if_pos ⟨rfl, rfl⟩]
    · rw [if_neg hjc, if_neg (fun e => hjc ⟨h.inj j i hj hi (congrArg Addr.block e), congrArg Addr.off e⟩)]
      exact (h.rows j hj).row c hc
  · rw [World.frozen?_setCell]; exact (h.rows j hj).fz c hc
  · rw [hV j c hj hc]
    by_cases hjc : j = i ∧ c = k
    · rw [if_pos hjc, if_pos hjc]; exact hy.putS hx
    · rw [if_neg hjc, if_neg hjc]; exact (h.nats j c hj hc).putS hx
theorem FoldAt.congr {w wr : World} {n g : Nat} {rb cp : Nat → Nat} {f : Nat → Nat → Value} {V V' : Nat → Nat → Nat} (h : FoldAt w wr n g rb cp f V) (he : ∀ i k, i < n + 2 → k < n → V' i k = V i k) : FoldAt w wr n g rb cp f V' :=
  ⟨h.below, h.hg, h.outer, h.rge, h.inj, h.rows, fun i k hi hk => by rw [he i k hi hk]; exact h.nats i k hi hk⟩

/-- Nothing but the rows is changed. -/
def Keeps (n : Nat) (rb : Nat → Nat) (a b : World) : Prop := a.heap.size ≤ b.heap.size ∧ ∀ k, k < a.heap.size → (∀ i, i < n + 2 → k ≠ rb i) → b.heap[k]? = a.heap[k]?
theorem Keeps.refl (n : Nat) (rb : Nat → Nat) (a : World) : Keeps n rb a a := ⟨Nat.le_refl _, fun _ _ _ => rfl⟩
theorem Keeps.later {n : Nat} {rb : Nat → Nat} {a b c : World} (h : Keeps n rb a b) (hb : Below b.heap.size b c) : Keeps n rb a c :=
  ⟨Nat.le_trans h.1 hb.size, fun k hk hn => by rw [hb.block k (Nat.lt_of_lt_of_le hk h.1)]; exact h.2 k hk hn⟩
theorem Keeps.set {n : Nat} {rb : Nat → Nat} {a b : World} (h : Keeps n rb a b) {i : Nat} (hi : i < n + 2) (k : Nat) (y : Value) : Keeps n rb a (b.setCell ⟨rb i, k, none⟩ y) :=
  ⟨by simpa using h.1, fun j hj hn => by rw [Below.heap_setCell _ _ _ _ (fun e => hn i hi e)]; exact h.2 j hj hn⟩
theorem Keeps.trans {n : Nat} {rb : Nat → Nat} {a b c : World} (h : Keeps n rb a b) (k : Keeps n rb b c) : Keeps n rb a c :=
  ⟨Nat.le_trans h.1 k.1, fun j hj hn => (k.2 j (Nat.lt_of_lt_of_le hj h.1) hn).trans (h.2 j hj hn)⟩
theorem keeps_below {n : Nat} {rb : Nat → Nat} {a b : World} (hb : Below a.heap.size a b) : Keeps n rb a b := (Keeps.refl n rb a).later hb
theorem Keeps.cell {n : Nat} {rb : Nat → Nat} {a b : World} (h : Keeps n rb a b) {k j : Nat} {v : Value} (hc : a.cell? ⟨k, j, none⟩ = some v) (hn : ∀ i, i < n + 2 → k ≠ rb i) : b.cell? ⟨k, j, none⟩ = some v := by
  rw [World.cell?_of_block (a := ⟨k, j, none⟩) (h.2 k (cell_lt hc) hn)]; exact hc

/-- Sums of natural numbers. -/
def sumTo (z : Nat → Nat) : Nat → Nat
  | 0 => 0
  | k + 1 => sumTo z k + z k
/-- One state is being taken out: all ahead of row i's k-th are done. -/
def takeTo (n s out : Nat) (V : Nat → Nat → Nat) (i k i' k' : Nat) : Nat :=
  if i' < s ∧ k' < s ∧ (i' < i ∨ i' = i ∧ k' < k) then V i' k' * out + V i' s * V s k' else if i' = n ∧ k' < i then V n k' * out + V k' s * V n s else V i' k'
def takeV (n s : Nat) (V : Nat → Nat → Nat) (i k : Nat) : Nat := if i = n + 1 ∧ k = s then sumTo (V s) s else takeTo n s (sumTo (V s) s) V s 0 i k
theorem takeTo_start (n s out : Nat) (V : Nat → Nat → Nat) (i k : Nat) : takeTo n s out V 0 0 i k = V i k := by unfold takeTo; rw [if_neg (by omega), if_neg (by omega)]
theorem takeTo_next {n s out : Nat} {V : Nat → Nat → Nat} {i k : Nat} (hi : i < s) (hk : k < s) (i' k' : Nat) : takeTo n s out V i (k + 1) i' k' = if i' = i ∧ k' = k then V i k * out + V i s * V s k else takeTo n s out V i k i' k' := by
  by_cases h : i' = i ∧ k' = k
  · obtain ⟨rfl, rfl⟩ := h
    rw [if_pos ⟨rfl, rfl⟩]; unfold takeTo; rw [if_pos (by omega)]
  · rw [if_neg h]; unfold takeTo
    by_cases h2 : i' < s ∧ k' < s ∧ (i' < i ∨ i' = i ∧ k' < k)
    · rw [if_pos h2, if_pos (by omega)]
    · rw [if_neg h2, if_neg (by omega)]
theorem takeTo_row {n s out : Nat} {V : Nat → Nat → Nat} {i : Nat} (hi : i < s) (hs : s < n) (i' k' : Nat) : takeTo n s out V (i + 1) 0 i' k' = if i' = n ∧ k' = i then V n i * out + V i s * V n s else takeTo n s out V i s i' k' := by
  by_cases h : i' = n ∧ k' = i
  · obtain ⟨rfl, rfl⟩ := h
    rw [if_pos ⟨rfl, rfl⟩]; unfold takeTo; rw [if_neg (by omega), if_pos (by omega)]
  · rw [if_neg h]; unfold takeTo
    by_cases h2 : i' < s ∧ k' < s ∧ (i' < i ∨ i' = i ∧ k' < s)
    · rw [if_pos h2, if_pos (by omega)]
    · rw [if_neg h2, if_neg (by omega)]
      by_cases h3 : i' = n ∧ k' < i
      · rw [if_pos h3, if_pos (by omega)]
      · rw [if_neg h3, if_neg (by omega)]
theorem takeTo_own {n s out : Nat} {V : Nat → Nat → Nat} {i k : Nat} (hi : i < s) (hs : s < n) : takeTo n s out V i k i k = V i k ∧ takeTo n s out V i k s k = V s k ∧ (∀ c, takeTo n s out V i c i s = V i s) ∧ takeTo n s out V i s n i = V n i ∧ takeTo n s out V i s n s = V n s := by
  unfold takeTo
  refine ⟨?_, ?_, fun c => ?_, ?_, ?_⟩
  · rw [if_neg (by omega), if_neg (by omega)]
  · rw [if_neg (by omega), if_neg (by omega)]
  · rw [if_neg (by omega), if_neg (by omega)]
  · rw [if_neg (by omega), if_neg (by omega)]
  · rw [if_neg (by omega), if_neg (by omega)]
end Go.Proofs.YtlnhpkmcinohdaaDoor
