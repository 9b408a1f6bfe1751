/- A chain that is folded, as it lies in memory. -/
import Derived.Test.YtlnhpkmcinohdaaDoorNatTold
import Derived.Test.YtlnhpkmcinohdaaDoorClosed
import Derived.Test.YtlnhpkmcinohdaaDoorLastOp
import Derived.Test.YtlnhpkmcinohdaaDoorTab
import Derived.Deep.Onto
import Derived.Test.YtlnhpkmcinohdaaDoorWeights
import Derived.Deep.RegionHeld3
import Derived.BigQuiet
import Derived.Shelf.SlGeneric
import Derived.Shelf.Small.Wraps
import Derived.Shelf.Slices.Turned
import Derived.Shelf.Slices.Clone
import Derived.Ground.NamesProg
import Derived.Ground.Names2Prog
import Derived.Test.YtlnhpkmcinohdaaDoorProg
import Derived.Test.YtlnhpkmcinohdaaDoorFills
import Derived.Test.YtlnhpkmcinohdaaDoorCopy
import Derived.Test.YtlnhpkmcinohdaaDoorValidWalk
namespace Go.Proofs.YtlnhpkmcinohdaaDoor
open Go.RowKit

theorem NatAt.isSlice {w : World} {v : Value} {n : Nat} (h : NatAt w v n) : ∃ ad l cap, v = .slice ad l cap := by
  obtain ⟨x, _, _, _, hx⟩ := h
  obtain ⟨ad, cap, e⟩ := hx.form
  exact ⟨_, _, _, e⟩
theorem WordsAt.putS {W : World} {v y : Value} {l : List Nat} {p : Addr} {ad : Option Addr} {n c : Nat} (h : WordsAt W v l) (hc : W.cell? p = some (.slice ad n c)) : WordsAt (W.setCell p y) v l := by
  rcases h with h | ⟨b, o, cap, h1, h2, h3, h4⟩
  · exact Or.inl h
  · refine Or.inr ⟨b, o, cap, h1, h2, h3, fun i hi => ?_⟩
    rw [cell_put y hc, if_neg (fun e => ?_)]
    · exact h4 i hi
    · have := h4 i hi
      rw [e, hc] at this
      simp at this
theorem NatAt.putS {W : World} {v y : Value} {n : Nat} {p : Addr} {ad : Option Addr} {k c : Nat} (h : NatAt W v n) (hc : W.cell? p = some (.slice ad k c)) : NatAt (W.setCell p y) v n := by
  obtain ⟨l, h1, h2, h3, h4⟩ := h
  exact ⟨l, h1, h2, h3, h4.putS hc⟩

/-- Rows 0 to n - 1: the weights; row n: the times; row n + 1: what goes out. -/
structure FoldAt (w wr : World) (n g : Nat) (rb cp : Nat → Nat) (f : Nat → Nat → Value) (V : Nat → Nat → Nat) : Prop where
  below : Below w.heap.size w wr
  hg : w.heap.size ≤ g
  outer : ∀ i, i < n → wr.cell? ⟨g, i, none⟩ = some (.slice (some ⟨rb i, 0, none⟩) n (cp i))
  rge : ∀ i, i < n + 2 → w.heap.size ≤ rb i ∧ rb i ≠ g
  inj : ∀ i j, i < n + 2 → j < n + 2 → rb i = rb j → i = j
  rows : ∀ i, i < n + 2 → RowIs wr (rb i) n (f i)
  nats : ∀ i k, i < n + 2 → k < n → NatAt wr (f i k) (V i k)
theorem FoldAt.later {w wr wn : World} {n g : Nat} {rb cp : Nat → Nat} {f : Nat → Nat → Value} {V : Nat → Nat → Nat} (h : FoldAt w wr n g rb cp f V) (hb : Below wr.heap.size wr wn) : FoldAt w wn n g rb cp f V :=
  ⟨below_chain h.below hb, h.hg, fun i hi => by rw [hb.cell (cell_lt (h.outer i hi))]; exact h.outer i hi, h.rge, h.inj, fun i hi => (h.rows i hi).later hb, fun i k hi hk => (h.nats i k hi hk).later hb⟩
theorem FoldAt.set {w wr : World} {n g : Nat} {rb cp : Nat → Nat} {f : Nat → Nat → Value} {V : Nat → Nat → Nat} (h : FoldAt w wr n g rb cp f V) {i k : Nat} (hi : i < n + 2) (hk : k < n) {y : Value} {v : Nat} (hy : NatAt wr y v) {V' : Nat → Nat → Nat} (hV : ∀ i' k', i' < n + 2 → k' < n → V' i' k' = if i' = i ∧ k' = k then v else V i' k') :
    FoldAt w (wr.setCell ⟨rb i, k, none⟩ y) n g rb cp (fun i' k' => if i' = i ∧ k' = k then y else f i' k') V' := by
  have hx := (h.rows i hi).row k hk
  obtain ⟨ad, l, c, hs⟩ := (h.nats i k hi hk).isSlice
  rw [hs] at hx
  refine ⟨h.below.setCell (h.rge i hi).1 _, h.hg, fun j hj => ?_, h.rge, h.inj, fun j hj => ⟨fun c hc => ?_, fun c hc => ?_⟩, fun j c hj hc => ?_⟩
  · rw [cell_put _ hx, if_neg (fun e => (h.rge i hi).2 (congrArg Addr.block e).symm)]; exact h.outer j hj
  · rw [cell_put _ hx]
    by_cases hjc : j = i ∧ c = k
    · obtain ⟨rfl, rfl⟩ := hjc
      rw [if_pos rfl, if_pos ⟨rfl, rfl⟩]
    · rw [if_neg hjc, if_neg (fun e => hjc ⟨h.inj j i hj hi (congrArg Addr.block e), congrArg Addr.off e⟩)]
      exact (h.rows j hj).row c hc
  · rw [World.frozen?_setCell]; exact (h.rows j hj).fz c hc
  · rw [hV j c hj hc]
    by_cases hjc : j = i ∧ c = k
    · rw [if_pos hjc, if_pos hjc]; exact hy.putS hx
    · rw [if_neg hjc, if_neg hjc]; exact (h.nats j c hj hc).putS hx
theorem FoldAt.congr {w wr : World} {n g : Nat} {rb cp : Nat → Nat} {f : Nat → Nat → Value} {V V' : Nat → Nat → Nat} (h : FoldAt w wr n g rb cp f V) (he : ∀ i k, i < n + 2 → k < n → V' i k = V i k) : FoldAt w wr n g rb cp f V' :=
  ⟨h.below, h.hg, h.outer, h.rge, h.inj, h.rows, fun i k hi hk => by rw [he i k hi hk]; exact h.nats i k hi hk⟩

/-- Nothing but the rows is changed. -/
def Keeps (n : Nat) (rb : Nat → Nat) (a b : World) : Prop := a.heap.size ≤ b.heap.size ∧ ∀ k, k < a.heap.size → (∀ i, i < n + 2 → k ≠ rb i) → b.heap[k]? = a.heap[k]?
theorem Keeps.refl (n : Nat) (rb : Nat → Nat) (a : World) : Keeps n rb a a := ⟨Nat.le_refl _, fun _ _ _ => rfl⟩
theorem Keeps.later {n : Nat} {rb : Nat → Nat} {a b c : World} (h : Keeps n rb a b) (hb : Below b.heap.size b c) : Keeps n rb a c :=
  ⟨Nat.le_trans h.1 hb.size, fun k hk hn => by rw [hb.block k (Nat.lt_of_lt_of_le hk h.1)]; exact h.2 k hk hn⟩
theorem Keeps.set {n : Nat} {rb : Nat → Nat} {a b : World} (h : Keeps n rb a b) {i : Nat} (hi : i < n + 2) (k : Nat) (y : Value) : Keeps n rb a (b.setCell ⟨rb i, k, none⟩ y) :=
  ⟨by simpa using h.1, fun j hj hn => by rw [Below.heap_setCell _ _ _ _ (fun e => hn i hi e)]; exact h.2 j hj hn⟩
theorem Keeps.trans {n : Nat} {rb : Nat → Nat} {a b c : World} (h : Keeps n rb a b) (k : Keeps n rb b c) : Keeps n rb a c :=
  ⟨Nat.le_trans h.1 k.1, fun j hj hn => (k.2 j (Nat.lt_of_lt_of_le hj h.1) hn).trans (h.2 j hj hn)⟩
theorem keeps_below {n : Nat} {rb : Nat → Nat} {a b : World} (hb : Below a.heap.size a b) : Keeps n rb a b := (Keeps.refl n rb a).later hb
theorem Keeps.cell {n : Nat} {rb : Nat → Nat} {a b : World} (h : Keeps n rb a b) {k j : Nat} {v : Value} (hc : a.cell? ⟨k, j, none⟩ = some v) (hn : ∀ i, i < n + 2 → k ≠ rb i) : b.cell? ⟨k, j, none⟩ = some v := by
  rw [World.cell?_of_block (a := ⟨k, j, none⟩) (h.2 k (cell_lt hc) hn)]; exact hc

/-- Sums of natural numbers. -/
def sumTo (z : Nat → Nat) : Nat → Nat
  | 0 => 0
  | k + 1 => sumTo z k + z k
/-- One state is being taken out: all ahead of row i's k-th are done. -/
def takeTo (n s out : Nat) (V : Nat → Nat → Nat) (i k i' k' : Nat) : Nat :=
  if i' < s ∧ k' < s ∧ (i' < i ∨ i' = i ∧ k' < k) then V i' k' * out + V i' s * V s k' else if i' = n ∧ k' < i then V n k' * out + V k' s * V n s else V i' k'
def takeV (n s : Nat) (V : Nat → Nat → Nat) (i k : Nat) : Nat := if i = n + 1 ∧ k = s then sumTo (V s) s else takeTo n s (sumTo (V s) s) V s 0 i k
theorem takeTo_start (n s out : Nat) (V : Nat → Nat → Nat) (i k : Nat) : takeTo n s out V 0 0 i k = V i k := by unfold takeTo; rw [if_neg (by omega), if_neg (by omega)]
theorem takeTo_next {n s out : Nat} {V : Nat → Nat → Nat} {i k : Nat} (hi : i < s) (hk : k < s) (i' k' : Nat) : takeTo n s out V i (k + 1) i' k' = if i' = i ∧ k' = k then V i k * out + V i s * V s k else takeTo n s out V i k i' k' := by
  by_cases h : i' = i ∧ k' = k
  · obtain ⟨rfl, rfl⟩ := h
    rw [if_pos ⟨rfl, rfl⟩]; unfold takeTo; rw [if_pos (by omega)]
  · rw [if_neg h]; unfold takeTo
    by_cases h2 : i' < s ∧ k' < s ∧ (i' < i ∨ i' = i ∧ k' < k)
    · rw [if_pos h2, if_pos (by omega)]
    · rw [if_neg h2, if_neg (by omega)]
theorem takeTo_row {n s out : Nat} {V : Nat → Nat → Nat} {i : Nat} (hi : i < s) (hs : s < n) (i' k' : Nat) : takeTo n s out V (i + 1) 0 i' k' = if i' = n ∧ k' = i then V n i * out + V i s * V n s else takeTo n s out V i s i' k' := by
  by_cases h : i' = n ∧ k' = i
  · obtain ⟨rfl, rfl⟩ := h
    rw [if_pos ⟨rfl, rfl⟩]; unfold takeTo; rw [if_neg (by omega), if_pos (by omega)]
  · rw [if_neg h]; unfold takeTo
    by_cases h2 : i' < s ∧ k' < s ∧ (i' < i ∨ i' = i ∧ k' < s)
    · rw [if_pos h2, if_pos (by omega)]
    · rw [if_neg h2, if_neg (by omega)]
      by_cases h3 : i' = n ∧ k' < i
      · rw [if_pos h3, if_pos (by omega)]
      · rw [if_neg h3, if_neg (by omega)]
theorem takeTo_own {n s out : Nat} {V : Nat → Nat → Nat} {i k : Nat} (hi : i < s) (hs : s < n) : takeTo n s out V i k i k = V i k ∧ takeTo n s out V i k s k = V s k ∧ (∀ c, takeTo n s out V i c i s = V i s) ∧ takeTo n s out V i s n i = V n i ∧ takeTo n s out V i s n s = V n s := by
  unfold takeTo
  refine ⟨?_, ?_, fun c => ?_, ?_, ?_⟩
  · rw [if_neg (by omega), if_neg (by omega)]
  · rw [if_neg (by omega), if_neg (by omega)]
  · rw [if_neg (by omega), if_neg (by omega)]
  · rw [if_neg (by omega), if_neg (by omega)]
  · rw [if_neg (by omega), if_neg (by omega)]
end Go.Proofs.YtlnhpkmcinohdaaDoor

/- (fold.Chain).takeOut. -/
namespace Go.Proofs.YtlnhpkmcinohdaaDoor
open Go.RowKit

theorem natAt_none (w : World) : NatAt w (.slice none 0 0) 0 := ⟨[], fun i hi => by simp at hi, fun i hi => by simp at hi, rfl, Or.inl ⟨_, _, rfl, rfl⟩⟩
theorem NatOf_zero (w : World) : Calls Tryd.prog 41 #[.int .u64 0] w fun e w' => e = .returned (.slice none 0 0) ∧ w' = w := by
  go_enter Tryd.func41, Tryd.ntmps41
  go_wp2_with fail
  go_ret
  exact ⟨rfl, rfl⟩
theorem NatOf_all (n : Nat) (w : World) (h : n < 18446744073709551616) : Calls Tryd.prog 41 #[.int .u64 n] w fun e w' => ∃ v, e = .returned v ∧ NatAt w' v n ∧ Below w.heap.size w w' := by
  rcases Nat.eq_zero_or_pos n with rfl | h0
  · exact (NatOf_zero w).mono fun e w' ⟨he, hw⟩ => ⟨_, he, natAt_none _, by rw [hw]; exact Below.refl _ _⟩
  · exact NatOf_any n w h0 h
theorem sumTo_le {z : Nat → Nat} {M : Nat} : ∀ {n : Nat}, (∀ i, i < n → z i ≤ M) → sumTo z n ≤ n * M
  | 0, _ => by simp [sumTo]
  | n + 1, h => by
    have h1 := sumTo_le (n := n) (fun i hi => h i (by omega))
    have h2 := h n (by omega)
    rw [sumTo, Nat.add_mul]; omega

theorem box_later {W W' : World} {bx : Nat} {x0 x1 x2 : Value} (h : W.cell? ⟨bx, 2, none⟩ = some x0 ∧ W.cell? ⟨bx, 3, none⟩ = some x1 ∧ W.cell? ⟨bx, 4, none⟩ = some x2) (hb : Below W.heap.size W W') : W'.cell? ⟨bx, 2, none⟩ = some x0 ∧ W'.cell? ⟨bx, 3, none⟩ = some x1 ∧ W'.cell? ⟨bx, 4, none⟩ = some x2 :=
  ⟨by rw [hb.cell (cell_lt h.1)]; exact h.1, by rw [hb.cell (cell_lt h.2.1)]; exact h.2.1, by rw [hb.cell (cell_lt h.2.2)]; exact h.2.2⟩
theorem box_set {W : World} {bx b k : Nat} {x0 x1 x2 z : Value} (hz : W.cell? ⟨b, k, none⟩ = some z) (hne : b < bx) (h : W.cell? ⟨bx, 2, none⟩ = some x0 ∧ W.cell? ⟨bx, 3, none⟩ = some x1 ∧ W.cell? ⟨bx, 4, none⟩ = some x2) (y : Value) : (W.setCell ⟨b, k, none⟩ y).cell? ⟨bx, 2, none⟩ = some x0 ∧ (W.setCell ⟨b, k, none⟩ y).cell? ⟨bx, 3, none⟩ = some x1 ∧ (W.setCell ⟨b, k, none⟩ y).cell? ⟨bx, 4, none⟩ = some x2 := by
  have hn : ∀ j, (⟨bx, j, none⟩ : Addr) ≠ ⟨b, k, none⟩ := fun j e => by have := congrArg Addr.block e; simp at this; omega
  refine ⟨?_, ?_, ?_⟩
  · rw [cell_put _ hz, if_neg (hn _)]; exact h.1
  · rw [cell_put _ hz, if_neg (hn _)]; exact h.2.1
  · rw [cell_put _ hz, if_neg (hn _)]; exact h.2.2
theorem NatOf_new (n : Nat) (w : World) (h : n < 18446744073709551616) : Calls Tryd.prog 41 #[.int .u64 n] w fun e w' => ∃ v, e = .returned v ∧ NatNew w.heap.size w' v n ∧ Below w.heap.size w w' := by
  rcases Nat.eq_zero_or_pos n with rfl | h0
  · exact (NatOf_zero w).mono fun e w' ⟨he, hw⟩ => ⟨_, he, ⟨natAt_none _, fun b o l c h => by cases h⟩, by rw [hw]; exact Below.refl _ _⟩
  · have hz : ((n : Int) == 0) = false := by simp; omega
    go_enter Tryd.func41, Tryd.ntmps41
    go_wp2_with fail
    go_ret
    refine ⟨_, rfl, ⟨⟨[n], (fun i hi => by simp at hi; subst hi; simpa using h), (fun i hi => by simp at hi; subst hi; simp; omega), wv_single n, Or.inr ⟨w.heap.size, 0, 1, rfl, by simp, by simp, fun i hi => ?_⟩⟩, fun b o l c hv _ => by simp at hv; omega⟩, (Below.refl _ _).alloc (Nat.le_refl _) _⟩
    have : i = 0 := by simp at hi; exact hi
    subst this
    simp

set_option maxRecDepth 100000 in
set_option maxHeartbeats 8000000 in
theorem takeOut_any (w w00 : World) (sad : Option Addr) (sl sc : Nat) (pl : Int) (n s g : Nat) (rb cp : Nat → Nat) (f : Nat → Nat → Value) (V : Nat → Nat → Nat) (h : FoldAt w w00 n g rb cp f V) (hs : s < n) (hn : n ≤ 8) (hV : ∀ i k, i < n + 2 → k < n → V i k < 18446744073709551616 ^ 40) :
    Calls Tryd.prog 70 #[.agg #[.slice sad sl sc, .int .i64 pl, .slice (some ⟨g, 0, none⟩) n n, .slice (some ⟨rb n, 0, none⟩) n n, .slice (some ⟨rb (n + 1), 0, none⟩) n n], .int .i64 s] w00 fun e w' => e = .returned (.tuple #[]) ∧ (∃ f', FoldAt w w' n g rb cp f' (takeV n s V)) ∧ Keeps n rb w00 w' := by
  have hlt : ∀ i, i < n + 2 → rb i < w00.heap.size := fun i hi => cell_lt ((h.rows i hi).row s hs)
  have hgl : g < w00.heap.size := cell_lt (h.outer s hs)
  obtain ⟨bx, hbx⟩ : ∃ bx, bx = w00.heap.size := ⟨_, rfl⟩
  obtain ⟨W1, hW1⟩ : ∃ W1, W1 = w00.alloc (.cells #[.slice sad sl sc, .int .i64 pl, .slice (some ⟨g, 0, none⟩) n n, .slice (some ⟨rb n, 0, none⟩) n n, .slice (some ⟨rb (n + 1), 0, none⟩) n n] 110) := ⟨_, rfl⟩
  have hF1 : FoldAt w W1 n g rb cp f V := h.later (by rw [hW1]; exact (Below.refl _ _).alloc (Nat.le_refl _) _)
  have x0 : W1.cell? ⟨bx, 2, none⟩ = some (.slice (some ⟨g, 0, none⟩) n n) := by rw [hW1]; exact top_cell _ _ _ _ hbx
  have x1 : W1.cell? ⟨bx, 3, none⟩ = some (.slice (some ⟨rb n, 0, none⟩) n n) := by rw [hW1]; exact top_cell _ _ _ _ hbx
  have x2 : W1.cell? ⟨bx, 4, none⟩ = some (.slice (some ⟨rb (n + 1), 0, none⟩) n n) := by rw [hW1]; exact top_cell _ _ _ _ hbx
  rw [← hbx] at hlt hgl
  have HKW : Hid (Keeps n rb w00 W1) := keeps_below (by rw [hW1]; exact (Below.refl _ _).alloc (Nat.le_refl _) _)
  have HX : Hid (W1.cell? ⟨bx, 2, none⟩ = some (.slice (some ⟨g, 0, none⟩) n n) ∧ W1.cell? ⟨bx, 3, none⟩ = some (.slice (some ⟨rb n, 0, none⟩) n n) ∧ W1.cell? ⟨bx, 4, none⟩ = some (.slice (some ⟨rb (n + 1), 0, none⟩) n n)) := ⟨x0, x1, x2⟩
  have HLT := Hid.mk' hlt
  have HF1 := Hid.mk' hF1
  have HV := Hid.mk' hV
  have HSM : Hid (∀ k, k ≤ s → sumTo (V s) k < 18446744073709551616 ^ 41) := fun k hk => by
    have h1 := sumTo_le (z := V s) (M := 18446744073709551616 ^ 40) (n := k) (fun i hi => Nat.le_of_lt (hV s i (by omega) (by omega)))
    have h2 : k * 18446744073709551616 ^ 40 ≤ 8 * 18446744073709551616 ^ 40 := Nat.mul_le_mul_right _ (by omega)
    have h3 : (18446744073709551616 : Nat) ^ 41 = 18446744073709551616 * 18446744073709551616 ^ 40 := by rw [Nat.pow_succ, Nat.mul_comm]
    have h4 : 0 < (18446744073709551616 : Nat) ^ 40 := Nat.pow_pos (by decide)
    generalize (18446744073709551616 : Nat) ^ 40 = P at *
    generalize (18446744073709551616 : Nat) ^ 41 = P1 at *
    omega
  have hz := NatOf_zero W1
  clear h hF1 x0 x1 x2 hlt hV
  go_enter Tryd.func70, Tryd.ntmps70
  go_wp2_with fail
  rw [← hW1, ← hbx]
  refine hz.mono ?_
  clear hz
  rintro e w2 ⟨rfl, hw2⟩
  rw [hw2]
  clear hw2
  clear hW1 hbx
  have hsn : (s : Int) < (n : Int) := by omega
  have hs0 : (0 : Int) ≤ (s : Int) := by omega
  go_wp2_with fail
  go_loopw [4, 11] (fun o t wr => ∃ k : Nat, k ≤ s ∧ t = .int .i64 k ∧ Hid (NatAt wr o (sumTo (V s) k)) ∧ Hid (Below W1.heap.size W1 wr)) (fun _ t _ => s - (intOf t).toNat)
  case atStart => exact ⟨0, Nat.zero_le _, rfl, natAt_none _, Below.refl _ _⟩
  case round =>
    obtain ⟨k, hk, rfl, HO, HB⟩ := hrel
    have HFr := Hid.mk' (HF1.out.later HB.out)
    rcases Nat.lt_or_ge k s with h1 | h1
    · have hks : (k : Int) < (s : Int) := by omega
      have hkn : (k : Int) < (n : Int) := by omega
      have hk0 : (0 : Int) ≤ (k : Int) := by omega
      have y0 : wr.cell? ⟨bx, 2, none⟩ = some (.slice (some ⟨g, 0, none⟩) n n) := by rw [HB.out.cell (cell_lt HX.out.1)]; exact HX.out.1
      have y1 := HFr.out.outer s hs
      have y2 := (HFr.out.rows s (by omega)).row k (by omega)
      have hpl := Plus_any u4 (f s k) (sumTo (V s) k) (V s k) 41 wr HO.out (HFr.out.nats s k (by omega) (by omega)) (HSM.out k (by omega)) (Nat.lt_of_lt_of_le (HV.out s k (by omega) (by omega)) (Nat.pow_le_pow_right (by decide) (by decide))) (by decide)
      have HE : Hid (sumTo (V s) (k + 1) = sumTo (V s) k + V s k) := rfl
      rw [← HE.out] at hpl
      go_wp2_with fail
      refine hpl.mono ?_
      clear hpl
      rintro e w3 ⟨r, rfl, hr, hb3⟩
      have HR := Hid.mk' hr
      have HB3 := Hid.mk' (below_chain HB.out hb3)
      clear hr hb3
      go_wp2_with fail
      exact ⟨⟨k + 1, h1, by go_num, HR, HB3⟩, by simp [intOf]; omega⟩
    · obtain rfl : s = k := by omega
      obtain ⟨out, hout⟩ : ∃ out, out = sumTo (V s) s := ⟨_, rfl⟩
      have HOUT := Hid.mk' hout
      have HOB : Hid (out < 18446744073709551616 ^ 41) := by rw [hout]; exact HSM.out s (Nat.le_refl _)
      rw [← hout] at HO
      clear hout HSM
      have HXr : Hid (wr.cell? ⟨bx, 2, none⟩ = some (.slice (some ⟨g, 0, none⟩) n n) ∧ wr.cell? ⟨bx, 3, none⟩ = some (.slice (some ⟨rb n, 0, none⟩) n n) ∧ wr.cell? ⟨bx, 4, none⟩ = some (.slice (some ⟨rb (n + 1), 0, none⟩) n n)) := ⟨by rw [HB.out.cell (cell_lt HX.out.1)]; exact HX.out.1, by rw [HB.out.cell (cell_lt HX.out.2.1)]; exact HX.out.2.1, by rw [HB.out.cell (cell_lt HX.out.2.2)]; exact HX.out.2.2⟩
      have HFs : Hid (FoldAt w wr n g rb cp f (takeTo n s out V 0 0)) := HFr.out.congr (fun i k _ _ => takeTo_start n s out V i k)
      have HKr : Hid (Keeps n rb w00 wr) := HKW.out.later HB.out
      clear HFr HF1 HB HX
      go_wp2_with fail
      obtain ⟨Wr, hWr⟩ : ∃ Wr, Wr = wr := ⟨_, rfl⟩
      rw [← hWr] at HXr HFs HO HKr ⊢
      clear hWr
      obtain ⟨ov, hov⟩ : ∃ ov, ov = u4 := ⟨_, rfl⟩
      rw [← hov] at HO ⊢
      clear hov
      obtain ⟨oa, ol, oc, hoe⟩ := HO.out.isSlice
      subst hoe
      go_loopw [26] (fun t wr => ∃ (i : Nat) (f' : Nat → Nat → Value), i ≤ s ∧ t = .int .i64 i ∧ Hid (NatAt wr (.slice oa ol oc) out) ∧ Hid (FoldAt w wr n g rb cp f' (takeTo n s out V i 0)) ∧ Hid (wr.cell? ⟨bx, 2, none⟩ = some (.slice (some ⟨g, 0, none⟩) n n) ∧ wr.cell? ⟨bx, 3, none⟩ = some (.slice (some ⟨rb n, 0, none⟩) n n) ∧ wr.cell? ⟨bx, 4, none⟩ = some (.slice (some ⟨rb (n + 1), 0, none⟩) n n)) ∧ Hid (Keeps n rb w00 wr)) (fun t _ => s - (intOf t).toNat)
      case atStart => exact ⟨0, f, Nat.zero_le _, rfl, HO, HFs, HXr, HKr⟩
      case round =>
        clear HO HFs HXr HKr
        obtain ⟨i, f1, hi, rfl, HO, HF, HX, HKE⟩ := hrel
        rcases Nat.lt_or_ge i s with h2 | h2
        · have his : (i : Int) < (s : Int) := by omega
          have hin : (i : Int) < (n : Int) := by omega
          have hi0 : (0 : Int) ≤ (i : Int) := by omega
          have y0 := HX.out.1
          have y1 := HF.out.outer i (by omega)
          have y2 := (HF.out.rows i (by omega)).row s hs
          have HTO := Hid.mk' (HF.out.nats i s (by omega) hs)
          rw [(takeTo_own (k := 0) h2 hs).2.2.1] at HTO
          generalize f1 i s = tq at *
          go_wp2_with fail
          obtain ⟨Wr, hWr⟩ : ∃ Wr, Wr = wr := ⟨_, rfl⟩
          rw [← hWr] at HX HF HO HTO HKE ⊢
          clear hWr y0 y1 y2
          go_loopw [38] (fun t wr => ∃ (k : Nat) (f' : Nat → Nat → Value), k ≤ s ∧ t = .int .i64 k ∧ Hid (NatAt wr (.slice oa ol oc) out) ∧ Hid (NatAt wr tq (V i s)) ∧ Hid (FoldAt w wr n g rb cp f' (takeTo n s out V i k)) ∧ Hid (wr.cell? ⟨bx, 2, none⟩ = some (.slice (some ⟨g, 0, none⟩) n n) ∧ wr.cell? ⟨bx, 3, none⟩ = some (.slice (some ⟨rb n, 0, none⟩) n n) ∧ wr.cell? ⟨bx, 4, none⟩ = some (.slice (some ⟨rb (n + 1), 0, none⟩) n n)) ∧ Hid (Keeps n rb w00 wr)) (fun t _ => s - (intOf t).toNat)
          case atStart => exact ⟨0, f1, Nat.zero_le _, rfl, HO, HTO, HF, HX, HKE⟩
          case round =>
            clear HO HTO HF HX HKE
            obtain ⟨k, f2, hk, rfl, HO, HTO, HF, HX, HKE⟩ := hrel
            rcases Nat.lt_or_ge k s with h3 | h3
            · have hks : (k : Int) < (s : Int) := by omega
              have hkn : (k : Int) < (n : Int) := by omega
              have hk0 : (0 : Int) ≤ (k : Int) := by omega
              have y0 := HX.out.1
              have y1 := HF.out.outer i (by omega)
              have y2 := HF.out.outer s hs
              have y3 := (HF.out.rows i (by omega)).row k (by omega)
              have y4 := (HF.out.rows s (by omega)).row k (by omega)
              have y5 := (HF.out.rows i (by omega)).fz k (by omega)
              have HN1 := Hid.mk' (HF.out.nats i k (by omega) (by omega))
              have HN2 := Hid.mk' (HF.out.nats s k (by omega) (by omega))
              rw [(takeTo_own h2 hs).1] at HN1
              rw [(takeTo_own h2 hs).2.1] at HN2
              have hv1 := HV.out i k (by omega) (by omega)
              have hv2 := HV.out s k (by omega) (by omega)
              have hv3 := HV.out i s (by omega) hs
              have HVB : Hid (V i k < 18446744073709551616 ^ 41 ∧ V s k < 18446744073709551616 ^ 41 ∧ V i s < 18446744073709551616 ^ 41) := ⟨Nat.lt_of_lt_of_le hv1 (Nat.pow_le_pow_right (by decide) (by decide)), Nat.lt_of_lt_of_le hv2 (Nat.pow_le_pow_right (by decide) (by decide)), Nat.lt_of_lt_of_le hv3 (Nat.pow_le_pow_right (by decide) (by decide))⟩
              have HPB : Hid (V i k * out < 18446744073709551616 ^ 82 ∧ V i s * V s k < 18446744073709551616 ^ 82) := ⟨by rw [show 82 = 41 + 41 by decide, Nat.pow_add]; exact Nat.mul_lt_mul'' HVB.out.1 HOB.out, by rw [show 82 = 41 + 41 by decide, Nat.pow_add]; exact Nat.mul_lt_mul'' HVB.out.2.2 HVB.out.2.1⟩
              have HFT : Hid (∀ W, Below wr.heap.size wr W → ∀ y, NatAt W y (V i k * out + V i s * V s k) → ∃ f', FoldAt w (W.setCell ⟨rb i, k, none⟩ y) n g rb cp f' (takeTo n s out V i (k + 1))) := fun W hb y hy => ⟨_, (HF.out.later hb).set (i := i) (k := k) (by omega) (by omega) hy (fun i' k' _ _ => takeTo_next h2 h3 i' k')⟩
              clear hv1 hv2 hv3
              generalize f2 i k = x at *
              generalize f2 s k = y at *
              obtain ⟨xa, xl, xc, hxe⟩ := HN1.out.isSlice
              subst hxe
              have HKS : Hid (∀ W, Below wr.heap.size wr W → (W.cell? ⟨bx, 2, none⟩ = some (.slice (some ⟨g, 0, none⟩) n n) ∧ W.cell? ⟨g, i, none⟩ = some (.slice (some ⟨rb i, 0, none⟩) n (cp i)) ∧ W.cell? ⟨g, s, none⟩ = some (.slice (some ⟨rb s, 0, none⟩) n (cp s)) ∧ W.cell? ⟨rb i, k, none⟩ = some (.slice xa xl xc) ∧ W.cell? ⟨rb s, k, none⟩ = some y)) := fun W hb => ⟨by rw [hb.cell (cell_lt y0)]; exact y0, by rw [hb.cell (cell_lt y1)]; exact y1, by rw [hb.cell (cell_lt y2)]; exact y2, by rw [hb.cell (cell_lt y3)]; exact y3, by rw [hb.cell (cell_lt y4)]; exact y4⟩
              have HB1 : Hid (∀ W, Below wr.heap.size wr W → Calls Tryd.prog 74 #[.slice xa xl xc, .slice oa ol oc] W fun e w' => ∃ r, e = .returned r ∧ NatAt w' r (V i k * out) ∧ Below W.heap.size W w') := fun W hb => By_any (.slice xa xl xc) (.slice oa ol oc) _ _ 41 W (HN1.out.later hb) (HO.out.later hb) HVB.out.1 HOB.out (by decide)
              have HB2 : Hid (∀ W, Below wr.heap.size wr W → Calls Tryd.prog 74 #[tq, y] W fun e w' => ∃ r, e = .returned r ∧ NatAt w' r (V i s * V s k) ∧ Below W.heap.size W w') := fun W hb => By_any tq y _ _ 41 W (HTO.out.later hb) (HN2.out.later hb) HVB.out.2.2 HVB.out.2.1 (by decide)
              have HPL : Hid (∀ W p q, NatAt W p (V i k * out) → NatAt W q (V i s * V s k) → Calls Tryd.prog 42 #[p, q] W fun e w' => ∃ r, e = .returned r ∧ NatAt w' r (V i k * out + V i s * V s k) ∧ Below W.heap.size W w') := fun W p q hp hq => Plus_any p q _ _ 82 W hp hq HPB.out.1 HPB.out.2 (by decide)
              have HFZ : Hid (∀ W, Below wr.heap.size wr W → W.frozen? ⟨rb i, k, none⟩ = false) := fun W hb => by rw [hb.frozen (cell_lt y3)]; exact y5
              have hcur : Below wr.heap.size wr wr.drew := (Below.refl _ _).drew
              clear y0 y1 y2 y3 y4 y5
              go_wp2_with fail
              refine region_but_last (n := 28) (S := fun W => W.cell? ⟨bx, 2, none⟩ = some (.slice (some ⟨g, 0, none⟩) n n) ∧ W.cell? ⟨g, i, none⟩ = some (.slice (some ⟨rb i, 0, none⟩) n (cp i)) ∧ W.cell? ⟨g, s, none⟩ = some (.slice (some ⟨rb s, 0, none⟩) n (cp s)) ∧ W.cell? ⟨rb i, k, none⟩ = some (.slice xa xl xc) ∧ W.cell? ⟨rb s, k, none⟩ = some y) (by kernel_rfl) (by kernel_rfl) (by kernel_rfl) (HKS.out _ hcur) (fun hHeld => ?_)
              refine wpAnyH_take (i := 0) (v := ?v0) rfl (by kernel_rfl) (by kernel_rfl) (by kernel_rfl) (fun _ _ _ h => h) (Or.inl ⟨by rfl, ?hy0⟩) (by assumption) ?rest0
              case hy0 => (intro w hSw; (try dsimp only at hSw); go_simp <;> (try with_reducible rfl))
              simp only [Act.put]
              refine wpAnyH_take (i := 1) (v := ?v1) rfl (by kernel_rfl) (by kernel_rfl) (by kernel_rfl) (fun _ _ _ h => h) (Or.inl ⟨by rfl, ?hy1⟩) (by assumption) ?rest1
              case hy1 => (intro w hSw; (try dsimp only at hSw); go_simp <;> (try with_reducible rfl))
              simp only [Act.put]
              refine wpAnyH_take (i := 2) (v := ?v2) rfl (by kernel_rfl) (by kernel_rfl) (by kernel_rfl) (fun _ _ _ h => h) (Or.inl ⟨by rfl, ?hy2⟩) (by assumption) ?rest2
              case hy2 => (intro w hSw; (try dsimp only at hSw); go_simp <;> (try with_reducible rfl))
              simp only [Act.put]
              refine wpAnyH_take (i := 3) (v := ?v3) rfl (by kernel_rfl) (by kernel_rfl) (by kernel_rfl) (fun _ _ _ h => h) (Or.inl ⟨by rfl, ?hy3⟩) (by assumption) ?rest3
              case hy3 => (intro w hSw; (try dsimp only at hSw); go_simp <;> (try with_reducible rfl))
              simp only [Act.put]
              refine wpAnyH_take (i := 4) (v := ?v4) rfl (by kernel_rfl) (by kernel_rfl) (by kernel_rfl) (fun _ _ _ h => h) (Or.inl ⟨by rfl, ?hy4⟩) (by assumption) ?rest4
              case hy4 => (intro w hSw; (try dsimp only at hSw); go_simp <;> (try with_reducible rfl))
              simp only [Act.put]
              refine wpAnyH_take (i := 5) (v := ?v5) rfl (by kernel_rfl) (by kernel_rfl) (by kernel_rfl) (fun _ _ _ h => h) (Or.inl ⟨by rfl, ?hy5⟩) (by assumption) ?rest5
              case hy5 => (intro w hSw; (try dsimp only at hSw); go_simp <;> (try with_reducible rfl))
              simp only [Act.put]
              refine wpAnyH_take (i := 6) (v := ?v6) rfl (by kernel_rfl) (by kernel_rfl) (by kernel_rfl) (fun _ _ _ h => h) (Or.inl ⟨by rfl, ?hy6⟩) (by assumption) ?rest6
              case hy6 => (intro w hSw; (try dsimp only at hSw); go_simp <;> (try with_reducible rfl))
              simp only [Act.put]
              refine wpAnyH_take (i := 7) (v := ?v7) rfl (by kernel_rfl) (by kernel_rfl) (by kernel_rfl) (fun _ _ _ h => h) (Or.inl ⟨by rfl, ?hy7⟩) (by assumption) ?rest7
              case hy7 => (intro w hSw; (try dsimp only at hSw); go_simp <;> (try with_reducible rfl))
              simp only [Act.put]
              refine wpAnyH_take (i := 8) (v := ?v8) rfl (by kernel_rfl) (by kernel_rfl) (by kernel_rfl) (fun _ _ _ h => h) (Or.inl ⟨by rfl, ?hy8⟩) (by assumption) ?rest8
              case hy8 => (intro w hSw; (try dsimp only at hSw); go_simp <;> (try with_reducible rfl))
              simp only [Act.put]
              refine wpAnyH_take (i := 9) (v := ?v9) rfl (by kernel_rfl) (by kernel_rfl) (by kernel_rfl) (fun _ _ _ h => h) (Or.inl ⟨by rfl, ?hy9⟩) (by assumption) ?rest9
              case hy9 => (intro w hSw; (try dsimp only at hSw); go_simp <;> (try with_reducible rfl))
              simp only [Act.put]
              refine wpAnyH_take (i := 10) (v := ?v10) rfl (by kernel_rfl) (by kernel_rfl) (by kernel_rfl) (fun _ _ _ h => h) (Or.inl ⟨by rfl, ?hy10⟩) (by assumption) ?rest10
              case hy10 => (intro w hSw; (try dsimp only at hSw); go_simp <;> (try with_reducible rfl))
              simp only [Act.put]
              refine wpAnyH_take (i := 11) (v := ?v11) rfl (by kernel_rfl) (by kernel_rfl) (by kernel_rfl) (fun _ _ _ h => h) (Or.inl ⟨by rfl, ?hy11⟩) (by assumption) ?rest11
              case hy11 => (intro w hSw; (try dsimp only at hSw); go_simp <;> (try with_reducible rfl))
              simp only [Act.put]
              refine wpAnyH_take (i := 12) (v := ?v12) rfl (by kernel_rfl) (by kernel_rfl) (by kernel_rfl) (fun _ _ _ h => h) (Or.inl ⟨by rfl, ?hy12⟩) (by assumption) ?rest12
              case hy12 => (intro w hSw; (try dsimp only at hSw); go_simp <;> (try with_reducible rfl))
              simp only [Act.put]
              refine wpAnyH_take (i := 13) (v := ?v13) rfl (by kernel_rfl) (by kernel_rfl) (by kernel_rfl) (fun _ _ _ h => h) (Or.inl ⟨by rfl, ?hy13⟩) (by assumption) ?rest13
              case hy13 => (intro w hSw; (try dsimp only at hSw); go_simp <;> (try with_reducible rfl))
              simp only [Act.put]
              refine wpAnyH_take (i := 14) (v := ?v14) rfl (by kernel_rfl) (by kernel_rfl) (by kernel_rfl) (fun _ _ _ h => h) (Or.inl ⟨by rfl, ?hy14⟩) (by assumption) ?rest14
              case hy14 => (intro w hSw; (try dsimp only at hSw); go_simp <;> (try with_reducible rfl))
              simp only [Act.put]
              refine wpAnyH_take (i := 16) (v := ?v16) rfl (by kernel_rfl) (by kernel_rfl) (by kernel_rfl) (fun _ _ _ h => h) (Or.inl ⟨by rfl, ?hy16⟩) (by assumption) ?rest16
              case hy16 => (intro w hSw; (try dsimp only at hSw); go_simp <;> (try with_reducible rfl))
              simp only [Act.put]
              refine wpAnyH_take (i := 17) (v := ?v17) rfl (by kernel_rfl) (by kernel_rfl) (by kernel_rfl) (fun _ _ _ h => h) (Or.inl ⟨by rfl, ?hy17⟩) (by assumption) ?rest17
              case hy17 => (intro w hSw; (try dsimp only at hSw); go_simp <;> (try with_reducible rfl))
              simp only [Act.put]
              refine wpAnyH_take (i := 18) (v := ?v18) rfl (by kernel_rfl) (by kernel_rfl) (by kernel_rfl) (fun _ _ _ h => h) (Or.inl ⟨by rfl, ?hy18⟩) (by assumption) ?rest18
              case hy18 => (intro w hSw; (try dsimp only at hSw); go_simp <;> (try with_reducible rfl))
              simp only [Act.put]
              refine wpAnyH_take (i := 19) (v := ?v19) rfl (by kernel_rfl) (by kernel_rfl) (by kernel_rfl) (fun _ _ _ h => h) (Or.inl ⟨by rfl, ?hy19⟩) (by assumption) ?rest19
              case hy19 => (intro w hSw; (try dsimp only at hSw); go_simp <;> (try with_reducible rfl))
              simp only [Act.put]
              refine wpAnyH_take (i := 20) (v := ?v20) rfl (by kernel_rfl) (by kernel_rfl) (by kernel_rfl) (fun _ _ _ h => h) (Or.inl ⟨by rfl, ?hy20⟩) (by assumption) ?rest20
              case hy20 => (intro w hSw; (try dsimp only at hSw); go_simp <;> (try with_reducible rfl))
              simp only [Act.put]
              refine wpAnyH_take (i := 21) (v := ?v21) rfl (by kernel_rfl) (by kernel_rfl) (by kernel_rfl) (fun _ _ _ h => h) (Or.inl ⟨by rfl, ?hy21⟩) (by assumption) ?rest21
              case hy21 => (intro w hSw; (try dsimp only at hSw); go_simp <;> (try with_reducible rfl))
              simp only [Act.put]
              refine wpAnyH_take (i := 22) (v := ?v22) rfl (by kernel_rfl) (by kernel_rfl) (by kernel_rfl) (fun _ _ _ h => h) (Or.inl ⟨by rfl, ?hy22⟩) (by assumption) ?rest22
              case hy22 => (intro w hSw; (try dsimp only at hSw); go_simp <;> (try with_reducible rfl))
              simp only [Act.put]
              refine wpAnyH_take (i := 23) (v := ?v23) rfl (by kernel_rfl) (by kernel_rfl) (by kernel_rfl) (fun _ _ _ h => h) (Or.inl ⟨by rfl, ?hy23⟩) (by assumption) ?rest23
              case hy23 => (intro w hSw; (try dsimp only at hSw); go_simp <;> (try with_reducible rfl))
              simp only [Act.put]
              refine wpAnyH_take (i := 24) (v := ?v24) rfl (by kernel_rfl) (by kernel_rfl) (by kernel_rfl) (fun _ _ _ h => h) (Or.inl ⟨by rfl, ?hy24⟩) (by assumption) ?rest24
              case hy24 => (intro w hSw; (try dsimp only at hSw); go_simp <;> (try with_reducible rfl))
              simp only [Act.put]
              refine wpAnyH_ready (rs := [15]) (by kernel_rfl) (by simp) ?_
              refine AllReadyH.cons rfl (fun K hK => ?_) AllReadyH.nil
              go_simp
              refine (HB1.out _ hcur).mono ?_
              rintro e w5 ⟨rp, rfl, hrp, hb5⟩
              have hcur := below_chain hcur hb5
              have HXP := Hid.mk' hrp
              go_wp2_with fail
              refine hK.out _ _ ?_ (fun hHeld => ?_)
              · exact HKS.out _ hcur
              clear hK K
              refine wpAnyH_ready (rs := [25]) (by kernel_rfl) (by simp) ?_
              refine AllReadyH.cons rfl (fun K hK => ?_) AllReadyH.nil
              go_simp
              refine (HB2.out _ hcur).mono ?_
              rintro e w6 ⟨rq, rfl, hrq, hb6⟩
              have hcur := below_chain hcur hb6
              have HXQ := Hid.mk' hrq
              go_wp2_with fail
              refine hK.out _ _ ?_ (fun hHeld => ?_)
              · exact HKS.out _ hcur
              clear hK K
              refine wpAnyH_ready (rs := [26]) (by kernel_rfl) (by simp) ?_
              refine AllReadyH.cons rfl (fun K hK => ?_) AllReadyH.nil
              go_simp
              refine (HPL.out _ _ _ (HXP.out.later hb6) HXQ.out).mono ?_
              rintro e w7 ⟨rv, rfl, hrv, hb7⟩
              obtain ⟨ra, rl, rc, rfl⟩ := hrv.isSlice
              have hcur := below_chain hcur hb7
              have z5 := HFZ.out _ hcur
              have z3 := (HKS.out _ hcur).2.2.2.1
              go_wp2_with fail
              refine hK.out _ _ ?_ (fun hHeld => ?_)
              · exact HKS.out _ hcur
              clear hK K
              refine wpAnyH_take (i := 27) (v := ?v27) rfl (by kernel_rfl) (by kernel_rfl) (by kernel_rfl) (fun _ _ _ h => h) (Or.inl ⟨by rfl, ?hy27⟩) (by assumption) ?rest27
              case hy27 => (intro w hSw; (try dsimp only at hSw); go_simp <;> (try with_reducible rfl))
              simp only [Act.put]
              refine wpAnyH_done (by kernel_rfl) ?_ _
              refine ahead_last rfl (fun K hK => ?_)
              go_simp
              refine hK _ _ ?_
              clear hK K
              go_wp2_with fail
              obtain ⟨f3, hf3⟩ := HFT.out w7 hcur _ hrv
              refine ⟨⟨k + 1, f3, h3, by go_num, (HO.out.later hcur).putS z3, (HTO.out.later hcur).putS z3, hf3, ?_, (HKE.out.later hcur).set (by omega) _ _⟩, by simp [intOf]; omega⟩
              exact box_set z3 (HLT.out i (by omega)) (box_later HX.out hcur) _
            · obtain rfl : s = k := by omega
              have y0 := HX.out.2.1
              have y3 := (HF.out.rows n (by omega)).row i (by omega)
              have y4 := (HF.out.rows n (by omega)).row s hs
              have y5 := (HF.out.rows n (by omega)).fz i (by omega)
              have HN1 := Hid.mk' (HF.out.nats n i (by omega) (by omega))
              have HN2 := Hid.mk' (HF.out.nats n s (by omega) hs)
              rw [(takeTo_own (k := 0) h2 hs).2.2.2.1] at HN1
              rw [(takeTo_own (k := 0) h2 hs).2.2.2.2] at HN2
              have hv1 := HV.out n i (by omega) (by omega)
              have hv2 := HV.out n s (by omega) hs
              have hv3 := HV.out i s (by omega) hs
              have HVB : Hid (V n i < 18446744073709551616 ^ 41 ∧ V n s < 18446744073709551616 ^ 41 ∧ V i s < 18446744073709551616 ^ 41) := ⟨Nat.lt_of_lt_of_le hv1 (Nat.pow_le_pow_right (by decide) (by decide)), Nat.lt_of_lt_of_le hv2 (Nat.pow_le_pow_right (by decide) (by decide)), Nat.lt_of_lt_of_le hv3 (Nat.pow_le_pow_right (by decide) (by decide))⟩
              have HPB : Hid (V n i * out < 18446744073709551616 ^ 82 ∧ V i s * V n s < 18446744073709551616 ^ 82) := ⟨by rw [show 82 = 41 + 41 by decide, Nat.pow_add]; exact Nat.mul_lt_mul'' HVB.out.1 HOB.out, by rw [show 82 = 41 + 41 by decide, Nat.pow_add]; exact Nat.mul_lt_mul'' HVB.out.2.2 HVB.out.2.1⟩
              have HFT : Hid (∀ W, Below wr.heap.size wr W → ∀ y, NatAt W y (V n i * out + V i s * V n s) → ∃ f', FoldAt w (W.setCell ⟨rb n, i, none⟩ y) n g rb cp f' (takeTo n s out V (i + 1) 0)) := fun W hb y hy => ⟨_, (HF.out.later hb).set (i := n) (k := i) (by omega) (by omega) hy (fun i' k' _ _ => takeTo_row h2 hs i' k')⟩
              clear hv1 hv2 hv3
              generalize f2 n i = x at *
              generalize f2 n s = y at *
              obtain ⟨xa, xl, xc, hxe⟩ := HN1.out.isSlice
              subst hxe
              have HKS : Hid (∀ W, Below wr.heap.size wr W → (W.cell? ⟨bx, 3, none⟩ = some (.slice (some ⟨rb n, 0, none⟩) n n) ∧ W.cell? ⟨rb n, i, none⟩ = some (.slice xa xl xc) ∧ W.cell? ⟨rb n, s, none⟩ = some y)) := fun W hb => ⟨by rw [hb.cell (cell_lt y0)]; exact y0, by rw [hb.cell (cell_lt y3)]; exact y3, by rw [hb.cell (cell_lt y4)]; exact y4⟩
              have HB1 : Hid (∀ W, Below wr.heap.size wr W → Calls Tryd.prog 74 #[.slice xa xl xc, .slice oa ol oc] W fun e w' => ∃ r, e = .returned r ∧ NatAt w' r (V n i * out) ∧ Below W.heap.size W w') := fun W hb => By_any (.slice xa xl xc) (.slice oa ol oc) _ _ 41 W (HN1.out.later hb) (HO.out.later hb) HVB.out.1 HOB.out (by decide)
              have HB2 : Hid (∀ W, Below wr.heap.size wr W → Calls Tryd.prog 74 #[tq, y] W fun e w' => ∃ r, e = .returned r ∧ NatAt w' r (V i s * V n s) ∧ Below W.heap.size W w') := fun W hb => By_any tq y _ _ 41 W (HTO.out.later hb) (HN2.out.later hb) HVB.out.2.2 HVB.out.2.1 (by decide)
              have HPL : Hid (∀ W p q, NatAt W p (V n i * out) → NatAt W q (V i s * V n s) → Calls Tryd.prog 42 #[p, q] W fun e w' => ∃ r, e = .returned r ∧ NatAt w' r (V n i * out + V i s * V n s) ∧ Below W.heap.size W w') := fun W p q hp hq => Plus_any p q _ _ 82 W hp hq HPB.out.1 HPB.out.2 (by decide)
              have HFZ : Hid (∀ W, Below wr.heap.size wr W → W.frozen? ⟨rb n, i, none⟩ = false) := fun W hb => by rw [hb.frozen (cell_lt y3)]; exact y5
              have hcur : Below wr.heap.size wr wr.drew := (Below.refl _ _).drew
              clear y0 y3 y4 y5
              go_wp2_with fail
              refine region_but_last (n := 19) (S := fun W => W.cell? ⟨bx, 3, none⟩ = some (.slice (some ⟨rb n, 0, none⟩) n n) ∧ W.cell? ⟨rb n, i, none⟩ = some (.slice xa xl xc) ∧ W.cell? ⟨rb n, s, none⟩ = some y) (by kernel_rfl) (by kernel_rfl) (by kernel_rfl) (HKS.out _ hcur) (fun hHeld => ?_)
              refine wpAnyH_take (i := 0) (v := ?v0c) rfl (by kernel_rfl) (by kernel_rfl) (by kernel_rfl) (fun _ _ _ h => h) (Or.inl ⟨by rfl, ?hy0c⟩) (by assumption) ?rest0c
              case hy0c => (intro w hSw; (try dsimp only at hSw); go_simp <;> (try with_reducible rfl))
              simp only [Act.put]
              refine wpAnyH_take (i := 1) (v := ?v1c) rfl (by kernel_rfl) (by kernel_rfl) (by kernel_rfl) (fun _ _ _ h => h) (Or.inl ⟨by rfl, ?hy1c⟩) (by assumption) ?rest1c
              case hy1c => (intro w hSw; (try dsimp only at hSw); go_simp <;> (try with_reducible rfl))
              simp only [Act.put]
              refine wpAnyH_take (i := 2) (v := ?v2c) rfl (by kernel_rfl) (by kernel_rfl) (by kernel_rfl) (fun _ _ _ h => h) (Or.inl ⟨by rfl, ?hy2c⟩) (by assumption) ?rest2c
              case hy2c => (intro w hSw; (try dsimp only at hSw); go_simp <;> (try with_reducible rfl))
              simp only [Act.put]
              refine wpAnyH_take (i := 3) (v := ?v3c) rfl (by kernel_rfl) (by kernel_rfl) (by kernel_rfl) (fun _ _ _ h => h) (Or.inl ⟨by rfl, ?hy3c⟩) (by assumption) ?rest3c
              case hy3c => (intro w hSw; (try dsimp only at hSw); go_simp <;> (try with_reducible rfl))
              simp only [Act.put]
              refine wpAnyH_take (i := 4) (v := ?v4c) rfl (by kernel_rfl) (by kernel_rfl) (by kernel_rfl) (fun _ _ _ h => h) (Or.inl ⟨by rfl, ?hy4c⟩) (by assumption) ?rest4c
              case hy4c => (intro w hSw; (try dsimp only at hSw); go_simp <;> (try with_reducible rfl))
              simp only [Act.put]
              refine wpAnyH_take (i := 5) (v := ?v5c) rfl (by kernel_rfl) (by kernel_rfl) (by kernel_rfl) (fun _ _ _ h => h) (Or.inl ⟨by rfl, ?hy5c⟩) (by assumption) ?rest5c
              case hy5c => (intro w hSw; (try dsimp only at hSw); go_simp <;> (try with_reducible rfl))
              simp only [Act.put]
              refine wpAnyH_take (i := 6) (v := ?v6c) rfl (by kernel_rfl) (by kernel_rfl) (by kernel_rfl) (fun _ _ _ h => h) (Or.inl ⟨by rfl, ?hy6c⟩) (by assumption) ?rest6c
              case hy6c => (intro w hSw; (try dsimp only at hSw); go_simp <;> (try with_reducible rfl))
              simp only [Act.put]
              refine wpAnyH_take (i := 7) (v := ?v7c) rfl (by kernel_rfl) (by kernel_rfl) (by kernel_rfl) (fun _ _ _ h => h) (Or.inl ⟨by rfl, ?hy7c⟩) (by assumption) ?rest7c
              case hy7c => (intro w hSw; (try dsimp only at hSw); go_simp <;> (try with_reducible rfl))
              simp only [Act.put]
              refine wpAnyH_take (i := 8) (v := ?v8c) rfl (by kernel_rfl) (by kernel_rfl) (by kernel_rfl) (fun _ _ _ h => h) (Or.inl ⟨by rfl, ?hy8c⟩) (by assumption) ?rest8c
              case hy8c => (intro w hSw; (try dsimp only at hSw); go_simp <;> (try with_reducible rfl))
              simp only [Act.put]
              refine wpAnyH_take (i := 10) (v := ?v10c) rfl (by kernel_rfl) (by kernel_rfl) (by kernel_rfl) (fun _ _ _ h => h) (Or.inl ⟨by rfl, ?hy10c⟩) (by assumption) ?rest10c
              case hy10c => (intro w hSw; (try dsimp only at hSw); go_simp <;> (try with_reducible rfl))
              simp only [Act.put]
              refine wpAnyH_take (i := 11) (v := ?v11c) rfl (by kernel_rfl) (by kernel_rfl) (by kernel_rfl) (fun _ _ _ h => h) (Or.inl ⟨by rfl, ?hy11c⟩) (by assumption) ?rest11c
              case hy11c => (intro w hSw; (try dsimp only at hSw); go_simp <;> (try with_reducible rfl))
              simp only [Act.put]
              refine wpAnyH_take (i := 12) (v := ?v12c) rfl (by kernel_rfl) (by kernel_rfl) (by kernel_rfl) (fun _ _ _ h => h) (Or.inl ⟨by rfl, ?hy12c⟩) (by assumption) ?rest12c
              case hy12c => (intro w hSw; (try dsimp only at hSw); go_simp <;> (try with_reducible rfl))
              simp only [Act.put]
              refine wpAnyH_take (i := 13) (v := ?v13c) rfl (by kernel_rfl) (by kernel_rfl) (by kernel_rfl) (fun _ _ _ h => h) (Or.inl ⟨by rfl, ?hy13c⟩) (by assumption) ?rest13c
              case hy13c => (intro w hSw; (try dsimp only at hSw); go_simp <;> (try with_reducible rfl))
              simp only [Act.put]
              refine wpAnyH_take (i := 14) (v := ?v14c) rfl (by kernel_rfl) (by kernel_rfl) (by kernel_rfl) (fun _ _ _ h => h) (Or.inl ⟨by rfl, ?hy14c⟩) (by assumption) ?rest14c
              case hy14c => (intro w hSw; (try dsimp only at hSw); go_simp <;> (try with_reducible rfl))
              simp only [Act.put]
              refine wpAnyH_take (i := 15) (v := ?v15c) rfl (by kernel_rfl) (by kernel_rfl) (by kernel_rfl) (fun _ _ _ h => h) (Or.inl ⟨by rfl, ?hy15c⟩) (by assumption) ?rest15c
              case hy15c => (intro w hSw; (try dsimp only at hSw); go_simp <;> (try with_reducible rfl))
              simp only [Act.put]
              refine wpAnyH_ready (rs := [9]) (by kernel_rfl) (by simp) ?_
              refine AllReadyH.cons rfl (fun K hK => ?_) AllReadyH.nil
              go_simp
              refine (HB1.out _ hcur).mono ?_
              rintro e w5 ⟨rp, rfl, hrp, hb5⟩
              have hcur := below_chain hcur hb5
              have HXP := Hid.mk' hrp
              go_wp2_with fail
              refine hK.out _ _ ?_ (fun hHeld => ?_)
              · exact HKS.out _ hcur
              clear hK K
              refine wpAnyH_ready (rs := [16]) (by kernel_rfl) (by simp) ?_
              refine AllReadyH.cons rfl (fun K hK => ?_) AllReadyH.nil
              go_simp
              refine (HB2.out _ hcur).mono ?_
              rintro e w6 ⟨rq, rfl, hrq, hb6⟩
              have hcur := below_chain hcur hb6
              have HXQ := Hid.mk' hrq
              go_wp2_with fail
              refine hK.out _ _ ?_ (fun hHeld => ?_)
              · exact HKS.out _ hcur
              clear hK K
              refine wpAnyH_ready (rs := [17]) (by kernel_rfl) (by simp) ?_
              refine AllReadyH.cons rfl (fun K hK => ?_) AllReadyH.nil
              go_simp
              refine (HPL.out _ _ _ (HXP.out.later hb6) HXQ.out).mono ?_
              rintro e w7 ⟨rv, rfl, hrv, hb7⟩
              obtain ⟨ra, rl, rc, rfl⟩ := hrv.isSlice
              have hcur := below_chain hcur hb7
              have z5 := HFZ.out _ hcur
              have z3 := (HKS.out _ hcur).2.1
              go_wp2_with fail
              refine hK.out _ _ ?_ (fun hHeld => ?_)
              · exact HKS.out _ hcur
              clear hK K
              refine wpAnyH_take (i := 18) (v := ?v18c) rfl (by kernel_rfl) (by kernel_rfl) (by kernel_rfl) (fun _ _ _ h => h) (Or.inl ⟨by rfl, ?hy18c⟩) (by assumption) ?rest18c
              case hy18c => (intro w hSw; (try dsimp only at hSw); go_simp <;> (try with_reducible rfl))
              simp only [Act.put]
              refine wpAnyH_done (by kernel_rfl) ?_ _
              refine ahead_last rfl (fun K hK => ?_)
              go_simp
              refine hK _ _ ?_
              clear hK K
              go_wp2_with fail
              obtain ⟨f3, hf3⟩ := HFT.out w7 hcur _ hrv
              refine ⟨⟨i + 1, f3, h2, by go_num, (HO.out.later hcur).putS z3, hf3, ?_, (HKE.out.later hcur).set (i := n) (by omega) _ _⟩, by simp [intOf]; omega⟩
              exact box_set z3 (HLT.out n (by omega)) (box_later HX.out hcur) _
        · obtain rfl : s = i := by omega
          have y2 := HX.out.2.2
          have c1 := (HF.out.rows (n + 1) (by omega)).row s hs
          have c2 := (HF.out.rows (n + 1) (by omega)).fz s hs
          have HS := Hid.mk' (HF.out.set (i := n + 1) (k := s) (by omega) hs HO.out (V' := takeV n s V) (fun i k _ _ => by unfold takeV; rw [HOUT.out]))
          go_wp2_with fail
          go_end0
          exact ⟨rfl, ⟨_, HS.out⟩, HKE.out.set (i := n + 1) (by omega) _ _⟩
end Go.Proofs.YtlnhpkmcinohdaaDoor

/- A region that draws its order, of a few makers: walked once a maker, not once an order. -/
namespace Go.Proofs.YtlnhpkmcinohdaaDoor
open Go

theorem countP_set_lt : ∀ (l : List Bool) (i : Nat), l[i]? = some false → (l.set i true).countP (fun b => !b) < l.countP (fun b => !b)
  | [], i, h => by simp at h
  | b :: l, 0, h => by
    obtain rfl : b = false := by simpa using h
    simp
  | b :: l, i + 1, h => by
    have h1 := countP_set_lt l i (by simpa using h)
    simp only [List.set_cons_succ, List.countP_cons]
    omega
theorem ready_false {md : Region.Mode} {ops : Array Oper} {L : Array Bool} {i : Nat} (h : i ∈ Region.ready md ops L) : L.toList[i]? = some false := by
  have h1 := (mem_ready.1 h).1
  rw [Array.getElem?_toList]
  rcases Nat.lt_or_ge i L.size with h2 | h2
  · simp [h2] at h1 ⊢; exact h1
  · simp [Array.getElem?_eq_none h2] at h1

section
variable {P : Program} {md : Region.Mode} {ops : Array Oper} {Q : Exit → Act → World → Prop} {S : World → Prop}
theorem wpAnyH_inv (J : Array Bool → Act → World → Prop) (hend : ∀ L a w, J L a w → Region.ready md ops L = [] → Q .normal a w)
    (hstep : ∀ L a w, J L a w → ∀ i, i ∈ Region.ready md ops L → wpOp P ops Q i (fun a' w' => S w' ∧ J (L.setIfInBounds i true) a' w') a w) :
    ∀ (fuel : Nat) (L : Array Bool) (a : Act) (w : World), L.toList.countP (fun b => !b) ≤ fuel → J L a w → wpAnyH P md ops Q S fuel L a w
  | 0, L, a, w, hm, hJ => by
    have hr : Region.ready md ops L = [] := by
      cases h : Region.ready md ops L with
      | nil => rfl
      | cons i r =>
        have hi : i ∈ Region.ready md ops L := by rw [h]; simp
        have h1 := countP_set_lt _ i (ready_false hi)
        omega
    exact ⟨hr, hend L a w hJ hr⟩
  | fuel + 1, L, a, w, hm, hJ => ⟨hend L a w hJ, fun i hi => wpOp_mono (fun a' w' h => ⟨h.1, wpAnyH_inv J hend hstep fuel _ a' w' (by
      have h1 := countP_set_lt _ i (ready_false hi)
      have h2 : (L.setIfInBounds i true).toList = L.toList.set i true := by simp
      rw [h2]; omega) h.2⟩) (hstep L a w hJ i hi)⟩

/-- The values of some temporaries. -/
def putAll (y : Nat → Value) : List Nat → Nat → Act → Act
  | [], _, a => a
  | d :: ds, j, a => putAll y ds (j + 1) (a.put (some d) (y j))
/-- One more is known. -/
def updV (y : Nat → Value) (j : Nat) (v : Value) : Nat → Value := fun i => if i = j then v else y i
/-- What is asked of one operation. -/
def stepOf (P : Program) (ops : Array Oper) (Q : Exit → Act → World → Prop) (i : Nat) (K : Act → World → Prop) (a : Act) (w : World) : Prop :=
  match ops[i]? with
  | none => False
  | some o => if Region.wanted o (yielded ops a.tmps) = true then Oper.wp P o a w K Q else K (a.put o.dst undef) w
theorem step_of {i : Nat} {o : Oper} {K : Act → World → Prop} {a : Act} {w : World} (ho : ops[i]? = some o) (h : if Region.wanted o (yielded ops a.tmps) = true then Oper.wp P o a w K Q else K (a.put o.dst undef) w) : stepOf P ops Q i K a w := by
  unfold stepOf
  rw [ho]
  exact h
/-- Which come up when: the kernel looks all ways through. -/
def keyB (md : Region.Mode) (ops : Array Oper) (k : Nat) (ms : List Nat) (Lf : Nat → Array Bool) (ok : Nat → Bool) (pre : Nat → Nat → Bool) : Bool :=
  ok 0 && (List.range (2 ^ k)).all fun b => !ok b || ((Region.ready md ops (Lf b)).all fun i => (List.range k).any fun j => ms.getD j 0 == i && (!b.testBit j && (pre j b && ok (b ||| 2 ^ j)))) &&
    (((List.range k).all fun j => (Lf b).setIfInBounds (ms.getD j 0) true == Lf (b ||| 2 ^ j)) && (!(Region.ready md ops (Lf b)).isEmpty || b == 2 ^ k - 1))
theorem wpAnyH_bits {k fuel : Nat} {L : Array Bool} {a : Act} {w : World} (ds ms : List Nat) (Lf : Nat → Array Bool) (ok : Nat → Bool) (pre : Nat → Nat → Bool) (I : Nat → (Nat → Value) → World → Prop) (y0 : Nat → Value)
    (hL : L = Lf 0) (h0 : a = putAll y0 ds 0 a) (hkey : keyB md ops k ms Lf ok pre = true) (hfuel : (Lf 0).toList.countP (fun b => !b) ≤ fuel)
    (hI : I 0 y0 w) (hend : ∀ y w, I (2 ^ k - 1) y w → Q .normal (putAll y ds 0 a) w)
    (hstep : ∀ j, j < k → ∀ b y w, b < 2 ^ k → ok b = true → b.testBit j = false → pre j b = true → I b y w → ∀ K' : Act → World → Prop, Shut (∀ y' w', S w' → I (b ||| 2 ^ j) y' w' → K' (putAll y' ds 0 a) w') → stepOf P ops Q (ms.getD j 0) K' (putAll y ds 0 a) w) :
    wpAnyH P md ops Q S fuel L a w := by
  unfold keyB at hkey
  rw [Bool.and_eq_true] at hkey
  have hk := fun b (hb : b < 2 ^ k) (ho : ok b = true) => (by
    have h1 := (List.all_eq_true.1 hkey.2) b (List.mem_range.2 hb)
    rw [ho] at h1
    exact h1 : (!true || (((Region.ready md ops (Lf b)).all fun i => (List.range k).any fun j => ms.getD j 0 == i && (!b.testBit j && (pre j b && ok (b ||| 2 ^ j)))) && (((List.range k).all fun j => (Lf b).setIfInBounds (ms.getD j 0) true == Lf (b ||| 2 ^ j)) && (!(Region.ready md ops (Lf b)).isEmpty || b == 2 ^ k - 1)))) = true)
  simp only [Bool.not_true, Bool.false_or] at hk
  refine wpAnyH_inv (fun L' a' w' => ∃ b y, b < 2 ^ k ∧ ok b = true ∧ L' = Lf b ∧ a' = putAll y ds 0 a ∧ I b y w') ?_ ?_ fuel L a w (by rw [hL]; exact hfuel) ⟨0, _, Nat.pow_pos (by decide), hkey.1, hL, h0, hI⟩
  · rintro L' a' w' ⟨b, y, hb, ho, rfl, rfl, hI'⟩ hr
    have h1 := hk b hb ho
    rw [hr] at h1
    simp only [Bool.and_eq_true] at h1
    have h2 : b = 2 ^ k - 1 := by simpa using h1.2.2
    rw [h2] at hI'
    exact hend y w' hI'
  · rintro L' a' w' ⟨b, y, hb, ho, rfl, rfl, hI'⟩ i hi
    have h1 := hk b hb ho
    simp only [Bool.and_eq_true] at h1
    obtain ⟨j, hj, h2⟩ := List.any_eq_true.1 ((List.all_eq_true.1 h1.1) i hi)
    simp only [Bool.and_eq_true, beq_iff_eq, Bool.not_eq_true'] at h2
    obtain ⟨h3, h4, h5, h9⟩ := h2
    have hjk := List.mem_range.1 hj
    have h6 : (Lf b).setIfInBounds (ms.getD j 0) true = Lf (b ||| 2 ^ j) := by simpa using (List.all_eq_true.1 h1.2.1) j hj
    have h7 : b ||| 2 ^ j < 2 ^ k := Nat.or_lt_two_pow hb (Nat.pow_lt_pow_right (by decide) hjk)
    have h8 := hstep j hjk b y w' hb ho h4 h5 hI'
    rw [h3] at h6 h8
    unfold stepOf at h8
    cases hop : ops[i]? with
    | none => rw [hop] at h8; exact (h8 (fun _ _ => True) (fun _ _ _ _ => trivial)).elim
    | some o =>
      rw [hop] at h8
      refine wpOp_step hop (fun K' hK => h8 K' (fun y' w'' hS hI'' => hK _ _ ⟨hS, b ||| 2 ^ j, y', h7, h9, h6, rfl, hI''⟩))
/-- As keyB, but others come behind the makers. -/
def keyC (md : Region.Mode) (ops : Array Oper) (k : Nat) (ms : List Nat) (Lf : Nat → Array Bool) (ok : Nat → Bool) (pre : Nat → Nat → Bool) : Bool :=
  ok 0 && (List.range (2 ^ k)).all fun b => !ok b || (b == 2 ^ k - 1 || ((Region.ready md ops (Lf b)).all fun i => (List.range k).any fun j => ms.getD j 0 == i && (!b.testBit j && (pre j b && ok (b ||| 2 ^ j)))) &&
    (((List.range k).all fun j => (Lf b).setIfInBounds (ms.getD j 0) true == Lf (b ||| 2 ^ j)) && !(Region.ready md ops (Lf b)).isEmpty))
theorem countP_set_one : ∀ (l : List Bool) (i : Nat), l[i]? = some false → (l.set i true).countP (fun b => !b) + 1 = l.countP (fun b => !b)
  | [], i, h => by simp at h
  | b :: l, 0, h => by
    obtain rfl : b = false := by simpa using h
    simp
  | b :: l, i + 1, h => by
    have h1 := countP_set_one l i (by simpa using h)
    simp only [List.set_cons_succ, List.countP_cons]
    omega
theorem wpAnyH_bits2 {k fuel fe : Nat} {L : Array Bool} {a : Act} {w : World} (ds ms : List Nat) (Lf : Nat → Array Bool) (ok : Nat → Bool) (pre : Nat → Nat → Bool) (I : Nat → (Nat → Value) → World → Prop) (y0 : Nat → Value)
    (hL : L = Lf 0) (h0 : a = putAll y0 ds 0 a) (hkey : keyC md ops k ms Lf ok pre = true) (hfuel : (Lf 0).toList.countP (fun b => !b) = fuel) (hfe : (Lf (2 ^ k - 1)).toList.countP (fun b => !b) = fe)
    (hI : I 0 y0 w) (hend : ∀ y w, I (2 ^ k - 1) y w → wpAnyH P md ops Q S fe (Lf (2 ^ k - 1)) (putAll y ds 0 a) w)
    (hstep : ∀ j, j < k → ∀ b y w, b < 2 ^ k → ok b = true → b.testBit j = false → pre j b = true → I b y w → ∀ K' : Act → World → Prop, Shut (∀ y' w', S w' → I (b ||| 2 ^ j) y' w' → K' (putAll y' ds 0 a) w') → stepOf P ops Q (ms.getD j 0) K' (putAll y ds 0 a) w) :
    wpAnyH P md ops Q S fuel L a w := by
  unfold keyC at hkey
  rw [Bool.and_eq_true] at hkey
  have hk := fun b (hb : b < 2 ^ k) (ho : ok b = true) => (by
    have h1 := (List.all_eq_true.1 hkey.2) b (List.mem_range.2 hb)
    rw [ho] at h1
    exact h1 : (!true || (b == 2 ^ k - 1 || ((Region.ready md ops (Lf b)).all fun i => (List.range k).any fun j => ms.getD j 0 == i && (!b.testBit j && (pre j b && ok (b ||| 2 ^ j)))) && (((List.range k).all fun j => (Lf b).setIfInBounds (ms.getD j 0) true == Lf (b ||| 2 ^ j)) && !(Region.ready md ops (Lf b)).isEmpty))) = true)
  simp only [Bool.not_true, Bool.false_or] at hk
  have main : ∀ (fuel b : Nat) (y : Nat → Value) (w : World), b < 2 ^ k → ok b = true → (Lf b).toList.countP (fun b => !b) = fuel → I b y w → wpAnyH P md ops Q S fuel (Lf b) (putAll y ds 0 a) w := by
    intro fuel
    induction fuel with
    | zero =>
      intro b y w hb ho hf hI'
      by_cases he : b = 2 ^ k - 1
      · rw [he] at hI' hf ⊢; rw [hfe] at hf
        have h9 := hend y w hI'
        rw [hf] at h9
        exact h9
      · exfalso
        have h1 := hk b hb ho
        rw [show (b == 2 ^ k - 1) = false by simpa using he, Bool.false_or, Bool.and_eq_true, Bool.and_eq_true] at h1
        cases hr : Region.ready md ops (Lf b) with
        | nil => rw [hr] at h1; simp at h1
        | cons i r =>
          have hi : i ∈ Region.ready md ops (Lf b) := by rw [hr]; simp
          have h2 := countP_set_one _ i (ready_false hi)
          omega
    | succ fuel ih =>
      intro b y w hb ho hf hI'
      by_cases he : b = 2 ^ k - 1
      · rw [he] at hI' hf ⊢; rw [hfe] at hf
        have h9 := hend y w hI'
        rw [hf] at h9
        exact h9
      · have h1 := hk b hb ho
        rw [show (b == 2 ^ k - 1) = false by simpa using he, Bool.false_or, Bool.and_eq_true, Bool.and_eq_true] at h1
        refine ⟨fun hr => by rw [hr] at h1; simp at h1, fun i hi => ?_⟩
        obtain ⟨j, hj, h2⟩ := List.any_eq_true.1 ((List.all_eq_true.1 h1.1) i hi)
        simp only [Bool.and_eq_true, beq_iff_eq, Bool.not_eq_true'] at h2
        obtain ⟨h3, h4, h5, h9⟩ := h2
        have hjk := List.mem_range.1 hj
        have h6 : (Lf b).setIfInBounds (ms.getD j 0) true = Lf (b ||| 2 ^ j) := by simpa using (List.all_eq_true.1 h1.2.1) j hj
        have h7 : b ||| 2 ^ j < 2 ^ k := Nat.or_lt_two_pow hb (Nat.pow_lt_pow_right (by decide) hjk)
        have hc := countP_set_one _ i (ready_false hi)
        have h8 := hstep j hjk b y w hb ho h4 h5 hI'
        rw [h3] at h6 h8
        have hc2 : (Lf (b ||| 2 ^ j)).toList.countP (fun b => !b) = fuel := by
          rw [← h6, show ((Lf b).setIfInBounds i true).toList = (Lf b).toList.set i true by simp]; omega
        unfold stepOf at h8
        cases hop : ops[i]? with
        | none => rw [hop] at h8; exact (h8 (fun _ _ => True) (fun _ _ _ _ => trivial)).elim
        | some o =>
          rw [hop] at h8
          exact wpOp_step hop (fun K' hK => h8 K' (fun y' w'' hS hI'' => hK _ _ ⟨hS, by rw [h6]; exact ih _ y' w'' h7 h9 hc2 hI''⟩))
  rw [hL, h0]
  exact main fuel 0 y0 w (Nat.pow_pos (by decide)) hkey.1 hfuel hI
end
end Go.Proofs.YtlnhpkmcinohdaaDoor

/- The document's TableError; the law's copies of tables. -/
namespace Go.Proofs.YtlnhpkmcinohdaaDoor
open Go.RowKit

theorem tabErr_many {R : Nat} {ns : Nat → Nat} {zs : Nat → Nat → Int} (h : 16 < R) : tabErr R ns zs = 2 := by unfold tabErr; exact if_pos h
theorem tabErr_long {R : Nat} {ns : Nat → Nat} {zs : Nat → Nat → Int} (h : ¬ 16 < R) (hl : longB ns R = true) : tabErr R ns zs = 2 := by unfold tabErr; rw [if_neg h, if_pos hl]
theorem tabErr_uneven {R : Nat} {ns : Nat → Nat} {zs : Nat → Nat → Int} (h : ¬ 16 < R) (hl : longB ns R = false) (hu : unevenB ns R = true) : tabErr R ns zs = 3 := by unfold tabErr; rw [if_neg h, if_neg (by rw [hl]; simp), if_pos hu]
theorem tabErr_even {R : Nat} {ns : Nat → Nat} {zs : Nat → Nat → Int} (h : ¬ 16 < R) (hl : longB ns R = false) (hu : unevenB ns R = false) : tabErr R ns zs = listErr (atF (flatL ns zs R)) (flatL ns zs R).length := by unfold tabErr; rw [if_neg h, if_neg (by rw [hl]; simp), if_neg (by rw [hu]; simp)]
theorem not_long {ns : Nat → Nat} : ∀ {n : Nat}, longB ns n = false → ∀ i, i < n → ns i ≤ 16
  | n, h, i, hi => by
    rcases Nat.lt_or_ge 16 (ns i) with h' | h'
    · rw [longB_mono hi h'] at h; cases h
    · exact h'
theorem sumT_le {ns : Nat → Nat} {B : Nat} : ∀ {n : Nat}, (∀ i, i < n → ns i ≤ B) → sumT ns n ≤ n * B
  | 0, _ => Nat.zero_le _
  | n + 1, h => by
    have h1 := sumT_le (ns := ns) (B := B) (n := n) (fun i hi => h i (by omega))
    have h2 := h n (by omega)
    show sumT ns n + ns n ≤ (n + 1) * B
    rw [Nat.add_mul]; omega
theorem sumT_small {ns : Nat → Nat} {R : Nat} (hR : ¬ 16 < R) (hl : longB ns R = false) : sumT ns R ≤ 256 := by
  have h1 := sumT_le (ns := ns) (B := 16) (not_long hl)
  have h2 : R * 16 ≤ 16 * 16 := Nat.mul_le_mul_right _ (by omega)
  omega

end Go.Proofs.YtlnhpkmcinohdaaDoor

/- The law's copies of tables; the program's list of a table's weights. -/
namespace Go.Proofs.YtlnhpkmcinohdaaDoor
open Go.RowKit

theorem Tryd.infoInts : (Tryd.prog.info? 59).map (fun i => (i.zero, i.size, i.bytes)) = some (some (.slice none 0 0), 1, 24) := by kernel_rfl
def rowV (vs : Nat → Value) (k : Nat) : List Value := (List.range k).map vs
theorem rowV_length (vs : Nat → Value) (k : Nat) : (rowV vs k).length = k := by simp [rowV]
theorem rowV_push (vs : Nat → Value) (k : Nat) (v : Value) : rowV vs k ++ [v] = rowV (fun i => if i = k then v else vs i) (k + 1) := by
  unfold rowV
  rw [List.range_succ, List.map_append]
  congr 1
  · refine List.map_congr_left (fun i hi => ?_)
    have := List.mem_range.1 hi
    rw [if_neg (by omega)]
  · simp
theorem tabAt_of_row {w : World} {base : Nat} {t : TypeId} {v : Value} {R : Nat} {vs : Nat → Value} {ns : Nat → Nat} {zs : Nat → Nat → Int} (h : w.ownsRow base t 1 v R (rowV vs R)) (hn : ∀ i, i < R → NumsAt w (vs i) (ns i) (zs i)) : TabAt w v R vs ns zs := by
  rcases h.2 with ⟨hv, h0⟩ | ⟨g, cap, cur, hv, _, hh, _, _, hs, ht⟩
  · exact Or.inl ⟨none, 0, hv, h0⟩
  · rcases Nat.eq_zero_or_pos R with h0 | h0
    · exact Or.inl ⟨_, _, by rw [hv, h0], h0⟩
    · refine Or.inr ⟨g, 0, cap, hv, h0, fun i hi => ⟨?_, hn i hi⟩⟩
      have h1 : (rowV vs R)[i]? = some (vs i) := by simp [rowV, hi]
      rw [← h1, ← ht, List.getElem?_take_of_lt (by omega)]
      simp [World.cell?, hh]
theorem own_past {w w' : World} {base : Nat} {t : TypeId} {sz : Nat} {v : Value} {n : Nat} {xs : List Value} (h : w.ownsRow base t sz v n xs) (hb : Below w.heap.size w w') : w'.ownsRow base t sz v n xs := by
  obtain ⟨hl, hr⟩ := h
  refine ⟨hl, ?_⟩
  rcases hr with hr | ⟨g, cap, cur, hv, hb1, hh, rest⟩
  · exact Or.inl hr
  · exact Or.inr ⟨g, cap, cur, hv, hb1, by rw [hb.block g (heap_lt hh)]; exact hh, rest⟩
/-- A row of another kind beside the one that is grown. -/
theorem own_beside {w w' : World} {b1 b2 : Nat} {t1 t2 : TypeId} {v u : Value} {n m s1 s2 : Nat} {xs ys : List Value} (h : w.ownsRow b1 t1 s1 v n xs) (k : w.ownsRow b2 t2 s2 u m ys) (ht : t1 ≠ t2) (hg : w.grownBy w' u.ownBlock) : w'.ownsRow b1 t1 s1 v n xs := by
  obtain ⟨hl, hr⟩ := h
  refine ⟨hl, ?_⟩
  rcases hr with hr | ⟨g, cap, cur, hv, hb1, hh, rest⟩
  · exact Or.inl hr
  · refine Or.inr ⟨g, cap, cur, hv, hb1, ?_, rest⟩
    rw [hg.block g (heap_lt hh) (fun e => ?_)]
    · exact hh
    · rcases k.2 with ⟨rfl, _⟩ | ⟨g', cap', cur', rfl, _, hh', _⟩
      · cases e
      · obtain rfl : g = g' := by simpa [Value.ownBlock] using e
        rw [hh] at hh'
        simp at hh'
        exact ht hh'.2
end Go.Proofs.YtlnhpkmcinohdaaDoor

/- What visits and goOn make in memory. -/
namespace Go.Proofs.YtlnhpkmcinohdaaDoor
open Go.RowKit

theorem Tryd.infoNat : (Tryd.prog.info? 68).map (fun i => (i.zero, i.size, i.bytes)) = some (some (.slice none 0 0), 1, 24) := by kernel_rfl
/-- A list of numbers without a bound, as one reads it. -/
def NatsAt (w : World) (v : Value) (n : Nat) (V : Nat → Nat) : Prop := ∃ (g o cap : Nat) (f : Nat → Value), v = .slice (some ⟨g, o, none⟩) n cap ∧ ∀ i, i < n → w.cell? ⟨g, o + i, none⟩ = some (f i) ∧ NatAt w (f i) (V i)
theorem NatsAt.later {w w' : World} {v : Value} {n : Nat} {V : Nat → Nat} (h : NatsAt w v n V) (hb : Below w.heap.size w w') : NatsAt w' v n V := by
  obtain ⟨g, o, cap, f, hv, hr⟩ := h
  exact ⟨g, o, cap, f, hv, fun i hi => ⟨by rw [hb.cell (cell_lt (hr i hi).1)]; exact (hr i hi).1, (hr i hi).2.later hb⟩⟩
theorem ownsRow_cells {w : World} {B e gb s cap : Nat} {f : Nat → Value} (h : w.ownsRow B e 1 (.slice (some ⟨gb, 0, none⟩) s cap) s (rowV f s)) : B ≤ gb ∧ gb < w.heap.size ∧ ∀ i, i < s → w.cell? ⟨gb, i, none⟩ = some (f i) ∧ w.frozen? ⟨gb, i, none⟩ = false := by
  obtain ⟨hl, hr⟩ := h
  rcases hr with ⟨hx, _⟩ | ⟨g', cap', cur, hv, hb, hh, h1, _, hs, ht⟩
  · cases hx
  · simp only [Value.slice.injEq, Option.some.injEq, Addr.mk.injEq, and_true, true_and] at hv
    obtain ⟨rfl, rfl⟩ := hv
    refine ⟨hb, heap_lt hh, fun i hi => ⟨?_, by simp [World.frozen?, hh]⟩⟩
    have e1 : w.cell? ⟨gb, i, none⟩ = cur.toList[i]? := by simp [World.cell?, hh]
    rw [e1]
    have e2 : cur.toList[i]? = (rowV f s)[i]? := by rw [← ht, List.getElem?_take_of_lt (by omega)]
    rw [e2]
    simp [rowV, hi]
theorem rowV_set (f : Nat → Value) (s k : Nat) (y : Value) : (rowV f s).set k y = rowV (fun i => if i = k then y else f i) s := by
  refine List.ext_getElem? fun j => ?_
  rw [List.getElem?_set]
  by_cases hj : j < s
  · by_cases hk : k = j
    · subst hk; simp [rowV, hj]
    · simp [rowV, hj, hk, Ne.symm hk]
  · have : (rowV f s)[j]? = none := by simp [rowV]; omega
    have h2 : (rowV (fun i => if i = k then y else f i) s)[j]? = none := by simp [rowV]; omega
    rw [h2]
    split
    · split
      · rename_i h3; simp [rowV] at h3; omega
      · rfl
    · exact this
theorem ownsRow_set {w : World} {B e gb s cap k : Nat} {xs : List Value} (y : Value) (h : w.ownsRow B e 1 (.slice (some ⟨gb, 0, none⟩) s cap) s xs) : (w.setCell ⟨gb, k, none⟩ y).ownsRow B e 1 (.slice (some ⟨gb, 0, none⟩) s cap) s (xs.set k y) := by
  obtain ⟨hl, hr⟩ := h
  refine ⟨by simpa using hl, ?_⟩
  rcases hr with ⟨hx, _⟩ | ⟨g', cap', cur, hv, hb, hh, h1, h2, hs, ht⟩
  · cases hx
  · simp only [Value.slice.injEq, Option.some.injEq, Addr.mk.injEq, and_true, true_and] at hv
    obtain ⟨rfl, rfl⟩ := hv
    refine Or.inr ⟨gb, cap, cur.setIfInBounds k y, rfl, hb, ?_, h1, h2, by simpa using hs, ?_⟩
    · show (w.setCell ⟨gb, k, none⟩ y).heap[gb]? = _
      unfold World.setCell
      simp [Array.getElem?_modify, hh]
    · rw [← ht]
      simp [List.take_set]
/-- The words of a number do not lie in a block. -/
def Off (gb : Nat) (v : Value) : Prop := ∀ b o l c, v = .slice (some ⟨b, o, none⟩) l c → 0 < l → b ≠ gb
theorem NatNew.off {B gb : Nat} {w : World} {v : Value} {n : Nat} (h : NatNew B w v n) (hg : gb < B) : Off gb v := fun b o l c hv hl => by have := h.2 b o l c hv hl; omega
theorem NatAt.off {gb : Nat} {w : World} {v : Value} {n : Nat} (h : NatAt w v n) (hg : w.heap.size ≤ gb) : Off gb v := fun b o l c hv hl => by
  obtain ⟨x, _, _, _, hx⟩ := h
  rcases hx with ⟨ad, cap, h1, _⟩ | ⟨b', o', cap, h1, h2, h3, h4⟩
  · rw [hv] at h1; simp at h1; omega
  · rw [hv] at h1
    simp only [Value.slice.injEq, Option.some.injEq, Addr.mk.injEq, and_true] at h1
    obtain ⟨⟨rfl, rfl⟩, rfl, rfl⟩ := h1
    have : b < w.heap.size := cell_lt (h4 0 h3)
    omega
theorem NatAt.grown {w w' : World} {gb : Nat} {v : Value} {n : Nat} (h : NatAt w v n) (hg : w.grownBy w' (some gb)) (ho : Off gb v) : NatAt w' v n := by
  obtain ⟨x, h1, h2, h3, hx⟩ := h
  refine ⟨x, h1, h2, h3, ?_⟩
  rcases hx with hx | ⟨b, o, cap, e1, e2, e3, e4⟩
  · exact Or.inl hx
  · refine Or.inr ⟨b, o, cap, e1, e2, e3, fun i hi => ?_⟩
    rw [World.cell?_of_block (hg.block b (cell_lt (e4 i hi)) (fun e => ho b o _ cap e1 e3 (Option.some.inj e)))]
    exact e4 i hi
/-- A list of one's own. -/
structure NatsOwn (B : Nat) (wr : World) (gb s cap : Nat) (f : Nat → Value) (V : Nat → Nat) : Prop where
  own : wr.ownsRow B 68 1 (.slice (some ⟨gb, 0, none⟩) s cap) s (rowV f s)
  nats : ∀ i, i < s → NatAt wr (f i) (V i)
  off : ∀ i, i < s → Off gb (f i)
/-- How often one is in each state, behind s of them. -/
def vis (n : Nat) (V : Nat → Nat → Nat) : Nat → Nat → Nat
  | 0, _ => 1
  | 1, _ => 1
  | s + 2, i => if i < s + 1 then vis n V (s + 1) i * V (n + 1) (s + 1) else sumTo (fun j => vis n V (s + 1) j * V j (s + 1)) (s + 1)
theorem vis_next (n : Nat) (V : Nat → Nat → Nat) (s i : Nat) (hs : 1 ≤ s) : vis n V (s + 1) i = if i < s then vis n V s i * V (n + 1) s else sumTo (fun j => vis n V s j * V j s) s := by
  obtain ⟨t, rfl⟩ : ∃ t, s = t + 1 := ⟨s - 1, by omega⟩
  rfl
theorem sumTo_lt {z : Nat → Nat} {M n : Nat} (hn : n ≤ 8) (h : ∀ i, i < n → z i < M) : sumTo z n < M * 18446744073709551616 ∨ M = 0 := by
  rcases Nat.eq_zero_or_pos M with h0 | h0
  · exact Or.inr h0
  · left
    have h1 := sumTo_le (z := z) (M := M) (n := n) (fun i hi => Nat.le_of_lt (h i hi))
    have h2 : n * M ≤ 8 * M := Nat.mul_le_mul_right _ hn
    omega
theorem vis_lt {n : Nat} {V : Nat → Nat → Nat} (hn : n ≤ 8) (hV : ∀ i k, i < n + 2 → k < n → V i k < 18446744073709551616 ^ 40) : ∀ s, 1 ≤ s → s ≤ n → ∀ i, i < s → vis n V s i < 18446744073709551616 ^ (41 * s)
  | 0, h, _, _, _ => by omega
  | 1, _, _, i, _ => by show 1 < _; exact Nat.one_lt_pow (by decide) (by decide)
  | s + 2, _, hs, i, hi => by
    have ih := vis_lt hn hV (s + 1) (by omega) (by omega)
    have e : 18446744073709551616 ^ (41 * (s + 2)) = 18446744073709551616 ^ (41 * (s + 1)) * 18446744073709551616 ^ 40 * 18446744073709551616 := by rw [← Nat.pow_add, ← Nat.pow_succ]; congr 1
    rw [vis_next n V (s + 1) i (by omega), e]
    have h1 : ∀ j, j < n + 2 → V j (s + 1) < 18446744073709551616 ^ 40 := fun j hj => hV j (s + 1) hj (by omega)
    have hp1 : 0 < 18446744073709551616 ^ (41 * (s + 1)) := Nat.pow_pos (by decide)
    have hp2 : 0 < 18446744073709551616 ^ 40 := Nat.pow_pos (by decide)
    generalize 18446744073709551616 ^ (41 * (s + 1)) = A at *
    generalize 18446744073709551616 ^ 40 = C at *
    have hp : 0 < A * C := Nat.mul_pos hp1 hp2
    split
    · rename_i h
      have := Nat.mul_lt_mul'' (ih i h) (h1 (n + 1) (by omega))
      omega
    · rcases sumTo_lt (z := fun j => vis n V (s + 1) j * V j (s + 1)) (M := A * C) (n := s + 1) (by omega) (fun j hj => Nat.mul_lt_mul'' (ih j hj) (h1 j (by omega))) with h | h
      · exact h
      · omega
end Go.Proofs.YtlnhpkmcinohdaaDoor

/- fold.Of: how it begins. -/
namespace Go.Proofs.YtlnhpkmcinohdaaDoor
open Go.RowKit

/-- make, at a step of a region that draws its order. -/
theorem step_make (w : World) {P : Program} {ops : Array Oper} {o : Oper} {a : Act} {K : Act → World → Prop} {Q : Exit → Act → World → Prop} {E : Prop} (hgd : o.guard = none)
    (l c : Operand) (t : TypeId) (hop : o.op = Op.makeSlice t l c) (e : TypeId) (i : TypeInfo) (z : Value) (h1 : P.underlying t = some (.slice e)) (h2 : P.info? e = some i) (h3 : i.zero = some z) (h4 : i.size = 1)
    (n : Nat) (hl : a.eval l = .int .i64 n) (hc : a.eval c = .int .i64 n) (b2 : i.bytes * n ≤ 281474976710656) (b3 : n ≤ maxLen)
    (hK : ∀ w', w'.ownsRow w.heap.size e 1 (.slice (some ⟨w.heap.size, 0, none⟩) n n) n (madeCells z.cells (n * 1)).toList → w.grownBy w' none → K (a.put o.dst (.slice (some ⟨w.heap.size, 0, none⟩) n n)) w') :
    if Region.wanted o (yielded ops a.tmps) = true then Oper.wp P o a w K Q else E := by
  have hw : Region.wanted o (yielded ops a.tmps) = true := by simp [Region.wanted, hgd]
  rw [if_pos hw]
  obtain ⟨w', hrun, r1, r2⟩ := run_make_full (P := P) w w.heap.size t e i z 1 h1 h2 h3 h4 .i64 .i64 n b2 b3 (Nat.le_refl _)
  unfold Oper.wp
  simp [execOp, hop, hl, hc, hrun, Result.andThen]
  exact hK w' r1 r2

theorem RowIs.put {W : World} {b n p k : Nat} {f : Nat → Value} {x : Value} (h : RowIs W b n f) (hx : W.cell? ⟨p, k, none⟩ = some x) (hne : b ≠ p) (y : Value) : RowIs (W.setCell ⟨p, k, none⟩ y) b n f :=
  ⟨fun j hj => by rw [cell_put _ hx, if_neg (fun e => hne (congrArg Addr.block e))]; exact h.row j hj, fun j hj => by rw [World.frozen?_setCell]; exact h.fz j hj⟩

theorem RowIs.off {W : World} {b n : Nat} {p : Addr} {f : Nat → Value} (h : RowIs W b n f) (hne : b ≠ p.block) (y : Value) : RowIs (W.setCell p y) b n f :=
  ⟨fun j hj => by rw [World.cell?_setCell_other _ _ _ _ (fun e => hne (by rw [e]))]; exact h.row j hj, fun j hj => by rw [World.frozen?_setCell]; exact h.fz j hj⟩
theorem tb_or (b j i : Nat) : (b ||| 2 ^ j).testBit i = (b.testBit i || decide (j = i)) := by rw [Nat.testBit_or, Nat.testBit_two_pow]
/-- The cells of a chain's box, before anything is told. -/
def bx0 : Nat → Value := fun j => if j = 1 then .int .i64 0 else .slice none 0 0
/-- One more block. -/
def updB (bl : Nat → Nat) (j c : Nat) : Nat → Nat := fun i => if i = j then c else bl i
/-- What is made already: 0 the states, 1 the list of rows, 2 that of times, 3 that of what goes out, 4 all of it, 5 the box. -/
structure Five (w W : World) (n : Nat) (N : Int) (ls : Nat → Int) (b : Nat) (y : Nat → Value) (bl : Nat → Nat) : Prop where
  below : Below w.heap.size w W
  ge : ∀ j, j < 6 → j ≠ 4 → b.testBit j = true → w.heap.size ≤ bl j ∧ bl j < W.heap.size
  ne : ∀ j i, j < 6 → i < 6 → j ≠ 4 → i ≠ 4 → j ≠ i → b.testBit j = true → b.testBit i = true → bl j ≠ bl i
  cl : b.testBit 0 = true → (∃ cap, y 0 = .slice (some ⟨bl 0, 0, none⟩) n cap) ∧ ∀ i, i < n → W.cell? ⟨bl 0, i, none⟩ = some (.int .i64 (ls i))
  rows : ∀ j, 1 ≤ j → j ≤ 3 → b.testBit j = true → y j = .slice (some ⟨bl j, 0, none⟩) n n ∧ RowIs W (bl j) n (fun _ => .slice none 0 0)
  bd : b.testBit 4 = true → y 4 = .agg #[y 0, .int .i64 N, y 1, y 2, y 3]
  bx : b.testBit 5 = true → y 5 = .pointer (some ⟨bl 5, 0, none⟩) ∧ RowIs W (bl 5) 5 bx0
theorem Five.start {w W : World} {n : Nat} {N : Int} {ls : Nat → Int} (y : Nat → Value) (bl : Nat → Nat) (h : Below w.heap.size w W) : Five w W n N ls 0 y bl :=
  ⟨h, fun j _ _ hb => by simp at hb, fun j i _ _ _ _ _ hb => by simp at hb, fun hb => by simp at hb, fun j _ _ hb => by simp at hb, fun hb => by simp at hb, fun hb => by simp at hb⟩
theorem Five.add {w W W' : World} {n : Nat} {N : Int} {ls : Nat → Int} {b : Nat} {y : Nat → Value} {bl : Nat → Nat} (h : Five w W n N ls b y bl) (j : Nat) (hj : j < 6) (hj4 : j ≠ 4) (hn4 : j = 5 ∨ b.testBit 4 = false) (v : Value) (c : Nat)
    (hb : Below W.heap.size W W') (hc : W.heap.size ≤ c ∧ c < W'.heap.size)
    (h0 : j = 0 → (∃ cap, v = .slice (some ⟨c, 0, none⟩) n cap) ∧ ∀ i, i < n → W'.cell? ⟨c, i, none⟩ = some (.int .i64 (ls i)))
    (h1 : 1 ≤ j → j ≤ 3 → v = .slice (some ⟨c, 0, none⟩) n n ∧ RowIs W' c n (fun _ => .slice none 0 0))
    (h5 : j = 5 → v = .pointer (some ⟨c, 0, none⟩) ∧ RowIs W' c 5 bx0) : Five w W' n N ls (b ||| 2 ^ j) (updV y j v) (updB bl j c) := by
  have old : ∀ i, i ≠ j → (b ||| 2 ^ j).testBit i = b.testBit i := fun i hi => by rw [tb_or, decide_eq_false (fun e => hi e.symm), Bool.or_false]
  have yo : ∀ i, i ≠ j → updV y j v i = y i := fun i hi => by unfold updV; rw [if_neg hi]
  have bo : ∀ i, i ≠ j → updB bl j c i = bl i := fun i hi => by unfold updB; rw [if_neg hi]
  have yn : updV y j v j = v := by unfold updV; rw [if_pos rfl]
  have bn : updB bl j c j = c := by unfold updB; rw [if_pos rfl]
  have hsz := h.below.size
  refine ⟨below_chain h.below hb, fun i hi hi4 hbi => ?_, fun i k hi hk hi4 hk4 hik hbi hbk => ?_, fun hbi => ?_, fun i hi hi3 hbi => ?_, fun hbi => ?_, fun hbi => ?_⟩
  · by_cases e : i = j
    · rw [e, bn]; exact ⟨by omega, hc.2⟩
    · rw [old i e] at hbi; rw [bo i e]; have := h.ge i hi hi4 hbi; have := hb.size; exact ⟨by omega, by omega⟩
  · by_cases e : i = j
    · have e2 : k ≠ j := by omega
      rw [old k e2] at hbk; rw [bo k e2, e, bn]; have := h.ge k hk hk4 hbk; omega
    · rw [old i e] at hbi; rw [bo i e]
      by_cases e2 : k = j
      · rw [e2, bn]; have := h.ge i hi hi4 hbi; omega
      · rw [old k e2] at hbk; rw [bo k e2]; exact h.ne i k hi hk hi4 hk4 hik hbi hbk
  · by_cases e : (0 : Nat) = j
    · subst e; rw [yn, bn]; exact h0 rfl
    · rw [old 0 e] at hbi; rw [yo 0 e, bo 0 e]
      obtain ⟨h2, h3⟩ := h.cl hbi
      exact ⟨h2, fun i hi => by rw [hb.cell (cell_lt (h3 i hi))]; exact h3 i hi⟩
  · by_cases e : i = j
    · subst e; rw [yn, bn]; exact h1 hi hi3
    · rw [old i e] at hbi; rw [yo i e, bo i e]
      obtain ⟨h2, h3⟩ := h.rows i hi hi3 hbi
      exact ⟨h2, h3.later hb⟩
  · rw [old 4 (Ne.symm hj4)] at hbi
    rcases hn4 with e | e
    · subst e
      rw [yo 4 (by decide), yo 0 (by decide), yo 1 (by decide), yo 2 (by decide), yo 3 (by decide)]; exact h.bd hbi
    · rw [e] at hbi; cases hbi
  · by_cases e : (5 : Nat) = j
    · subst e; rw [yn, bn]; exact h5 rfl
    · rw [old 5 e] at hbi; rw [yo 5 e, bo 5 e]
      obtain ⟨h2, h3⟩ := h.bx hbi
      exact ⟨h2, h3.later hb⟩
theorem Five.built {w W : World} {n : Nat} {N : Int} {ls : Nat → Int} {b : Nat} {y : Nat → Value} {bl : Nat → Nat} (h : Five w W n N ls b y bl) : Five w W n N ls (b ||| 2 ^ 4) (updV y 4 (.agg #[y 0, .int .i64 N, y 1, y 2, y 3])) bl := by
  have old : ∀ i, i ≠ 4 → (b ||| 2 ^ 4).testBit i = b.testBit i := fun i hi => by rw [tb_or, decide_eq_false (fun e => hi e.symm), Bool.or_false]
  have yo : ∀ (v : Value) i, i ≠ 4 → updV y 4 v i = y i := fun v i hi => by unfold updV; rw [if_neg hi]
  refine ⟨h.below, fun i hi hi4 hbi => ?_, fun i k hi hk hi4 hk4 hik hbi hbk => ?_, fun hbi => ?_, fun i hi hi3 hbi => ?_, fun hbi => ?_, fun hbi => ?_⟩
  · rw [old i hi4] at hbi; exact h.ge i hi hi4 hbi
  · rw [old i hi4] at hbi; rw [old k hk4] at hbk; exact h.ne i k hi hk hi4 hk4 hik hbi hbk
  · rw [old 0 (by decide)] at hbi; rw [yo _ 0 (by decide)]; exact h.cl hbi
  · rw [old i (by omega)] at hbi; rw [yo _ i (by omega)]; exact h.rows i hi hi3 hbi
  · rw [yo _ 0 (by decide), yo _ 1 (by decide), yo _ 2 (by decide), yo _ 3 (by decide)]; unfold updV; rw [if_pos rfl]
  · rw [old 5 (by decide)] at hbi; rw [yo _ 5 (by decide)]; exact h.bx hbi

/-- The cells of a chain's box. -/
def xB (cl cap : Nat) (N : Int) (g gt go n : Nat) : Nat → Value
  | 0 => .slice (some ⟨cl, 0, none⟩) n cap
  | 1 => .int .i64 N
  | 2 => .slice (some ⟨g, 0, none⟩) n n
  | 3 => .slice (some ⟨gt, 0, none⟩) n n
  | _ => .slice (some ⟨go, 0, none⟩) n n
/-- Five cells of one block are set. -/
def put5 (W : World) (b : Nat) (X : Nat → Value) : World := ((((W.setCell ⟨b, 0, none⟩ (X 0)).setCell ⟨b, 1, none⟩ (X 1)).setCell ⟨b, 2, none⟩ (X 2)).setCell ⟨b, 3, none⟩ (X 3)).setCell ⟨b, 4, none⟩ (X 4)
theorem put5_other {W : World} {b : Nat} {X : Nat → Value} {q : Addr} (h : q.block ≠ b) : (put5 W b X).cell? q = W.cell? q := by
  have hn : ∀ j, (⟨b, j, none⟩ : Addr) ≠ q := fun j e => h (by rw [← e])
  unfold put5
  rw [World.cell?_setCell_other _ _ _ _ (hn 4), World.cell?_setCell_other _ _ _ _ (hn 3), World.cell?_setCell_other _ _ _ _ (hn 2), World.cell?_setCell_other _ _ _ _ (hn 1), World.cell?_setCell_other _ _ _ _ (hn 0)]
theorem put5_below {W w : World} {b B : Nat} {X : Nat → Value} (h : Below B w W) (hb : B ≤ b) : Below B w (put5 W b X) := by
  unfold put5
  exact ((((h.setCell hb _).setCell hb _).setCell hb _).setCell hb _).setCell hb _
theorem put5_size {W : World} {b : Nat} {X : Nat → Value} : (put5 W b X).heap.size = W.heap.size := by unfold put5; simp
theorem RowIs.put5 {W : World} {b c n : Nat} {X : Nat → Value} {f : Nat → Value} (h : RowIs W c n f) (hne : c ≠ b) : RowIs (put5 W b X) c n f := by
  unfold Go.Proofs.YtlnhpkmcinohdaaDoor.put5
  exact ((((h.off hne _).off hne _).off hne _).off hne _).off hne _
theorem put5_steps {W : World} {b : Nat} {X f : Nat → Value} (h : RowIs W b 5 f) :
    W.cell? ⟨b, 0, none⟩ = some (f 0) ∧ (W.setCell ⟨b, 0, none⟩ (X 0)).cell? ⟨b, 1, none⟩ = some (f 1) ∧ ((W.setCell ⟨b, 0, none⟩ (X 0)).setCell ⟨b, 1, none⟩ (X 1)).cell? ⟨b, 2, none⟩ = some (f 2) ∧
    (((W.setCell ⟨b, 0, none⟩ (X 0)).setCell ⟨b, 1, none⟩ (X 1)).setCell ⟨b, 2, none⟩ (X 2)).cell? ⟨b, 3, none⟩ = some (f 3) ∧ ((((W.setCell ⟨b, 0, none⟩ (X 0)).setCell ⟨b, 1, none⟩ (X 1)).setCell ⟨b, 2, none⟩ (X 2)).setCell ⟨b, 3, none⟩ (X 3)).cell? ⟨b, 4, none⟩ = some (f 4) := by
  have ne : ∀ i j : Nat, i ≠ j → (⟨b, i, none⟩ : Addr) ≠ ⟨b, j, none⟩ := fun i j h e => h (congrArg Addr.off e)
  refine ⟨h.row 0 (by decide), ?_, ?_, ?_, ?_⟩
  · rw [World.cell?_setCell_other _ _ _ _ (ne _ _ (by decide))]; exact h.row 1 (by decide)
  · rw [World.cell?_setCell_other _ _ _ _ (ne _ _ (by decide)), World.cell?_setCell_other _ _ _ _ (ne _ _ (by decide))]; exact h.row 2 (by decide)
  · rw [World.cell?_setCell_other _ _ _ _ (ne _ _ (by decide)), World.cell?_setCell_other _ _ _ _ (ne _ _ (by decide)), World.cell?_setCell_other _ _ _ _ (ne _ _ (by decide))]; exact h.row 3 (by decide)
  · rw [World.cell?_setCell_other _ _ _ _ (ne _ _ (by decide)), World.cell?_setCell_other _ _ _ _ (ne _ _ (by decide)), World.cell?_setCell_other _ _ _ _ (ne _ _ (by decide)), World.cell?_setCell_other _ _ _ _ (ne _ _ (by decide))]; exact h.row 4 (by decide)
theorem put5_at {W : World} {b : Nat} {X f : Nat → Value} (h : RowIs W b 5 f) (j : Nat) (hj : j < 5) : (put5 W b X).cell? ⟨b, j, none⟩ = some (X j) := by
  have ne : ∀ i j : Nat, i ≠ j → (⟨b, i, none⟩ : Addr) ≠ ⟨b, j, none⟩ := fun i j h e => h (congrArg Addr.off e)
  obtain ⟨h0, h1, h2, h3, h4⟩ := put5_steps (X := X) h
  unfold put5
  rcases (show j = 0 ∨ j = 1 ∨ j = 2 ∨ j = 3 ∨ j = 4 by omega) with rfl | rfl | rfl | rfl | rfl
  · rw [World.cell?_setCell_other _ _ _ _ (ne _ _ (by decide)), World.cell?_setCell_other _ _ _ _ (ne _ _ (by decide)), World.cell?_setCell_other _ _ _ _ (ne _ _ (by decide)), World.cell?_setCell_other _ _ _ _ (ne _ _ (by decide)), World.cell?_setCell_same _ _ _ h0]
  · rw [World.cell?_setCell_other _ _ _ _ (ne _ _ (by decide)), World.cell?_setCell_other _ _ _ _ (ne _ _ (by decide)), World.cell?_setCell_other _ _ _ _ (ne _ _ (by decide)), World.cell?_setCell_same _ _ _ h1]
  · rw [World.cell?_setCell_other _ _ _ _ (ne _ _ (by decide)), World.cell?_setCell_other _ _ _ _ (ne _ _ (by decide)), World.cell?_setCell_same _ _ _ h2]
  · rw [World.cell?_setCell_other _ _ _ _ (ne _ _ (by decide)), World.cell?_setCell_same _ _ _ h3]
  · rw [World.cell?_setCell_same _ _ _ h4]
/-- The beginning of Of: five new blocks, and the box holds the others. -/
structure Laid5 (w W : World) (n g gt go fb cl : Nat) (X : Nat → Value) (ls : Nat → Int) : Prop where
  below : Below w.heap.size w W
  ge : w.heap.size ≤ g ∧ w.heap.size ≤ gt ∧ w.heap.size ≤ go ∧ w.heap.size ≤ fb
  lt : g < W.heap.size ∧ gt < W.heap.size ∧ go < W.heap.size ∧ fb < W.heap.size
  ne : g ≠ gt ∧ g ≠ go ∧ g ≠ fb ∧ gt ≠ go ∧ gt ≠ fb ∧ go ≠ fb
  clp : w.heap.size ≤ cl ∧ cl < W.heap.size ∧ cl ≠ g ∧ cl ≠ gt ∧ cl ≠ go ∧ cl ≠ fb
  rw : RowIs W g n (fun _ => .slice none 0 0)
  rt : RowIs W gt n (fun _ => .slice none 0 0)
  ro : RowIs W go n (fun _ => .slice none 0 0)
  cs : ∀ j, j < 5 → W.cell? ⟨fb, j, none⟩ = some (X j)
  st : ∀ i, i < n → W.cell? ⟨cl, i, none⟩ = some (.int .i64 (ls i))
theorem Five.laid {w W : World} {n : Nat} {N : Int} {ls : Nat → Int} {y : Nat → Value} {bl : Nat → Nat} (h : Five w W n N ls 63 y bl) (cap : Nat) :
    Laid5 w (put5 W (bl 5) (xB (bl 0) cap N (bl 1) (bl 2) (bl 3) n)) n (bl 1) (bl 2) (bl 3) (bl 5) (bl 0) (xB (bl 0) cap N (bl 1) (bl 2) (bl 3) n) ls := by
  have g0 := h.ge 0 (by decide) (by decide) (by decide)
  have g1 := h.ge 1 (by decide) (by decide) (by decide)
  have g2 := h.ge 2 (by decide) (by decide) (by decide)
  have g3 := h.ge 3 (by decide) (by decide) (by decide)
  have g5 := h.ge 5 (by decide) (by decide) (by decide)
  have ne := fun (i j : Nat) (hi : i < 6) (hj : j < 6) (h1 : i ≠ 4) (h2 : j ≠ 4) (h3 : i ≠ j) (h4 : Nat.testBit 63 i = true) (h5 : Nat.testBit 63 j = true) => h.ne i j hi hj h1 h2 h3 h4 h5
  have e := fun (i j : Nat) (hi : i < 6 ∧ j < 6 ∧ i ≠ 4 ∧ j ≠ 4 ∧ i ≠ j ∧ Nat.testBit 63 i = true ∧ Nat.testBit 63 j = true) => ne i j hi.1 hi.2.1 hi.2.2.1 hi.2.2.2.1 hi.2.2.2.2.1 hi.2.2.2.2.2.1 hi.2.2.2.2.2.2
  have hbx := (h.bx (by decide)).2
  refine ⟨put5_below h.below g5.1, ⟨g1.1, g2.1, g3.1, g5.1⟩, ?_, ⟨e 1 2 (by decide), e 1 3 (by decide), e 1 5 (by decide), e 2 3 (by decide), e 2 5 (by decide), e 3 5 (by decide)⟩, ⟨g0.1, ?_, e 0 1 (by decide), e 0 2 (by decide), e 0 3 (by decide), e 0 5 (by decide)⟩, ?_, ?_, ?_, fun j hj => put5_at hbx j hj, fun i hi => ?_⟩
  · rw [put5_size]; exact ⟨g1.2, g2.2, g3.2, g5.2⟩
  · rw [put5_size]; exact g0.2
  · exact (h.rows 1 (by decide) (by decide) (by decide)).2.put5 (e 1 5 (by decide))
  · exact (h.rows 2 (by decide) (by decide) (by decide)).2.put5 (e 2 5 (by decide))
  · exact (h.rows 3 (by decide) (by decide) (by decide)).2.put5 (e 3 5 (by decide))
  · rw [put5_other (e 0 5 (by decide))]; exact (h.cl (by decide)).2 i hi
theorem box5_new (W : World) (t : TypeId) : RowIs (W.alloc (.cells #[.slice none 0 0, .int .i64 0, .slice none 0 0, .slice none 0 0, .slice none 0 0] t)) W.heap.size 5 bx0 :=
  ⟨fun k hk => by rcases (show k = 0 ∨ k = 1 ∨ k = 2 ∨ k = 3 ∨ k = 4 by omega) with rfl | rfl | rfl | rfl | rfl <;> simp [bx0], fun k hk => by simp⟩
end Go.Proofs.YtlnhpkmcinohdaaDoor

/- fold.Of: rows that grow. -/
namespace Go.Proofs.YtlnhpkmcinohdaaDoor
open Go.RowKit

/-- How many of each row are there. -/
def lenAt (n i k r : Nat) : Nat := if r < i then n else if r = i then k else 0
/-- The rows while they are built, and the times. -/
structure Build (w0 wr : World) (B n g gt go fb cl : Nat) (X : Nat → Value) (ls : Nat → Int) (len : Nat → Nat) (rv : Nat → Value) (f : Nat → Nat → Value) (tf : Nat → Value) (V : Nat → Nat → Nat) (T : Nat → Nat) : Prop where
  below : Below w0.heap.size w0 wr
  size : B ≤ wr.heap.size
  outer : RowIs wr g n rv
  own : ∀ r, r < n → wr.ownsRow B 68 1 (rv r) (len r) (rowV (f r) (len r))
  sep : ∀ r r' b, r < n → r' < n → r ≠ r' → (rv r).ownBlock = some b → (rv r').ownBlock ≠ some b
  nats : ∀ r k, r < n → k < len r → NatAt wr (f r k) (V r k)
  off : ∀ r k r' b, r < n → k < len r → r' < n → (rv r').ownBlock = some b → Off b (f r k)
  times : RowIs wr gt n tf
  tnats : ∀ r, r < n → NatAt wr (tf r) (T r)
  toff : ∀ r r' b, r < n → r' < n → (rv r').ownBlock = some b → Off b (tf r)
  outs : RowIs wr go n (fun _ => .slice none 0 0)
  cs : ∀ j, j < 5 → wr.cell? ⟨fb, j, none⟩ = some (X j)
  st : ∀ i, i < n → wr.cell? ⟨cl, i, none⟩ = some (.int .i64 (ls i))
/-- The blocks that were there. -/
structure Fixed (w0 : World) (B g gt go fb cl : Nat) : Prop where
  ge : w0.heap.size ≤ g ∧ w0.heap.size ≤ gt ∧ w0.heap.size ≤ go ∧ w0.heap.size ≤ fb
  lt : g < B ∧ gt < B ∧ go < B ∧ fb < B
  ne : g ≠ gt ∧ g ≠ go ∧ g ≠ fb ∧ gt ≠ go ∧ gt ≠ fb ∧ go ≠ fb
  clp : w0.heap.size ≤ cl ∧ cl < B ∧ cl ≠ g ∧ cl ≠ gt ∧ cl ≠ go ∧ cl ≠ fb
theorem own_ge {w : World} {B e n : Nat} {v : Value} {xs : List Value} (h : w.ownsRow B e 1 v n xs) {b : Nat} (hb : v.ownBlock = some b) : B ≤ b ∧ b < w.heap.size := by
  rcases h.2 with ⟨rfl, _⟩ | ⟨g, cap, cur, rfl, hg, hh, _⟩
  · cases hb
  · obtain rfl : g = b := by simpa [Value.ownBlock] using hb
    exact ⟨hg, heap_lt hh⟩
theorem build_start {w0 W : World} {n g gt go fb cl : Nat} {X : Nat → Value} {ls : Nat → Int} (h : Laid5 w0 W n g gt go fb cl X ls) (f : Nat → Nat → Value) (V : Nat → Nat → Nat) : Build w0 W W.heap.size n g gt go fb cl X ls (lenAt n 0 0) (fun _ => .slice none 0 0) f (fun _ => .slice none 0 0) V (fun _ => 0) := by
  have hl : ∀ r, lenAt n 0 0 r = 0 := fun r => by unfold lenAt; rw [if_neg (by omega)]; split <;> rfl
  refine ⟨h.below, Nat.le_refl _, h.rw, fun r _ => ?_, fun r r' b _ _ _ hb => (by cases hb), fun r k _ hk => ?_, fun r k r' b _ _ _ hb => (by cases hb), h.rt, fun r _ => natAt_none _, fun r r' b _ _ hb => (by cases hb), h.ro, h.cs, h.st⟩
  · rw [hl]; exact ⟨rfl, Or.inl ⟨rfl, rfl⟩⟩
  · rw [hl] at hk; omega
theorem Laid5.fixed {w0 W : World} {n g gt go fb cl : Nat} {X : Nat → Value} {ls : Nat → Int} (h : Laid5 w0 W n g gt go fb cl X ls) : Fixed w0 W.heap.size g gt go fb cl := ⟨h.ge, h.lt, h.ne, h.clp⟩
theorem Build.later {w0 wr wn : World} {B n g gt go fb cl : Nat} {X : Nat → Value} {ls : Nat → Int} {len : Nat → Nat} {rv : Nat → Value} {f : Nat → Nat → Value} {tf : Nat → Value} {V : Nat → Nat → Nat} {T : Nat → Nat} (h : Build w0 wr B n g gt go fb cl X ls len rv f tf V T) (hb : Below wr.heap.size wr wn) : Build w0 wn B n g gt go fb cl X ls len rv f tf V T :=
  ⟨below_chain h.below hb, Nat.le_trans h.size hb.size, h.outer.later hb, fun r hr => own_past (h.own r hr) hb, h.sep, fun r k hr hk => (h.nats r k hr hk).later hb, h.off, h.times.later hb, fun r hr => (h.tnats r hr).later hb, h.toff, h.outs.later hb, fun j hj => by rw [hb.cell (cell_lt (h.cs j hj))]; exact h.cs j hj, fun i hi => by rw [hb.cell (cell_lt (h.st i hi))]; exact h.st i hi⟩
/-- A time is told. -/
theorem Build.time {w0 wr : World} {B n g gt go fb cl : Nat} {X : Nat → Value} {ls : Nat → Int} {len : Nat → Nat} {rv : Nat → Value} {f : Nat → Nat → Value} {tf : Nat → Value} {V : Nat → Nat → Nat} {T : Nat → Nat} (h : Build w0 wr B n g gt go fb cl X ls len rv f tf V T) (hF : Fixed w0 B g gt go fb cl) {i v : Nat} {y : Value} (hi : i < n) (hy : NatAt wr y v) (hyo : ∀ r' b, r' < n → (rv r').ownBlock = some b → Off b y) :
    Build w0 (wr.setCell ⟨gt, i, none⟩ y) B n g gt go fb cl X ls len rv f (fun r => if r = i then y else tf r) V (fun r => if r = i then v else T r) := by
  have hx := h.times.row i hi
  obtain ⟨ad, l, c, hs⟩ := (h.tnats i hi).isSlice
  rw [hs] at hx
  obtain ⟨n1, n2, n3, n4, n5, n6⟩ := hF.ne
  refine ⟨h.below.setCell hF.ge.2.1 _, by simpa using h.size, h.outer.put hx n1 _, fun r hr => ?_, h.sep, fun r k hr hk => (h.nats r k hr hk).putS hx, h.off, ⟨fun j hj => ?_, fun j hj => ?_⟩, fun r hr => ?_, fun r r' b hr hr' hb => ?_, h.outs.put hx (Ne.symm n4) _, fun j hj => ?_, fun j hj => ?_⟩
  · obtain ⟨hl, ho⟩ := h.own r hr
    refine ⟨hl, ?_⟩
    rcases ho with ho | ⟨q, cap, cur, hv, hg, hh, r2⟩
    · exact Or.inl ho
    · exact Or.inr ⟨q, cap, cur, hv, hg, by rw [Below.heap_setCell _ _ _ _ (by have := hF.lt.2.1; show q ≠ gt; omega)]; exact hh, r2⟩
  · rw [cell_put _ hx]
    by_cases hj' : j = i
    · subst hj'; rw [if_pos rfl, if_pos rfl]
    · rw [if_neg (fun e => hj' (congrArg Addr.off e)), if_neg hj']; exact h.times.row j hj
  · rw [World.frozen?_setCell]; exact h.times.fz j hj
  · by_cases hr' : r = i
    · rw [if_pos hr', if_pos hr']; exact hy.putS hx
    · rw [if_neg hr', if_neg hr']; exact (h.tnats r hr).putS hx
  · by_cases hri : r = i
    · rw [if_pos hri]; exact hyo r' b hr' hb
    · rw [if_neg hri]; exact h.toff r r' b hr hr' hb
  · rw [cell_put _ hx, if_neg (fun e => n5 (congrArg Addr.block e).symm)]; exact h.cs j hj
  · rw [cell_put _ hx, if_neg (fun e => hF.clp.2.2.2.1 (congrArg Addr.block e))]; exact h.st j hj
/-- A row grows, and its place in the list is set. -/
theorem Build.push {w0 wr w3 : World} {B n g gt go fb cl g' cap' i v : Nat} {X : Nat → Value} {ls : Nat → Int} {len : Nat → Nat} {rv : Nat → Value} {f : Nat → Nat → Value} {tf : Nat → Value} {V : Nat → Nat → Nat} {T : Nat → Nat} {y : Value} (h : Build w0 wr B n g gt go fb cl X ls len rv f tf V T) (hF : Fixed w0 B g gt go fb cl) (hi : i < n) (hy : NatAt wr y v) (hyo : ∀ r' b, r' < n → (rv r').ownBlock = some b → Off b y)
    (hg : wr.grownBy w3 (rv i).ownBlock) (hown : w3.ownsRow B 68 1 (.slice (some ⟨g', 0, none⟩) (len i + 1) cap') (len i + 1) (rowV (f i) (len i) ++ [y])) (hat : (rv i).ownBlock = some g' ∨ g' = wr.heap.size) :
    Build w0 (w3.setCell ⟨g, i, none⟩ (.slice (some ⟨g', 0, none⟩) (len i + 1) cap')) B n g gt go fb cl X ls (fun r => if r = i then len i + 1 else len r) (fun r => if r = i then .slice (some ⟨g', 0, none⟩) (len i + 1) cap' else rv r) (fun r k => if r = i ∧ k = len i then y else f r k) tf (fun r k => if r = i ∧ k = len i then v else V r k) T := by
  obtain ⟨n1, n2, n3, n4, n5, n6⟩ := hF.ne
  have old : ∀ q, q < B → some q ≠ (rv i).ownBlock := fun q hq e => by have := (own_ge (h.own i hi) e.symm).1; omega
  have blk : ∀ q, q < B → w3.heap[q]? = wr.heap[q]? := fun q hq => hg.block q (Nat.lt_of_lt_of_le hq h.size) (old q hq)
  have cel : ∀ q j x, q < B → wr.cell? ⟨q, j, none⟩ = some x → w3.cell? ⟨q, j, none⟩ = some x := fun q j x hq hx => by rw [World.cell?_of_block (a := ⟨q, j, none⟩) (blk q hq)]; exact hx
  have row3 : ∀ q F, q < B → RowIs wr q n F → RowIs w3 q n F := fun q F hq hr => ⟨fun k hk => cel q k _ hq (hr.row k hk), fun k hk => by rw [World.frozen?_of_block (a := ⟨q, k, none⟩) (blk q hq)]; exact hr.fz k hk⟩
  have nat3 : ∀ u m, NatAt wr u m → (∀ b, (rv i).ownBlock = some b → Off b u) → NatAt w3 u m := fun u m hu ho => by
    cases hb : (rv i).ownBlock with
    | some b => rw [hb] at hg; exact hu.grown hg (ho b hb)
    | none =>
      rw [hb] at hg
      exact hu.later ((Below.refl _ _).grown hg (Nat.le_refl _) (fun k hk => by cases hk))
  have offn : ∀ u m, NatAt wr u m → (∀ b, (rv i).ownBlock = some b → Off b u) → Off g' u := fun u m hu ho => by
    rcases hat with h1 | h1
    · exact ho g' h1
    · exact hu.off (by omega)
  have hbel : Below w0.heap.size w0 w3 := h.below.grown hg h.below.size (fun q hq => by have := (own_ge (h.own i hi) hq).1; have := hF.lt.1; have := hF.ge.1; omega)
  have hsz3 : B ≤ w3.heap.size := Nat.le_trans h.size hg.size
  have hxo := h.outer.row i hi
  have hx3 : w3.cell? ⟨g, i, none⟩ = some (rv i) := cel g i _ hF.lt.1 hxo
  obtain ⟨ad, l, c, hs⟩ : ∃ ad l c, rv i = .slice ad l c := by
    rcases (h.own i hi).2 with ⟨e, _⟩ | ⟨q, cap, cur, e, _⟩ <;> exact ⟨_, _, _, e⟩
  have hx4 := hx3
  rw [hs] at hx4
  have gne : ∀ r b, r < n → r ≠ i → (rv r).ownBlock = some b → b ≠ g' := fun r b hr hri hb e => by
    rcases hat with h1 | h1
    · exact h.sep r i b hr hi hri hb (by rw [h1, e])
    · have := (own_ge (h.own r hr) hb).2; omega
  have keepRow : ∀ (v : Value) (m : Nat) (xs : List Value), w3.ownsRow B 68 1 v m xs → (w3.setCell ⟨g, i, none⟩ (.slice (some ⟨g', 0, none⟩) (len i + 1) cap')).ownsRow B 68 1 v m xs := fun v m xs ho => by
    obtain ⟨hl, ho⟩ := ho
    refine ⟨hl, ?_⟩
    rcases ho with ho | ⟨q, cap, cur, hv, hq, hh, r2⟩
    · exact Or.inl ho
    · exact Or.inr ⟨q, cap, cur, hv, hq, by rw [Below.heap_setCell _ _ _ _ (by have := hF.lt.1; show q ≠ g; omega)]; exact hh, r2⟩
  refine ⟨hbel.setCell hF.ge.1 _, by simpa using hsz3, ⟨fun j hj => ?_, fun j hj => ?_⟩, fun r hr => ?_, fun r r' b hr hr' hne hb => ?_, fun r k hr hk => ?_, fun r k r' b hr hk hr' hb => ?_, (row3 gt _ hF.lt.2.1 h.times).put hx3 (Ne.symm n1) _, fun r hr => ?_, fun r r' b hr hr' hb => ?_, (row3 go _ hF.lt.2.2.1 h.outs).put hx3 (Ne.symm n2) _, fun j hj => ?_, fun j hj => ?_⟩
  · rw [cell_put _ hx3]
    by_cases hj' : j = i
    · subst hj'; rw [if_pos rfl, if_pos rfl]
    · rw [if_neg (fun e => hj' (congrArg Addr.off e)), if_neg hj']; exact cel g j _ hF.lt.1 (h.outer.row j hj)
  · rw [World.frozen?_setCell, World.frozen?_of_block (a := ⟨g, j, none⟩) (blk g hF.lt.1)]; exact h.outer.fz j hj
  · by_cases hri : r = i
    · subst hri
      simp only [if_true, true_and]
      have e : rowV (fun k => if k = len r then y else f r k) (len r + 1) = rowV (f r) (len r) ++ [y] := (rowV_push (f r) (len r) y).symm
      rw [e]
      exact keepRow _ _ _ hown
    · simp only [hri, if_false, false_and]
      refine keepRow _ _ _ ?_
      obtain ⟨hl, ho⟩ := h.own r hr
      refine ⟨hl, ?_⟩
      rcases ho with ho | ⟨q, cap, cur, hv, hq, hh, r2⟩
      · exact Or.inl ho
      · refine Or.inr ⟨q, cap, cur, hv, hq, ?_, r2⟩
        rw [hg.block q (heap_lt hh) (fun e => h.sep r i q hr hi hri (by rw [hv]; rfl) e.symm)]; exact hh
  · by_cases hri : r = i
    · rw [if_pos hri] at hb
      have e1 : g' = b := by simpa [Value.ownBlock] using hb
      rw [if_neg (by omega)]
      intro hb'
      exact gne r' b hr' (by omega) hb' e1.symm
    · rw [if_neg hri] at hb
      by_cases hri' : r' = i
      · rw [if_pos hri']
        intro hb'
        have e1 : g' = b := by simpa [Value.ownBlock] using hb'
        exact gne r b hr hri hb e1.symm
      · rw [if_neg hri']; exact h.sep r r' b hr hr' hne hb
  · by_cases hrk : r = i ∧ k = len i
    · rw [if_pos hrk, if_pos hrk]; exact (nat3 _ _ hy (fun b hb => hyo i b hi hb)).putS hx4
    · rw [if_neg hrk, if_neg hrk]
      have hk' : k < len r := by
        by_cases hri : r = i
        · rw [if_pos hri] at hk; subst hri; omega
        · rw [if_neg hri] at hk; exact hk
      exact (nat3 _ _ (h.nats r k hr hk') (fun b hb => h.off r k i b hr hk' hi hb)).putS hx4
  · have key : ∀ u m, NatAt wr u m → (∀ r' b, r' < n → (rv r').ownBlock = some b → Off b u) → Off b u := fun u m hu ho => by
      by_cases hri' : r' = i
      · rw [if_pos hri'] at hb
        have e1 : g' = b := by simpa [Value.ownBlock] using hb
        rw [← e1]; exact offn u m hu (fun b hb => ho i b hi hb)
      · rw [if_neg hri'] at hb; exact ho r' b hr' hb
    by_cases hrk : r = i ∧ k = len i
    · rw [if_pos hrk]; exact key _ _ hy hyo
    · rw [if_neg hrk]
      have hk' : k < len r := by
        by_cases hri : r = i
        · rw [if_pos hri] at hk; subst hri; omega
        · rw [if_neg hri] at hk; exact hk
      exact key _ _ (h.nats r k hr hk') (fun r' b hr' hb => h.off r k r' b hr hk' hr' hb)
  · exact (nat3 _ _ (h.tnats r hr) (fun b hb => h.toff r i b hr hi hb)).putS hx4
  · by_cases hri' : r' = i
    · rw [if_pos hri'] at hb
      have e1 : g' = b := by simpa [Value.ownBlock] using hb
      rw [← e1]; exact offn _ _ (h.tnats r hr) (fun b hb => h.toff r i b hr hi hb)
    · rw [if_neg hri'] at hb; exact h.toff r r' b hr hr' hb
  · rw [cell_put _ hx3, if_neg (fun e => n3 (congrArg Addr.block e).symm)]; exact cel fb j _ hF.lt.2.2.2 (h.cs j hj)
  · rw [cell_put _ hx3, if_neg (fun e => hF.clp.2.2.1 (congrArg Addr.block e))]; exact cel cl j _ hF.clp.2.1 (h.st j hj)
end Go.Proofs.YtlnhpkmcinohdaaDoor

/- Which numbers are right: the program's and the document's look. -/
namespace Go.Proofs.YtlnhpkmcinohdaaDoor
open Go.RowKit

/-- Is it no number? Is one of n none? -/
def noB (x : Int) : Bool := decide (x < 0) || decide (4096 < x)
def noN (z : Nat → Int) : Nat → Bool
  | 0 => false
  | n + 1 => noN z n || noB (z n)
theorem noB_no {x : Int} (h : noB x = false) : 0 ≤ x ∧ x ≤ 4096 := by
  simp [noB] at h; exact h
theorem noB_yes {x : Int} (h : noB x = true) : x < 0 ∨ 4096 < x := by
  simp [noB] at h; exact h
theorem noN_at {z : Nat → Int} : ∀ {n k : Nat}, noB (z k) = true → k < n → noN z n = true
  | 0, k, _, h => by omega
  | n + 1, k, hk, h => by
    show (noN z n || _) = true
    rcases Nat.lt_or_ge k n with h' | h'
    · rw [noN_at hk h', Bool.true_or]
    · obtain rfl : k = n := by omega
      rw [hk, Bool.or_true]
theorem noN_none {z : Nat → Int} : ∀ {n : Nat}, noN z n = false → ∀ k, k < n → 0 ≤ z k ∧ z k ≤ 4096
  | 0, _, k, h => by omega
  | n + 1, hn, k, h => by
    have h1 : (noN z n || noB (z n)) = false := hn
    rw [Bool.or_eq_false_iff] at h1
    rcases Nat.lt_or_ge k n with h' | h'
    · exact noN_none h1.1 k h'
    · obtain rfl : k = n := by omega
      exact noB_no h1.2
theorem noN_of {z : Nat → Int} : ∀ {n : Nat}, (∀ k, k < n → 0 ≤ z k ∧ z k ≤ 4096) → noN z n = false
  | 0, _ => rfl
  | n + 1, h => by
    show (noN z n || noB (z n)) = false
    rw [noN_of (fun k hk => h k (by omega))]
    have := h n (by omega)
    simp [noB]; omega
theorem sum_right {z : Nat → Int} : ∀ {n : Nat}, (∀ k, k < n → 0 ≤ z k ∧ z k ≤ 4096) → 0 ≤ sumN z n ∧ sumN z n ≤ (n : Int) * 4096
  | 0, _ => by simp [sumN]
  | n + 1, h => by
    have h1 := sum_right (z := z) (n := n) (fun k hk => h k (by omega))
    have h2 := h n (by omega)
    show 0 ≤ sumN z n + z n ∧ sumN z n + z n ≤ _
    rw [show ((n + 1 : Nat) : Int) * 4096 = (n : Int) * 4096 + 4096 by omega]
    omega

end Go.Proofs.YtlnhpkmcinohdaaDoor

/- Moves; does one fit? -/
namespace Go.Proofs.YtlnhpkmcinohdaaDoor
open Go.RowKit

/-- A move. -/
structure MvI where
  f : Int
  t : Int
  s : Int
def setF (z : Nat → Int) (i : Nat) (x : Int) : Nat → Int := fun j => if j = i then x else z j
theorem setF_at (z : Nat → Int) (i : Nat) (x : Int) : setF z i x i = x := if_pos rfl
theorem setF_other {z : Nat → Int} {i j : Nat} {x : Int} (h : j ≠ i) : setF z i x j = z j := if_neg h
/-- It does not fit. -/
def mvB (n : Nat) (z : Nat → Int) (m : MvI) : Bool := decide (m.f < 0) || decide (m.t < 0) || decide ((n : Int) ≤ m.f) || decide ((n : Int) ≤ m.t) || decide (m.f = m.t) || decide (m.s < 0) || decide (z m.f.toNat - z m.t.toNat < m.s)
def mvS (z : Nat → Int) (m : MvI) : Nat → Int := setF (setF z m.f.toNat (z m.f.toNat - m.s)) m.t.toNat (z m.t.toNat + m.s)
/-- What moves make, or where they fail. -/
def runM (n : Nat) : (Nat → Int) → List MvI → Nat → Nat ⊕ (Nat → Int)
  | z, [], _ => .inr z
  | z, m :: l, k => if mvB n z m = true then .inl k else runM n (mvS z m) l (k + 1)
theorem mvB_no {n : Nat} {z : Nat → Int} {m : MvI} (h : mvB n z m = false) : 0 ≤ m.f ∧ 0 ≤ m.t ∧ m.f < n ∧ m.t < n ∧ m.f ≠ m.t ∧ 0 ≤ m.s ∧ m.s ≤ z m.f.toNat - z m.t.toNat := by
  simp [mvB] at h
  omega
theorem mvB_yes {n : Nat} {z : Nat → Int} {m : MvI} (h : mvB n z m = true) : (m.f < 0 ∨ (0 ≤ m.f ∧ (n : Int) ≤ m.f)) ∨ (0 ≤ m.f ∧ m.f < n ∧ (m.t < 0 ∨ (0 ≤ m.t ∧ (n : Int) ≤ m.t))) ∨ (0 ≤ m.f ∧ m.f < n ∧ 0 ≤ m.t ∧ m.t < n ∧ m.f = m.t) ∨ (0 ≤ m.f ∧ m.f < n ∧ 0 ≤ m.t ∧ m.t < n ∧ m.f ≠ m.t ∧ m.s < 0) ∨ (0 ≤ m.f ∧ m.f < n ∧ 0 ≤ m.t ∧ m.t < n ∧ m.f ≠ m.t ∧ 0 ≤ m.s ∧ z m.f.toNat - z m.t.toNat < m.s) := by
  simp [mvB] at h
  omega
theorem mvS_right {n : Nat} {z : Nat → Int} {m : MvI} (h : mvB n z m = false) (hz : ∀ k, k < n → 0 ≤ z k ∧ z k ≤ 4096) : ∀ k, k < n → 0 ≤ mvS z m k ∧ mvS z m k ≤ 4096 := by
  obtain ⟨h1, h2, h3, h4, h5, h6, h7⟩ := mvB_no h
  intro k hk
  have a := hz m.f.toNat (by omega)
  have b := hz m.t.toNat (by omega)
  have c := hz k hk
  unfold mvS setF
  by_cases e1 : k = m.t.toNat
  · rw [if_pos e1]; omega
  · rw [if_neg e1]
    by_cases e2 : k = m.f.toNat
    · rw [if_pos e2]; omega
    · rw [if_neg e2]; exact c

end Go.Proofs.YtlnhpkmcinohdaaDoor

/- The library contracts of slices.Clone, Min, Max and cmp.Compare laid at the numbers of this translation. -/
namespace Go.Proofs
open Go.Shelf
def Tryd.cloneA_ren : Go.Shelf.Ren := ⟨fun | 15 => 68 | n => n, fun | 22 => 59 | 3 => 3 | 4 => 4 | n => n, fun | n => n⟩
theorem Tryd.cloneA : Go.Proofs.Lays2.n15 Tryd.prog Tryd.cloneA_ren := {
  mixed := by kernel_rfl
  f15 := Tryd.func68.trans (congrArg some (by kernel_rfl))
  t3 := Tryd.underlying3
  a3 := Tryd.isAgg3
  z3 := Tryd.sizeOf3
  v3 := Tryd.zeroValue3
  t4 := Tryd.underlying4
  a4 := Tryd.isAgg4
  z4 := Tryd.sizeOf4
  v4 := Tryd.zeroValue4
  t22 := Tryd.underlying59
  a22 := Tryd.isAgg59
  z22 := Tryd.sizeOf59
  v22 := Tryd.zeroValue59
  i3 := by kernel_rfl }
def Tryd.maxA_ren : Go.Shelf.Ren := ⟨fun | 113 => 64 | n => n, fun | 28 => 59 | 3 => 3 | 4 => 4 | 9 => 9 | 20 => 20 | 0 => 0 | n => n, fun | n => n⟩
theorem Tryd.maxA : Go.Proofs.Lays.n113 Tryd.prog Tryd.maxA_ren := {
  mixed := by kernel_rfl
  f113 := Tryd.func64.trans (congrArg some (by kernel_rfl))
  t0 := Tryd.underlying0
  a0 := Tryd.isAgg0
  z0 := Tryd.sizeOf0
  v0 := Tryd.zeroValue0
  t3 := Tryd.underlying3
  a3 := Tryd.isAgg3
  z3 := Tryd.sizeOf3
  v3 := Tryd.zeroValue3
  t4 := Tryd.underlying4
  a4 := Tryd.isAgg4
  z4 := Tryd.sizeOf4
  v4 := Tryd.zeroValue4
  t9 := Tryd.underlying9
  a9 := Tryd.isAgg9
  z9 := Tryd.sizeOf9
  v9 := Tryd.zeroValue9
  t20 := Tryd.underlying20
  a20 := Tryd.isAgg20
  z20 := Tryd.sizeOf20
  v20 := Tryd.zeroValue20
  t28 := Tryd.underlying59
  a28 := Tryd.isAgg59
  z28 := Tryd.sizeOf59
  v28 := Tryd.zeroValue59 }
def Tryd.minA_ren : Go.Shelf.Ren := ⟨fun | 114 => 63 | n => n, fun | 28 => 59 | 3 => 3 | 4 => 4 | 9 => 9 | 20 => 20 | 0 => 0 | n => n, fun | n => n⟩
theorem Tryd.minA : Go.Proofs.Lays.n114 Tryd.prog Tryd.minA_ren := {
  mixed := by kernel_rfl
  f114 := Tryd.func63.trans (congrArg some (by kernel_rfl))
  t0 := Tryd.underlying0
  a0 := Tryd.isAgg0
  z0 := Tryd.sizeOf0
  v0 := Tryd.zeroValue0
  t3 := Tryd.underlying3
  a3 := Tryd.isAgg3
  z3 := Tryd.sizeOf3
  v3 := Tryd.zeroValue3
  t4 := Tryd.underlying4
  a4 := Tryd.isAgg4
  z4 := Tryd.sizeOf4
  v4 := Tryd.zeroValue4
  t9 := Tryd.underlying9
  a9 := Tryd.isAgg9
  z9 := Tryd.sizeOf9
  v9 := Tryd.zeroValue9
  t20 := Tryd.underlying20
  a20 := Tryd.isAgg20
  z20 := Tryd.sizeOf20
  v20 := Tryd.zeroValue20
  t28 := Tryd.underlying59
  a28 := Tryd.isAgg59
  z28 := Tryd.sizeOf59
  v28 := Tryd.zeroValue59 }
def Tryd.compareA_ren : Go.Shelf.Ren := ⟨fun | 122 => 66 | 215 => 72 | n => n, fun | 3 => 3 | 4 => 4 | n => n, fun | n => n⟩
theorem Tryd.compareA : Go.Proofs.Lays.n122 Tryd.prog Tryd.compareA_ren := {
  mixed := by kernel_rfl
  f122 := Tryd.func66.trans (congrArg some (by kernel_rfl))
  f215 := Tryd.func72.trans (congrArg some (by kernel_rfl))
  t3 := Tryd.underlying3
  a3 := Tryd.isAgg3
  z3 := Tryd.sizeOf3
  v3 := Tryd.zeroValue3
  t4 := Tryd.underlying4
  a4 := Tryd.isAgg4
  z4 := Tryd.sizeOf4
  v4 := Tryd.zeroValue4 }
end Go.Proofs

/- A copy of a list, and what is put into it. -/
namespace Go.Proofs.YtlnhpkmcinohdaaDoor
open Go.RowKit

theorem Fills.later {w W W' : World} {g T : Nat} {f : Nat → Int} (h : Fills w W g T f) (hb : Below W.heap.size W W') : Fills w W' g T f :=
  ⟨h.row.later hb, fun i hi => by rw [hb.frozen (cell_lt (h.row i hi))]; exact h.fz i hi, below_chain h.below hb, h.hg⟩
/-- A list that may be put into; none has no row. -/
def FillV (w W : World) (v : Value) (n : Nat) (f : Nat → Int) : Prop := Below w.heap.size w W ∧ ((n = 0 ∧ v = .slice none 0 0) ∨ ∃ g cap, v = .slice (some ⟨g, 0, none⟩) n cap ∧ Fills w W g n f)
theorem FillV.later {w W W' : World} {v : Value} {n : Nat} {f : Nat → Int} (h : FillV w W v n f) (hb : Below W.heap.size W W') : FillV w W' v n f := by
  refine ⟨below_chain h.1 hb, ?_⟩
  rcases h.2 with h | ⟨g, cap, hv, hf⟩
  · exact Or.inl h
  · exact Or.inr ⟨g, cap, hv, hf.later hb⟩
theorem FillV.nums {w W : World} {v : Value} {n : Nat} {f : Nat → Int} (h : FillV w W v n f) : NumsAt W v n f := by
  rcases h.2 with ⟨h0, hv⟩ | ⟨g, cap, hv, hf⟩
  · exact Or.inl ⟨_, _, hv, h0⟩
  · rcases Nat.eq_zero_or_pos n with h0 | h0
    · exact Or.inl ⟨_, _, by rw [hv, h0], h0⟩
    · exact Or.inr ⟨g, 0, cap, hv, h0, hf.row⟩
theorem FillV.some {w W : World} {v : Value} {n : Nat} {f : Nat → Int} (h : FillV w W v n f) (h0 : 0 < n) : ∃ g cap, v = .slice (some ⟨g, 0, none⟩) n cap ∧ Fills w W g n f := by
  rcases h.2 with ⟨h1, _⟩ | h
  · omega
  · exact h
theorem own_fill {w W : World} {v : Value} {n : Nat} {z : Nat → Int} {t : TypeId} (h : W.ownsRow w.heap.size t 1 v n (numCells z n)) (hb : Below w.heap.size w W) : FillV w W v n z := by
  refine ⟨hb, ?_⟩
  obtain ⟨hl, hr⟩ := h
  rcases hr with ⟨hx, h0⟩ | ⟨g', cap', cur, hv, hg, hh, _, _, hs, ht⟩
  · exact Or.inl ⟨h0, hx⟩
  · refine Or.inr ⟨g', cap', hv, fun i hi => ?_, fun i hi => ?_, hb, hg⟩
    · rw [← numCells_at z n i hi, ← ht, List.getElem?_take_of_lt (by omega)]
      simp [World.cell?, hh]
    · simp [World.frozen?, hh]
set_option maxRecDepth 100000 in
theorem clone_own (v : Value) (n : Nat) (z : Nat → Int) (w : World) (h : (v = .slice none 0 0 ∧ n = 0) ∨ ∃ g cap, v = .slice (some ⟨g, 0, none⟩) n cap ∧ RowAt w g 0 n z) (hn : n ≤ 100000) :
    Calls Tryd.prog 68 #[v] w fun e w' => ∃ v', e = .returned v' ∧ FillV w w' v' n z := by
  rcases h with ⟨rfl, rfl⟩ | ⟨g, cap, rfl, hr⟩
  · have he : ∀ w : World, (binOp .eql 59 (.slice none 0 0) (.slice none 0 0)).run Tryd.prog w = .ok (.bool true) w := fun _ => rfl
    go_enter Tryd.func68, Tryd.ntmps68
    go_wp2_with fail
    go_ret
    exact ⟨_, rfl, Below.refl _ _, Or.inl ⟨rfl, rfl⟩⟩
  · refine (Any.slices_Clone_int (ρ := Tryd.cloneA_ren) Tryd.cloneA g 0 n cap (rowL z n) w (by rw [rowL_length]; exact Nat.le_refl _) (by omega) (fun j hj => ?_)).mono ?_
    · rw [rowL_length] at hj
      rw [hr j hj]
      simp [rowL, hj]
    · rintro e w' ⟨v', rfl, h1, _, h2⟩
      refine ⟨v', rfl, ?_⟩
      rw [List.take_of_length_le (by rw [rowL_length]; exact Nat.le_refl _)] at h1
      have h3 : w'.ownsRow w.heap.size 3 1 v' n (numCells z n) := by rw [← cellL_row]; exact h1
      exact own_fill h3 h2
end Go.Proofs.YtlnhpkmcinohdaaDoor
