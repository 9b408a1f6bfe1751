/- The law's copies of tables; the program's list of a table's weights. -/
import Derived.Test.YtlnhpkmcinohdaaDoorTabErr
import Derived.Deep.Onto
import Derived.Test.YtlnhpkmcinohdaaDoorFdTake
import Derived.Test.YtlnhpkmcinohdaaDoorFdAny
import Derived.Test.YtlnhpkmcinohdaaDoorWeights
import Derived.Deep.RegionHeld3
import Derived.BigQuiet
import Derived.Shelf.SlGeneric
import Derived.Shelf.Small.Wraps
import Derived.Shelf.Slices.Turned
import Derived.Shelf.Slices.Clone
import Derived.Ground.NamesProg
import Derived.Ground.Names2Prog
import Derived.Test.YtlnhpkmcinohdaaDoorProg
import Derived.Test.YtlnhpkmcinohdaaDoorFills
import Derived.Test.YtlnhpkmcinohdaaDoorCopy
import Derived.Test.YtlnhpkmcinohdaaDoorValidWalk
import Derived.Test.YtlnhpkmcinohdaaDoorTab
import Derived.Deep.DeepCutAuto
import Derived.Test.YtlnhpkmcinohdaaDoorWlVal
namespace Go.Proofs.YtlnhpkmcinohdaaDoor
open Go.RowKit

theorem Tryd.infoInts : (Tryd.prog.info? 59).map (fun i => (i.zero, i.size, i.bytes)) = some (some (.slice none 0 0), 1, 24) := by kernel_rfl
def rowV (vs : Nat → Value) (k : Nat) : List Value := (List.range k).map vs
theorem rowV_length (vs : Nat → Value) (k : Nat) : (rowV vs k).length = k := by simp [rowV]
theorem rowV_push (vs : Nat → Value) (k : Nat) (v : Value) : rowV vs k ++ [v] = rowV (fun i => if i = k then v else vs i) (k + 1) := by
  unfold rowV
  rw [List.range_succ, List.map_append]
  congr 1
  · refine List.map_congr_left (fun i hi => ?_)
    have := List.mem_range.1 hi
    rw [if_neg (by omega)]
  · simp
theorem tabAt_of_row {w : World} {base : Nat} {t : TypeId} {v : Value} {R : Nat} {vs : Nat → Value} {ns : Nat → Nat} {zs : Nat → Nat → Int} (h : w.ownsRow base t 1 v R (rowV vs R)) (hn : ∀ i, i < R → NumsAt w (vs i) (ns i) (zs i)) : TabAt w v R vs ns zs := by
  rcases h.2 with ⟨hv, h0⟩ | ⟨g, cap, cur, hv, _, hh, _, _, hs, ht⟩
  · exact Or.inl ⟨none, 0, hv, h0⟩
  · rcases Nat.eq_zero_or_pos R with h0 | h0
    · exact Or.inl ⟨_, _, by rw [hv, h0], h0⟩
    · refine Or.inr ⟨g, 0, cap, hv, h0, fun i hi => ⟨?_, hn i hi⟩⟩
      have h1 : (rowV vs R)[i]? = some (vs i) := by simp [rowV, hi]
      rw [← h1, ← ht, List.getElem?_take_of_lt (by omega)]
      simp [World.cell?, hh]
theorem own_past {w w' : World} {base : Nat} {t : TypeId} {sz : Nat} {v : Value} {n : Nat} {xs : List Value} (h : w.ownsRow base t sz v n xs) (hb : Below w.heap.size w w') : w'.ownsRow base t sz v n xs := by
  obtain ⟨hl, hr⟩ := h
  refine ⟨hl, ?_⟩
  rcases hr with hr | ⟨g, cap, cur, hv, hb1, hh, rest⟩
  · exact Or.inl hr
  · exact Or.inr ⟨g, cap, cur, hv, hb1, by rw [hb.block g (heap_lt hh)]; exact hh, rest⟩
/-- A row of another kind beside the one that is grown. -/
theorem own_beside {w w' : World} {b1 b2 : Nat} {t1 t2 : TypeId} {v u : Value} {n m s1 s2 : Nat} {xs ys : List Value} (h : w.ownsRow b1 t1 s1 v n xs) (k : w.ownsRow b2 t2 s2 u m ys) (ht : t1 ≠ t2) (hg : w.grownBy w' u.ownBlock) : w'.ownsRow b1 t1 s1 v n xs := by
  obtain ⟨hl, hr⟩ := h
  refine ⟨hl, ?_⟩
  rcases hr with hr | ⟨g, cap, cur, hv, hb1, hh, rest⟩
  · exact Or.inl hr
  · refine Or.inr ⟨g, cap, cur, hv, hb1, ?_, rest⟩
    rw [hg.block g (heap_lt hh) (fun e => ?_)]
    · exact hh
    · rcases k.2 with ⟨rfl, _⟩ | ⟨g', cap', cur', rfl, _, hh', _⟩
      · cases e
      · obtain rfl : g = g' := by simpa [Value.ownBlock] using e
        rw [hh] at hh'
        simp at hh'
        exact ht hh'.2
end Go.Proofs.YtlnhpkmcinohdaaDoor

/- What visits and goOn make in memory. -/
namespace Go.Proofs.YtlnhpkmcinohdaaDoor
open Go.RowKit

theorem Tryd.infoNat : (Tryd.prog.info? 68).map (fun i => (i.zero, i.size, i.bytes)) = some (some (.slice none 0 0), 1, 24) := by kernel_rfl
/-- A list of numbers without a bound, as one reads it. -/
def NatsAt (w : World) (v : Value) (n : Nat) (V : Nat → Nat) : Prop := ∃ (g o cap : Nat) (f : Nat → Value), v = .slice (some ⟨g, o, none⟩) n cap ∧ ∀ i, i < n → w.cell? ⟨g, o + i, none⟩ = some (f i) ∧ NatAt w (f i) (V i)
theorem NatsAt.later {w w' : World} {v : Value} {n : Nat} {V : Nat → Nat} (h : NatsAt w v n V) (hb : Below w.heap.size w w') : NatsAt w' v n V := by
  obtain ⟨g, o, cap, f, hv, hr⟩ := h
  exact ⟨g, o, cap, f, hv, fun i hi => ⟨by rw [hb.cell (cell_lt (hr i hi).1)]; exact (hr i hi).1, (hr i hi).2.later hb⟩⟩
theorem ownsRow_cells {w : World} {B e gb s cap : Nat} {f : Nat → Value} (h : w.ownsRow B e 1 (.slice (some ⟨gb, 0, none⟩) s cap) s (rowV f s)) : B ≤ gb ∧ gb < w.heap.size ∧ ∀ i, i < s → w.cell? ⟨gb, i, none⟩ = some (f i) ∧ w.frozen? ⟨gb, i, none⟩ = false := by
  obtain ⟨hl, hr⟩ := h
  rcases hr with ⟨hx, _⟩ | ⟨g', cap', cur, hv, hb, hh, h1, _, hs, ht⟩
  · cases hx
  · simp only [Value.slice.injEq, Option.some.injEq, Addr.mk.injEq, and_true, true_and] at hv
    obtain ⟨rfl, rfl⟩ := hv
    refine ⟨hb, heap_lt hh, fun i hi => ⟨?_, by simp [World.frozen?, hh]⟩⟩
    have e1 : w.cell? ⟨gb, i, none⟩ = cur.toList[i]? := by simp [World.cell?, hh]
    rw [e1]
    have e2 : cur.toList[i]? = (rowV f s)[i]? := by rw [← ht, List.getElem?_take_of_lt (by omega)]
    rw [e2]
    simp [rowV, hi]
theorem rowV_set (f : Nat → Value) (s k : Nat) (y : Value) : (rowV f s).set k y = rowV (fun i => if i = k then y else f i) s := by
  refine List.ext_getElem? fun j => ?_
  rw [List.getElem?_set]
  by_cases hj : j < s
  · by_cases hk : k = j
    · subst hk; simp [rowV, hj]
    · simp [rowV, hj, hk, Ne.symm hk]
  · have : (rowV f s)[j]? = none := by simp [rowV]; omega
    have h2 : (rowV (fun i => if i = k then y else f i) s)[j]? = none := by simp [rowV]; omega
    rw [h2]
    split
    · split
      · rename_i h3; simp [rowV] at h3; omega
      · rfl
    · exact this
theorem ownsRow_set {w : World} {B e gb s cap k : Nat} {xs : List Value} (y : Value) (h : w.ownsRow B e 1 (.slice (some ⟨gb, 0, none⟩) s cap) s xs) : (w.setCell ⟨gb, k, none⟩ y).ownsRow B e 1 (.slice (some ⟨gb, 0, none⟩) s cap) s (xs.set k y) := by
  obtain ⟨hl, hr⟩ := h
  refine ⟨by simpa using hl, ?_⟩
  rcases hr with ⟨hx, _⟩ | ⟨g', cap', cur, hv, hb, hh, h1, h2, hs, ht⟩
  · cases hx
  · simp only [Value.slice.injEq, Option.some.injEq, Addr.mk.injEq, and_true, true_and] at hv
    obtain ⟨rfl, rfl⟩ := hv
    refine Or.inr ⟨gb, cap, cur.setIfInBounds k y, rfl, hb, ?_, h1, h2, by simpa using hs, ?_⟩
    · show (w.setCell ⟨gb, k, none⟩ y).heap[gb]? = _
      unfold World.setCell
      simp [Array.getElem?_modify, hh]
    · rw [← ht]
      simp [List.take_set]
/-- The words of a number do not lie in a block. -/
def Off (gb : Nat) (v : Value) : Prop := ∀ b o l c, v = .slice (some ⟨b, o, none⟩) l c → 0 < l → b ≠ gb
theorem NatNew.off {B gb : Nat} {w : World} {v : Value} {n : Nat} (h : NatNew B w v n) (hg : gb < B) : Off gb v := fun b o l c hv hl => by have := h.2 b o l c hv hl; omega
theorem NatAt.off {gb : Nat} {w : World} {v : Value} {n : Nat} (h : NatAt w v n) (hg : w.heap.size ≤ gb) : Off gb v := fun b o l c hv hl => by
  obtain ⟨x, _, _, _, hx⟩ := h
  rcases hx with ⟨ad, cap, h1, _⟩ | ⟨b', o', cap, h1, h2, h3, h4⟩
  · rw [hv] at h1; simp at h1; omega
  · rw [hv] at h1
    simp only [Value.slice.injEq, Option.some.injEq, Addr.mk.injEq, and_true] at h1
    obtain ⟨⟨rfl, rfl⟩, rfl, rfl⟩ := h1
    have : b < w.heap.size := cell_lt (h4 0 h3)
    omega
theorem NatAt.grown {w w' : World} {gb : Nat} {v : Value} {n : Nat} (h : NatAt w v n) (hg : w.grownBy w' (some gb)) (ho : Off gb v) : NatAt w' v n := by
  obtain ⟨x, h1, h2, h3, hx⟩ := h
  refine ⟨x, h1, h2, h3, ?_⟩
  rcases hx with hx | ⟨b, o, cap, e1, e2, e3, e4⟩
  · exact Or.inl hx
  · refine Or.inr ⟨b, o, cap, e1, e2, e3, fun i hi => ?_⟩
    rw [World.cell?_of_block (hg.block b (cell_lt (e4 i hi)) (fun e => ho b o _ cap e1 e3 (Option.some.inj e)))]
    exact e4 i hi
/-- A list of one's own. -/
structure NatsOwn (B : Nat) (wr : World) (gb s cap : Nat) (f : Nat → Value) (V : Nat → Nat) : Prop where
  own : wr.ownsRow B 68 1 (.slice (some ⟨gb, 0, none⟩) s cap) s (rowV f s)
  nats : ∀ i, i < s → NatAt wr (f i) (V i)
  off : ∀ i, i < s → Off gb (f i)
/-- How often one is in each state, behind s of them. -/
def vis (n : Nat) (V : Nat → Nat → Nat) : Nat → Nat → Nat
  | 0, _ => 1
  | 1, _ => 1
  | s + 2, i => if i < s + 1 then vis n V (s + 1) i * V (n + 1) (s + 1) else sumTo (fun j => vis n V (s + 1) j * V j (s + 1)) (s + 1)
theorem vis_next (n : Nat) (V : Nat → Nat → Nat) (s i : Nat) (hs : 1 ≤ s) : vis n V (s + 1) i = if i < s then vis n V s i * V (n + 1) s else sumTo (fun j => vis n V s j * V j s) s := by
  obtain ⟨t, rfl⟩ : ∃ t, s = t + 1 := ⟨s - 1, by omega⟩
  rfl
theorem sumTo_lt {z : Nat → Nat} {M n : Nat} (hn : n ≤ 8) (h : ∀ i, i < n → z i < M) : sumTo z n < M * 18446744073709551616 ∨ M = 0 := by
  rcases Nat.eq_zero_or_pos M with h0 | h0
  · exact Or.inr h0
  · left
    have h1 := sumTo_le (z := z) (M := M) (n := n) (fun i hi => Nat.le_of_lt (h i hi))
    have h2 : n * M ≤ 8 * M := Nat.mul_le_mul_right _ hn
    omega
theorem vis_lt {n : Nat} {V : Nat → Nat → Nat} (hn : n ≤ 8) (hV : ∀ i k, i < n + 2 → k < n → V i k < 18446744073709551616 ^ 40) : ∀ s, 1 ≤ s → s ≤ n → ∀ i, i < s → vis n V s i < 18446744073709551616 ^ (41 * s)
  | 0, h, _, _, _ => by omega
  | 1, _, _, i, _ => by show 1 < _; exact Nat.one_lt_pow (by decide) (by decide)
  | s + 2, _, hs, i, hi => by
    have ih := vis_lt hn hV (s + 1) (by omega) (by omega)
    have e : 18446744073709551616 ^ (41 * (s + 2)) = 18446744073709551616 ^ (41 * (s + 1)) * 18446744073709551616 ^ 40 * 18446744073709551616 := by rw [← Nat.pow_add, ← Nat.pow_succ]; congr 1
    rw [vis_next n V (s + 1) i (by omega), e]
    have h1 : ∀ j, j < n + 2 → V j (s + 1) < 18446744073709551616 ^ 40 := fun j hj => hV j (s + 1) hj (by omega)
    have hp1 : 0 < 18446744073709551616 ^ (41 * (s + 1)) := Nat.pow_pos (by decide)
    have hp2 : 0 < 18446744073709551616 ^ 40 := Nat.pow_pos (by decide)
    generalize 18446744073709551616 ^ (41 * (s + 1)) = A at *
    generalize 18446744073709551616 ^ 40 = C at *
    have hp : 0 < A * C := Nat.mul_pos hp1 hp2
    split
    · rename_i h
      have := Nat.mul_lt_mul'' (ih i h) (h1 (n + 1) (by omega))
      omega
    · rcases sumTo_lt (z := fun j => vis n V (s + 1) j * V j (s + 1)) (M := A * C) (n := s + 1) (by omega) (fun j hj => Nat.mul_lt_mul'' (ih j hj) (h1 j (by omega))) with h | h
      · exact h
      · omega
end Go.Proofs.YtlnhpkmcinohdaaDoor

/- fold.Of: how it begins. -/
namespace Go.Proofs.YtlnhpkmcinohdaaDoor
open Go.RowKit

/-- make, at a step of a region that draws its order. -/
theorem step_make (w : World) {P : Program} {ops : Array Oper} {o : Oper} {a : Act} {K : Act → World → Prop} {Q : Exit → Act → World → Prop} {E : Prop} (hgd : o.guard = none)
    (l c : Operand) (t : TypeId) (hop : o.op = Op.makeSlice t l c) (e : TypeId) (i : TypeInfo) (z : Value) (h1 : P.underlying t = some (.slice e)) (h2 : P.info? e = some i) (h3 : i.zero = some z) (h4 : i.size = 1)
    (n : Nat) (hl : a.eval l = .int .i64 n) (hc : a.eval c = .int .i64 n) (b2 : i.bytes * n ≤ 281474976710656) (b3 : n ≤ maxLen)
    (hK : ∀ w', w'.ownsRow w.heap.size e 1 (.slice (some ⟨w.heap.size, 0, none⟩) n n) n (madeCells z.cells (n * 1)).toList → w.grownBy w' none → K (a.put o.dst (.slice (some ⟨w.heap.size, 0, none⟩) n n)) w') :
    if Region.wanted o (yielded ops a.tmps) = true then Oper.wp P o a w K Q else E := by
  have hw : Region.wanted o (yielded ops a.tmps) = true := by simp [Region.wanted, hgd]
  rw [if_pos hw]
  obtain ⟨w', hrun, r1, r2⟩ := run_make_full (P := P) w w.heap.size t e i z 1 h1 h2 h3 h4 .i64 .i64 n b2 b3 (Nat.le_refl _)
  unfold Oper.wp
  simp [execOp, hop, hl, hc, hrun, Result.andThen]
  exact hK w' r1 r2

theorem RowIs.put {W : World} {b n p k : Nat} {f : Nat → Value} {x : Value} (h : RowIs W b n f) (hx : W.cell? ⟨p, k, none⟩ = some x) (hne : b ≠ p) (y : Value) : RowIs (W.setCell ⟨p, k, none⟩ y) b n f :=
  ⟨fun j hj => by rw [cell_put _ hx, if_neg (fun e => hne (congrArg Addr.block e))]; exact h.row j hj, fun j hj => by rw [World.frozen?_setCell]; exact h.fz j hj⟩

theorem RowIs.off {W : World} {b n : Nat} {p : Addr} {f : Nat → Value} (h : RowIs W b n f) (hne : b ≠ p.block) (y : Value) : RowIs (W.setCell p y) b n f :=
  ⟨fun j hj => by rw [World.cell?_setCell_other _ _ _ _ (fun e => hne (by rw [e]))]; exact h.row j hj, fun j hj => by rw [World.frozen?_setCell]; exact h.fz j hj⟩
theorem tb_or (b j i : Nat) : (b ||| 2 ^ j).testBit i = (b.testBit i || decide (j = i)) := by rw [Nat.testBit_or, Nat.testBit_two_pow]
/-- The cells of a chain's box, before anything is told. -/
def bx0 : Nat → Value := fun j => if j = 1 then .int .i64 0 else .slice none 0 0
/-- One more block. -/
def updB (bl : Nat → Nat) (j c : Nat) : Nat → Nat := fun i => if i = j then c else bl i
/-- What is made already: 0 the states, 1 the list of rows, 2 that of times, 3 that of what goes out, 4 all of it, 5 the box. -/
structure Five (w W : World) (n : Nat) (N : Int) (ls : Nat → Int) (b : Nat) (y : Nat → Value) (bl : Nat → Nat) : Prop where
  below : Below w.heap.size w W
  ge : ∀ j, j < 6 → j ≠ 4 → b.testBit j = true → w.heap.size ≤ bl j ∧ bl j < W.heap.size
  ne : ∀ j i, j < 6 → i < 6 → j ≠ 4 → i ≠ 4 → j ≠ i → b.testBit j = true → b.testBit i = true → bl j ≠ bl i
  cl : b.testBit 0 = true → (∃ cap, y 0 = .slice (some ⟨bl 0, 0, none⟩) n cap) ∧ ∀ i, i < n → W.cell? ⟨bl 0, i, none⟩ = some (.int .i64 (ls i))
  rows : ∀ j, 1 ≤ j → j ≤ 3 → b.testBit j = true → y j = .slice (some ⟨bl j, 0, none⟩) n n ∧ RowIs W (bl j) n (fun _ => .slice none 0 0)
  bd : b.testBit 4 = true → y 4 = .agg #[y 0, .int .i64 N, y 1, y 2, y 3]
  bx : b.testBit 5 = true → y 5 = .pointer (some ⟨bl 5, 0, none⟩) ∧ RowIs W (bl 5) 5 bx0
theorem Five.start {w W : World} {n : Nat} {N : Int} {ls : Nat → Int} (y : Nat → Value) (bl : Nat → Nat) (h : Below w.heap.size w W) : Five w W n N ls 0 y bl :=
  ⟨h, fun j _ _ hb => by simp at hb, fun j i _ _ _ _ _ hb => by simp at hb, fun hb => by simp at hb, fun j _ _ hb => by simp at hb, fun hb => by simp at hb, fun hb => by simp at hb⟩
theorem Five.add {w W W' : World} {n : Nat} {N : Int} {ls : Nat → Int} {b : Nat} {y : Nat → Value} {bl : Nat → Nat} (h : Five w W n N ls b y bl) (j : Nat) (hj : j < 6) (hj4 : j ≠ 4) (hn4 : j = 5 ∨ b.testBit 4 = false) (v : Value) (c : Nat)
    (hb : Below W.heap.size W W') (hc : W.heap.size ≤ c ∧ c < W'.heap.size)
    (h0 : j = 0 → (∃ cap, v = .slice (some ⟨c, 0, none⟩) n cap) ∧ ∀ i, i < n → W'.cell? ⟨c, i, none⟩ = some (.int .i64 (ls i)))
    (h1 : 1 ≤ j → j ≤ 3 → v = .slice (some ⟨c, 0, none⟩) n n ∧ RowIs W' c n (fun _ => .slice none 0 0))
    (h5 : j = 5 → v = .pointer (some ⟨c, 0, none⟩) ∧ RowIs W' c 5 bx0) : Five w W' n N ls (b ||| 2 ^ j) (updV y j v) (updB bl j c) := by
  have old : ∀ i, i ≠ j → (b ||| 2 ^ j).testBit i = b.testBit i := fun i hi => by rw [tb_or, decide_eq_false (fun e => hi e.symm), Bool.or_false]
  have yo : ∀ i, i ≠ j → updV y j v i = y i := fun i hi => by unfold updV; rw [if_neg hi]
  have bo : ∀ i, i ≠ j → updB bl j c i = bl i := fun i hi => by unfold updB; rw [if_neg hi]
  have yn : updV y j v j = v := by unfold updV; rw [if_pos rfl]
  have bn : updB bl j c j = c := by unfold updB; rw [if_pos rfl]
  have hsz := h.below.size
  refine ⟨below_chain h.below hb, fun i hi hi4 hbi => ?_, fun i k hi hk hi4 hk4 hik hbi hbk => ?_, fun hbi => ?_, fun i hi hi3 hbi => ?_, fun hbi => ?_, fun hbi => ?_⟩
  · by_cases e : i = j
    · rw [e, bn]; exact ⟨by omega, hc.2⟩
    · rw [old i e] at hbi; rw [bo i e]; have := h.ge i hi hi4 hbi; have := hb.size; exact ⟨by omega, by omega⟩
  · by_cases e : i = j
    · have e2 : k ≠ j := by omega
      rw [old k e2] at hbk; rw [bo k e2, e, bn]; have := h.ge k hk hk4 hbk; omega
    · rw [old i e] at hbi; rw [bo i e]
      by_cases e2 : k = j
      · rw [e2, bn]; have := h.ge i hi hi4 hbi; omega
      · rw [old k e2] at hbk; rw [bo k e2]; exact h.ne i k hi hk hi4 hk4 hik hbi hbk
  · by_cases e : (0 : Nat) = j
    · subst e; rw [yn, bn]; exact h0 rfl
    · rw [old 0 e] at hbi; rw [yo 0 e, bo 0 e]
      obtain ⟨h2, h3⟩ := h.cl hbi
      exact ⟨h2, fun i hi => by rw [hb.cell (cell_lt (h3 i hi))]; exact h3 i hi⟩
  · by_cases e : i = j
    · subst e; rw [yn, bn]; exact h1 hi hi3
    · rw [old i e] at hbi; rw [yo i e, bo i e]
      obtain ⟨h2, h3⟩ := h.rows i hi hi3 hbi
      exact ⟨h2, h3.later hb⟩
  · rw [old 4 (Ne.symm hj4)] at hbi
    rcases hn4 with e | e
    · subst e
      rw [yo 4 (by decide), yo 0 (by decide), yo 1 (by decide), yo 2 (by decide), yo 3 (by decide)]; exact h.bd hbi
    · rw [e] at hbi; cases hbi
  · by_cases e : (5 : Nat) = j
    · subst e; rw [yn, bn]; exact h5 rfl
    · rw [old 5 e] at hbi; rw [yo 5 e, bo 5 e]
      obtain ⟨h2, h3⟩ := h.bx hbi
      exact ⟨h2, h3.later hb⟩
theorem Five.built {w W : World} {n : Nat} {N : Int} {ls : Nat → Int} {b : Nat} {y : Nat → Value} {bl : Nat → Nat} (h : Five w W n N ls b y bl) : Five w W n N ls (b ||| 2 ^ 4) (updV y 4 (.agg #[y 0, .int .i64 N, y 1, y 2, y 3])) bl := by
  have old : ∀ i, i ≠ 4 → (b ||| 2 ^ 4).testBit i = b.testBit i := fun i hi => by rw [tb_or, decide_eq_false (fun e => hi e.symm), Bool.or_false]
  have yo : ∀ (v : Value) i, i ≠ 4 → updV y 4 v i = y i := fun v i hi => by unfold updV; rw [if_neg hi]
  refine ⟨h.below, fun i hi hi4 hbi => ?_, fun i k hi hk hi4 hk4 hik hbi hbk => ?_, fun hbi => ?_, fun i hi hi3 hbi => ?_, fun hbi => ?_, fun hbi => ?_⟩
  · rw [old i hi4] at hbi; exact h.ge i hi hi4 hbi
  · rw [old i hi4] at hbi; rw [old k hk4] at hbk; exact h.ne i k hi hk hi4 hk4 hik hbi hbk
  · rw [old 0 (by decide)] at hbi; rw [yo _ 0 (by decide)]; exact h.cl hbi
  · rw [old i (by omega)] at hbi; rw [yo _ i (by omega)]; exact h.rows i hi hi3 hbi
  · rw [yo _ 0 (by decide), yo _ 1 (by decide), yo _ 2 (by decide), yo _ 3 (by decide)]; unfold updV; rw [if_pos rfl]
  · rw [old 5 (by decide)] at hbi; rw [yo _ 5 (by decide)]; exact h.bx hbi

/-- The cells of a chain's box. -/
def xB (cl cap : Nat) (N : Int) (g gt go n : Nat) : Nat → Value
  | 0 => .slice (some ⟨cl, 0, none⟩) n cap
  | 1 => .int .i64 N
  | 2 => .slice (some ⟨g, 0, none⟩) n n
  | 3 => .slice (some ⟨gt, 0, none⟩) n n
  | _ => .slice (some ⟨go, 0, none⟩) n n
/-- Five cells of one block are set. -/
def put5 (W : World) (b : Nat) (X : Nat → Value) : World := ((((W.setCell ⟨b, 0, none⟩ (X 0)).setCell ⟨b, 1, none⟩ (X 1)).setCell ⟨b, 2, none⟩ (X 2)).setCell ⟨b, 3, none⟩ (X 3)).setCell ⟨b, 4, none⟩ (X 4)
theorem put5_other {W : World} {b : Nat} {X : Nat → Value} {q : Addr} (h : q.block ≠ b) : (put5 W b X).cell? q = W.cell? q := by
  have hn : ∀ j, (⟨b, j, none⟩ : Addr) ≠ q := fun j e => h (by rw [← e])
  unfold put5
  rw [World.cell?_setCell_other _ _ _ _ (hn 4), World.cell?_setCell_other _ _ _ _ (hn 3), World.cell?_setCell_other _ _ _ _ (hn 2), World.cell?_setCell_other _ _ _ _ (hn 1), World.cell?_setCell_other _ _ _ _ (hn 0)]
theorem put5_below {W w : World} {b B : Nat} {X : Nat → Value} (h : Below B w W) (hb : B ≤ b) : Below B w (put5 W b X) := by
  unfold put5
  exact ((((h.setCell hb _).setCell hb _).setCell hb _).setCell hb _).setCell hb _
theorem put5_size {W : World} {b : Nat} {X : Nat → Value} : (put5 W b X).heap.size = W.heap.size := by unfold put5; simp
theorem RowIs.put5 {W : World} {b c n : Nat} {X : Nat → Value} {f : Nat → Value} (h : RowIs W c n f) (hne : c ≠ b) : RowIs (put5 W b X) c n f := by
  unfold Go.Proofs.YtlnhpkmcinohdaaDoor.put5
  exact ((((h.off hne _).off hne _).off hne _).off hne _).off hne _
theorem put5_steps {W : World} {b : Nat} {X f : Nat → Value} (h : RowIs W b 5 f) :
    W.cell? ⟨b, 0, none⟩ = some (f 0) ∧ (W.setCell ⟨b, 0, none⟩ (X 0)).cell? ⟨b, 1, none⟩ = some (f 1) ∧ ((W.setCell ⟨b, 0, none⟩ (X 0)).setCell ⟨b, 1, none⟩ (X 1)).cell? ⟨b, 2, none⟩ = some (f 2) ∧
    (((W.setCell ⟨b, 0, none⟩ (X 0)).setCell ⟨b, 1, none⟩ (X 1)).setCell ⟨b, 2, none⟩ (X 2)).cell? ⟨b, 3, none⟩ = some (f 3) ∧ ((((W.setCell ⟨b, 0, none⟩ (X 0)).setCell ⟨b, 1, none⟩ (X 1)).setCell ⟨b, 2, none⟩ (X 2)).setCell ⟨b, 3, none⟩ (X 3)).cell? ⟨b, 4, none⟩ = some (f 4) := by
  have ne : ∀ i j : Nat, i ≠ j → (⟨b, i, none⟩ : Addr) ≠ ⟨b, j, none⟩ := fun i j h e => h (congrArg Addr.off e)
  refine ⟨h.row 0 (by decide), ?_, ?_, ?_, ?_⟩
  · rw [World.cell?_setCell_other _ _ _ _ (ne _ _ (by decide))]; exact h.row 1 (by decide)
  · rw [World.cell?_setCell_other _ _ _ _ (ne _ _ (by decide)), World.cell?_setCell_other _ _ _ _ (ne _ _ (by decide))]; exact h.row 2 (by decide)
  · rw [World.cell?_setCell_other _ _ _ _ (ne _ _ (by decide)), World.cell?_setCell_other _ _ _ _ (ne _ _ (by decide)), World.cell?_setCell_other _ _ _ _ (ne _ _ (by decide))]; exact h.row 3 (by decide)
  · rw [World.cell?_setCell_other _ _ _ _ (ne _ _ (by decide)), World.cell?_setCell_other _ _ _ _ (ne _ _ (by decide)), World.cell?_setCell_other _ _ _ _ (ne _ _ (by decide)), World.cell?_setCell_other _ _ _ _ (ne _ _ (by decide))]; exact h.row 4 (by decide)
theorem put5_at {W : World} {b : Nat} {X f : Nat → Value} (h : RowIs W b 5 f) (j : Nat) (hj : j < 5) : (put5 W b X).cell? ⟨b, j, none⟩ = some (X j) := by
  have ne : ∀ i j : Nat, i ≠ j → (⟨b, i, none⟩ : Addr) ≠ ⟨b, j, none⟩ := fun i j h e => h (congrArg Addr.off e)
  obtain ⟨h0, h1, h2, h3, h4⟩ := put5_steps (X := X) h
  unfold put5
  rcases (show j = 0 ∨ j = 1 ∨ j = 2 ∨ j = 3 ∨ j = 4 by omega) with rfl | rfl | rfl | rfl | rfl
  · rw [World.cell?_setCell_other _ _ _ _ (ne _ _ (by decide)), World.cell?_setCell_other _ _ _ _ (ne _ _ (by decide)), World.cell?_setCell_other _ _ _ _ (ne _ _ (by decide)), World.cell?_setCell_other _ _ _ _ (ne _ _ (by decide)), World.cell?_setCell_same _ _ _ h0]
  · rw [World.cell?_setCell_other _ _ _ _ (ne _ _ (by decide)), World.cell?_setCell_other _ _ _ _ (ne _ _ (by decide)), World.cell?_setCell_other _ _ _ _ (ne _ _ (by decide)), World.cell?_setCell_same _ _ _ h1]
  · rw [World.cell?_setCell_other _ _ _ _ (ne _ _ (by decide)), World.cell?_setCell_other _ _ _ _ (ne _ _ (by decide)), World.cell?_setCell_same _ _ _ h2]
  · rw [World.cell?_setCell_other _ _ _ _ (ne _ _ (by decide)), World.cell?_setCell_same _ _ _ h3]
  · rw [World.cell?_setCell_same _ _ _ h4]
/-- The beginning of Of: five new blocks, and the box holds the others. -/
structure Laid5 (w W : World) (n g gt go fb cl : Nat) (X : Nat → Value) (ls : Nat → Int) : Prop where
  below : Below w.heap.size w W
  ge : w.heap.size ≤ g ∧ w.heap.size ≤ gt ∧ w.heap.size ≤ go ∧ w.heap.size ≤ fb
  lt : g < W.heap.size ∧ gt < W.heap.size ∧ go < W.heap.size ∧ fb < W.heap.size
  ne : g ≠ gt ∧ g ≠ go ∧ g ≠ fb ∧ gt ≠ go ∧ gt ≠ fb ∧ go ≠ fb
  clp : w.heap.size ≤ cl ∧ cl < W.heap.size ∧ cl ≠ g ∧ cl ≠ gt ∧ cl ≠ go ∧ cl ≠ fb
  rw : RowIs W g n (fun _ => .slice none 0 0)
  rt : RowIs W gt n (fun _ => .slice none 0 0)
  ro : RowIs W go n (fun _ => .slice none 0 0)
  cs : ∀ j, j < 5 → W.cell? ⟨fb, j, none⟩ = some (X j)
  st : ∀ i, i < n → W.cell? ⟨cl, i, none⟩ = some (.int .i64 (ls i))
theorem Five.laid {w W : World} {n : Nat} {N : Int} {ls : Nat → Int} {y : Nat → Value} {bl : Nat → Nat} (h : Five w W n N ls 63 y bl) (cap : Nat) :
    Laid5 w (put5 W (bl 5) (xB (bl 0) cap N (bl 1) (bl 2) (bl 3) n)) n (bl 1) (bl 2) (bl 3) (bl 5) (bl 0) (xB (bl 0) cap N (bl 1) (bl 2) (bl 3) n) ls := by
  have g0 := h.ge 0 (by decide) (by decide) (by decide)
  have g1 := h.ge 1 (by decide) (by decide) (by decide)
  have g2 := h.ge 2 (by decide) (by decide) (by decide)
  have g3 := h.ge 3 (by decide) (by decide) (by decide)
  have g5 := h.ge 5 (by decide) (by decide) (by decide)
  have ne := fun (i j : Nat) (hi : i < 6) (hj : j < 6) (h1 : i ≠ 4) (h2 : j ≠ 4) (h3 : i ≠ j) (h4 : Nat.testBit 63 i = true) (h5 : Nat.testBit 63 j = true) => h.ne i j hi hj h1 h2 h3 h4 h5
  have e := fun (i j : Nat) (hi : i < 6 ∧ j < 6 ∧ i ≠ 4 ∧ j ≠ 4 ∧ i ≠ j ∧ Nat.testBit 63 i = true ∧ Nat.testBit 63 j = true) => ne i j hi.1 hi.2.1 hi.2.2.1 hi.2.2.2.1 hi.2.2.2.2.1 hi.2.2.2.2.2.1 hi.2.2.2.2.2.2
  have hbx := (h.bx (by decide)).2
  refine ⟨put5_below h.below g5.1, ⟨g1.1, g2.1, g3.1, g5.1⟩, ?_, ⟨e 1 2 (by decide), e 1 3 (by decide), e 1 5 (by decide), e 2 3 (by decide), e 2 5 (by decide), e 3 5 (by decide)⟩, ⟨g0.1, ?_, e 0 1 (by decide), e 0 2 (by decide), e 0 3 (by decide), e 0 5 (by decide)⟩, ?_, ?_, ?_, fun j hj => put5_at hbx j hj, fun i hi => ?_⟩
  · rw [put5_size]; exact ⟨g1.2, g2.2, g3.2, g5.2⟩
  · rw [put5_size]; exact g0.2
  · exact (h.rows 1 (by decide) (by decide) (by decide)).2.put5 (e 1 5 (by decide))
  · exact (h.rows 2 (by decide) (by decide) (by decide)).2.put5 (e 2 5 (by decide))
  · exact (h.rows 3 (by decide) (by decide) (by decide)).2.put5 (e 3 5 (by decide))
  · rw [put5_other (e 0 5 (by decide))]; exact (h.cl (by decide)).2 i hi
theorem box5_new (W : World) (t : TypeId) : RowIs (W.alloc (.cells #[.slice none 0 0, .int .i64 0, .slice none 0 0, .slice none 0 0, .slice none 0 0] t)) W.heap.size 5 bx0 :=
  ⟨fun k hk => by rcases (show k = 0 ∨ k = 1 ∨ k = 2 ∨ k = 3 ∨ k = 4 by omega) with rfl | rfl | rfl | rfl | rfl <;> simp [bx0], fun k hk => by simp⟩
end Go.Proofs.YtlnhpkmcinohdaaDoor

/- fold.Of: rows that grow. -/
namespace Go.Proofs.YtlnhpkmcinohdaaDoor
open Go.RowKit

/-- How many of each row are there. -/
def lenAt (n i k r : Nat) : Nat := if r < i then n else if r = i then k else 0
/-- The rows while they are built, and the times. -/
structure Build (w0 wr : World) (B n g gt go fb cl : Nat) (X : Nat → Value) (ls : Nat → Int) (len : Nat → Nat) (rv : Nat → Value) (f : Nat → Nat → Value) (tf : Nat → Value) (V : Nat → Nat → Nat) (T : Nat → Nat) : Prop where
  below : Below w0.heap.size w0 wr
  size : B ≤ wr.heap.size
  outer : RowIs wr g n rv
  own : ∀ r, r < n → wr.ownsRow B 68 1 (rv r) (len r) (rowV (f r) (len r))
  sep : ∀ r r' b, r < n → r' < n → r ≠ r' → (rv r).ownBlock = some b → (rv r').ownBlock ≠ some b
  nats : ∀ r k, r < n → k < len r → NatAt wr (f r k) (V r k)
  off : ∀ r k r' b, r < n → k < len r → r' < n → (rv r').ownBlock = some b → Off b (f r k)
  times : RowIs wr gt n tf
  tnats : ∀ r, r < n → NatAt wr (tf r) (T r)
  toff : ∀ r r' b, r < n → r' < n → (rv r').ownBlock = some b → Off b (tf r)
  outs : RowIs wr go n (fun _ => .slice none 0 0)
  cs : ∀ j, j < 5 → wr.cell? ⟨fb, j, none⟩ = some (X j)
  st : ∀ i, i < n → wr.cell? ⟨cl, i, none⟩ = some (.int .i64 (ls i))
/-- The blocks that were there. -/
structure Fixed (w0 : World) (B g gt go fb cl : Nat) : Prop where
  ge : w0.heap.size ≤ g ∧ w0.heap.size ≤ gt ∧ w0.heap.size ≤ go ∧ w0.heap.size ≤ fb
  lt : g < B ∧ gt < B ∧ go < B ∧ fb < B
  ne : g ≠ gt ∧ g ≠ go ∧ g ≠ fb ∧ gt ≠ go ∧ gt ≠ fb ∧ go ≠ fb
  clp : w0.heap.size ≤ cl ∧ cl < B ∧ cl ≠ g ∧ cl ≠ gt ∧ cl ≠ go ∧ cl ≠ fb
theorem own_ge {w : World} {B e n : Nat} {v : Value} {xs : List Value} (h : w.ownsRow B e 1 v n xs) {b : Nat} (hb : v.ownBlock = some b) : B ≤ b ∧ b < w.heap.size := by
  rcases h.2 with ⟨rfl, _⟩ | ⟨g, cap, cur, rfl, hg, hh, _⟩
  · cases hb
  · obtain rfl : g = b := by simpa [Value.ownBlock] using hb
    exact ⟨hg, heap_lt hh⟩
theorem build_start {w0 W : World} {n g gt go fb cl : Nat} {X : Nat → Value} {ls : Nat → Int} (h : Laid5 w0 W n g gt go fb cl X ls) (f : Nat → Nat → Value) (V : Nat → Nat → Nat) : Build w0 W W.heap.size n g gt go fb cl X ls (lenAt n 0 0) (fun _ => .slice none 0 0) f (fun _ => .slice none 0 0) V (fun _ => 0) := by
  have hl : ∀ r, lenAt n 0 0 r = 0 := fun r => by unfold lenAt; rw [if_neg (by omega)]; split <;> rfl
  refine ⟨h.below, Nat.le_refl _, h.rw, fun r _ => ?_, fun r r' b _ _ _ hb => (by cases hb), fun r k _ hk => ?_, fun r k r' b _ _ _ hb => (by cases hb), h.rt, fun r _ => natAt_none _, fun r r' b _ _ hb => (by cases hb), h.ro, h.cs, h.st⟩
  · rw [hl]; exact ⟨rfl, Or.inl ⟨rfl, rfl⟩⟩
  · rw [hl] at hk; omega
theorem Laid5.fixed {w0 W : World} {n g gt go fb cl : Nat} {X : Nat → Value} {ls : Nat → Int} (h : Laid5 w0 W n g gt go fb cl X ls) : Fixed w0 W.heap.size g gt go fb cl := ⟨h.ge, h.lt, h.ne, h.clp⟩
theorem Build.later {w0 wr wn : World} {B n g gt go fb cl : Nat} {X : Nat → Value} {ls : Nat → Int} {len : Nat → Nat} {rv : Nat → Value} {f : Nat → Nat → Value} {tf : Nat → Value} {V : Nat → Nat → Nat} {T : Nat → Nat} (h : Build w0 wr B n g gt go fb cl X ls len rv f tf V T) (hb : Below wr.heap.size wr wn) : Build w0 wn B n g gt go fb cl X ls len rv f tf V T :=
  ⟨below_chain h.below hb, Nat.le_trans h.size hb.size, h.outer.later hb, fun r hr => own_past (h.own r hr) hb, h.sep, fun r k hr hk => (h.nats r k hr hk).later hb, h.off, h.times.later hb, fun r hr => (h.tnats r hr).later hb, h.toff, h.outs.later hb, fun j hj => by rw [hb.cell (cell_lt (h.cs j hj))]; exact h.cs j hj, fun i hi => by rw [hb.cell (cell_lt (h.st i hi))]; exact h.st i hi⟩
/-- A time is told. -/
theorem Build.time {w0 wr : World} {B n g gt go fb cl : Nat} {X : Nat → Value} {ls : Nat → Int} {len : Nat → Nat} {rv : Nat → Value} {f : Nat → Nat → Value} {tf : Nat → Value} {V : Nat → Nat → Nat} {T : Nat → Nat} (h : Build w0 wr B n g gt go fb cl X ls len rv f tf V T) (hF : Fixed w0 B g gt go fb cl) {i v : Nat} {y : Value} (hi : i < n) (hy : NatAt wr y v) (hyo : ∀ r' b, r' < n → (rv r').ownBlock = some b → Off b y) :
    Build w0 (wr.setCell ⟨gt, i, none⟩ y) B n g gt go fb cl X ls len rv f (fun r => if r = i then y else tf r) V (fun r => if r = i then v else T r) := by
  have hx := h.times.row i hi
  obtain ⟨ad, l, c, hs⟩ := (h.tnats i hi).isSlice
  rw [hs] at hx
  obtain ⟨n1, n2, n3, n4, n5, n6⟩ := hF.ne
  refine ⟨h.below.setCell hF.ge.2.1 _, by simpa using h.size, h.outer.put hx n1 _, fun r hr => ?_, h.sep, fun r k hr hk => (h.nats r k hr hk).putS hx, h.off, ⟨fun j hj => ?_, fun j hj => ?_⟩, fun r hr => ?_, fun r r' b hr hr' hb => ?_, h.outs.put hx (Ne.symm n4) _, fun j hj => ?_, fun j hj => ?_⟩
  · obtain ⟨hl, ho⟩ := h.own r hr
    refine ⟨hl, ?_⟩
    rcases ho with ho | ⟨q, cap, cur, hv, hg, hh, r2⟩
    · exact Or.inl ho
    · exact Or.inr ⟨q, cap, cur, hv, hg, by rw [Below.heap_setCell _ _ _ _ (by have := hF.lt.2.1; show q ≠ gt; omega)]; exact hh, r2⟩
  · rw [cell_put _ hx]
    by_cases hj' : j = i
    · subst hj'; rw [if_pos rfl, if_pos rfl]
    · rw [if_neg (fun e => hj' (congrArg Addr.off e)), if_neg hj']; exact h.times.row j hj
  · rw [World.frozen?_setCell]; exact h.times.fz j hj
  · by_cases hr' : r = i
    · rw [if_pos hr', if_pos hr']; exact hy.putS hx
    · rw [if_neg hr', if_neg hr']; exact (h.tnats r hr).putS hx
  · by_cases hri : r = i
    · rw [if_pos hri]; exact hyo r' b hr' hb
    · rw [if_neg hri]; exact h.toff r r' b hr hr' hb
  · rw [cell_put _ hx, if_neg (fun e => n5 (congrArg Addr.block e).symm)]; exact h.cs j hj
  · rw [cell_put _ hx, if_neg (fun e => hF.clp.2.2.2.1 (congrArg Addr.block e))]; exact h.st j hj
/-- A row grows, and its place in the list is set. -/
theorem Build.push {w0 wr w3 : World} {B n g gt go fb cl g' cap' i v : Nat} {X : Nat → Value} {ls : Nat → Int} {len : Nat → Nat} {rv : Nat → Value} {f : Nat → Nat → Value} {tf : Nat → Value} {V : Nat → Nat → Nat} {T : Nat → Nat} {y : Value} (h : Build w0 wr B n g gt go fb cl X ls len rv f tf V T) (hF : Fixed w0 B g gt go fb cl) (hi : i < n) (hy : NatAt wr y v) (hyo : ∀ r' b, r' < n → (rv r').ownBlock = some b → Off b y)
    (hg : wr.grownBy w3 (rv i).ownBlock) (hown : w3.ownsRow B 68 1 (.slice (some ⟨g', 0, none⟩) (len i + 1) cap') (len i + 1) (rowV (f i) (len i) ++ [y])) (hat : (rv i).ownBlock = some g' ∨ g' = wr.heap.size) :
    Build w0 (w3.setCell ⟨g, i, none⟩ (.slice (some ⟨g', 0, none⟩) (len i + 1) cap')) B n g gt go fb cl X ls (fun r => if r = i then len i + 1 else len r) (fun r => if r = i then .slice (some ⟨g', 0, none⟩) (len i + 1) cap' else rv r) (fun r k => if r = i ∧ k = len i then y else f r k) tf (fun r k => if r = i ∧ k = len i then v else V r k) T := by
  obtain ⟨n1, n2, n3, n4, n5, n6⟩ := hF.ne
  have old : ∀ q, q < B → some q ≠ (rv i).ownBlock := fun q hq e => by have := (own_ge (h.own i hi) e.symm).1; omega
  have blk : ∀ q, q < B → w3.heap[q]? = wr.heap[q]? := fun q hq => hg.block q (Nat.lt_of_lt_of_le hq h.size) (old q hq)
  have cel : ∀ q j x, q < B → wr.cell? ⟨q, j, none⟩ = some x → w3.cell? ⟨q, j, none⟩ = some x := fun q j x hq hx => by rw [World.cell?_of_block (a := ⟨q, j, none⟩) (blk q hq)]; exact hx
  have row3 : ∀ q F, q < B → RowIs wr q n F → RowIs w3 q n F := fun q F hq hr => ⟨fun k hk => cel q k _ hq (hr.row k hk), fun k hk => by rw [World.frozen?_of_block (a := ⟨q, k, none⟩) (blk q hq)]; exact hr.fz k hk⟩
  have nat3 : ∀ u m, NatAt wr u m → (∀ b, (rv i).ownBlock = some b → Off b u) → NatAt w3 u m := fun u m hu ho => by
    cases hb : (rv i).ownBlock with
    | some b => rw [hb] at hg; exact hu.grown hg (ho b hb)
    | none =>
      rw [hb] at hg
      exact hu.later ((Below.refl _ _).grown hg (Nat.le_refl _) (fun k hk => by cases hk))
  have offn : ∀ u m, NatAt wr u m → (∀ b, (rv i).ownBlock = some b → Off b u) → Off g' u := fun u m hu ho => by
    rcases hat with h1 | h1
    · exact ho g' h1
    · exact hu.off (by omega)
  have hbel : Below w0.heap.size w0 w3 := h.below.grown hg h.below.size (fun q hq => by have := (own_ge (h.own i hi) hq).1; have := hF.lt.1; have := hF.ge.1; omega)
  have hsz3 : B ≤ w3.heap.size := Nat.le_trans h.size hg.size
  have hxo := h.outer.row i hi
  have hx3 : w3.cell? ⟨g, i, none⟩ = some (rv i) := cel g i _ hF.lt.1 hxo
  obtain ⟨ad, l, c, hs⟩ : ∃ ad l c, rv i = .slice ad l c := by
    rcases (h.own i hi).2 with ⟨e, _⟩ | ⟨q, cap, cur, e, _⟩ <;> exact ⟨_, _, _, e⟩
  have hx4 := hx3
  rw [hs] at hx4
  have gne : ∀ r b, r < n → r ≠ i → (rv r).ownBlock = some b → b ≠ g' := fun r b hr hri hb e => by
    rcases hat with h1 | h1
    · exact h.sep r i b hr hi hri hb (by rw [h1, e])
    · have := (own_ge (h.own r hr) hb).2; omega
  have keepRow : ∀ (v : Value) (m : Nat) (xs : List Value), w3.ownsRow B 68 1 v m xs → (w3.setCell ⟨g, i, none⟩ (.slice (some ⟨g', 0, none⟩) (len i + 1) cap')).ownsRow B 68 1 v m xs := fun v m xs ho => by
    obtain ⟨hl, ho⟩ := ho
    refine ⟨hl, ?_⟩
    rcases ho with ho | ⟨q, cap, cur, hv, hq, hh, r2⟩
    · exact Or.inl ho
    · exact Or.inr ⟨q, cap, cur, hv, hq, by rw [Below.heap_setCell _ _ _ _ (by have := hF.lt.1; show q ≠ g; omega)]; exact hh, r2⟩
  refine ⟨hbel.setCell hF.ge.1 _, by simpa using hsz3, ⟨fun j hj => ?_, fun j hj => ?_⟩, fun r hr => ?_, fun r r' b hr hr' hne hb => ?_, fun r k hr hk => ?_, fun r k r' b hr hk hr' hb => ?_, (row3 gt _ hF.lt.2.1 h.times).put hx3 (Ne.symm n1) _, fun r hr => ?_, fun r r' b hr hr' hb => ?_, (row3 go _ hF.lt.2.2.1 h.outs).put hx3 (Ne.symm n2) _, fun j hj => ?_, fun j hj => ?_⟩
  · rw [cell_put _ hx3]
    by_cases hj' : j = i
    · subst hj'; rw [if_pos rfl, if_pos rfl]
    · rw [if_neg (fun e => hj' (congrArg Addr.off e)), if_neg hj']; exact cel g j _ hF.lt.1 (h.outer.row j hj)
  · rw [World.frozen?_setCell, World.frozen?_of_block (a := ⟨g, j, none⟩) (blk g hF.lt.1)]; exact h.outer.fz j hj
  · by_cases hri : r = i
    · subst hri
      simp only [if_true, true_and]
      have e : rowV (fun k => if k = len r then y else f r k) (len r + 1) = rowV (f r) (len r) ++ [y] := (rowV_push (f r) (len r) y).symm
      rw [e]
      exact keepRow _ _ _ hown
    · simp only [hri, if_false, false_and]
      refine keepRow _ _ _ ?_
      obtain ⟨hl, ho⟩ := h.own r hr
      refine ⟨hl, ?_⟩
      rcases ho with ho | ⟨q, cap, cur, hv, hq, hh, r2⟩
      · exact Or.inl ho
      · refine Or.inr ⟨q, cap, cur, hv, hq, ?_, r2⟩
        rw [hg.block q (heap_lt hh) (fun e => h.sep r i q hr hi hri (by rw [hv]; rfl) e.symm)]; exact hh
  · by_cases hri : r = i
    · rw [if_pos hri] at hb
      have e1 : g' = b := by simpa [Value.ownBlock] using hb
      rw [if_neg (by omega)]
      intro hb'
      exact gne r' b hr' (by omega) hb' e1.symm
    · rw [if_neg hri] at hb
      by_cases hri' : r' = i
      · rw [if_pos hri']
        intro hb'
        have e1 : g' = b := by simpa [Value.ownBlock] using hb'
        exact gne r b hr hri hb e1.symm
      · rw [if_neg hri']; exact h.sep r r' b hr hr' hne hb
  · by_cases hrk : r = i ∧ k = len i
    · rw [if_pos hrk, if_pos hrk]; exact (nat3 _ _ hy (fun b hb => hyo i b hi hb)).putS hx4
    · rw [if_neg hrk, if_neg hrk]
      have hk' : k < len r := by
        by_cases hri : r = i
        · rw [if_pos hri] at hk; subst hri; omega
        · rw [if_neg hri] at hk; exact hk
      exact (nat3 _ _ (h.nats r k hr hk') (fun b hb => h.off r k i b hr hk' hi hb)).putS hx4
  · have key : ∀ u m, NatAt wr u m → (∀ r' b, r' < n → (rv r').ownBlock = some b → Off b u) → Off b u := fun u m hu ho => by
      by_cases hri' : r' = i
      · rw [if_pos hri'] at hb
        have e1 : g' = b := by simpa [Value.ownBlock] using hb
        rw [← e1]; exact offn u m hu (fun b hb => ho i b hi hb)
      · rw [if_neg hri'] at hb; exact ho r' b hr' hb
    by_cases hrk : r = i ∧ k = len i
    · rw [if_pos hrk]; exact key _ _ hy hyo
    · rw [if_neg hrk]
      have hk' : k < len r := by
        by_cases hri : r = i
        · rw [if_pos hri] at hk; subst hri; omega
        · rw [if_neg hri] at hk; exact hk
      exact key _ _ (h.nats r k hr hk') (fun r' b hr' hb => h.off r k r' b hr hk' hr' hb)
  · exact (nat3 _ _ (h.tnats r hr) (fun b hb => h.toff r i b hr hi hb)).putS hx4
  · by_cases hri' : r' = i
    · rw [if_pos hri'] at hb
      have e1 : g' = b := by simpa [Value.ownBlock] using hb
      rw [← e1]; exact offn _ _ (h.tnats r hr) (fun b hb => h.toff r i b hr hi hb)
    · rw [if_neg hri'] at hb; exact h.toff r r' b hr hr' hb
  · rw [cell_put _ hx3, if_neg (fun e => n3 (congrArg Addr.block e).symm)]; exact cel fb j _ hF.lt.2.2.2 (h.cs j hj)
  · rw [cell_put _ hx3, if_neg (fun e => hF.clp.2.2.1 (congrArg Addr.block e))]; exact cel cl j _ hF.clp.2.1 (h.st j hj)
end Go.Proofs.YtlnhpkmcinohdaaDoor

/- Which numbers are right: the program's and the document's look. -/
namespace Go.Proofs.YtlnhpkmcinohdaaDoor
open Go.RowKit

/-- Is it no number? Is one of n none? -/
def noB (x : Int) : Bool := decide (x < 0) || decide (4096 < x)
def noN (z : Nat → Int) : Nat → Bool
  | 0 => false
  | n + 1 => noN z n || noB (z n)
theorem noB_no {x : Int} (h : noB x = false) : 0 ≤ x ∧ x ≤ 4096 := by
  simp [noB] at h; exact h
theorem noB_yes {x : Int} (h : noB x = true) : x < 0 ∨ 4096 < x := by
  simp [noB] at h; exact h
theorem noN_at {z : Nat → Int} : ∀ {n k : Nat}, noB (z k) = true → k < n → noN z n = true
  | 0, k, _, h => by omega
  | n + 1, k, hk, h => by
    show (noN z n || _) = true
    rcases Nat.lt_or_ge k n with h' | h'
    · rw [noN_at hk h', Bool.true_or]
    · obtain rfl : k = n := by omega
      rw [hk, Bool.or_true]
theorem noN_none {z : Nat → Int} : ∀ {n : Nat}, noN z n = false → ∀ k, k < n → 0 ≤ z k ∧ z k ≤ 4096
  | 0, _, k, h => by omega
  | n + 1, hn, k, h => by
    have h1 : (noN z n || noB (z n)) = false := hn
    rw [Bool.or_eq_false_iff] at h1
    rcases Nat.lt_or_ge k n with h' | h'
    · exact noN_none h1.1 k h'
    · obtain rfl : k = n := by omega
      exact noB_no h1.2
theorem noN_of {z : Nat → Int} : ∀ {n : Nat}, (∀ k, k < n → 0 ≤ z k ∧ z k ≤ 4096) → noN z n = false
  | 0, _ => rfl
  | n + 1, h => by
    show (noN z n || noB (z n)) = false
    rw [noN_of (fun k hk => h k (by omega))]
    have := h n (by omega)
    simp [noB]; omega
theorem sum_right {z : Nat → Int} : ∀ {n : Nat}, (∀ k, k < n → 0 ≤ z k ∧ z k ≤ 4096) → 0 ≤ sumN z n ∧ sumN z n ≤ (n : Int) * 4096
  | 0, _ => by simp [sumN]
  | n + 1, h => by
    have h1 := sum_right (z := z) (n := n) (fun k hk => h k (by omega))
    have h2 := h n (by omega)
    show 0 ≤ sumN z n + z n ∧ sumN z n + z n ≤ _
    rw [show ((n + 1 : Nat) : Int) * 4096 = (n : Int) * 4096 + 4096 by omega]
    omega

end Go.Proofs.YtlnhpkmcinohdaaDoor

/- Moves; does one fit? -/
namespace Go.Proofs.YtlnhpkmcinohdaaDoor
open Go.RowKit

/-- A move. -/
structure MvI where
  f : Int
  t : Int
  s : Int
def setF (z : Nat → Int) (i : Nat) (x : Int) : Nat → Int := fun j => if j = i then x else z j
theorem setF_at (z : Nat → Int) (i : Nat) (x : Int) : setF z i x i = x := if_pos rfl
theorem setF_other {z : Nat → Int} {i j : Nat} {x : Int} (h : j ≠ i) : setF z i x j = z j := if_neg h
/-- It does not fit. -/
def mvB (n : Nat) (z : Nat → Int) (m : MvI) : Bool := decide (m.f < 0) || decide (m.t < 0) || decide ((n : Int) ≤ m.f) || decide ((n : Int) ≤ m.t) || decide (m.f = m.t) || decide (m.s < 0) || decide (z m.f.toNat - z m.t.toNat < m.s)
def mvS (z : Nat → Int) (m : MvI) : Nat → Int := setF (setF z m.f.toNat (z m.f.toNat - m.s)) m.t.toNat (z m.t.toNat + m.s)
/-- What moves make, or where they fail. -/
def runM (n : Nat) : (Nat → Int) → List MvI → Nat → Nat ⊕ (Nat → Int)
  | z, [], _ => .inr z
  | z, m :: l, k => if mvB n z m = true then .inl k else runM n (mvS z m) l (k + 1)
theorem mvB_no {n : Nat} {z : Nat → Int} {m : MvI} (h : mvB n z m = false) : 0 ≤ m.f ∧ 0 ≤ m.t ∧ m.f < n ∧ m.t < n ∧ m.f ≠ m.t ∧ 0 ≤ m.s ∧ m.s ≤ z m.f.toNat - z m.t.toNat := by
  simp [mvB] at h
  omega
theorem mvB_yes {n : Nat} {z : Nat → Int} {m : MvI} (h : mvB n z m = true) : (m.f < 0 ∨ (0 ≤ m.f ∧ (n : Int) ≤ m.f)) ∨ (0 ≤ m.f ∧ m.f < n ∧ (m.t < 0 ∨ (0 ≤ m.t ∧ (n : Int) ≤ m.t))) ∨ (0 ≤ m.f ∧ m.f < n ∧ 0 ≤ m.t ∧ m.t < n ∧ m.f = m.t) ∨ (0 ≤ m.f ∧ m.f < n ∧ 0 ≤ m.t ∧ m.t < n ∧ m.f ≠ m.t ∧ m.s < 0) ∨ (0 ≤ m.f ∧ m.f < n ∧ 0 ≤ m.t ∧ m.t < n ∧ m.f ≠ m.t ∧ 0 ≤ m.s ∧ z m.f.toNat - z m.t.toNat < m.s) := by
  simp [mvB] at h
  omega
theorem mvS_right {n : Nat} {z : Nat → Int} {m : MvI} (h : mvB n z m = false) (hz : ∀ k, k < n → 0 ≤ z k ∧ z k ≤ 4096) : ∀ k, k < n → 0 ≤ mvS z m k ∧ mvS z m k ≤ 4096 := by
  obtain ⟨h1, h2, h3, h4, h5, h6, h7⟩ := mvB_no h
  intro k hk
  have a := hz m.f.toNat (by omega)
  have b := hz m.t.toNat (by omega)
  have c := hz k hk
  unfold mvS setF
  by_cases e1 : k = m.t.toNat
  · rw [if_pos e1]; omega
  · rw [if_neg e1]
    by_cases e2 : k = m.f.toNat
    · rw [if_pos e2]; omega
    · rw [if_neg e2]; exact c

end Go.Proofs.YtlnhpkmcinohdaaDoor

/- The library contracts of slices.Clone, Min, Max and cmp.Compare laid at the numbers of this translation. -/
namespace Go.Proofs
open Go.Shelf
def Tryd.cloneA_ren : Go.Shelf.Ren := ⟨fun | 15 => 68 | n => n, fun | 22 => 59 | 3 => 3 | 4 => 4 | n => n, fun | n => n⟩
theorem Tryd.cloneA : Go.Proofs.Lays2.n15 Tryd.prog Tryd.cloneA_ren := {
  mixed := by kernel_rfl
  f15 := Tryd.func68.trans (congrArg some (by kernel_rfl))
  t3 := Tryd.underlying3
  a3 := Tryd.isAgg3
  z3 := Tryd.sizeOf3
  v3 := Tryd.zeroValue3
  t4 := Tryd.underlying4
  a4 := Tryd.isAgg4
  z4 := Tryd.sizeOf4
  v4 := Tryd.zeroValue4
  t22 := Tryd.underlying59
  a22 := Tryd.isAgg59
  z22 := Tryd.sizeOf59
  v22 := Tryd.zeroValue59
  i3 := by kernel_rfl }
def Tryd.maxA_ren : Go.Shelf.Ren := ⟨fun | 113 => 64 | n => n, fun | 28 => 59 | 3 => 3 | 4 => 4 | 9 => 9 | 20 => 20 | 0 => 0 | n => n, fun | n => n⟩
theorem Tryd.maxA : Go.Proofs.Lays.n113 Tryd.prog Tryd.maxA_ren := {
  mixed := by kernel_rfl
  f113 := Tryd.func64.trans (congrArg some (by kernel_rfl))
  t0 := Tryd.underlying0
  a0 := Tryd.isAgg0
  z0 := Tryd.sizeOf0
  v0 := Tryd.zeroValue0
  t3 := Tryd.underlying3
  a3 := Tryd.isAgg3
  z3 := Tryd.sizeOf3
  v3 := Tryd.zeroValue3
  t4 := Tryd.underlying4
  a4 := Tryd.isAgg4
  z4 := Tryd.sizeOf4
  v4 := Tryd.zeroValue4
  t9 := Tryd.underlying9
  a9 := Tryd.isAgg9
  z9 := Tryd.sizeOf9
  v9 := Tryd.zeroValue9
  t20 := Tryd.underlying20
  a20 := Tryd.isAgg20
  z20 := Tryd.sizeOf20
  v20 := Tryd.zeroValue20
  t28 := Tryd.underlying59
  a28 := Tryd.isAgg59
  z28 := Tryd.sizeOf59
  v28 := Tryd.zeroValue59 }
def Tryd.minA_ren : Go.Shelf.Ren := ⟨fun | 114 => 63 | n => n, fun | 28 => 59 | 3 => 3 | 4 => 4 | 9 => 9 | 20 => 20 | 0 => 0 | n => n, fun | n => n⟩
theorem Tryd.minA : Go.Proofs.Lays.n114 Tryd.prog Tryd.minA_ren := {
  mixed := by kernel_rfl
  f114 := Tryd.func63.trans (congrArg some (by kernel_rfl))
  t0 := Tryd.underlying0
  a0 := Tryd.isAgg0
  z0 := Tryd.sizeOf0
  v0 := Tryd.zeroValue0
  t3 := Tryd.underlying3
  a3 := Tryd.isAgg3
  z3 := Tryd.sizeOf3
  v3 := Tryd.zeroValue3
  t4 := Tryd.underlying4
  a4 := Tryd.isAgg4
  z4 := Tryd.sizeOf4
  v4 := Tryd.zeroValue4
  t9 := Tryd.underlying9
  a9 := Tryd.isAgg9
  z9 := Tryd.sizeOf9
  v9 := Tryd.zeroValue9
  t20 := Tryd.underlying20
  a20 := Tryd.isAgg20
  z20 := Tryd.sizeOf20
  v20 := Tryd.zeroValue20
  t28 := Tryd.underlying59
  a28 := Tryd.isAgg59
  z28 := Tryd.sizeOf59
  v28 := Tryd.zeroValue59 }
def Tryd.compareA_ren : Go.Shelf.Ren := ⟨fun | 122 => 66 | 215 => 72 | n => n, fun | 3 => 3 | 4 => 4 | n => n, fun | n => n⟩
theorem Tryd.compareA : Go.Proofs.Lays.n122 Tryd.prog Tryd.compareA_ren := {
  mixed := by kernel_rfl
  f122 := Tryd.func66.trans (congrArg some (by kernel_rfl))
  f215 := Tryd.func72.trans (congrArg some (by kernel_rfl))
  t3 := Tryd.underlying3
  a3 := Tryd.isAgg3
  z3 := Tryd.sizeOf3
  v3 := Tryd.zeroValue3
  t4 := Tryd.underlying4
  a4 := Tryd.isAgg4
  z4 := Tryd.sizeOf4
  v4 := Tryd.zeroValue4 }
end Go.Proofs

/- A copy of a list, and what is put into it. -/
namespace Go.Proofs.YtlnhpkmcinohdaaDoor
open Go.RowKit

theorem Fills.later {w W W' : World} {g T : Nat} {f : Nat → Int} (h : Fills w W g T f) (hb : Below W.heap.size W W') : Fills w W' g T f :=
  ⟨h.row.later hb, fun i hi => by rw [hb.frozen (cell_lt (h.row i hi))]; exact h.fz i hi, below_chain h.below hb, h.hg⟩
/-- A list that may be put into; none has no row. -/
def FillV (w W : World) (v : Value) (n : Nat) (f : Nat → Int) : Prop := Below w.heap.size w W ∧ ((n = 0 ∧ v = .slice none 0 0) ∨ ∃ g cap, v = .slice (some ⟨g, 0, none⟩) n cap ∧ Fills w W g n f)
theorem FillV.later {w W W' : World} {v : Value} {n : Nat} {f : Nat → Int} (h : FillV w W v n f) (hb : Below W.heap.size W W') : FillV w W' v n f := by
  refine ⟨below_chain h.1 hb, ?_⟩
  rcases h.2 with h | ⟨g, cap, hv, hf⟩
  · exact Or.inl h
  · exact Or.inr ⟨g, cap, hv, hf.later hb⟩
theorem FillV.nums {w W : World} {v : Value} {n : Nat} {f : Nat → Int} (h : FillV w W v n f) : NumsAt W v n f := by
  rcases h.2 with ⟨h0, hv⟩ | ⟨g, cap, hv, hf⟩
  · exact Or.inl ⟨_, _, hv, h0⟩
  · rcases Nat.eq_zero_or_pos n with h0 | h0
    · exact Or.inl ⟨_, _, by rw [hv, h0], h0⟩
    · exact Or.inr ⟨g, 0, cap, hv, h0, hf.row⟩
theorem FillV.some {w W : World} {v : Value} {n : Nat} {f : Nat → Int} (h : FillV w W v n f) (h0 : 0 < n) : ∃ g cap, v = .slice (some ⟨g, 0, none⟩) n cap ∧ Fills w W g n f := by
  rcases h.2 with ⟨h1, _⟩ | h
  · omega
  · exact h
theorem own_fill {w W : World} {v : Value} {n : Nat} {z : Nat → Int} {t : TypeId} (h : W.ownsRow w.heap.size t 1 v n (numCells z n)) (hb : Below w.heap.size w W) : FillV w W v n z := by
  refine ⟨hb, ?_⟩
  obtain ⟨hl, hr⟩ := h
  rcases hr with ⟨hx, h0⟩ | ⟨g', cap', cur, hv, hg, hh, _, _, hs, ht⟩
  · exact Or.inl ⟨h0, hx⟩
  · refine Or.inr ⟨g', cap', hv, fun i hi => ?_, fun i hi => ?_, hb, hg⟩
    · rw [← numCells_at z n i hi, ← ht, List.getElem?_take_of_lt (by omega)]
      simp [World.cell?, hh]
    · simp [World.frozen?, hh]
set_option maxRecDepth 100000 in
theorem clone_own (v : Value) (n : Nat) (z : Nat → Int) (w : World) (h : (v = .slice none 0 0 ∧ n = 0) ∨ ∃ g cap, v = .slice (some ⟨g, 0, none⟩) n cap ∧ RowAt w g 0 n z) (hn : n ≤ 100000) :
    Calls Tryd.prog 68 #[v] w fun e w' => ∃ v', e = .returned v' ∧ FillV w w' v' n z := by
  rcases h with ⟨rfl, rfl⟩ | ⟨g, cap, rfl, hr⟩
  · have he : ∀ w : World, (binOp .eql 59 (.slice none 0 0) (.slice none 0 0)).run Tryd.prog w = .ok (.bool true) w := fun _ => rfl
    go_enter Tryd.func68, Tryd.ntmps68
    go_wp2_with fail
    go_ret
    exact ⟨_, rfl, Below.refl _ _, Or.inl ⟨rfl, rfl⟩⟩
  · refine (Any.slices_Clone_int (ρ := Tryd.cloneA_ren) Tryd.cloneA g 0 n cap (rowL z n) w (by rw [rowL_length]; exact Nat.le_refl _) (by omega) (fun j hj => ?_)).mono ?_
    · rw [rowL_length] at hj
      rw [hr j hj]
      simp [rowL, hj]
    · rintro e w' ⟨v', rfl, h1, _, h2⟩
      refine ⟨v', rfl, ?_⟩
      rw [List.take_of_length_le (by rw [rowL_length]; exact Nat.le_refl _)] at h1
      have h3 : w'.ownsRow w.heap.size 3 1 v' n (numCells z n) := by rw [← cellL_row]; exact h1
      exact own_fill h3 h2
end Go.Proofs.YtlnhpkmcinohdaaDoor

/- fold.Of: what it comes to. -/
namespace Go.Proofs.YtlnhpkmcinohdaaDoor
open Go.RowKit

/-- Rows that can be folded. -/
structure OkF (z : Nat → Int) (N : Nat) : Prop where
  lt : ∀ {k}, k < N → 0 ≤ z k ∧ z k ≤ 20000
  part : ∀ {k}, k ≤ N → 0 ≤ sumN z k ∧ sumN z k ≤ 20000
theorem Tryd.infoNats : (Tryd.prog.info? 86).map (fun i => (i.zero, i.size, i.bytes)) = some (some (.slice none 0 0), 1, 24) := by kernel_rfl
set_option maxRecDepth 100000 in
theorem Total_some (b o cap n : Nat) (z : Nat → Int) (w : World) (h : RowAt w b o n z) (hz : ∀ k, k ≤ n → -1000000 ≤ sumN z k ∧ sumN z k ≤ 1000000) (hzi : ∀ i, i < n → -1000000 ≤ z i ∧ z i ≤ 1000000) (hn : n ≤ 1000000) :
    Calls Tryd.prog 69 #[.slice (some ⟨b, o, none⟩) n cap] w fun e w' => e = .returned (.int .i64 (sumN z n)) ∧ w' = w := by
  have HR := Hid.mk' h
  have HZ := Hid.mk' hz
  have HZI := Hid.mk' hzi
  clear h hz hzi
  go_enter Tryd.func69, Tryd.ntmps69
  go_wp2_with fail
  go_loopw [3, 8] (fun s i wr => ∃ k : Nat, k ≤ n ∧ s = .int .i64 (sumN z k) ∧ i = .int .i64 k ∧ wr = w) (fun _ i _ => n - (intOf i).toNat)
  case atStart => exact ⟨0, Nat.zero_le _, rfl, rfl, rfl⟩
  case round =>
    obtain ⟨k, hk, rfl, rfl, rfl⟩ := hrel
    rcases Nat.lt_or_ge k n with h1 | h1
    · have hc := HR.out k h1
      have hs1 := HZ.out k hk
      have hs2 := HZ.out (k + 1) h1
      have hs3 := HZI.out k h1
      have HE : Hid (sumN z (k + 1) = sumN z k + z k) := rfl
      have hkn : (k : Int) < (n : Int) := by omega
      obtain ⟨x, hx⟩ : ∃ x, x = z k := ⟨_, rfl⟩
      rw [← hx] at hc hs3 HE
      obtain ⟨s, hs⟩ : ∃ s, s = sumN z k := ⟨_, rfl⟩
      rw [← hs] at hs1 HE ⊢
      clear hx hs
      go_wp2_with fail
      exact ⟨⟨k + 1, h1, by rw [HE.out], by go_num, trivial⟩, by simp [intOf]; omega⟩
    · obtain rfl : k = n := by omega
      go_wp2_with fail
      go_ret
      exact ⟨rfl, rfl⟩

theorem lenAt_next (n i k r : Nat) : lenAt n i (k + 1) r = if r = i then lenAt n i k i + 1 else lenAt n i k r := by
  unfold lenAt
  by_cases h : r = i
  · subst h; simp
  · simp [h]
theorem lenAt_own (n i k : Nat) : lenAt n i k i = k := by unfold lenAt; simp
theorem lenAt_row (n i r : Nat) : lenAt n (i + 1) 0 r = lenAt n i n r := by
  unfold lenAt
  by_cases h : r < i
  · rw [if_pos h, if_pos (by omega)]
  · rw [if_neg h]
    by_cases h2 : r = i
    · rw [if_pos h2, if_pos (by omega)]
    · rw [if_neg h2, if_neg (by omega)]; split <;> rfl
theorem Build.congr {w0 wr : World} {B n g gt go fb cl : Nat} {X : Nat → Value} {ls : Nat → Int} {len len' : Nat → Nat} {rv : Nat → Value} {f : Nat → Nat → Value} {tf : Nat → Value} {V V' : Nat → Nat → Nat} {T T' : Nat → Nat} (h : Build w0 wr B n g gt go fb cl X ls len rv f tf V T) (hl : ∀ r, len' r = len r) (hV : ∀ r k, r < n → k < len r → V' r k = V r k) (hT : ∀ r, r < n → T' r = T r) : Build w0 wr B n g gt go fb cl X ls len' rv f tf V' T' := by
  obtain rfl : len' = len := funext hl
  exact ⟨h.below, h.size, h.outer, h.own, h.sep, fun r k hr hk => by rw [hV r k hr hk]; exact h.nats r k hr hk, h.off, h.times, fun r hr => by rw [hT r hr]; exact h.tnats r hr, h.toff, h.outs, h.cs, h.st⟩
/-- The chain of some states, before any is taken out. -/
def fold0 (l : List Nat) (zs : Nat → Nat → Int) (N n i k : Nat) : Nat := if i < n then (zs (l.getD i 0) (l.getD k 0)).toNat else if i = n then (sumN (zs (l.getD k 0)) N).toNat else 0
/-- All from s on are taken out. -/
def downTo (n : Nat) (V : Nat → Nat → Nat) : Nat → Nat → Nat → Nat → Nat
  | 0, _ => V
  | c + 1, s => takeV n s (downTo n V c (s + 1))

theorem FoldAt.rebase {w0 W0 wr : World} {n g : Nat} {rb cp : Nat → Nat} {f : Nat → Nat → Value} {V : Nat → Nat → Nat} (h : FoldAt W0 wr n g rb cp f V) (hb : Below w0.heap.size w0 W0) : FoldAt w0 wr n g rb cp f V :=
  ⟨below_chain hb h.below, Nat.le_trans hb.size h.hg, h.outer, fun i hi => ⟨Nat.le_trans hb.size (h.rge i hi).1, (h.rge i hi).2⟩, h.inj, h.rows, h.nats⟩
theorem FoldAt.aside {w wr : World} {n g p j : Nat} {rb cp : Nat → Nat} {f : Nat → Nat → Value} {V : Nat → Nat → Nat} {ad : Option Addr} {l c : Nat} (h : FoldAt w wr n g rb cp f V) (hp : w.heap.size ≤ p) (hg : g ≠ p) (hr : ∀ i, i < n + 2 → rb i ≠ p) (hx : wr.cell? ⟨p, j, none⟩ = some (.slice ad l c)) (y : Value) : FoldAt w (wr.setCell ⟨p, j, none⟩ y) n g rb cp f V :=
  ⟨h.below.setCell hp _, h.hg, fun i hi => by rw [cell_put _ hx, if_neg (fun e => hg (congrArg Addr.block e))]; exact h.outer i hi, h.rge, h.inj, fun i hi => (h.rows i hi).put hx (hr i hi) y, fun i k hi hk => (h.nats i k hi hk).putS hx⟩
theorem NatAt.putI {W : World} {v y : Value} {n : Nat} {p : Addr} (h : NatAt W v n) (hc : W.cell? p = some (.int .i64 0)) : NatAt (W.setCell p y) v n := by
  obtain ⟨l, h1, h2, h3, h4⟩ := h
  refine ⟨l, h1, h2, h3, ?_⟩
  rcases h4 with h | ⟨b, o, cap, h1, h2, h3, h4⟩
  · exact Or.inl h
  · refine Or.inr ⟨b, o, cap, h1, h2, h3, fun i hi => ?_⟩
    rw [cell_put y hc, if_neg (fun e => ?_)]
    · exact h4 i hi
    · have := h4 i hi
      rw [e, hc] at this
      simp at this
theorem NatAt.put5 {W : World} {v : Value} {n b : Nat} {X : Nat → Value} (h : NatAt W v n) (hx : RowIs W b 5 bx0) : NatAt (put5 W b X) v n := by
  obtain ⟨h0, h1, h2, h3, h4⟩ := put5_steps (X := X) hx
  exact ((((h.putS h0).putI h1).putS h2).putS h3).putS h4
theorem FoldAt.put5 {w wr : World} {n g p : Nat} {X : Nat → Value} {rb cp : Nat → Nat} {f : Nat → Nat → Value} {V : Nat → Nat → Nat} (h : FoldAt w wr n g rb cp f V) (hp : w.heap.size ≤ p) (hg : g ≠ p) (hr : ∀ i, i < n + 2 → rb i ≠ p) (hx : RowIs wr p 5 bx0) : FoldAt w (put5 wr p X) n g rb cp f V :=
  ⟨put5_below h.below hp, h.hg, fun i hi => by rw [put5_other hg]; exact h.outer i hi, h.rge, h.inj, fun i hi => (h.rows i hi).put5 (hr i hi), fun i k hi hk => (h.nats i k hi hk).put5 hx⟩
theorem Build.fold {w0 wr : World} {B n g gt go fb cl : Nat} {X : Nat → Value} {ls : Nat → Int} {rv : Nat → Value} {f : Nat → Nat → Value} {tf : Nat → Value} {V : Nat → Nat → Nat} (h : Build w0 wr B n g gt go fb cl X ls (lenAt n n 0) rv f tf V (fun r => if r < n then V n r else 0)) (hF : Fixed w0 B g gt go fb cl) (hn0 : 0 < n) (hV : ∀ k, k < n → V (n + 1) k = 0) :
    ∃ rb cp f', rb n = gt ∧ rb (n + 1) = go ∧ (∀ i, i < n + 2 → fb ≠ rb i ∧ cl ≠ rb i) ∧ FoldAt w0 wr n g rb cp f' V := by
  have hlen : ∀ r, r < n → lenAt n n 0 r = n := fun r hr => by unfold lenAt; rw [if_pos hr]
  have hsl : ∀ r, r < n → ∃ q cap, rv r = .slice (some ⟨q, 0, none⟩) n cap ∧ B ≤ q ∧ q < wr.heap.size := fun r hr => by
    have ho := h.own r hr
    rw [hlen r hr] at ho
    rcases ho.2 with ⟨_, h0⟩ | ⟨q, cap, cur, hv, hq, hh, _⟩
    · omega
    · exact ⟨q, cap, hv, hq, heap_lt hh⟩
  obtain ⟨n1, n2, n3, n4, n5, n6⟩ := hF.ne
  have hob : ∀ r, r < n → ∃ q cap, rv r = .slice (some ⟨q, 0, none⟩) n cap ∧ B ≤ q ∧ (rv r).ownBlock = some q := fun r hr => by
    obtain ⟨q, cap, e, h1, _⟩ := hsl r hr
    exact ⟨q, cap, e, h1, by rw [e]; rfl⟩
  let rb : Nat → Nat := fun r => if r < n then ((rv r).ownBlock).getD 0 else if r = n then gt else go
  let cp : Nat → Nat := fun r => match rv r with | .slice _ _ c => c | _ => 0
  have hrb : ∀ r q, r < n → (rv r).ownBlock = some q → rb r = q := fun r q hr hq => by show (if r < n then _ else _) = q; rw [if_pos hr, hq]; rfl
  have hrn : rb n = gt := by show (if n < n then _ else if n = n then gt else go) = gt; rw [if_neg (by omega), if_pos rfl]
  have hro : rb (n + 1) = go := by show (if n + 1 < n then _ else if n + 1 = n then gt else go) = go; rw [if_neg (by omega), if_neg (by omega)]
  have hcase : ∀ i, i < n + 2 → i < n ∨ i = n ∨ i = n + 1 := fun i hi => by omega
  refine ⟨rb, cp, fun i k => if i < n then f i k else if i = n then tf k else .slice none 0 0, hrn, hro, fun i hi => ?_, ⟨h.below, hF.ge.1, fun i hi => ?_, fun i hi => ?_, fun i j hi hj e => ?_, fun i hi => ?_, fun i k hi hk => ?_⟩⟩
  · rcases hcase i hi with h1 | rfl | rfl
    · obtain ⟨q, cap, e, hq, hb⟩ := hob i h1
      rw [hrb i q h1 hb]; have := hF.lt.2.2.2; have := hF.clp.2.1; exact ⟨by omega, by omega⟩
    · rw [hrn]; exact ⟨Ne.symm n5, hF.clp.2.2.2.1⟩
    · rw [hro]; exact ⟨Ne.symm n6, hF.clp.2.2.2.2.1⟩
  · obtain ⟨q, cap, e, hq, hb⟩ := hob i hi
    rw [hrb i q hi hb, h.outer.row i hi, e]
    show _ = some (Value.slice _ n (match rv i with | .slice _ _ c => c | _ => 0))
    rw [e]
  · rcases hcase i hi with h1 | rfl | rfl
    · obtain ⟨q, cap, e, hq, hb⟩ := hob i h1
      rw [hrb i q h1 hb]; have := hF.lt.1; have := hF.ge.1; exact ⟨by omega, by omega⟩
    · rw [hrn]; exact ⟨hF.ge.2.1, Ne.symm n1⟩
    · rw [hro]; exact ⟨hF.ge.2.2.1, Ne.symm n2⟩
  · rcases hcase i hi with h1 | rfl | rfl
    · obtain ⟨q, cap, e1, hq, hb⟩ := hob i h1
      rw [hrb i q h1 hb] at e
      rcases hcase j hj with h2 | rfl | rfl
      · obtain ⟨q', cap', e2, hq', hb'⟩ := hob j h2
        rw [hrb j q' h2 hb'] at e
        rcases Nat.lt_trichotomy i j with h3 | h3 | h3
        · exact absurd (by rw [hb', ← e]) (h.sep i j q h1 h2 (by omega) hb)
        · exact h3
        · exact absurd (by rw [hb, e]) (h.sep j i q' h2 h1 (by omega) hb')
      · rw [hrn] at e; have := hF.lt.2.1; omega
      · rw [hro] at e; have := hF.lt.2.2.1; omega
    · rw [hrn] at e
      rcases hcase j hj with h2 | rfl | rfl
      · obtain ⟨q', cap', e2, hq', hb'⟩ := hob j h2
        rw [hrb j q' h2 hb'] at e; have := hF.lt.2.1; omega
      · rfl
      · rw [hro] at e; exact absurd e n4
    · rw [hro] at e
      rcases hcase j hj with h2 | rfl | rfl
      · obtain ⟨q', cap', e2, hq', hb'⟩ := hob j h2
        rw [hrb j q' h2 hb'] at e; have := hF.lt.2.2.1; omega
      · rw [hrn] at e; exact absurd e.symm n4
      · rfl
  · rcases hcase i hi with h1 | rfl | rfl
    · obtain ⟨q, cap, e, hq, hb⟩ := hob i h1
      rw [hrb i q h1 hb]
      have ho := h.own i h1
      rw [hlen i h1, e] at ho
      obtain ⟨_, _, hc⟩ := ownsRow_cells ho
      exact ⟨fun k hk => by show _ = some (if i < n then _ else _); rw [if_pos h1]; exact (hc k hk).1, fun k hk => (hc k hk).2⟩
    · rw [hrn]; exact ⟨fun k hk => by show _ = some (if i < i then _ else if i = i then tf k else _); rw [if_neg (by omega), if_pos rfl]; exact h.times.row k hk, h.times.fz⟩
    · rw [hro]; exact ⟨fun k hk => by show _ = some (if n + 1 < n then _ else if n + 1 = n then tf k else _); rw [if_neg (by omega), if_neg (by omega)]; exact h.outs.row k hk, h.outs.fz⟩
  · rcases hcase i hi with h1 | rfl | rfl
    · show NatAt wr (if i < n then _ else _) _; rw [if_pos h1]; exact h.nats i k h1 (by rw [hlen i h1]; exact hk)
    · show NatAt wr (if i < i then _ else if i = i then tf k else _) _; rw [if_neg (by omega), if_pos rfl]
      have := h.tnats k hk
      rw [if_pos hk] at this; exact this
    · show NatAt wr (if n + 1 < n then _ else if n + 1 = n then tf k else _) _; rw [if_neg (by omega), if_neg (by omega), hV k hk]; exact natAt_none _
/-- How great the numbers grow. -/
def bnd : Nat → Nat
  | 0 => 20001
  | c + 1 => 16 * bnd c * bnd c
theorem bnd_pos : ∀ c, 0 < bnd c
  | 0 => by decide
  | c + 1 => Nat.mul_pos (Nat.mul_pos (by decide) (bnd_pos c)) (bnd_pos c)
theorem takeV_lt {n s b : Nat} {V : Nat → Nat → Nat} (hs : s < n) (hn : n ≤ 8) (hV : ∀ i k, i < n + 2 → k < n → V i k < b) (i k : Nat) (hi : i < n + 2) (hk : k < n) : takeV n s V i k < 16 * b * b := by
  have hb : 0 < b := by have := hV i k hi hk; omega
  have hout : sumTo (V s) s ≤ 8 * b := by
    have h1 := sumTo_le (z := V s) (M := b) (n := s) (fun i hi => Nat.le_of_lt (hV s i (by omega) (by omega)))
    have h2 : s * b ≤ 8 * b := Nat.mul_le_mul_right _ (by omega)
    omega
  have hbb : b ≤ b * b := Nat.le_mul_of_pos_left b hb
  have e16 : 16 * b * b = 16 * (b * b) := Nat.mul_assoc _ _ _
  have key : ∀ x y z : Nat, x < b → y < b → z < b → x * sumTo (V s) s + y * z < 16 * b * b := fun x y z hx hy hz => by
    have h1 : x * sumTo (V s) s ≤ b * (8 * b) := Nat.mul_le_mul (Nat.le_of_lt hx) hout
    have h2 : y * z ≤ b * b := Nat.mul_le_mul (Nat.le_of_lt hy) (Nat.le_of_lt hz)
    have e8 : b * (8 * b) = 8 * (b * b) := by rw [Nat.mul_left_comm]
    omega
  unfold takeV takeTo
  split
  · omega
  · split
    · rename_i h1 h2
      exact key _ _ _ (hV i k hi hk) (hV i s hi hs) (hV s k (by omega) hk)
    · split
      · rename_i h3
        exact key _ _ _ (hV n k (by omega) hk) (hV k s (by omega) hs) (hV n s (by omega) hs)
      · have := hV i k hi hk; omega
theorem downTo_lt {n : Nat} {V : Nat → Nat → Nat} (hn : n ≤ 8) (hV : ∀ i k, i < n + 2 → k < n → V i k < 20001) : ∀ c s, s + c ≤ n → ∀ i k, i < n + 2 → k < n → downTo n V c s i k < bnd c
  | 0, _, _, i, k, hi, hk => hV i k hi hk
  | c + 1, s, hs, i, k, hi, hk => takeV_lt (by omega) hn (downTo_lt hn hV c (s + 1) (by omega)) i k hi hk
theorem bnd_mono {c d : Nat} (h : c ≤ d) : bnd c ≤ bnd d := by
  induction d with
  | zero => obtain rfl : c = 0 := by omega
            exact Nat.le_refl _
  | succ d ih =>
    rcases Nat.lt_or_ge c (d + 1) with h1 | h1
    · have h2 := ih (by omega)
      have h3 : bnd d ≤ bnd (d + 1) := by
        show bnd d ≤ 16 * bnd d * bnd d
        exact Nat.le_mul_of_pos_left _ (Nat.mul_pos (by decide) (bnd_pos d))
      omega
    · obtain rfl : c = d + 1 := by omega
      exact Nat.le_refl _
theorem bnd_room {c : Nat} (h : c ≤ 7) : bnd c < 18446744073709551616 ^ 40 := Nat.lt_of_le_of_lt (bnd_mono h) (by decide +kernel)
theorem fold0_lt {l : List Nat} {zs : Nat → Nat → Int} {N n : Nat} (hl : ∀ i, i < n → l.getD i 0 < N) (hz : ∀ i, i < N → OkF (zs i) N) (i k : Nat) (hk : k < n) : fold0 l zs N n i k < 20001 := by
  unfold fold0
  split
  · rename_i hi
    have := (hz _ (hl i hi)).lt (hl k hk)
    omega
  · split
    · have := (hz _ (hl k hk)).part (Nat.le_refl N)
      omega
    · omega

end Go.Proofs.YtlnhpkmcinohdaaDoor

/- walks.weights: of each two vertices those of their wires, together. -/
namespace Go.Proofs.YtlnhpkmcinohdaaDoor
open Go.RowKit

theorem Tryd.infoIn1 : (Tryd.prog.info? 3).map (fun i => (i.zero, i.size, i.bytes)) = some (some (.int .i64 0), 1, 8) := by kernel_rfl
theorem Tryd.infoInS : (Tryd.prog.info? 59).map (fun i => (i.zero, i.size, i.bytes)) = some (some (.slice none 0 0), 1, 24) := by kernel_rfl
/-- What a wire gives to two vertices. -/
def wireF (x : Wr) (i k : Nat) : Int := (if x.a = (i : Int) ∧ x.b = (k : Int) then x.c else 0) + (if x.b = (i : Int) ∧ x.a = (k : Int) then x.c else 0)
def wtF : List Wr → Nat → Nat → Int
  | [], _, _ => 0
  | x :: l, i, k => wireF x i k + wtF l i k
theorem wtF_snoc (x : Wr) (i k : Nat) : ∀ l, wtF (l ++ [x]) i k = wtF l i k + wireF x i k
  | [] => by simp [wtF]
  | y :: l => by simp only [List.cons_append, wtF]; rw [wtF_snoc x i k l]; omega
theorem wireF_range {x : Wr} (h : x.a ≠ x.b) (hc : 0 ≤ x.c) (i k : Nat) : 0 ≤ wireF x i k ∧ wireF x i k ≤ x.c := by
  unfold wireF
  by_cases h1 : x.a = (i : Int) ∧ x.b = (k : Int)
  · rw [if_pos h1, if_neg (by omega)]; omega
  · rw [if_neg h1]; split <;> omega
theorem wtF_range : ∀ {l : List Wr}, (∀ x, x ∈ l → x.a ≠ x.b ∧ 0 ≤ x.c ∧ x.c ≤ 1000) → ∀ i k, 0 ≤ wtF l i k ∧ wtF l i k ≤ 1000 * (l.length : Int)
  | [], _, i, k => ⟨Int.le_refl _, Int.le_refl _⟩
  | x :: l, h, i, k => by
    obtain ⟨h1, h2, h3⟩ := h x (by simp)
    have h4 := wireF_range h1 h2 i k
    have h5 := wtF_range (l := l) (fun y hy => h y (List.mem_cons_of_mem _ hy)) i k
    show 0 ≤ wireF x i k + wtF l i k ∧ wireF x i k + wtF l i k ≤ _
    simp only [List.length_cons]
    omega
theorem wireF_symm (x : Wr) (i k : Nat) : wireF x i k = wireF x k i := by
  unfold wireF
  by_cases h1 : x.a = (i : Int) ∧ x.b = (k : Int) <;> by_cases h2 : x.b = (i : Int) ∧ x.a = (k : Int)
  · rw [if_pos h1, if_pos h2, if_pos ⟨h2.2, h2.1⟩, if_pos ⟨h1.2, h1.1⟩]
  · rw [if_pos h1, if_neg h2, if_neg (fun h => h2 ⟨h.2, h.1⟩), if_pos ⟨h1.2, h1.1⟩]; omega
  · rw [if_neg h1, if_pos h2, if_pos ⟨h2.2, h2.1⟩, if_neg (fun h => h1 ⟨h.2, h.1⟩)]; omega
  · rw [if_neg h1, if_neg h2, if_neg (fun h => h2 ⟨h.2, h.1⟩), if_neg (fun h => h1 ⟨h.2, h.1⟩)]
theorem wtF_symm (i k : Nat) : ∀ l, wtF l i k = wtF l k i
  | [] => rfl
  | x :: l => by show wireF x i k + _ = wireF x k i + _; rw [wireF_symm x i k, wtF_symm i k l]
/-- How much a wire gives to a row. -/
theorem wireF_row {x : Wr} (h : x.a ≠ x.b) (hc : 0 ≤ x.c) (i : Nat) : ∀ K, 0 ≤ sumN (wireF x i) K ∧ sumN (wireF x i) K ≤ (if (x.a = (i : Int) ∧ x.b < (K : Int)) ∨ (x.b = (i : Int) ∧ x.a < (K : Int)) then x.c else 0)
  | 0 => by show 0 ≤ (0 : Int) ∧ (0 : Int) ≤ _; split <;> omega
  | K + 1 => by
    have ih := wireF_row h hc i K
    show 0 ≤ sumN (wireF x i) K + wireF x i K ∧ sumN (wireF x i) K + wireF x i K ≤ _
    have e : wireF x i K = (if x.a = (i : Int) ∧ x.b = (K : Int) then x.c else 0) + (if x.b = (i : Int) ∧ x.a = (K : Int) then x.c else 0) := rfl
    have c1 : ((K + 1 : Nat) : Int) = (K : Int) + 1 := by omega
    rw [e, c1]
    by_cases h1 : x.a = (i : Int)
    · have h2 : x.b ≠ (i : Int) := by omega
      by_cases h3 : x.b = (K : Int)
      · rw [if_pos ⟨h1, h3⟩, if_neg (by omega), if_pos (Or.inl ⟨h1, by omega⟩)]
        rw [if_neg (by omega)] at ih
        omega
      · rw [if_neg (by omega), if_neg (by omega)]
        by_cases h4 : x.b < (K : Int)
        · rw [if_pos (Or.inl ⟨h1, by omega⟩)]; rw [if_pos (Or.inl ⟨h1, h4⟩)] at ih; omega
        · rw [if_neg (by omega)]; rw [if_neg (by omega)] at ih; omega
    · by_cases h2 : x.b = (i : Int)
      · by_cases h3 : x.a = (K : Int)
        · rw [if_neg (by omega), if_pos ⟨h2, h3⟩, if_pos (Or.inr ⟨h2, by omega⟩)]
          rw [if_neg (by omega)] at ih
          omega
        · rw [if_neg (by omega), if_neg (by omega)]
          by_cases h4 : x.a < (K : Int)
          · rw [if_pos (Or.inr ⟨h2, by omega⟩)]; rw [if_pos (Or.inr ⟨h2, h4⟩)] at ih; omega
          · rw [if_neg (by omega)]; rw [if_neg (by omega)] at ih; omega
      · rw [if_neg (by omega), if_neg (by omega), if_neg (by omega)]
        rw [if_neg (by omega)] at ih
        omega
theorem sumN_addW (f g : Nat → Int) : ∀ n, sumN (fun i => f i + g i) n = sumN f n + sumN g n
  | 0 => rfl
  | n + 1 => by show sumN (fun i => f i + g i) n + (f n + g n) = sumN f n + f n + (sumN g n + g n); rw [sumN_addW f g n]; omega
theorem wtF_row : ∀ {l : List Wr}, (∀ x, x ∈ l → x.a ≠ x.b ∧ 0 ≤ x.c ∧ x.c ≤ 1000) → ∀ i K, 0 ≤ sumN (wtF l i) K ∧ sumN (wtF l i) K ≤ 1000 * (l.length : Int)
  | [], _, i, K => by
    have : ∀ K, sumN (wtF [] i) K = 0 := fun K => by
      induction K with
      | zero => rfl
      | succ K ih => show sumN (wtF [] i) K + 0 = 0; rw [ih]; rfl
    rw [this]; exact ⟨Int.le_refl _, Int.le_refl _⟩
  | x :: l, h, i, K => by
    obtain ⟨h1, h2, h3⟩ := h x (by simp)
    have h4 := wireF_row h1 h2 i K
    have h5 := wtF_row (l := l) (fun y hy => h y (List.mem_cons_of_mem _ hy)) i K
    have e : sumN (wtF (x :: l) i) K = sumN (wireF x i) K + sumN (wtF l i) K := sumN_addW (wireF x i) (wtF l i) K
    rw [e]
    simp only [List.length_cons]
    have h6 : (if (x.a = (i : Int) ∧ x.b < (K : Int)) ∨ (x.b = (i : Int) ∧ x.a < (K : Int)) then x.c else 0) ≤ 1000 := by split <;> omega
    omega
theorem wires_c {N : Int} {l : List Wr} (h : wiresB N l = true) : ∀ x, x ∈ l → x.a ≠ x.b ∧ 0 ≤ x.c ∧ x.c ≤ 1000 := fun x hx => by have := wireB_parts (wiresB_mem h x hx); exact ⟨this.2.2.2.2.1, by omega, this.2.2.2.2.2.2⟩
theorem wt_ok {N : Int} {l : List Wr} (h : wiresB N l = true) (hl : l.length ≤ 20) (i n : Nat) : OkF (wtF l i) n :=
  ⟨fun {k} _ => by have := wtF_range (wires_c h) i k; omega, fun {k} _ => by have := wtF_row (wires_c h) i k; omega⟩

set_option maxRecDepth 100000 in
set_option maxHeartbeats 8000000 in
theorem weights_any (N : Nat) (v : Value) (L : List Wr) (w : World) (h : WrAt w v L) (hl : L.length ≤ 20) (hN : N ≤ 8) (hs : wiresB N L = true) :
    Calls Tryd.prog 25 #[.agg #[.int .i64 N, v]] w fun e w' => ∃ r, e = .returned r ∧ RowsAt w' r N (wtF L) ∧ Below w.heap.size w w' := by
  obtain ⟨i0, hi, hz0, hz1, hz2⟩ := info_parts Tryd.infoInS
  have HINF : Hid (Tryd.prog.info? 59 = some i0 ∧ i0.zero = some (.slice none 0 0) ∧ i0.size = 1 ∧ i0.bytes = 24) := ⟨hi, hz0, hz1, hz2⟩
  clear hi hz0 hz1 hz2
  obtain ⟨i1, hi, hz0, hz1, hz2⟩ := info_parts Tryd.infoIn1
  have HINI : Hid (Tryd.prog.info? 3 = some i1 ∧ i1.zero = some (.int .i64 0) ∧ i1.size = 1 ∧ i1.bytes = 8) := ⟨hi, hz0, hz1, hz2⟩
  clear hi hz0 hz1 hz2
  obtain ⟨ad, cap, rfl⟩ := h.form
  obtain ⟨W1, hW1⟩ : ∃ W1, W1 = w.alloc (.cells #[.int .i64 N, .slice ad L.length cap] 34) := ⟨_, rfl⟩
  obtain ⟨bx, hbx⟩ : ∃ bx, bx = w.heap.size := ⟨_, rfl⟩
  have hb1 : Below w.heap.size w W1 := by rw [hW1]; exact (Below.refl _ _).alloc (Nat.le_refl _) _
  have q0 : W1.cell? ⟨bx, 0, none⟩ = some (.int .i64 N) := by rw [hW1, hbx]; go_simp
  have q1 : W1.cell? ⟨bx, 1, none⟩ = some (.slice ad L.length cap) := by rw [hW1, hbx]; go_simp
  have HC : Hid (∀ W, Below W1.heap.size W1 W → W.cell? ⟨bx, 0, none⟩ = some (.int .i64 N) ∧ W.cell? ⟨bx, 1, none⟩ = some (.slice ad L.length cap)) := fun W hb => ⟨by rw [hb.cell (cell_lt q0)]; exact q0, by rw [hb.cell (cell_lt q1)]; exact q1⟩
  have HL := Hid.mk' (fun (W : World) (hb : Below W1.heap.size W1 W) => (h.later hb1).later hb)
  have HEND := Hid.mk' hb1
  have HWB := Hid.mk' (fun (x : Wr) (hx : x ∈ L) => wireB_parts (wiresB_mem hs x hx))
  have HWC := Hid.mk' (wires_c hs)
  clear h hs hb1
  go_enter Tryd.func25, Tryd.ntmps25
  go_upto_region 1 with fail
  rw [← hW1, ← hbx]
  clear hW1 hbx
  go_wp2_with (at_make; go_must (refine wpList_make_full _ rfl _ _ _ rfl W1.heap.size 59 i0 _ 1 Tryd.underlying36 HINF.out.1 HINF.out.2.1 HINF.out.2.2.1 .i64 .i64 _ _ N rfl rfl rfl rfl (by rw [HINF.out.2.2.2]; omega) (by unfold maxLen; omega) (Nat.le_refl _) ?_; intro w2 hown2 hgrow2; have HG2 := Hid.mk' (gridB_start (C := N) (rowIs_made hown2 (made_one (.slice none 0 0) rfl N)) (made_below hgrow2) (Nat.le_refl _) (fun _ => 0) (fun _ _ => .int .i64 0)); clear hown2 hgrow2))
  clear q0 q1
  obtain ⟨g, hg⟩ : ∃ g, g = W1.heap.size := ⟨_, rfl⟩
  rw [← hg] at HG2 ⊢
  clear hg
  go_loopw [12] (fun i wr => ∃ (k : Nat) (rb : Nat → Nat), k ≤ N ∧ i = .int .i64 k ∧ Hid (GridB W1 wr g N N k rb (fun _ _ => .int .i64 0))) (fun i _ => N - (intOf i).toNat)
  case atStart => exact ⟨0, _, Nat.zero_le _, rfl, HG2.out⟩
  case round =>
    clear HG2
    obtain ⟨k, rb, hk, rfl, HG⟩ := hrel
    rcases Nat.lt_or_ge k N with h1 | h1
    · have hkn : (k : Int) < (N : Int) := by omega
      have hk0 : (0 : Int) ≤ (k : Int) := by omega
      obtain ⟨q0, q1⟩ := HC.out wr HG.out.below
      go_wp2_with (at_make; go_must (refine wpList_make_full _ rfl _ _ _ rfl wr.heap.size 3 i1 _ 1 Tryd.underlying59 HINI.out.1 HINI.out.2.1 HINI.out.2.2.1 .i64 .i64 _ _ N rfl rfl rfl rfl (by rw [HINI.out.2.2.2]; omega) (by unfold maxLen; omega) (Nat.le_refl _) ?_; intro w3 hown3 hgrow3; have hb3 := made_below hgrow3; have hsz3 := heap_of_row hown3; have HG3 := Hid.mk' (HG.out.push h1 hb3 (Nat.le_refl _) hsz3 (rowIs_made hown3 (made_one (.int .i64 0) rfl N))); obtain ⟨x3, hx3⟩ := (HG.out.later hb3).outer k h1; have hf3 := (HG.out.later hb3).ofz k h1; clear hown3 hgrow3 hb3 hsz3))
      exact ⟨⟨k + 1, _, h1, by go_num, HG3.out.congr (fun i c hi hc => by by_cases h5 : i = k <;> simp [h5])⟩, by simp [intOf]; omega⟩
    · obtain rfl : N = k := by omega
      have HG0 : Hid (GridB W1 wr g N N N rb (fun i c => .int .i64 (wtF (L.take 0) i c))) := HG.out.congr (fun i c _ _ => rfl)
      obtain ⟨q0, q1⟩ := HC.out wr HG.out.below
      clear HG
      go_wp2_with fail
      clear q0 q1
      obtain ⟨Wr, hWr⟩ : ∃ Wr, Wr = wr := ⟨_, rfl⟩
      rw [← hWr] at HG0 ⊢
      clear hWr hk h1
      go_loopw [25] (fun i wr => ∃ k : Nat, k ≤ L.length ∧ i = .int .i64 k ∧ Hid (GridB W1 wr g N N N rb (fun i c => .int .i64 (wtF (L.take k) i c)))) (fun i _ => L.length - (intOf i).toNat)
      case atStart => exact ⟨0, Nat.zero_le _, rfl, HG0.out⟩
      case round =>
        clear HG0
        obtain ⟨k, hk, rfl, HG⟩ := hrel
        have hk0 : (0 : Int) ≤ (k : Int) := by omega
        rcases Nat.lt_or_ge k L.length with h5 | h5
        · obtain ⟨x, hx⟩ : ∃ x, L[k]? = some x := ⟨_, List.getElem?_eq_getElem h5⟩
          obtain ⟨b, o, hbo, x0, x1, x2⟩ := (HL.out wr HG.out.below).at hx
          subst hbo
          obtain ⟨pa0, paN, pb0, pbN, pab, pc1, pc2⟩ := HWB.out x (List.mem_of_getElem? hx)
          have HTK : Hid (∀ i c, wtF (L.take (k + 1)) i c = wtF (L.take k) i c + wireF x i c) := fun i c => by
            obtain ⟨hi, rfl⟩ := List.getElem?_eq_some_iff.1 hx
            rw [List.take_succ_eq_append_getElem hi, wtF_snoc]
          have HRG : Hid (∀ i c, 0 ≤ wtF (L.take k) i c ∧ wtF (L.take k) i c ≤ 20000) := fun i c => by
            have h1 := wtF_range (l := L.take k) (fun y hy => HWC.out y (List.mem_of_mem_take hy)) i c
            have h2 : (L.take k).length ≤ 20 := by rw [List.length_take]; omega
            omega
          have hkI : (k : Int) < (L.length : Int) := by omega
          obtain ⟨na, hna⟩ : ∃ na : Nat, x.a = (na : Int) := ⟨x.a.toNat, by omega⟩
          obtain ⟨nb, hnb⟩ : ∃ nb : Nat, x.b = (nb : Int) := ⟨x.b.toNat, by omega⟩
          obtain ⟨nc, hnc⟩ : ∃ nc : Int, nc = x.c := ⟨_, rfl⟩
          have HWF : Hid (∀ i c, wireF x i c = (if i = na ∧ c = nb then nc else 0) + (if i = nb ∧ c = na then nc else 0)) := fun i c => by
            unfold wireF
            rw [hna, hnb, hnc]
            have e1 : ((na : Int) = (i : Int) ∧ (nb : Int) = (c : Int)) ↔ (i = na ∧ c = nb) := by omega
            have e2 : ((nb : Int) = (i : Int) ∧ (na : Int) = (c : Int)) ↔ (i = nb ∧ c = na) := by omega
            simp only [e1, e2]
          rw [hna] at x0 pa0 paN pab
          rw [hnb] at x1 pb0 pbN pab
          rw [← hnc] at x2 pc1 pc2
          have hnaN : na < N := by omega
          have hnbN : nb < N := by omega
          have hnab : na ≠ nb := by omega
          clear hx hna hnb hnc
          obtain ⟨W4, hW4⟩ : ∃ W4, W4 = wr.alloc (.cells #[.int .i64 (na : Int), .int .i64 (nb : Int), .int .i64 nc] 47) := ⟨_, rfl⟩
          have hb4 : Below wr.heap.size wr W4 := by rw [hW4]; exact (Below.refl _ _).alloc (Nat.le_refl _) _
          have c0 : W4.cell? ⟨wr.heap.size, 0, none⟩ = some (.int .i64 (na : Int)) := by rw [hW4]; go_simp
          have c1 : W4.cell? ⟨wr.heap.size, 1, none⟩ = some (.int .i64 (nb : Int)) := by rw [hW4]; go_simp
          have c2 : W4.cell? ⟨wr.heap.size, 2, none⟩ = some (.int .i64 nc) := by rw [hW4]; go_simp
          have HG4 := Hid.mk' (HG.out.later hb4)
          have HNE : Hid (∀ i, i < N → rb i ≠ wr.heap.size) := fun i hi => by have := (HG.out.rge i hi).2.2; omega
          have HW4 := Hid.mk' hW4
          clear hb4 hW4 HG
          go_upto_region 10 with fail
          rw [← HW4.out]
          clear x0 x1 x2
          have r1 := HG4.out.made na hnaN
          have r2 := (HG4.out.rows na hnaN).row nb hnbN
          have r3 := (HG4.out.rows na hnaN).fz nb hnbN
          have n1 := HNE.out na hnaN
          have HSa := Hid.mk' (fun (W : World) (hg : GridB W1 W g N N N rb (fun i c => .int .i64 (wtF (L.take k) i c))) => hg.set (i := na) (k := nb) hnaN hnbN (.int .i64 (wtF (L.take k) na nb + nc)) (f' := fun i c => .int .i64 (wtF (L.take k) i c + if i = na ∧ c = nb then nc else 0)) (fun i c _ _ => by
            by_cases e : i = na ∧ c = nb
            · rw [if_pos e, if_pos e, e.1, e.2]
            · rw [if_neg e, if_neg e, Int.add_zero]))
          have HCC : Hid (∀ y, ((W4.setCell ⟨rb na, nb, none⟩ y).drew).cell? ⟨wr.heap.size, 0, none⟩ = some (.int .i64 (na : Int)) ∧ ((W4.setCell ⟨rb na, nb, none⟩ y).drew).cell? ⟨wr.heap.size, 1, none⟩ = some (.int .i64 (nb : Int)) ∧ ((W4.setCell ⟨rb na, nb, none⟩ y).drew).cell? ⟨wr.heap.size, 2, none⟩ = some (.int .i64 nc)) := fun y => by
            have hn : ∀ j, (⟨rb na, nb, none⟩ : Addr) ≠ ⟨wr.heap.size, j, none⟩ := fun j e => n1 (congrArg Addr.block e)
            exact ⟨by show (W4.setCell ⟨rb na, nb, none⟩ y).cell? ⟨wr.heap.size, 0, none⟩ = _; rw [World.cell?_setCell_other _ _ _ _ (hn 0)]; exact c0, by show (W4.setCell ⟨rb na, nb, none⟩ y).cell? ⟨wr.heap.size, 1, none⟩ = _; rw [World.cell?_setCell_other _ _ _ _ (hn 1)]; exact c1, by show (W4.setCell ⟨rb na, nb, none⟩ y).cell? ⟨wr.heap.size, 2, none⟩ = _; rw [World.cell?_setCell_other _ _ _ _ (hn 2)]; exact c2⟩
          have hr1 := HRG.out na nb
          have hr2 := HRG.out nb na
          generalize wr.heap.size = wb at *
          obtain ⟨v1, hv1⟩ : ∃ v1, v1 = wtF (L.take k) na nb := ⟨_, rfl⟩
          obtain ⟨v2, hv2⟩ : ∃ v2, v2 = wtF (L.take k) nb na := ⟨_, rfl⟩
          have HV := Hid.mk' (And.intro hv1 hv2)
          rw [← hv1] at r2 hr1 HSa
          rw [← hv2] at hr2
          clear hv1 hv2
          obtain ⟨ra, hra⟩ : ∃ ra, ra = rb na := ⟨_, rfl⟩
          obtain ⟨rc, hrc⟩ : ∃ rc, rc = rb nb := ⟨_, rfl⟩
          have HRA := Hid.mk' (And.intro hra hrc)
          rw [← hra] at r1 r2 r3 n1 HSa HCC
          clear hra hrc
          go_wp2_with fail
          go_region
          obtain ⟨W5, hW5⟩ : ∃ W5, W5 = (W4.setCell ⟨ra, nb, none⟩ (.int .i64 (v1 + nc))).drew := ⟨_, rfl⟩
          have HG5 : Hid (GridB W1 W5 g N N N rb (fun i c => .int .i64 (wtF (L.take k) i c + if i = na ∧ c = nb then nc else 0))) := by rw [hW5]; exact (HSa.out W4 HG4.out).drewN
          obtain ⟨d0, d1, d2⟩ := HCC.out (.int .i64 (v1 + nc))
          rw [← hW5] at d0 d1 d2 ⊢
          clear hW5 c0 c1 c2 r1 r2 r3 n1 HG4 HSa HCC
          have s1 := HG5.out.made nb hnbN
          have s2 := (HG5.out.rows nb hnbN).row na hnaN
          have s3 := (HG5.out.rows nb hnbN).fz na hnaN
          rw [if_neg (by omega), Int.add_zero, ← HV.out.2, ← HRA.out.2] at s2
          rw [← HRA.out.2] at s1 s3
          have HSb := Hid.mk' (fun (W : World) (hg : GridB W1 W g N N N rb (fun i c => .int .i64 (wtF (L.take k) i c + if i = na ∧ c = nb then nc else 0))) => hg.set (i := nb) (k := na) hnbN hnaN (.int .i64 (wtF (L.take k) nb na + nc)) (f' := fun i c => .int .i64 (wtF (L.take (k + 1)) i c)) (fun i c _ _ => by
            rw [HTK.out, HWF.out]
            by_cases e : i = nb ∧ c = na
            · rw [if_pos e, if_pos e, e.1, e.2, if_neg (by omega), Int.zero_add]
            · rw [if_neg e, if_neg e, Int.add_zero]))
          rw [← HV.out.2, ← HRA.out.2] at HSb
          go_wp2_with fail
          go_region
          go_wp2_with fail
          exact ⟨⟨k + 1, h5, by go_num, (HSb.out W5 HG5.out).drewN⟩, by simp [intOf]; omega⟩
        · obtain rfl : k = L.length := by omega
          rw [List.take_length] at HG
          have HR := Hid.mk' HG.out.at
          have HB := Hid.mk' (below_chain HEND.out HG.out.below)
          clear HG
          go_wp2_with fail
          go_ret
          exact ⟨_, rfl, HR.out, HB.out⟩
end Go.Proofs.YtlnhpkmcinohdaaDoor
