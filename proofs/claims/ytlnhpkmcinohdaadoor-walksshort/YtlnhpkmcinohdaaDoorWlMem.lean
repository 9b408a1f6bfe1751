/- A network's wires in memory; two vertices become one: short. -/
import Derived.Test.YtlnhpkmcinohdaaDoorGrid
import Derived.Test.YtlnhpkmcinohdaaDoorCodedV
import Derived.Test.YtlnhpkmcinohdaaDoorValidWalk
import Derived.BigQuiet
import Derived.Deep.CutRange
import Derived.Deep.DeepCutAuto
import Derived.Deep.RegionHeld3
import Derived.Deep.AppendLies
namespace Go.Proofs.YtlnhpkmcinohdaaDoor
open Go.RowKit

/-- A wire: both ends, its conductance. -/
structure Wr where
  a : Int
  b : Int
  c : Int
/-- Wires in memory. -/
def WrAt (w : World) (v : Value) (l : List Wr) : Prop := ∃ ad cap, v = .slice ad l.length cap ∧ ∀ i m, l[i]? = some m → ∃ b o, ad = some ⟨b, o, none⟩ ∧ w.cell? ⟨b, o + i * 3, none⟩ = some (.int .i64 m.a) ∧ w.cell? ⟨b, o + i * 3 + 1, none⟩ = some (.int .i64 m.b) ∧ w.cell? ⟨b, o + i * 3 + 2, none⟩ = some (.int .i64 m.c)
theorem WrAt.later {w w' : World} {v : Value} {l : List Wr} (h : WrAt w v l) (hb : Below w.heap.size w w') : WrAt w' v l := by
  obtain ⟨ad, cap, hv, hc⟩ := h
  refine ⟨ad, cap, hv, fun i c hi => ?_⟩
  obtain ⟨b, o, ha, h0, h1, h2⟩ := hc i c hi
  refine ⟨b, o, ha, ?_, ?_, ?_⟩
  · rw [hb.cell (cell_lt h0)]; exact h0
  · rw [hb.cell (cell_lt h1)]; exact h1
  · rw [hb.cell (cell_lt h2)]; exact h2
theorem WrAt.form {w : World} {v : Value} {l : List Wr} (h : WrAt w v l) : ∃ ad cap, v = .slice ad l.length cap := let ⟨ad, cap, hv, _⟩ := h; ⟨ad, cap, hv⟩
theorem WrAt.at {w : World} {ad : Option Addr} {n cap : Nat} {l : List Wr} (h : WrAt w (.slice ad n cap) l) {i : Nat} {m : Wr} (hi : l[i]? = some m) : ∃ b o, ad = some ⟨b, o, none⟩ ∧ w.cell? ⟨b, o + i * 3, none⟩ = some (.int .i64 m.a) ∧ w.cell? ⟨b, o + i * 3 + 1, none⟩ = some (.int .i64 m.b) ∧ w.cell? ⟨b, o + i * 3 + 2, none⟩ = some (.int .i64 m.c) := by
  obtain ⟨ad', cap', hv, hc⟩ := h
  obtain ⟨rfl, _, rfl⟩ : ad = ad' ∧ n = l.length ∧ cap = cap' := by simpa using hv
  exact hc i m hi
theorem three_newW (w : World) (x0 x1 x2 : Value) (t : TypeId) (j : Nat) (u : Value) (h : [x0, x1, x2][j]? = some u) : (w.alloc (.cells #[x0, x1, x2] t)).cell? ((⟨w.heap.size, 0, none⟩ : Addr).add j) = some u := by
  rw [add_plain, World.cell?_alloc_at _ _ _ _ rfl, Nat.zero_add]
  rcases j with _ | _ | _ | j
  · simpa using h
  · simpa using h
  · simpa using h
  · simp at h
/-- The cells of wires. -/
def wrCW (c : Wr) : List Value := [.int .i64 c.a, .int .i64 c.b, .int .i64 c.c]
def wrsC : List Wr → List Value
  | [] => []
  | c :: r => wrCW c ++ wrsC r
theorem wrsC_append : ∀ a b, wrsC (a ++ b) = wrsC a ++ wrsC b
  | [], b => rfl
  | c :: a, b => by simp [wrsC, wrsC_append a b]
theorem wrsC_snoc (a : List Wr) (c : Wr) : wrsC (a ++ [c]) = wrsC a ++ [.int .i64 c.a, .int .i64 c.b, .int .i64 c.c] := by
  rw [wrsC_append]; rfl
theorem wrsC_at : ∀ (l : List Wr) (i : Nat) (c : Wr), l[i]? = some c → (wrsC l)[i * 3]? = some (.int .i64 c.a) ∧ (wrsC l)[i * 3 + 1]? = some (.int .i64 c.b) ∧ (wrsC l)[i * 3 + 2]? = some (.int .i64 c.c)
  | [], i, c, h => by simp at h
  | d :: r, 0, c, h => by
    obtain rfl : d = c := by simpa using h
    exact ⟨rfl, rfl, rfl⟩
  | d :: r, i + 1, c, h => by
    obtain ⟨h0, h1, h2⟩ := wrsC_at r i c (by simpa using h)
    have e : ∀ k, (wrsC (d :: r))[(i + 1) * 3 + k]? = (wrsC r)[i * 3 + k]? := fun k => by
      show (wrCW d ++ wrsC r)[(i + 1) * 3 + k]? = _
      rw [List.getElem?_append_right (by show 3 ≤ _; omega)]
      congr 1
      show (i + 1) * 3 + k - 3 = _
      omega
    exact ⟨by have := e 0; simp only [Nat.add_zero] at this; rw [this]; exact h0, by rw [e 1]; exact h1, by rw [e 2]; exact h2⟩
theorem wrAt_row {w : World} {base : Nat} {t : TypeId} {v : Value} {l : List Wr} (h : w.ownsRow base t 3 v l.length (wrsC l)) : WrAt w v l := by
  rcases h.2 with ⟨rfl, hn⟩ | ⟨g, cap, cur, rfl, _⟩
  · obtain rfl : l = [] := List.eq_nil_of_length_eq_zero hn
    exact ⟨_, _, rfl, fun i c hc => by simp at hc⟩
  · refine ⟨_, _, rfl, fun i c hc => ⟨g, 0, rfl, ?_⟩⟩
    have hi : i < l.length := by
      rcases Nat.lt_or_ge i l.length with h' | h'
      · exact h'
      · rw [List.getElem?_eq_none h'] at hc; cases hc
    obtain ⟨h0, h1, h2⟩ := wrsC_at l i c hc
    have e : ∀ j, j < l.length * 3 → w.cell? ⟨g, j, none⟩ = (wrsC l)[j]? := fun j hj => h.cellAt j hj
    rw [Nat.zero_add]
    refine ⟨?_, ?_, ?_⟩
    · rw [e _ (by omega)]; exact h0
    · rw [e _ (by omega)]; exact h1
    · rw [e _ (by omega)]; exact h2


theorem Tryd.infoWire : (Tryd.prog.info? 47).map (fun i => (i.zero, i.size, i.bytes)) = some (some (.agg #[.int .i64 0, .int .i64 0, .int .i64 0]), 3, 24) := by kernel_rfl
/-- A vertex's new number. -/
def numV (lo hi v : Int) : Int := if v = hi then lo else if hi < v then v - 1 else v
/-- Wires, when hi has become lo. -/
def shortL (lo hi : Int) : List Wr → List Wr
  | [] => []
  | x :: l => if numV lo hi x.a = numV lo hi x.b then shortL lo hi l else ⟨numV lo hi x.a, numV lo hi x.b, x.c⟩ :: shortL lo hi l
theorem shortL_append (lo hi : Int) : ∀ a b, shortL lo hi (a ++ b) = shortL lo hi a ++ shortL lo hi b
  | [], b => rfl
  | x :: a, b => by
    show (if _ then _ else _) = (if _ then _ else _) ++ _
    split
    · exact shortL_append lo hi a b
    · exact congrArg (List.cons _) (shortL_append lo hi a b)
theorem shortL_one (lo hi : Int) (a : List Wr) (x : Wr) (h : numV lo hi x.a ≠ numV lo hi x.b) : shortL lo hi (a ++ [x]) = shortL lo hi a ++ [⟨numV lo hi x.a, numV lo hi x.b, x.c⟩] := by
  rw [shortL_append]; congr 1; show (if _ then _ else _) = _; rw [if_neg h]; rfl
theorem shortL_none (lo hi : Int) (a : List Wr) (x : Wr) (h : numV lo hi x.a = numV lo hi x.b) : shortL lo hi (a ++ [x]) = shortL lo hi a := by
  rw [shortL_append, show shortL lo hi [x] = [] by show (if _ then _ else _) = _; rw [if_pos h]; rfl, List.append_nil]
theorem shortL_le (lo hi : Int) : ∀ l, (shortL lo hi l).length ≤ l.length
  | [] => Nat.le_refl _
  | x :: l => by
    show (if _ then _ else _ : List Wr).length ≤ _
    have := shortL_le lo hi l
    split
    · simp; omega
    · simp; omega
theorem shortL_mem (lo hi : Int) : ∀ (l : List Wr) (y : Wr), y ∈ shortL lo hi l → ∃ x, x ∈ l ∧ y.a = numV lo hi x.a ∧ y.b = numV lo hi x.b ∧ y.c = x.c ∧ y.a ≠ y.b
  | x :: l, y, h => by
    by_cases e : numV lo hi x.a = numV lo hi x.b
    · have h' : y ∈ shortL lo hi l := by unfold shortL at h; rw [if_pos e] at h; exact h
      obtain ⟨z, hz, h2⟩ := shortL_mem lo hi l y h'
      exact ⟨z, by simp [hz], h2⟩
    · have h' : y ∈ (⟨numV lo hi x.a, numV lo hi x.b, x.c⟩ : Wr) :: shortL lo hi l := by unfold shortL at h; rw [if_neg e] at h; exact h
      rcases List.mem_cons.1 h' with rfl | h'
      · exact ⟨x, by simp, rfl, rfl, rfl, e⟩
      · obtain ⟨z, hz, h2⟩ := shortL_mem lo hi l y h'
        exact ⟨z, by simp [hz], h2⟩
/-- Ends that are small numbers. -/
def SmE (l : List Wr) : Prop := ∀ x, x ∈ l → 0 ≤ x.a ∧ x.a < 1000 ∧ 0 ≤ x.b ∧ x.b < 1000 ∧ 0 ≤ x.c ∧ x.c ≤ 1000

set_option maxRecDepth 100000 in
theorem short1_any (lo hi v : Int) (hb lb : Nat) (W : World) (h1 : W.cell? ⟨hb, 0, none⟩ = some (.int .i64 hi)) (h2 : W.cell? ⟨lb, 0, none⟩ = some (.int .i64 lo)) (hv : 0 ≤ v ∧ v < 1000) :
    Calls Tryd.prog 37 #[.int .i64 v, .pointer (some ⟨hb, 0, none⟩), .pointer (some ⟨lb, 0, none⟩)] W fun e w' => e = .returned (.int .i64 (numV lo hi v)) ∧ w' = W := by
  by_cases e : v = hi
  · have HE : Hid (numV lo hi v = lo) := by show _ = _; unfold numV; rw [if_pos e]
    have hd : (v == hi) = true := by simpa using e
    clear e
    go_enter Tryd.func37, Tryd.ntmps37
    go_wp2_with fail
    go_ret
    exact ⟨by rw [HE.out]; rfl, rfl⟩
  · have hd : (v == hi) = false := by simpa using e
    by_cases e2 : hi < v
    · have HE : Hid (numV lo hi v = v - 1) := by show _ = _; unfold numV; rw [if_neg e, if_pos e2]
      have hd2 : decide (hi < v) = true := decide_eq_true e2
      go_enter Tryd.func37, Tryd.ntmps37
      go_wp2_with fail
      go_ret
      exact ⟨by rw [HE.out]; go_num, rfl⟩
    · have HE : Hid (numV lo hi v = v) := by show _ = _; unfold numV; rw [if_neg e, if_neg e2]
      have hd2 : decide (hi < v) = false := decide_eq_false e2
      go_enter Tryd.func37, Tryd.ntmps37
      go_wp2_with fail
      go_ret
      exact ⟨by rw [HE.out]; rfl, rfl⟩

/-- A network that grows, in its box; the box of what is returned. -/
structure RenAt (T : TypeId) (w wr : World) (B ob rb : Nat) (n : Int) (sv : Value) (l : List Wr) : Prop where
  below : Below w.heap.size w wr
  hB : B ≤ wr.heap.size
  lt : w.heap.size ≤ ob ∧ ob < B ∧ w.heap.size ≤ rb ∧ rb < B ∧ rb ≠ ob
  c0 : wr.cell? ⟨ob, 0, none⟩ = some (.int .i64 n)
  c1 : wr.cell? ⟨ob, 1, none⟩ = some sv
  fz : wr.frozen? ⟨ob, 1, none⟩ = false
  r0 : wr.cell? ⟨rb, 0, none⟩ = some (.int .i64 0)
  r1 : wr.cell? ⟨rb, 1, none⟩ = some (.slice none 0 0)
  rz : wr.frozen? ⟨rb, 0, none⟩ = false ∧ wr.frozen? ⟨rb, 1, none⟩ = false
  own : wr.ownsRow B T 3 sv l.length (wrsC l)
theorem own_formW {w : World} {base : Nat} {t : TypeId} {sz : Nat} {v : Value} {n : Nat} {xs : List Value} (h : w.ownsRow base t sz v n xs) : ∃ ad cap, v = .slice ad n cap := by
  rcases h.2 with ⟨rfl, rfl⟩ | ⟨g, cap, cur, rfl, _⟩
  · exact ⟨_, _, rfl⟩
  · exact ⟨_, _, rfl⟩
theorem own_geW {w : World} {B e s n : Nat} {v : Value} {xs : List Value} (h : w.ownsRow B e s v n xs) {b : Nat} (hb : v.ownBlock = some b) : B ≤ b ∧ b < w.heap.size := by
  rcases h.2 with ⟨rfl, _⟩ | ⟨g, cap, cur, rfl, hg, hh, _⟩
  · cases hb
  · obtain rfl : g = b := by simpa [Value.ownBlock] using hb
    exact ⟨hg, heap_lt hh⟩
theorem own_pastW {w w' : World} {B e s n : Nat} {v : Value} {xs : List Value} (h : w.ownsRow B e s v n xs) (hb : Below w.heap.size w w') : w'.ownsRow B e s v n xs := by
  refine ⟨h.1, ?_⟩
  rcases h.2 with h | ⟨g, cap, cur, hv, hg, hh, rest⟩
  · exact Or.inl h
  · exact Or.inr ⟨g, cap, cur, hv, hg, by rw [hb.block g (heap_lt hh)]; exact hh, rest⟩
theorem own_lowW {w : World} {base : Nat} {e : TypeId} {s n : Nat} {v y : Value} {xs : List Value} {p : Addr} (h : w.ownsRow base e s v n xs) (hp : p.block < base) : (w.setCell p y).ownsRow base e s v n xs := by
  refine ⟨h.1, ?_⟩
  rcases h.2 with hn | ⟨g, cap, cur, hv, hg, hh, rest⟩
  · exact Or.inl hn
  · refine Or.inr ⟨g, cap, cur, hv, hg, ?_, rest⟩
    rw [Below.heap_setCell _ _ _ _ (fun e => by omega)]
    exact hh
theorem RenAt.later {T : TypeId} {w wr wn : World} {B ob rb : Nat} {n : Int} {sv : Value} {l : List Wr} (h : RenAt T w wr B ob rb n sv l) (hb : Below wr.heap.size wr wn) : RenAt T w wn B ob rb n sv l :=
  ⟨h.below.trans (hb.mono h.below.size), Nat.le_trans h.hB hb.size, h.lt, by rw [hb.cell (cell_lt h.c0)]; exact h.c0, by rw [hb.cell (cell_lt h.c1)]; exact h.c1, by rw [hb.frozen (cell_lt h.c1)]; exact h.fz, by rw [hb.cell (cell_lt h.r0)]; exact h.r0, by rw [hb.cell (cell_lt h.r1)]; exact h.r1, ⟨by rw [hb.frozen (cell_lt h.r0)]; exact h.rz.1, by rw [hb.frozen (cell_lt h.r1)]; exact h.rz.2⟩, own_pastW h.own hb⟩
theorem RenAt.push {T : TypeId} {w wr w3 : World} {B ob rb g cap : Nat} {n : Int} {sv : Value} {l : List Wr} (h : RenAt T w wr B ob rb n sv l) (x : Wr)
    (hg : wr.grownBy w3 sv.ownBlock) (hown : w3.ownsRow B T 3 (.slice (some ⟨g, 0, none⟩) (l.length + 1) cap) (l.length + 1) (wrsC l ++ [.int .i64 x.a, .int .i64 x.b, .int .i64 x.c])) :
    w3.cell? ⟨ob, 0, none⟩ = some (.int .i64 n) ∧ w3.cell? ⟨ob, 1, none⟩ = some sv ∧ w3.frozen? ⟨ob, 1, none⟩ = false ∧ RenAt T w (w3.setCell ⟨ob, 1, none⟩ (.slice (some ⟨g, 0, none⟩) (l.length + 1) cap)) B ob rb n (.slice (some ⟨g, 0, none⟩) (l.length + 1) cap) (l ++ [x]) := by
  have blk : ∀ q, q < B → w3.heap[q]? = wr.heap[q]? := fun q hq => hg.block q (Nat.lt_of_lt_of_le hq h.hB) (fun e => by have := (own_geW h.own e.symm).1; omega)
  have cel : ∀ q j, q < B → w3.cell? ⟨q, j, none⟩ = wr.cell? ⟨q, j, none⟩ := fun q j hq => World.cell?_of_block (a := ⟨q, j, none⟩) (blk q hq)
  have frz : ∀ q j, q < B → w3.frozen? ⟨q, j, none⟩ = wr.frozen? ⟨q, j, none⟩ := fun q j hq => World.frozen?_of_block (a := ⟨q, j, none⟩) (blk q hq)
  obtain ⟨l1, l2, l3, l4, l5⟩ := h.lt
  have k0 : w3.cell? ⟨ob, 0, none⟩ = some (.int .i64 n) := by rw [cel ob 0 l2]; exact h.c0
  have k1 : w3.cell? ⟨ob, 1, none⟩ = some sv := by rw [cel ob 1 l2]; exact h.c1
  have kf : w3.frozen? ⟨ob, 1, none⟩ = false := by rw [frz ob 1 l2]; exact h.fz
  have hbel : Below w.heap.size w w3 := h.below.grown hg h.below.size (fun q hq => by have := (own_geW h.own hq).1; omega)
  have off : ∀ j, (⟨ob, 1, none⟩ : Addr) ≠ ⟨rb, j, none⟩ := fun j e => l5 (congrArg Addr.block e).symm
  refine ⟨k0, k1, kf, ⟨hbel.setCell l1 _, by simpa using Nat.le_trans h.hB hg.size, h.lt, ?_, ?_, ?_, ?_, ?_, ⟨?_, ?_⟩, ?_⟩⟩
  · rw [World.cell?_setCell_other _ _ _ _ (by simp)]; exact k0
  · rw [World.cell?_setCell_same _ _ _ k1]
  · rw [World.frozen?_setCell]; exact kf
  · rw [World.cell?_setCell_other _ _ _ _ (off 0), cel rb 0 l4]; exact h.r0
  · rw [World.cell?_setCell_other _ _ _ _ (off 1), cel rb 1 l4]; exact h.r1
  · rw [World.frozen?_setCell, frz rb 0 l4]; exact h.rz.1
  · rw [World.frozen?_setCell, frz rb 1 l4]; exact h.rz.2
  · rw [wrsC_snoc, List.length_append]
    exact own_lowW hown l2
/-- What is returned. -/
theorem RenAt.fin {T : TypeId} {w wr : World} {B ob rb : Nat} {n : Int} {sv : Value} {l : List Wr} (h : RenAt T w wr B ob rb n sv l) :
    WrAt ((wr.setCell ⟨rb, 0, none⟩ (.int .i64 n)).setCell ⟨rb, 1, none⟩ sv) sv l ∧ Below w.heap.size w ((wr.setCell ⟨rb, 0, none⟩ (.int .i64 n)).setCell ⟨rb, 1, none⟩ sv) ∧
    (wr.setCell ⟨rb, 0, none⟩ (.int .i64 n)).cell? ⟨rb, 1, none⟩ = some (.slice none 0 0) ∧ ((wr.setCell ⟨rb, 0, none⟩ (.int .i64 n)).setCell ⟨rb, 1, none⟩ sv).cell? ⟨rb, 0, none⟩ = some (.int .i64 n) ∧ ((wr.setCell ⟨rb, 0, none⟩ (.int .i64 n)).setCell ⟨rb, 1, none⟩ sv).cell? ⟨rb, 1, none⟩ = some sv ∧ (∀ b o k c, sv = .slice (some ⟨b, o, none⟩) k c → w.heap.size ≤ b) := by
  have h1 : (wr.setCell ⟨rb, 0, none⟩ (.int .i64 n)).cell? ⟨rb, 1, none⟩ = some (.slice none 0 0) := by rw [World.cell?_setCell_other _ _ _ _ (by simp)]; exact h.r1
  refine ⟨wrAt_row (own_lowW (own_lowW h.own h.lt.2.2.2.1) h.lt.2.2.2.1), (h.below.setCell h.lt.2.2.1 _).setCell h.lt.2.2.1 _, h1, ?_, ?_, fun b o k c hv => ?_⟩
  · rw [World.cell?_setCell_other _ _ _ _ (by simp), World.cell?_setCell_same _ _ _ h.r0]
  · rw [World.cell?_setCell_same _ _ _ h1]
  · have h2 := (own_geW h.own (b := b) (by rw [hv]; rfl)).1
    have h3 := h.lt
    omega
/-- The wires lie elsewhere. -/
def FarW (v : Value) (l : List Wr) (bx : Nat) : Prop := l = [] ∨ ∀ b o k c, v = .slice (some ⟨b, o, none⟩) k c → b ≠ bx
theorem WrAt.put {W : World} {v : Value} {l : List Wr} {bx : Nat} (h : WrAt W v l) (hf : FarW v l bx) (j : Nat) (y : Value) : WrAt (W.setCell ⟨bx, j, none⟩ y) v l := by
  obtain ⟨ad, cap, rfl, hc⟩ := h
  refine ⟨ad, cap, rfl, fun i x hx => ?_⟩
  obtain ⟨b, o, rfl, h0, h1, h2⟩ := hc i x hx
  have hb : b ≠ bx := by
    rcases hf with rfl | hf
    · simp at hx
    · exact hf b o _ _ rfl
  have hn : ∀ k, (⟨bx, j, none⟩ : Addr) ≠ ⟨b, k, none⟩ := fun k e => hb (congrArg Addr.block e).symm
  exact ⟨b, o, rfl, by rw [World.cell?_setCell_other _ _ _ _ (hn _)]; exact h0, by rw [World.cell?_setCell_other _ _ _ _ (hn _)]; exact h1, by rw [World.cell?_setCell_other _ _ _ _ (hn _)]; exact h2⟩
theorem WrAt.far {W : World} {v : Value} {l : List Wr} {bx : Nat} (h : WrAt W v l) (hb : W.heap.size ≤ bx) : FarW v l bx := by
  obtain ⟨ad, cap, rfl, hc⟩ := h
  rcases l with _ | ⟨x, l⟩
  · exact Or.inl rfl
  · refine Or.inr fun b o k c hv => ?_
    obtain ⟨b', o', rfl, h0, _, _⟩ := hc 0 x rfl
    have h1 : b' < W.heap.size := cell_lt h0
    simp only [Value.slice.injEq, Option.some.injEq, Addr.mk.injEq, and_true] at hv
    obtain ⟨⟨rfl, _⟩, _⟩ := hv
    omega
end Go.Proofs.YtlnhpkmcinohdaaDoor
