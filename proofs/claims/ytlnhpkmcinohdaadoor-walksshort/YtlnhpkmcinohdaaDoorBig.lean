/- The document's whole numbers of any size: BigOf, trimmed, BigAdd, BigCmp. -/
import Derived.Test.YtlnhpkmcinohdaaDoorBigMath
import Derived.Test.YtlnhpkmcinohdaaDoorOwn
namespace Go.Proofs.YtlnhpkmcinohdaaDoor
open Go.RowKit

/-- A slice of digits. -/
def IntsAt (w : World) (v : Value) (l : List Nat) : Prop := (∃ ad cap, v = .slice ad 0 cap ∧ l = []) ∨ ∃ b o cap, v = .slice (some ⟨b, o, none⟩) l.length cap ∧ l.length ≤ cap ∧ 0 < l.length ∧ ∀ i, i < l.length → w.cell? ⟨b, o + i, none⟩ = some (.int .i64 ((l.getD i 0 : Nat) : Int))
theorem IntsAt.later {w w' : World} {v : Value} {l : List Nat} (h : IntsAt w v l) (hb : Below w.heap.size w w') : IntsAt w' v l := by
  rcases h with h | ⟨b, o, cap, h1, h2, h3, h4⟩
  · exact Or.inl h
  · exact Or.inr ⟨b, o, cap, h1, h2, h3, fun i hi => by rw [hb.cell (cell_lt (h4 i hi))]; exact h4 i hi⟩
/-- A whole number of any size. -/
def BigAt (w : World) (v : Value) (n : Nat) : Prop := ∃ l, Dig l ∧ NoTail l ∧ bv l = n ∧ IntsAt w v l
theorem BigAt.later {w w' : World} {v : Value} {n : Nat} (h : BigAt w v n) (hb : Below w.heap.size w w') : BigAt w' v n := by
  obtain ⟨l, h1, h2, h3, h4⟩ := h
  exact ⟨l, h1, h2, h3, h4.later hb⟩

theorem Tryd.infoInt : (Tryd.prog.info? 3).map (fun i => (i.zero, i.size, i.bytes)) = some (some (.int .i64 0), 1, 8) := by kernel_rfl

/-- Digits as cells. -/
def digCells (l : List Nat) : List Value := l.map fun d => .int .i64 ((d : Nat) : Int)
theorem digCells_push (l : List Nat) (d : Nat) : digCells (l ++ [d]) = digCells l ++ [.int .i64 (d : Int)] := by simp [digCells]
theorem intsAt_of_row {w : World} {base : Nat} {v : Value} {l : List Nat} (h : w.ownsRow base 3 1 v l.length (digCells l)) : IntsAt w v l ∧ ∀ ad n cap, v = .slice ad n cap → cap ≤ maxLen := by
  obtain ⟨hl, hr⟩ := h
  rcases hr with ⟨rfl, h0⟩ | ⟨g, cap, cur, rfl, hg, hh, h1, h2, h3, h4⟩
  · exact ⟨Or.inl ⟨none, 0, by rfl, List.eq_nil_of_length_eq_zero h0⟩, fun ad n cap e => by cases e; unfold maxLen; omega⟩
  · refine ⟨?_, fun ad n c e => by cases e; exact h2⟩
    rcases Nat.eq_zero_or_pos l.length with h0 | hpos
    · exact Or.inl ⟨_, _, by rw [h0], List.eq_nil_of_length_eq_zero h0⟩
    · refine Or.inr ⟨g, 0, cap, rfl, h1, hpos, fun i hi => ?_⟩
      have e1 : w.cell? ⟨g, 0 + i, none⟩ = cur.toList[i]? := by simp [World.cell?, hh]
      have e2 : cur.toList[i]? = (digCells l)[i]? := by rw [← h4, List.getElem?_take_of_lt (by omega)]
      rw [e1, e2]
      simp [digCells, hi]
theorem one_new (w : World) (x : Value) (t : TypeId) (j : Nat) (u : Value) (h : [x][j]? = some u) : (w.alloc (.cells #[x] t)).cell? ((⟨w.heap.size, 0, none⟩ : Addr).add j) = some u := by
  rw [add_plain, World.cell?_alloc_at _ _ _ _ rfl, Nat.zero_add]
  rcases j with _ | j
  · simpa using h
  · simp at h

theorem below_push {w wr w3 : World} {v : Value} {e : TypeId} {size n : Nat} {xs : List Value} {X : Obj} (hB : Below w.heap.size w wr) (hR : wr.ownsRow w.heap.size e size v n xs) (hg : (wr.alloc X).grownBy w3 v.ownBlock) : Below w.heap.size w w3 :=
  (hB.alloc hB.size _).grown hg (by have := hB.size; simp; omega) (fun k e => (hR.lt k e).1)
theorem push_step {l : List Nat} {m n : Nat} (h : bv l + 1000000 ^ l.length * m = n) : bv (l ++ [m % 1000000]) + 1000000 ^ (l ++ [m % 1000000]).length * (m / 1000000) = n := by
  rw [bv_append, bv_single, List.length_append, List.length_singleton, Nat.pow_succ, Nat.add_assoc, Nat.mul_assoc, ← Nat.mul_add, Nat.mod_add_div]
  exact h

/-- BigCmp tells which is greater. -/
def cmpOf (a b : Nat) : Int := if a < b then -1 else if b < a then 1 else 0
theorem cmpOf_lt {a b : Nat} (h : a < b) : cmpOf a b = -1 := by unfold cmpOf; rw [if_pos h]
theorem cmpOf_gt {a b : Nat} (h : b < a) : cmpOf a b = 1 := by unfold cmpOf; rw [if_neg (by omega), if_pos h]
theorem cmpOf_eq {a b : Nat} (h : a = b) : cmpOf a b = 0 := by unfold cmpOf; rw [if_neg (by omega), if_neg (by omega)]

theorem IntsAt.form {w : World} {v : Value} {l : List Nat} (h : IntsAt w v l) : ∃ ad cap, v = .slice ad l.length cap := by
  rcases h with ⟨ad, cap, rfl, rfl⟩ | ⟨b, o, cap, rfl, _⟩
  · exact ⟨_, _, rfl⟩
  · exact ⟨_, _, rfl⟩

theorem add_step {x y l : List Nat} {k c d f : Nat} (hk : l.length = k) (h : bv l + 1000000 ^ k * c = bv (x.take k) + bv (y.take k)) (hd : bv (x.take (k + 1)) = bv (x.take k) + 1000000 ^ k * d) (hf : bv (y.take (k + 1)) = bv (y.take k) + 1000000 ^ k * f) :
    bv (l ++ [(c + d + f) % 1000000]) + 1000000 ^ (k + 1) * ((c + d + f) / 1000000) = bv (x.take (k + 1)) + bv (y.take (k + 1)) := by
  rw [bv_append, bv_single, hk, Nat.pow_succ, Nat.add_assoc, Nat.mul_assoc, ← Nat.mul_add, Nat.mod_add_div, hd, hf, Nat.mul_add, Nat.mul_add]
  omega

/-- The digit of a number at a place: 0 behind its end. -/
theorem bv_take_digit (x : List Nat) (k : Nat) : bv (x.take (k + 1)) = bv (x.take k) + 1000000 ^ k * x.getD k 0 := by
  rcases Nat.lt_or_ge k x.length with h | h
  · exact bv_take_succ x k h
  · rw [bv_take_ge x (k + 1) (by omega), bv_take_ge x k h, List.getD_eq_getElem?_getD, List.getElem?_eq_none h]
    simp

theorem getD_ge {x : List Nat} {k : Nat} (h : ¬ k < x.length) : x.getD k 0 = 0 := by
  rw [List.getD_eq_getElem?_getD, List.getElem?_eq_none (by omega)]; rfl
theorem IntsAt.cellAt {w : World} {ad : Option Addr} {n cap : Nat} {l : List Nat} (h : IntsAt w (.slice ad n cap) l) {k : Nat} (hk : k < l.length) : ∃ b o, ad = some ⟨b, o, none⟩ ∧ w.cell? ⟨b, o + k, none⟩ = some (.int .i64 ((l.getD k 0 : Nat) : Int)) := by
  rcases h with ⟨_, _, _, rfl⟩ | ⟨b, o, c, h1, _, _, h4⟩
  · simp at hk
  · simp only [Value.slice.injEq] at h1
    exact ⟨b, o, h1.1, h4 k hk⟩

/-- The round's end: one digit more. -/
theorem add_close {w wr w3 : World} {sv : Value} {x y l : List Nat} {k c : Nat} {e : Int} {g cap : Nat} {X : Obj} (hx : Dig x) (hy : Dig y) (hc : c ≤ 1) (hlx : x.length ≤ 1000000) (hly : y.length ≤ 1000000)
    (hln : l.length = k) (hv : bv l + 1000000 ^ k * c = bv (x.take k) + bv (y.take k)) (hd : Dig l) (hr : wr.ownsRow w.heap.size 3 1 sv l.length (digCells l)) (hb : Below w.heap.size w wr)
    (hm : k ≤ max x.length y.length + 1 ∧ (k = max x.length y.length + 1 → c = 0)) (hgo : k < x.length ∨ k < y.length ∨ 0 < c) (he : e = ((c + x.getD k 0 + y.getD k 0 : Nat) : Int))
    (hg : (wr.alloc X).grownBy w3 sv.ownBlock) (ho : w3.ownsRow w.heap.size 3 1 (.slice (some ⟨g, 0, none⟩) (l.length + 1) cap) (l.length + 1) (digCells l ++ [.int .i64 (e % 1000000)])) :
    ∃ (k' c' : Nat) (l' : List Nat), Value.int .i64 ((k : Int) + 1) = .int .i64 k' ∧ Value.int .i64 (e / 1000000) = .int .i64 c' ∧ c' ≤ 1 ∧ k' ≤ 1000002 ∧ Hid (l'.length = k') ∧ Hid (bv l' + 1000000 ^ k' * c' = bv (x.take k') + bv (y.take k')) ∧ Hid (Dig l') ∧ Hid (w3.ownsRow w.heap.size 3 1 (.slice (some ⟨g, 0, none⟩) (l.length + 1) cap) l'.length (digCells l')) ∧ Hid (Below w.heap.size w w3) ∧ Hid (k' ≤ max x.length y.length + 1 ∧ (k' = max x.length y.length + 1 → c' = 0)) := by
  have hdx : x.getD k 0 < 1000000 := by
    by_cases h : k < x.length
    · exact hx k h
    · rw [getD_ge h]; decide
  have hdy : y.getD k 0 < 1000000 := by
    by_cases h : k < y.length
    · exact hy k h
    · rw [getD_ge h]; decide
  have hstep := add_step hln hv (bv_take_digit x k) (bv_take_digit y k)
  have hend : ¬ k < x.length → ¬ k < y.length → x.getD k 0 = 0 ∧ y.getD k 0 = 0 := fun h1 h2 => ⟨getD_ge h1, getD_ge h2⟩
  generalize x.getD k 0 = d at *
  generalize y.getD k 0 = f at *
  refine ⟨k + 1, (c + d + f) / 1000000, l ++ [(c + d + f) % 1000000], by congr 1, by congr 1; omega, by omega, by omega, by show _ = _; simp [hln], hstep, hd.push (Nat.mod_lt _ (by decide)), ?_, below_push hb hr hg, ⟨?_, ?_⟩⟩
  · show World.ownsRow _ _ _ _ _ _ _
    rw [digCells_push, show (((c + d + f) % 1000000 : Nat) : Int) = e % 1000000 from by omega]
    simpa using ho
  · rcases hgo with h | h | h <;> omega
  · intro hk'
    by_cases h1 : k < x.length
    · omega
    · by_cases h2 : k < y.length
      · omega
      · obtain ⟨rfl, rfl⟩ := hend h1 h2
        omega

end Go.Proofs.YtlnhpkmcinohdaaDoor
