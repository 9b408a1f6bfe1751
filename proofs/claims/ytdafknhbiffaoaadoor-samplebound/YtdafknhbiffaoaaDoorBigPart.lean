/- The document's BigSub, BigPart, BigGcd, BigInt. -/
import Derived.Test.YtdafknhbiffaoaaDoorBigMul
import Derived.Test.YtdafknhbiffaoaaDoorValidWalk
import Derived.Deep.LoopGhost
namespace Go.Proofs.YtdafknhbiffaoaaDoor
open Go.RowKit

theorem sub_step {x y l : List Nat} {k c d f c' e : Nat} (hk : l.length = k) (h : bv (x.take k) + 1000000 ^ k * c = bv l + bv (y.take k)) (hd : bv (x.take (k + 1)) = bv (x.take k) + 1000000 ^ k * d) (hf : bv (y.take (k + 1)) = bv (y.take k) + 1000000 ^ k * f) (he : d + 1000000 * c' = e + c + f) :
    bv (x.take (k + 1)) + 1000000 ^ (k + 1) * c' = bv (l ++ [e]) + bv (y.take (k + 1)) := by
  rw [bv_append, bv_single, hk, hd, hf, Nat.pow_succ]
  have h1 : 1000000 ^ k * (d + 1000000 * c') = 1000000 ^ k * (e + c + f) := by rw [he]
  generalize 1000000 ^ k = P at *
  grind
theorem sub_close {w wr w3 : World} {sv : Value} {x y l : List Nat} {k c c' : Nat} {e : Int} {g cap : Nat} {X : Obj} (hkx : k < x.length)
    (hln : l.length = k) (hv : bv (x.take k) + 1000000 ^ k * c = bv l + bv (y.take k)) (hd : Dig l) (hr : wr.ownsRow w.heap.size 3 1 sv l.length (digCells l)) (hb : Below w.heap.size w wr)
    (he : e = ((x.getD k 0 : Nat) : Int) - (c : Int) - ((y.getD k 0 : Nat) : Int) + 1000000 * (c' : Int)) (h0 : 0 ≤ e) (h1 : e < 1000000)
    (hg : (wr.alloc X).grownBy w3 sv.ownBlock) (ho : w3.ownsRow w.heap.size 3 1 (.slice (some ⟨g, 0, none⟩) (l.length + 1) cap) (l.length + 1) (digCells l ++ [.int .i64 e])) (hc' : c' ≤ 1) :
    ∃ (k' cc : Nat) (l' : List Nat), Value.int .i64 ((k : Int) + 1) = .int .i64 k' ∧ Value.int .i64 (c' : Int) = .int .i64 cc ∧ cc ≤ 1 ∧ k' ≤ x.length ∧ Hid (l'.length = k') ∧ Hid (bv (x.take k') + 1000000 ^ k' * cc = bv l' + bv (y.take k')) ∧ Hid (Dig l') ∧ Hid (w3.ownsRow w.heap.size 3 1 (.slice (some ⟨g, 0, none⟩) (l.length + 1) cap) l'.length (digCells l')) ∧ Hid (Below w.heap.size w w3) := by
  obtain ⟨n, rfl⟩ := Int.eq_ofNat_of_zero_le h0
  refine ⟨k + 1, c', l ++ [n], by congr 1, rfl, hc', by omega, by show _ = _; simp [hln], sub_step hln hv (bv_take_digit x k) (bv_take_digit y k) (by omega), hd.push (by omega), ?_, below_push hb hr hg⟩
  show World.ownsRow _ _ _ _ _ _ _
  rw [digCells_push]
  simpa using ho

theorem part_more {a b : Nat} (hb : 0 < b) (h : b ≤ a % (b + b)) : a / b = a / (b + b) + a / (b + b) + 1 ∧ a % b = a % (b + b) - b := by
  have h1 := Nat.div_add_mod a (b + b)
  have h2 := Nat.mod_lt a (show 0 < b + b by omega)
  have h3 : a = (a % (b + b) - b) + b * (a / (b + b) + a / (b + b) + 1) := by
    rw [Nat.mul_add, Nat.mul_add, Nat.mul_one]
    rw [Nat.add_mul] at h1
    omega
  exact (Nat.div_mod_unique hb).2 ⟨h3.symm, by omega⟩
theorem part_less {a b : Nat} (hb : 0 < b) (h : ¬ b ≤ a % (b + b)) : a / b = a / (b + b) + a / (b + b) ∧ a % b = a % (b + b) := by
  have h1 := Nat.div_add_mod a (b + b)
  have h3 : a = (a % (b + b)) + b * (a / (b + b) + a / (b + b)) := by
    rw [Nat.mul_add]
    rw [Nat.add_mul] at h1
    omega
  exact (Nat.div_mod_unique hb).2 ⟨h3.symm, by omega⟩
theorem bigAt_zero (w : World) : BigAt w (.slice none 0 0) 0 := ⟨[], (fun i hi => by simp at hi), (fun i hi => by simp at hi), rfl, Or.inl ⟨none, 0, rfl, rfl⟩⟩

theorem BigAt.len {w : World} {v : Value} {n : Nat} (h : BigAt w v n) : ∃ ad m cap, v = .slice ad m cap ∧ (m = 0 ↔ n = 0) := by
  obtain ⟨l, h1, h2, rfl, h4⟩ := h
  obtain ⟨ad, cap, rfl⟩ := h4.form
  refine ⟨ad, l.length, cap, rfl, ?_⟩
  constructor
  · intro h0; rw [List.eq_nil_of_length_eq_zero h0]; rfl
  · intro h0
    rcases Nat.eq_zero_or_pos l.length with h | h
    · exact h
    · have := h2.take_le h
      have h5 : 0 < 1000000 ^ (l.length - 1) := Nat.pow_pos (by decide)
      omega

theorem gcd_round (m g : Nat) : Nat.gcd g (m % g) = Nat.gcd m g := by
  rw [Nat.gcd_comm m g, Nat.gcd_rec g m, Nat.gcd_comm]

theorem bv_drop_step {x : List Nat} {j : Nat} (h : j < x.length) : bv (x.drop j) = bv (x.drop (j + 1)) * 1000000 + x.getD j 0 := by
  rw [List.drop_eq_getElem_cons h, List.getD_eq_getElem?_getD, List.getElem?_eq_getElem h]
  simp only [bv, Option.getD_some]
  omega
theorem bv_drop_le (x : List Nat) (j : Nat) : bv (x.drop j) ≤ bv x := by
  have h1 := bv_append (x.take j) (x.drop j)
  rw [List.take_append_drop] at h1
  have h2 : 1 * bv (x.drop j) ≤ 1000000 ^ (x.take j).length * bv (x.drop j) := Nat.mul_le_mul_right _ (Nat.pow_pos (by decide))
  omega

end Go.Proofs.YtdafknhbiffaoaaDoor
