/- The interval that a message leaves: arith.cut. -/
import Derived.Test.YtpdenfjncpfogaaDoorNatTold
import Derived.Test.YtpdenfjncpfogaaDoorMsgP
import Derived.Test.YtpdenfjncpfogaaDoorLastOp
namespace Go.Proofs.YtpdenfjncpfogaaDoor
open Go.RowKit

theorem put_three' {W : World} {b : Nat} {x0 x1 x2 : Value} (y0 y1 y2 : Value) (h0 : W.cell? ⟨b, 0, none⟩ = some x0) (h1 : W.cell? ⟨b, 1, none⟩ = some x1) (h2 : W.cell? ⟨b, 2, none⟩ = some x2) :
    ((W.setCell ⟨b, 0, none⟩ y0).cell? ⟨b, 1, none⟩ = some x1 ∧ ((W.setCell ⟨b, 0, none⟩ y0).setCell ⟨b, 1, none⟩ y1).cell? ⟨b, 2, none⟩ = some x2) ∧
    ((((W.setCell ⟨b, 0, none⟩ y0).setCell ⟨b, 1, none⟩ y1).setCell ⟨b, 2, none⟩ y2).cell? ⟨b, 0, none⟩ = some y0 ∧ (((W.setCell ⟨b, 0, none⟩ y0).setCell ⟨b, 1, none⟩ y1).setCell ⟨b, 2, none⟩ y2).cell? ⟨b, 1, none⟩ = some y1) ∧
    (((W.setCell ⟨b, 0, none⟩ y0).setCell ⟨b, 1, none⟩ y1).setCell ⟨b, 2, none⟩ y2).cell? ⟨b, 2, none⟩ = some y2 := by
  have e1 : (W.setCell ⟨b, 0, none⟩ y0).cell? ⟨b, 1, none⟩ = some x1 := by rw [cell_put _ h0, if_neg (by simp)]; exact h1
  have e2 : ((W.setCell ⟨b, 0, none⟩ y0).setCell ⟨b, 1, none⟩ y1).cell? ⟨b, 2, none⟩ = some x2 := by rw [cell_put _ e1, if_neg (by simp), cell_put _ h0, if_neg (by simp)]; exact h2
  refine ⟨⟨e1, e2⟩, ⟨?_, ?_⟩, ?_⟩
  · rw [cell_put _ e2, if_neg (by simp), cell_put _ e1, if_neg (by simp), cell_put _ h0, if_pos rfl]
  · rw [cell_put _ e2, if_neg (by simp), cell_put _ e1, if_pos rfl]
  · rw [cell_put _ e2, if_pos rfl]
theorem NatAt.isSl {w : World} {v : Value} {n : Nat} (h : NatAt w v n) : ∃ a l c, v = .slice a l c := by
  obtain ⟨l, _, _, _, h⟩ := h
  obtain ⟨ad, cap, rfl⟩ := h.form
  exact ⟨_, _, _, rfl⟩
/-- A number's words are none of a cell that holds a list. -/
theorem NatAt.putL {W : World} {v y : Value} {n : Nat} {p : Addr} {ad : Option Addr} {l c : Nat} (h : NatAt W v n) (hc : W.cell? p = some (.slice ad l c)) : NatAt (W.setCell p y) v n := by
  obtain ⟨x, h1, h2, h3, h4⟩ := h
  refine ⟨x, h1, h2, h3, ?_⟩
  rcases h4 with h4 | ⟨b, o, cap, hv, hl, hp, hr⟩
  · exact Or.inl h4
  · refine Or.inr ⟨b, o, cap, hv, hl, hp, fun i hi => ?_⟩
    rw [cell_put _ hc, if_neg (fun e => ?_)]
    · exact hr i hi
    · have h5 := hr i hi
      rw [e, hc] at h5
      cases h5
theorem NatAt.putL3 {W : World} {v y0 y1 y2 : Value} {n b : Nat} {a0 a1 a2 : Option Addr} {l0 l1 l2 c0 c1 c2 : Nat} (h : NatAt W v n) (h0 : W.cell? ⟨b, 0, none⟩ = some (.slice a0 l0 c0)) (h1 : W.cell? ⟨b, 1, none⟩ = some (.slice a1 l1 c1)) (h2 : W.cell? ⟨b, 2, none⟩ = some (.slice a2 l2 c2)) : NatAt (((W.setCell ⟨b, 0, none⟩ y0).setCell ⟨b, 1, none⟩ y1).setCell ⟨b, 2, none⟩ y2) v n := by
  obtain ⟨⟨g0, g1⟩, _, _⟩ := put_three' y0 y1 y2 h0 h1 h2
  exact ((h.putL h0).putL g0).putL g1

set_option maxRecDepth 100000 in
theorem Times_zero (u : Value) (n : Nat) (w : World) (h : NatAt w u n) :
    Calls Tryd.prog 36 #[u, .int .u64 0] w fun e w' => ∃ v, e = .returned v ∧ NatAt w' v (n * 0) ∧ Below w.heap.size w w' := by
  obtain ⟨ad, l, cap, rfl⟩ := h.isSl
  clear h
  go_enter Tryd.func36, Tryd.ntmps36
  go_wp2_with fail
  go_ret
  exact ⟨_, rfl, ⟨[], fun i hi => by simp at hi, fun i hi => by simp at hi, by simp [wv], Or.inl ⟨_, _, rfl, rfl⟩⟩, Below.refl _ _⟩
theorem Times_all (u : Value) (n m k : Nat) (w : World) (h : NatAt w u n) (hm : m < 18446744073709551616) (hk : n < 18446744073709551616 ^ k) (hk6 : k ≤ 1000000) :
    Calls Tryd.prog 36 #[u, .int .u64 m] w fun e w' => ∃ v, e = .returned v ∧ NatAt w' v (n * m) ∧ Below w.heap.size w w' := by
  rcases Nat.eq_zero_or_pos m with rfl | hm0
  · exact Times_zero u n w h
  · exact Times_any u n m k w h hm0 hm hk hk6

/-- What a message leaves: where it begins and how wide it is, over the sum's power. -/
def cutW (z l : Nat → Int) : Nat → Nat
  | 0 => 1
  | k + 1 => cutW z l k * (z (l k).toNat).toNat
def cutL (z l : Nat → Int) (S : Nat) : Nat → Nat
  | 0 => 0
  | k + 1 => cutL z l S k * S + cutW z l k * (sumN z (l k).toNat).toNat
theorem cut_le {z l : Nat → Int} {n m S : Nat} (hz : OkW z n) (hS : sumN z n = (S : Int)) (hl : ∀ i, i < m → 0 ≤ l i ∧ l i < (n : Int)) : ∀ k, k ≤ m → cutL z l S k + cutW z l k ≤ S ^ k
  | 0, _ => by simp [cutL, cutW]
  | k + 1, hk => by
    have ih := cut_le hz hS hl k (by omega)
    obtain ⟨h0, h1⟩ := hl k (by omega)
    obtain ⟨s, hs⟩ : ∃ s : Nat, l k = (s : Int) := ⟨(l k).toNat, by omega⟩
    have hsn : s < n := by omega
    show cutL z l S k * S + cutW z l k * (sumN z (l k).toNat).toNat + cutW z l k * (z (l k).toNat).toNat ≤ S ^ (k + 1)
    rw [hs, Int.toNat_natCast]
    have hm := sumN_mono hz.nn (k := s + 1) hsn
    rw [hS] at hm
    have e : sumN z (s + 1) = sumN z s + z s := rfl
    have p1 := hz.part (k := s) (by omega)
    have p2 := hz.lt hsn
    have hle : (sumN z s).toNat + (z s).toNat ≤ S := by omega
    calc cutL z l S k * S + cutW z l k * (sumN z s).toNat + cutW z l k * (z s).toNat = cutL z l S k * S + cutW z l k * ((sumN z s).toNat + (z s).toNat) := by rw [Nat.mul_add, Nat.add_assoc]
      _ ≤ cutL z l S k * S + cutW z l k * S := Nat.add_le_add_left (Nat.mul_le_mul_left _ hle) _
      _ = (cutL z l S k + cutW z l k) * S := by rw [Nat.add_mul]
      _ ≤ S ^ k * S := Nat.mul_le_mul_right _ ih
      _ = S ^ (k + 1) := (Nat.pow_succ ..).symm
theorem cutW_pos {z l : Nat → Int} : ∀ {k : Nat}, (∀ i, i < k → 0 < z (l i).toNat) → 0 < cutW z l k
  | 0, _ => Nat.one_pos
  | k + 1, h => Nat.mul_pos (cutW_pos (fun i hi => h i (by omega))) (by have := h k (by omega); omega)
theorem pow_room {S j : Nat} (hS : S ≤ 4096) (hj : j ≤ 249) : S ^ j < 18446744073709551616 ^ 250 :=
  Nat.lt_of_le_of_lt (Nat.pow_le_pow_left (Nat.le_trans hS (by decide : 4096 ≤ 18446744073709551616)) j) (Nat.pow_lt_pow_right (by decide) (by omega))

/-- A span in memory. -/
structure SpanAt (w : World) (b : Nat) (u0 u1 u2 : Value) (x0 x1 x2 : Nat) : Prop where
  c0 : w.cell? ⟨b, 0, none⟩ = some u0
  c1 : w.cell? ⟨b, 1, none⟩ = some u1
  c2 : w.cell? ⟨b, 2, none⟩ = some u2
  n0 : NatAt w u0 x0
  n1 : NatAt w u1 x1
  n2 : NatAt w u2 x2
  fz : ∀ j, j < 3 → w.frozen? ⟨b, j, none⟩ = false

end Go.Proofs.YtpdenfjncpfogaaDoor
