/- (*Wide).Number: the logarithm of a number, so often. -/
import Derived.Test.YtgaamcmjonngjaaDoorPrimeAny
import Derived.Test.YtgaamcmjonngjaaDoorPutF
namespace Go.Proofs.YtgaamcmjonngjaaDoor
open Go.RowKit

theorem absL_length (L : List Ent) : (absL L).length = L.length := by unfold absL; simp
theorem absL_mem {L : List Ent} {e : Ent} (h : e ∈ L) : ((e.p : Int), e.z) ∈ absL L := List.mem_map.2 ⟨e, h, rfl⟩

/-- What Number keeps: n is left, k factors are put. -/
structure InNum (base M B : Nat) (W0 wr : World) (z : Int) (L0 : List Ent) (n0 n k : Nat) (vp vc : Value) (L : List Ent) : Prop where
  wide : WideAt base M wr B vp vc L
  rise : Rising (absL L)
  val : ∀ x, atL (absL L) x + z * multI x n = atL (absL L0) x + z * multI x n0
  cnt : 2 ^ k * n ≤ n0
  len : L.length ≤ L0.length + k
  kept : IntsKept W0 wr
  moved : Moved B W0 wr
  below : Below base W0 wr

theorem InNum.cnt_le {base M B : Nat} {W0 wr : World} {z : Int} {L0 : List Ent} {n0 n k : Nat} {vp vc : Value} {L : List Ent} (h : InNum base M B W0 wr z L0 n0 n k vp vc L) (hn : 0 < n) (hn06 : n0 ≤ 1000000) : k ≤ 19 := by
  rcases Nat.lt_or_ge 19 k with h' | h'
  · have h1 := h.cnt
    have h2 : 2 ^ 20 ≤ 2 ^ k := Nat.pow_le_pow_right (by decide) h'
    have h3 : (2 : Nat) ^ 20 = 1048576 := by decide
    have h4 := Nat.mul_le_mul_left (2 ^ k) hn
    omega
  · exact h'
theorem InNum.coef {base M B : Nat} {W0 wr : World} {z : Int} {L0 : List Ent} {n0 n k : Nat} {vp vc : Value} {L : List Ent} (h : InNum base M B W0 wr z L0 n0 n k vp vc L) (hn : 0 < n) (hn6 : n ≤ 1000000) (hn0 : 0 < n0) (hn06 : n0 ≤ 1000000) {E : Nat} (hb : ∀ x, (atL (absL L0) x).natAbs + 20 * z.natAbs < E) : ∀ e ∈ L, e.z.natAbs < E := fun e he => by
  have h0 := atL_mem h.rise (absL_mem he)
  simp only at h0
  have h1 := h.val e.p
  have h2 := hb e.p
  have h3 := multI_nonneg e.p n
  have h4 := multI_le e.p hn hn6
  have h5 := multI_nonneg e.p n0
  have h6 := multI_le e.p hn0 hn06
  rw [h0] at h1
  have h7 : e.z = atL (absL L0) e.p + z * (multI e.p n0 - multI e.p n) := by rw [Int.mul_sub]; omega
  have h8 : (z * (multI e.p n0 - multI e.p n)).natAbs ≤ z.natAbs * 19 := by
    rw [Int.natAbs_mul]
    exact Nat.mul_le_mul_left _ (by omega)
  have h9 := Int.natAbs_add_le (atL (absL L0) e.p) (z * (multI e.p n0 - multI e.p n))
  rw [← h7] at h9
  omega
theorem InNum.put {base M B : Nat} {W0 wr w1 : World} {z : Int} {L0 : List Ent} {n0 n k d : Nat} {vp vc vp' vc' : Value} {L L' : List Ent} (h : InNum base M B W0 wr z L0 n0 n k vp vc L) (hn : 0 < n) (hd : Pr d) (hm : n % d = 0)
    (hw : WideAt base M w1 B vp' vc' L') (hp : Put (absL L) (absL L') d z) (hk : IntsKept wr w1) (hmv : Moved B wr w1) (hb : Below base wr w1) : InNum base M B W0 w1 z L0 n0 (n / d) (k + 1) vp' vc' L' := by
  refine ⟨hw, hp.rise, fun x => ?_, ?_, ?_, h.kept.trans hk, h.moved.trans hmv, h.below.trans hb⟩
  · rw [hp.val x, ← h.val x, multI_step x hn hd hm, Int.mul_add]
    by_cases hx : x = (d : Int)
    · rw [if_pos hx, if_pos hx, Int.mul_one]; omega
    · rw [if_neg hx, if_neg hx, Int.mul_zero]; omega
  · have h1 := h.cnt
    have h2 : 2 * (n / d) ≤ n := by
      have h3 := Nat.mul_le_mul_right (n / d) hd.1
      have h4 := Nat.mul_div_le n d
      omega
    have h5 := Nat.mul_le_mul_left (2 ^ k) h2
    rw [Nat.pow_succ, Nat.mul_assoc]
    omega
  · have h1 := hp.len
    have h2 := h.len
    rw [absL_length, absL_length] at h1
    omega
/-- A new block is none of a Wide's own. -/
theorem WideAt.not_mine {base M : Nat} {W : World} {B : Nat} {vp vc : Value} {L : List Ent} (h : WideAt base M W B vp vc L) (X : Obj) : ¬ Mine B (W.alloc X) W.heap.size := by
  have hB := h.lt
  have hb : Below W.heap.size W (W.alloc X) := new_below _ _
  rintro (h1 | ⟨n, cap, h1⟩)
  · omega
  · rw [(h.later hb).cc] at h1
    have hv := Option.some.inj h1
    subst hv
    rcases h.C.2 with ⟨h2, _⟩ | ⟨g, c, cur, h2, _, h3, _⟩
    · cases h2
    · have h4 : W.heap.size = g := by injection h2 with h2; injection h2 with h2; injection h2
      have h5 := h.C.lt g (by rw [h2]; rfl)
      omega

def numMeas (t r : Nat) : Nat := if t ≤ 1 then 0 else 2000 - r
theorem numMeas_lt {n d m e : Nat} (h : 1 < n) (hd : d ≤ 1001) (h' : m ≤ 1 ∨ d < e) : numMeas m e < numMeas n d := by
  unfold numMeas
  rw [if_neg (show ¬ n ≤ 1 by omega)]
  by_cases hm : m ≤ 1
  · rw [if_pos hm]; omega
  · rw [if_neg hm]; omega

end Go.Proofs.YtgaamcmjonngjaaDoor
