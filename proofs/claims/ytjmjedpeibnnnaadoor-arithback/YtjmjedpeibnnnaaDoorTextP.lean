/- The shortest text of an interval: arith.span.text, arith.Encode. -/
import Derived.Test.YtjmjedpeibnnnaaDoorRaiseP
import Derived.Test.YtjmjedpeibnnnaaDoorNatNews
import Derived.Test.YtjmjedpeibnnnaaDoorEliasMath
import Derived.Test.YtjmjedpeibnnnaaDoorIntervalP
import Derived.Test.YtjmjedpeibnnnaaDoorWordsCmp
import Derived.Laws.BytesArg
import Derived.Deep.LoopGhost
import Derived.Deep.CutRange
import Derived.Deep.RegionHeld3
namespace Go.Proofs.YtjmjedpeibnnnaaDoor
open Go.RowKit

/-- What is left of low behind its first digits; how wide the interval must be. -/
def needN (D r : Nat) : Nat := if r = 0 then D else D + (D - r)
structure Txt (L W D J u : Nat) : Prop where
  fit : needN D (L * 2 ^ J % D) ≤ W * 2 ^ J
  first : ∀ j, j < J → W * 2 ^ j < needN D (L * 2 ^ j % D)
  up : u = if L * 2 ^ J % D = 0 then L * 2 ^ J / D else L * 2 ^ J / D + 1
theorem needN_le {D r : Nat} : needN D r ≤ 2 * D := by unfold needN; split <;> omega
theorem quo_lt {L D j : Nat} (hL : L < D) : L * 2 ^ j / D < 2 ^ j := (Nat.div_lt_iff_lt_mul (by omega)).2 (by rw [Nat.mul_comm (2 ^ j)]; exact Nat.mul_lt_mul_of_pos_right hL (Nat.pow_pos (by decide)))
theorem mod_step {L D j : Nat} (hD : 0 < D) : (D ≤ L * 2 ^ j % D * 2 → L * 2 ^ (j + 1) % D = L * 2 ^ j % D * 2 - D ∧ L * 2 ^ (j + 1) / D = 2 * (L * 2 ^ j / D) + 1) ∧ (L * 2 ^ j % D * 2 < D → L * 2 ^ (j + 1) % D = L * 2 ^ j % D * 2 ∧ L * 2 ^ (j + 1) / D = 2 * (L * 2 ^ j / D)) := by
  have h1 := Nat.div_add_mod (L * 2 ^ j) D
  have h2 := Nat.mod_lt (L * 2 ^ j) hD
  have e : L * 2 ^ (j + 1) = L * 2 ^ j * 2 := by rw [Nat.pow_succ, Nat.mul_assoc]
  rw [e]
  generalize L * 2 ^ j = x at *
  generalize x / D = q at *
  generalize x % D = r at *
  constructor
  · intro h
    have e2 : x * 2 = (r * 2 - D) + D * (2 * q + 1) := by rw [Nat.mul_add, Nat.mul_one, Nat.mul_left_comm]; omega
    rw [e2]
    exact ⟨by rw [Nat.add_mul_mod_self_left, Nat.mod_eq_of_lt (by omega)], by rw [Nat.add_mul_div_left _ _ hD, Nat.div_eq_of_lt (by omega)]; omega⟩
  · intro h
    have e2 : x * 2 = r * 2 + D * (2 * q) := by rw [Nat.mul_left_comm]; omega
    rw [e2]
    exact ⟨by rw [Nat.add_mul_mod_self_left, Nat.mod_eq_of_lt h], by rw [Nat.add_mul_div_left _ _ hD, Nat.div_eq_of_lt h]; omega⟩
theorem txt_room {L W D J u : Nat} (h : Txt L W D J u) (hD : 0 < D) (hLW : L + W ≤ D) : (u + 1) * D ≤ (L + W) * 2 ^ J ∧ L * 2 ^ J ≤ u * D ∧ u < 2 ^ J ∧ (L * 2 ^ J % D ≠ 0 → L * 2 ^ J / D + 1 < 2 ^ J) := by
  have h1 := Nat.div_add_mod (L * 2 ^ J) D
  have h2 := Nat.mod_lt (L * 2 ^ J) hD
  have hf := h.fit
  have hu := h.up
  have h3 : (L + W) * 2 ^ J ≤ D * 2 ^ J := Nat.mul_le_mul_right _ hLW
  have e : (L + W) * 2 ^ J = L * 2 ^ J + W * 2 ^ J := Nat.add_mul _ _ _
  rw [e] at h3 ⊢
  generalize W * 2 ^ J = y at *
  generalize L * 2 ^ J = x at *
  generalize hq : x / D = q at *
  generalize x % D = r at *
  by_cases hr : r = 0
  · unfold needN at hf
    rw [if_pos hr] at hf hu
    subst hu
    have a1 : (u + 1) * D ≤ x + y := by rw [Nat.add_mul, Nat.one_mul, Nat.mul_comm u D]; omega
    refine ⟨a1, by rw [Nat.mul_comm u D]; omega, ?_, fun h => absurd hr h⟩
    have a2 : (u + 1) * D ≤ 2 ^ J * D := by rw [Nat.mul_comm (2 ^ J)]; omega
    have := Nat.le_of_mul_le_mul_right a2 hD
    omega
  · unfold needN at hf
    rw [if_neg hr] at hf hu
    subst hu
    have a1 : (q + 1 + 1) * D ≤ x + y := by rw [Nat.add_mul, Nat.add_mul, Nat.one_mul, Nat.mul_comm q D]; omega
    have a2 : (q + 1 + 1) * D ≤ 2 ^ J * D := by rw [Nat.mul_comm (2 ^ J)]; omega
    have a3 := Nat.le_of_mul_le_mul_right a2 hD
    refine ⟨a1, by rw [Nat.add_mul, Nat.one_mul, Nat.mul_comm q D]; omega, by omega, fun _ => by omega⟩
set_option maxRecDepth 100000 in
set_option maxHeartbeats 1000000 in
theorem needed_any (u0 u1 u2 u : Value) (D r k : Nat) (w : World) (h0 : ∃ a l c, u0 = .slice a l c) (h1 : ∃ a l c, u1 = .slice a l c) (hD : NatAt w u2 D) (hr : NatAt w u r) (hrD : r ≤ D) (hk : D < 18446744073709551616 ^ k) (hk6 : k ≤ 1000000) :
    Calls Tryd.prog 84 #[.agg #[u0, u1, u2], u] w fun e w' => ∃ v, e = .returned v ∧ NatAt w' v (needN D r) ∧ Below w.heap.size w w' := by
  obtain ⟨a0, l0, c0, rfl⟩ := h0
  obtain ⟨a1, l1, c1, rfl⟩ := h1
  obtain ⟨a2, l2, c2, rfl⟩ := hD.isSl
  obtain ⟨W0, hW0⟩ : ∃ W0, w.alloc (.cells #[.slice a0 l0 c0, .slice a1 l1 c1, .slice a2 l2 c2] 69) = W0 := ⟨_, rfl⟩
  have hb0 : Below w.heap.size w W0 := by rw [← hW0]; exact (Below.refl _ _).alloc (Nat.le_refl _) _
  have x2 : W0.cell? ⟨w.heap.size, 2, none⟩ = some (.slice a2 l2 c2) := by rw [← hW0]; simp
  have HD := Hid.mk' (hD.later hb0)
  have HR := Hid.mk' (hr.later hb0)
  have HB := Hid.mk' hb0
  obtain ⟨x, hx1, hx2, hxv, hx⟩ := hr
  obtain ⟨ad, cap, rfl⟩ := hx.form
  have HX : Hid (x.length = 0 ↔ r = 0) := by
    constructor
    · intro h; rw [← hxv, List.eq_nil_of_length_eq_zero h]; rfl
    · intro h
      have h2 := wlen_le_of_lt hx2 (k := 0) (by rw [hxv, h]; decide)
      omega
  clear hx hx1 hx2 hxv hD hb0
  have HW := Hid.mk' hW0
  clear hW0
  by_cases hr0 : r = 0
  · have hl : x.length = 0 := HX.out.2 hr0
    have HN : Hid (needN D r = D) := if_pos hr0
    rw [hl] at HR ⊢
    go_enter Tryd.func84, Tryd.ntmps84
    go_upto_region 1 with fail
    rw [HW.out]
    go_wp2_with fail
    go_ret
    exact ⟨_, rfl, by rw [HN.out]; exact HD.out, HB.out⟩
  · have hl : ((x.length : Int) == 0) = false := by rw [beq_eq_false_iff_ne]; have : x.length ≠ 0 := fun h => hr0 (HX.out.1 h); omega
    have HN : Hid (needN D r = D + (D - r)) := if_neg hr0
    have HMI := Hid.mk' (fun (W : World) (hb : Below W0.heap.size W0 W) => Minus_any (.slice a2 l2 c2) (.slice ad x.length cap) D r k W (HD.out.later hb) (HR.out.later hb) hrD hk hk6)
    have HPL := Hid.mk' (fun (W : World) (v : Value) (hb : Below W0.heap.size W0 W) (hv : NatAt W v (D - r)) => Plus_any (.slice a2 l2 c2) v D (D - r) k W (HD.out.later hb) hv hk (by omega) hk6)
    have HKS : Hid (∀ W, Below W0.heap.size W0 W → W.cell? ⟨w.heap.size, 2, none⟩ = some (.slice a2 l2 c2)) := fun W hb => by rw [hb.cell (cell_lt x2)]; exact x2
    have hcur0 : Below W0.heap.size W0 W0 := Below.refl _ _
    have hcur : Below W0.heap.size W0 W0.drew := (Below.refl _ _).drew
    clear hr0 HX x2
    go_enter Tryd.func84, Tryd.ntmps84
    go_upto_region 1 with fail
    rw [HW.out]
    go_wp2_with fail
    go_region_held3 (fun W => W.cell? ⟨w.heap.size, 2, none⟩ = some (.slice a2 l2 c2))
      (first | exact HKS.out _ hcur0 | exact HKS.out _ hcur | exact HKS.out _ hbw1 | exact HKS.out _ hbw2)
      (first
        | (go_at_call 59; refine (HPL.out _ _ hbw1 HX1.out).mono ?_; rintro e w2 ⟨r2, rfl, hr2, hb2⟩; have hbw2 := below_chain hbw1 hb2; have HX2 := Hid.mk' hr2; clear hr2 hb2)
        | (go_at_call 86; refine (HMI.out _ hcur).mono ?_; rintro e w1 ⟨r1, rfl, hr1, hb1⟩; have hbw1 := below_chain hcur hb1; have HX1 := Hid.mk' hr1; clear hr1 hb1))
    go_wp2_with fail
    go_ret
    exact ⟨_, rfl, by rw [HN.out]; exact HX2.out, below_chain HB.out hbw2⟩
end Go.Proofs.YtjmjedpeibnnnaaDoor
