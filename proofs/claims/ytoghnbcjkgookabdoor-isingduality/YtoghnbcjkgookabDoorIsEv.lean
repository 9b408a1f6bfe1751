/- ising.Even. -/
import Derived.Test.YtoghnbcjkgookabDoorIsOdd
namespace Go.Proofs.YtoghnbcjkgookabDoor
open Go.RowKit

theorem Even_bad (a : Nat → Addr) (N : Int) (m : Nat) (ev : Value) (p q : Nat → Int) (w : World) (hE : Errs w a) (hG : EdAt w ev m p q) (hm : m ≤ 1000) (hb : syE N m p q ≠ 0) :
    Calls Tryd.prog 7 #[.agg #[.int .i64 N, ev]] w fun e w' => e = .returned (.tuple #[.slice none 0 0, errV a (syE N m p q)]) ∧ Below w.heap.size w w' := by
  obtain ⟨ad, cap, rfl, -⟩ := id hG
  obtain ⟨w1, hw1⟩ : ∃ w1, w1 = w.alloc (.cells #[.int .i64 N, .slice ad m cap] 25) := ⟨_, rfl⟩
  have hb1 : Below w.heap.size w w1 := by rw [hw1]; exact (Below.refl _ _).alloc (Nat.le_refl _) _
  have hc0 : w1.cell? ⟨w.heap.size, 0, none⟩ = some (.int .i64 N) := by rw [hw1]; go_simp
  have hc1 : w1.cell? ⟨w.heap.size, 1, none⟩ = some (.slice ad m cap) := by rw [hw1]; go_simp
  have HV := Hid.mk' (IValid_any a N m _ p q w1 (hE.below hb1) (hG.later hb1) hm)
  have HW1 := Hid.mk' hw1
  have HB1 := Hid.mk' hb1
  have hR := errV_pos a hb
  rw [hR] at HV ⊢
  clear hE hG hb1 hw1
  generalize a (syE N m p q - 1) = EA at *
  clear hR
  go_enter Tryd.func7, Tryd.ntmps7
  go_upto_region 1 with fail
  rw [← HW1.out]
  go_wp2_with fail
  refine HV.out.mono ?_
  rintro e w2 ⟨rfl, hb2⟩
  have HB2 := Hid.mk' (below_chain HB1.out hb2)
  clear hb2 HV hc0 hc1
  go_wp2_with fail
  go_ret2
  exact ⟨rfl, HB2.out⟩

theorem syE_right {n m : Nat} {p q : Nat → Nat} (hn : n ≤ 14) (hm : m ≤ 30) (hpq : ∀ i, i < m → p i < n ∧ q i < n ∧ p i ≠ q i) : syE (n : Int) m (fun i => (p i : Int)) (fun i => (q i : Int)) = 0 := by
  unfold syE
  rw [if_neg (by omega), if_pos]
  apply bdsB_of
  intro i hi
  have := hpq i hi
  simp [bdB, hasB]
  omega

set_option maxRecDepth 100000 in
set_option maxHeartbeats 4000000 in
theorem Even_ok (a : Nat → Addr) (n m : Nat) (ev : Value) (p q : Nat → Nat) (w : World) (hE : Errs w a) (hG : EdAt w ev m (fun i => (p i : Int)) (fun i => (q i : Int))) (hn : n ≤ 14) (hm : m ≤ 30) (hpq : ∀ i, i < m → p i < n ∧ q i < n ∧ p i ≠ q i) :
    Calls Tryd.prog 7 #[.agg #[.int .i64 n, ev]] w fun e w' => ∃ g, e = .returned (.tuple #[.slice (some ⟨g, 0, none⟩) (m + 1) (m + 1), .nilIface]) ∧ Fills w w' g (m + 1) (fun k => ((evC p q m k 0 : Nat) : Int)) := by
  obtain ⟨i0, hi, hz0, hz1, hz2⟩ := info_parts Tryd.infoInt
  have HINF : Hid (Tryd.prog.info? 3 = some i0 ∧ i0.zero = some (.int .i64 0) ∧ i0.size = 1 ∧ i0.bytes = 8) := ⟨hi, hz0, hz1, hz2⟩
  clear hi hz0 hz1 hz2
  obtain ⟨ad, cap, rfl, -⟩ := id hG
  have hE0 := syE_right hn hm hpq
  obtain ⟨w1, hw1⟩ : ∃ w1, w1 = w.alloc (.cells #[.int .i64 n, .slice ad m cap] 25) := ⟨_, rfl⟩
  have hb1 : Below w.heap.size w w1 := by rw [hw1]; exact (Below.refl _ _).alloc (Nat.le_refl _) _
  have hc0 : w1.cell? ⟨w.heap.size, 0, none⟩ = some (.int .i64 n) := by rw [hw1]; go_simp
  have hc1 : w1.cell? ⟨w.heap.size, 1, none⟩ = some (.slice ad m cap) := by rw [hw1]; go_simp
  have HC : Hid (∀ W, Below w1.heap.size w1 W → W.cell? ⟨w.heap.size, 0, none⟩ = some (.int .i64 n) ∧ W.cell? ⟨w.heap.size, 1, none⟩ = some (.slice ad m cap)) := fun W hb => ⟨by rw [hb.cell (cell_lt hc0)]; exact hc0, by rw [hb.cell (cell_lt hc1)]; exact hc1⟩
  have HV := Hid.mk' (IValid_any a n m _ _ _ w1 (hE.below hb1) (hG.later hb1) (by omega))
  rw [hE0, errV_zero] at HV
  have HG := Hid.mk' (hG.later hb1)
  have HW1 := Hid.mk' hw1
  have HB1 := Hid.mk' hb1
  have HSO : Hid (∀ W, Below w1.heap.size w1 W → Calls Tryd.prog 17 #[.agg #[.int .i64 n, .slice ad m cap]] W fun e w' => ∃ g rb, e = .returned (.slice (some ⟨g, 0, none⟩) (m + 1) (m + 1)) ∧ GridB W w' g (m + 1) (2 ^ n) (m + 1) rb (fun k o => .int .i64 ((evC p q m k o : Nat) : Int))) := fun W hb => setsByOdd_any n m _ p q W (HG.out.later hb) hn hm (fun i hi => ⟨(hpq i hi).1, (hpq i hi).2.1⟩)
  have hmI : (m : Int) ≤ 30 := by omega
  have hm0 : (0 : Int) ≤ (m : Int) := by omega
  have HTP : Hid (1 ≤ 2 ^ n) := Nat.one_le_two_pow
  obtain ⟨T, hT⟩ : ∃ T : Nat, T = 2 ^ n := ⟨_, rfl⟩
  rw [← hT] at HSO HTP
  clear hE hG hb1 hw1 hpq hE0 hT
  go_enter Tryd.func7, Tryd.ntmps7
  go_upto_region 1 with fail
  rw [← HW1.out]
  go_wp2_with fail
  refine HV.out.mono ?_
  rintro e w2 ⟨rfl, hb2⟩
  have HB2 := Hid.mk' hb2
  clear HV hc0 hc1
  obtain ⟨c0, c1⟩ := HC.out _ hb2
  clear hb2
  go_wp2_with fail
  refine (HSO.out _ HB2.out).mono ?_
  rintro e w3 ⟨g3, rb, rfl, hg3⟩
  have HG3 := Hid.mk' hg3
  have HB3 := Hid.mk' (below_chain HB1.out (below_chain HB2.out hg3.below))
  clear hg3 c0 c1
  go_wp2_with (at_make; go_must (refine wpList_make_full _ rfl _ _ _ rfl w3.heap.size 3 i0 _ 1 Tryd.underlying30 HINF.out.1 HINF.out.2.1 HINF.out.2.2.1 .i64 .i64 _ _ (m + 1) rfl rfl rfl rfl (by rw [HINF.out.2.2.2]; omega) (by unfold maxLen; omega) (Nat.le_refl _) ?_; intro w4 hown4 hgrow4; have HF4 := Hid.mk' (fills_made hown4 (made_zero (m + 1)) hgrow4); clear hown4 hgrow4))
  go_loopw [21] (fun t wr => ∃ k : Nat, k ≤ m + 1 ∧ t = .int .i64 k ∧ Hid (Fills w3 wr w3.heap.size (m + 1) (fun i => if i < k then ((evC p q m i 0 : Nat) : Int) else 0))) (fun t _ => m + 1 - (intOf t).toNat)
  case atStart => exact ⟨0, Nat.zero_le _, rfl, HF4⟩
  case round =>
    clear HF4
    obtain ⟨k, hk, rfl, HF⟩ := hrel
    have hk0 : (0 : Int) ≤ (k : Int) := by omega
    rcases Nat.lt_or_ge k (m + 1) with h1 | h1
    · have hkI : (k : Int) < (m : Int) + 1 := by omega
      have hGk := HG3.out.later HF.out.below
      have hmd := hGk.made k h1
      have hcl := (hGk.rows k h1).row 0 HTP.out
      have ck := HF.out.row k h1
      have fk := HF.out.fz k h1
      rw [Nat.zero_add] at ck fk
      have hT0 : (0 : Int) < (T : Int) := by have := HTP.out; omega
      have HN := Hid.mk' (HF.out.set h1 ((evC p q m k 0 : Nat) : Int) (f' := fun i => if i < k + 1 then ((evC p q m i 0 : Nat) : Int) else 0) (fun i _ => by
        by_cases e : i = k
        · subst e; rw [if_pos rfl, if_pos (by omega)]
        · rw [if_neg e]
          by_cases e2 : i < k
          · rw [if_pos e2, if_pos (by omega)]
          · rw [if_neg e2, if_neg (by omega)]))
      clear hGk HF
      go_wp2_with fail
      exact ⟨⟨k + 1, h1, by go_num, HN⟩, by simp [intOf]; omega⟩
    · obtain rfl : k = m + 1 := by omega
      have hkI : ¬ (((m + 1 : Nat) : Int) < (m : Int) + 1) := by omega
      go_wp2_with fail
      go_ret2
      refine ⟨_, rfl, ?_⟩
      have h2 := HF.out
      refine ⟨fun i hi => ?_, h2.fz, below_chain HB3.out h2.below, Nat.le_trans HB3.out.size h2.hg⟩
      have h3 := h2.row i hi
      simp only [if_pos hi] at h3
      exact h3
end Go.Proofs.YtoghnbcjkgookabDoor
