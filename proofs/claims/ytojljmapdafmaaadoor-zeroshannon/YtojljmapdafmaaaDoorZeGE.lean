/- The document's GraphError. -/
import Derived.Test.YtojljmapdafmaaaDoorZeVal
namespace Go.Proofs.YtojljmapdafmaaaDoor
open Go.RowKit

set_option maxRecDepth 100000 in
set_option maxHeartbeats 4000000 in
theorem GraphError_any (N : Int) (m : Nat) (ev : Value) (p q : Nat → Int) (w : World) (hG : EdAt w ev m p q) (hm : m ≤ 1000) :
    Calls Tryd.prog 13 #[.agg #[.int .i64 N, ev]] w fun e w' => e = .returned (.int .i64 (grE N m p q : Nat)) ∧ Below w.heap.size w w' := by
  obtain ⟨ad, cap, rfl, -⟩ := id hG
  have hmI : (m : Int) ≤ 1000 := by omega
  obtain ⟨w1, hw1⟩ : ∃ w1, w1 = w.alloc (.cells #[.int .i64 N, .slice ad m cap] 24) := ⟨_, rfl⟩
  have hb1 : Below w.heap.size w w1 := by rw [hw1]; exact (Below.refl _ _).alloc (Nat.le_refl _) _
  have hc0 : w1.cell? ⟨w.heap.size, 0, none⟩ = some (.int .i64 N) := by rw [hw1]; go_simp
  have hc1 : w1.cell? ⟨w.heap.size, 1, none⟩ = some (.slice ad m cap) := by rw [hw1]; go_simp
  have HG := Hid.mk' (hG.later hb1)
  have HW1 := Hid.mk' hw1
  have HEND := Hid.mk' hb1
  by_cases hbad : N < 0 ∨ 16 < N
  · have HR : Hid (grE N m p q = 2) := by show _ = _; unfold grE; rw [if_pos hbad]
    rcases hbad with h1 | h1
    · have h1d : decide (N < 0) = true := decide_eq_true h1
      clear hG hb1 hw1
      go_enter Tryd.func13, Tryd.ntmps13
      go_upto_region 1 with fail
      rw [← HW1.out]
      go_wp2_with fail
      go_ret
      exact ⟨by rw [HR.out]; rfl, HEND.out⟩
    · have h1d : decide (N < 0) = false := decide_eq_false (by omega)
      have h2d : decide (16 < N) = true := decide_eq_true h1
      clear hG hb1 hw1
      go_enter Tryd.func13, Tryd.ntmps13
      go_upto_region 1 with fail
      rw [← HW1.out]
      go_wp2_with fail
      go_ret
      exact ⟨by rw [HR.out]; rfl, HEND.out⟩
  · have h1d : decide (N < 0) = false := decide_eq_false (by omega)
    have h2d : decide (16 < N) = false := decide_eq_false (by omega)
    have HR : Hid (grE N m p q = if edsB N p q m then 0 else 3) := by show _ = _; unfold grE; rw [if_neg hbad]
    have HSH : Hid (∀ i, i < m → edB N p q i = false → grE N m p q = 3) := fun i hi h => by rw [HR.out, edsB_no hi h]; rfl
    clear hG hb1 hw1
    go_enter Tryd.func13, Tryd.ntmps13
    go_upto_region 1 with fail
    rw [← HW1.out]
    go_wp2_with fail
    go_loop [3] (fun i => ∃ k : Nat, k ≤ m ∧ i = .int .i64 k ∧ Hid (edsB N p q k = true)) (fun i => m - (intOf i).toNat)
    case atStart => exact ⟨0, Nat.zero_le _, rfl, rfl⟩
    case round =>
      obtain ⟨k, hk, rfl, HK⟩ := hrel
      have hk0 : (0 : Int) ≤ (k : Int) := by omega
      rcases Nat.lt_or_ge k m with h1 | h1
      · have hkm : (k : Int) < (m : Int) := by omega
        obtain ⟨b, o, rfl, hT⟩ := HG.out.at h1
        obtain ⟨e0, e1⟩ := hT k h1
        by_cases hp0 : p k < 0
        · have hpd : decide (p k < 0) = true := decide_eq_true hp0
          have HF := Hid.mk' (HSH.out k h1 (by unfold edB; rw [decide_eq_false (by omega)]; rfl))
          clear hT
          go_wp2_with fail
          go_ret
          exact ⟨by rw [HF.out]; rfl, HEND.out⟩
        · have hpd : decide (p k < 0) = false := decide_eq_false hp0
          have HPT : Hid (decide (0 ≤ p k) = true) := decide_eq_true (by omega)
          by_cases hpq : q k ≤ p k
          · have hqd : decide (q k ≤ p k) = true := decide_eq_true hpq
            have HF := Hid.mk' (HSH.out k h1 (by unfold edB; rw [decide_eq_false (show ¬ p k < q k by omega)]; simp))
            clear hT
            go_wp2_with fail
            go_ret
            exact ⟨by rw [HF.out]; rfl, HEND.out⟩
          · have hqd : decide (q k ≤ p k) = false := decide_eq_false hpq
            have HQT : Hid (decide (p k < q k) = true) := decide_eq_true (by omega)
            by_cases hqN : N ≤ q k
            · have hNd : decide (N ≤ q k) = true := decide_eq_true hqN
              have HF := Hid.mk' (HSH.out k h1 (by unfold edB; rw [decide_eq_false (show ¬ q k < N by omega)]; simp))
              clear hT
              go_wp2_with fail
              go_ret
              exact ⟨by rw [HF.out]; rfl, HEND.out⟩
            · have hNd : decide (N ≤ q k) = false := decide_eq_false hqN
              have HNT : Hid (decide (q k < N) = true) := decide_eq_true (by omega)
              rcases Nat.eq_zero_or_pos k with hk1 | hk1
              · have HN : Hid (edsB N p q (k + 1) = true) := by show _ = _; rw [edsB, HK.out, edB, HPT.out, HQT.out, HNT.out, decide_eq_true hk1]; rfl
                have hz : ¬ ((0 : Int) < (k : Int)) := by omega
                have hz2 : ¬ (0 < k) := by omega
                clear hT hk1
                go_wp2_with fail
                exact ⟨⟨k + 1, h1, by go_num, HN⟩, by simp [intOf]; omega⟩
              · obtain ⟨j, rfl⟩ : ∃ j, k = j + 1 := ⟨k - 1, by omega⟩
                have HN : Hid (edsB N p q (j + 1 + 1) = riseB (p j) (q j) (p (j + 1)) (q (j + 1))) := by
                  show _ = _
                  rw [edsB, HK.out, edB, HPT.out, HQT.out, HNT.out]
                  simp
                have HN2 : Hid (edB N p q (j + 1) = riseB (p j) (q j) (p (j + 1)) (q (j + 1))) := by
                  show _ = _
                  rw [edB, HPT.out, HQT.out, HNT.out]
                  simp
                have hz : decide ((0 : Int) < ((j + 1 : Nat) : Int)) = true := decide_eq_true (by omega)
                have hj0 : (0 : Int) ≤ (j : Int) := by omega
                have hjm : (j : Int) < (m : Int) := by omega
                obtain ⟨d0, d1⟩ := hT j (by omega)
                clear hT
                rw [show ((j + 1 : Nat) : Int) = (j : Int) + 1 by omega] at hk0 hkm hz ⊢
                by_cases r1 : p (j + 1) < p j
                · have r1d : decide (p (j + 1) < p j) = true := decide_eq_true r1
                  have HF := Hid.mk' (HSH.out (j + 1) h1 (by rw [HN2.out, riseB, decide_eq_false (by omega), decide_eq_false (by omega)]; rfl))
                  go_wp2_with fail
                  go_ret
                  exact ⟨by rw [HF.out]; rfl, HEND.out⟩
                · have r1d : decide (p (j + 1) < p j) = false := decide_eq_false r1
                  by_cases r2 : p j = p (j + 1)
                  · have r2d : (p j == p (j + 1)) = true := by simpa using r2
                    by_cases r3 : q (j + 1) ≤ q j
                    · have r3d : decide (q (j + 1) ≤ q j) = true := decide_eq_true r3
                      have HF := Hid.mk' (HSH.out (j + 1) h1 (by rw [HN2.out, riseB, decide_eq_false (show ¬ p j < p (j + 1) by omega), decide_eq_false (show ¬ q j < q (j + 1) by omega)]; simp))
                      clear r2
                      go_wp2_with fail
                      go_ret
                      exact ⟨by rw [HF.out]; rfl, HEND.out⟩
                    · have r3d : decide (q (j + 1) ≤ q j) = false := decide_eq_false r3
                      have HN3 : Hid (edsB N p q (j + 1 + 1) = true) := by
                        show _ = _
                        rw [HN.out, riseB, decide_eq_true r2, decide_eq_true (show q j < q (j + 1) by omega)]; simp
                      clear r2
                      go_wp2_with fail
                      exact ⟨⟨j + 1 + 1, h1, by go_num, HN3⟩, by simp [intOf]; omega⟩
                  · have r2d : (p j == p (j + 1)) = false := by simpa using r2
                    have HN3 : Hid (edsB N p q (j + 1 + 1) = true) := by
                      show _ = _
                      rw [HN.out, riseB, decide_eq_true (show p j < p (j + 1) by omega)]; rfl
                    go_wp2_with fail
                    exact ⟨⟨j + 1 + 1, h1, by go_num, HN3⟩, by simp [intOf]; omega⟩
      · obtain rfl : k = m := by omega
        have HF : Hid (grE N k p q = 0) := by show _ = _; rw [HR.out, HK.out]; rfl
        go_wp2_with fail
        go_ret
        exact ⟨by rw [HF.out]; rfl, HEND.out⟩
end Go.Proofs.YtojljmapdafmaaaDoor
