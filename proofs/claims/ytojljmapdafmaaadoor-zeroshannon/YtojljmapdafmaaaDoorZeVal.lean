/- zero.Valid and the document's GraphError: one number of an error. -/
import Derived.Test.YtojljmapdafmaaaDoorZeNear
import Derived.Test.YtojljmapdafmaaaDoorCodedV
import Derived.Test.YtojljmapdafmaaaDoorValidWalk
import Derived.BigQuiet
import Derived.Deep.CutRange
import Derived.Deep.RegionHeld3
namespace Go.Proofs.YtojljmapdafmaaaDoor
open Go.RowKit

/-- Does an edge come behind the one ahead? -/
def riseB (a b c d : Int) : Bool := decide (a < c) || (decide (a = c) && decide (b < d))
/-- Is the edge at i one, and behind the one ahead? -/
def edB (N : Int) (p q : Nat → Int) (i : Nat) : Bool := decide (0 ≤ p i) && (decide (p i < q i) && (decide (q i < N) && (decide (i = 0) || riseB (p (i - 1)) (q (i - 1)) (p i) (q i))))
def edsB (N : Int) (p q : Nat → Int) : Nat → Bool
  | 0 => true
  | i + 1 => edsB N p q i && edB N p q i
def grE (N : Int) (m : Nat) (p q : Nat → Int) : Nat := if N < 0 ∨ 16 < N then 2 else if edsB N p q m then 0 else 3
theorem edsB_at {N : Int} {p q : Nat → Int} : ∀ {m : Nat}, edsB N p q m = true → ∀ i, i < m → edB N p q i = true
  | 0, _, i, hi => by omega
  | m + 1, h, i, hi => by
    simp only [edsB, Bool.and_eq_true] at h
    rcases Nat.lt_or_ge i m with h1 | h1
    · exact edsB_at h.1 i h1
    · obtain rfl : i = m := by omega
      exact h.2
theorem edsB_no {N : Int} {p q : Nat → Int} {i : Nat} : ∀ {m : Nat}, i < m → edB N p q i = false → edsB N p q m = false
  | 0, hi, _ => by omega
  | m + 1, hi, h => by
    rcases Nat.lt_or_ge i m with h1 | h1
    · rw [edsB, edsB_no h1 h, Bool.false_and]
    · obtain rfl : i = m := by omega
      rw [edsB, h, Bool.and_false]
theorem grE_zero {N : Int} {m : Nat} {p q : Nat → Int} (h : grE N m p q = 0) : 0 ≤ N ∧ N ≤ 16 ∧ edsB N p q m = true := by
  unfold grE at h
  split at h
  · cases h
  · split at h
    · rename_i h1 h2
      exact ⟨by omega, by omega, h2⟩
    · cases h
theorem edB_parts {N : Int} {p q : Nat → Int} {i : Nat} (h : edB N p q i = true) : 0 ≤ p i ∧ p i < q i ∧ q i < N := by
  simp only [edB, Bool.and_eq_true, decide_eq_true_eq] at h
  exact ⟨h.1, h.2.1, h.2.2.1⟩

set_option maxRecDepth 100000 in
theorem rise_any (a b c d : Int) (w : World) :
    Calls Tryd.prog 27 #[.agg #[.int .i64 a, .int .i64 b], .agg #[.int .i64 c, .int .i64 d]] w fun e w' => e = .returned (.bool (riseB a b c d)) ∧ Below w.heap.size w w' := by
  have HB : Hid (∀ x y, Below w.heap.size w ((w.alloc x).alloc y)) := fun x y => ((Below.refl _ _).alloc (Nat.le_refl _) _).alloc (by simp) _
  by_cases h1 : a < c
  · have h1d : decide (a < c) = true := decide_eq_true h1
    have HR : Hid (riseB a b c d = true) := by show _ = _; rw [riseB, h1d]; rfl
    go_enter Tryd.func27, Tryd.ntmps27
    go_wp2_with fail
    go_ret
    exact ⟨by rw [HR.out]; rfl, HB.out _ _⟩
  · have h1d : decide (a < c) = false := decide_eq_false h1
    by_cases h2 : a = c
    · have HR : Hid (riseB a b c d = decide (b < d)) := by show _ = _; rw [riseB, h1d, decide_eq_true h2]; simp
      subst h2
      have h2d : (a == a) = true := by simp
      go_enter Tryd.func27, Tryd.ntmps27
      go_wp2_with fail
      go_ret
      exact ⟨by rw [HR.out]; rfl, HB.out _ _⟩
    · have h2d : (a == c) = false := by simpa using h2
      have HR : Hid (riseB a b c d = false) := by show _ = _; rw [riseB, h1d, decide_eq_false h2]; simp
      go_enter Tryd.func27, Tryd.ntmps27
      go_wp2_with fail
      go_ret
      exact ⟨by rw [HR.out]; rfl, HB.out _ _⟩

set_option maxRecDepth 100000 in
set_option maxHeartbeats 4000000 in
theorem ZValid_any (a : Nat → Addr) (N : Int) (m : Nat) (ev : Value) (p q : Nat → Int) (w : World) (hE : Errs w a) (hG : EdAt w ev m p q) (hm : m ≤ 1000) :
    Calls Tryd.prog 11 #[.agg #[.int .i64 N, ev]] w fun e w' => e = .returned (errV a (grE N m p q)) ∧ Below w.heap.size w w' := by
  obtain ⟨ad, cap, rfl, -⟩ := id hG
  have hmI : (m : Int) ≤ 1000 := by omega
  obtain ⟨w1, hw1⟩ : ∃ w1, w1 = w.alloc (.cells #[.int .i64 N, .slice ad m cap] 33) := ⟨_, rfl⟩
  have hb1 : Below w.heap.size w w1 := by rw [hw1]; exact (Below.refl _ _).alloc (Nat.le_refl _) _
  have hc0 : w1.cell? ⟨w.heap.size, 0, none⟩ = some (.int .i64 N) := by rw [hw1]; go_simp
  have hc1 : w1.cell? ⟨w.heap.size, 1, none⟩ = some (.slice ad m cap) := by rw [hw1]; go_simp
  have HC : Hid (∀ W, Below w1.heap.size w1 W → W.cell? ⟨w.heap.size, 0, none⟩ = some (.int .i64 N) ∧ W.cell? ⟨w.heap.size, 1, none⟩ = some (.slice ad m cap)) := fun W hb => ⟨by rw [hb.cell (cell_lt hc0)]; exact hc0, by rw [hb.cell (cell_lt hc1)]; exact hc1⟩
  have HE : Hid (∀ W, Below w1.heap.size w1 W → W.cell? ⟨0, 0, none⟩ = some (.iface 118 (.pointer (some (a 1)))) ∧ W.cell? ⟨1, 0, none⟩ = some (.iface 118 (.pointer (some (a 2))))) := fun W hb => ⟨((hE.below hb1).below hb).c1, ((hE.below hb1).below hb).c2⟩
  have HG := Hid.mk' (hG.later hb1)
  have HB1 := Hid.mk' hb1
  have HW1 := Hid.mk' hw1
  have HEND : Hid (∀ W, Below w1.heap.size w1 W → Below w.heap.size w W) := fun W hb => hb1.trans (hb.mono hb1.size)
  obtain ⟨eB, eS⟩ := HE.out _ (Below.refl _ _)
  by_cases hbad : N < 0 ∨ 16 < N
  · have HR : Hid (errV a (grE N m p q) = .iface 118 (.pointer (some (a 1)))) := by show _ = _; unfold grE; rw [if_pos hbad]; rfl
    rcases hbad with h1 | h1
    · have h1d : decide (N < 0) = true := decide_eq_true h1
      clear hE hG hb1 hw1
      go_enter Tryd.func11, Tryd.ntmps11
      go_upto_region 1 with fail
      rw [← HW1.out]
      go_wp2_with fail
      go_ret
      exact ⟨by rw [HR.out]; rfl, HEND.out _ (Below.refl _ _)⟩
    · have h1d : decide (N < 0) = false := decide_eq_false (by omega)
      have h2d : decide (16 < N) = true := decide_eq_true h1
      clear hE hG hb1 hw1
      go_enter Tryd.func11, Tryd.ntmps11
      go_upto_region 1 with fail
      rw [← HW1.out]
      go_wp2_with fail
      go_ret
      exact ⟨by rw [HR.out]; rfl, HEND.out _ (Below.refl _ _)⟩
  · have h1d : decide (N < 0) = false := decide_eq_false (by omega)
    have h2d : decide (16 < N) = false := decide_eq_false (by omega)
    have HR : Hid (grE N m p q = if edsB N p q m then 0 else 3) := by show _ = _; unfold grE; rw [if_neg hbad]
    have HSH : Hid (∀ i, i < m → edB N p q i = false → errV a (grE N m p q) = .iface 118 (.pointer (some (a 2)))) := fun i hi h => by rw [HR.out, edsB_no hi h]; rfl
    clear hE hG hb1 hw1
    go_enter Tryd.func11, Tryd.ntmps11
    go_upto_region 1 with fail
    rw [← HW1.out]
    go_wp2_with fail
    clear eB eS hc0 hc1
    go_loopw [17] (fun i wr => ∃ k : Nat, k ≤ m ∧ i = .int .i64 k ∧ Hid (edsB N p q k = true) ∧ Hid (Below w1.heap.size w1 wr)) (fun i _ => m - (intOf i).toNat)
    case atStart => exact ⟨0, Nat.zero_le _, rfl, rfl, Below.refl _ _⟩
    case round =>
      obtain ⟨k, hk, rfl, HK, HB⟩ := hrel
      have hk0 : (0 : Int) ≤ (k : Int) := by omega
      rcases Nat.lt_or_ge k m with h1 | h1
      · have hkm : (k : Int) < (m : Int) := by omega
        obtain ⟨b, o, rfl, hT⟩ := HG.out.at h1
        have hTk := hT k h1
        have e0 : wr.cell? ⟨b, o + k * 2, none⟩ = some (.int .i64 (p k)) := by rw [HB.out.cell (cell_lt hTk.1)]; exact hTk.1
        have e1 : wr.cell? ⟨b, o + k * 2 + 1, none⟩ = some (.int .i64 (q k)) := by rw [HB.out.cell (cell_lt hTk.2)]; exact hTk.2
        have HTT : Hid (∀ W, Below w1.heap.size w1 W → ∀ i, i < m → W.cell? ⟨b, o + i * 2, none⟩ = some (.int .i64 (p i)) ∧ W.cell? ⟨b, o + i * 2 + 1, none⟩ = some (.int .i64 (q i))) := fun W hb i hi => ⟨by rw [hb.cell (cell_lt (hT i hi).1)]; exact (hT i hi).1, by rw [hb.cell (cell_lt (hT i hi).2)]; exact (hT i hi).2⟩
        have hba : Below w1.heap.size w1 (wr.alloc (.cells #[.int .i64 (p k), .int .i64 (q k)] 51)) := HB.out.alloc HB.out.size _
        have c0 : (wr.alloc (.cells #[.int .i64 (p k), .int .i64 (q k)] 51)).cell? ⟨wr.heap.size, 0, none⟩ = some (.int .i64 (p k)) := by go_simp
        have c1 : (wr.alloc (.cells #[.int .i64 (p k), .int .i64 (q k)] 51)).cell? ⟨wr.heap.size, 1, none⟩ = some (.int .i64 (q k)) := by go_simp
        have HBA := Hid.mk' hba
        have HCA := Hid.mk' (And.intro c0 c1)
        clear hT hTk hba c0 c1 HB
        go_wp2_with fail
        clear e0 e1
        generalize wr.alloc (.cells #[.int .i64 (p k), .int .i64 (q k)] 51) = Wa at *
        generalize wr.heap.size = E0 at *
        obtain ⟨c0, c1⟩ := HCA.out
        obtain ⟨g0, g1⟩ := HC.out _ HBA.out
        obtain ⟨eB, eS⟩ := HE.out _ HBA.out
        by_cases hp0 : p k < 0
        · have hpd : decide (p k < 0) = true := decide_eq_true hp0
          have HF := Hid.mk' (HSH.out k h1 (by unfold edB; rw [decide_eq_false (by omega)]; rfl))
          go_quiet (fail)
          have HBQ := Hid.mk' (below_drewN HBA.out nq)
          have eS2 := (HE.out _ HBQ.out).2
          generalize Wa.drewN nq = Wq at *
          clear c0 c1 g0 g1 eB eS
          go_wp2_with fail
          go_ret
          exact ⟨by rw [HF.out]; rfl, HEND.out _ HBQ.out⟩
        · have hpd : decide (p k < 0) = false := decide_eq_false hp0
          have hpt : decide (0 ≤ p k) = true := decide_eq_true (by omega)
          by_cases hpq : q k ≤ p k
          · have hqd : decide (q k ≤ p k) = true := decide_eq_true hpq
            have HF := Hid.mk' (HSH.out k h1 (by unfold edB; rw [decide_eq_false (show ¬ p k < q k by omega)]; simp))
            go_quiet (fail)
            have HBQ := Hid.mk' (below_drewN HBA.out nq)
            have eS2 := (HE.out _ HBQ.out).2
            generalize Wa.drewN nq = Wq at *
            clear c0 c1 g0 g1 eB eS
            go_wp2_with fail
            go_ret
            exact ⟨by rw [HF.out]; rfl, HEND.out _ HBQ.out⟩
          · have hqd : decide (q k ≤ p k) = false := decide_eq_false hpq
            have hqt : decide (p k < q k) = true := decide_eq_true (by omega)
            by_cases hqN : N ≤ q k
            · have hNd : decide (N ≤ q k) = true := decide_eq_true hqN
              have HF := Hid.mk' (HSH.out k h1 (by unfold edB; rw [decide_eq_false (show ¬ q k < N by omega)]; simp))
              go_quiet (fail)
              have HBQ := Hid.mk' (below_drewN HBA.out nq)
              have eS2 := (HE.out _ HBQ.out).2
              generalize Wa.drewN nq = Wq at *
              clear c0 c1 g0 g1 eB eS
              go_wp2_with fail
              go_ret
              exact ⟨by rw [HF.out]; rfl, HEND.out _ HBQ.out⟩
            · have hNd : decide (N ≤ q k) = false := decide_eq_false hqN
              have hNt : decide (q k < N) = true := decide_eq_true (by omega)
              rcases Nat.eq_zero_or_pos k with hk1 | hk1
              · subst hk1
                have HN : Hid (edsB N p q (0 + 1) = true) := by show _ = _; rw [edsB, HK.out, edB, hpt, hqt, hNt]; rfl
                have hz : decide ((0 : Int) < ((0 : Nat) : Int)) = false := by decide
                go_quiet (fail)
                have HBQ := Hid.mk' (below_drewN HBA.out nq)
                generalize Wa.drewN nq = Wq at *
                clear c0 c1 g0 g1 eB eS
                go_wp2_with fail
                exact ⟨⟨0 + 1, h1, by go_num, HN, HBQ⟩, by simp [intOf]; omega⟩
              · obtain ⟨j, rfl⟩ : ∃ j, k = j + 1 := ⟨k - 1, by omega⟩
                have HN : Hid (edsB N p q (j + 1 + 1) = riseB (p j) (q j) (p (j + 1)) (q (j + 1))) := by
                  show _ = _
                  rw [edsB, HK.out, edB, hpt, hqt, hNt]
                  simp
                have HN2 : Hid (edB N p q (j + 1) = riseB (p j) (q j) (p (j + 1)) (q (j + 1))) := by
                  show _ = _
                  rw [edB, hpt, hqt, hNt]
                  simp
                have hz : decide ((0 : Int) < ((j + 1 : Nat) : Int)) = true := decide_eq_true (by omega)
                have hjw : IntKind.i64.wrap ((j : Int) + 1 - 1) = (j : Int) := by simp [IntKind.wrap, IntKind.bits, IntKind.signed]; omega
                have hjw2 : IntKind.i64.wrap (j : Int) = (j : Int) := by simp [IntKind.wrap, IntKind.bits, IntKind.signed]; omega
                have hjI : (j : Int) ≤ 1000 := by omega
                have hkI : (j : Int) + 1 ≤ 1000 := by omega
                have hj0 : (0 : Int) ≤ (j : Int) := by omega
                have hjm : (j : Int) < (m : Int) := by omega
                have HRI : Hid (∀ W, Calls Tryd.prog 27 #[.agg #[.int .i64 (p j), .int .i64 (q j)], .agg #[.int .i64 (p (j + 1)), .int .i64 (q (j + 1))]] W fun e w' => e = .returned (.bool (riseB (p j) (q j) (p (j + 1)) (q (j + 1)))) ∧ Below W.heap.size W w') := fun W => rise_any _ _ _ _ W
                have HCS : Hid (∀ W, Below Wa.heap.size Wa W → (W.cell? ⟨E0, 0, none⟩ = some (.int .i64 (p (j + 1))) ∧ W.cell? ⟨E0, 1, none⟩ = some (.int .i64 (q (j + 1)))) ∧ (W.cell? ⟨w.heap.size, 0, none⟩ = some (.int .i64 N) ∧ W.cell? ⟨w.heap.size, 1, none⟩ = some (.slice (some ⟨b, o, none⟩) m cap)) ∧ (W.cell? ⟨b, o + j * 2, none⟩ = some (.int .i64 (p j)) ∧ W.cell? ⟨b, o + j * 2 + 1, none⟩ = some (.int .i64 (q j)))) := fun W hb => by
                  have hbw : Below w1.heap.size w1 W := HBA.out.trans (hb.mono HBA.out.size)
                  exact ⟨⟨by rw [hb.cell (cell_lt c0)]; exact c0, by rw [hb.cell (cell_lt c1)]; exact c1⟩, HC.out W hbw, HTT.out W hbw j (by omega)⟩
                have hcur0 : Below Wa.heap.size Wa Wa := Below.refl _ _
                have hcur : Below Wa.heap.size Wa Wa.drew := hcur0.drew
                clear c0 c1 g0 g1 eB eS HCA
                rw [show ((j + 1 : Nat) : Int) = (j : Int) + 1 by omega] at hk0 hkm hz ⊢
                generalize riseB (p j) (q j) (p (j + 1)) (q (j + 1)) = R at *
                go_region_held3 (fun W => (W.cell? ⟨E0, 0, none⟩ = some (.int .i64 (p (j + 1))) ∧ W.cell? ⟨E0, 1, none⟩ = some (.int .i64 (q (j + 1)))) ∧ (W.cell? ⟨w.heap.size, 0, none⟩ = some (.int .i64 N) ∧ W.cell? ⟨w.heap.size, 1, none⟩ = some (.slice (some ⟨b, o, none⟩) m cap)) ∧ (W.cell? ⟨b, o + j * 2, none⟩ = some (.int .i64 (p j)) ∧ W.cell? ⟨b, o + j * 2 + 1, none⟩ = some (.int .i64 (q j))))
                  (first | exact HCS.out _ hcur0 | exact HCS.out _ hcur | exact HCS.out _ hbw1)
                  (first | (go_at_call 27; refine (HRI.out _).mono ?_; rintro e w5 ⟨rfl, hb5⟩; have hbw1 := below_chain hcur hb5; clear hb5))
                have HBQ : Hid (Below w1.heap.size w1 w5) := HBA.out.trans (hbw1.mono HBA.out.size)
                have eS2 := (HE.out _ HBQ.out).2
                clear hcur hcur0 hbw1 HCS
                cases R
                · have HF := Hid.mk' (HSH.out (j + 1) h1 HN2.out)
                  go_wp2_with fail
                  go_ret
                  exact ⟨by rw [HF.out]; rfl, HEND.out _ HBQ.out⟩
                · go_wp2_with fail
                  exact ⟨⟨j + 1 + 1, h1, by go_num, HN, HBQ⟩, by simp [intOf]; omega⟩
      · obtain rfl : k = m := by omega
        have HF : Hid (errV a (grE N k p q) = .nilIface) := by show _ = _; rw [HR.out, HK.out]; rfl
        go_wp2_with fail
        go_ret
        exact ⟨by rw [HF.out]; rfl, HEND.out _ HB.out⟩
end Go.Proofs.YtojljmapdafmaaaDoor
