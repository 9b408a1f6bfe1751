/- A system's bonds in memory; which systems are right: ising.Valid. -/
import Derived.Test.YtpdenfjncpfogaaDoorGrid
import Derived.Test.YtpdenfjncpfogaaDoorCodedV
import Derived.Test.YtpdenfjncpfogaaDoorValidWalk
import Derived.Test.YtpdenfjncpfogaaDoorIsMath
import Derived.BigQuiet
import Derived.Deep.CutRange
import Derived.Deep.RegionHeld3
namespace Go.Proofs.YtpdenfjncpfogaaDoor
open Go.RowKit

/-- The bonds in memory. -/
def EdAt (w : World) (v : Value) (m : Nat) (p q : Nat → Int) : Prop := ∃ ad cap, v = .slice ad m cap ∧ (m = 0 ∨ ∃ b o, ad = some ⟨b, o, none⟩ ∧ TermsAt w b o m p q)
theorem EdAt.later {w w' : World} {v : Value} {m : Nat} {p q : Nat → Int} (h : EdAt w v m p q) (hb : Below w.heap.size w w') : EdAt w' v m p q := by
  obtain ⟨ad, cap, rfl, h⟩ := h
  refine ⟨ad, cap, rfl, h.imp id ?_⟩
  rintro ⟨b, o, rfl, ht⟩
  exact ⟨b, o, rfl, fun k hk => ⟨by rw [hb.cell (cell_lt (ht k hk).1)]; exact (ht k hk).1, by rw [hb.cell (cell_lt (ht k hk).2)]; exact (ht k hk).2⟩⟩
/-- A bond of a list that has one. -/
theorem EdAt.at {w : World} {ad : Option Addr} {m cap : Nat} {p q : Nat → Int} (h : EdAt w (.slice ad m cap) m p q) {k : Nat} (hk : k < m) : ∃ b o, ad = some ⟨b, o, none⟩ ∧ TermsAt w b o m p q := by
  obtain ⟨ad', cap', e, h⟩ := h
  obtain ⟨rfl, rfl⟩ : ad = ad' ∧ cap = cap' := by simpa using e
  rcases h with h | h
  · omega
  · exact h
theorem EdAt.congr {w : World} {v : Value} {m : Nat} {p q p' q' : Nat → Int} (h : EdAt w v m p q) (he : ∀ i, i < m → p i = p' i ∧ q i = q' i) : EdAt w v m p' q' := by
  obtain ⟨ad, cap, rfl, h⟩ := h
  refine ⟨ad, cap, rfl, h.imp id ?_⟩
  rintro ⟨b, o, rfl, ht⟩
  exact ⟨b, o, rfl, fun k hk => ⟨by rw [← (he k hk).1]; exact (ht k hk).1, by rw [← (he k hk).2]; exact (ht k hk).2⟩⟩

/-- Is it a spin? -/
def hasB (N x : Int) : Bool := decide (0 ≤ x) && decide (x < N)
/-- Is the bond at i one? -/
def bdB (N : Int) (p q : Nat → Int) (i : Nat) : Bool := hasB N (p i) && (hasB N (q i) && !(p i == q i))
def bdsB (N : Int) (p q : Nat → Int) : Nat → Bool
  | 0 => true
  | i + 1 => bdsB N p q i && bdB N p q i
def syE (N : Int) (m : Nat) (p q : Nat → Int) : Nat := if N < 0 ∨ 14 < N ∨ 30 < m then 2 else if bdsB N p q m then 0 else 3
theorem bdsB_at {N : Int} {p q : Nat → Int} : ∀ {m : Nat}, bdsB N p q m = true → ∀ i, i < m → bdB N p q i = true
  | 0, _, i, hi => by omega
  | m + 1, h, i, hi => by
    simp only [bdsB, Bool.and_eq_true] at h
    rcases Nat.lt_or_ge i m with h1 | h1
    · exact bdsB_at h.1 i h1
    · obtain rfl : i = m := by omega
      exact h.2
theorem bdsB_no {N : Int} {p q : Nat → Int} {i : Nat} : ∀ {m : Nat}, i < m → bdB N p q i = false → bdsB N p q m = false
  | 0, hi, _ => by omega
  | m + 1, hi, h => by
    rcases Nat.lt_or_ge i m with h1 | h1
    · rw [bdsB, bdsB_no h1 h, Bool.false_and]
    · obtain rfl : i = m := by omega
      rw [bdsB, h, Bool.and_false]
theorem bdsB_of {N : Int} {p q : Nat → Int} : ∀ {m : Nat}, (∀ i, i < m → bdB N p q i = true) → bdsB N p q m = true
  | 0, _ => rfl
  | m + 1, h => by rw [bdsB, bdsB_of (fun i hi => h i (by omega)), h m (by omega)]; rfl
theorem bdB_parts {N : Int} {p q : Nat → Int} {i : Nat} (h : bdB N p q i = true) : 0 ≤ p i ∧ p i < N ∧ 0 ≤ q i ∧ q i < N ∧ p i ≠ q i := by
  simp [bdB, hasB] at h
  omega
theorem syE_zero {N : Int} {m : Nat} {p q : Nat → Int} (h : syE N m p q = 0) : 0 ≤ N ∧ N ≤ 14 ∧ m ≤ 30 ∧ ∀ i, i < m → 0 ≤ p i ∧ p i < N ∧ 0 ≤ q i ∧ q i < N ∧ p i ≠ q i := by
  unfold syE at h
  split at h
  · cases h
  · split at h
    · rename_i h1 h2
      exact ⟨by omega, by omega, by omega, fun i hi => bdB_parts (bdsB_at h2 i hi)⟩
    · cases h
theorem syE_le (N : Int) (m : Nat) (p q : Nat → Int) : syE N m p q ≤ 8 := by
  unfold syE
  split
  · decide
  · split <;> decide

set_option maxRecDepth 100000 in
theorem has_any (N x : Int) (ad : Option Addr) (n cap : Nat) (w : World) :
    Calls Tryd.prog 61 #[.agg #[.int .i64 N, .slice ad n cap], .int .i64 x] w fun e w' => e = .returned (.bool (hasB N x)) ∧ Below w.heap.size w w' := by
  have HB : Hid (∀ x, Below w.heap.size w (w.alloc x)) := fun x => (Below.refl _ _).alloc (Nat.le_refl _) _
  by_cases h1 : 0 ≤ x
  · have h1d : decide (0 ≤ x) = true := decide_eq_true h1
    have HR : Hid (hasB N x = decide (x < N)) := by show _ = _; rw [hasB, h1d]; rfl
    go_enter Tryd.func61, Tryd.ntmps61
    go_wp2_with fail
    go_ret
    exact ⟨by rw [HR.out]; rfl, HB.out _⟩
  · have h1d : decide (0 ≤ x) = false := decide_eq_false h1
    have HR : Hid (hasB N x = false) := by show _ = _; rw [hasB, h1d]; rfl
    go_enter Tryd.func61, Tryd.ntmps61
    go_wp2_with fail
    go_ret
    exact ⟨by rw [HR.out]; rfl, HB.out _⟩

set_option maxRecDepth 100000 in
set_option maxHeartbeats 4000000 in
theorem IValid_any (a : Nat → Addr) (N : Int) (m : Nat) (ev : Value) (p q : Nat → Int) (w : World) (hE : Errs w a) (hG : EdAt w ev m p q) (hm : m ≤ 1000) :
    Calls Tryd.prog 39 #[.agg #[.int .i64 N, ev]] w fun e w' => e = .returned (errV a (syE N m p q)) ∧ Below w.heap.size w w' := by
  obtain ⟨ad, cap, rfl, -⟩ := id hG
  have hmI : (m : Int) ≤ 1000 := by omega
  obtain ⟨w1, hw1⟩ : ∃ w1, w1 = w.alloc (.cells #[.int .i64 N, .slice ad m cap] 51) := ⟨_, rfl⟩
  have hb1 : Below w.heap.size w w1 := by rw [hw1]; exact (Below.refl _ _).alloc (Nat.le_refl _) _
  have hc0 : w1.cell? ⟨w.heap.size, 0, none⟩ = some (.int .i64 N) := by rw [hw1]; go_simp
  have hc1 : w1.cell? ⟨w.heap.size, 1, none⟩ = some (.slice ad m cap) := by rw [hw1]; go_simp
  have HC : Hid (∀ W, Below w1.heap.size w1 W → W.cell? ⟨w.heap.size, 0, none⟩ = some (.int .i64 N) ∧ W.cell? ⟨w.heap.size, 1, none⟩ = some (.slice ad m cap)) := fun W hb => ⟨by rw [hb.cell (cell_lt hc0)]; exact hc0, by rw [hb.cell (cell_lt hc1)]; exact hc1⟩
  have HE : Hid (∀ W, Below w1.heap.size w1 W → W.cell? ⟨0, 0, none⟩ = some (.iface 143 (.pointer (some (a 1)))) ∧ W.cell? ⟨1, 0, none⟩ = some (.iface 143 (.pointer (some (a 2))))) := fun W hb => ⟨((hE.below hb1).below hb).c1, ((hE.below hb1).below hb).c2⟩
  have HG := Hid.mk' (hG.later hb1)
  have HW1 := Hid.mk' hw1
  have HEND : Hid (∀ W, Below w1.heap.size w1 W → Below w.heap.size w W) := fun W hb => hb1.trans (hb.mono hb1.size)
  obtain ⟨eB, eS⟩ := HE.out _ (Below.refl _ _)
  by_cases hbad : N < 0 ∨ 14 < N ∨ 30 < m
  · have HR : Hid (errV a (syE N m p q) = .iface 143 (.pointer (some (a 1)))) := by show _ = _; unfold syE; rw [if_pos hbad]; rfl
    rcases hbad with h1 | h1 | h1
    · have h1d : decide (N < 0) = true := decide_eq_true h1
      clear hE hG hb1 hw1
      go_enter Tryd.func39, Tryd.ntmps39
      go_upto_region 1 with fail
      rw [← HW1.out]
      go_wp2_with fail
      go_ret
      exact ⟨by rw [HR.out]; rfl, HEND.out _ (Below.refl _ _)⟩
    · have h1d : decide (N < 0) = false := decide_eq_false (by omega)
      have h2d : decide (14 < N) = true := decide_eq_true h1
      clear hE hG hb1 hw1
      go_enter Tryd.func39, Tryd.ntmps39
      go_upto_region 1 with fail
      rw [← HW1.out]
      go_wp2_with fail
      go_ret
      exact ⟨by rw [HR.out]; rfl, HEND.out _ (Below.refl _ _)⟩
    · by_cases h0 : N < 0
      · have h1d : decide (N < 0) = true := decide_eq_true h0
        clear hE hG hb1 hw1 h1
        go_enter Tryd.func39, Tryd.ntmps39
        go_upto_region 1 with fail
        rw [← HW1.out]
        go_wp2_with fail
        go_ret
        exact ⟨by rw [HR.out]; rfl, HEND.out _ (Below.refl _ _)⟩
      · have h1d : decide (N < 0) = false := decide_eq_false h0
        by_cases h2 : 14 < N
        · have h2d : decide (14 < N) = true := decide_eq_true h2
          clear hE hG hb1 hw1 h1
          go_enter Tryd.func39, Tryd.ntmps39
          go_upto_region 1 with fail
          rw [← HW1.out]
          go_wp2_with fail
          go_ret
          exact ⟨by rw [HR.out]; rfl, HEND.out _ (Below.refl _ _)⟩
        · have h2d : decide (14 < N) = false := decide_eq_false h2
          have h3I : (30 : Int) < (m : Int) := by omega
          have h3d : decide ((30 : Int) < (m : Int)) = true := decide_eq_true h3I
          clear hE hG hb1 hw1
          go_enter Tryd.func39, Tryd.ntmps39
          go_upto_region 1 with fail
          rw [← HW1.out]
          go_wp2_with fail
          go_ret
          exact ⟨by rw [HR.out]; rfl, HEND.out _ (Below.refl _ _)⟩
  · have h1d : decide (N < 0) = false := decide_eq_false (by omega)
    have h2d : decide (14 < N) = false := decide_eq_false (by omega)
    have h3I : ¬ (30 : Int) < (m : Int) := by omega
    have h3J : ¬ 30 < m := by omega
    have h3d : decide ((30 : Int) < (m : Int)) = false := decide_eq_false h3I
    have HR : Hid (syE N m p q = if bdsB N p q m then 0 else 3) := by show _ = _; unfold syE; rw [if_neg hbad]
    have HSH : Hid (∀ i, i < m → bdB N p q i = false → errV a (syE N m p q) = .iface 143 (.pointer (some (a 2)))) := fun i hi h => by rw [HR.out, bdsB_no hi h]; rfl
    clear hE hG hb1 hw1 hbad
    go_enter Tryd.func39, Tryd.ntmps39
    go_upto_region 1 with fail
    rw [← HW1.out]
    go_wp2_with fail
    clear eB eS hc0 hc1
    go_loopw [23] (fun i wr => ∃ k : Nat, k ≤ m ∧ i = .int .i64 k ∧ Hid (bdsB N p q k = true) ∧ Hid (Below w1.heap.size w1 wr)) (fun i _ => m - (intOf i).toNat)
    case atStart => exact ⟨0, Nat.zero_le _, rfl, rfl, Below.refl _ _⟩
    case round =>
      obtain ⟨k, hk, rfl, HK, HB⟩ := hrel
      have hk0 : (0 : Int) ≤ (k : Int) := by omega
      rcases Nat.lt_or_ge k m with h1 | h1
      · have hkm : (k : Int) < (m : Int) := by omega
        obtain ⟨b, o, rfl, hT⟩ := HG.out.at h1
        have hTk := hT k h1
        have e0 : wr.cell? ⟨b, o + k * 2, none⟩ = some (.int .i64 (p k)) := by rw [HB.out.cell (cell_lt hTk.1)]; exact hTk.1
        have e1 : wr.cell? ⟨b, o + k * 2 + 1, none⟩ = some (.int .i64 (q k)) := by rw [HB.out.cell (cell_lt hTk.2)]; exact hTk.2
        obtain ⟨Wa, hWa⟩ : ∃ Wa, Wa = wr.alloc (.cells #[.int .i64 (p k), .int .i64 (q k)] 57) := ⟨_, rfl⟩
        have hba : Below w1.heap.size w1 Wa := by rw [hWa]; exact HB.out.alloc HB.out.size _
        have c0 : Wa.cell? ⟨wr.heap.size, 0, none⟩ = some (.int .i64 (p k)) := by rw [hWa]; go_simp
        have c1 : Wa.cell? ⟨wr.heap.size, 1, none⟩ = some (.int .i64 (q k)) := by rw [hWa]; go_simp
        have HBA := Hid.mk' hba
        have HCA : Hid (∀ W, Below Wa.heap.size Wa W → W.cell? ⟨wr.heap.size, 0, none⟩ = some (.int .i64 (p k)) ∧ W.cell? ⟨wr.heap.size, 1, none⟩ = some (.int .i64 (q k))) := fun W hb => ⟨by rw [hb.cell (cell_lt c0)]; exact c0, by rw [hb.cell (cell_lt c1)]; exact c1⟩
        have HWA := Hid.mk' hWa
        clear hT hTk hba c0 c1 HB hWa
        go_upto_region 6 with fail
        rw [← HWA.out]
        clear e0 e1
        obtain ⟨c0, c1⟩ := HCA.out _ (Below.refl _ _)
        obtain ⟨g0, g1⟩ := HC.out _ HBA.out
        have HP : Hid (∀ W, Calls Tryd.prog 61 #[.agg #[.int .i64 N, .slice (some ⟨b, o, none⟩) m cap], .int .i64 (p k)] W fun e w' => e = .returned (.bool (hasB N (p k))) ∧ Below W.heap.size W w') := fun W => has_any _ _ _ _ _ W
        have HQ : Hid (∀ W, Calls Tryd.prog 61 #[.agg #[.int .i64 N, .slice (some ⟨b, o, none⟩) m cap], .int .i64 (q k)] W fun e w' => e = .returned (.bool (hasB N (q k))) ∧ Below W.heap.size W w') := fun W => has_any _ _ _ _ _ W
        have HN : Hid (bdsB N p q (k + 1) = bdB N p q k) := by show _ = _; rw [bdsB, HK.out, Bool.true_and]
        have HD : Hid (bdB N p q k = (hasB N (p k) && (hasB N (q k) && !(p k == q k)))) := rfl
        have HSK := Hid.mk' (HSH.out k h1)
        generalize hasB N (p k) = X at HP HD
        generalize hasB N (q k) = Y at HQ HD
        go_wp2_with fail
        refine (HP.out _).mono ?_
        rintro e w2 ⟨rfl, hb2⟩
        clear c0 c1 g0 g1
        have HB2 := Hid.mk' (below_chain HBA.out hb2)
        obtain ⟨c0, c1⟩ := HCA.out _ hb2
        obtain ⟨g0, g1⟩ := HC.out _ HB2.out
        obtain ⟨eB, eS⟩ := HE.out _ HB2.out
        cases X with
        | false =>
          have HF := Hid.mk' (HSK.out (by rw [HD.out]; rfl))
          go_wp2_with fail
          go_ret
          exact ⟨by rw [HF.out]; rfl, HEND.out _ HB2.out⟩
        | true =>
          go_wp2_with fail
          refine (HQ.out _).mono ?_
          rintro e w3 ⟨rfl, hb3⟩
          have hb23 := below_chain hb2 hb3
          clear c0 c1 g0 g1 eB eS
          have HB3 := Hid.mk' (below_chain HB2.out hb3)
          obtain ⟨c0, c1⟩ := HCA.out _ hb23
          obtain ⟨eB, eS⟩ := HE.out _ HB3.out
          clear hb2 hb3 hb23
          cases Y with
          | false =>
            have HF := Hid.mk' (HSK.out (by rw [HD.out]; rfl))
            go_wp2_with fail
            go_ret
            exact ⟨by rw [HF.out]; rfl, HEND.out _ HB3.out⟩
          | true =>
            by_cases hpq : p k = q k
            · have hd : (p k == q k) = true := by simpa using hpq
              have HF := Hid.mk' (HSK.out (by rw [HD.out, hd]; rfl))
              clear hpq
              go_wp2_with fail
              go_ret
              exact ⟨by rw [HF.out]; rfl, HEND.out _ HB3.out⟩
            · have hd : (p k == q k) = false := by simpa using hpq
              have HF : Hid (bdsB N p q (k + 1) = true) := by show _ = _; rw [HN.out, HD.out, hd]; rfl
              go_wp2_with fail
              exact ⟨⟨k + 1, h1, by go_num, HF, HB3⟩, by simp [intOf]; omega⟩
      · obtain rfl : k = m := by omega
        have HF : Hid (errV a (syE N k p q) = .nilIface) := by show _ = _; rw [HR.out, HK.out]; rfl
        go_wp2_with fail
        go_ret
        exact ⟨by rw [HF.out]; rfl, HEND.out _ HB.out⟩
end Go.Proofs.YtpdenfjncpfogaaDoor
