/- Shares: secret.Share; the document's ShareError, ValueAt. -/
import Derived.Test.YtgklaadkglbclaaDoorSkPol
import Derived.Test.YtgklaadkglbclaaDoorFills
import Derived.Test.YtgklaadkglbclaaDoorCopy
import Derived.BigQuiet
namespace Go.Proofs.YtgklaadkglbclaaDoor
open Go.RowKit

/-- What is wrong with shares asked for: p, n coefficients z, x shares. -/
def shE (p : Int) (n : Nat) (z : Nat → Int) (x : Int) : Nat := if fldB p = false then 8 else if x < 1 ∨ p - 1 < x ∨ 24 < x ∨ n = 0 ∨ 12 < n then 2 else if inFB z 0 p n = false then 3 else 0
theorem shE_le (p : Int) (n : Nat) (z : Nat → Int) (x : Int) : shE p n z x ≤ 8 := by
  unfold shE; repeat (split; omega)
  omega
/-- What right ones are, in numbers from 0 on. -/
theorem shE_ok {p : Int} {n : Nat} {z : Nat → Int} {x : Int} (h : shE p n z x = 0) : ∃ (P X : Nat) (c : Nat → Nat), p = (P : Int) ∧ x = (X : Int) ∧ 2 ≤ P ∧ P ≤ 997 ∧ primB P = true ∧ 1 ≤ X ∧ X + 1 ≤ P ∧ X ≤ 24 ∧ 0 < n ∧ n ≤ 12 ∧ (∀ i, c i < P) ∧ ∀ i, i < n → z i = (c i : Int) := by
  unfold shE at h
  cases h1 : fldB p with
  | false => rw [h1, if_pos rfl] at h; cases h
  | true =>
    rw [h1, if_neg (by simp)] at h
    by_cases h2 : x < 1 ∨ p - 1 < x ∨ 24 < x ∨ n = 0 ∨ 12 < n
    · rw [if_pos h2] at h; cases h
    · rw [if_neg h2] at h
      cases h3 : inFB z 0 p n with
      | false => rw [h3, if_pos rfl] at h; cases h
      | true =>
        obtain ⟨a, b, c⟩ := fldB_ok h1
        have hall := fun i (hi : i < n) => inFB_all h3 hi
        refine ⟨p.toNat, x.toNat, fun i => if i < n then (z i).toNat else 0, by omega, by omega, by omega, by omega, c, by omega, by omega, by omega, by omega, by omega, fun i => ?_, fun i hi => ?_⟩
        · show (if i < n then (z i).toNat else 0) < p.toNat
          split
          · rename_i hi; have := hall i hi; omega
          · omega
        · show z i = ((if i < n then (z i).toNat else 0 : Nat) : Int)
          rw [if_pos hi]; have := hall i hi; omega

set_option maxRecDepth 100000 in
set_option maxHeartbeats 2000000 in
theorem ShareError_any (p : Int) (v : Value) (n : Nat) (z : Nat → Int) (x : Int) (w : World) (h : NumsAt w v n z) (hn : n ≤ 1000) :
    Calls Tryd.prog 16 #[.int .i64 p, v, .int .i64 x] w fun e w' => e = .returned (.int .i64 (shE p n z x : Nat)) ∧ w' = w := by
  have hF := IsField_any p w
  have hI := InField_any 0 p v n z w h (by omega)
  obtain ⟨ad, cap, rfl⟩ := h.form
  clear h
  cases h1 : fldB p with
  | false =>
    have HE : Hid (shE p n z x = 8) := by show _ = _; unfold shE; rw [if_pos h1]
    rw [h1] at hF
    clear h1 hI
    go_enter Tryd.func16, Tryd.ntmps16
    go_wp2_with fail
    refine hF.mono ?_
    rintro e w1 ⟨rfl, hw1⟩
    rw [hw1]
    clear hw1 hF
    go_wp2_with fail
    go_ret
    exact ⟨by rw [HE.out]; rfl, rfl⟩
  | true =>
    obtain ⟨hp2, hp9, _⟩ := fldB_ok h1
    rw [h1] at hF
    by_cases h2 : x < 1 ∨ p - 1 < x ∨ 24 < x ∨ n = 0 ∨ 12 < n
    · have HE : Hid (shE p n z x = 2) := by show _ = _; unfold shE; rw [if_neg (by simp [h1]), if_pos h2]
      clear h1 hI
      go_enter Tryd.func16, Tryd.ntmps16
      go_wp2_with fail
      refine hF.mono ?_
      rintro e w1 ⟨rfl, hw1⟩
      rw [hw1]
      clear hw1 hF
      by_cases g1 : x < 1
      · clear h2
        go_wp2_with fail
        go_ret
        exact ⟨by rw [HE.out]; rfl, rfl⟩
      · have k1 : decide (x < 1) = false := decide_eq_false g1
        by_cases g2 : p - 1 < x
        · clear h2 g1
          go_wp2_with fail
          go_ret
          exact ⟨by rw [HE.out]; rfl, rfl⟩
        · have k2 : decide (p - 1 < x) = false := decide_eq_false g2
          by_cases g3 : 24 < x
          · clear h2 g1 g2
            go_wp2_with fail
            go_ret
            exact ⟨by rw [HE.out]; rfl, rfl⟩
          · have k3 : decide (24 < x) = false := decide_eq_false g3
            by_cases g4 : n = 0
            · have k4 : ((n : Int) == 0) = true := by rw [beq_iff_eq]; omega
              clear h2 g1 g2 g3 g4
              go_wp2_with fail
              go_ret
              exact ⟨by rw [HE.out]; rfl, rfl⟩
            · have k4 : ((n : Int) == 0) = false := by rw [beq_eq_false_iff_ne]; omega
              have k5 : (12 : Int) < (n : Int) := by omega
              clear h2 g1 g2 g3 g4
              go_wp2_with fail
              go_ret
              exact ⟨by rw [HE.out]; rfl, rfl⟩
    · have k1 : decide (x < 1) = false := decide_eq_false (by omega)
      have k2 : decide (p - 1 < x) = false := decide_eq_false (by omega)
      have k3 : decide (24 < x) = false := decide_eq_false (by omega)
      have k4 : ((n : Int) == 0) = false := by rw [beq_eq_false_iff_ne]; omega
      have k5 : decide ((12 : Int) < (n : Int)) = false := decide_eq_false (by omega)
      have HE : Hid (shE p n z x = if inFB z 0 p n = false then 3 else 0) := by show _ = _; unfold shE; rw [if_neg (by simp [h1]), if_neg h2]
      clear h1 h2
      cases h3 : inFB z 0 p n with
      | false =>
        rw [h3, if_pos rfl] at HE
        rw [h3] at hI
        clear h3
        go_enter Tryd.func16, Tryd.ntmps16
        go_wp2_with fail
        refine hF.mono ?_
        rintro e w1 ⟨rfl, hw1⟩
        rw [hw1]
        clear hw1 hF
        go_wp2_with fail
        refine hI.mono ?_
        rintro e w1 ⟨rfl, hw1⟩
        rw [hw1]
        clear hw1 hI
        go_wp2_with fail
        go_ret
        exact ⟨by rw [HE.out]; rfl, rfl⟩
      | true =>
        rw [h3, if_neg (by simp)] at HE
        rw [h3] at hI
        clear h3
        go_enter Tryd.func16, Tryd.ntmps16
        go_wp2_with fail
        refine hF.mono ?_
        rintro e w1 ⟨rfl, hw1⟩
        rw [hw1]
        clear hw1 hF
        go_wp2_with fail
        refine hI.mono ?_
        rintro e w1 ⟨rfl, hw1⟩
        rw [hw1]
        clear hw1 hI
        go_wp2_with fail
        go_ret
        exact ⟨by rw [HE.out]; rfl, rfl⟩
set_option maxRecDepth 100000 in
set_option maxHeartbeats 2000000 in
theorem ValueAt_any (p x n b o cap : Nat) (c : Nat → Nat) (w : World) (hr : RowAt w b o n (fun i => (c i : Int))) (hc : ∀ i, c i < p) (hp2 : 2 ≤ p) (hp : p ≤ 997) (hx : x ≤ 1000) (hn : n ≤ 12) :
    Calls Tryd.prog 17 #[.int .i64 (p : Int), .slice (some ⟨b, o, none⟩) n cap, .int .i64 (x : Int)] w fun e w' => e = .returned (.int .i64 (valN p c x n : Int)) ∧ w' = w := by
  have HR := Hid.mk' hr
  have HC := Hid.mk' hc
  have hpI : (p : Int) ≤ 997 := by omega
  have hp0 : ¬ p = 0 := by omega
  have hpz : ¬ (p : Int) = 0 := by omega
  clear hr hc
  go_enter Tryd.func17, Tryd.ntmps17
  go_wp2_with fail
  go_loop [7, 8, 9] (fun y q t => ∃ k : Nat, k ≤ n ∧ t = .int .i64 k ∧ y = .int .i64 (valN p c x k : Int) ∧ q = .int .i64 (pwN p x k : Int)) (fun _ _ t => n - (intOf t).toNat)
  case atStart => exact ⟨0, Nat.zero_le _, rfl, rfl, rfl⟩
  case round =>
    obtain ⟨k, hk, rfl, rfl, rfl⟩ := hrel
    rcases Nat.lt_or_ge k n with h1 | h1
    · have hck : w.cell? ⟨b, o + k, none⟩ = some (.int .i64 (c k : Int)) := HR.out k h1
      have hkn : (k : Int) < (n : Int) := by omega
      have hcl := HC.out k
      have hv := valN_lt (c := c) (x := x) (show 0 < p by omega) k
      have hq := pwN_lt (x := x) (show 1 < p by omega) k
      have HV : Hid (valN p c x (k + 1) = (valN p c x k + c k * pwN p x k) % p) := rfl
      have HW : Hid (pwN p x (k + 1) = pwN p x k * x % p) := rfl
      generalize valN p c x k = y at *
      generalize pwN p x k = q at *
      generalize c k = d at *
      have m1 : d * q ≤ 997 * 997 := Nat.mul_le_mul (by omega) (by omega)
      have m2 : q * x ≤ 997 * 1000 := Nat.mul_le_mul (by omega) hx
      go_wp2_with fail
      exact ⟨⟨k + 1, h1, by go_num, by rw [HV.out]; simp, by rw [HW.out]; simp⟩, by simp [intOf]; omega⟩
    · obtain rfl : k = n := by omega
      go_wp2_with fail
      go_ret
      exact ⟨rfl, rfl⟩
/-- The share at i + 1. -/
def shaN (p n : Nat) (c : Nat → Nat) (i : Nat) : Int := (valN p c (i + 1) n : Int)
set_option maxRecDepth 100000 in
set_option maxHeartbeats 4000000 in
theorem Share_bad (a : Nat → Addr) (p : Int) (v : Value) (n : Nat) (z : Nat → Int) (x : Int) (w : World) (hE : Errs w a) (h : NumsAt w v n z) (hn : n ≤ 1000) (hbad : shE p n z x ≠ 0) :
    Calls Tryd.prog 18 #[.int .i64 p, v, .int .i64 x] w fun e w' => e = .returned (.tuple #[.slice none 0 0, errV a (shE p n z x)]) ∧ Below w.heap.size w w' := by
  have hF := isModulus_any p w
  have hI := allFrom_any 0 (p - 1) v n z w h (by omega)
  rw [show p - 1 + 1 = p by omega] at hI
  obtain ⟨ad, cap, rfl⟩ := h.form
  have cB := hE.c1
  have cS := hE.c2
  have cK := hE.c7
  clear h hE
  cases h1 : fldB p with
  | false =>
    have HE : Hid (shE p n z x = 8) := by show _ = _; unfold shE; rw [if_pos h1]
    rw [h1] at hF
    clear h1 hI hbad
    go_enter Tryd.func18, Tryd.ntmps18
    go_wp2_with fail
    refine hF.mono ?_
    rintro e w1 ⟨rfl, hw1⟩
    rw [hw1]
    clear hw1 hF
    go_wp2_with fail
    go_region
    all_goals
      go_wp2_with fail
      go_ret2
      exact ⟨by rw [HE.out]; rfl, (Below.refl _ _).drew⟩
  | true =>
    obtain ⟨hp2, hp9, _⟩ := fldB_ok h1
    rw [h1] at hF
    have hwp : wrap64 (p - 1) = p - 1 := w64 _ (by omega)
    by_cases h2 : x < 1 ∨ p - 1 < x ∨ 24 < x ∨ n = 0 ∨ 12 < n
    · have HE : Hid (shE p n z x = 2) := by show _ = _; unfold shE; rw [if_neg (by simp [h1]), if_pos h2]
      clear h1 hI hbad
      go_enter Tryd.func18, Tryd.ntmps18
      go_wp2_with fail
      refine hF.mono ?_
      rintro e w1 ⟨rfl, hw1⟩
      rw [hw1]
      clear hw1 hF
      by_cases g1 : x < 1
      · clear h2
        go_wp2_with fail
        go_region
        all_goals
          go_wp2_with fail
          go_ret2
          exact ⟨by rw [HE.out]; rfl, (Below.refl _ _).drew⟩
      · have k1 : decide (x < 1) = false := decide_eq_false g1
        by_cases g5 : p - 1 ≤ 24
        · have g6 : ¬ 24 < p - 1 := by omega
          by_cases g2 : p - 1 < x
          · clear h2 g1
            go_wp2_with fail
            go_region
            all_goals
              go_wp2_with fail
              go_ret2
              exact ⟨by rw [HE.out]; rfl, (Below.refl _ _).drew⟩
          · have k2 : decide (p - 1 < x) = false := decide_eq_false g2
            by_cases g4 : n = 0
            · have k4 : decide ((n : Int) < 1) = true := decide_eq_true (by omega)
              clear h2 g1 g2 g4
              go_wp2_with fail
              go_region
              all_goals
                go_wp2_with fail
                go_ret2
                exact ⟨by rw [HE.out]; rfl, (Below.refl _ _).drew⟩
            · have k4 : decide ((n : Int) < 1) = false := decide_eq_false (by omega)
              have k5 : decide ((12 : Int) < (n : Int)) = true := decide_eq_true (by omega)
              clear h2 g1 g2 g4
              go_wp2_with fail
              go_region
              all_goals
                go_wp2_with fail
                go_ret2
                exact ⟨by rw [HE.out]; rfl, (Below.refl _ _).drew⟩
        · have g6 : 24 < p - 1 := by omega
          by_cases g2 : 24 < x
          · clear h2 g1
            go_wp2_with fail
            go_region
            all_goals
              go_wp2_with fail
              go_ret2
              exact ⟨by rw [HE.out]; rfl, (Below.refl _ _).drew⟩
          · have k2 : decide (24 < x) = false := decide_eq_false g2
            by_cases g4 : n = 0
            · have k4 : decide ((n : Int) < 1) = true := decide_eq_true (by omega)
              clear h2 g1 g2 g4
              go_wp2_with fail
              go_region
              all_goals
                go_wp2_with fail
                go_ret2
                exact ⟨by rw [HE.out]; rfl, (Below.refl _ _).drew⟩
            · have k4 : decide ((n : Int) < 1) = false := decide_eq_false (by omega)
              have k5 : decide ((12 : Int) < (n : Int)) = true := decide_eq_true (by omega)
              clear h2 g1 g2 g4
              go_wp2_with fail
              go_region
              all_goals
                go_wp2_with fail
                go_ret2
                exact ⟨by rw [HE.out]; rfl, (Below.refl _ _).drew⟩
    · have k1 : decide (x < 1) = false := decide_eq_false (by omega)
      have k4 : decide ((n : Int) < 1) = false := decide_eq_false (by omega)
      have k5 : decide ((12 : Int) < (n : Int)) = false := decide_eq_false (by omega)
      have h3 : inFB z 0 p n = false := by
        cases h3 : inFB z 0 p n with
        | false => rfl
        | true => exact absurd (by unfold shE; rw [if_neg (by simp [h1]), if_neg h2, h3, if_neg (by simp)]) hbad
      have HE : Hid (shE p n z x = 3) := by show _ = _; unfold shE; rw [if_neg (by simp [h1]), if_neg h2, if_pos h3]
      rw [h3] at hI
      by_cases g5 : p - 1 ≤ 24
      · have g6 : ¬ 24 < p - 1 := by omega
        have k2 : decide (p - 1 < x) = false := decide_eq_false (by omega)
        clear h1 h2 h3 hbad
        go_enter Tryd.func18, Tryd.ntmps18
        go_wp2_with fail
        refine hF.mono ?_
        rintro e w1 ⟨rfl, hw1⟩
        rw [hw1]
        clear hw1 hF
        go_wp2_with fail
        refine hI.mono ?_
        rintro e w1 ⟨rfl, hw1⟩
        rw [hw1]
        clear hw1 hI
        go_wp2_with fail
        go_region
        all_goals
          go_wp2_with fail
          go_ret2
          exact ⟨by rw [HE.out]; rfl, (Below.refl _ _).drew⟩
      · have g6 : 24 < p - 1 := by omega
        have k2 : decide (24 < x) = false := decide_eq_false (by omega)
        clear h1 h2 h3 hbad
        go_enter Tryd.func18, Tryd.ntmps18
        go_wp2_with fail
        refine hF.mono ?_
        rintro e w1 ⟨rfl, hw1⟩
        rw [hw1]
        clear hw1 hF
        go_wp2_with fail
        refine hI.mono ?_
        rintro e w1 ⟨rfl, hw1⟩
        rw [hw1]
        clear hw1 hI
        go_wp2_with fail
        go_region
        all_goals
          go_wp2_with fail
          go_ret2
          exact ⟨by rw [HE.out]; rfl, (Below.refl _ _).drew⟩
set_option maxRecDepth 100000 in
set_option maxHeartbeats 4000000 in
theorem Share_ok (P X n b o cap : Nat) (c : Nat → Nat) (w : World) (hr : RowAt w b o n (fun i => (c i : Int))) (hc : ∀ i, c i < P) (hp2 : 2 ≤ P) (hp9 : P ≤ 997) (hpr : primB P = true) (hX1 : 1 ≤ X) (hXP : X + 1 ≤ P) (hX24 : X ≤ 24) (h0 : 0 < n) (hn : n ≤ 12) :
    Calls Tryd.prog 18 #[.int .i64 (P : Int), .slice (some ⟨b, o, none⟩) n cap, .int .i64 (X : Int)] w fun e w' => ∃ g, e = .returned (.tuple #[.slice (some ⟨g, 0, none⟩) X X, .nilIface]) ∧ RowAt w' g 0 X (shaN P n c) ∧ Below w.heap.size w w' := by
  have hF := isModulus_any (P : Int) w
  have hfld : fldB (P : Int) = true := by unfold fldB; rw [decide_eq_true (by omega : (P : Int) ≤ 997), decide_eq_true (by omega : (2 : Int) ≤ P)]; simpa using hpr
  have hI := allFrom_any 0 ((P : Int) - 1) (.slice (some ⟨b, o, none⟩) n cap) n (fun i => (c i : Int)) w (Or.inr ⟨b, o, cap, rfl, h0, hr⟩) (by omega)
  have hin : inFB (fun i => (c i : Int)) 0 ((P : Int) - 1 + 1) n = true := by
    clear hI hF hfld
    induction n with
    | zero => rfl
    | succ k ih => 
      rcases Nat.eq_zero_or_pos k with e | e
      · subst e; simp [inFB]; have := hc 0; omega
      · exact inFB_next (ih (fun i hi => hr i (by omega)) e (by omega)) (by have := hc k; omega)
  rw [hfld] at hF
  rw [hin] at hI
  have HVA : Hid (∀ W, Below w.heap.size w W → ∀ i : Nat, i < X → Calls Tryd.prog 36 #[.int .i64 (P : Int), .slice (some ⟨b, o, none⟩) n cap, .int .i64 ((i + 1 : Nat) : Int)] W fun e w' => e = .returned (.int .i64 (shaN P n c i)) ∧ Below W.heap.size W w') := fun W hb i hi => by
    refine (valueAt_any P (i + 1) n b o cap c W (hr.later hb) hc hp9 (by omega) hn h0).mono ?_
    rintro e w' ⟨rfl, hb'⟩
    exact ⟨by unfold shaN; rw [fol_val (by omega)], hb'⟩
  obtain ⟨i0, hi, hz0, hz1, hz2⟩ := info_parts Tryd.infoInt
  have HINI : Hid (Tryd.prog.info? 3 = some i0 ∧ i0.zero = some (.int .i64 0) ∧ i0.size = 1 ∧ i0.bytes = 8) := ⟨hi, hz0, hz1, hz2⟩
  have k1 : decide ((X : Int) < 1) = false := decide_eq_false (by omega)
  have k4 : decide ((n : Int) < 1) = false := decide_eq_false (by omega)
  have k5 : decide ((12 : Int) < (n : Int)) = false := decide_eq_false (by omega)
  have hXI : (X : Int) ≤ 24 := by omega
  have k2 : decide ((P : Int) - 1 < (X : Int)) = false := decide_eq_false (by omega)
  have k3 : decide (24 < (X : Int)) = false := decide_eq_false (by omega)
  clear hi hz0 hz1 hz2 hr hc hpr hfld hin
  go_enter Tryd.func18, Tryd.ntmps18
  go_wp2_with fail
  refine hF.mono ?_
  rintro e w1 ⟨rfl, hw1⟩
  rw [hw1]
  clear hw1 hF w1
  obtain ⟨g5, g6⟩ | ⟨g5, g6⟩ : ((P : Int) - 1 ≤ 24 ∧ ¬ 24 < (P : Int) - 1) ∨ (24 < (P : Int) - 1 ∧ ¬ (P : Int) - 1 ≤ 24) := by omega
  all_goals
    go_wp2_with fail
    refine hI.mono ?_
    rintro e w1 ⟨rfl, hw1⟩
    rw [hw1]
    clear hw1 hI w1
    go_wp2_with (at_make; go_must (refine wpList_make_full _ rfl _ _ _ rfl w.heap.size 3 i0 _ 1 Tryd.underlying22 HINI.out.1 HINI.out.2.1 HINI.out.2.2.1 .i64 .i64 _ _ X rfl rfl rfl rfl (by rw [HINI.out.2.2.2]; omega) (by unfold maxLen; omega) (Nat.le_refl _) ?_; intro w2 hown2 hgrow2; have HF2 := Hid.mk' (fills_made hown2 (made_zero X) hgrow2); clear hown2 hgrow2))
    go_loopw [44] (fun t wr => ∃ k : Nat, k ≤ X ∧ t = .int .i64 k ∧ Hid (Fills w wr w.heap.size X (fun i => if i < k then shaN P n c i else 0))) (fun t _ => X - (intOf t).toNat)
    case atStart => exact ⟨0, Nat.zero_le _, rfl, Hid.mk' ⟨fun i hi => by have := HF2.out.row i hi; simpa using this, HF2.out.fz, HF2.out.below, HF2.out.hg⟩⟩
    case round =>
      clear HF2
      obtain ⟨k, hk, rfl, HF⟩ := hrel
      rcases Nat.lt_or_ge k X with h1 | h1
      · have hkI : (k : Int) < (X : Int) := by omega
        have hk0 : (0 : Int) ≤ (k : Int) := by omega
        have hV := HVA.out wr HF.out.below k h1
        rw [Int.natCast_add] at hV
        go_wp2_with fail
        refine hV.mono ?_
        rintro e w3 ⟨rfl, hb3⟩
        have HF3 : Hid (Fills w w3 w.heap.size X (fun i => if i < k then shaN P n c i else 0)) := ⟨HF.out.row.later hb3, fun i hi => by rw [hb3.frozen (cell_lt (HF.out.row i hi))]; exact HF.out.fz i hi, below_chS HF.out.below hb3, HF.out.hg⟩
        have hck := HF3.out.row k h1
        have hfk := HF3.out.fz k h1
        rw [Nat.zero_add] at hck hfk
        have HN := Hid.mk' (HF3.out.set h1 (shaN P n c k) (f' := fun i => if i < k + 1 then shaN P n c i else 0) (fun i _ => by
          by_cases e : i = k
          · subst e; simp
          · rw [if_neg e]
            by_cases e2 : i < k
            · rw [if_pos e2, if_pos (by omega)]
            · rw [if_neg e2, if_neg (by omega)]))
        generalize shaN P n c k = y at *
        clear hb3 hV HF HF3
        go_wp2_with fail
        exact ⟨⟨k + 1, h1, by go_num, HN⟩, by simp [intOf]; omega⟩
      · obtain rfl : k = X := by omega
        go_wp2_with fail
        go_ret2
        exact ⟨_, rfl, fun i hi => by have := HF.out.row i hi; rw [if_pos hi] at this; exact this, HF.out.below⟩
end Go.Proofs.YtgklaadkglbclaaDoor
