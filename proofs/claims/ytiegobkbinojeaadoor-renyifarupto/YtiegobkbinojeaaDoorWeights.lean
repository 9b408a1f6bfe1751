/- Sums, least and greatest ones of lists; which weights are right. -/
import Derived.Test.YtiegobkbinojeaaDoorInts
namespace Go.Proofs.YtiegobkbinojeaaDoor
open Go.RowKit

set_option maxRecDepth 100000 in
theorem Sum_some (b o cap n : Nat) (z : Nat → Int) (w : World) (h : RowAt w b o n z) (hz : ∀ k, k ≤ n → -1000000 ≤ sumN z k ∧ sumN z k ≤ 1000000) (hzi : ∀ i, i < n → -1000000 ≤ z i ∧ z i ≤ 1000000) (hn : n ≤ 1000000) :
    Calls Tryd.prog 38 #[.slice (some ⟨b, o, none⟩) n cap] w fun e w' => e = .returned (.int .i64 (sumN z n)) ∧ w' = w := by
  have HR := Hid.mk' h
  have HZ := Hid.mk' hz
  have HZI := Hid.mk' hzi
  clear h hz hzi
  go_enter Tryd.func38, Tryd.ntmps38
  go_wp2_with fail
  go_loopw [3, 4] (fun s i wr => ∃ k : Nat, k ≤ n ∧ s = .int .i64 (sumN z k) ∧ i = .int .i64 k ∧ wr = w) (fun _ i _ => n - (intOf i).toNat)
  case atStart => exact ⟨0, Nat.zero_le _, rfl, rfl, rfl⟩
  case round =>
    obtain ⟨k, hk, rfl, rfl, rfl⟩ := hrel
    rcases Nat.lt_or_ge k n with h1 | h1
    · have hc := HR.out k h1
      have hs1 := HZ.out k hk
      have hs2 := HZ.out (k + 1) h1
      have hs3 := HZI.out k h1
      have HE : Hid (sumN z (k + 1) = sumN z k + z k) := rfl
      have hkn : (k : Int) < (n : Int) := by omega
      obtain ⟨x, hx⟩ : ∃ x, x = z k := ⟨_, rfl⟩
      rw [← hx] at hc hs3 HE
      obtain ⟨s, hs⟩ : ∃ s, s = sumN z k := ⟨_, rfl⟩
      rw [← hs] at hs1 HE ⊢
      clear hx hs
      go_wp2_with fail
      exact ⟨⟨k + 1, h1, by rw [HE.out], by go_num, trivial⟩, by simp [intOf]; omega⟩
    · obtain rfl : k = n := by omega
      go_wp2_with fail
      go_ret
      exact ⟨rfl, rfl⟩

set_option maxRecDepth 100000 in
theorem total_some (b o cap n : Nat) (z : Nat → Int) (w : World) (h : RowAt w b o n z) (hz : ∀ k, k ≤ n → -1000000 ≤ sumN z k ∧ sumN z k ≤ 1000000) (hzi : ∀ i, i < n → -1000000 ≤ z i ∧ z i ≤ 1000000) (hn : n ≤ 1000000) :
    Calls Tryd.prog 42 #[.slice (some ⟨b, o, none⟩) n cap] w fun e w' => e = .returned (.int .i64 (sumN z n)) ∧ w' = w := by
  have HR := Hid.mk' h
  have HZ := Hid.mk' hz
  have HZI := Hid.mk' hzi
  clear h hz hzi
  go_enter Tryd.func42, Tryd.ntmps42
  go_wp2_with fail
  go_loopw [3, 8] (fun s i wr => ∃ k : Nat, k ≤ n ∧ s = .int .i64 (sumN z k) ∧ i = .int .i64 k ∧ wr = w) (fun _ i _ => n - (intOf i).toNat)
  case atStart => exact ⟨0, Nat.zero_le _, rfl, rfl, rfl⟩
  case round =>
    obtain ⟨k, hk, rfl, rfl, rfl⟩ := hrel
    rcases Nat.lt_or_ge k n with h1 | h1
    · have hc := HR.out k h1
      have hs1 := HZ.out k hk
      have hs2 := HZ.out (k + 1) h1
      have hs3 := HZI.out k h1
      have HE : Hid (sumN z (k + 1) = sumN z k + z k) := rfl
      have hkn : (k : Int) < (n : Int) := by omega
      obtain ⟨x, hx⟩ : ∃ x, x = z k := ⟨_, rfl⟩
      rw [← hx] at hc hs3 HE
      obtain ⟨s, hs⟩ : ∃ s, s = sumN z k := ⟨_, rfl⟩
      rw [← hs] at hs1 HE ⊢
      clear hx hs
      go_wp2_with fail
      exact ⟨⟨k + 1, h1, by rw [HE.out], by go_num, trivial⟩, by simp [intOf]; omega⟩
    · obtain rfl : k = n := by omega
      go_wp2_with fail
      go_ret
      exact ⟨rfl, rfl⟩

/-- The least and the greatest of the first k + 1. -/
def minTo (z : Nat → Int) : Nat → Int
  | 0 => z 0
  | k + 1 => if z (k + 1) < minTo z k then z (k + 1) else minTo z k
def maxTo (z : Nat → Int) : Nat → Int
  | 0 => z 0
  | k + 1 => if maxTo z k < z (k + 1) then z (k + 1) else maxTo z k
theorem minTo_neg (z : Nat → Int) : ∀ k, minTo z k < 0 ↔ negB z (k + 1) = true
  | 0 => by simp [minTo, negB]
  | k + 1 => by
    have ih := minTo_neg z k
    show (if z (k + 1) < minTo z k then z (k + 1) else minTo z k) < 0 ↔ (negB z (k + 1) || decide (z (k + 1) < 0)) = true
    rw [Bool.or_eq_true, ← ih, decide_eq_true_eq]
    split <;> omega
theorem maxTo_pos (z : Nat → Int) : ∀ k, 0 < maxTo z k ↔ someB z (k + 1) = true
  | 0 => by simp [maxTo, someB]
  | k + 1 => by
    have ih := maxTo_pos z k
    show 0 < (if maxTo z k < z (k + 1) then z (k + 1) else maxTo z k) ↔ (someB z (k + 1) || decide (0 < z (k + 1))) = true
    rw [Bool.or_eq_true, ← ih, decide_eq_true_eq]
    split <;> omega
theorem maxTo_ge (z : Nat → Int) : ∀ k i, i ≤ k → z i ≤ maxTo z k
  | 0, i, h => by obtain rfl : i = 0 := by omega
                  exact Int.le_refl _
  | k + 1, i, h => by
    show z i ≤ (if maxTo z k < z (k + 1) then z (k + 1) else maxTo z k)
    rcases Nat.lt_or_ge i (k + 1) with h' | h'
    · have := maxTo_ge z k i (by omega); split <;> omega
    · obtain rfl : i = k + 1 := by omega
      split <;> omega
theorem maxTo_mem (z : Nat → Int) : ∀ k, ∃ i, i ≤ k ∧ maxTo z k = z i
  | 0 => ⟨0, Nat.le_refl _, rfl⟩
  | k + 1 => by
    obtain ⟨i, hi, he⟩ := maxTo_mem z k
    show ∃ i, i ≤ k + 1 ∧ (if maxTo z k < z (k + 1) then z (k + 1) else maxTo z k) = z i
    split
    · exact ⟨k + 1, Nat.le_refl _, rfl⟩
    · exact ⟨i, by omega, he⟩

set_option maxRecDepth 100000 in
theorem Min_some (b o cap n : Nat) (z : Nat → Int) (w : World) (h : RowAt w b o n z) (h0 : 0 < n) (hn : n ≤ 1000000) :
    Calls Tryd.prog 74 #[.slice (some ⟨b, o, none⟩) n cap] w fun e w' => e = .returned (.int .i64 (minTo z (n - 1))) ∧ w' = w := by
  have HR := Hid.mk' h
  have hc0 := h 0 h0
  rw [Nat.add_zero] at hc0
  clear h
  go_enter Tryd.func74, Tryd.ntmps74
  go_wp2_with fail
  go_loopw [3, 4] (fun s i wr => ∃ k : Nat, k < n ∧ s = .int .i64 (minTo z k) ∧ i = .int .i64 ((k : Int) + 1) ∧ wr = w) (fun _ i _ => n - (intOf i).toNat)
  case atStart => exact ⟨0, h0, rfl, rfl, rfl⟩
  case round =>
    obtain ⟨k, hk, rfl, rfl, rfl⟩ := hrel
    rcases Nat.lt_or_ge (k + 1) n with h1 | h1
    · have hc := HR.out (k + 1) h1
      go_wp2_with fail
      exact ⟨⟨k + 1, h1, rfl, by go_num, trivial⟩, by simp [intOf]; omega⟩
    · obtain rfl : k = n - 1 := by omega
      go_wp2_with fail
      go_ret
      exact ⟨rfl, rfl⟩
set_option maxRecDepth 100000 in
theorem Max_some (b o cap n : Nat) (z : Nat → Int) (w : World) (h : RowAt w b o n z) (h0 : 0 < n) (hn : n ≤ 1000000) :
    Calls Tryd.prog 75 #[.slice (some ⟨b, o, none⟩) n cap] w fun e w' => e = .returned (.int .i64 (maxTo z (n - 1))) ∧ w' = w := by
  have HR := Hid.mk' h
  have hc0 := h 0 h0
  rw [Nat.add_zero] at hc0
  clear h
  go_enter Tryd.func75, Tryd.ntmps75
  go_wp2_with fail
  go_loopw [3, 4] (fun s i wr => ∃ k : Nat, k < n ∧ s = .int .i64 (maxTo z k) ∧ i = .int .i64 ((k : Int) + 1) ∧ wr = w) (fun _ i _ => n - (intOf i).toNat)
  case atStart => exact ⟨0, h0, rfl, rfl, rfl⟩
  case round =>
    obtain ⟨k, hk, rfl, rfl, rfl⟩ := hrel
    rcases Nat.lt_or_ge (k + 1) n with h1 | h1
    · have hc := HR.out (k + 1) h1
      go_wp2_with fail
      exact ⟨⟨k + 1, h1, rfl, by go_num, trivial⟩, by simp [intOf]; omega⟩
    · obtain rfl : k = n - 1 := by omega
      go_wp2_with fail
      go_ret
      exact ⟨rfl, rfl⟩

theorem listErr_neg {z : Nat → Int} {n k : Nat} (hk : k < n) (h : z k < 0) : listErr z n = 3 := by
  unfold listErr
  rw [if_pos (Or.inl ((negB_iff z n).2 ⟨k, hk, h⟩))]
theorem listErr_none {z : Nat → Int} {n : Nat} (h : someB z n = false) : listErr z n = 3 := by
  unfold listErr
  rw [if_pos (Or.inr h)]
theorem listErr_great {z : Nat → Int} {n : Nat} (hn : negB z n = false) (h : someB z n = true) (hg : 4096 < sumN z n) : listErr z n = 2 := by
  unfold listErr
  rw [if_neg (by rw [hn, h]; simp), if_pos hg]
theorem listErr_none0 {z : Nat → Int} {n : Nat} (hn : negB z n = false) (h : someB z n = true) (hg : ¬ 4096 < sumN z n) : listErr z n = 0 := by
  unfold listErr
  rw [if_neg (by rw [hn, h]; simp), if_neg hg]

set_option maxRecDepth 100000 in
set_option maxHeartbeats 1000000 in
theorem listError_some (b o cap n : Nat) (z : Nat → Int) (w : World) (h : RowAt w b o n z) (hn : n ≤ 1000000) :
    Calls Tryd.prog 33 #[.slice (some ⟨b, o, none⟩) n cap, .int .i64 4096] w fun e w' => e = .returned (.int .i64 (listErr z n : Int)) ∧ w' = w := by
  have HR := Hid.mk' h
  clear h
  go_enter Tryd.func33, Tryd.ntmps33
  go_wp2_with fail
  go_loopw [5, 6, 7, 8] (fun s g u i wr => ∃ (k : Nat) (y : Int) (sb gb : Bool), k ≤ n ∧ s = .bool sb ∧ g = .bool gb ∧ u = .int .i64 y ∧ i = .int .i64 k ∧ wr = w ∧ Hid (negB z k = false ∧ sb = someB z k ∧ gb = decide (4096 < sumN z k) ∧ (gb = false → y = sumN z k))) (fun _ _ _ i _ => n - (intOf i).toNat)
  case atStart => exact ⟨0, 0, false, false, Nat.zero_le _, rfl, rfl, rfl, rfl, rfl, rfl, rfl, rfl, fun _ => rfl⟩
  case round =>
    obtain ⟨k, y, sb, gb, hk, rfl, rfl, rfl, rfl, rfl, HH⟩ := hrel
    rcases Nat.lt_or_ge k n with h1 | h1
    · have hc := HR.out k h1
      have hkn : (k : Int) < (n : Int) := by omega
      rcases Int.lt_or_le (z k) 0 with hz | hz
      · have HL := Hid.mk' (listErr_neg h1 hz)
        obtain ⟨x, hx⟩ : ∃ x, x = z k := ⟨_, rfl⟩
        rw [← hx] at hc hz
        clear hx
        go_wp2_with fail
        go_ret
        exact ⟨by rw [HL.out]; rfl, rfl⟩
      · have HN : Hid (negB z (k + 1) = false) := by
          show (negB z k || decide (z k < 0)) = false
          rw [HH.out.1, Bool.false_or]; exact decide_eq_false (by omega)
        have HS : Hid (someB z (k + 1) = (sb || decide (0 < z k))) := by
          show (someB z k || decide (0 < z k)) = _
          rw [HH.out.2.1]
        have HU : Hid (sumN z (k + 1) = sumN z k + z k) := rfl
        have HP : Hid (0 ≤ sumN z k) := sumN_nonneg (not_neg HH.out.1)
        obtain ⟨x, hx⟩ : ∃ x, x = z k := ⟨_, rfl⟩
        rw [← hx] at hc hz HS HU
        clear hx
        cases gb with
        | true =>
          have hg : 4096 < sumN z k := by have := HH.out.2.2.1; simpa using this.symm
          have HG : Hid (true = decide (4096 < sumN z (k + 1))) := (decide_eq_true (by rw [HU.out]; omega)).symm
          clear hg
          cases sb with
          | true =>
            go_wp2_with fail
            exact ⟨⟨k + 1, y, true, true, h1, rfl, rfl, rfl, by go_num, trivial, HN.out, by rw [HS.out]; rfl, HG.out, fun e => by cases e⟩, by simp [intOf]; omega⟩
          | false =>
            go_wp2_with fail
            exact ⟨⟨k + 1, y, decide (0 < x), true, h1, rfl, rfl, rfl, by go_num, trivial, HN.out, by rw [HS.out]; rfl, HG.out, fun e => by cases e⟩, by simp [intOf]; omega⟩
        | false =>
          have hy := HH.out.2.2.2 rfl
          have hs : sumN z k ≤ 4096 := by have := of_decide_eq_false HH.out.2.2.1.symm; omega
          have hp := HP.out
          rw [← hy] at hs hp HU
          clear hy
          rcases Int.lt_or_le 4096 x with hx | hx
          · have HG : Hid (true = decide (4096 < sumN z (k + 1))) := (decide_eq_true (by rw [HU.out]; omega)).symm
            cases sb with
            | true =>
              go_wp2_with fail
              exact ⟨⟨k + 1, y, true, true, h1, rfl, rfl, rfl, by go_num, trivial, HN.out, by rw [HS.out]; rfl, HG.out, fun e => by cases e⟩, by simp [intOf]; omega⟩
            | false =>
              go_wp2_with fail
              exact ⟨⟨k + 1, y, decide (0 < x), true, h1, rfl, rfl, rfl, by go_num, trivial, HN.out, by rw [HS.out]; rfl, HG.out, fun e => by cases e⟩, by simp [intOf]; omega⟩
          · have HG : Hid (decide (4096 < y + x) = decide (4096 < sumN z (k + 1))) := by rw [HU.out]; exact rfl
            have hdx : decide (4096 < x) = false := decide_eq_false (by omega)
            cases sb with
            | true =>
              go_wp2_with fail
              exact ⟨⟨k + 1, y + x, true, decide (4096 < y + x), h1, rfl, rfl, rfl, by go_num, trivial, HN.out, by rw [HS.out]; rfl, HG.out, fun _ => HU.out.symm⟩, by simp [intOf]; omega⟩
            | false =>
              go_wp2_with fail
              exact ⟨⟨k + 1, y + x, decide (0 < x), decide (4096 < y + x), h1, rfl, rfl, rfl, by go_num, trivial, HN.out, by rw [HS.out]; rfl, HG.out, fun _ => HU.out.symm⟩, by simp [intOf]; omega⟩
    · obtain rfl : k = n := by omega
      cases sb with
      | false =>
        go_wp2_with fail
        go_ret
        exact ⟨by rw [listErr_none HH.out.2.1.symm]; rfl, rfl⟩
      | true =>
        cases gb with
        | true =>
          go_wp2_with fail
          go_ret
          exact ⟨by rw [listErr_great HH.out.1 HH.out.2.1.symm (of_decide_eq_true HH.out.2.2.1.symm)]; rfl, rfl⟩
        | false =>
          go_wp2_with fail
          go_ret
          exact ⟨by rw [listErr_none0 HH.out.1 HH.out.2.1.symm (of_decide_eq_false HH.out.2.2.1.symm)]; rfl, rfl⟩

theorem listErr_zero (z : Nat → Int) : listErr z 0 = 3 := rfl
set_option maxRecDepth 100000 in
theorem listError_any (v : Value) (n : Nat) (z : Nat → Int) (w : World) (h : NumsAt w v n z) (hn : n ≤ 1000000) :
    Calls Tryd.prog 33 #[v, .int .i64 4096] w fun e w' => e = .returned (.int .i64 (listErr z n : Int)) ∧ w' = w := by
  rcases h with ⟨ad, cap, rfl, rfl⟩ | ⟨b, o, cap, rfl, _, hr⟩
  · go_enter Tryd.func33, Tryd.ntmps33
    go_wp2_with fail
    refine wp_loop_rounds 1 ?_
    rw [rounds_succ]
    go_wp2_with fail
    go_ret
    exact ⟨rfl, rfl⟩
  · exact listError_some b o cap n z w hr hn
set_option maxRecDepth 100000 in
theorem WeightsError_any (v : Value) (n : Nat) (z : Nat → Int) (w : World) (h : NumsAt w v n z) (hn : n ≤ 1000000) :
    Calls Tryd.prog 16 #[v] w fun e w' => e = .returned (.int .i64 (weightsErr z n : Int)) ∧ w' = w := by
  have hL := listError_any v n z w h hn
  obtain ⟨ad, cap, rfl⟩ := h.form
  clear h
  by_cases h16 : 16 < n
  · have HE : Hid (weightsErr z n = 2) := by unfold weightsErr; exact if_pos h16
    go_enter Tryd.func16, Tryd.ntmps16
    go_wp2_with fail
    go_ret
    exact ⟨by rw [HE.out]; rfl, rfl⟩
  · have HE : Hid (weightsErr z n = listErr z n) := by unfold weightsErr; exact if_neg h16
    rw [← HE.out] at hL
    generalize weightsErr z n = r at hL
    clear HE
    go_enter Tryd.func16, Tryd.ntmps16
    go_wp2_with fail
    refine hL.mono ?_
    rintro e w1 ⟨rfl, hw1⟩
    rw [hw1]
    go_wp2_with fail
    go_ret
    exact ⟨rfl, rfl⟩

theorem errV_pos {k : Nat} (a : Nat → Addr) (h : k ≠ 0) : errV a k = .iface 149 (.pointer (some (a (k - 1)))) := by unfold errV; exact if_neg h
theorem errV_zero (a : Nat → Addr) : errV a 0 = .nilIface := rfl
theorem errV_two (a : Nat → Addr) : errV a 2 = .iface 149 (.pointer (some (a 1))) := rfl
theorem errV_three (a : Nat → Addr) : errV a 3 = .iface 149 (.pointer (some (a 2))) := rfl

set_option maxRecDepth 100000 in
set_option maxHeartbeats 1000000 in
theorem checkWeights_some (a : Nat → Addr) (b o cap n : Nat) (z : Nat → Int) (w : World) (hE : Errs w a) (h : RowAt w b o n z) (h0 : 0 < n) (hn : n ≤ 1000000) :
    Calls Tryd.prog 59 #[.slice (some ⟨b, o, none⟩) n cap] w fun e w' => e = .returned (errV a (listErr z n)) ∧ w' = w := by
  have hmin := Min_some b o cap n z w h h0 hn
  have hmax := Max_some b o cap n z w h h0 hn
  have HR := Hid.mk' h
  have e1 := hE.c1
  have e2 := hE.c2
  have hmn := minTo_neg z (n - 1)
  have hmx := maxTo_pos z (n - 1)
  rw [Nat.sub_add_cancel h0] at hmn hmx
  have hmg := maxTo_ge z (n - 1)
  obtain ⟨lo, hlo⟩ : ∃ lo, lo = minTo z (n - 1) := ⟨_, rfl⟩
  obtain ⟨hi, hhi⟩ : ∃ hi, hi = maxTo z (n - 1) := ⟨_, rfl⟩
  rw [← hlo] at hmin hmn
  rw [← hhi] at hmax hmx hmg
  clear hlo hhi h hE
  have hn0 : ¬ (n : Int) = 0 := by omega
  have hnb : ((n : Int) == 0) = false := by simpa using hn0
  clear hn0
  rcases Int.lt_or_le lo 0 with hl | hl
  · have HL : Hid (listErr z n = 3) := by obtain ⟨i, hi, hz⟩ := (negB_iff z n).1 (hmn.1 hl); exact listErr_neg hi hz
    clear hmn hmx hmg
    go_enter Tryd.func59, Tryd.ntmps59
    go_wp2_with (go_at_call 74; refine hmin.mono ?_; rintro e w1 ⟨rfl, hw1⟩; rw [hw1]; clear hw1)
    go_ret
    exact ⟨by rw [HL.out]; rfl, rfl⟩
  · have HN : Hid (negB z n = false) := by cases hh : negB z n with | false => rfl | true => have := hmn.2 hh; omega
    by_cases hh : hi = 0
    · subst hh
      have HL : Hid (listErr z n = 3) := listErr_none (by cases hs : someB z n with | false => rfl | true => have := hmx.2 hs; omega)
      clear hmn hmx hmg
      go_enter Tryd.func59, Tryd.ntmps59
      go_wp2_with (first
        | (go_at_call 74; refine hmin.mono ?_; rintro e w1 ⟨rfl, hw1⟩; rw [hw1]; clear hw1)
        | (go_at_call 75; refine hmax.mono ?_; rintro e w1 ⟨rfl, hw1⟩; rw [hw1]; clear hw1))
      go_ret
      exact ⟨by rw [HL.out]; rfl, rfl⟩
    · have hz0 : 0 ≤ z 0 := not_neg HN.out 0 h0
      have hp : 0 < hi := by have := hmg 0 (by omega); omega
      have HS : Hid (someB z n = true) := hmx.1 hp
      have hhb : (hi == 0) = false := by simpa using hh
      have hlb : decide (lo < 0) = false := decide_eq_false (by omega)
      clear hmn hmx hmg hz0
      go_enter Tryd.func59, Tryd.ntmps59
      go_wp2_with (first
        | (go_at_call 74; refine hmin.mono ?_; rintro e w1 ⟨rfl, hw1⟩; rw [hw1]; clear hw1)
        | (go_at_call 75; refine hmax.mono ?_; rintro e w1 ⟨rfl, hw1⟩; rw [hw1]; clear hw1))
      clear hmin hmax
      go_loopw [3, 22] (fun s i wr => ∃ (k : Nat) (y : Int), k ≤ n ∧ s = .int .i64 (4096 - y) ∧ i = .int .i64 k ∧ wr = w ∧ 0 ≤ y ∧ y ≤ 4096 ∧ Hid (y = sumN z k)) (fun _ i _ => n - (intOf i).toNat)
      case atStart => exact ⟨0, 0, Nat.zero_le _, rfl, rfl, rfl, by omega, by omega, rfl⟩
      case round =>
        obtain ⟨k, y, hk, rfl, rfl, rfl, hy0, hy1, HY⟩ := hrel
        rcases Nat.lt_or_ge k n with h1 | h1
        · have hc := HR.out k h1
          have hkn : (k : Int) < (n : Int) := by omega
          have hzk := not_neg HN.out k h1
          have HU : Hid (sumN z (k + 1) = y + z k) := by show sumN z k + z k = _; rw [HY.out]
          have HM : Hid (sumN z (k + 1) ≤ sumN z n) := sumN_mono (not_neg HN.out) h1
          obtain ⟨x, hx⟩ : ∃ x, x = z k := ⟨_, rfl⟩
          rw [← hx] at hc hzk HU
          clear hx
          rcases Int.lt_or_le (4096 - y) x with hx | hx
          · have HL : Hid (listErr z n = 2) := listErr_great HN.out HS.out (by have h1 := HM.out; rw [HU.out] at h1; omega)
            go_wp2_with fail
            go_ret
            exact ⟨by rw [HL.out]; rfl, rfl⟩
          · go_wp2_with fail
            exact ⟨⟨k + 1, y + x, h1, by go_num, by go_num, trivial, by omega, by omega, HU.out.symm⟩, by simp [intOf]; omega⟩
        · obtain rfl : k = n := by omega
          go_wp2_with fail
          go_ret
          exact ⟨by rw [listErr_none0 HN.out HS.out (by rw [← HY.out]; omega)]; rfl, rfl⟩
set_option maxRecDepth 100000 in
theorem checkWeights_any (a : Nat → Addr) (v : Value) (n : Nat) (z : Nat → Int) (w : World) (hE : Errs w a) (h : NumsAt w v n z) (hn : n ≤ 1000000) :
    Calls Tryd.prog 59 #[v] w fun e w' => e = .returned (errV a (listErr z n)) ∧ w' = w := by
  rcases h with ⟨ad, cap, rfl, rfl⟩ | ⟨b, o, cap, rfl, h0, hr⟩
  · have e2 := hE.c2
    clear hE
    go_enter Tryd.func59, Tryd.ntmps59
    go_wp2_with fail
    go_ret
    exact ⟨rfl, rfl⟩
  · exact checkWeights_some a b o cap n z w hE hr h0 hn
set_option maxRecDepth 100000 in
theorem Valid_weights (a : Nat → Addr) (v : Value) (n : Nat) (z : Nat → Int) (w : World) (hE : Errs w a) (h : NumsAt w v n z) (hn : n ≤ 1000000) :
    Calls Tryd.prog 41 #[v] w fun e w' => e = .returned (errV a (weightsErr z n)) ∧ w' = w := by
  have hL := checkWeights_any a v n z w hE h hn
  obtain ⟨ad, cap, rfl⟩ := h.form
  clear h
  have e1 := hE.c1
  clear hE
  by_cases h16 : 16 < n
  · have HE : Hid (weightsErr z n = 2) := by unfold weightsErr; exact if_pos h16
    go_enter Tryd.func41, Tryd.ntmps41
    go_wp2_with fail
    go_ret
    exact ⟨by rw [HE.out]; rfl, rfl⟩
  · have HE : Hid (weightsErr z n = listErr z n) := by unfold weightsErr; exact if_neg h16
    rw [← HE.out] at hL
    obtain ⟨r, hr⟩ : ∃ r, r = errV a (weightsErr z n) := ⟨_, rfl⟩
    rw [← hr] at hL ⊢
    clear HE hr
    go_enter Tryd.func41, Tryd.ntmps41
    go_wp2_with fail
    refine hL.mono ?_
    rintro e w1 ⟨rfl, hw1⟩
    rw [hw1]
    go_wp2_with fail
    go_ret
    exact ⟨rfl, rfl⟩
theorem weightsErr_le (z : Nat → Int) (n : Nat) : weightsErr z n ≤ 3 := by
  unfold weightsErr listErr
  repeat (split; omega)
  omega
theorem weightsErr_ok {z : Nat → Int} {n : Nat} (h : weightsErr z n = 0) : n ≤ 16 ∧ OkW z n := by
  unfold weightsErr at h
  by_cases h16 : 16 < n
  · rw [if_pos h16] at h; cases h
  · rw [if_neg h16] at h
    exact ⟨by omega, listErr_ok h⟩
end Go.Proofs.YtiegobkbinojeaaDoor
