/- Sums, least and greatest ones of lists; which weights are right. -/
import Derived.Test.YtgopohbombnflaaDoorInts
namespace Go.Proofs.YtgopohbombnflaaDoor
open Go.RowKit

set_option maxRecDepth 100000 in
theorem Sum_some (b o cap n : Nat) (z : Nat → Int) (w : World) (h : RowAt w b o n z) (hz : ∀ k, k ≤ n → -1000000 ≤ sumN z k ∧ sumN z k ≤ 1000000) (hzi : ∀ i, i < n → -1000000 ≤ z i ∧ z i ≤ 1000000) (hn : n ≤ 1000000) :
    Calls Tryd.prog 30 #[.slice (some ⟨b, o, none⟩) n cap] w fun e w' => e = .returned (.int .i64 (sumN z n)) ∧ w' = w := by
  have HR := Hid.mk' h
  have HZ := Hid.mk' hz
  have HZI := Hid.mk' hzi
  clear h hz hzi
  go_enter Tryd.func30, Tryd.ntmps30
  go_wp2_with fail
  go_loopw [3, 4] (fun s i wr => ∃ k : Nat, k ≤ n ∧ s = .int .i64 (sumN z k) ∧ i = .int .i64 k ∧ wr = w) (fun _ i _ => n - (intOf i).toNat)
  case atStart => exact ⟨0, Nat.zero_le _, rfl, rfl, rfl⟩
  case round =>
    obtain ⟨k, hk, rfl, rfl, rfl⟩ := hrel
    rcases Nat.lt_or_ge k n with h1 | h1
    · have hc := HR.out k h1
      have hs1 := HZ.out k hk
      have hs2 := HZ.out (k + 1) h1
      have hs3 := HZI.out k h1
      have HE : Hid (sumN z (k + 1) = sumN z k + z k) := rfl
      have hkn : (k : Int) < (n : Int) := by omega
      obtain ⟨x, hx⟩ : ∃ x, x = z k := ⟨_, rfl⟩
      rw [← hx] at hc hs3 HE
      obtain ⟨s, hs⟩ : ∃ s, s = sumN z k := ⟨_, rfl⟩
      rw [← hs] at hs1 HE ⊢
      clear hx hs
      go_wp2_with fail
      exact ⟨⟨k + 1, h1, by rw [HE.out], by go_num, trivial⟩, by simp [intOf]; omega⟩
    · obtain rfl : k = n := by omega
      go_wp2_with fail
      go_ret
      exact ⟨rfl, rfl⟩

set_option maxRecDepth 100000 in
theorem total_some (b o cap n : Nat) (z : Nat → Int) (w : World) (h : RowAt w b o n z) (hz : ∀ k, k ≤ n → -1000000 ≤ sumN z k ∧ sumN z k ≤ 1000000) (hzi : ∀ i, i < n → -1000000 ≤ z i ∧ z i ≤ 1000000) (hn : n ≤ 1000000) :
    Calls Tryd.prog 42 #[.slice (some ⟨b, o, none⟩) n cap] w fun e w' => e = .returned (.int .i64 (sumN z n)) ∧ w' = w := by
  have HR := Hid.mk' h
  have HZ := Hid.mk' hz
  have HZI := Hid.mk' hzi
  clear h hz hzi
  go_enter Tryd.func42, Tryd.ntmps42
  go_wp2_with fail
  go_loopw [3, 8] (fun s i wr => ∃ k : Nat, k ≤ n ∧ s = .int .i64 (sumN z k) ∧ i = .int .i64 k ∧ wr = w) (fun _ i _ => n - (intOf i).toNat)
  case atStart => exact ⟨0, Nat.zero_le _, rfl, rfl, rfl⟩
  case round =>
    obtain ⟨k, hk, rfl, rfl, rfl⟩ := hrel
    rcases Nat.lt_or_ge k n with h1 | h1
    · have hc := HR.out k h1
      have hs1 := HZ.out k hk
      have hs2 := HZ.out (k + 1) h1
      have hs3 := HZI.out k h1
      have HE : Hid (sumN z (k + 1) = sumN z k + z k) := rfl
      have hkn : (k : Int) < (n : Int) := by omega
      obtain ⟨x, hx⟩ : ∃ x, x = z k := ⟨_, rfl⟩
      rw [← hx] at hc hs3 HE
      obtain ⟨s, hs⟩ : ∃ s, s = sumN z k := ⟨_, rfl⟩
      rw [← hs] at hs1 HE ⊢
      clear hx hs
      go_wp2_with fail
      exact ⟨⟨k + 1, h1, by rw [HE.out], by go_num, trivial⟩, by simp [intOf]; omega⟩
    · obtain rfl : k = n := by omega
      go_wp2_with fail
      go_ret
      exact ⟨rfl, rfl⟩

/-- The least and the greatest of the first k + 1. -/
def minTo (z : Nat → Int) : Nat → Int
  | 0 => z 0
  | k + 1 => if z (k + 1) < minTo z k then z (k + 1) else minTo z k
def maxTo (z : Nat → Int) : Nat → Int
  | 0 => z 0
  | k + 1 => if maxTo z k < z (k + 1) then z (k + 1) else maxTo z k
theorem minTo_neg (z : Nat → Int) : ∀ k, minTo z k < 0 ↔ negB z (k + 1) = true
  | 0 => by simp [minTo, negB]
  | k + 1 => by
    have ih := minTo_neg z k
    show (if z (k + 1) < minTo z k then z (k + 1) else minTo z k) < 0 ↔ (negB z (k + 1) || decide (z (k + 1) < 0)) = true
    rw [Bool.or_eq_true, ← ih, decide_eq_true_eq]
    split <;> omega
theorem maxTo_pos (z : Nat → Int) : ∀ k, 0 < maxTo z k ↔ someB z (k + 1) = true
  | 0 => by simp [maxTo, someB]
  | k + 1 => by
    have ih := maxTo_pos z k
    show 0 < (if maxTo z k < z (k + 1) then z (k + 1) else maxTo z k) ↔ (someB z (k + 1) || decide (0 < z (k + 1))) = true
    rw [Bool.or_eq_true, ← ih, decide_eq_true_eq]
    split <;> omega
theorem maxTo_ge (z : Nat → Int) : ∀ k i, i ≤ k → z i ≤ maxTo z k
  | 0, i, h => by obtain rfl : i = 0 := by omega
                  exact Int.le_refl _
  | k + 1, i, h => by
    show z i ≤ (if maxTo z k < z (k + 1) then z (k + 1) else maxTo z k)
    rcases Nat.lt_or_ge i (k + 1) with h' | h'
    · have := maxTo_ge z k i (by omega); split <;> omega
    · obtain rfl : i = k + 1 := by omega
      split <;> omega
theorem maxTo_mem (z : Nat → Int) : ∀ k, ∃ i, i ≤ k ∧ maxTo z k = z i
  | 0 => ⟨0, Nat.le_refl _, rfl⟩
  | k + 1 => by
    obtain ⟨i, hi, he⟩ := maxTo_mem z k
    show ∃ i, i ≤ k + 1 ∧ (if maxTo z k < z (k + 1) then z (k + 1) else maxTo z k) = z i
    split
    · exact ⟨k + 1, Nat.le_refl _, rfl⟩
    · exact ⟨i, by omega, he⟩

theorem listErr_neg {z : Nat → Int} {n k : Nat} (hk : k < n) (h : z k < 0) : listErr z n = 3 := by
  unfold listErr
  rw [if_pos (Or.inl ((negB_iff z n).2 ⟨k, hk, h⟩))]
theorem listErr_none {z : Nat → Int} {n : Nat} (h : someB z n = false) : listErr z n = 3 := by
  unfold listErr
  rw [if_pos (Or.inr h)]
theorem listErr_great {z : Nat → Int} {n : Nat} (hn : negB z n = false) (h : someB z n = true) (hg : 4096 < sumN z n) : listErr z n = 2 := by
  unfold listErr
  rw [if_neg (by rw [hn, h]; simp), if_pos hg]
theorem listErr_none0 {z : Nat → Int} {n : Nat} (hn : negB z n = false) (h : someB z n = true) (hg : ¬ 4096 < sumN z n) : listErr z n = 0 := by
  unfold listErr
  rw [if_neg (by rw [hn, h]; simp), if_neg hg]

theorem listErr_zero (z : Nat → Int) : listErr z 0 = 3 := rfl
theorem errV_pos {k : Nat} (a : Nat → Addr) (h : k ≠ 0) : errV a k = .iface 120 (.pointer (some (a (k - 1)))) := by unfold errV; exact if_neg h
theorem errV_zero (a : Nat → Addr) : errV a 0 = .nilIface := rfl
theorem errV_two (a : Nat → Addr) : errV a 2 = .iface 120 (.pointer (some (a 1))) := rfl
theorem errV_three (a : Nat → Addr) : errV a 3 = .iface 120 (.pointer (some (a 2))) := rfl

theorem weightsErr_le (z : Nat → Int) (n : Nat) : weightsErr z n ≤ 3 := by
  unfold weightsErr listErr
  repeat (split; omega)
  omega
theorem weightsErr_ok {z : Nat → Int} {n : Nat} (h : weightsErr z n = 0) : n ≤ 16 ∧ OkW z n := by
  unfold weightsErr at h
  by_cases h16 : 16 < n
  · rw [if_pos h16] at h; cases h
  · rw [if_neg h16] at h
    exact ⟨by omega, listErr_ok h⟩
end Go.Proofs.YtgopohbombnflaaDoor
