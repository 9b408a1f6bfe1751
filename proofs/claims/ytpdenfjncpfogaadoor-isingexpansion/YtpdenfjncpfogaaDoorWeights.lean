/- Sums, least and greatest ones of lists; which weights are right. -/
import Derived.Test.YtpdenfjncpfogaaDoorInts
namespace Go.Proofs.YtpdenfjncpfogaaDoor
open Go.RowKit

/-- The least and the greatest of the first k + 1. -/
def minTo (z : Nat → Int) : Nat → Int
  | 0 => z 0
  | k + 1 => if z (k + 1) < minTo z k then z (k + 1) else minTo z k
def maxTo (z : Nat → Int) : Nat → Int
  | 0 => z 0
  | k + 1 => if maxTo z k < z (k + 1) then z (k + 1) else maxTo z k
theorem minTo_neg (z : Nat → Int) : ∀ k, minTo z k < 0 ↔ negB z (k + 1) = true
  | 0 => by simp [minTo, negB]
  | k + 1 => by
    have ih := minTo_neg z k
    show (if z (k + 1) < minTo z k then z (k + 1) else minTo z k) < 0 ↔ (negB z (k + 1) || decide (z (k + 1) < 0)) = true
    rw [Bool.or_eq_true, ← ih, decide_eq_true_eq]
    split <;> omega
theorem maxTo_pos (z : Nat → Int) : ∀ k, 0 < maxTo z k ↔ someB z (k + 1) = true
  | 0 => by simp [maxTo, someB]
  | k + 1 => by
    have ih := maxTo_pos z k
    show 0 < (if maxTo z k < z (k + 1) then z (k + 1) else maxTo z k) ↔ (someB z (k + 1) || decide (0 < z (k + 1))) = true
    rw [Bool.or_eq_true, ← ih, decide_eq_true_eq]
    split <;> omega
theorem maxTo_ge (z : Nat → Int) : ∀ k i, i ≤ k → z i ≤ maxTo z k
  | 0, i, h => by obtain rfl : i = 0 := by omega
                  exact Int.le_refl _
  | k + 1, i, h => by
    show z i ≤ (if maxTo z k < z (k + 1) then z (k + 1) else maxTo z k)
    rcases Nat.lt_or_ge i (k + 1) with h' | h'
    · have := maxTo_ge z k i (by omega); split <;> omega
    · obtain rfl : i = k + 1 := by omega
      split <;> omega
theorem maxTo_mem (z : Nat → Int) : ∀ k, ∃ i, i ≤ k ∧ maxTo z k = z i
  | 0 => ⟨0, Nat.le_refl _, rfl⟩
  | k + 1 => by
    obtain ⟨i, hi, he⟩ := maxTo_mem z k
    show ∃ i, i ≤ k + 1 ∧ (if maxTo z k < z (k + 1) then z (k + 1) else maxTo z k) = z i
    split
    · exact ⟨k + 1, Nat.le_refl _, rfl⟩
    · exact ⟨i, by omega, he⟩

set_option maxRecDepth 100000 in
theorem Max_some (b o cap n : Nat) (z : Nat → Int) (w : World) (h : RowAt w b o n z) (h0 : 0 < n) (hn : n ≤ 1000000) :
    Calls Tryd.prog 53 #[.slice (some ⟨b, o, none⟩) n cap] w fun e w' => e = .returned (.int .i64 (maxTo z (n - 1))) ∧ w' = w := by
  have HR := Hid.mk' h
  have hc0 := h 0 h0
  rw [Nat.add_zero] at hc0
  clear h
  go_enter Tryd.func53, Tryd.ntmps53
  go_wp2_with fail
  go_loopw [3, 4] (fun s i wr => ∃ k : Nat, k < n ∧ s = .int .i64 (maxTo z k) ∧ i = .int .i64 ((k : Int) + 1) ∧ wr = w) (fun _ i _ => n - (intOf i).toNat)
  case atStart => exact ⟨0, h0, rfl, rfl, rfl⟩
  case round =>
    obtain ⟨k, hk, rfl, rfl, rfl⟩ := hrel
    rcases Nat.lt_or_ge (k + 1) n with h1 | h1
    · have hc := HR.out (k + 1) h1
      go_wp2_with fail
      exact ⟨⟨k + 1, h1, rfl, by go_num, trivial⟩, by simp [intOf]; omega⟩
    · obtain rfl : k = n - 1 := by omega
      go_wp2_with fail
      go_ret
      exact ⟨rfl, rfl⟩

theorem listErr_neg {z : Nat → Int} {n k : Nat} (hk : k < n) (h : z k < 0) : listErr z n = 3 := by
  unfold listErr
  rw [if_pos (Or.inl ((negB_iff z n).2 ⟨k, hk, h⟩))]
theorem listErr_none {z : Nat → Int} {n : Nat} (h : someB z n = false) : listErr z n = 3 := by
  unfold listErr
  rw [if_pos (Or.inr h)]
theorem listErr_great {z : Nat → Int} {n : Nat} (hn : negB z n = false) (h : someB z n = true) (hg : 4096 < sumN z n) : listErr z n = 2 := by
  unfold listErr
  rw [if_neg (by rw [hn, h]; simp), if_pos hg]
theorem listErr_none0 {z : Nat → Int} {n : Nat} (hn : negB z n = false) (h : someB z n = true) (hg : ¬ 4096 < sumN z n) : listErr z n = 0 := by
  unfold listErr
  rw [if_neg (by rw [hn, h]; simp), if_neg hg]

theorem listErr_zero (z : Nat → Int) : listErr z 0 = 3 := rfl
theorem errV_pos {k : Nat} (a : Nat → Addr) (h : k ≠ 0) : errV a k = .iface 143 (.pointer (some (a (k - 1)))) := by unfold errV; exact if_neg h
theorem errV_zero (a : Nat → Addr) : errV a 0 = .nilIface := rfl
theorem errV_two (a : Nat → Addr) : errV a 2 = .iface 143 (.pointer (some (a 1))) := rfl
theorem errV_three (a : Nat → Addr) : errV a 3 = .iface 143 (.pointer (some (a 2))) := rfl

theorem weightsErr_le (z : Nat → Int) (n : Nat) : weightsErr z n ≤ 3 := by
  unfold weightsErr listErr
  repeat (split; omega)
  omega
theorem weightsErr_ok {z : Nat → Int} {n : Nat} (h : weightsErr z n = 0) : n ≤ 16 ∧ OkW z n := by
  unfold weightsErr at h
  by_cases h16 : 16 < n
  · rw [if_pos h16] at h; cases h
  · rw [if_neg h16] at h
    exact ⟨by omega, listErr_ok h⟩
end Go.Proofs.YtpdenfjncpfogaaDoor
