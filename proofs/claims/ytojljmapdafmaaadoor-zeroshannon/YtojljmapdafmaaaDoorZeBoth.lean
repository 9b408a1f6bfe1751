/- zero.both: two at once. -/
import Derived.Test.YtojljmapdafmaaaDoorZeJoin
import Derived.Test.YtojljmapdafmaaaDoorZeSame
namespace Go.Proofs.YtojljmapdafmaaaDoor
open Go.RowKit

/-- Are two pairs, as numbers, joined at both places (or the same)? -/
def bothJ (fA fB : Nat → Nat) (n i k : Nat) : Bool := (fA (i / n)).testBit (k / n) && (fB (i % n)).testBit (k % n)

set_option maxRecDepth 100000 in
set_option maxHeartbeats 4000000 in
theorem bothF_any (fA fB : Nat → Nat) (B5 Bb B6 g1 g2 n1 n2 i k : Nat) (W : World) (hn : n1 * n2 ≤ 16) (hik : i < k) (hk : k < n1 * n2)
    (c5 : W.cell? ⟨B5, 0, none⟩ = some (.slice (some ⟨g1, 0, none⟩) n1 n1)) (cb : W.cell? ⟨Bb, 0, none⟩ = some (.int .i64 (n2 : Nat))) (c6 : W.cell? ⟨B6, 0, none⟩ = some (.slice (some ⟨g2, 0, none⟩) n2 n2))
    (r1 : ∀ v, v < n1 → W.cell? ⟨g1, v, none⟩ = some (.int .u64 (fA v : Nat))) (r2 : ∀ v, v < n2 → W.cell? ⟨g2, v, none⟩ = some (.int .u64 (fB v : Nat))) (hA : ∀ v, v < n1 → fA v < 18446744073709551616) (hB : ∀ v, v < n2 → fB v < 18446744073709551616) :
    Calls Tryd.prog 48 (#[.int .i64 (i : Nat), .int .i64 (k : Nat)] ++ #[.pointer (some ⟨B5, 0, none⟩), .pointer (some ⟨Bb, 0, none⟩), .pointer (some ⟨B6, 0, none⟩)]) W fun e W' => e = .returned (.bool (bothJ fA fB n2 i k)) ∧ Below W.heap.size W W' := by
  have hn2 : 0 < n2 := by
    rcases Nat.eq_zero_or_pos n2 with h | h
    · rw [h, Nat.mul_zero] at hk; omega
    · exact h
  have hi1 : i / n2 < n1 := (Nat.div_lt_iff_lt_mul hn2).2 (by omega)
  have hk1 : k / n2 < n1 := (Nat.div_lt_iff_lt_mul hn2).2 hk
  have hi2 : i % n2 < n2 := Nat.mod_lt _ hn2
  have hk2 : k % n2 < n2 := Nat.mod_lt _ hn2
  have hn1 : n1 ≤ 16 := Nat.le_trans (Nat.le_mul_of_pos_right _ hn2) hn
  have hn2' : n2 ≤ 16 := by
    have h1 : 0 < n1 := Nat.lt_of_le_of_lt (Nat.zero_le _) hi1
    exact Nat.le_trans (Nat.le_mul_of_pos_left _ h1) hn
  have x1 := r1 _ hi1
  have x2 := r2 _ hi2
  have HH1 : Hid (∀ W, Calls Tryd.prog 49 #[.int .u64 (fA (i / n2) : Nat), .int .i64 ((k / n2 : Nat) : Int)] W fun e w' => e = .returned (.bool ((fA (i / n2)).testBit (k / n2))) ∧ w' = W) := fun W => has_any _ _ (hA _ hi1) (Nat.lt_of_lt_of_le hk1 (by omega)) W
  have HH2 : Hid (∀ W, Calls Tryd.prog 49 #[.int .u64 (fB (i % n2) : Nat), .int .i64 ((k % n2 : Nat) : Int)] W fun e w' => e = .returned (.bool ((fB (i % n2)).testBit (k % n2))) ∧ w' = W) := fun W => has_any _ _ (hB _ hi2) (Nat.lt_of_lt_of_le hk2 (by omega)) W
  have HJ : Hid (bothJ fA fB n2 i k = ((fA (i / n2)).testBit (k / n2) && (fB (i % n2)).testBit (k % n2))) := rfl
  have q1 : (i : Int).tdiv (n2 : Int) = ((i / n2 : Nat) : Int) := by rw [Int.tdiv_eq_ediv_of_nonneg (by omega)]; simp
  have q2 : (k : Int).tdiv (n2 : Int) = ((k / n2 : Nat) : Int) := by rw [Int.tdiv_eq_ediv_of_nonneg (by omega)]; simp
  have q3 : (i : Int).tmod (n2 : Int) = ((i % n2 : Nat) : Int) := by rw [Int.tmod_eq_emod_of_nonneg (by omega)]; simp
  have q4 : (k : Int).tmod (n2 : Int) = ((k % n2 : Nat) : Int) := by rw [Int.tmod_eq_emod_of_nonneg (by omega)]; simp
  have hz : ¬ n2 = 0 := by omega
  clear r1 r2 hA hB hn2
  generalize fA (i / n2) = X at *
  generalize fB (i % n2) = Y at *
  generalize X.testBit (k / n2) = b1 at *
  generalize Y.testBit (k % n2) = b2 at *
  generalize i / n2 = I1 at *
  generalize k / n2 = K1 at *
  generalize i % n2 = I2 at *
  generalize k % n2 = K2 at *
  have w1 : IntKind.i64.wrap (I1 : Int) = (I1 : Int) := by simp only [IntKind.wrap_i64]; omega
  have w2 : IntKind.i64.wrap (K1 : Int) = (K1 : Int) := by simp only [IntKind.wrap_i64]; omega
  have p1 : (0 : Int) ≤ (I1 : Int) := by omega
  have p2 : (I1 : Int) < (n1 : Int) := by omega
  have p3 : (0 : Int) ≤ (I2 : Int) := by omega
  have p4 : (I2 : Int) < (n2 : Int) := by omega
  have p5 : (n1 : Int) ≤ 16 := by omega
  have p6 : (n2 : Int) ≤ 16 := by omega
  clear hi1 hi2 hk1 hk2
  rw [HJ.out]
  cases b1
  · go_enter Tryd.func48, Tryd.ntmps48
    go_wp2_with fail
    go_quiet (first | (go_at_call 49; exact Calls.quiet_of_same (HH1.out _)) | (go_at_call 49; exact Calls.quiet_of_same (HH2.out _)))
    go_wp2_with fail
    go_ret
    exact ⟨rfl, below_drewN (Below.refl _ _) _⟩
  · go_enter Tryd.func48, Tryd.ntmps48
    go_wp2_with fail
    go_quiet (first | (go_at_call 49; exact Calls.quiet_of_same (HH1.out _)) | (go_at_call 49; exact Calls.quiet_of_same (HH2.out _)))
    go_wp2_with fail
    go_ret
    exact ⟨rfl, below_drewN (Below.refl _ _) _⟩
end Go.Proofs.YtojljmapdafmaaaDoor
