/- whole.Lowest at any fraction. -/
import Derived.Test.YtiegobkbinojeaaDoorValidWalk
namespace Go.Proofs.YtiegobkbinojeaaDoor
open Go.RowKit

theorem quo_nat30 {a b : Nat} (h : a ≤ 1073741824) : wrap64 ((a : Int) / (b : Int)) = ((a / b : Nat) : Int) := by
  have h0 : (a : Int) / (b : Int) = ((a / b : Nat) : Int) := by simp
  have h1 : a / b ≤ a := Nat.div_le_self _ _
  rw [h0]
  generalize a / b = q at h1
  rw [w64 _ (by omega)]

set_option maxRecDepth 10000 in
set_option maxHeartbeats 1000000 in
theorem lowest_any (n : Int) (d : Nat) (w : World) (h1 : -1073741824 ≤ n) (h2 : n ≤ 1073741824) (hd0 : 1 ≤ d) (hd1 : d ≤ 1073741824) (g : Nat) (hg : g = Nat.gcd n.natAbs d) : Calls Tryd.prog 45 #[.int .i64 n, .int .i64 d] w fun e w' => e = .returned (.agg #[.int .i64 (n.tdiv (g : Int)), .int .i64 ((d / g : Nat) : Int)]) ∧ Below w.heap.size w w' := by
  have hB0 : Below w.heap.size w (w.alloc (.cells #[.int .i64 0, .int .i64 0] 43)) := (Below.refl _ _).alloc (Nat.le_refl _) _
  have hgc := GCD_any n d (w.alloc (.cells #[.int .i64 0, .int .i64 0] 43)) (by omega) (by omega) (by omega) (by omega)
  have hgi : Int.gcd n (d : Int) = g := by rw [hg]; simp [Int.gcd]
  rw [hgi] at hgc
  have hgp : 0 < g := by rw [hg]; exact Nat.gcd_pos_of_pos_right _ hd0
  have hgz : ¬ g = 0 := by omega
  have hgl : g ≤ d := by rw [hg]; exact Nat.gcd_le_right _ (by omega)
  have HB := Hid.mk' hB0
  clear hB0 hgi hg
  go_enter Tryd.func45, Tryd.ntmps45
  go_wp2_with fail
  refine hgc.mono ?_
  clear hgc
  rintro e w1 ⟨rfl, m, rfl⟩
  go_wp2_with fail
  go_region
  go_wp2_with fail
  refine bodyPost_ret (v := .agg #[.int .i64 (n.tdiv (g : Int)), .int .i64 (wrap64 ((d : Int) / (g : Int)))]) (by simp [results, Tryd.results45, go_sem]) rfl ⟨by rw [quo_nat30 hd1], ?_⟩
  exact ((below_drewN HB.out _).setCell (by simp) _).setCell (by simp) _
end Go.Proofs.YtiegobkbinojeaaDoor
