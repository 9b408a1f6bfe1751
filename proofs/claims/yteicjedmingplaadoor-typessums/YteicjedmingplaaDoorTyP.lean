/- The program's types: how many, and all of them. -/
import Derived.Test.YteicjedmingplaaDoorLol
import Derived.Test.YteicjedmingplaaDoorTyMath
import Derived.Test.YteicjedmingplaaDoorLaysC
import Derived.Test.YteicjedmingplaaDoorErrs
namespace Go.Proofs.YteicjedmingplaaDoor
open Go.RowKit

set_option maxRecDepth 100000 in
set_option maxHeartbeats 1000000 in
theorem choose_any (n k : Nat) (w : World) (hn : n < 26) (hk : k ≤ n) : Calls Tryd.prog 29 #[.int .i64 n, .int .i64 k] w fun e w' => e = .returned (.int .i64 (chF n k : Nat)) ∧ w' = w := by
  have HS := Hid.mk' (fun i (hi : i < 26) => chF_small n hn i hi)
  have hnI : (n : Int) < 26 := by omega
  go_enter Tryd.func29, Tryd.ntmps29
  go_wp2_with fail
  go_loop [5, 8] (fun s i => ∃ j : Nat, j ≤ k ∧ i = .int .i64 j ∧ s = .int .i64 (chF n j : Nat)) (fun _ i => k - (intOf i).toNat)
  case atStart => exact ⟨0, Nat.zero_le _, rfl, rfl⟩
  case round =>
    obtain ⟨j, hj, rfl, rfl⟩ := hrel
    have hj0 : (0 : Int) ≤ (j : Int) := by omega
    rcases Nat.lt_or_ge j k with h1 | h1
    · have hjk : (j : Int) < (k : Int) := by omega
      have hkn : (k : Int) ≤ (n : Int) := by omega
      have hs := HS.out j (by omega)
      have HE : Hid (chF n (j + 1) = chF n j * (n - j) / (j + 1)) := rfl
      obtain ⟨x, hx⟩ : ∃ x, x = chF n j := ⟨_, rfl⟩
      rw [← hx] at hs HE ⊢
      clear hx
      obtain ⟨d, hd⟩ : ∃ d, d = n - j := ⟨_, rfl⟩
      have hdI : (n : Int) - (j : Int) = (d : Int) := by omega
      rw [← hd] at HE
      obtain ⟨p, hp⟩ : ∃ p, p = x * d := ⟨_, rfl⟩
      have hpI : (x : Int) * (d : Int) = (p : Int) := by rw [hp]; simp
      have hpb : p ≤ 10000000 * 26 := by rw [hp]; exact Nat.mul_le_mul hs (by omega)
      rw [← hp] at HE
      have hd0 : (d : Int) < 26 := by omega
      have hp0 : (0 : Int) ≤ (p : Int) := by omega
      have hpb2 : (p : Int) ≤ 260000000 := by omega
      have hx0 : (0 : Int) ≤ (x : Int) := by omega
      have hx1 : (x : Int) ≤ 10000000 := by omega
      clear hp hd
      go_wp2_with fail
      refine ⟨⟨j + 1, h1, by go_num, ?_⟩, by simp [intOf]; omega⟩
      rw [HE.out]
      have e1 : ((p / (j + 1) : Nat) : Int) = (p : Int) / ((j : Int) + 1) := by simp
      have e2 : p / (j + 1) ≤ p := Nat.div_le_self _ _
      rw [← e1]
      clear e1
      generalize p / (j + 1) = q at e2 ⊢
      have e3 : wrap64 (q : Int) = (q : Int) := by unfold wrap64; omega
      rw [e3]
    · obtain rfl : j = k := by omega
      have hjk : ¬ ((j : Int) < (j : Int)) := by omega
      go_wp2_with fail
      go_ret
      exact ⟨rfl, rfl⟩
theorem choose_nat (n k : Nat) (N K : Int) (w : World) (hN : N = n) (hK : K = k) (hn : n < 26) (hk : k ≤ n) : Calls Tryd.prog 29 #[.int .i64 N, .int .i64 K] w fun e w' => e = .returned (.int .i64 (chF n k : Nat)) ∧ w' = w := by
  rw [hN, hK]; exact choose_any n k w hn hk
set_option maxRecDepth 100000 in
set_option maxHeartbeats 1000000 in
theorem Count_ok (n k : Nat) (w : World) (hn : n < 21) (hk : k < 6) : Calls Tryd.prog 9 #[.int .i64 n, .int .i64 ((k : Int) + 1)] w fun e w' => e = .returned (.tuple #[.int .i64 (cntT k n : Nat), .nilIface]) ∧ w' = w := by
  obtain ⟨K, hK⟩ : ∃ K : Int, K = (k : Int) + 1 := ⟨_, rfl⟩
  have hc := choose_nat (n + k) k ((n : Int) + K - 1) (K - 1) w (by omega) (by omega) (by omega) (by omega)
  rw [← cntT_chF k hk n hn] at hc
  rw [← hK]
  have hnI : (n : Int) < 21 := by omega
  have hn0 : (0 : Int) ≤ (n : Int) := by omega
  have hK1 : 1 ≤ K := by omega
  have hK6 : K ≤ 6 := by omega
  have HC := Hid.mk' hc
  clear hc hK
  generalize cntT k n = c at *
  go_enter Tryd.func9, Tryd.ntmps9
  go_wp2_with fail
  refine HC.out.mono ?_
  rintro e w1 ⟨rfl, hw1⟩
  rw [hw1]
  clear hw1
  go_wp2_with fail
  go_ret2
  exact ⟨rfl, rfl⟩
set_option maxRecDepth 100000 in
set_option maxHeartbeats 1000000 in
theorem Count_bad (n k : Int) (w : World) {a : Nat → Addr} (he : Errs w a) (h : n < 0 ∨ 20 < n ∨ k < 1 ∨ 6 < k) : Calls Tryd.prog 9 #[.int .i64 n, .int .i64 k] w fun e w' => e = .returned (.tuple #[.int .i64 0, .iface 139 (.pointer (some (a 1)))]) ∧ Below w.heap.size w w' := by
  have c1 := he.c1
  clear he
  go_enter Tryd.func9, Tryd.ntmps9
  by_cases h1 : n < 0
  · clear h
    go_wp2_with fail
    go_region
    all_goals
      go_wp2_with fail
      go_ret2
      exact ⟨rfl, (Below.refl _ _).drew⟩
  · by_cases h2 : 20 < n
    · clear h
      go_wp2_with fail
      go_region
      all_goals
        go_wp2_with fail
        go_ret2
        exact ⟨rfl, (Below.refl _ _).drew⟩
    · by_cases h3 : k < 1
      · clear h
        go_wp2_with fail
        go_region
        all_goals
          go_wp2_with fail
          go_ret2
          exact ⟨rfl, (Below.refl _ _).drew⟩
      · have h4 : 6 < k := by omega
        clear h
        go_wp2_with fail
        go_region
        all_goals
          go_wp2_with fail
          go_ret2
          exact ⟨rfl, (Below.refl _ _).drew⟩
end Go.Proofs.YteicjedmingplaaDoor
