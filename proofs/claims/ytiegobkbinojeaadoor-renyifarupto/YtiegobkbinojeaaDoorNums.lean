/- Whole numbers: Size, GCD, Prime of the program; gcd, IsPrime of the document's answer. -/
import Derived.Test.YtiegobkbinojeaaDoorProg
import Derived.WalkKit
import Derived.WalkLawsBesides
import Derived.Below
import Derived.Deep.QuietTactic
import Derived.BigQuiet
import Derived.Outline
namespace Go.Proofs.YtiegobkbinojeaaDoor
open Go.RowKit

theorem w64 (n : Int) (h : -9223372036854775808 ≤ n ∧ n ≤ 9223372036854775807) : wrap64 n = n := by unfold wrap64; omega

theorem ret_int {a b : Int} (h : a = b) : Ending.returned (.int .i64 a) = .returned (.int .i64 b) := by rw [h]

theorem size_any (n : Int) (w : World) (h0 : -4611686018427387904 ≤ n) (h1 : n ≤ 4611686018427387904) :
    Calls Tryd.prog 44 #[.int .i64 n] w fun e w' => e = .returned (.int .i64 (n.natAbs : Int)) ∧ w' = w := by
  by_cases hn : n < 0
  · go_enter Tryd.func44, Tryd.ntmps44
    go_wp2
    go_ret
    exact ⟨ret_int (by omega), rfl⟩
  · go_enter Tryd.func44, Tryd.ntmps44
    go_wp2
    go_ret
    exact ⟨ret_int (by omega), rfl⟩

theorem gcd_step (a b : Int) : Int.gcd b (a.tmod b) = Int.gcd a b := by
  show Nat.gcd b.natAbs (a.tmod b).natAbs = Nat.gcd a.natAbs b.natAbs
  rw [Int.natAbs_tmod, Nat.gcd_comm a.natAbs, Nat.gcd_rec b.natAbs a.natAbs, Nat.gcd_comm]
theorem tmod_small (a b : Int) (hb : b ≠ 0) : (a.tmod b).natAbs < b.natAbs := by
  rw [Int.natAbs_tmod]; exact Nat.mod_lt _ (by omega)

set_option maxHeartbeats 400000 in
theorem GCD_any (a b : Int) (w : World) (ha0 : -4611686018427387904 ≤ a) (ha1 : a ≤ 4611686018427387904) (hb0 : -4611686018427387904 ≤ b) (hb1 : b ≤ 4611686018427387904) :
    Calls Tryd.prog 60 #[.int .i64 a, .int .i64 b] w fun e w' => e = .returned (.int .i64 (Int.gcd a b : Int)) ∧ ∃ m, w' = w.drewN m := by
  generalize hg : Int.gcd a b = g
  have HG : Hid (Int.gcd a b = g) := hg
  clear hg
  go_enter Tryd.func60, Tryd.ntmps60
  go_wp2_with fail
  go_loopw [0, 1] (fun s t wr => ∃ (x y : Int) (m : Nat), s = .int .i64 x ∧ t = .int .i64 y ∧ Hid (Int.gcd x y = g) ∧ -4611686018427387904 ≤ x ∧ x ≤ 4611686018427387904 ∧ -4611686018427387904 ≤ y ∧ y ≤ 4611686018427387904 ∧ wr = w.drewN m) (fun _ t _ => (intOf t).natAbs)
  case atStart => exact ⟨a, b, 0, rfl, rfl, HG, ha0, ha1, hb0, hb1, rfl⟩
  case round =>
    obtain ⟨x, y, m, rfl, rfl, HX, hx0, hx1, hy0, hy1, rfl⟩ := hrel
    clear ha0 ha1 hb0 hb1 HG
    by_cases hy : y = 0
    · have hyb : (y != 0) = false := by simp [hy]
      have hgx : Hid (g = x.natAbs) := by
        have := HX.out
        rw [hy, Int.gcd_zero_right] at this
        exact this.symm
      clear hy HX
      go_wp2_with (go_at_call 44; refine (size_any _ _ (by omega) (by omega)).mono ?_; rintro e w' ⟨rfl, rfl⟩)
      go_ret
      exact ⟨ret_int (by rw [hgx.out]), m, rfl⟩
    · have hyb : (y != 0) = true := by simp [hy]
      have hyb' : (y == 0) = false := by simp [hy]
      have hyn : ¬ y = 0 := hy
      go_wp2_with fail
      go_quiet (fail)
      go_wp2_with fail
      have hs := tmod_small x y hyn
      exact ⟨⟨y, x.tmod y, m + nq, rfl, rfl, (gcd_step x y).trans HX.out, hy0, hy1, by omega, by omega, by simp⟩, by simp only [intOf]; exact hs⟩

theorem gcd_nonneg_step (x y : Int) (hx : 0 ≤ x) (_hy : 0 < y) : Int.gcd y (x % y) = Int.gcd x y := by
  have := gcd_step x y
  rwa [Int.tmod_eq_emod_of_nonneg hx] at this

/-- A prime: from 2 on, and nothing from 2 on whose square is no greater divides it. -/
def Pr (n : Nat) : Prop := 2 ≤ n ∧ ∀ d, 2 ≤ d → d * d ≤ n → n % d ≠ 0

theorem Pr_of_end {n d : Nat} (h2 : 2 ≤ n) (hd : ∀ e, 2 ≤ e → e < d → n % e ≠ 0) (hend : n < d * d) : Pr n :=
  ⟨h2, fun e he hen => hd e he (by
    rcases Nat.lt_or_ge e d with h | h
    · exact h
    · have := Nat.mul_le_mul h h
      omega)⟩
theorem not_Pr {n d : Nat} (hd : 2 ≤ d) (hen : d * d ≤ n) (h : n % d = 0) : ¬ Pr n := fun hp => hp.2 d hd hen h
theorem even_no {n e : Nat} (ho : n % 2 ≠ 0) (he : e % 2 = 0) : n % e ≠ 0 := fun h => by
  have h1 : e ∣ n := Nat.dvd_of_mod_eq_zero h
  have h2 : 2 ∣ e := Nat.dvd_of_mod_eq_zero he
  exact ho (Nat.mod_eq_zero_of_dvd (Nat.dvd_trans h2 h1))
theorem sq_le_of_le_div {n d : Nat} (hd : 0 < d) : d ≤ n / d ↔ d * d ≤ n := Nat.le_div_iff_mul_le hd

theorem ret_bool {a b : Bool} (h : a = b) : Ending.returned (.bool a) = .returned (.bool b) := by rw [h]

end Go.Proofs.YtiegobkbinojeaaDoor
