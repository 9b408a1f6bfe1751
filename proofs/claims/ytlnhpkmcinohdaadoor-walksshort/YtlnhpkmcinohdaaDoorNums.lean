/- Whole numbers: Size, GCD, Prime of the program; gcd, IsPrime of the document's answer. -/
import Derived.Test.YtlnhpkmcinohdaaDoorProg
import Derived.WalkKit
import Derived.WalkLawsBesides
import Derived.Below
import Derived.Deep.QuietTactic
import Derived.BigQuiet
import Derived.Outline
namespace Go.Proofs.YtlnhpkmcinohdaaDoor
open Go.RowKit

theorem w64 (n : Int) (h : -9223372036854775808 ≤ n ∧ n ≤ 9223372036854775807) : wrap64 n = n := by unfold wrap64; omega

theorem ret_int {a b : Int} (h : a = b) : Ending.returned (.int .i64 a) = .returned (.int .i64 b) := by rw [h]

theorem gcd_step (a b : Int) : Int.gcd b (a.tmod b) = Int.gcd a b := by
  show Nat.gcd b.natAbs (a.tmod b).natAbs = Nat.gcd a.natAbs b.natAbs
  rw [Int.natAbs_tmod, Nat.gcd_comm a.natAbs, Nat.gcd_rec b.natAbs a.natAbs, Nat.gcd_comm]
theorem tmod_small (a b : Int) (hb : b ≠ 0) : (a.tmod b).natAbs < b.natAbs := by
  rw [Int.natAbs_tmod]; exact Nat.mod_lt _ (by omega)

theorem gcd_nonneg_step (x y : Int) (hx : 0 ≤ x) (_hy : 0 < y) : Int.gcd y (x % y) = Int.gcd x y := by
  have := gcd_step x y
  rwa [Int.tmod_eq_emod_of_nonneg hx] at this

/-- A prime: from 2 on, and nothing from 2 on whose square is no greater divides it. -/
def Pr (n : Nat) : Prop := 2 ≤ n ∧ ∀ d, 2 ≤ d → d * d ≤ n → n % d ≠ 0

theorem Pr_of_end {n d : Nat} (h2 : 2 ≤ n) (hd : ∀ e, 2 ≤ e → e < d → n % e ≠ 0) (hend : n < d * d) : Pr n :=
  ⟨h2, fun e he hen => hd e he (by
    rcases Nat.lt_or_ge e d with h | h
    · exact h
    · have := Nat.mul_le_mul h h
      omega)⟩
theorem not_Pr {n d : Nat} (hd : 2 ≤ d) (hen : d * d ≤ n) (h : n % d = 0) : ¬ Pr n := fun hp => hp.2 d hd hen h
theorem even_no {n e : Nat} (ho : n % 2 ≠ 0) (he : e % 2 = 0) : n % e ≠ 0 := fun h => by
  have h1 : e ∣ n := Nat.dvd_of_mod_eq_zero h
  have h2 : 2 ∣ e := Nat.dvd_of_mod_eq_zero he
  exact ho (Nat.mod_eq_zero_of_dvd (Nat.dvd_trans h2 h1))
theorem sq_le_of_le_div {n d : Nat} (hd : 0 < d) : d ≤ n / d ↔ d * d ≤ n := Nat.le_div_iff_mul_le hd

theorem ret_bool {a b : Bool} (h : a = b) : Ending.returned (.bool a) = .returned (.bool b) := by rw [h]

end Go.Proofs.YtlnhpkmcinohdaaDoor
