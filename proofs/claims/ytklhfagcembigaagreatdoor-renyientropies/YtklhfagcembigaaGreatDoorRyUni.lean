/- Families of functions: the program's together and Universal. -/
import Derived.Test.YtklhfagcembigaaGreatDoorRyFam
import Derived.Test.YtklhfagcembigaaGreatDoorValidWalk
namespace Go.Proofs.YtklhfagcembigaaGreatDoor
open Go.RowKit

theorem below_drewR {w W : World} {n : Nat} (h : Below n w W) : ∀ k, Below n w (W.drewN k)
  | 0 => h
  | k + 1 => (below_drewR h k).drew
/-- By how many functions two things go to one value. -/
def togN (zs : Nat → Nat → Int) (x y : Nat) : Nat → Nat
  | 0 => 0
  | n + 1 => togN zs x y n + if zs n x = zs n y then 1 else 0
theorem togN_le (zs : Nat → Nat → Int) (x y : Nat) : ∀ n, togN zs x y n ≤ n
  | 0 => Nat.le_refl _
  | n + 1 => by
    have := togN_le zs x y n
    show togN zs x y n + (if zs n x = zs n y then 1 else 0) ≤ n + 1
    split <;> omega
theorem togN_sym (zs : Nat → Nat → Int) (x y : Nat) : ∀ n, togN zs x y n = togN zs y x n
  | 0 => rfl
  | n + 1 => by
    show togN zs x y n + (if zs n x = zs n y then 1 else 0) = togN zs y x n + (if zs n y = zs n x then 1 else 0)
    rw [togN_sym zs x y n]
    by_cases h : zs n x = zs n y
    · rw [if_pos h, if_pos h.symm]
    · rw [if_neg h, if_neg (fun h' => h h'.symm)]
/-- Do two things go to one value too often? -/
def tooB (M : Int) (R : Nat) (zs : Nat → Nat → Int) (x y : Nat) : Bool := decide ((R : Int) < (togN zs x y R : Int) * M)
def uniB (M : Int) (R n : Nat) (zs : Nat → Nat → Int) : Bool := !anyR (fun x => anyR (fun y => tooB M R zs x y) x) n
theorem prod_small {t : Nat} {M : Int} (ht : t ≤ 1000) (h1 : 1 ≤ M) (h2 : M ≤ 16) : IntKind.i64.wrap ((t : Int) * M) = (t : Int) * M := by
  have h3 : 0 ≤ (t : Int) * M := Int.mul_nonneg (by omega) (by omega)
  have h4 : (t : Int) * M ≤ 1000 * 16 := Int.mul_le_mul (by omega) h2 (by omega) (by omega)
  rw [IntKind.wrap_i64]
  generalize (t : Int) * M = x at *
  omega

end Go.Proofs.YtklhfagcembigaaGreatDoor
