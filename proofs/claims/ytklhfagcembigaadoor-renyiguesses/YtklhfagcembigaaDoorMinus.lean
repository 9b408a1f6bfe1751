/- The document's differences. -/
import Derived.Test.YtklhfagcembigaaDoorPlus
import Derived.Test.YtklhfagcembigaaDoorWideMath
namespace Go.Proofs.YtklhfagcembigaaDoor
open Go.RowKit

/-- What is less than nothing by a part of M. -/
theorem low_minus {M : Nat} (hM : 0 < M) (z : Int) : (0 * (lowD M z : Int) + -lowN M z * (1 : Nat)).tdiv ((Nat.gcd (0 * (lowD M z : Int) + -lowN M z * (1 : Nat)).natAbs (1 * lowD M z) : Nat) : Int) = lowN M (-z) ∧ 1 * lowD M z / Nat.gcd (0 * (lowD M z : Int) + -lowN M z * (1 : Nat)).natAbs (1 * lowD M z) = lowD M (-z) := by
  refine low_same hM (by have := lowD_pos hM z; omega) ?_
  have h1 := low_cross hM z
  rw [Nat.one_mul]
  generalize lowN M z = a at *
  generalize (lowD M z : Int) = c at *
  simp only [Int.zero_mul, Int.zero_add, Int.natCast_one, Int.mul_one]
  rw [Int.neg_mul, h1, Int.neg_mul]
/-- A part of a part: n of M times x of n is x of M. -/
theorem low_times {M n : Nat} (hM : 0 < M) (hn : 0 < n) (x : Int) : (lowN M n * lowN n x).tdiv ((Nat.gcd (lowN M n * lowN n x).natAbs (lowD M n * lowD n x) : Nat) : Int) = lowN M x ∧ lowD M n * lowD n x / Nat.gcd (lowN M n * lowN n x).natAbs (lowD M n * lowD n x) = lowD M x := by
  refine low_same hM (Nat.mul_pos (lowD_pos hM n) (lowD_pos hn x)) ?_
  have h1 := low_cross hM (n : Int)
  have h2 := low_cross hn x
  rw [Int.natCast_mul]
  generalize lowN M n = a at *
  generalize lowN n x = b at *
  generalize (lowD M n : Int) = c at *
  generalize (lowD n x : Int) = e at *
  calc a * b * (M : Int) = (a * (M : Int)) * b := by rw [Int.mul_assoc, Int.mul_comm b, ← Int.mul_assoc]
    _ = (b * (n : Int)) * c := by rw [h1, Int.mul_comm (n : Int) c, Int.mul_assoc, Int.mul_comm c, Int.mul_comm (n : Int) b]
    _ = x * (c * e) := by rw [h2, Int.mul_assoc, Int.mul_comm e c]
theorem low_self {M : Nat} (hM : 0 < M) : lowN M M = 1 ∧ lowD M M = 1 := by
  have h := low_same (M := M) (d := 1) (z := (M : Int)) (n := 1) hM (by decide) (by simp)
  simpa using And.intro h.1.symm h.2.symm
end Go.Proofs.YtklhfagcembigaaDoor
