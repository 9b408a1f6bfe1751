/- Two phrases that are not the same. -/
import Derived.Test.YtiocbnjdmceadaaDoorBkRow
import Derived.Laws.StructEq
namespace Go.Proofs.YtiocbnjdmceadaaDoor
open Go.RowKit

set_option maxRecDepth 100000 in
theorem phr_unlike (a a' b b' : Int) (c c' : Bool) (h : ¬ (a = a' ∧ b = b' ∧ c = c')) (w : World) : (binOp BinOp.eql 32 (.agg #[.int .i64 a, .int .u8 b, .bool c]) (.agg #[.int .i64 a', .int .u8 b', .bool c'])).run Tryd.prog w = .ok (.bool false) w := by
  by_cases h1 : a = a'
  · by_cases h2 : b = b'
    · have h3 : ¬ c = c' := fun e => h ⟨h1, h2, e⟩
      have h4 : (c == c') = false := by rw [beq_eq_false_iff_ne]; exact h3
      subst h1 h2
      go_simp
    · have h4 : (b == b') = false := by rw [beq_eq_false_iff_ne]; exact h2
      subst h1
      go_simp
  · have h4 : (a == a') = false := by rw [beq_eq_false_iff_ne]; exact h1
    go_simp
end Go.Proofs.YtiocbnjdmceadaaDoor
