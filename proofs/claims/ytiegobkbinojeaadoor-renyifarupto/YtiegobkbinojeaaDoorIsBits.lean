/- Bits of numbers that are not below 0, of the kind int. -/
import Derived.WalkKit
import Derived.Laws.BitsAllLaws
namespace Go.Proofs.YtiegobkbinojeaaDoor

theorem i64_low (z : Nat) (h : z < 2 ^ 63) : IntKind.i64.wrap (z : Int) = z := by
  simp [IntKind.wrap, IntKind.bits, IntKind.signed]
  omega
theorem i64_xorN (a b : Nat) (ha : a < 2 ^ 63) (hb : b < 2 ^ 63) : bits .xor .i64 (a : Int) (b : Int) = ((a ^^^ b : Nat) : Int) := by
  show IntKind.i64.wrap ((BitVec.ofInt 64 (a : Int) ^^^ BitVec.ofInt 64 (b : Int)).toNat : Int) = _
  rw [BitVec.toNat_xor, ofInt_u64 a (by omega), ofInt_u64 b (by omega)]
  exact i64_low _ (Nat.xor_lt_two_pow ha hb)
theorem i64_orN (a b : Nat) (ha : a < 2 ^ 63) (hb : b < 2 ^ 63) : bits .or .i64 (a : Int) (b : Int) = ((a ||| b : Nat) : Int) := by
  show IntKind.i64.wrap ((BitVec.ofInt 64 (a : Int) ||| BitVec.ofInt 64 (b : Int)).toNat : Int) = _
  rw [BitVec.toNat_or, ofInt_u64 a (by omega), ofInt_u64 b (by omega)]
  exact i64_low _ (Nat.or_lt_two_pow ha hb)
theorem i64_andN (a b : Nat) (ha : a < 2 ^ 63) (hb : b < 2 ^ 63) : bits .and .i64 (a : Int) (b : Int) = ((a &&& b : Nat) : Int) := by
  show IntKind.i64.wrap ((BitVec.ofInt 64 (a : Int) &&& BitVec.ofInt 64 (b : Int)).toNat : Int) = _
  rw [BitVec.toNat_and, ofInt_u64 a (by omega), ofInt_u64 b (by omega)]
  exact i64_low _ (Nat.and_lt_two_pow a hb)
theorem shr_nat (s a : Nat) : (s : Int) / 2 ^ a = ((s >>> a : Nat) : Int) := by
  rw [Nat.shiftRight_eq_div_pow]
  simp
theorem shr_le (s a : Nat) : s >>> a ≤ s := by
  rw [Nat.shiftRight_eq_div_pow]
  exact Nat.div_le_self _ _
theorem shl_wrap (a : Nat) (h : a < 63) : IntKind.i64.wrap (2 ^ a : Int) = (2 ^ a : Int) := by
  have h1 : (2 ^ a : Int) = ((2 ^ a : Nat) : Int) := by simp
  rw [h1]
  exact i64_low _ (Nat.pow_lt_pow_right (by decide) h)
end Go.Proofs.YtiegobkbinojeaaDoor
