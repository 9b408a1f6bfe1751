/- Elias' words: plain lists. -/
import Derived.Test.YtgfejijaipggeaaDoorBitsMath
namespace Go.Proofs.YtgfejijaipggeaaDoor

/-- How many digits a number has to the base 2. -/
def nd (n : Nat) : Nat := Nat.log2 n + 1
theorem nd_pos (n : Nat) : 1 ≤ nd n := Nat.succ_le_succ (Nat.zero_le _)
theorem nd_lt (n : Nat) : n < 2 ^ nd n := Nat.lt_log2_self
theorem nd_le {n : Nat} (h : 1 ≤ n) : 2 ^ (nd n - 1) ≤ n := Nat.log2_self_le (by omega)
theorem nd_is {n k : Nat} (h0 : 1 ≤ n) (hk : 1 ≤ k) (h1 : n < 2 ^ k) (h2 : k = 1 ∨ 2 ^ (k - 1) ≤ n) : k = nd n := by
  have a1 := nd_lt n
  have a2 := nd_le h0
  have a3 := nd_pos n
  have b2 : 2 ^ (k - 1) ≤ n := by
    rcases h2 with rfl | h2
    · exact h0
    · exact h2
  rcases Nat.lt_trichotomy k (nd n) with h | h | h
  · have : 2 ^ k ≤ 2 ^ (nd n - 1) := Nat.pow_le_pow_right (by decide) (by omega)
    omega
  · exact h
  · have : 2 ^ nd n ≤ 2 ^ (k - 1) := Nat.pow_le_pow_right (by decide) (by omega)
    omega
theorem nd_small {n d : Nat} (h0 : 1 ≤ n) (h : n < 2 ^ d) : nd n ≤ d := by
  have a2 := nd_le h0
  refine Classical.byContradiction fun hn => ?_
  have : 2 ^ d ≤ 2 ^ (nd n - 1) := Nat.pow_le_pow_right (by decide) (by omega)
  omega
theorem nd_half {n : Nat} (h : 2 ≤ n) : nd n = nd (n / 2) + 1 := by
  have h1 : 1 ≤ n / 2 := by omega
  have a1 := nd_lt (n / 2)
  have a2 := nd_le h1
  have a3 := nd_pos (n / 2)
  refine (nd_is (by omega) (by omega) ?_ (Or.inr ?_)).symm
  · rw [Nat.pow_succ]; omega
  · rw [show nd (n / 2) + 1 - 1 = (nd (n / 2) - 1) + 1 by omega, Nat.pow_succ]; omega
theorem nd_one : nd 1 = 1 := by decide
theorem nd_less {n : Nat} (h : 2 ≤ n) : 1 ≤ nd n - 1 ∧ nd n - 1 < n := by
  have a2 := nd_le (n := n) (by omega)
  have h3 : 2 ≤ nd n := by
    refine Classical.byContradiction fun hn => ?_
    have a1 := nd_lt n
    have : 2 ^ nd n ≤ 2 ^ 1 := Nat.pow_le_pow_right (by decide) (by omega)
    omega
  have h4 : nd n - 1 < 2 ^ (nd n - 1) := Nat.lt_two_pow_self
  omega
/-- The digits, and the words. -/
def binL (n : Nat) : List UInt8 := bitsL n (nd n)
theorem binL_length (n : Nat) : (binL n).length = nd n := bitsL_length n (nd n)
theorem binL_half {n : Nat} (h : 2 ≤ n) : binL n = binL (n / 2) ++ [UInt8.ofNat (48 + n % 2)] := by
  unfold binL
  rw [nd_half h, bitsL]
def gamL (n : Nat) : List UInt8 := List.replicate (nd n - 1) 48 ++ binL n
def delL (n : Nat) : List UInt8 := gamL (nd n) ++ bitsL n (nd n - 1)
def omL : Nat → Nat → List UInt8 → List UInt8
  | 0, _, acc => acc
  | f + 1, n, acc => if n ≤ 1 then acc else omL f (nd n - 1) (binL n ++ acc)
theorem omL_end {f n : Nat} {acc : List UInt8} (h : n ≤ 1) : omL f n acc = acc := by
  cases f with
  | zero => rfl
  | succ f => show (if n ≤ 1 then acc else _) = acc; rw [if_pos h]
theorem omL_step {f n : Nat} {acc : List UInt8} (h : ¬ n ≤ 1) : omL (f + 1) n acc = omL f (nd n - 1) (binL n ++ acc) := if_neg h
def ommL (n : Nat) : List UInt8 := omL n n [48]
theorem bitsL_tail {n k : Nat} (h : 1 ≤ k) : (bitsL n k).drop 1 = bitsL n (k - 1) := by
  obtain ⟨j, rfl⟩ : ∃ j, k = j + 1 := ⟨k - 1, by omega⟩
  rw [bitsL_front]
  rfl
/-- Texts of lists. -/
def txt (l : List UInt8) : ByteArray := ⟨l.toArray⟩
theorem txt_size (l : List UInt8) : (txt l).size = l.length := by simp [txt, ByteArray.size]
theorem txt_join (a b : List UInt8) : txt a ++ txt b = txt (a ++ b) := by
  unfold txt
  apply ByteArray.ext
  simp
theorem binL_small {n : Nat} (h0 : 1 ≤ n) (h : n ≤ 1000000000) : nd n ≤ 30 := nd_small h0 (by omega)
end Go.Proofs.YtgfejijaipggeaaDoor
