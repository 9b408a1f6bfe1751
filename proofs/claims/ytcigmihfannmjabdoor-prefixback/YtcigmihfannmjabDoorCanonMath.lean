/- Words of lengths, one behind the other in the order of the lengths. Plain lists. -/
import Derived.Test.YtcigmihfannmjabDoorBitsMath
import Derived.Test.YtcigmihfannmjabDoorSortOrd
namespace Go.Proofs.YtcigmihfannmjabDoor

def shareOf (z : Nat → Int) (i : Nat) : Nat := 2 ^ (40 - (z i).toNat)
/-- What the first k words take. -/
def takenN (z : Nat → Int) (os : List Nat) : Nat → Nat
  | 0 => 0
  | k + 1 => takenN z os k + shareOf z (os.getD k 0)
def wordAt (z : Nat → Int) (os : List Nat) (k : Nat) : List UInt8 := bitsL (takenN z os k / shareOf z (os.getD k 0)) (z (os.getD k 0)).toNat
/-- The words that the first k places of the order have. -/
def wordsN (z : Nat → Int) (os : List Nat) : Nat → Nat → List UInt8
  | 0, _ => []
  | k + 1, i => if i = os.getD k 0 then wordAt z os k else wordsN z os k i
theorem takenN_sum (z : Nat → Int) (os : List Nat) : ∀ k, k ≤ os.length → takenN z os k = ((os.take k).map (shareOf z)).sum
  | 0, _ => by simp [takenN]
  | k + 1, h => by
    rw [takenN, takenN_sum z os k (by omega), List.take_succ_eq_append_getElem (by omega), List.map_append, List.sum_append]
    simp [List.getD, show k < os.length by omega]
theorem takenN_mono (z : Nat → Int) (os : List Nat) {k m : Nat} (h : k ≤ m) : takenN z os k ≤ takenN z os m := by
  induction m with
  | zero => obtain rfl : k = 0 := by omega
            exact Nat.le_refl _
  | succ m ih =>
    rcases Nat.lt_or_ge k (m + 1) with h' | h'
    · have := ih (by omega); rw [takenN]; omega
    · obtain rfl : k = m + 1 := by omega
      exact Nat.le_refl _
theorem ordL_perm {z : Nat → Int} {n : Nat} (hz : ∀ i, i < n → 1 ≤ z i ∧ z i ≤ 40) : (ordL z n 40).Perm (List.range n) :=
  (List.perm_ext_iff_of_nodup (ordL_nodup 40) List.nodup_range).2 (fun k => by
    rw [ordL_mem, List.mem_range]
    exact ⟨fun h => h.1, fun h => ⟨h, (hz k h).1, (hz k h).2⟩⟩)
theorem ordL_len {z : Nat → Int} {n : Nat} (hz : ∀ i, i < n → 1 ≤ z i ∧ z i ≤ 40) : (ordL z n 40).length = n := by rw [(ordL_perm hz).length_eq, List.length_range]
theorem perm_sum {l r : List Nat} (h : l.Perm r) : l.sum = r.sum := by
  induction h with
  | nil => rfl
  | cons x _ ih => simp [ih]
  | swap x y l => simp; omega
  | trans _ _ h1 h2 => exact h1.trans h2
theorem takenN_all {z : Nat → Int} {n : Nat} (hz : ∀ i, i < n → 1 ≤ z i ∧ z i ≤ 40) : takenN z (ordL z n 40) n = ((List.range n).map (shareOf z)).sum := by
  have hl := ordL_len hz
  rw [takenN_sum z _ n (by omega), List.take_of_length_le (by omega)]
  exact perm_sum ((ordL_perm hz).map _)
/-- The number of a word has as many digits as the word is long. -/
theorem word_fits {z : Nat → Int} {os : List Nat} {k x : Nat} (hx : z (os.getD k 0) = (x : Int)) (hx40 : x ≤ 40) (ht : takenN z os (k + 1) ≤ 1099511627776) : takenN z os k / 2 ^ (40 - x) < 2 ^ x := by
  rw [takenN, shareOf, hx] at ht
  rw [Nat.div_lt_iff_lt_mul (Nat.two_pow_pos _), ← Nat.pow_add, show x + (40 - x) = 40 by omega]
  have := Nat.two_pow_pos (40 - x)
  have e : (x : Int).toNat = x := rfl
  rw [e] at ht
  omega
theorem ordL_at {z : Nat → Int} {n k : Nat} (hz : ∀ i, i < n → 1 ≤ z i ∧ z i ≤ 40) (hk : k < n) : (ordL z n 40).getD k 0 < n := by
  have hl := ordL_len hz
  have hm : (ordL z n 40).getD k 0 ∈ ordL z n 40 := by
    rw [List.getD_eq_getElem?_getD, List.getElem?_eq_getElem (by omega)]
    simp
  exact (ordL_mem.1 hm).1
end Go.Proofs.YtcigmihfannmjabDoor
