/- The document's Begins and IsPrefix. -/
import Derived.Test.YtcigmihfannmjabDoorHalves
namespace Go.Proofs.YtcigmihfannmjabDoor
open Go.RowKit

/-- Does a text begin another one? -/
def begB (a b : ByteArray) : Bool := decide (a.data.toList <+: b.data.toList)
theorem size_list (a : ByteArray) : a.size = a.data.toList.length := by rw [Array.length_toList]; rfl
theorem beg_extract (a b : ByteArray) : ((b.extract 0 a.size).toList == a.toList) = begB a b := by
  unfold begB
  have e : (b.extract 0 a.size).data.toList = b.data.toList.take a.data.toList.length := by
    rw [ByteArray.data_extract, Array.toList_extract, List.extract_eq_take_drop, size_list]
    simp only [List.drop_zero, Nat.sub_zero]
  rw [ByteArray.toList_eq, ByteArray.toList_eq, e]
  by_cases hp : a.data.toList <+: b.data.toList
  · rw [decide_eq_true hp, beq_iff_eq, ← List.prefix_iff_eq_take.1 hp]
  · rw [decide_eq_false hp, beq_eq_false_iff_ne]
    exact fun he => hp (List.prefix_iff_eq_take.2 he.symm)
theorem beg_long (a b : ByteArray) (h : b.size < a.size) : begB a b = false := by
  unfold begB
  rw [decide_eq_false]
  intro hp
  have := hp.length_le
  rw [size_list, size_list] at h
  omega
theorem ret_bool2 {a b : Bool} (h : a = b) : Ending.returned (.bool a) = .returned (.bool b) := by rw [h]
/-- Does none of n texts begin another one? -/
def Apart (f : Nat → ByteArray) (n : Nat) : Prop := ∀ i k, i < n → k < n → i ≠ k → begB (f i) (f k) = false
end Go.Proofs.YtcigmihfannmjabDoor
