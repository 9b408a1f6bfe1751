/- The document's Bits and WordsError; the law's some and strs. -/
import Derived.Test.YtobmngkaoahmiaaDoorWordsP
import Derived.Test.YtobmngkaoahmiaaDoorWeights
namespace Go.Proofs.YtobmngkaoahmiaaDoor
open Go.RowKit

theorem ret_bool2 {a b : Bool} (h : a = b) : Ending.returned (.bool a) = .returned (.bool b) := by rw [h]
theorem ret_nat4 {a b : Nat} (h : b = a) : Ending.returned (.int .i64 (a : Int)) = .returned (.int .i64 (b : Int)) := by rw [h]
theorem bit_at {s : ByteArray} {i : Nat} (h : i < s.size) (hb : bitB s = true) : (s[i]'h) = 48 ∨ (s[i]'h) = 49 := by
  have h1 : (s[i]'h) ∈ s.data.toList := by
    have h2 : i < s.data.size := h
    rw [Array.mem_toList_iff]
    exact Array.getElem_mem h2
  have := List.all_eq_true.1 hb _ h1
  simpa using this
theorem bit_all {s : ByteArray} (h : ∀ i (hi : i < s.size), (s[i]'hi) = 48 ∨ (s[i]'hi) = 49) : bitB s = true := by
  refine List.all_eq_true.2 fun x hx => ?_
  rw [Array.mem_toList_iff] at hx
  obtain ⟨i, hi, rfl⟩ := Array.getElem_of_mem hx
  have := h i hi
  have e : s.data[i] = (s[i]'hi) := rfl
  rw [e]
  simpa using this
set_option maxRecDepth 100000 in
theorem DocBits_any (s : ByteArray) (w : World) (hs : s.size ≤ 9223372036854775807) : Calls Tryd.prog 11 #[.string s] w fun e w' => e = .returned (.bool (bitB s)) ∧ Below w.heap.size w w' := by
  go_enter Tryd.func11, Tryd.ntmps11
  go_wp2_with fail
  go_loopw [3] (fun t wr => ∃ k : Nat, k ≤ s.size ∧ t = .int .i64 k ∧ Hid (Below w.heap.size w wr) ∧ Hid (∀ i (hi : i < s.size), i < k → (s[i]'hi) = 48 ∨ (s[i]'hi) = 49)) (fun t _ => s.size - (intOf t).toNat)
  case atStart => exact ⟨0, Nat.zero_le _, rfl, Below.refl _ _, fun i _ h => by omega⟩
  case round =>
    obtain ⟨k, hk, rfl, HB, HI⟩ := hrel
    have hk0 : (0 : Int) ≤ (k : Int) := by omega
    rcases Nat.lt_or_ge k s.size with h1 | h1
    · have hkI : (k : Int) < (s.size : Int) := by omega
      by_cases hx : (s[k]'h1) = 48 ∨ (s[k]'h1) = 49
      · have HI1 : Hid (∀ i (hi : i < s.size), i < k + 1 → (s[i]'hi) = 48 ∨ (s[i]'hi) = 49) := fun i hi hik => by
          rcases Nat.lt_or_ge i k with h2 | h2
          · exact HI.out i hi h2
          · obtain rfl : i = k := by omega
            exact hx
        rcases hx with hx | hx
        · have hn : ((s[k]'h1).toNat : Int) = 48 := by rw [hx]; rfl
          go_wp2_with fail
          exact ⟨⟨k + 1, h1, by go_num, HB, HI1⟩, by simp [intOf]; omega⟩
        · have hn : ((s[k]'h1).toNat : Int) = 49 := by rw [hx]; rfl
          go_wp2_with fail
          exact ⟨⟨k + 1, h1, by go_num, HB, HI1⟩, by simp [intOf]; omega⟩
      · have HF : Hid (bitB s = false) := by
          show _ = _
          cases hb : bitB s with
          | false => rfl
          | true => exact absurd (bit_at h1 hb) hx
        have hn1 : ¬ (((s[k]'h1).toNat : Int) = 48) := fun h => hx (Or.inl (UInt8.toNat_inj.1 (by show _ = 48; omega)))
        have hn2 : ¬ (((s[k]'h1).toNat : Int) = 49) := fun h => hx (Or.inr (UInt8.toNat_inj.1 (by show _ = 49; omega)))
        have hm1 : (((s[k]'h1).toNat : Int) != 48) = true := by rw [bne_iff_ne]; exact hn1
        have hm2 : (((s[k]'h1).toNat : Int) != 49) = true := by rw [bne_iff_ne]; exact hn2
        clear hx hn1 hn2
        go_wp2_with fail
        go_ret
        exact ⟨ret_bool2 (by rw [HF.out] <;> rfl), HB.out⟩
    · obtain rfl : s.size = k := by omega
      have HT : Hid (bitB s = true) := bit_all fun i hi => HI.out i hi hi
      go_wp2_with fail
      go_ret
      exact ⟨ret_bool2 (by rw [HT.out] <;> rfl), HB.out⟩
end Go.Proofs.YtobmngkaoahmiaaDoor
