/- The document's Begins and IsPrefix. -/
import Derived.Test.YtcigmihfannmjaaGreatDoorHalves
namespace Go.Proofs.YtcigmihfannmjaaGreatDoor
open Go.RowKit

/-- Does a text begin another one? -/
def begB (a b : ByteArray) : Bool := decide (a.data.toList <+: b.data.toList)
theorem size_list (a : ByteArray) : a.size = a.data.toList.length := by rw [Array.length_toList]; rfl
theorem beg_extract (a b : ByteArray) : ((b.extract 0 a.size).toList == a.toList) = begB a b := by
  unfold begB
  have e : (b.extract 0 a.size).data.toList = b.data.toList.take a.data.toList.length := by
    rw [ByteArray.data_extract, Array.toList_extract, List.extract_eq_take_drop, size_list]
    simp only [List.drop_zero, Nat.sub_zero]
  rw [ByteArray.toList_eq, ByteArray.toList_eq, e]
  by_cases hp : a.data.toList <+: b.data.toList
  · rw [decide_eq_true hp, beq_iff_eq, ← List.prefix_iff_eq_take.1 hp]
  · rw [decide_eq_false hp, beq_eq_false_iff_ne]
    exact fun he => hp (List.prefix_iff_eq_take.2 he.symm)
theorem beg_long (a b : ByteArray) (h : b.size < a.size) : begB a b = false := by
  unfold begB
  rw [decide_eq_false]
  intro hp
  have := hp.length_le
  rw [size_list, size_list] at h
  omega
theorem ret_bool2 {a b : Bool} (h : a = b) : Ending.returned (.bool a) = .returned (.bool b) := by rw [h]
set_option maxRecDepth 100000 in
theorem Begins_any (a b : ByteArray) (w : World) : Calls Tryz.prog 23 #[.string a, .string b] w fun e w' => e = .returned (.bool (begB a b)) ∧ w' = w := by
  by_cases h : a.size ≤ b.size
  · have hI : (a.size : Int) ≤ (b.size : Int) := by omega
    have HE := Hid.mk' (beg_extract a b)
    go_enter Tryz.func23, Tryz.ntmps23
    go_wp2_with fail
    go_ret
    exact ⟨ret_bool2 HE.out, rfl⟩
  · have hI : (b.size : Int) < (a.size : Int) := by omega
    rw [beg_long a b (by omega)]
    go_enter Tryz.func23, Tryz.ntmps23
    go_wp2_with fail
    go_ret
    exact ⟨rfl, rfl⟩
/-- Does none of n texts begin another one? -/
def Apart (f : Nat → ByteArray) (n : Nat) : Prop := ∀ i k, i < n → k < n → i ≠ k → begB (f i) (f k) = false
set_option maxRecDepth 100000 in
set_option maxHeartbeats 1000000 in
theorem IsPrefix_any (ad : Option Addr) (cap n : Nat) (f : Nat → ByteArray) (r : Bool) (w : World) (hr : r = true ↔ Apart f n) (hn : n ≤ 1000000) (h : ∀ i, i < n → ∃ b o, ad = some ⟨b, o, none⟩ ∧ w.cell? ⟨b, o + i, none⟩ = some (.string (f i))) :
    Calls Tryz.prog 11 #[.slice ad n cap] w fun e w' => e = .returned (.bool r) ∧ Below w.heap.size w w' := by
  have HR : Hid (∀ W, Below w.heap.size w W → ∀ i, i < n → ∃ b o, ad = some ⟨b, o, none⟩ ∧ W.cell? ⟨b, o + i, none⟩ = some (.string (f i))) := fun W hb i hi => by
    obtain ⟨b, o, h1, h2⟩ := h i hi
    exact ⟨b, o, h1, by rw [hb.cell (cell_lt h2)]; exact h2⟩
  have HP := Hid.mk' hr
  clear h hr
  go_enter Tryz.func11, Tryz.ntmps11
  go_wp2_with fail
  go_loopw [3] (fun t wr => ∃ i : Nat, i ≤ n ∧ t = .int .i64 i ∧ Hid (Below w.heap.size w wr) ∧ Hid (∀ i' k, i' < i → k < n → i' ≠ k → begB (f i') (f k) = false)) (fun t _ => n - (intOf t).toNat)
  case atStart => exact ⟨0, Nat.zero_le _, rfl, Below.refl _ _, fun i' k h => by omega⟩
  case round =>
    obtain ⟨i, hi, rfl, HB, HI⟩ := hrel
    rcases Nat.lt_or_ge i n with h1 | h1
    · have hiI : (i : Int) < (n : Int) := by omega
      have hi0 : (0 : Int) ≤ (i : Int) := by omega
      go_wp2_with fail
      go_loopw [4] (fun t wr => ∃ k : Nat, k ≤ n ∧ t = .int .i64 k ∧ Hid (Below w.heap.size w wr) ∧ Hid (∀ k', k' < k → i ≠ k' → begB (f i) (f k') = false)) (fun t _ => n - (intOf t).toNat)
      case atStart => exact ⟨0, Nat.zero_le _, rfl, HB, fun k' h => by omega⟩
      case round =>
        clear HB
        obtain ⟨k, hk, rfl, HB, HK⟩ := hrel
        rcases Nat.lt_or_ge k n with h2 | h2
        · have hkI : (k : Int) < (n : Int) := by omega
          have hk0 : (0 : Int) ≤ (k : Int) := by omega
          obtain ⟨b, o, hbo, y0⟩ := HR.out wr HB.out i h1
          obtain ⟨b', o', hbo', y1⟩ := HR.out wr HB.out k h2
          subst hbo
          simp only [Option.some.injEq, Addr.mk.injEq, and_true] at hbo'
          obtain ⟨rfl, rfl⟩ := hbo'
          have HF : Hid (i ≠ k → begB (f i) (f k) = true → r = false) := fun hne hb => by
            cases hrr : r with
            | false => rfl
            | true => have := HP.out.1 hrr i k h1 h2 hne; rw [this] at hb; cases hb
          have HN : Hid ((i ≠ k → begB (f i) (f k) = false) → ∀ k', k' < k + 1 → i ≠ k' → begB (f i) (f k') = false) := fun hh k' hk' hne => by
            rcases Nat.lt_or_ge k' k with h3 | h3
            · exact HK.out k' h3 hne
            · obtain rfl : k' = k := by omega
              exact hh hne
          have HBG := Hid.mk' (fun W => Begins_any (f i) (f k) W)
          by_cases hik : i = k
          · have hb : ((i : Int) != (k : Int)) = false := by rw [hik]; simp
            have hNN := HN.out (fun h => absurd hik h)
            have HNN := Hid.mk' hNN
            clear hNN hik
            generalize f i = x at *
            generalize f k = y at *
            go_wp2_with fail
            go_quiet (fail)
            go_wp2_with fail
            exact ⟨⟨k + 1, h2, by go_num, below_drewN HB.out _, HNN⟩, by simp [intOf]; omega⟩
          · have hb : ((i : Int) != (k : Int)) = true := by rw [bne_iff_ne]; omega
            cases hbg : begB (f i) (f k) with
            | true =>
              have HRF := Hid.mk' (HF.out hik hbg)
              rw [hbg] at HBG
              clear hik HF HN hbg
              generalize f i = x at *
              generalize f k = y at *
              go_wp2_with fail
              go_quiet ((go_at_call 23; exact Calls.quiet_of_same (HBG.out _)))
              go_wp2_with fail
              go_ret
              exact ⟨by rw [HRF.out]; rfl, below_drewN HB.out _⟩
            | false =>
              have HNN := Hid.mk' (HN.out (fun _ => hbg))
              rw [hbg] at HBG
              clear hik HF HN hbg
              generalize f i = x at *
              generalize f k = y at *
              go_wp2_with fail
              go_quiet ((go_at_call 23; exact Calls.quiet_of_same (HBG.out _)))
              go_wp2_with fail
              exact ⟨⟨k + 1, h2, by go_num, below_drewN HB.out _, HNN⟩, by simp [intOf]; omega⟩
        · obtain rfl : n = k := by omega
          have HNI : Hid (∀ i' k, i' < i + 1 → k < n → i' ≠ k → begB (f i') (f k) = false) := fun i' k hi' hk' hne => by
            rcases Nat.lt_or_ge i' i with h3 | h3
            · exact HI.out i' k h3 hk' hne
            · obtain rfl : i' = i := by omega
              exact HK.out k hk' hne
          go_wp2_with fail
          exact ⟨⟨i + 1, h1, by go_num, HB, HNI⟩, by simp [intOf]; omega⟩
    · obtain rfl : n = i := by omega
      have HRT : Hid (r = true) := HP.out.2 HI.out
      go_wp2_with fail
      go_ret
      exact ⟨by rw [HRT.out]; rfl, HB.out⟩
end Go.Proofs.YtcigmihfannmjaaGreatDoor
