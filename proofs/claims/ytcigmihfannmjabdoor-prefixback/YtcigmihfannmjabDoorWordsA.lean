/- prefix.apart and prefix.Prefix. -/
import Derived.Test.YtcigmihfannmjabDoorWordsP
namespace Go.Proofs.YtcigmihfannmjabDoor
open Go.RowKit

theorem hasPrefix_beg (a b : ByteArray) : Lib.hasPrefix b.data.toList a.data.toList = begB a b := by
  unfold Lib.hasPrefix begB
  by_cases h : a.data.toList <+: b.data.toList
  · rw [decide_eq_true h, List.isPrefixOf_iff_prefix]; exact h
  · rw [decide_eq_false h]
    cases h2 : a.data.toList.isPrefixOf b.data.toList with
    | false => rfl
    | true => exact absurd (List.isPrefixOf_iff_prefix.1 h2) h
theorem HasPrefix_any (s p : ByteArray) (w : World) : Calls Tryd.prog 64 #[.string s, .string p] w fun e w' => e = .returned (.bool (begB p s)) ∧ w' = w := by
  rw [← hasPrefix_beg]
  exact Any.strings_HasPrefix Tryd.hasPrefixA s p w
/-- Does none of n texts begin another one? -/
def apB (f : Nat → ByteArray) (n : Nat) : Bool := (List.range n).all fun i => (List.range n).all fun k => i == k || !begB (f i) (f k)
theorem apB_iff (f : Nat → ByteArray) (n : Nat) : apB f n = true ↔ Apart f n := by
  unfold apB Apart
  rw [List.all_eq_true]
  constructor
  · intro h i k hi hk hne
    have h1 := List.all_eq_true.1 (h i (List.mem_range.2 hi)) k (List.mem_range.2 hk)
    have h2 : (i == k) = false := beq_eq_false_iff_ne.2 hne
    rw [h2] at h1
    simpa using h1
  · intro h i hi
    refine List.all_eq_true.2 fun k hk => ?_
    by_cases he : i = k
    · simp [he]
    · rw [h i k (List.mem_range.1 hi) (List.mem_range.1 hk) he]; simp
set_option maxRecDepth 100000 in
set_option maxHeartbeats 1000000 in
theorem apart_any (ad : Option Addr) (cap n : Nat) (f : Nat → ByteArray) (w : World) (hn : n ≤ 1000000) (h : TxtAt w ad n f) :
    Calls Tryd.prog 44 #[.slice ad n cap] w fun e w' => e = .returned (.bool (apB f n)) ∧ w' = w := by
  have HR := Hid.mk' h
  have HP := Hid.mk' (apB_iff f n)
  clear h
  generalize apB f n = r at *
  go_enter Tryd.func44, Tryd.ntmps44
  go_wp2_with fail
  go_loopw [9] (fun t wr => ∃ i : Nat, i ≤ n ∧ t = .int .i64 i ∧ wr = w ∧ Hid (∀ i' k, i' < i → k < n → i' ≠ k → begB (f i') (f k) = false)) (fun t _ => n - (intOf t).toNat)
  case atStart => exact ⟨0, Nat.zero_le _, rfl, rfl, fun i' k h => by omega⟩
  case round =>
    obtain ⟨i, hi, rfl, hwr, HI⟩ := hrel
    rw [hwr]
    clear hwr
    have hi0 : (0 : Int) ≤ (i : Int) := by omega
    rcases Nat.lt_or_ge i n with h1 | h1
    · have hiI : (i : Int) < (n : Int) := by omega
      obtain ⟨b, o, rfl, y0⟩ := HR.out i h1
      have HY : Hid (∀ k, k < n → w.cell? ⟨b, o + k, none⟩ = some (.string (f k))) := fun k hk => by
        obtain ⟨b', o', hbo', y1⟩ := HR.out k hk
        simp only [Option.some.injEq, Addr.mk.injEq, and_true] at hbo'
        obtain ⟨rfl, rfl⟩ := hbo'
        exact y1
      obtain ⟨x, hx⟩ : ∃ x, x = f i := ⟨_, rfl⟩
      rw [← hx] at y0
      have HXE := Hid.mk' hx
      clear hx
      go_wp2_with fail
      go_loopw [16] (fun t wr => ∃ k : Nat, k ≤ n ∧ t = .int .i64 k ∧ wr = w ∧ Hid (∀ k', k' < k → i ≠ k' → begB (f i) (f k') = false)) (fun t _ => n - (intOf t).toNat)
      case atStart => exact ⟨0, Nat.zero_le _, rfl, rfl, fun k' h => by omega⟩
      case round =>
        obtain ⟨k, hk, rfl, hwr, HK⟩ := hrel
        rw [hwr]
        clear hwr
        have hk0 : (0 : Int) ≤ (k : Int) := by omega
        rcases Nat.lt_or_ge k n with h2 | h2
        · have hkI : (k : Int) < (n : Int) := by omega
          have y1 := HY.out k h2
          have HF : Hid (i ≠ k → begB (f i) (f k) = true → r = false) := fun hne hb => by
            cases hrr : r with
            | false => rfl
            | true => have := HP.out.1 hrr i k h1 h2 hne; rw [this] at hb; cases hb
          have HN : Hid ((i ≠ k → begB (f i) (f k) = false) → ∀ k', k' < k + 1 → i ≠ k' → begB (f i) (f k') = false) := fun hh k' hk' hne => by
            rcases Nat.lt_or_ge k' k with h3 | h3
            · exact HK.out k' h3 hne
            · obtain rfl : k' = k := by omega
              exact hh hne
          by_cases hik : i = k
          · have hb : ((i : Int) != (k : Int)) = false := by rw [hik]; simp
            have HNN := Hid.mk' (HN.out (fun h => absurd hik h))
            clear hik HF HN
            generalize f k = y at *
            go_wp2_with fail
            exact ⟨⟨k + 1, h2, by go_num, trivial, HNN⟩, by simp [intOf]; omega⟩
          · have hb : ((i : Int) != (k : Int)) = true := by rw [bne_iff_ne]; omega
            have hbg := HasPrefix_any (f k) (f i) w
            rw [← HXE.out] at hbg
            cases hbb : begB x (f k) with
            | true =>
              have HRF := Hid.mk' (HF.out hik (by rw [← HXE.out]; exact hbb))
              rw [hbb] at hbg
              clear hik HF HN hbb
              generalize f k = y at *
              go_wp2_with (first | (go_at_call 64; refine hbg.mono ?_; rintro e w1 ⟨rfl, hw1⟩; rw [hw1]; clear hw1))
              go_ret
              exact ⟨ret_bool2 (by rw [HRF.out]), rfl⟩
            | false =>
              have HNN := Hid.mk' (HN.out (fun _ => by rw [← HXE.out]; exact hbb))
              rw [hbb] at hbg
              clear hik HF HN hbb
              generalize f k = y at *
              go_wp2_with (first | (go_at_call 64; refine hbg.mono ?_; rintro e w1 ⟨rfl, hw1⟩; rw [hw1]; clear hw1))
              exact ⟨⟨k + 1, h2, by go_num, trivial, HNN⟩, by simp [intOf]; omega⟩
        · obtain rfl : n = k := by omega
          have HNI : Hid (∀ i' k, i' < i + 1 → k < n → i' ≠ k → begB (f i') (f k) = false) := fun i' k hi' hk' hne => by
            rcases Nat.lt_or_ge i' i with h3 | h3
            · exact HI.out i' k h3 hk' hne
            · obtain rfl : i' = i := by omega
              exact HK.out k hk' hne
          go_wp2_with fail
          exact ⟨⟨i + 1, h1, by go_num, trivial, HNI⟩, by simp [intOf]; omega⟩
    · obtain rfl : n = i := by omega
      have HRT : Hid (r = true) := HP.out.2 HI.out
      go_wp2_with fail
      go_ret
      exact ⟨ret_bool2 (by rw [HRT.out]), rfl⟩
/-- What Prefix answers. -/
def preB (n : Nat) (f : Nat → ByteArray) : Bool := (wdErr n f == 0) && apB f n
end Go.Proofs.YtcigmihfannmjabDoor
