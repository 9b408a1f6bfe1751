/- prefix.checkLengths, share, shares; the document's LengthsError, KraftOf. -/
import Derived.Test.YtcigmihfannmjabDoorWeights
import Derived.Test.YtcigmihfannmjabDoorLaysP
import Derived.Test.YtcigmihfannmjabDoorValidWalk
namespace Go.Proofs.YtcigmihfannmjabDoor
open Go.RowKit

/-- A length that is not from 1 to 40. -/
def badLen (z : Nat → Int) : Nat → Bool
  | 0 => false
  | n + 1 => badLen z n || decide (z n < 1 ∨ 40 < z n)
theorem badLen_no {z : Nat → Int} : ∀ {n : Nat}, badLen z n = false ↔ ∀ i, i < n → 1 ≤ z i ∧ z i ≤ 40
  | 0 => by simp [badLen]
  | n + 1 => by
    simp only [badLen, Bool.or_eq_false_iff, badLen_no (n := n), decide_eq_false_iff_not]
    constructor
    · rintro ⟨h1, h2⟩ i hi
      rcases Nat.lt_or_ge i n with h | h
      · exact h1 i h
      · obtain rfl : i = n := by omega
        omega
    · intro h
      refine ⟨fun i hi => h i (by omega), ?_⟩
      have := h n (by omega)
      omega
/-- The error of lengths, by its number. -/
def lenErr (n : Nat) (z : Nat → Int) : Nat := if 16 < n then 2 else if n = 0 ∨ badLen z n = true then 3 else 0
theorem lenErr_ok {n : Nat} {z : Nat → Int} (h : lenErr n z = 0) : 0 < n ∧ n ≤ 16 ∧ ∀ i, i < n → 1 ≤ z i ∧ z i ≤ 40 := by
  unfold lenErr at h
  by_cases h1 : 16 < n
  · rw [if_pos h1] at h; cases h
  · rw [if_neg h1] at h
    by_cases h2 : n = 0 ∨ badLen z n = true
    · rw [if_pos h2] at h; cases h
    · exact ⟨by omega, by omega, badLen_no.1 (by cases hb : badLen z n <;> simp_all)⟩
theorem lenErr_le (n : Nat) (z : Nat → Int) : lenErr n z ≤ 8 := by unfold lenErr; split <;> (try split) <;> omega
theorem minOf_lt {l : List Int} (h : l ≠ []) (x : Int) : Lib.minOf l < x ↔ ∃ y, y ∈ l ∧ y < x := by
  have key : ∀ (l : List Int) (a : Int), l.foldl min a < x ↔ a < x ∨ ∃ y, y ∈ l ∧ y < x := by
    intro l
    induction l with
    | nil => intro a; simp
    | cons b r ih => intro a; rw [List.foldl_cons, ih, show (min a b < x ↔ a < x ∨ b < x) by omega]; simp only [List.mem_cons, exists_eq_or_imp, or_assoc]
  cases l with
  | nil => exact absurd rfl h
  | cons b r => unfold Lib.minOf; rw [key]; simp
theorem lt_maxOf {l : List Int} (h : l ≠ []) (x : Int) : x < Lib.maxOf l ↔ ∃ y, y ∈ l ∧ x < y := by
  have key : ∀ (l : List Int) (a : Int), x < l.foldl max a ↔ x < a ∨ ∃ y, y ∈ l ∧ x < y := by
    intro l
    induction l with
    | nil => intro a; simp
    | cons b r ih => intro a; rw [List.foldl_cons, ih, show (x < max a b ↔ x < a ∨ x < b) by omega]; simp only [List.mem_cons, exists_eq_or_imp, or_assoc]
  cases l with
  | nil => exact absurd rfl h
  | cons b r => unfold Lib.maxOf; rw [key]; simp
def zList (z : Nat → Int) (n : Nat) : List Int := (List.range n).map z
theorem zList_at (z : Nat → Int) {n j : Nat} (h : j < n) : (zList z n).getD j 0 = z j := by simp [zList, List.getD, h]
theorem zList_mem {z : Nat → Int} {n : Nat} {y : Int} : y ∈ zList z n ↔ ∃ i, i < n ∧ z i = y := by simp [zList]
theorem min_of (b o n cap : Nat) (z : Nat → Int) (w : World) (h0 : 0 < n) (hn : n ≤ 1000000) (hr : RowAt w b o n z) :
    Calls Tryd.prog 57 #[.slice (some ⟨b, o, none⟩) n cap] w fun e w' => e = .returned (.int .i64 (Lib.minOf (zList z n))) ∧ w' = w := by
  have := Any.slices_Min_int Tryd.minA b o n cap (zList z n) w h0 (by simp [zList]) (by omega) (fun j hj => by
    have hj' : j < n := by simpa [zList] using hj
    rw [zList_at z hj']; exact hr j hj')
  rwa [List.take_of_length_le (by simp [zList])] at this
theorem max_of (b o n cap : Nat) (z : Nat → Int) (w : World) (h0 : 0 < n) (hn : n ≤ 1000000) (hr : RowAt w b o n z) :
    Calls Tryd.prog 58 #[.slice (some ⟨b, o, none⟩) n cap] w fun e w' => e = .returned (.int .i64 (Lib.maxOf (zList z n))) ∧ w' = w := by
  have := Any.slices_Max_int Tryd.maxA b o n cap (zList z n) w h0 (by simp [zList]) (by omega) (fun j hj => by
    have hj' : j < n := by simpa [zList] using hj
    rw [zList_at z hj']; exact hr j hj')
  rwa [List.take_of_length_le (by simp [zList])] at this

set_option maxRecDepth 100000 in
theorem checkLengths_any (a : Nat → Addr) (v : Value) (n : Nat) (z : Nat → Int) (w : World) (hE : Errs w a) (h : NumsAt w v n z) (hn : n ≤ 1000000) :
    Calls Tryd.prog 38 #[v] w fun e w' => e = .returned (errV a (lenErr n z)) ∧ w' = w := by
  have hc1 := hE.c1
  have hc2 := hE.c2
  unfold lenErr
  by_cases h16 : 16 < n
  · rw [if_pos h16, errV_two]
    obtain ⟨ad, cap, rfl⟩ := h.form
    clear h hE
    go_enter Tryd.func38, Tryd.ntmps38
    go_wp2_with fail
    go_ret
    exact ⟨rfl, rfl⟩
  · rw [if_neg h16]
    rcases h with ⟨ad, cap, rfl, rfl⟩ | ⟨b, o, cap, rfl, h0, hr⟩
    · rw [if_pos (Or.inl rfl), errV_three]
      clear hE
      go_enter Tryd.func38, Tryd.ntmps38
      go_wp2_with fail
      go_ret
      exact ⟨rfl, rfl⟩
    · have hne : zList z n ≠ [] := by intro e; have := congrArg List.length e; simp [zList] at this; omega
      have hmn := min_of b o n cap z w h0 hn hr
      have hmx := max_of b o n cap z w h0 hn hr
      have e1 := minOf_lt hne 1
      have e2 := lt_maxOf hne 40
      have hnb : ((n : Int) == 0) = false := by rw [beq_eq_false_iff_ne]; omega
      by_cases hb : badLen z n = true
      · rw [if_pos (Or.inr hb), errV_three]
        by_cases hlo : Lib.minOf (zList z n) < 1
        · generalize Lib.minOf (zList z n) = x at *
          clear hE e1 e2 hr hmx
          go_enter Tryd.func38, Tryd.ntmps38
          go_wp2_with fail
          refine hmn.mono ?_
          rintro e w1 ⟨rfl, hw1⟩
          go_wp2_with fail
          go_ret
          exact ⟨rfl, rfl⟩
        · have hhi : 40 < Lib.maxOf (zList z n) := e2.2 (Classical.byContradiction fun hno => by
            have : badLen z n = false := badLen_no.2 fun i hi => by
              refine ⟨?_, ?_⟩
              · refine Classical.byContradiction fun hz => hlo (e1.2 ⟨z i, zList_mem.2 ⟨i, hi, rfl⟩, by omega⟩)
              · refine Classical.byContradiction fun hz => hno ⟨z i, zList_mem.2 ⟨i, hi, rfl⟩, by omega⟩
            rw [this] at hb; cases hb)
          have hlo' : 1 ≤ Lib.minOf (zList z n) := by omega
          generalize Lib.minOf (zList z n) = x at *
          generalize Lib.maxOf (zList z n) = y at *
          clear hE e1 e2 hr hlo
          go_enter Tryd.func38, Tryd.ntmps38
          go_wp2_with fail
          refine hmn.mono ?_
          rintro e w1 ⟨rfl, hw1⟩
          go_wp2_with fail
          refine hmx.mono ?_
          rintro e w2 ⟨rfl, hw2⟩
          go_wp2_with fail
          go_ret
          exact ⟨rfl, rfl⟩
      · have hb' : badLen z n = false := by cases h' : badLen z n <;> simp_all
        rw [if_neg (by simp [hb']; omega), errV_zero]
        have hlo : 1 ≤ Lib.minOf (zList z n) := Int.not_lt.1 fun hlt => by
          obtain ⟨y, hy, hy1⟩ := e1.1 hlt
          obtain ⟨i, hi, rfl⟩ := zList_mem.1 hy
          have := (badLen_no.1 hb' i hi).1; omega
        have hhi : Lib.maxOf (zList z n) ≤ 40 := Int.not_lt.1 fun hlt => by
          obtain ⟨y, hy, hy1⟩ := e2.1 hlt
          obtain ⟨i, hi, rfl⟩ := zList_mem.1 hy
          have := (badLen_no.1 hb' i hi).2; omega
        generalize Lib.minOf (zList z n) = x at *
        generalize Lib.maxOf (zList z n) = y at *
        clear hE e1 e2 hr
        go_enter Tryd.func38, Tryd.ntmps38
        go_wp2_with fail
        refine hmn.mono ?_
        rintro e w1 ⟨rfl, hw1⟩
        go_wp2_with fail
        refine hmx.mono ?_
        rintro e w2 ⟨rfl, hw2⟩
        go_wp2_with fail
        go_ret
        exact ⟨rfl, rfl⟩

theorem wrap_pow (x : Nat) : wrap64 (2 ^ (40 - x)) = ((2 ^ (40 - x) : Nat) : Int) := by
  have h1 : 2 ^ (40 - x) ≤ 2 ^ 40 := Nat.pow_le_pow_right (by omega) (by omega)
  have h2 : (2 : Int) ^ (40 - x) = ((2 ^ (40 - x) : Nat) : Int) := by simp
  rw [h2]
  generalize 2 ^ (40 - x) = y at *
  unfold wrap64
  omega
theorem ret_int64 {a b : Int} (h : a = b) : Ending.returned (.int .i64 a) = .returned (.int .i64 b) := by rw [h]
theorem share_any (x : Nat) (w : World) (h2 : x ≤ 40) : Calls Tryd.prog 40 #[.int .i64 x] w fun e w' => e = .returned (.int .i64 ((2 ^ (40 - x) : Nat) : Int)) ∧ w' = w := by
  have h1 : (x : Int) ≤ 40 := by omega
  have h0 : (0 : Int) ≤ (x : Int) := by omega
  go_enter Tryd.func40, Tryd.ntmps40
  go_wp2_with fail
  go_ret
  exact ⟨ret_int64 (wrap_pow x), rfl⟩
/-- All shares together. -/
def shareSum (z : Nat → Int) : Nat → Nat
  | 0 => 0
  | n + 1 => shareSum z n + 2 ^ (40 - (z n).toNat)
theorem pow40 (x : Nat) : 0 < 2 ^ (40 - x) ∧ 2 ^ (40 - x) ≤ 1099511627776 := ⟨Nat.two_pow_pos _, by have : 2 ^ (40 - x) ≤ 2 ^ 40 := Nat.pow_le_pow_right (by omega) (by omega); omega⟩
theorem shareSum_le (z : Nat → Int) : ∀ n, shareSum z n ≤ n * 1099511627776
  | 0 => by simp [shareSum]
  | n + 1 => by have := shareSum_le z n; have := (pow40 (z n).toNat).2; rw [shareSum]; omega
set_option maxRecDepth 100000 in
theorem shares_any (v : Value) (n : Nat) (z : Nat → Int) (w : World) (h : NumsAt w v n z) (hn : n ≤ 16) (hz : ∀ i, i < n → 1 ≤ z i ∧ z i ≤ 40) :
    Calls Tryd.prog 39 #[v] w fun e w' => e = .returned (.int .i64 (shareSum z n : Nat)) ∧ w' = w := by
  obtain ⟨ad, cap, rfl⟩ := h.form
  have HR : Hid (∀ i, i < n → ∃ b o, ad = some ⟨b, o, none⟩ ∧ w.cell? ⟨b, o + i, none⟩ = some (.int .i64 (z i))) := fun i hi => by
    rcases h with ⟨_, _, _, h0⟩ | ⟨b, o, c, h1, _, h2⟩
    · omega
    · simp only [Value.slice.injEq, true_and] at h1
      exact ⟨b, o, h1.1, h2 i hi⟩
  clear h
  go_enter Tryd.func39, Tryd.ntmps39
  go_wp2_with fail
  go_loop [3, 8] (fun s t => ∃ i : Nat, i ≤ n ∧ t = .int .i64 i ∧ s = .int .i64 (shareSum z i : Nat)) (fun _ t => n - (intOf t).toNat)
  case atStart => exact ⟨0, Nat.zero_le _, rfl, rfl⟩
  case round =>
    obtain ⟨i, hi, rfl, rfl⟩ := hrel
    rcases Nat.lt_or_ge i n with h1 | h1
    · have hiI : (i : Int) < (n : Int) := by omega
      have hi0 : (0 : Int) ≤ (i : Int) := by omega
      obtain ⟨b, o, rfl, hc⟩ := HR.out i h1
      have hzi := hz i h1
      obtain ⟨x, hx⟩ : ∃ x : Nat, z i = (x : Int) := ⟨(z i).toNat, by omega⟩
      have HS : Hid (shareSum z (i + 1) = shareSum z i + 2 ^ (40 - x)) := by show _ = _; rw [shareSum, hx]; rfl
      have hsl := shareSum_le z i
      have hp := (pow40 x).2
      rw [hx] at hc hzi
      have hsh := share_any x w (by omega)
      clear hx hz
      generalize shareSum z i = S at *
      generalize 2 ^ (40 - x) = P at *
      go_wp2_with fail
      refine hsh.mono ?_
      clear hsh
      rintro e w1 ⟨rfl, hw1⟩
      go_wp2_with fail
      go_round
      case rel => exact ⟨i + 1, h1, by go_num, by rw [HS.out]; go_num⟩
      case measure => simp [intOf]; omega
    · obtain rfl : n = i := by omega
      go_wp2_with fail
      go_ret
      exact ⟨rfl, rfl⟩
end Go.Proofs.YtcigmihfannmjabDoor
