/- machine's parts: what each makes of what was written. -/
import Derived.Test.YtdfcipdknfebpaaDoorMacMath
import Derived.Test.YtdfcipdknfebpaaDoorValidWalk
import Derived.Lib.ConvBytes

import Derived.Laws.BytesArg
namespace Go.Proofs.YtdfcipdknfebpaaDoor
open Go.RowKit

theorem ret_str {a b : ByteArray} (h : a = b) : Ending.returned (.string a) = .returned (.string b) := by rw [h]
theorem bt_some {s : List UInt8} (h : s ≠ []) : (bt s).toList.isEmpty = false := by
  have h2 : (bt s).toList = s := by rw [ByteArray.toList_eq]; exact bt_list s
  rw [h2]
  cases s with
  | nil => exact absurd rfl h
  | cons a t => rfl
theorem bt_none : (bt []).toList.isEmpty = true := by rw [ByteArray.toList_eq, bt_list]; rfl
theorem part0_any (s : List UInt8) (w : World) (hs : s.length ≤ 1000000) : Calls Tryd.prog 40 #[.string (bt s)] w fun e w' => e = .returned (.string (bt (mD 0 s))) ∧ Below w.heap.size w w' := by
  have hz := bt_size s
  have hC : Hid (bt s ++ ⟨#[48]⟩ = bt (mD 0 s)) := bt_app s [48]
  generalize bt s = B at *
  have hB : B.size ≤ 1000000 := by omega
  clear hz hs
  go_enter Tryd.func40, Tryd.ntmps40
  go_wp2_with fail
  go_ret
  exact ⟨ret_str hC.out, Below.refl _ _⟩
theorem part1_any (s : List UInt8) (w : World) (hs : s.length ≤ 1000000) : Calls Tryd.prog 41 #[.string (bt s)] w fun e w' => e = .returned (.string (bt (mD 1 s))) ∧ Below w.heap.size w w' := by
  have hz := bt_size s
  have hC : Hid (bt s ++ ⟨#[49]⟩ = bt (mD 1 s)) := bt_app s [49]
  generalize bt s = B at *
  have hB : B.size ≤ 1000000 := by omega
  clear hz hs
  go_enter Tryd.func41, Tryd.ntmps41
  go_wp2_with fail
  go_ret
  exact ⟨ret_str hC.out, Below.refl _ _⟩
theorem part2_any (s : List UInt8) (w : World) (hs : s.length ≤ 1000000) : Calls Tryd.prog 42 #[.string (bt s)] w fun e w' => e = .returned (.string (bt (mD 2 s))) ∧ Below w.heap.size w w' := by
  have hz := bt_size s
  have hC : Hid (bt s ++ bt s = bt (mD 2 s)) := bt_app s s
  generalize bt s = B at *
  have hB : B.size ≤ 1000000 := by omega
  clear hz hs
  go_enter Tryd.func42, Tryd.ntmps42
  go_wp2_with fail
  go_ret
  exact ⟨ret_str hC.out, Below.refl _ _⟩
theorem part5_any (s : List UInt8) (w : World) (hs : s.length ≤ 1000000) : Calls Tryd.prog 45 #[.string (bt s)] w fun e w' => e = .returned (.string (bt (mD 5 s))) ∧ Below w.heap.size w w' := by
  by_cases h : s = []
  · subst h
    have hE : (bt ([] : List UInt8)) = ⟨#[]⟩ := rfl
    rw [hE]
    go_enter Tryd.func45, Tryd.ntmps45
    go_wp2_with fail
    go_ret
    exact ⟨rfl, Below.refl _ _⟩
  · have hz := bt_size s
    have hp : 0 < s.length := List.length_pos_iff.2 h
    have hne := bt_some h
    have hcut := bt_cut s 0 (s.length - 1)
    generalize bt s = B at *
    obtain ⟨n, hn⟩ : ∃ n, n = s.length := ⟨_, rfl⟩
    rw [← hn] at hz hp hs hcut
    have hpI : (0 : Int) < (n : Int) := by omega
    have hsI : (n : Int) ≤ 1000000 := by omega
    have h2 : ((n : Int) - 1).toNat = n - 1 := by omega
    have hC : Hid (B.extract 0 (n - 1) = bt ((s.take (n - 1)).drop 0)) := hcut
    have hN : Hid (n = s.length) := hn
    clear hcut hn
    go_enter Tryd.func45, Tryd.ntmps45
    go_wp2_with fail
    go_ret
    refine ⟨ret_str ?_, Below.refl _ _⟩
    rw [mD5, List.dropLast_eq_take, ← hN.out]
    first | exact hC.out | (simp only [List.drop_zero] at hC; exact hC.out) | skip
end Go.Proofs.YtdfcipdknfebpaaDoor
