/- The document's PartOf: what a part makes of what was written. -/
import Derived.Test.YtdfcipdknfebpaaDoorMacP
namespace Go.Proofs.YtdfcipdknfebpaaDoor
open Go.RowKit

set_option maxRecDepth 100000 in
theorem doc0 (s : List UInt8) (w : World) (hs : s.length ≤ 1000000) : Calls Tryd.prog 19 #[.string ⟨#[48, 48]⟩, .string (bt s)] w fun e w' => e = .returned (.string (bt (mD 0 s))) ∧ w' = w := by
  have hz := bt_size s
  have hC : Hid (bt s ++ ⟨#[48]⟩ = bt (mD 0 s)) := bt_app s [48]
  generalize bt s = B at *
  have hB : B.size ≤ 1000000 := by omega
  clear hz hs
  go_enter Tryd.func19, Tryd.ntmps19
  go_wp2_with fail
  go_ret
  exact ⟨ret_str hC.out, rfl⟩
set_option maxRecDepth 100000 in
theorem doc1 (s : List UInt8) (w : World) (hs : s.length ≤ 1000000) : Calls Tryd.prog 19 #[.string ⟨#[48, 49]⟩, .string (bt s)] w fun e w' => e = .returned (.string (bt (mD 1 s))) ∧ w' = w := by
  have hz := bt_size s
  have hC : Hid (bt s ++ ⟨#[49]⟩ = bt (mD 1 s)) := bt_app s [49]
  generalize bt s = B at *
  have hB : B.size ≤ 1000000 := by omega
  clear hz hs
  go_enter Tryd.func19, Tryd.ntmps19
  go_wp2_with fail
  go_ret
  exact ⟨ret_str hC.out, rfl⟩
set_option maxRecDepth 100000 in
theorem doc2 (s : List UInt8) (w : World) (hs : s.length ≤ 1000000) : Calls Tryd.prog 19 #[.string ⟨#[49, 48, 48]⟩, .string (bt s)] w fun e w' => e = .returned (.string (bt (mD 2 s))) ∧ w' = w := by
  have hz := bt_size s
  have hC : Hid (bt s ++ bt s = bt (mD 2 s)) := bt_app s s
  generalize bt s = B at *
  have hB : B.size ≤ 1000000 := by omega
  clear hz hs
  go_enter Tryd.func19, Tryd.ntmps19
  go_wp2_with fail
  go_ret
  exact ⟨ret_str hC.out, rfl⟩
set_option maxRecDepth 100000 in
theorem doc5 (s : List UInt8) (w : World) (hs : s.length ≤ 1000000) : Calls Tryd.prog 19 #[.string ⟨#[49, 49, 49]⟩, .string (bt s)] w fun e w' => e = .returned (.string (bt (mD 5 s))) ∧ w' = w := by
  by_cases h : s = []
  · subst h
    have hE := bt_none
    have hC : Hid (bt (mD 5 []) = bt []) := rfl
    generalize bt [] = B at *
    go_enter Tryd.func19, Tryd.ntmps19
    go_wp2_with fail
    go_ret
    exact ⟨ret_str hC.out.symm, rfl⟩
  · have hz := bt_size s
    have hp : 0 < s.length := List.length_pos_iff.2 h
    have hne := bt_some h
    have hcut := bt_cut s 0 (s.length - 1)
    generalize bt s = B at *
    obtain ⟨n, hn⟩ : ∃ n, n = s.length := ⟨_, rfl⟩
    rw [← hn] at hz hp hs hcut
    have hpI : (0 : Int) < (n : Int) := by omega
    have hsI : (n : Int) ≤ 1000000 := by omega
    have h2 : ((n : Int) - 1).toNat = n - 1 := by omega
    have hC : Hid (B.extract 0 (n - 1) = bt ((s.take (n - 1)).drop 0)) := hcut
    have hN : Hid (n = s.length) := hn
    clear hcut hn
    go_enter Tryd.func19, Tryd.ntmps19
    go_wp2_with fail
    go_ret
    refine ⟨ret_str ?_, rfl⟩
    rw [mD5, List.dropLast_eq_take, ← hN.out]
    exact hC.out
theorem take_cut {s : List UInt8} {k : Nat} {c : UInt8} (h : s[k]? = some c) : s.take (k + 1) = s.take k ++ [c] := by rw [List.take_add_one, h]; rfl
theorem cut_one {s : List UInt8} {k : Nat} {c : UInt8} (h : s[k]? = some c) : (bt s).extract k (k + 1) = bt [c] := by
  rw [bt_cut, take_cut h, List.drop_append_of_le_length (by have := (List.getElem?_eq_some_iff.1 h).1; rw [List.length_take]; omega)]
  rw [List.drop_eq_nil_of_le (by rw [List.length_take]; omega)]; rfl
theorem bt_at {s : List UInt8} {k : Nat} {c : UInt8} (h : s[k]? = some c) (hk : k < (bt s).size) : ((bt s)[k]'hk) = c := by
  obtain ⟨h1, h2⟩ := List.getElem?_eq_some_iff.1 h
  rw [← h2]; rfl
set_option maxRecDepth 100000 in
set_option maxHeartbeats 1000000 in
theorem doc3 (s : List UInt8) (w : World) (hs : s.length ≤ 1000000) : Calls Tryd.prog 19 #[.string ⟨#[49, 48, 49]⟩, .string (bt s)] w fun e w' => e = .returned (.string (bt (mD 3 s))) ∧ w' = w := by
  have hz := bt_size s
  have HC : Hid (∀ k c, s[k]? = some c → (bt s).extract k (k + 1) = bt [c]) := fun k c h => cut_one h
  generalize bt s = B at *
  obtain ⟨n, hn⟩ : ∃ n, n = s.length := ⟨_, rfl⟩
  rw [← hn] at hz hs
  have HN := Hid.mk' hn
  clear hn
  have hnI : (n : Int) ≤ 1000000 := by omega
  go_enter Tryd.func19, Tryd.ntmps19
  go_wp2_with fail
  go_loopw [5, 6] (fun o t wr => ∃ (k : Nat) (O : ByteArray), k ≤ n ∧ t = .int .i64 (k : Int) ∧ o = .string O ∧ Hid (O = bt (s.take k).reverse) ∧ O.size = k ∧ wr = w) (fun _ t _ => n - (intOf t).toNat)
  case atStart => exact ⟨0, _, Nat.zero_le _, rfl, rfl, rfl, rfl, rfl⟩
  case round =>
    obtain ⟨k, O, hk, rfl, rfl, HO, hO, rfl⟩ := hrel
    have hk0 : (0 : Int) ≤ (k : Int) := by omega
    rcases Nat.lt_or_ge k n with h1 | h1
    · have hkI : (k : Int) < (n : Int) := by omega
      obtain ⟨c, hc⟩ : ∃ c, s[k]? = some c := ⟨_, List.getElem?_eq_getElem (by have := HN.out; omega)⟩
      have hcut := HC.out k c hc
      have HX : Hid (bt [c] ++ O = bt (s.take (k + 1)).reverse) := by
        show _ = _
        rw [HO.out, bt_app, take_cut hc, List.reverse_append]; rfl
      have hX1 : (bt [c] ++ O).size = k + 1 := by rw [ByteArray.size_append, bt_size, hO]; simp; omega
      have hX2 : (bt [c]).size = 1 := by rw [bt_size]; rfl
      have hkt : ((k : Int) + 1).toNat = k + 1 := by omega
      generalize bt [c] = C at *
      clear hc
      go_wp2_with fail
      go_roundw
      case rel => exact ⟨k + 1, C ++ O, by omega, by simp, rfl, HX, hX1, by trivial⟩
      case measure => simp [intOf]; omega
    · obtain rfl : k = n := by omega
      go_wp2_with fail
      go_ret
      refine ⟨ret_str ?_, rfl⟩
      rw [HO.out, HN.out, List.take_length]; rfl
set_option maxRecDepth 100000 in
set_option maxHeartbeats 1000000 in
theorem doc4 (s : List UInt8) (w : World) (hs : s.length ≤ 1000000) (hb : bitL s = true) : Calls Tryd.prog 19 #[.string ⟨#[49, 49, 48]⟩, .string (bt s)] w fun e w' => e = .returned (.string (bt (mD 4 s))) ∧ w' = w := by
  have hz := bt_size s
  have HA : Hid (∀ k c, s[k]? = some c → ∀ hk : k < (bt s).size, ((bt s)[k]'hk) = c) := fun k c h hk => bt_at h hk
  have HS : Hid (∀ c ∈ s, c = 48 ∨ c = 49) := mem_bit.1 hb
  clear hb
  generalize bt s = B at *
  obtain ⟨n, hn⟩ : ∃ n, n = s.length := ⟨_, rfl⟩
  rw [← hn] at hz hs
  have HN := Hid.mk' hn
  clear hn
  have hnI : (n : Int) ≤ 1000000 := by omega
  go_enter Tryd.func19, Tryd.ntmps19
  go_wp2_with fail
  go_loopw [5, 6] (fun o t wr => ∃ (k : Nat) (O : ByteArray), k ≤ n ∧ t = .int .i64 (k : Int) ∧ o = .string O ∧ Hid (O = bt ((s.take k).map (fun c => 97 - c))) ∧ O.size = k ∧ wr = w) (fun _ t _ => n - (intOf t).toNat)
  case atStart => exact ⟨0, _, Nat.zero_le _, rfl, rfl, rfl, rfl, rfl⟩
  case round =>
    obtain ⟨k, O, hk, rfl, rfl, HO, hO, rfl⟩ := hrel
    have hk0 : (0 : Int) ≤ (k : Int) := by omega
    rcases Nat.lt_or_ge k n with h1 | h1
    · have hkI : (k : Int) < (n : Int) := by omega
      obtain ⟨c, hc⟩ : ∃ c, s[k]? = some c := ⟨_, List.getElem?_eq_getElem (by have := HN.out; omega)⟩
      have hkB : k < B.size := by omega
      have hat := HA.out k c hc hkB
      have HX : Hid (∀ d : UInt8, d = 97 - c → O ++ bt [d] = bt ((s.take (k + 1)).map (fun c => 97 - c))) := fun d hd => by
        rw [HO.out, bt_app, take_cut hc, List.map_append, hd]; rfl
      have hX1 : ∀ d, (O ++ bt [d]).size = k + 1 := fun d => by rw [ByteArray.size_append, bt_size, hO]; rfl
      have hcc := HS.out c (List.mem_of_getElem? hc)
      clear hc
      rcases hcc with rfl | rfl
      · have HX2 := Hid.mk' (HX.out 49 rfl)
        have HX3 := Hid.mk' (hX1 49)
        clear HX hX1
        go_wp2_with fail
        go_roundw
        case rel => exact ⟨k + 1, O ++ bt [49], by omega, by simp, rfl, HX2, HX3.out, by trivial⟩
        case measure => simp [intOf]; omega
      · have HX2 := Hid.mk' (HX.out 48 rfl)
        have HX3 := Hid.mk' (hX1 48)
        clear HX hX1
        go_wp2_with fail
        go_roundw
        case rel => exact ⟨k + 1, O ++ bt [48], by omega, by simp, rfl, HX2, HX3.out, by trivial⟩
        case measure => simp [intOf]; omega
    · obtain rfl : k = n := by omega
      go_wp2_with fail
      go_ret
      refine ⟨ret_str ?_, rfl⟩
      rw [HO.out, HN.out, List.take_length]; rfl
theorem PartOf_any (k : Fin 6) (s : List UInt8) (w : World) (hs : s.length ≤ 1000000) (hb : bitL s = true) : Calls Tryd.prog 19 #[.string (bt (mW k)), .string (bt s)] w fun e w' => e = .returned (.string (bt (mD k s))) ∧ w' = w :=
  all6 (P := fun k => Calls Tryd.prog 19 #[.string (bt (mW k)), .string (bt s)] w fun e w' => e = .returned (.string (bt (mD k s))) ∧ w' = w) (doc0 s w hs) (doc1 s w hs) (doc2 s w hs) (doc3 s w hs) (doc4 s w hs hb) (doc5 s w hs) k
end Go.Proofs.YtdfcipdknfebpaaDoor
