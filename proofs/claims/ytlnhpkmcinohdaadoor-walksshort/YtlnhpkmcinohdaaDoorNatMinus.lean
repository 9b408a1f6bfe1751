/- The program's differences of numbers without a bound. -/
import Derived.Test.YtlnhpkmcinohdaaDoorNatPlus
namespace Go.Proofs.YtlnhpkmcinohdaaDoor
open Go.RowKit

set_option maxRecDepth 10000 in
set_option maxHeartbeats 2000000 in
theorem Minus_words (u v : Value) (x y : List Nat) (w : World) (hx : Wrd x) (hy : Wrd y) (h1 : WordsAt w u x) (h2 : WordsAt w v y) (hyx : y.length ≤ x.length) (hle : wv y ≤ wv x) (hl : x.length ≤ 1000000) :
    Calls Tryd.prog 43 #[u, v] w fun e w' => ∃ r, e = .returned r ∧ NatAt w' r (wv x - wv y) ∧ Below w.heap.size w w' := by
  obtain ⟨i0, hi, hz0, hz1, hz2⟩ := info_parts Tryd.infoWord
  have HINF : Hid (Tryd.prog.info? 82 = some i0 ∧ i0.zero = some (.int .u64 0) ∧ i0.size = 1 ∧ i0.bytes = 8) := ⟨hi, hz0, hz1, hz2⟩
  clear hi hz0 hz1 hz2
  obtain ⟨a1, c1, rfl⟩ := h1.form
  obtain ⟨a2, c2, rfl⟩ := h2.form
  have H1 := Hid.mk' h1
  have H2 := Hid.mk' h2
  have HX := Hid.mk' hx
  have HY := Hid.mk' hy
  have HLE := Hid.mk' hle
  clear h1 h2 hx hy hle
  go_enter Tryd.func43, Tryd.ntmps43
  go_wp2_with (at_make; go_must (refine wpList_make_full _ rfl _ _ _ rfl w.heap.size 82 i0 _ 1 Tryd.underlying68 HINF.out.1 HINF.out.2.1 HINF.out.2.2.1 .i64 .i64 _ _ x.length rfl rfl rfl rfl (by rw [HINF.out.2.2.2]; omega) (by unfold maxLen; omega) (Nat.le_refl _) ?_; intro w1 hown hgrow; have HW := Hid.mk' (wfill_made hown (made_word x.length) hgrow); clear hown hgrow))
  go_loopw [6, 14] (fun t i wr => ∃ (k c : Nat) (l : List Nat), i = .int .i64 k ∧ t = .int .u64 c ∧ k ≤ x.length ∧ c ≤ 1 ∧ Hid (l.length = x.length) ∧ Hid (wv (l.take k) + wv (y.take k) = wv (x.take k) + 18446744073709551616 ^ k * c ∧ Wrd l) ∧ Hid (WFill w wr w.heap.size l)) (fun _ i _ => x.length - (intOf i).toNat)
  case atStart => exact ⟨0, 0, List.replicate x.length 0, rfl, rfl, by omega, by omega, by show _ = _; simp, ⟨by simp [wv], wrd_zeros _⟩, HW⟩
  case round =>
    clear HW
    obtain ⟨k, c, l, rfl, rfl, hk, hc, HLN, HV, HW⟩ := hrel
    have hk0 : (0 : Int) ≤ (k : Int) := by omega
    by_cases hlt : k < x.length
    · obtain ⟨b1, o1, e1, hc1⟩ := (H1.out.later HW.out.below).cellAt hlt
      subst e1
      have hkI : (k : Int) < (x.length : Int) := by omega
      have hwd := word_any _ y k wr (H2.out.later HW.out.below) (by omega) (by omega)
      have hdx := getD_lt HX.out k
      have hdy := getD_lt HY.out k
      have hcell := HW.out.row k (by have := HLN.out; omega)
      have hfz := HW.out.fz k (by have := HLN.out; omega)
      obtain ⟨d, hd⟩ : ∃ d : Nat, d = x.getD k 0 := ⟨_, rfl⟩
      obtain ⟨f, hf⟩ : ∃ f : Nat, f = y.getD k 0 := ⟨_, rfl⟩
      have HD := Hid.mk' hd
      have HF := Hid.mk' hf
      rw [← hd] at hc1 hdx
      rw [← hf] at hwd hdy
      clear hd hf
      go_wp2_with fail
      refine hwd.mono ?_
      clear hwd
      rintro e w2 ⟨rfl, hw2⟩
      go_wp2_with fail
      rw [Sub64_borrow d f c wr hc]
      go_wp2_with fail
      have hln := HLN.out
      have hset := HW.out.set (j := k) (by omega) ((d + 18446744073709551616 - f - c) % 18446744073709551616)
      have hst := minus_step (l := l.take k) (x := x) (y := y) (k := k) (c := c) (by rw [List.length_take]; omega) hc (by rw [← HD.out]; exact hdx) (by rw [← HF.out]; exact hdy) HV.out.1
      rw [← HD.out, ← HF.out] at hst
      have hmod : (d + 18446744073709551616 + 18446744073709551616 - f - c) % 18446744073709551616 = (d + 18446744073709551616 - f - c) % 18446744073709551616 := by omega
      rw [hmod] at hst
      have htk : (l.set k ((d + 18446744073709551616 - f - c) % 18446744073709551616)).take (k + 1) = l.take k ++ [(d + 18446744073709551616 - f - c) % 18446744073709551616] := by
        rw [wtake_succ_getD _ k (by rw [List.length_set]; omega), getD_set l k _ k (by omega), if_pos rfl, List.take_set_of_le (Nat.le_refl _)]
      refine ⟨⟨k + 1, if d < f + c then 1 else 0, l.set k ((d + 18446744073709551616 - f - c) % 18446744073709551616), by go_num, rfl, by omega, by split <;> omega, by show _ = _; rw [List.length_set]; exact hln, ⟨by rw [htk]; exact hst, HV.out.2.set k _ (by omega) (Nat.mod_lt _ (by decide))⟩, hset⟩, by simp [intOf]; omega⟩
    · obtain rfl : k = x.length := by omega
      have hln := HLN.out
      have hval : Hid (wv l = wv x - wv y) := by
        have h := HV.out.1
        rw [List.take_length, List.take_of_length_le hyx, List.take_of_length_le (by omega)] at h
        have hb := wv_lt l HV.out.2
        rw [hln] at hb
        have hle := HLE.out
        have : c = 0 := by
          rcases Nat.eq_zero_or_pos c with h0 | h0
          · exact h0
          · obtain rfl : c = 1 := by omega
            rw [Nat.mul_one] at h
            omega
        rw [this, Nat.mul_zero, Nat.add_zero] at h
        show _ = _
        omega
      have HWR := Hid.mk' HV.out.2
      clear HV
      go_wp2_with fail
      obtain ⟨Wr, hWr⟩ : ∃ Wr, Wr = wr := ⟨_, rfl⟩
      rw [← hWr] at HW ⊢
      clear hWr
      go_loop [5] (fun s => ∃ m : Nat, m ≤ x.length ∧ s = .slice (some ⟨w.heap.size, 0, none⟩) m x.length ∧ Hid (∀ i, m ≤ i → i < l.length → l.getD i 0 = 0)) (fun s => match s with | .slice _ m _ => m | _ => 0)
      case atStart => exact ⟨x.length, Nat.le_refl _, rfl, fun i h1 h2 => by omega⟩
      case round =>
        obtain ⟨m, hm, rfl, HZ⟩ := hrel
        rcases Nat.eq_zero_or_pos m with rfl | hp
        · go_wp2_with fail
          go_ret
          refine ⟨_, rfl, ⟨l.take 0, HWR.out.take 0, fun i hi => by simp at hi, ?_, HW.out.words (by omega) (by omega)⟩, HW.out.below⟩
          rw [wv_zeros l 0 (by omega) (fun i h1 h2 => HZ.out i h1 h2)]; exact hval.out
        · obtain ⟨j, rfl⟩ : ∃ j, m = j + 1 := ⟨m - 1, by omega⟩
          have hcell := HW.out.row j (by omega)
          have hj0 : (0 : Int) ≤ (j : Int) := by omega
          have hjI : (j : Int) < ((j + 1 : Nat) : Int) := by omega
          obtain ⟨d, hd⟩ : ∃ d : Nat, d = l.getD j 0 := ⟨_, rfl⟩
          rw [← hd] at hcell
          have HD := Hid.mk' hd
          clear hd
          by_cases hd0 : d = 0
          · have hb : ((d : Int) == 0) = true := by simp [hd0]
            have HZ' : Hid (∀ i, j ≤ i → i < l.length → l.getD i 0 = 0) := fun i h1 h2 => by
              rcases Nat.lt_or_ge j i with h' | h'
              · exact HZ.out i h' h2
              · obtain rfl : i = j := by omega
                rw [← HD.out]; exact hd0
            clear hd0 HZ
            go_wp2_with fail
            exact ⟨⟨j, by omega, by simp, HZ'⟩, by simp⟩
          · have hb : ((d : Int) == 0) = false := by simp [hd0]
            have HD0 := Hid.mk' hd0
            clear hd0
            go_wp2_with fail
            go_ret
            refine ⟨_, rfl, ⟨l.take (j + 1), HWR.out.take _, fun i hi => ?_, ?_, HW.out.words (by omega) (by omega)⟩, HW.out.below⟩
            · have : i = j := by rw [List.length_take] at hi; omega
              subst this
              rw [wgetD_take (by omega), ← HD.out]; exact HD0.out
            · rw [wv_zeros l (j + 1) (by omega) (fun i h1 h2 => HZ.out i h1 h2)]; exact hval.out

/-- The difference of any two that are not of a million words. -/
theorem Minus_any (u v : Value) (a b k : Nat) (w : World) (ha : NatAt w u a) (hb : NatAt w v b) (hle : b ≤ a) (hka : a < 18446744073709551616 ^ k) (hk : k ≤ 1000000) :
    Calls Tryd.prog 43 #[u, v] w fun e w' => ∃ r, e = .returned r ∧ NatAt w' r (a - b) ∧ Below w.heap.size w w' := by
  obtain ⟨x, hx1, hx2, rfl, hx⟩ := ha
  obtain ⟨y, hy1, hy2, rfl, hy⟩ := hb
  have lx := wlen_le_of_lt hx2 hka
  refine Minus_words u v x y w hx1 hy1 hx hy ?_ hle (by omega)
  rcases Nat.lt_or_ge x.length y.length with h | h
  · have := wv_lt_of_len hx1 hy2 h; omega
  · exact h
end Go.Proofs.YtlnhpkmcinohdaaDoor
