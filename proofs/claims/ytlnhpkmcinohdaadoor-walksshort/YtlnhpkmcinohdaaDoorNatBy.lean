/- The program's products of numbers without a bound. -/
import Derived.Test.YtlnhpkmcinohdaaDoorNatMinus
namespace Go.Proofs.YtlnhpkmcinohdaaDoor
open Go.RowKit

theorem By_none (u v : Value) (x y : List Nat) (w : World) (h1 : WordsAt w u x) (h2 : WordsAt w v y) (h0 : x.length = 0 ∨ y.length = 0) (hlx : x.length ≤ 1000000) (hly : y.length ≤ 1000000) :
    Calls Tryd.prog 74 #[u, v] w fun e w' => ∃ r, e = .returned r ∧ NatNew w.heap.size w' r 0 ∧ Below w.heap.size w w' := by
  obtain ⟨a1, c1, rfl⟩ := h1.form
  obtain ⟨a2, c2, rfl⟩ := h2.form
  clear h1 h2
  have hn : ∀ W : World, NatNew w.heap.size W (.slice none 0 0) 0 := fun W => ⟨⟨[], fun i hi => by simp at hi, fun i hi => by simp at hi, rfl, Or.inl ⟨_, _, rfl, rfl⟩⟩, fun b o l c h => by cases h⟩
  by_cases hx : x.length = 0
  · have e1 : ((x.length : Int) == 0) = true := by simp [hx]
    clear h0 hx
    go_enter Tryd.func74, Tryd.ntmps74
    go_wp2_with fail
    go_ret
    exact ⟨_, rfl, hn _, Below.refl _ _⟩
  · have hy : y.length = 0 := by omega
    have e1 : ((x.length : Int) == 0) = false := by rw [beq_eq_false_iff_ne]; omega
    have e2 : ((y.length : Int) == 0) = true := by simp [hy]
    clear h0 hx hy
    go_enter Tryd.func74, Tryd.ntmps74
    go_wp2_with fail
    go_ret
    exact ⟨_, rfl, hn _, Below.refl _ _⟩

set_option maxRecDepth 10000 in
set_option maxHeartbeats 4000000 in
theorem By_words (u v : Value) (x y : List Nat) (w : World) (hx : Wrd x) (hy : Wrd y) (hnx : NoEnd x) (hny : NoEnd y) (h1 : WordsAt w u x) (h2 : WordsAt w v y) (hx0 : 0 < x.length) (hy0 : 0 < y.length) (hlx : x.length ≤ 1000000) (hly : y.length ≤ 1000000) :
    Calls Tryd.prog 74 #[u, v] w fun e w' => ∃ r, e = .returned r ∧ NatNew w.heap.size w' r (wv x * wv y) ∧ Below w.heap.size w w' := by
  obtain ⟨i0, hi, hz0, hz1, hz2⟩ := info_parts Tryd.infoWord
  have HINF : Hid (Tryd.prog.info? 82 = some i0 ∧ i0.zero = some (.int .u64 0) ∧ i0.size = 1 ∧ i0.bytes = 8) := ⟨hi, hz0, hz1, hz2⟩
  clear hi hz0 hz1 hz2
  obtain ⟨a1, c1, rfl⟩ := h1.form
  obtain ⟨a2, c2, rfl⟩ := h2.form
  have H1 := Hid.mk' h1
  have H2 := Hid.mk' h2
  have HX := Hid.mk' hx
  have HY := Hid.mk' hy
  have HNX := Hid.mk' hnx
  have HNY := Hid.mk' hny
  clear h1 h2 hx hy hnx hny
  have e1 : ((x.length : Int) == 0) = false := by rw [beq_eq_false_iff_ne]; omega
  have e2 : ((y.length : Int) == 0) = false := by rw [beq_eq_false_iff_ne]; omega
  go_enter Tryd.func74, Tryd.ntmps74
  go_wp2_with (at_make; go_must (refine wpList_make_full _ rfl _ _ _ rfl w.heap.size 82 i0 _ 1 Tryd.underlying68 HINF.out.1 HINF.out.2.1 HINF.out.2.2.1 .i64 .i64 _ _ (x.length + y.length) rfl rfl (by go_num) (by go_num) (by rw [HINF.out.2.2.2]; omega) (by unfold maxLen; omega) (Nat.le_refl _) ?_; intro w1 hown hgrow; have HW := Hid.mk' (wfill_made hown (made_word (x.length + y.length)) hgrow); clear hown hgrow))
  go_loopw [31] (fun i wr => ∃ (k : Nat) (l : List Nat), i = .int .i64 k ∧ k ≤ y.length ∧ Hid (l.length = x.length + y.length) ∧ Hid (wv l = wv x * wv (y.take k) ∧ Wrd l ∧ ∀ j, k + x.length ≤ j → l.getD j 0 = 0) ∧ Hid (WFill w wr w.heap.size l)) (fun i _ => y.length - (intOf i).toNat)
  case atStart => exact ⟨0, List.replicate (x.length + y.length) 0, rfl, by omega, by show _ = _; simp, ⟨by rw [List.take_zero]; have := wv_zeros_then (x.length + y.length) []; simpa [wv] using this, wrd_zeros _, fun j _ => by rw [List.getD_eq_getElem?_getD, List.getElem?_replicate]; split <;> rfl⟩, HW⟩
  case round =>
    clear HW
    obtain ⟨i, l, rfl, hi, HLN, HV, HW⟩ := hrel
    have hi0 : (0 : Int) ≤ (i : Int) := by omega
    by_cases hlt : i < y.length
    · obtain ⟨b2, o2, e2', hc2⟩ := (H2.out.later HW.out.below).cellAt hlt
      subst e2'
      have hiI : (i : Int) < (y.length : Int) := by omega
      have hq := getD_lt HY.out i
      obtain ⟨q, hqe⟩ : ∃ q : Nat, q = y.getD i 0 := ⟨_, rfl⟩
      have HQ := Hid.mk' hqe
      rw [← hqe] at hc2 hq
      clear hqe
      go_wp2_with fail
      obtain ⟨Wr, hWr⟩ : ∃ Wr, Wr = wr := ⟨_, rfl⟩
      rw [← hWr] at HW hc2 ⊢
      clear hWr hc2
      go_loopw [8, 38] (fun t s wr => ∃ (k c : Nat) (m : List Nat), s = .int .i64 k ∧ t = .int .u64 c ∧ k ≤ x.length ∧ c < 18446744073709551616 ∧ Hid (m.length = x.length + y.length) ∧ Hid (wv m + 18446744073709551616 ^ (i + k) * c = wv x * wv (y.take i) + 18446744073709551616 ^ i * (wv (x.take k) * q) ∧ Wrd m ∧ ∀ j, i + x.length ≤ j → m.getD j 0 = 0) ∧ Hid (WFill w wr w.heap.size m)) (fun _ s _ => x.length - (intOf s).toNat)
      case atStart => exact ⟨0, 0, l, rfl, rfl, by omega, by decide, HLN, ⟨by rw [HV.out.1]; simp [wv], HV.out.2⟩, HW⟩
      case round =>
        clear HW HV HLN
        obtain ⟨k, c, m, rfl, rfl, hk, hc, HLN, HV, HW⟩ := hrel
        have hk0 : (0 : Int) ≤ (k : Int) := by omega
        by_cases hkx : k < x.length
        · obtain ⟨b1, o1, e1', hc1⟩ := (H1.out.later HW.out.below).cellAt hkx
          subst e1'
          have hkI : (k : Int) < (x.length : Int) := by omega
          have hp := getD_lt HX.out k
          obtain ⟨p, hpe⟩ : ∃ p : Nat, p = x.getD k 0 := ⟨_, rfl⟩
          have HP := Hid.mk' hpe
          rw [← hpe] at hc1 hp
          clear hpe
          have hcell := HW.out.row (i + k) (by have := HLN.out; omega)
          have hfz := HW.out.fz (i + k) (by have := HLN.out; omega)
          have ho := getD_lt HV.out.2.1 (i + k)
          obtain ⟨o, hoe⟩ : ∃ o : Nat, o = m.getD (i + k) 0 := ⟨_, rfl⟩
          have HO := Hid.mk' hoe
          rw [← hoe] at hcell ho
          clear hoe
          have hbp := by_parts hp hq ho hc
          have hmul := Mul64_any p q wr hp hq
          have hH0 : p * q / 18446744073709551616 < 18446744073709551616 := by
            have := hbp.2; omega
          obtain ⟨H, hH⟩ : ∃ H, H = p * q / 18446744073709551616 := ⟨_, rfl⟩
          obtain ⟨L, hL⟩ : ∃ L, L = p * q % 18446744073709551616 := ⟨_, rfl⟩
          rw [← hH, ← hL] at hbp hmul
          rw [← hH] at hH0
          have hLb : L < 18446744073709551616 := by rw [hL]; exact Nat.mod_lt _ (by decide)
          have ha1 := Add64_any L o wr
          obtain ⟨M, hM⟩ : ∃ M, M = (L + o) % 18446744073709551616 := ⟨_, rfl⟩
          obtain ⟨C1, hC1⟩ : ∃ C1, C1 = (L + o) / 18446744073709551616 := ⟨_, rfl⟩
          rw [← hM, ← hC1] at ha1 hbp
          have hMb : M < 18446744073709551616 := by rw [hM]; exact Nat.mod_lt _ (by decide)
          have ha2 := Add64_any M c wr
          obtain ⟨R, hR⟩ : ∃ R, R = (M + c) % 18446744073709551616 := ⟨_, rfl⟩
          obtain ⟨C2, hC2⟩ : ∃ C2, C2 = (M + c) / 18446744073709551616 := ⟨_, rfl⟩
          rw [← hR, ← hC2] at ha2 hbp
          have hRb : R < 18446744073709551616 := by rw [hR]; exact Nat.mod_lt _ (by decide)
          have hsum : H + C1 + C2 < 18446744073709551616 := hbp.2
          have HBP := Hid.mk' hbp
          clear hH hL hbp hM hC1 hR hC2
          have hik1 : ((i : Int) + (k : Int)) < ((x.length + y.length : Nat) : Int) := by omega
          go_wp2_with fail
          refine hmul.mono ?_
          clear hmul
          rintro e w2 ⟨rfl, hw2⟩
          go_wp2_with fail
          have hln := HLN.out
          have hset := HW.out.set (j := i + k) (by omega) (R)
          have hst := by_step (l := m) (x := x) (q := q) (i := i) (k := k) (c := c) (o := o) (by omega) HO.out (by rw [← HP.out]; exact HBP.out.1) HV.out.1
          refine ⟨⟨k + 1, H + C1 + C2, m.set (i + k) (R), by go_num, ?_, by omega, hsum, by show _ = _; rw [List.length_set]; exact hln, ⟨hst, HV.out.2.1.set _ _ (by omega) hRb, fun j hj => by rw [getD_set m _ _ j (by omega), if_neg (by omega)]; exact HV.out.2.2 j hj⟩, ?_⟩, by simp [intOf]; omega⟩
          · congr 1
          · exact hset
        · obtain rfl : k = x.length := by omega
          have hcell := HW.out.row (i + x.length) (by have := HLN.out; omega)
          have hfz := HW.out.fz (i + x.length) (by have := HLN.out; omega)
          rw [HV.out.2.2 (i + x.length) (Nat.le_refl _)] at hcell
          have hik1 : ((i : Int) + (x.length : Int)) < ((x.length + y.length : Nat) : Int) := by omega
          go_wp2_with fail
          have hln := HLN.out
          have hset := HW.out.set (j := i + x.length) (by omega) c
          have hrow := by_row (l := m) (x := x) (y := y) (i := i) (c := c) (by omega) (HV.out.2.2 _ (Nat.le_refl _)) (by have := HV.out.1; rw [List.take_length, HQ.out] at this; exact this)
          refine ⟨⟨i + 1, m.set (i + x.length) c, by go_num, by omega, by show _ = _; rw [List.length_set]; exact hln, ⟨hrow, HV.out.2.1.set _ _ (by omega) hc, fun j hj => by rw [getD_set m _ _ j (by omega), if_neg (by omega)]; exact HV.out.2.2 j (by omega)⟩, ?_⟩, by simp [intOf]; omega⟩
          exact hset
    · obtain rfl : i = y.length := by omega
      have hln := HLN.out
      have hval : Hid (wv l = wv x * wv y) := by have := HV.out.1; rw [List.take_length] at this; exact this
      have hend := noEnd_by HNX.out HNY.out hx0 hy0 hval.out
      have HEND := Hid.mk' hend
      have HWR := Hid.mk' HV.out.2.1
      clear HV hend
      have hT1 : 1 < x.length + y.length := by omega
      have hT2 : x.length + y.length ≤ 2000000 := by omega
      generalize x.length + y.length = T at *
      obtain ⟨n, rfl⟩ : ∃ n, T = n + 1 := ⟨T - 1, by omega⟩
      have hcell := HW.out.row n (by omega)
      obtain ⟨d, hd⟩ : ∃ d : Nat, d = l.getD n 0 := ⟨_, rfl⟩
      rw [← hd] at hcell
      have HD := Hid.mk' hd
      clear hd
      have hn0 : (0 : Int) ≤ (n : Int) := by omega
      have hnI : (n : Int) < ((n + 1 : Nat) : Int) := by omega
      by_cases hd0 : d = 0
      · have hb : ((d : Int) == 0) = true := by simp [hd0]
        have HD0 := Hid.mk' hd0
        clear hd0
        go_wp2_with fail
        go_ret
        have hz := wv_drop_nought (l := l) (k := n) hln (by rw [← HD.out]; exact HD0.out)
        have hlt : (l.take n).length = n := by rw [List.length_take]; omega
        refine ⟨_, rfl, ⟨⟨l.take n, HWR.out.take _, ?_, by rw [hz]; exact hval.out, by simpa using HW.out.words (n := n) (by omega) (by omega)⟩, fun b o l c hv _ => by simp at hv; omega⟩, HW.out.below⟩
        refine noEnd_of_le (HWR.out.take _) (by omega) ?_
        rw [hz, hlt, show n - 1 = n + 1 - 2 by omega]
        exact HEND.out
      · have hb : ((d : Int) == 0) = false := by simp [hd0]
        have HD0 := Hid.mk' hd0
        clear hd0
        go_wp2_with fail
        go_ret
        refine ⟨_, rfl, ⟨⟨l, HWR.out, fun i hi => ?_, hval.out, ?_⟩, fun b o l c hv _ => by simp at hv; omega⟩, HW.out.below⟩
        · have : i = n := by omega
          subst this
          rw [← HD.out]; exact HD0.out
        · have := HW.out.words (n := n + 1) (cap := n + 1) (by omega) (by omega)
          rw [List.take_of_length_le (by omega)] at this
          exact this

/-- The product of any two that are not of a million words. -/
theorem By_new (u v : Value) (a b k : Nat) (w : World) (ha : NatAt w u a) (hb : NatAt w v b) (hka : a < 18446744073709551616 ^ k) (hkb : b < 18446744073709551616 ^ k) (hk : k ≤ 1000000) :
    Calls Tryd.prog 74 #[u, v] w fun e w' => ∃ r, e = .returned r ∧ NatNew w.heap.size w' r (a * b) ∧ Below w.heap.size w w' := by
  obtain ⟨x, hx1, hx2, rfl, hx⟩ := ha
  obtain ⟨y, hy1, hy2, rfl, hy⟩ := hb
  have lx := wlen_le_of_lt hx2 hka
  have ly := wlen_le_of_lt hy2 hkb
  by_cases h0 : x.length = 0 ∨ y.length = 0
  · have e : wv x * wv y = 0 := by
      rcases h0 with h0 | h0
      · rw [List.eq_nil_of_length_eq_zero h0]; simp [wv]
      · rw [List.eq_nil_of_length_eq_zero h0]; simp [wv]
    rw [e]
    exact By_none u v x y w hx hy h0 (by omega) (by omega)
  · exact By_words u v x y w hx1 hy1 hx2 hy2 hx hy (by omega) (by omega) (by omega) (by omega)
theorem By_any (u v : Value) (a b k : Nat) (w : World) (ha : NatAt w u a) (hb : NatAt w v b) (hka : a < 18446744073709551616 ^ k) (hkb : b < 18446744073709551616 ^ k) (hk : k ≤ 1000000) :
    Calls Tryd.prog 74 #[u, v] w fun e w' => ∃ r, e = .returned r ∧ NatAt w' r (a * b) ∧ Below w.heap.size w w' :=
  (By_new u v a b k w ha hb hka hkb hk).mono fun _ _ ⟨r, h1, h2, h3⟩ => ⟨r, h1, h2.1, h3⟩
end Go.Proofs.YtlnhpkmcinohdaaDoor
