/- The program's Cmp of numbers without a bound. -/
import Derived.Test.YtlnhpkmcinohdaaDoorWords
namespace Go.Proofs.YtlnhpkmcinohdaaDoor
open Go.RowKit

theorem Compare_int_any (x y : Nat) (w : World) :
    Calls Tryd.prog 66 #[.int .i64 x, .int .i64 y] w fun e w' => e = .returned (.int .i64 (cmpOf x y)) ∧ w' = w := by
  have h0 : ∀ z : Int, (z != z) = false := fun z => by simp
  have hx := h0 x
  have hy := h0 y
  clear h0
  rcases Nat.lt_trichotomy x y with h | h | h
  · rw [cmpOf_lt h]
    have h1 : (x : Int) < (y : Int) := by omega
    go_enter Tryd.func66, Tryd.ntmps66
    go_wp2
    go_ret
    exact ⟨rfl, rfl⟩
  · rw [cmpOf_eq h]
    subst h
    go_enter Tryd.func66, Tryd.ntmps66
    go_wp2
    go_ret
    exact ⟨rfl, rfl⟩
  · rw [cmpOf_gt h]
    have h1 : (y : Int) < (x : Int) := by omega
    go_enter Tryd.func66, Tryd.ntmps66
    go_wp2
    go_ret
    exact ⟨rfl, rfl⟩
theorem Compare_word_any (x y : Nat) (w : World) :
    Calls Tryd.prog 67 #[.int .u64 x, .int .u64 y] w fun e w' => e = .returned (.int .i64 (cmpOf x y)) ∧ w' = w := by
  have h0 : ∀ z : Int, (z != z) = false := fun z => by simp
  have hx := h0 x
  have hy := h0 y
  clear h0
  rcases Nat.lt_trichotomy x y with h | h | h
  · rw [cmpOf_lt h]
    have h1 : (x : Int) < (y : Int) := by omega
    go_enter Tryd.func67, Tryd.ntmps67
    go_wp2
    go_ret
    exact ⟨rfl, rfl⟩
  · rw [cmpOf_eq h]
    subst h
    go_enter Tryd.func67, Tryd.ntmps67
    go_wp2
    go_ret
    exact ⟨rfl, rfl⟩
  · rw [cmpOf_gt h]
    have h1 : (y : Int) < (x : Int) := by omega
    go_enter Tryd.func67, Tryd.ntmps67
    go_wp2
    go_ret
    exact ⟨rfl, rfl⟩

theorem NatCmp_len (a1 a2 : Option Addr) (n1 n2 c1 c2 : Nat) (w : World) (h : n1 ≠ n2) :
    Calls Tryd.prog 54 #[.slice a1 n1 c1, .slice a2 n2 c2] w fun e w' => e = .returned (.int .i64 (cmpOf n1 n2)) ∧ w' = w := by
  have h1 : ((n1 : Int) != (n2 : Int)) = true := by simp; omega
  have hc := Compare_int_any n1 n2 w
  clear h
  go_enter Tryd.func54, Tryd.ntmps54
  go_wp2_with fail
  refine hc.mono ?_
  rintro e w1 ⟨rfl, hw⟩
  go_wp2_with fail
  go_ret
  exact ⟨rfl, rfl⟩
theorem NatCmp_zero (a1 a2 : Option Addr) (c1 c2 : Nat) (w : World) :
    Calls Tryd.prog 54 #[.slice a1 0 c1, .slice a2 0 c2] w fun e w' => e = .returned (.int .i64 0) ∧ w' = w := by
  go_enter Tryd.func54, Tryd.ntmps54
  go_wp2_with fail
  refine wp_loop_rounds 1 ?_
  rw [rounds_succ]
  go_wp2_with fail
  go_ret
  exact ⟨rfl, rfl⟩

set_option maxRecDepth 10000 in
set_option maxHeartbeats 1000000 in
theorem NatCmp_same (b1 o1 c1 b2 o2 c2 : Nat) (x y : List Nat) (w : World) (hx : Wrd x) (hy : Wrd y) (hl : x.length = y.length) (hn : x.length ≤ 1000000)
    (h1 : ∀ i, i < x.length → w.cell? ⟨b1, o1 + i, none⟩ = some (.int .u64 ((x.getD i 0 : Nat) : Int))) (h2 : ∀ i, i < x.length → w.cell? ⟨b2, o2 + i, none⟩ = some (.int .u64 ((y.getD i 0 : Nat) : Int))) :
    Calls Tryd.prog 54 #[.slice (some ⟨b1, o1, none⟩) x.length c1, .slice (some ⟨b2, o2, none⟩) x.length c2] w fun e w' => e = .returned (.int .i64 (cmpOf (wv x) (wv y))) ∧ ∃ m, w' = w.drewN m := by
  have H1 := Hid.mk' h1
  have H2 := Hid.mk' h2
  have HX := Hid.mk' hx
  have HY := Hid.mk' hy
  have HL := Hid.mk' hl
  clear h1 h2 hx hy hl
  go_enter Tryd.func54, Tryd.ntmps54
  go_wp2_with fail
  go_loopw [5] (fun t wr => ∃ k m : Nat, k ≤ x.length ∧ t = .int .i64 ((k : Int) - 1) ∧ Hid (∀ i, k ≤ i → i < x.length → x.getD i 0 = y.getD i 0) ∧ wr = w.drewN m) (fun t _ => (intOf t + 1).toNat)
  case atStart => exact ⟨x.length, 0, Nat.le_refl _, rfl, fun i h1 h2 => by omega, rfl⟩
  case round =>
    obtain ⟨k, m, hk, rfl, HE, rfl⟩ := hrel
    rcases Nat.eq_zero_or_pos k with rfl | hpos
    · have he : x = y := wlist_ext_getD HL.out (fun i hi => HE.out i (by omega) hi)
      go_wp2_with fail
      go_ret
      exact ⟨ret_int (cmpOf_eq (by rw [he])).symm, m, rfl⟩
    · obtain ⟨j, rfl⟩ : ∃ j, k = j + 1 := ⟨k - 1, by omega⟩
      have y1 := H1.out j (by omega)
      have y2 := H2.out j (by omega)
      have i0 : (0 : Int) ≤ (j : Int) := by omega
      have i1 : (j : Int) < (x.length : Int) := by omega
      obtain ⟨d, hd⟩ : ∃ d : Nat, d = x.getD j 0 := ⟨_, rfl⟩
      obtain ⟨f, hf⟩ : ∃ f : Nat, f = y.getD j 0 := ⟨_, rfl⟩
      rw [← hd] at y1
      rw [← hf] at y2
      have HD := Hid.mk' hd
      have HF := Hid.mk' hf
      clear hd hf
      have hjj : ((j + 1 : Nat) : Int) - 1 = (j : Int) := by omega
      rw [hjj]
      clear hjj
      by_cases heq : d = f
      · subst heq
        have hb : ((d : Int) != (d : Int)) = false := by simp
        have HE' : Hid (∀ i, j ≤ i → i < x.length → x.getD i 0 = y.getD i 0) := fun i h1 h2 => by
          rcases Nat.lt_or_ge j i with h' | h'
          · exact HE.out i (by omega) h2
          · obtain rfl : i = j := by omega
            rw [← HD.out, ← HF.out]
        clear HE
        go_wp2_with fail
        go_quiet (fail)
        go_wp2_with fail
        exact ⟨⟨j, _, by omega, rfl, HE', rfl⟩, by simp [intOf]⟩
      · have hb : ((d : Int) != (f : Int)) = true := by simp; omega
        have hres : Hid (cmpOf d f = cmpOf (wv x) (wv y)) := by
          rcases Nat.lt_or_ge d f with hlt | hge
          · show _ = _
            rw [cmpOf_lt hlt, cmpOf_lt (wv_lt_of_place HX.out j (by omega) HL.out (fun i h1 h2 => HE.out i (by omega) h2) (by rw [← HD.out, ← HF.out]; exact hlt))]
          · have hgt : f < d := by omega
            show _ = _
            rw [cmpOf_gt hgt, cmpOf_gt (wv_lt_of_place HY.out j (by have := HL.out; omega) HL.out.symm (fun i h1 h2 => (HE.out i (by omega) (by have := HL.out; omega)).symm) (by rw [← HD.out, ← HF.out]; exact hgt))]
        clear heq HE
        go_wp2_with fail
        go_quiet (fail)
        go_wp2_with fail
        go_quiet (exact (Compare_word_any d f _).mono fun _ _ h => ⟨h.1, _, h.2⟩)
        go_wp2_with fail
        go_ret
        refine ⟨ret_int hres.out, ?_⟩
        simp only [World.drewN_drewN]
        exact ⟨_, rfl⟩

/-- Cmp of any two that are not of a million words. -/
theorem NatCmp_any (u v : Value) (a b k : Nat) (w : World) (ha : NatAt w u a) (hb : NatAt w v b) (hka : a < 18446744073709551616 ^ k) (hkb : b < 18446744073709551616 ^ k) (hk : k ≤ 1000000) :
    Calls Tryd.prog 54 #[u, v] w fun e w' => e = .returned (.int .i64 (cmpOf a b)) ∧ ∃ m, w' = w.drewN m := by
  obtain ⟨x, hx1, hx2, rfl, hx⟩ := ha
  obtain ⟨y, hy1, hy2, rfl, hy⟩ := hb
  have lx := wlen_le_of_lt hx2 hka
  have ly := wlen_le_of_lt hy2 hkb
  by_cases h : x.length = y.length
  · rcases hx with ⟨ad, cap, rfl, rfl⟩ | ⟨b1, o1, c1, rfl, h1, h2, h3⟩
    · obtain ⟨ad', cap', rfl⟩ := hy.form
      have hy0 : y = [] := List.eq_nil_of_length_eq_zero h.symm
      subst hy0
      exact (NatCmp_zero ad ad' cap cap' w).mono fun e w' ⟨he, hw⟩ => ⟨by rw [he, cmpOf_eq rfl], 0, hw⟩
    · rcases hy with ⟨ad', cap', rfl, rfl⟩ | ⟨b2, o2, c2, rfl, h4, h5, h6⟩
      · exact absurd h (by simp; intro h0; rw [h0] at h2; simp at h2)
      · have := NatCmp_same b1 o1 c1 b2 o2 c2 x y w hx1 hy1 h (by omega) h3 (fun i hi => h6 i (by omega))
        rw [← h]
        exact this
  · obtain ⟨ad, cap, rfl⟩ := hx.form
    obtain ⟨ad', cap', rfl⟩ := hy.form
    refine (NatCmp_len ad ad' _ _ cap cap' w h).mono fun e w' ⟨he, hw⟩ => ⟨?_, 0, hw⟩
    rw [he]
    rcases Nat.lt_or_ge x.length y.length with h' | h'
    · rw [cmpOf_lt h', cmpOf_lt (wv_lt_of_len hx1 hy2 h')]
    · have h'' : y.length < x.length := by omega
      rw [cmpOf_gt h'', cmpOf_gt (wv_lt_of_len hy1 hx2 h'')]
end Go.Proofs.YtlnhpkmcinohdaaDoor
