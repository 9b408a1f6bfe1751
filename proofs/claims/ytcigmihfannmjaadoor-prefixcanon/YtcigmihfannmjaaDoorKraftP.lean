/- prefix.Kraft; the document's LengthsError and KraftOf. -/
import Derived.Test.YtcigmihfannmjaaDoorCanonP
import Derived.Test.YtcigmihfannmjaaDoorRTold
import Derived.Test.YtcigmihfannmjaaDoorRatioOps
import Derived.Deep.RegionWith
namespace Go.Proofs.YtcigmihfannmjaaDoor
open Go.RowKit

set_option maxRecDepth 10000 in
set_option maxHeartbeats 1000000 in
theorem lowest_fifty (n : Int) (d : Nat) (w : World) (h1 : -1125899906842624 ≤ n) (h2 : n ≤ 1125899906842624) (hd0 : 1 ≤ d) (hd1 : d ≤ 1125899906842624) (g : Nat) (hg : g = Nat.gcd n.natAbs d) : Calls Tryd.prog 28 #[.int .i64 n, .int .i64 d] w fun e w' => e = .returned (.agg #[.int .i64 (n.tdiv (g : Int)), .int .i64 ((d / g : Nat) : Int)]) ∧ Below w.heap.size w w' := by
  have hB0 : Below w.heap.size w (w.alloc (.cells #[.int .i64 0, .int .i64 0] 33)) := (Below.refl _ _).alloc (Nat.le_refl _) _
  have hgc := GCD_any n d (w.alloc (.cells #[.int .i64 0, .int .i64 0] 33)) (by omega) (by omega) (by omega) (by omega)
  have hgi : Int.gcd n (d : Int) = g := by rw [hg]; simp [Int.gcd]
  rw [hgi] at hgc
  have hgp : 0 < g := by rw [hg]; exact Nat.gcd_pos_of_pos_right _ hd0
  have hgz : ¬ g = 0 := by omega
  have hgl : g ≤ d := by rw [hg]; exact Nat.gcd_le_right _ (by omega)
  have HB := Hid.mk' hB0
  clear hB0 hgi hg
  go_enter Tryd.func28, Tryd.ntmps28
  go_wp2_with fail
  refine hgc.mono ?_
  clear hgc
  rintro e w1 ⟨rfl, m, rfl⟩
  go_wp2_with fail
  go_region
  go_wp2_with fail
  refine bodyPost_ret (v := .agg #[.int .i64 (n.tdiv (g : Int)), .int .i64 (wrap64 ((d : Int) / (g : Int)))]) (by simp [results, Tryd.results28, go_sem]) rfl ⟨by rw [quo_nat50 hd1], ?_⟩
  exact ((below_drewN HB.out _).setCell (by simp) _).setCell (by simp) _

set_option maxRecDepth 100000 in
theorem LengthsError_any (v : Value) (n : Nat) (z : Nat → Int) (w : World) (h : NumsAt w v n z) (hn : n ≤ 1000000) :
    Calls Tryd.prog 13 #[v] w fun e w' => e = .returned (.int .i64 (lenErr n z : Nat)) ∧ w' = w := by
  obtain ⟨ad, cap, rfl⟩ := h.form
  have HR : Hid (∀ i, i < n → ∃ b o, ad = some ⟨b, o, none⟩ ∧ w.cell? ⟨b, o + i, none⟩ = some (.int .i64 (z i))) := fun i hi => by
    rcases h with ⟨_, _, _, h0⟩ | ⟨b, o, c, h1, _, h2⟩
    · omega
    · simp only [Value.slice.injEq, true_and] at h1
      exact ⟨b, o, h1.1, h2 i hi⟩
  clear h
  by_cases h16 : 16 < n
  · have HL : Hid (lenErr n z = 2) := by show _ = _; unfold lenErr; rw [if_pos h16]
    go_enter Tryd.func13, Tryd.ntmps13
    go_wp2_with fail
    go_ret
    exact ⟨by rw [HL.out]; rfl, rfl⟩
  · have h16' : n ≤ 16 := by omega
    clear h16
    go_enter Tryd.func13, Tryd.ntmps13
    go_wp2_with fail
    go_loop [3] (fun t => ∃ i : Nat, i ≤ n ∧ t = .int .i64 i ∧ Hid (badLen z i = false)) (fun t => n - (intOf t).toNat)
    case atStart => exact ⟨0, Nat.zero_le _, rfl, rfl⟩
    case round =>
      obtain ⟨i, hi, rfl, HL⟩ := hrel
      rcases Nat.lt_or_ge i n with h1 | h1
      · have hiI : (i : Int) < (n : Int) := by omega
        have hi0 : (0 : Int) ≤ (i : Int) := by omega
        obtain ⟨b, o, rfl, hc⟩ := HR.out i h1
        have HBad : Hid (z i < 1 ∨ 40 < z i → lenErr n z = 3) := fun hb => by
          unfold lenErr
          rw [if_neg (by omega), if_pos (Or.inr (by
            cases hbn : badLen z n with
            | true => rfl
            | false => have := badLen_no.1 hbn i h1; omega))]
        have HN : Hid (1 ≤ z i → z i ≤ 40 → badLen z (i + 1) = false) := fun h2 h3 => by
          rw [badLen, HL.out]; simp; omega
        generalize z i = x at *
        by_cases hx1 : x < 1
        · go_wp2_with fail
          go_ret
          exact ⟨by rw [HBad.out (Or.inl hx1)]; rfl, rfl⟩
        · have hx1' : 1 ≤ x := by omega
          clear hx1
          by_cases hx2 : 40 < x
          · go_wp2_with fail
            go_ret
            exact ⟨by rw [HBad.out (Or.inr hx2)]; rfl, rfl⟩
          · have hx2' : x ≤ 40 := by omega
            clear hx2
            go_wp2_with fail
            go_round
            case rel => exact ⟨i + 1, h1, by go_num, HN.out hx1' hx2'⟩
            case measure => simp [intOf]; omega
      · obtain rfl : n = i := by omega
        by_cases h0 : n = 0
        · have HE : Hid (lenErr n z = 3) := by show _ = _; unfold lenErr; rw [if_neg (by omega), if_pos (Or.inl h0)]
          subst h0
          go_wp2_with fail
          go_ret
          exact ⟨by rw [HE.out]; rfl, rfl⟩
        · have HE : Hid (lenErr n z = 0) := by show _ = _; unfold lenErr; rw [if_neg (by omega), if_neg (by rw [HL.out]; simp; omega)]
          have hb : ((n : Int) == 0) = false := by rw [beq_eq_false_iff_ne]; omega
          go_wp2_with fail
          go_ret
          exact ⟨by rw [HE.out]; rfl, rfl⟩

set_option maxRecDepth 100000 in
theorem KraftOf_any (v : Value) (n : Nat) (z : Nat → Int) (w : World) (h : NumsAt w v n z) (hn : n ≤ 16) (hz : ∀ i, i < n → 1 ≤ z i ∧ z i ≤ 40) :
    Calls Tryd.prog 18 #[v] w fun e w' => e = .returned (.int .i64 (shareSum z n : Nat)) ∧ w' = w := by
  obtain ⟨ad, cap, rfl⟩ := h.form
  have HR : Hid (∀ i, i < n → ∃ b o, ad = some ⟨b, o, none⟩ ∧ w.cell? ⟨b, o + i, none⟩ = some (.int .i64 (z i))) := fun i hi => by
    rcases h with ⟨_, _, _, h0⟩ | ⟨b, o, c, h1, _, h2⟩
    · omega
    · simp only [Value.slice.injEq, true_and] at h1
      exact ⟨b, o, h1.1, h2 i hi⟩
  clear h
  go_enter Tryd.func18, Tryd.ntmps18
  go_wp2_with fail
  go_loop [3, 4] (fun s t => ∃ i : Nat, i ≤ n ∧ t = .int .i64 i ∧ s = .int .i64 (shareSum z i : Nat)) (fun _ t => n - (intOf t).toNat)
  case atStart => exact ⟨0, Nat.zero_le _, rfl, rfl⟩
  case round =>
    obtain ⟨i, hi, rfl, rfl⟩ := hrel
    rcases Nat.lt_or_ge i n with h1 | h1
    · have hiI : (i : Int) < (n : Int) := by omega
      have hi0 : (0 : Int) ≤ (i : Int) := by omega
      obtain ⟨b, o, rfl, hc⟩ := HR.out i h1
      have hzi := hz i h1
      obtain ⟨x, hx⟩ : ∃ x : Nat, z i = (x : Int) := ⟨(z i).toNat, by omega⟩
      have HS : Hid (shareSum z (i + 1) = shareSum z i + 2 ^ (40 - x)) := by show _ = _; rw [shareSum, hx]; rfl
      have hsl := shareSum_le z i
      have hp := pow40 x
      have HW := Hid.mk' (wrap_pow x)
      rw [hx] at hc hzi
      have hx40 : (x : Int) ≤ 40 := by omega
      have hx0 : (0 : Int) ≤ (x : Int) := by omega
      clear hx hz
      generalize shareSum z i = S at *
      go_wp2_with fail
      refine ⟨⟨i + 1, h1, by go_num, ?_⟩, by simp [intOf]; omega⟩
      have hp2 := hp.2
      rw [HS.out, HW.out]
      generalize 2 ^ (40 - x) = P at *
      rw [w64 _ (by omega)]
      go_num
    · obtain rfl : n = i := by omega
      go_wp2_with fail
      go_ret
      exact ⟨rfl, rfl⟩
set_option maxRecDepth 100000 in
theorem Kraft_ok (a : Nat → Addr) (v : Value) (n : Nat) (z : Nat → Int) (w : World) (hE : Errs w a) (h : NumsAt w v n z) (hok : lenErr n z = 0) (g : Nat) (hg : g = Nat.gcd (shareSum z n) 1099511627776) :
    Calls Tryd.prog 12 #[v] w fun e w' => e = .returned (.tuple #[.agg #[.int .i64 ((shareSum z n / g : Nat) : Int), .int .i64 ((1099511627776 / g : Nat) : Int)], .nilIface]) ∧ Below w.heap.size w w' := by
  obtain ⟨hn0, hn, hz⟩ := lenErr_ok hok
  have HCH : Hid (∀ W, Below w.heap.size w W → Calls Tryd.prog 27 #[v] W fun e w' => e = .returned .nilIface ∧ w' = W) := fun W hb => by
    have := checkLengths_any a v n z W (hE.below hb) (h.later hb) (by omega)
    rwa [hok, errV_zero] at this
  have HSS : Hid (∀ W, Below w.heap.size w W → Calls Tryd.prog 29 #[v] W fun e w' => e = .returned (.int .i64 (shareSum z n : Nat)) ∧ w' = W) := fun W hb => shares_any v n z W (h.later hb) hn hz
  have hsl := shareSum_le z n
  have HLO : Hid (∀ W, Calls Tryd.prog 28 #[.int .i64 (shareSum z n : Nat), .int .i64 1099511627776] W fun e w' => e = .returned (.agg #[.int .i64 ((shareSum z n / g : Nat) : Int), .int .i64 ((1099511627776 / g : Nat) : Int)]) ∧ Below W.heap.size W w') := fun W => by
    have h1 := lowest_fifty (shareSum z n : Nat) 1099511627776 W (by omega) (by omega) (by omega) (by omega) g (by rw [hg]; rfl)
    have e1 : ((shareSum z n : Nat) : Int).tdiv (g : Int) = ((shareSum z n / g : Nat) : Int) := by rw [Int.tdiv_eq_ediv_of_nonneg (by omega)]; simp
    rw [e1] at h1
    exact h1
  have HSH : Hid (∀ W, Calls Tryd.prog 30 #[.int .i64 0] W fun e w' => e = .returned (.int .i64 1099511627776) ∧ w' = W) := fun W => by
    have h1 := share_any 0 W (by omega)
    have hp40 : (2 ^ (40 - 0) : Nat) = 1099511627776 := by decide
    rwa [hp40] at h1
  clear h hE hok hz hsl
  generalize shareSum z n = S at *
  generalize S / g = N at *
  generalize 1099511627776 / g = D at *
  obtain ⟨W0, hW0⟩ : ∃ W0, W0 = w.alloc (.cells #[.int .i64 0, .int .i64 0] 33) := ⟨_, rfl⟩
  have hb0 : Below w.heap.size w W0 := by rw [hW0]; exact (Below.refl _ _).alloc (Nat.le_refl _) _
  have HB0 := Hid.mk' hb0
  have HC : Hid (∀ W, Below W0.heap.size W0 W → W.cell? ⟨w.heap.size, 0, none⟩ = some (.int .i64 0) ∧ W.cell? ⟨w.heap.size, 1, none⟩ = some (.int .i64 0) ∧ W.frozen? ⟨w.heap.size, 0, none⟩ = false ∧ W.frozen? ⟨w.heap.size, 1, none⟩ = false) := fun W hb => by
    rw [hW0] at hb
    have hl : w.heap.size < (w.alloc (.cells #[.int .i64 0, .int .i64 0] 33)).heap.size := by simp
    refine ⟨?_, ?_, ?_, ?_⟩
    · rw [hb.cell (p := ⟨w.heap.size, 0, none⟩) hl, World.cell?_alloc_at _ _ _ _ rfl]; rfl
    · rw [hb.cell (p := ⟨w.heap.size, 1, none⟩) hl, World.cell?_alloc_at _ _ _ _ rfl]; rfl
    · rw [hb.frozen (p := ⟨w.heap.size, 0, none⟩) hl]; exact World.frozen?_alloc_new _ _ _ _
    · rw [hb.frozen (p := ⟨w.heap.size, 1, none⟩) hl]; exact World.frozen?_alloc_new _ _ _ _
  clear hb0
  go_enter Tryd.func12, Tryd.ntmps12
  go_wp2_with (first
    | (go_at_call 27; rw [← hW0]; clear hW0; refine (HCH.out W0 HB0.out).mono ?_; rintro e w1 ⟨rfl, hw1⟩; rw [hw1]; clear hw1)
    | (go_at_call 29; refine (HSS.out W0 HB0.out).mono ?_; rintro e w2 ⟨rfl, hw2⟩; rw [hw2]; clear hw2)
    | (go_at_call 30; refine (HSH.out _).mono ?_; rintro e w3 ⟨rfl, hw3⟩; rw [hw3]; clear hw3)
    | (go_at_call 28; refine (HLO.out _).mono ?_; rintro e w4 ⟨rfl, hb4⟩; have hc4 := HC.out w4 hb4; obtain ⟨c0, c1, f0, f1⟩ := hc4; have HB4 := Hid.mk' (below_chain HB0.out hb4); clear hb4))
  exact bodyPost_ret (v := .tuple #[.agg #[.int .i64 (N : Int), .int .i64 (D : Int)], .nilIface]) (by simp [results, Tryd.results12, go_sem, c0, c1]) rfl ⟨rfl, (HB4.out.setCell (Nat.le_refl _) _).setCell (Nat.le_refl _) _⟩
set_option maxRecDepth 100000 in
theorem Kraft_bad (a : Nat → Addr) (v : Value) (n : Nat) (z : Nat → Int) (w : World) (hE : Errs w a) (h : NumsAt w v n z) (hn : n ≤ 1000000) (hb : lenErr n z ≠ 0) :
    Calls Tryd.prog 12 #[v] w fun e w' => e = .returned (.tuple #[.agg #[.int .i64 0, .int .i64 0], errV a (lenErr n z)]) ∧ Below w.heap.size w w' := by
  obtain ⟨W0, hW0⟩ : ∃ W0, W0 = w.alloc (.cells #[.int .i64 0, .int .i64 0] 33) := ⟨_, rfl⟩
  have hb0 : Below w.heap.size w W0 := by rw [hW0]; exact (Below.refl _ _).alloc (Nat.le_refl _) _
  have hch := checkLengths_any a v n z W0 (hE.below hb0) (h.later hb0) hn
  rw [errV_pos a hb] at hch ⊢
  rw [hW0] at hch
  clear hE h hb hb0 hW0
  go_enter Tryd.func12, Tryd.ntmps12
  go_wp2_with fail
  refine hch.mono ?_
  clear hch
  rintro e w1 ⟨rfl, hw1⟩
  rw [hw1]
  clear hw1
  go_wp2_with fail
  exact bodyPost_ret (v := .tuple #[.agg #[.int .i64 0, .int .i64 0], .iface 174 (.pointer (some (a (lenErr n z - 1))))]) (by simp [results, Tryd.results12, go_sem]) rfl ⟨rfl, (Below.refl _ _).alloc (Nat.le_refl _) _⟩
end Go.Proofs.YtcigmihfannmjaaDoor
