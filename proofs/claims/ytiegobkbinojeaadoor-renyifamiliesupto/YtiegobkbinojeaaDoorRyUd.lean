/- The document's IsUniversal. -/
import Derived.Test.YtiegobkbinojeaaDoorRyUni
import Derived.Test.YtiegobkbinojeaaDoorRyCmp
namespace Go.Proofs.YtiegobkbinojeaaDoor
open Go.RowKit

set_option maxRecDepth 100000 in
set_option maxHeartbeats 8000000 in
theorem IsUniversal_any (M : Nat) (v : Value) (R : Nat) (vs : Nat → Value) (ns : Nat → Nat) (zs : Nat → Nat → Int) (w : World) (h : TabAt w v R vs ns zs) (hok : FamOk (M : Int) R ns zs) :
    Calls Tryd.prog 14 #[.agg #[.int .i64 (M : Int), v]] w fun e w' => e = .returned (.bool (uniB (M : Int) R (ns 0) zs)) ∧ Below w.heap.size w w' := by
  obtain ⟨ad, cap, rfl⟩ := h.form
  obtain ⟨w1, hw1⟩ : ∃ w1, w1 = w.alloc (.cells #[.int .i64 (M : Int), .slice ad R cap] 24) := ⟨_, rfl⟩
  have hb1 : Below w.heap.size w w1 := by rw [hw1]; exact (Below.refl _ _).alloc (Nat.le_refl _) _
  have hc0 : w1.cell? ⟨w.heap.size, 0, none⟩ = some (.int .i64 (M : Int)) := by rw [hw1]; go_simp
  have hc1 : w1.cell? ⟨w.heap.size, 1, none⟩ = some (.slice ad R cap) := by rw [hw1]; go_simp
  obtain ⟨n, hn⟩ : ∃ n, n = ns 0 := ⟨_, rfl⟩
  have hn16 : n ≤ 16 := by rw [hn]; exact hok.n16
  have hn0 : 0 < n := by rw [hn]; exact hok.n0
  have hRpos := hok.pos
  have hR64 := hok.le
  have hM1 := hok.m1
  have hM16 := hok.m16
  have HB1 := Hid.mk' hb1
  have HW1 := Hid.mk' hw1
  have HT : Hid (∀ W, Below w1.heap.size w1 W → TabAt W (.slice ad R cap) R vs ns zs) := fun W hb => (h.later hb1).later hb
  have HLN : Hid (∀ i, i < R → ns i = n) := fun i hi => by rw [hok.len i hi, hn]
  obtain ⟨b, o, rfl, hz0, hzn⟩ := (h.later hb1).rowR hRpos
  obtain ⟨zad, zcap, hv0⟩ := hzn.form
  rw [hv0, Nat.add_zero, ← hn] at hz0
  have HC : Hid (∀ W, Below w1.heap.size w1 W → W.cell? ⟨w.heap.size, 0, none⟩ = some (.int .i64 (M : Int)) ∧ W.cell? ⟨w.heap.size, 1, none⟩ = some (.slice (some ⟨b, o, none⟩) R cap) ∧ W.cell? ⟨b, o, none⟩ = some (.slice zad n zcap)) := fun W hb => ⟨by rw [hb.cell (cell_lt hc0)]; exact hc0, by rw [hb.cell (cell_lt hc1)]; exact hc1, by rw [hb.cell (cell_lt hz0)]; exact hz0⟩
  have HRW : Hid (∀ i, i < R → ∃ rb ro rc, ∀ W, Below w1.heap.size w1 W → W.cell? ⟨b, o + i, none⟩ = some (.slice (some ⟨rb, ro, none⟩) n rc) ∧ RowAt W rb ro n (zs i)) := fun i hi => by
    obtain ⟨b', o', hbo, hcv, hnum⟩ := (HT.out w1 (Below.refl _ _)).rowR hi
    obtain ⟨rfl, rfl⟩ : b = b' ∧ o = o' := by simpa using hbo
    rw [HLN.out i hi] at hnum
    rcases hnum with ⟨_, _, _, h0⟩ | ⟨rb, ro, rc, hv, _, hrow⟩
    · omega
    · rw [hv] at hcv
      exact ⟨rb, ro, rc, fun W hb => ⟨by rw [hb.cell (cell_lt hcv)]; exact hcv, hrow.later hb⟩⟩
  have HRA : Hid (∀ (t : Nat) W, t ≤ R → Calls Tryd.prog 22 #[.int .i64 (t : Int), .int .i64 (R : Int)] W fun e w' => ∃ r, e = .returned r ∧ LR w' r R (t : Int) ∧ Below W.heap.size W w') := fun t W ht => RatioOf_to (t : Int) R R (t : Int) W (by omega) (by omega) hRpos (by omega) hRpos rfl
  have HRB : Hid (∀ W, Calls Tryd.prog 22 #[.int .i64 1, .int .i64 (M : Int)] W fun e w' => ∃ r, e = .returned r ∧ LR w' r M 1 ∧ Below W.heap.size W w') := fun W => RatioOf_to 1 M M 1 W (by decide) (by decide) (by omega) (by omega) (by omega) rfl
  have HCM : Hid (∀ (t : Nat) W (u v : Value), t ≤ R → LR W u R (t : Int) → LR W v M 1 → Calls Tryd.prog 24 #[u, v] W fun e w' => e = .returned (.int .i64 (sgnZ ((t : Int) * (M : Int) - 1 * (R : Int)))) ∧ Below W.heap.size W w') := fun t W u v ht hu hv => RCmp_toR u v R M (t : Int) 1 W hu hv ⟨hRpos, by omega, by rw [Int.natAbs_natCast]; omega⟩ ⟨by omega, by omega, by decide⟩
  have HBAD : Hid (∀ x y, x < y → y < n → tooB (M : Int) R zs x y = true → uniB (M : Int) R n zs = false) := fun x y hxy hyn ht => by
    have ht' : tooB (M : Int) R zs y x = true := by unfold tooB at ht ⊢; rw [togN_sym]; exact ht
    show (!anyR _ n) = false
    rw [anyR_at (p := fun x => anyR (fun y => tooB (M : Int) R zs x y) x) (k := y) (anyR_at (p := fun x => tooB (M : Int) R zs y x) ht' hxy) hyn]; rfl
  have HGOOD : Hid ((∀ x y, x < y → y < n → tooB (M : Int) R zs x y = false) → uniB (M : Int) R n zs = true) := fun hg => by
    show (!anyR _ n) = true
    rw [anyR_none (p := fun x => anyR (fun y => tooB (M : Int) R zs x y) x) (fun y hy => anyR_none (p := fun x => tooB (M : Int) R zs y x) (fun x hx => by
      have := hg x y hx hy
      unfold tooB at this ⊢; rw [togN_sym]; exact this))]; rfl
  have hRI : (0 : Int) < (R : Int) := by omega
  rw [← hn]
  clear h hb1 hw1 hn hok hzn hv0 HT HLN hn0
  go_enter Tryd.func14, Tryd.ntmps14
  go_upto_region 1 with fail
  rw [← HW1.out]
  go_wp2_with fail
  clear hc0 hc1 hz0
  go_loopw [3] (fun t wr => ∃ x : Nat, x ≤ n ∧ t = .int .i64 (x : Int) ∧ Hid (Below w1.heap.size w1 wr) ∧ Hid (∀ x' y, x' < x → x' < y → y < n → tooB (M : Int) R zs x' y = false)) (fun t _ => n - (intOf t).toNat)
  case atStart => exact ⟨0, Nat.zero_le _, rfl, Below.refl _ _, fun x' y hx => by omega⟩
  case round =>
    obtain ⟨x, hx, rfl, HB, HK⟩ := hrel
    have hc1 := (HC.out wr HB.out).2.1
    have hz0 := (HC.out wr HB.out).2.2
    rcases Nat.lt_or_ge x n with h1 | h1
    · have hxI : (x : Int) < (n : Int) := by omega
      have hx0 : (0 : Int) ≤ (x : Int) := by omega
      have HBO := HB
      go_wp2_with fail
      clear hc1 hz0
      go_loopw [4] (fun t wx => ∃ y : Nat, x + 1 ≤ y ∧ y ≤ n ∧ t = .int .i64 (y : Int) ∧ Hid (Below w1.heap.size w1 wx) ∧ Hid (∀ y', x < y' → y' < y → tooB (M : Int) R zs x y' = false)) (fun t _ => n - (intOf t).toNat)
      case atStart => exact ⟨x + 1, Nat.le_refl _, by omega, by go_num, HBO.out, fun y' hy hy' => by omega⟩
      case round =>
        clear HB HBO
        obtain ⟨y, hy, hyn, rfl, HB, HJ⟩ := hrel
        have hc1 := (HC.out wr HB.out).2.1
        have hz0 := (HC.out wr HB.out).2.2
        rcases Nat.lt_or_ge y n with h2 | h2
        · have hyI : (y : Int) < (n : Int) := by omega
          have hy0 : (0 : Int) ≤ (y : Int) := by omega
          have HBO := HB
          have HBADX := Hid.mk' (HBAD.out x y (by omega) h2)
          have HGOX : Hid (tooB (M : Int) R zs x y = false → ∀ y', x < y' → y' < y + 1 → tooB (M : Int) R zs x y' = false) := fun hb y' hy1 hy2 => by
            rcases Nat.lt_or_ge y' y with h' | h'
            · exact HJ.out y' hy1 h'
            · obtain rfl : y' = y := by omega
              exact hb
          clear HB HJ
          go_wp2_with fail
          clear hc1 hz0
          go_loopw [5, 6] (fun s t wx => ∃ i : Nat, i ≤ R ∧ s = .int .i64 (togN zs x y i : Nat) ∧ t = .int .i64 (i : Int) ∧ Hid (Below w1.heap.size w1 wx)) (fun _ t _ => R - (intOf t).toNat)
          case atStart => exact ⟨0, Nat.zero_le _, rfl, rfl, HBO.out⟩
          case round =>
            clear HBO
            obtain ⟨i, hi, rfl, rfl, HB⟩ := hrel
            have hc0 := (HC.out wr HB.out).1
            have hc1 := (HC.out wr HB.out).2.1
            rcases Nat.lt_or_ge i R with h3 | h3
            · have hiI : (i : Int) < (R : Int) := by omega
              have hi0 : (0 : Int) ≤ (i : Int) := by omega
              obtain ⟨rb, ro, rc, hrow⟩ := HRW.out i h3
              have hcv := (hrow wr HB.out).1
              have hcx := (hrow wr HB.out).2 x h1
              have hcy := (hrow wr HB.out).2 y h2
              have hti := togN_le zs x y i
              have HN : Hid (togN zs x y (i + 1) = togN zs x y i + if zs i x = zs i y then 1 else 0) := rfl
              have HD : Hid (∀ q, Below w1.heap.size w1 (wr.drewN q)) := fun q => below_drewR HB.out q
              clear hrow HB hc0
              generalize togN zs x y i = s at *
              generalize zs i x = p at *
              generalize zs i y = r at *
              by_cases hpr : p = r
              · have k1 : (p == r) = true := by simp; exact hpr
                have HN' : Hid (togN zs x y (i + 1) = s + 1) := by show _ = _; rw [HN.out, if_pos hpr]
                clear hpr HN
                go_wp2_with fail
                go_quiet (fail)
                go_wp2_with fail
                exact ⟨⟨i + 1, h3, by rw [HN'.out]; go_num, by go_num, Hid.mk' (HD.out _)⟩, by simp [intOf]; omega⟩
              · have k1 : (p == r) = false := by simp; exact hpr
                have HN' : Hid (togN zs x y (i + 1) = s) := by show _ = _; rw [HN.out, if_neg hpr, Nat.add_zero]
                clear hpr HN
                go_wp2_with fail
                go_quiet (fail)
                go_wp2_with fail
                exact ⟨⟨i + 1, h3, by rw [HN'.out], by go_num, Hid.mk' (HD.out _)⟩, by simp [intOf]; omega⟩
            · obtain rfl : i = R := by omega
              have hiI : ¬ (i : Int) < (i : Int) := by omega
              have hti := togN_le zs x y i
              have HTB : Hid (tooB (M : Int) i zs x y = decide (0 < sgnZ ((togN zs x y i : Int) * (M : Int) - 1 * (i : Int)))) := by
                show _ = _
                unfold tooB
                congr 1
                rw [sgnZ_posR]
                exact propext ⟨fun h => by omega, fun h => by omega⟩
              have HRA' := Hid.mk' (fun W => HRA.out (togN zs x y i) W hti)
              have HCM' := Hid.mk' (fun W (u v : Value) => HCM.out (togN zs x y i) W u v hti)
              clear HRA HCM
              generalize sgnZ ((togN zs x y i : Int) * (M : Int) - 1 * (i : Int)) = g at *
              generalize togN zs x y i = s at *
              have hcur0 := HB.out
              have hcur := HB.out.drew
              go_wp2_with fail
              go_region_held3 (fun W => W.cell? ⟨w.heap.size, 0, none⟩ = some (.int .i64 (M : Int)) ∧ W.cell? ⟨w.heap.size, 1, none⟩ = some (.slice (some ⟨b, o, none⟩) i cap)) (first | exact ⟨(HC.out _ hcur0).1, (HC.out _ hcur0).2.1⟩ | exact ⟨(HC.out _ hcur).1, (HC.out _ hcur).2.1⟩ | exact ⟨(HC.out _ hcu5).1, (HC.out _ hcu5).2.1⟩ | exact ⟨(HC.out _ hcu6).1, (HC.out _ hcu6).2.1⟩ | exact ⟨(HC.out _ hcu7).1, (HC.out _ hcu7).2.1⟩) (first
                | (go_at_call 24; refine (HCM'.out _ _ _ (hr5.later hb6) hr6).mono ?_; rintro e w7 ⟨rfl, hb7⟩; have hcu7 := below_chain hcu6 hb7; clear hb7 hr5 hr6 hb6)
                | (go_at_call 22; have hz7 := hr5; clear hz7; refine (HRB.out _).mono ?_; rintro e w6 ⟨r6, rfl, hr6, hb6⟩; have hcu6 := below_chain hcu5 hb6)
                | (go_at_call 22; refine (HRA'.out _).mono ?_; rintro e w5 ⟨r5, rfl, hr5, hb5⟩; have hcu5 := below_chain hcur hb5; clear hb5))
              have HX7 := Hid.mk' hcu7
              clear hc0 hc1 hcu5 hcu6 hcu7 hcur hcur0
              cases hq : tooB (M : Int) i zs x y with
              | true =>
                have k1 : 0 < g := of_decide_eq_true (HTB.out.symm.trans hq)
                have HV := Hid.mk' (HBADX.out hq)
                clear hq
                go_wp2_with fail
                go_ret
                exact ⟨by rw [HV.out]; rfl, below_chain HB1.out HX7.out⟩
              | false =>
                have k1 : ¬ 0 < g := of_decide_eq_false (HTB.out.symm.trans hq)
                have HN := Hid.mk' (HGOX.out hq)
                clear hq
                go_wp2_with fail
                exact ⟨⟨y + 1, by omega, by omega, by go_num, HX7, HN⟩, by simp [intOf]; omega⟩
        · obtain rfl : y = n := by omega
          have hyI : ¬ (y : Int) < (y : Int) := by omega
          have HN : Hid (∀ x' y', x' < x + 1 → x' < y' → y' < y → tooB (M : Int) R zs x' y' = false) := fun x' y' hx' h4 h5 => by
            rcases Nat.lt_or_ge x' x with h' | h'
            · exact HK.out x' y' h' h4 h5
            · obtain rfl : x' = x := by omega
              exact HJ.out y' h4 h5
          go_wp2_with fail
          exact ⟨⟨x + 1, h1, by go_num, HB, HN⟩, by simp [intOf]; omega⟩
    · obtain rfl : x = n := by omega
      have hxI : ¬ (x : Int) < (x : Int) := by omega
      have HV := Hid.mk' (HGOOD.out (fun x' y' h4 h5 => HK.out x' y' (by omega) h4 h5))
      go_wp2_with fail
      go_ret
      exact ⟨by rw [HV.out]; rfl, below_chain HB1.out HB.out⟩
end Go.Proofs.YtiegobkbinojeaaDoor
