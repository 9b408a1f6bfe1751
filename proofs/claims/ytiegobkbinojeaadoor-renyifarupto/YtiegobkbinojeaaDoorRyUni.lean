/- Families of functions: the program's together and Universal. -/
import Derived.Test.YtiegobkbinojeaaDoorRyFam
import Derived.Test.YtiegobkbinojeaaDoorValidWalk
namespace Go.Proofs.YtiegobkbinojeaaDoor
open Go.RowKit

theorem below_drewR {w W : World} {n : Nat} (h : Below n w W) : ∀ k, Below n w (W.drewN k)
  | 0 => h
  | k + 1 => (below_drewR h k).drew
/-- By how many functions two things go to one value. -/
def togN (zs : Nat → Nat → Int) (x y : Nat) : Nat → Nat
  | 0 => 0
  | n + 1 => togN zs x y n + if zs n x = zs n y then 1 else 0
theorem togN_le (zs : Nat → Nat → Int) (x y : Nat) : ∀ n, togN zs x y n ≤ n
  | 0 => Nat.le_refl _
  | n + 1 => by
    have := togN_le zs x y n
    show togN zs x y n + (if zs n x = zs n y then 1 else 0) ≤ n + 1
    split <;> omega
theorem togN_sym (zs : Nat → Nat → Int) (x y : Nat) : ∀ n, togN zs x y n = togN zs y x n
  | 0 => rfl
  | n + 1 => by
    show togN zs x y n + (if zs n x = zs n y then 1 else 0) = togN zs y x n + (if zs n y = zs n x then 1 else 0)
    rw [togN_sym zs x y n]
    by_cases h : zs n x = zs n y
    · rw [if_pos h, if_pos h.symm]
    · rw [if_neg h, if_neg (fun h' => h h'.symm)]
/-- Do two things go to one value too often? -/
def tooB (M : Int) (R : Nat) (zs : Nat → Nat → Int) (x y : Nat) : Bool := decide ((R : Int) < (togN zs x y R : Int) * M)
def uniB (M : Int) (R n : Nat) (zs : Nat → Nat → Int) : Bool := !anyR (fun x => anyR (fun y => tooB M R zs x y) x) n
theorem prod_small {t : Nat} {M : Int} (ht : t ≤ 1000) (h1 : 1 ≤ M) (h2 : M ≤ 16) : IntKind.i64.wrap ((t : Int) * M) = (t : Int) * M := by
  have h3 : 0 ≤ (t : Int) * M := Int.mul_nonneg (by omega) (by omega)
  have h4 : (t : Int) * M ≤ 1000 * 16 := Int.mul_le_mul (by omega) h2 (by omega) (by omega)
  rw [IntKind.wrap_i64]
  generalize (t : Int) * M = x at *
  omega

set_option maxRecDepth 100000 in
set_option maxHeartbeats 2000000 in
theorem together_any (M : Int) (v : Value) (R : Nat) (vs : Nat → Value) (ns : Nat → Nat) (zs : Nat → Nat → Int) (x y : Nat) (w : World) (h : TabAt w v R vs ns zs) (hR : R ≤ 1000) (hx : ∀ i, i < R → x < ns i) (hy : ∀ i, i < R → y < ns i) (hns : ∀ i, i < R → ns i ≤ 100000) :
    Calls Tryd.prog 28 #[.agg #[.int .i64 M, v], .int .i64 x, .int .i64 y] w fun e w' => e = .returned (.int .i64 (togN zs x y R : Nat)) ∧ Below w.heap.size w w' := by
  obtain ⟨ad, cap, rfl⟩ := h.form
  obtain ⟨w1, hw1⟩ : ∃ w1, w1 = w.alloc (.cells #[.int .i64 M, .slice ad R cap] 32) := ⟨_, rfl⟩
  have hb1 : Below w.heap.size w w1 := by rw [hw1]; exact (Below.refl _ _).alloc (Nat.le_refl _) _
  have hc1 : w1.cell? ⟨w.heap.size, 1, none⟩ = some (.slice ad R cap) := by rw [hw1]; go_simp
  have HB1 := Hid.mk' hb1
  have HW1 := Hid.mk' hw1
  have HT := Hid.mk' (fun (W : World) (hb : Below w1.heap.size w1 W) => (h.later hb1).later hb)
  have HX := Hid.mk' hx
  have HY := Hid.mk' hy
  have HNS := Hid.mk' hns
  clear h hb1 hw1 hx hy hns
  go_enter Tryd.func28, Tryd.ntmps28
  go_upto_region 1 with fail
  rw [← HW1.out]
  go_wp2_with fail
  clear hc1
  go_loopw [7, 13] (fun s t wr => ∃ k : Nat, k ≤ R ∧ s = .int .i64 (togN zs x y k : Nat) ∧ t = .int .i64 (k : Int) ∧ Hid (Below w1.heap.size w1 wr)) (fun _ t _ => R - (intOf t).toNat)
  case atStart => exact ⟨0, Nat.zero_le _, rfl, rfl, Below.refl _ _⟩
  case round =>
    obtain ⟨k, hk, rfl, rfl, HB⟩ := hrel
    rcases Nat.lt_or_ge k R with h1 | h1
    · have hkI : (k : Int) < (R : Int) := by omega
      have hk0 : (0 : Int) ≤ (k : Int) := by omega
      have htk := togN_le zs x y k
      obtain ⟨b, o, rfl, hcv, hnum⟩ := (HT.out wr HB.out).rowR h1
      have hxk := HX.out k h1
      have hyk := HY.out k h1
      have hnk := HNS.out k h1
      rcases hnum with ⟨_, _, _, h0⟩ | ⟨rb, ro, rc, hv, _, hrow⟩
      · omega
      have hcx := hrow x hxk
      have hcy := hrow y hyk
      rw [hv] at hcv
      have hxI : (x : Int) < (ns k : Int) := by omega
      have hyI : (y : Int) < (ns k : Int) := by omega
      have hx0 : (0 : Int) ≤ (x : Int) := by omega
      have hy0 : (0 : Int) ≤ (y : Int) := by omega
      have HN : Hid (togN zs x y (k + 1) = togN zs x y k + if zs k x = zs k y then 1 else 0) := rfl
      have HD : Hid (∀ q, Below w1.heap.size w1 (wr.drewN q)) := fun q => below_drewR HB.out q
      clear hv hrow HB
      generalize togN zs x y k = s at *
      generalize zs k x = p at *
      generalize zs k y = r at *
      generalize ns k = nk at *
      by_cases hpr : p = r
      · have k1 : (p == r) = true := by simp; exact hpr
        have HN' : Hid (togN zs x y (k + 1) = s + 1) := by show _ = _; rw [HN.out, if_pos hpr]
        clear hpr HN
        go_wp2_with fail
        go_quiet (fail)
        go_wp2_with fail
        exact ⟨⟨k + 1, h1, by rw [HN'.out]; go_num, by go_num, Hid.mk' (HD.out _)⟩, by simp [intOf]; omega⟩
      · have k1 : (p == r) = false := by simp; exact hpr
        have HN' : Hid (togN zs x y (k + 1) = s) := by show _ = _; rw [HN.out, if_neg hpr, Nat.add_zero]
        clear hpr HN
        go_wp2_with fail
        go_quiet (fail)
        go_wp2_with fail
        exact ⟨⟨k + 1, h1, by rw [HN'.out], by go_num, Hid.mk' (HD.out _)⟩, by simp [intOf]; omega⟩
    · obtain rfl : k = R := by omega
      have hkI : ¬ (k : Int) < (k : Int) := by omega
      go_wp2_with fail
      go_ret
      exact ⟨rfl, below_chain HB1.out HB.out⟩

set_option maxRecDepth 100000 in
set_option maxHeartbeats 4000000 in
theorem Universal_bad (a : Nat → Addr) (M : Int) (v : Value) (R : Nat) (vs : Nat → Value) (ns : Nat → Nat) (zs : Nat → Nat → Int) (w : World) (hE : Errs w a) (h : TabAt w v R vs ns zs) (hR : R ≤ 1000) (hns : ∀ i, i < R → ns i ≤ 100000) (he : famErr M R ns zs ≠ 0) :
    Calls Tryd.prog 10 #[.agg #[.int .i64 M, v]] w fun e w' => e = .returned (.tuple #[.bool false, errV a (famErr M R ns zs)]) ∧ Below w.heap.size w w' := by
  obtain ⟨ad, cap, rfl⟩ := h.form
  obtain ⟨w1, hw1⟩ : ∃ w1, w1 = w.alloc (.cells #[.int .i64 M, .slice ad R cap] 32) := ⟨_, rfl⟩
  have hb1 : Below w.heap.size w w1 := by rw [hw1]; exact (Below.refl _ _).alloc (Nat.le_refl _) _
  have hc0 : w1.cell? ⟨w.heap.size, 0, none⟩ = some (.int .i64 M) := by rw [hw1]; go_simp
  have hc1 : w1.cell? ⟨w.heap.size, 1, none⟩ = some (.slice ad R cap) := by rw [hw1]; go_simp
  have HB1 := Hid.mk' hb1
  have HW1 := Hid.mk' hw1
  have HV := Valid_fam a M _ R vs ns zs w1 (hE.below hb1) (h.later hb1) hR hns
  rw [errV_pos a he] at HV ⊢
  generalize famErr M R ns zs = q at *
  clear h hE hb1 hw1 hns he
  go_enter Tryd.func10, Tryd.ntmps10
  go_upto_region 1 with fail
  rw [← HW1.out]
  go_wp2_with fail
  refine HV.mono ?_
  clear HV
  rintro e w2 ⟨rfl, hb2⟩
  have HB2 := Hid.mk' (below_chain HB1.out hb2)
  clear hb2 hc0 hc1
  go_wp2_with fail
  go_ret2
  exact ⟨rfl, HB2.out⟩

set_option maxRecDepth 100000 in
set_option maxHeartbeats 8000000 in
theorem Universal_ok (a : Nat → Addr) (M : Int) (v : Value) (R : Nat) (vs : Nat → Value) (ns : Nat → Nat) (zs : Nat → Nat → Int) (w : World) (hE : Errs w a) (h : TabAt w v R vs ns zs) (he : famErr M R ns zs = 0) (hns : ∀ i, i < R → ns i ≤ 100000) :
    Calls Tryd.prog 10 #[.agg #[.int .i64 M, v]] w fun e w' => e = .returned (.tuple #[.bool (uniB M R (ns 0) zs), .nilIface]) ∧ Below w.heap.size w w' := by
  have hok := famErr_ok he
  obtain ⟨ad, cap, rfl⟩ := h.form
  obtain ⟨w1, hw1⟩ : ∃ w1, w1 = w.alloc (.cells #[.int .i64 M, .slice ad R cap] 32) := ⟨_, rfl⟩
  have hb1 : Below w.heap.size w w1 := by rw [hw1]; exact (Below.refl _ _).alloc (Nat.le_refl _) _
  have hc0 : w1.cell? ⟨w.heap.size, 0, none⟩ = some (.int .i64 M) := by rw [hw1]; go_simp
  have hc1 : w1.cell? ⟨w.heap.size, 1, none⟩ = some (.slice ad R cap) := by rw [hw1]; go_simp
  have HC : Hid (∀ W, Below w1.heap.size w1 W → W.cell? ⟨w.heap.size, 0, none⟩ = some (.int .i64 M) ∧ W.cell? ⟨w.heap.size, 1, none⟩ = some (.slice ad R cap)) := fun W hb => ⟨by rw [hb.cell (cell_lt hc0)]; exact hc0, by rw [hb.cell (cell_lt hc1)]; exact hc1⟩
  have HB1 := Hid.mk' hb1
  have HW1 := Hid.mk' hw1
  have HT := Hid.mk' (fun (W : World) (hb : Below w1.heap.size w1 W) => (h.later hb1).later hb)
  have HV := Valid_fam a M _ R vs ns zs w1 (hE.below hb1) (h.later hb1) (by have := hok.le; omega) hns
  rw [he, errV_zero] at HV
  obtain ⟨n, hn⟩ : ∃ n, n = ns 0 := ⟨_, rfl⟩
  have hn16 : n ≤ 16 := by rw [hn]; exact hok.n16
  have hn0 : 0 < n := by rw [hn]; exact hok.n0
  have HTG : Hid (∀ x y, x < n → y < n → ∀ W, Below w1.heap.size w1 W → Calls Tryd.prog 28 #[.agg #[.int .i64 M, .slice ad R cap], .int .i64 (x : Nat), .int .i64 (y : Nat)] W fun e w' => e = .returned (.int .i64 (togN zs x y R : Nat)) ∧ Below W.heap.size W w') := fun x y hx hy W hb => together_any M _ R vs ns zs x y W (HT.out W hb) (by have := hok.le; omega) (fun i hi => by rw [hok.len i hi, ← hn]; exact hx) (fun i hi => by rw [hok.len i hi, ← hn]; exact hy) (fun i hi => hns i hi)
  have HPR : Hid (∀ x y, IntKind.i64.wrap ((togN zs x y R : Int) * M) = (togN zs x y R : Int) * M) := fun x y => prod_small (by have := togN_le zs x y R; have := hok.le; omega) hok.m1 hok.m16
  have HZ : Hid (∀ W, Below w1.heap.size w1 W → ∃ b o zad zcap, ad = some ⟨b, o, none⟩ ∧ W.cell? ⟨b, o, none⟩ = some (.slice zad n zcap)) := fun W hb => by
    obtain ⟨b, o, h1, h2, h3⟩ := (HT.out W hb).rowR hok.pos
    obtain ⟨zad, zcap, h4⟩ := h3.form
    rw [h4, Nat.add_zero, ← hn] at h2
    exact ⟨b, o, zad, zcap, h1, h2⟩
  have hRpos : (0 : Int) < (R : Int) := by have := hok.pos; omega
  rw [← hn]
  clear h hE hb1 hw1 hns he hok hn
  go_enter Tryd.func10, Tryd.ntmps10
  go_upto_region 1 with fail
  rw [← HW1.out]
  go_wp2_with fail
  refine HV.mono ?_
  clear HV
  rintro e w2 ⟨rfl, hb2⟩
  have HB2 := Hid.mk' hb2
  clear hc0 hc1
  have hc0 := (HC.out w2 hb2).1
  have hc1 := (HC.out w2 hb2).2
  obtain ⟨b, o, zad, zcap, rfl, hz⟩ := HZ.out w2 hb2
  clear hb2
  go_wp2_with fail
  clear hc0 hc1 hz
  go_loopw [17] (fun t wr => ∃ k : Nat, k ≤ n ∧ t = .int .i64 (k : Int) ∧ Hid (Below w1.heap.size w1 wr) ∧ Hid (∀ x, x < k → anyR (fun y => tooB M R zs x y) x = false)) (fun t _ => n - (intOf t).toNat)
  case atStart => exact ⟨0, Nat.zero_le _, rfl, HB2.out, fun j hj => by omega⟩
  case round =>
    clear HB2
    obtain ⟨k, hk, rfl, HB, HK⟩ := hrel
    rcases Nat.lt_or_ge k n with h1 | h1
    · have hkI : (k : Int) < (n : Int) := by omega
      have HBO := HB
      go_wp2_with fail
      go_loopw [21] (fun t wx => ∃ j : Nat, j ≤ k ∧ t = .int .i64 (j : Int) ∧ Hid (Below w1.heap.size w1 wx) ∧ Hid (∀ y, y < j → tooB M R zs k y = false)) (fun t _ => k - (intOf t).toNat)
      case atStart => exact ⟨0, Nat.zero_le _, rfl, HBO.out, fun j hj => by omega⟩
      case round =>
        clear HB HBO
        obtain ⟨j, hj, rfl, HB, HJ⟩ := hrel
        rcases Nat.lt_or_ge j k with h2 | h2
        · have hjI : (j : Int) < (k : Int) := by omega
          have hcur0 := HB.out
          have hcur := HB.out.drew
          have y0 := (HC.out wr hcur0).1
          have y1 := (HC.out wr hcur0).2
          have HTC := Hid.mk' (fun W hb => HTG.out k j h1 (by omega) W hb)
          have HBAD : Hid (tooB M R zs k j = true → uniB M R n zs = false) := fun hb => by show (!anyR _ n) = false; rw [anyR_at (p := fun x => anyR (fun y => tooB M R zs x y) x) (anyR_at (p := fun y => tooB M R zs k y) hb h2) h1]; rfl
          have HGO : Hid (tooB M R zs k j = false → ∀ y, y < j + 1 → tooB M R zs k y = false) := fun hb y hy => by
            rcases Nat.lt_or_ge y j with h' | h'
            · exact HJ.out y h'
            · obtain rfl : y = j := by omega
              exact hb
          have HTB : Hid (tooB M R zs k j = decide ((R : Int) < IntKind.i64.wrap ((togN zs k j R : Int) * M))) := by show _ = _; rw [HPR.out]; rfl
          generalize togN zs k j R = t at *
          cases hq : tooB M R zs k j with
          | true =>
            have k1 : (R : Int) < IntKind.i64.wrap ((t : Int) * M) := of_decide_eq_true (HTB.out.symm.trans hq)
            have HV := Hid.mk' (HBAD.out hq)
            clear hq
            go_wp2_with fail
            go_region_held3 (fun W => W.cell? ⟨w.heap.size, 0, none⟩ = some (.int .i64 M) ∧ W.cell? ⟨w.heap.size, 1, none⟩ = some (.slice (some ⟨b, o, none⟩) R cap)) (first | exact HC.out _ hcur0 | exact HC.out _ hcur | exact HC.out _ hcu5) (first
              | (go_at_call 28; refine (HTC.out _ hcur).mono ?_; rintro e w9 ⟨rfl, hb9⟩; have hcu5 := below_chain hcur hb9; clear hb9))
            go_wp2_with fail
            go_ret2
            exact ⟨by rw [HV.out]; rfl, below_chain HB1.out hcu5⟩
          | false =>
            have k1 : ¬ (R : Int) < IntKind.i64.wrap ((t : Int) * M) := of_decide_eq_false (HTB.out.symm.trans hq)
            have HN := Hid.mk' (HGO.out hq)
            clear hq
            go_wp2_with fail
            go_region_held3 (fun W => W.cell? ⟨w.heap.size, 0, none⟩ = some (.int .i64 M) ∧ W.cell? ⟨w.heap.size, 1, none⟩ = some (.slice (some ⟨b, o, none⟩) R cap)) (first | exact HC.out _ hcur0 | exact HC.out _ hcur | exact HC.out _ hcu5) (first
              | (go_at_call 28; refine (HTC.out _ hcur).mono ?_; rintro e w9 ⟨rfl, hb9⟩; have hcu5 := below_chain hcur hb9; clear hb9))
            go_wp2_with fail
            exact ⟨⟨j + 1, h2, by go_num, Hid.mk' hcu5, HN⟩, by simp [intOf]; omega⟩
        · obtain rfl : j = k := by omega
          have hjI : ¬ (j : Int) < (j : Int) := by omega
          have HN : Hid (∀ x, x < j + 1 → anyR (fun y => tooB M R zs x y) x = false) := fun x hx => by
            rcases Nat.lt_or_ge x j with h' | h'
            · exact HK.out x h'
            · obtain rfl : x = j := by omega
              exact anyR_none HJ.out
          go_wp2_with fail
          exact ⟨⟨j + 1, h1, by go_num, HB, HN⟩, by simp [intOf]; omega⟩
    · obtain rfl : k = n := by omega
      have hkI : ¬ (k : Int) < (k : Int) := by omega
      have HV : Hid (uniB M R k zs = true) := by show (!anyR _ k) = true; rw [anyR_none (p := fun x => anyR (fun y => tooB M R zs x y) x) HK.out]; rfl
      go_wp2_with fail
      go_ret2
      exact ⟨by rw [HV.out]; rfl, below_chain HB1.out HB.out⟩
end Go.Proofs.YtiegobkbinojeaaDoor
