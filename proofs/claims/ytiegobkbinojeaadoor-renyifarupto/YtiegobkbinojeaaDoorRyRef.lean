/- The document's FamilyError. -/
import Derived.Test.YtiegobkbinojeaaDoorRyUni
namespace Go.Proofs.YtiegobkbinojeaaDoor
open Go.RowKit

set_option maxRecDepth 100000 in
set_option maxHeartbeats 8000000 in
theorem FamilyError_any (M : Int) (v : Value) (R : Nat) (vs : Nat → Value) (ns : Nat → Nat) (zs : Nat → Nat → Int) (w : World) (h : TabAt w v R vs ns zs) (hR : R ≤ 1000000) (hns : ∀ i, i < R → ns i ≤ 1000000) :
    Calls Tryd.prog 9 #[.agg #[.int .i64 M, v]] w fun e w' => e = .returned (.int .i64 (famErr M R ns zs : Nat)) ∧ Below w.heap.size w w' := by
  obtain ⟨ad, cap, rfl⟩ := h.form
  obtain ⟨w1, hw1⟩ : ∃ w1, w1 = w.alloc (.cells #[.int .i64 M, .slice ad R cap] 24) := ⟨_, rfl⟩
  have hb1 : Below w.heap.size w w1 := by rw [hw1]; exact (Below.refl _ _).alloc (Nat.le_refl _) _
  have hc0 : w1.cell? ⟨w.heap.size, 0, none⟩ = some (.int .i64 M) := by rw [hw1]; go_simp
  have hc1 : w1.cell? ⟨w.heap.size, 1, none⟩ = some (.slice ad R cap) := by rw [hw1]; go_simp
  have HC : Hid (∀ W, Below w1.heap.size w1 W → W.cell? ⟨w.heap.size, 0, none⟩ = some (.int .i64 M) ∧ W.cell? ⟨w.heap.size, 1, none⟩ = some (.slice ad R cap)) := fun W hb => ⟨by rw [hb.cell (cell_lt hc0)]; exact hc0, by rw [hb.cell (cell_lt hc1)]; exact hc1⟩
  have HB1 := Hid.mk' hb1
  have HW1 := Hid.mk' hw1
  have HT := Hid.mk' (fun (W : World) (hb : Below w1.heap.size w1 W) => (h.later hb1).later hb)
  have HNS := Hid.mk' hns
  clear h hns hb1 hw1
  by_cases h1 : 64 < R ∨ M < 1 ∨ 16 < M
  · have HV : Hid (famErr M R ns zs = 2) := by show _ = _; unfold famErr; rw [if_pos h1]
    by_cases q1 : 64 < R
    · have k1 : (64 : Int) < (R : Int) := by omega
      clear h1 q1
      go_enter Tryd.func9, Tryd.ntmps9
      go_upto_region 1 with fail
      rw [← HW1.out]
      go_wp2_with fail
      go_ret
      exact ⟨by rw [HV.out]; rfl, HB1.out⟩
    · have k1 : ¬ (64 : Int) < (R : Int) := by omega
      by_cases q2 : M < 1
      · clear h1 q1
        go_enter Tryd.func9, Tryd.ntmps9
        go_upto_region 1 with fail
        rw [← HW1.out]
        go_wp2_with fail
        go_ret
        exact ⟨by rw [HV.out]; rfl, HB1.out⟩
      · have k3 : 16 < M := by omega
        clear h1 q1
        go_enter Tryd.func9, Tryd.ntmps9
        go_upto_region 1 with fail
        rw [← HW1.out]
        go_wp2_with fail
        go_ret
        exact ⟨by rw [HV.out]; rfl, HB1.out⟩
  · have k1 : ¬ (64 : Int) < (R : Int) := by omega
    have k2 : ¬ M < 1 := by omega
    have k3 : ¬ 16 < M := by omega
    have HS0 : Hid (famErr M R ns zs = if longB ns R = true then 2 else if R = 0 ∨ ns 0 = 0 then 3 else if anyR (fRow M ns zs) R = true then 3 else 0) := by show _ = _; unfold famErr; rw [if_neg h1]
    clear h1
    go_enter Tryd.func9, Tryd.ntmps9
    go_upto_region 1 with fail
    rw [← HW1.out]
    go_wp2_with fail
    go_loop [3] (fun t => ∃ k : Nat, k ≤ R ∧ t = .int .i64 (k : Int) ∧ Hid (longB ns k = false)) (fun t => R - (intOf t).toNat)
    case atStart => exact ⟨0, Nat.zero_le _, rfl, rfl⟩
    case round =>
      obtain ⟨k, hk, rfl, HK⟩ := hrel
      rcases Nat.lt_or_ge k R with h1 | h1
      · have hkI : (k : Int) < (R : Int) := by omega
        have hk0 : (0 : Int) ≤ (k : Int) := by omega
        obtain ⟨b, o, rfl, hcv, hnum⟩ := (HT.out w1 (Below.refl _ _)).rowR h1
        obtain ⟨rad, rcap, hv⟩ := hnum.form
        rw [hv] at hcv
        have HBAD : Hid (16 < ns k → famErr M R ns zs = 2) := fun hb => by rw [HS0.out, if_pos (longB_mono h1 hb)]
        have HGO : Hid (¬ 16 < ns k → longB ns (k + 1) = false) := fun hb => by show (longB ns k || decide (16 < ns k)) = false; rw [HK.out, decide_eq_false hb]; rfl
        clear hnum hv
        generalize ns k = nk at *
        by_cases hl : 16 < nk
        · have HV := Hid.mk' (HBAD.out hl)
          have j1 : (16 : Int) < (nk : Int) := by omega
          clear hl
          go_wp2_with fail
          go_ret
          exact ⟨by rw [HV.out]; rfl, HB1.out⟩
        · have HN := Hid.mk' (HGO.out hl)
          have j1 : ¬ (16 : Int) < (nk : Int) := by omega
          clear hl
          go_wp2_with fail
          exact ⟨⟨k + 1, h1, by go_num, HN.out⟩, by simp [intOf]; omega⟩
      · obtain rfl : k = R := by omega
        have hkI : ¬ (k : Int) < (k : Int) := by omega
        have HS1 : Hid (famErr M k ns zs = if k = 0 ∨ ns 0 = 0 then 3 else if anyR (fRow M ns zs) k = true then 3 else 0) := by show _ = _; rw [HS0.out, HK.out, if_neg (by decide)]
        clear HS0 HK
        by_cases h2 : k = 0
        · have HV : Hid (famErr M k ns zs = 3) := by show _ = _; rw [HS1.out, if_pos (Or.inl h2)]
          have j1 : ((k : Int) == 0) = true := by simp; exact h2
          clear h2
          go_wp2_with fail
          go_ret
          exact ⟨by rw [HV.out]; rfl, HB1.out⟩
        · have j1 : ((k : Int) == 0) = false := by simp; exact h2
          have hpos : 0 < k := by omega
          have hposI : (0 : Int) < (k : Int) := by omega
          obtain ⟨b, o, rfl, hc00, hnum0⟩ := (HT.out w1 (Below.refl _ _)).rowR hpos
          obtain ⟨zad, zcap, hv0⟩ := hnum0.form
          rw [hv0, Nat.add_zero] at hc00
          have HC0 : Hid (∀ W, Below w1.heap.size w1 W → W.cell? ⟨b, o, none⟩ = some (.slice zad (ns 0) zcap)) := fun W hb => by rw [hb.cell (cell_lt hc00)]; exact hc00
          have HSE : Hid (∀ i, i < k → (ns i = 0 ∨ ns i ≠ ns 0 ∨ outB M (zs i) (ns i) = true) → famErr M k ns zs = 3) := fun i hi hbad => by
            rw [HS1.out]
            by_cases h3 : ns 0 = 0
            · rw [if_pos (Or.inr h3)]
            · rw [if_neg (by omega), if_pos (anyR_at (k := i) (by
                unfold fRow
                rcases hbad with h4 | h4 | h4
                · have : ns i ≠ ns 0 := by omega
                  simp [this]
                · simp [h4]
                · rw [h4, Bool.or_true]) hi)]
          have HSO : Hid ((∀ i, i < k → ns i ≠ 0 ∧ ns i = ns 0 ∧ outB M (zs i) (ns i) = false) → famErr M k ns zs = 0) := fun hg => by
            rw [HS1.out, if_neg (by have := (hg 0 hpos).1; omega), anyR_none (fun i hi => by unfold fRow; rw [(hg i hi).2.2]; simp; exact (hg i hi).2.1), if_neg (by decide)]
          clear hnum0 hv0 HS1 h2 hc00
          go_wp2_with fail
          clear hc0 hc1
          go_loopw [4] (fun t wr => ∃ j : Nat, j ≤ k ∧ t = .int .i64 (j : Int) ∧ Hid (Below w1.heap.size w1 wr) ∧ Hid (∀ i, i < j → ns i ≠ 0 ∧ ns i = ns 0 ∧ outB M (zs i) (ns i) = false)) (fun t _ => k - (intOf t).toNat)
          case atStart => exact ⟨0, Nat.zero_le _, rfl, Below.refl _ _, fun j hj => by omega⟩
          case round =>
            obtain ⟨j, hj, rfl, HB, HK⟩ := hrel
            have hc0 := (HC.out wr HB.out).1
            have hc1 := (HC.out wr HB.out).2
            rcases Nat.lt_or_ge j k with h1 | h1
            · have hkI : (j : Int) < (k : Int) := by omega
              have hk0 : (0 : Int) ≤ (j : Int) := by omega
              have HRW : Hid (∀ W, Below w1.heap.size w1 W → W.cell? ⟨b, o + j, none⟩ = some (vs j) ∧ NumsAt W (vs j) (ns j) (zs j)) := fun W hb => by
                obtain ⟨b', o', hbo, hcv, hnum⟩ := (HT.out W hb).rowR h1
                obtain ⟨rfl, rfl⟩ : b = b' ∧ o = o' := by simpa using hbo
                exact ⟨hcv, hnum⟩
              have hcv := (HRW.out wr HB.out).1
              have hz0 := HC0.out wr HB.out
              obtain ⟨rad, rcap, hv⟩ := (HRW.out wr HB.out).2.form
              rw [hv] at hcv HRW
              have hnk := HNS.out j h1
              have HBADJ := Hid.mk' (HSE.out j h1)
              have HGO : Hid (ns j ≠ 0 ∧ ns j = ns 0 ∧ outB M (zs j) (ns j) = false → ∀ i, i < j + 1 → ns i ≠ 0 ∧ ns i = ns 0 ∧ outB M (zs i) (ns i) = false) := fun hb i hi => by
                rcases Nat.lt_or_ge i j with h' | h'
                · exact HK.out i h'
                · obtain rfl : i = j := by omega
                  exact hb
              have HOA : Hid (∀ i, i < ns j → offB M (zs j i) = true → outB M (zs j) (ns j) = true) := fun i hi hb => anyR_at hb hi
              have HON : Hid ((∀ i, i < ns j → offB M (zs j i) = false) → outB M (zs j) (ns j) = false) := fun hb => anyR_none hb
              clear hv HK
              generalize ns j = nk at *
              obtain ⟨m, hm⟩ : ∃ m, m = ns 0 := ⟨_, rfl⟩
              rw [← hm] at hz0 HBADJ
              have HMM := Hid.mk' hm
              by_cases hs0 : nk = 0
              · have HV := Hid.mk' (HBADJ.out (Or.inl hs0))
                have hz : ((nk : Int) == 0) = true := by simp; exact hs0
                clear hs0 hm
                go_wp2_with fail
                go_quiet (fail)
                go_wp2_with fail
                go_ret
                exact ⟨by rw [HV.out]; rfl, below_drewR (below_chain HB1.out HB.out) _⟩
              · have hz : ((nk : Int) == 0) = false := by simp; exact hs0
                by_cases hsh : nk = m
                · have hq : ((nk : Int) != (m : Int)) = false := by simp; omega
                  have HBQ : Hid (∀ q, Below w1.heap.size w1 (wr.drewN q)) := fun q => below_drewR HB.out q
                  have HN0 : Hid (nk ≠ 0) := hs0
                  have HSH := Hid.mk' hsh
                  clear hm HB hs0 hsh
                  go_wp2_with fail
                  go_quiet (fail)
                  have HBO := Hid.mk' (HBQ.out nq)
                  obtain ⟨wo, hwo⟩ : ∃ wo, wo = wr.drewN nq := ⟨_, rfl⟩
                  rw [← hwo] at HBO ⊢
                  clear hwo hcv hc0 hc1 hz0 HBQ hz hq
                  have hc0 := (HC.out wo HBO.out).1
                  have hc1 := (HC.out wo HBO.out).2
                  have hcv := (HRW.out wo HBO.out).1
                  go_wp2_with fail
                  clear hc0 hc1 hcv
                  go_loopw [5] (fun t wx => ∃ i : Nat, i ≤ nk ∧ t = .int .i64 (i : Int) ∧ Hid (Below w1.heap.size w1 wx) ∧ Hid (∀ c, c < i → offB M (zs j c) = false)) (fun t _ => nk - (intOf t).toNat)
                  case atStart => exact ⟨0, Nat.zero_le _, rfl, HBO.out, fun c hc => by omega⟩
                  case round =>
                    clear HBO
                    obtain ⟨i, hi, rfl, HX, HJ⟩ := hrel
                    have hc0 := (HC.out wr HX.out).1
                    have hc1 := (HC.out wr HX.out).2
                    have hcv := (HRW.out wr HX.out).1
                    rcases Nat.lt_or_ge i nk with h5 | h5
                    · have hiI : (i : Int) < (nk : Int) := by omega
                      have hi0 : (0 : Int) ≤ (i : Int) := by omega
                      rcases (HRW.out wr HX.out).2 with ⟨_, _, _, h0⟩ | ⟨rb, ro, rc, hv, _, hrow⟩
                      · omega
                      obtain ⟨rfl, rfl⟩ : rad = some ⟨rb, ro, none⟩ ∧ rcap = rc := by simpa using hv
                      have hcx := hrow i h5
                      have HBQ : Hid (∀ q, Below w1.heap.size w1 (wr.drewN q)) := fun q => below_drewR HX.out q
                      have HOI := Hid.mk' (HOA.out i h5)
                      have HGI : Hid (offB M (zs j i) = false → ∀ c, c < i + 1 → offB M (zs j c) = false) := fun hb c hc => by
                        rcases Nat.lt_or_ge c i with h' | h'
                        · exact HJ.out c h'
                        · obtain rfl : c = i := by omega
                          exact hb
                      have HXM := HX
                      clear hv hrow HX HJ
                      generalize zs j i = x at *
                      by_cases hx : x < 0
                      · have HV := Hid.mk' (HBADJ.out (Or.inr (Or.inr (HOI.out (by unfold offB; rw [decide_eq_true hx]; rfl)))))
                        have l1 : decide (x < 0) = true := decide_eq_true hx
                        clear hx
                        go_wp2_with fail
                        go_quiet (fail)
                        go_wp2_with fail
                        go_ret
                        exact ⟨by rw [HV.out]; rfl, below_chain HB1.out (HBQ.out _)⟩
                      · have l1 : decide (x < 0) = false := decide_eq_false hx
                        by_cases hy : M ≤ x
                        · have HV := Hid.mk' (HBADJ.out (Or.inr (Or.inr (HOI.out (by unfold offB; rw [decide_eq_true hy, Bool.or_true])))))
                          have l2 : decide (M ≤ x) = true := decide_eq_true hy
                          clear hx hy
                          go_wp2_with fail
                          go_quiet (fail)
                          go_wp2_with fail
                          go_ret
                          exact ⟨by rw [HV.out]; rfl, below_chain HB1.out (HBQ.out _)⟩
                        · have HN := Hid.mk' (HGI.out (by unfold offB; rw [l1, decide_eq_false hy]; rfl))
                          have l2 : decide (M ≤ x) = false := decide_eq_false hy
                          clear hx hy
                          go_wp2_with fail
                          go_quiet (fail)
                          go_wp2_with fail
                          exact ⟨⟨i + 1, h5, by go_num, Hid.mk' (HBQ.out _), HN⟩, by simp [intOf]; omega⟩
                    · obtain rfl : i = nk := by omega
                      have hiI : ¬ (i : Int) < (i : Int) := by omega
                      have HN := Hid.mk' (HGO.out ⟨HN0.out, HSH.out.trans HMM.out, HON.out HJ.out⟩)
                      go_wp2_with fail
                      exact ⟨⟨j + 1, h1, by go_num, HX, HN⟩, by simp [intOf]; omega⟩
                · have HV := Hid.mk' (HBADJ.out (Or.inr (Or.inl hsh)))
                  have hq : ((nk : Int) != (m : Int)) = true := by simp; omega
                  clear hsh hs0 hm
                  go_wp2_with fail
                  go_quiet (fail)
                  go_wp2_with fail
                  go_ret
                  exact ⟨by rw [HV.out]; rfl, below_drewR (below_chain HB1.out HB.out) _⟩
            · obtain rfl : j = k := by omega
              have hjI : ¬ (j : Int) < (j : Int) := by omega
              have HV := Hid.mk' (HSO.out HK.out)
              go_wp2_with fail
              go_ret
              exact ⟨by rw [HV.out]; rfl, below_chain HB1.out HB.out⟩
end Go.Proofs.YtiegobkbinojeaaDoor
