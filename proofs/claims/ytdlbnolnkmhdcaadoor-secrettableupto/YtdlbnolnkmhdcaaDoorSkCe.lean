/- The document's CipherError, and what the law asks of a cipher first. -/
import Derived.Test.YtdlbnolnkmhdcaaDoorSkJd
import Derived.Test.YtdlbnolnkmhdcaaDoorSkVal
import Derived.Test.YtdlbnolnkmhdcaaDoorTabCopy
namespace Go.Proofs.YtdlbnolnkmhdcaaDoor
open Go.RowKit

theorem below_drewN {w W : World} {n : Nat} (h : Below n w W) : ∀ k, Below n w (W.drewN k)
  | 0 => h
  | k + 1 => (below_drewN h k).drew
/-- A table's rows have room for their numbers. -/
def Roomy (R : Nat) (vs : Nat → Value) (ns : Nat → Nat) : Prop := ∀ i, i < R → ∃ ad cap, vs i = .slice ad (ns i) cap ∧ ns i ≤ cap
theorem rowB_mono {z : Nat → Int} {k n : Nat} (h : rowB z n = true) (hk : k ≤ n) : rowB z k = true := (rowB_iff z k).2 fun i hi => (rowB_iff z n).1 h i (by omega)
theorem row_of {w : World} {b o R cap : Nat} {vs : Nat → Value} {ns : Nat → Nat} {zs : Nat → Nat → Int} (hl : TabAt w (.slice (some ⟨b, o, none⟩) R cap) R vs ns zs) (hroom : Roomy R vs ns) {i : Nat} (hi : i < R) (h0 : ns i ≠ 0) :
    ∃ rb ro rc, ns i ≤ rc ∧ vs i = .slice (some ⟨rb, ro, none⟩) (ns i) rc := by
  rcases hl with ⟨_, _, _, h1⟩ | ⟨b', o', c, h1, _, h2⟩
  · omega
  · obtain ⟨ad, rc, e, hle⟩ := hroom i hi
    rcases (h2 i hi).2 with ⟨_, _, _, h5⟩ | ⟨rb, ro, rc', h5, _, _⟩
    · omega
    · rw [e] at h5
      obtain ⟨rfl, rfl⟩ : ad = _ ∧ rc = rc' := by simpa using h5
      exact ⟨rb, ro, rc, hle, e⟩

set_option maxRecDepth 100000 in
set_option maxHeartbeats 8000000 in
theorem CipherError_any (kv lv : Value) (n : Nat) (z : Nat → Int) (R : Nat) (vs : Nat → Value) (ns : Nat → Nat) (zs : Nat → Nat → Int) (w : World) (hk : NumsAt w kv n z) (hl : TabAt w lv R vs ns zs) (hroom : Roomy R vs ns) (hn : n ≤ 1000000) (hR : R ≤ 1000000) (hns : ∀ i, i < R → ns i ≤ 1000000) :
    Calls Tryd.prog 7 #[.agg #[kv, lv]] w fun e w' => e = .returned (.int .i64 (ciErr n z R ns zs : Nat)) ∧ Below w.heap.size w w' := by
  obtain ⟨ka, kc, rfl⟩ := hk.form
  obtain ⟨la, lc, rfl⟩ := hl.form
  obtain ⟨w1, hw1⟩ : ∃ w1, w1 = w.alloc (.cells #[.slice ka n kc, .slice la R lc] 25) := ⟨_, rfl⟩
  have hb1 : Below w.heap.size w w1 := by rw [hw1]; exact (Below.refl _ _).alloc (Nat.le_refl _) _
  have hc0 : w1.cell? ⟨w.heap.size, 0, none⟩ = some (.slice ka n kc) := by rw [hw1]; go_simp
  have hc1 : w1.cell? ⟨w.heap.size, 1, none⟩ = some (.slice la R lc) := by rw [hw1]; go_simp
  have HB1 := Hid.mk' hb1
  have HW1 := Hid.mk' hw1
  have HC : Hid (∀ W, Below w1.heap.size w1 W → W.cell? ⟨w.heap.size, 0, none⟩ = some (.slice ka n kc) ∧ W.cell? ⟨w.heap.size, 1, none⟩ = some (.slice la R lc)) := fun W hb => ⟨by rw [hb.cell (cell_lt hc0)]; exact hc0, by rw [hb.cell (cell_lt hc1)]; exact hc1⟩
  have hV := WeightsError_any _ n z w1 (hk.later hb1) hn
  have HT := Hid.mk' (fun (W : World) (hb : Below w1.heap.size w1 W) => (hl.later hb1).later hb)
  have HNS := Hid.mk' hns
  have HRM := Hid.mk' hroom
  have hwle := weightsErr_le z n
  clear hk hl hb1 hw1 hns hroom
  by_cases he : weightsErr z n ≠ 0
  · have HR : Hid (ciErr n z R ns zs = weightsErr z n) := by show _ = _; unfold ciErr; rw [if_pos he]
    generalize weightsErr z n = q at *
    have hq : (0 : Int) < (q : Int) := by omega
    clear he
    go_enter Tryd.func7, Tryd.ntmps7
    go_wp2_with fail
    rw [← HW1.out]
    refine hV.mono ?_
    rintro e w2 ⟨rfl, hw2⟩
    rw [hw2]
    clear hw2 hV
    go_wp2_with fail
    go_ret
    exact ⟨by rw [HR.out]; rfl, HB1.out⟩
  · have he0 : weightsErr z n = 0 := by omega
    rw [he0] at hV
    by_cases hRn : R ≠ n
    · have HR : Hid (ciErr n z R ns zs = 3) := by show _ = _; unfold ciErr; rw [if_neg he, if_pos hRn]
      have hne : ((R : Int) != (n : Int)) = true := by rw [bne_iff_ne]; omega
      clear he he0 hRn hwle
      go_enter Tryd.func7, Tryd.ntmps7
      go_wp2_with fail
      rw [← HW1.out]
      refine hV.mono ?_
      rintro e w2 ⟨rfl, hw2⟩
      rw [hw2]
      clear hw2 hV
      go_wp2_with fail
      go_ret
      exact ⟨by rw [HR.out]; rfl, HB1.out⟩
    · have hRn' : R = n := by omega
      subst hRn'
      obtain ⟨h16, hok⟩ := weightsErr_ok he0
      have h0 := hok.posN
      have HR : Hid (ciErr R z R ns zs = if badC ns zs R = true then 3 else 0) := by show _ = _; unfold ciErr; rw [if_neg he, if_neg hRn]
      obtain ⟨b, o, rfl⟩ : ∃ b o, la = some ⟨b, o, none⟩ := by
        rcases HT.out w1 (Below.refl _ _) with ⟨_, _, _, h1⟩ | ⟨b, o, c, h1, _, h2⟩
        · omega
        · simp only [Value.slice.injEq, true_and] at h1
          exact ⟨b, o, h1.1⟩
      have HRW : Hid (∀ W, Below w1.heap.size w1 W → ∀ i, i < R → W.cell? ⟨b, o + i, none⟩ = some (vs i) ∧ NumsAt W (vs i) (ns i) (zs i)) := fun W hb => by
        rcases HT.out W hb with ⟨_, _, _, h1⟩ | ⟨b', o', c, h1, _, h2⟩
        · omega
        · simp only [Value.slice.injEq, true_and, Option.some.injEq, Addr.mk.injEq] at h1
          obtain ⟨⟨rfl, rfl, -⟩, rfl⟩ := h1
          exact h2
      have HRO : Hid (∀ i, i < R → ns i ≠ 0 → ∃ rb ro rc, ns i ≤ rc ∧ vs i = .slice (some ⟨rb, ro, none⟩) (ns i) rc) := fun i hi h => row_of (HT.out w1 (Below.refl _ _)) HRM.out hi h
      have hne : ((R : Int) != (R : Int)) = false := by simp
      obtain ⟨a0, c0, he0'⟩ := (HRW.out w1 (Below.refl _ _) 0 h0).2.form
      have HC0 : Hid (∀ W, Below w1.heap.size w1 W → W.cell? ⟨b, o, none⟩ = some (.slice a0 (ns 0) c0)) := fun W hb => by
        have := (HRW.out W hb 0 h0).1
        rwa [he0', Nat.add_zero] at this
      have h0I : (0 : Int) < (R : Int) := by omega
      clear he he0 hRn hok he0' HT hwle hc0
      go_enter Tryd.func7, Tryd.ntmps7
      go_wp2_with fail
      rw [← HW1.out]
      have hc0 := (HC.out w1 (Below.refl _ _)).1
      refine hV.mono ?_
      rintro e w2 ⟨rfl, hw2⟩
      rw [hw2]
      clear hw2 hV
      go_wp2_with fail
      clear hc0 hc1
      go_loopw [4] (fun t wr => ∃ k : Nat, k ≤ R ∧ t = .int .i64 k ∧ Hid (Below w1.heap.size w1 wr) ∧ Hid (badC ns zs k = false)) (fun t _ => R - (intOf t).toNat)
      case atStart => exact ⟨0, Nat.zero_le _, rfl, Below.refl _ _, rfl⟩
      case round =>
        obtain ⟨k, hk, rfl, HB, HS⟩ := hrel
        have hc1 := (HC.out wr HB.out).2
        rcases Nat.lt_or_ge k R with h1 | h1
        · have hkI : (k : Int) < (R : Int) := by omega
          have hk0 : (0 : Int) ≤ (k : Int) := by omega
          obtain ⟨hck, hnum⟩ := HRW.out wr HB.out k h1
          obtain ⟨rad, rcap, hre⟩ := hnum.form
          have hcz := HC0.out wr HB.out
          have hnk := HNS.out k h1
          have HBAD : Hid (ns k = 0 ∨ ns k ≠ ns 0 ∨ rowB (zs k) (ns k) = false → ciErr R z R ns zs = 3) := fun h => by rw [HR.out, if_pos (badC_at h1 h)]
          by_cases hs0 : ns k = 0
          · have HV := Hid.mk' (HBAD.out (Or.inl hs0))
            have hz : ((ns k : Int) == 0) = true := by rw [beq_iff_eq]; omega
            rw [hre] at hck
            generalize ns k = nk at *
            clear HBAD hs0 hnum hre
            go_wp2_with fail
            go_quiet (fail)
            go_wp2_with fail
            go_ret
            exact ⟨by rw [HV.out]; rfl, below_drewN (below_chS HB1.out HB.out) _⟩
          · have hz : ((ns k : Int) == 0) = false := by rw [beq_eq_false_iff_ne]; omega
            by_cases hs6 : 16 < ns k
            · have HV := Hid.mk' (HBAD.out (Or.inr (Or.inr (by
                cases e : rowB (zs k) (ns k) with
                | false => rfl
                | true => exact absurd (rowB_short e) (by omega)))))
              have h16I : (16 : Int) < (ns k : Int) := by omega
              rw [hre] at hck
              generalize ns k = nk at *
              clear HBAD hs0 hs6 hnum hre
              go_wp2_with fail
              go_quiet (fail)
              go_wp2_with fail
              go_ret
              exact ⟨by rw [HV.out]; rfl, below_drewN (below_chS HB1.out HB.out) _⟩
            · have h16I : decide ((16 : Int) < (ns k : Int)) = false := decide_eq_false (by omega)
              by_cases hsh : ns k = ns 0
              · have hq : ((ns k : Int) != (ns 0 : Int)) = false := by rw [hsh]; simp
                obtain ⟨rb, ro, rc, hrc, hvk⟩ := HRO.out k h1 hs0
                have HROW : Hid (∀ W, Below w1.heap.size w1 W → W.cell? ⟨b, o + k, none⟩ = some (.slice (some ⟨rb, ro, none⟩) (ns k) rc) ∧ RowAt W rb ro (ns k) (zs k)) := fun W hb => by
                  obtain ⟨e1, e2⟩ := HRW.out W hb k h1
                  rw [hvk] at e1 e2
                  refine ⟨e1, ?_⟩
                  rcases e2 with ⟨_, _, _, h5⟩ | ⟨rb', ro', rc', h5, _, h6⟩
                  · omega
                  · obtain ⟨⟨rfl, rfl⟩, rfl⟩ : (rb = rb' ∧ ro = ro') ∧ rc = rc' := by simpa using h5
                    exact h6
                have HST : Hid (rowB (zs k) (ns k) = true → badC ns zs (k + 1) = false) := fun h => badC_step HS.out hs0 hsh h
                clear hck
                have hck := (HROW.out wr HB.out).1
                have HBD : Hid (rowB (zs k) (ns k) = false → ciErr R z R ns zs = 3) := fun h => HBAD.out (Or.inr (Or.inr h))
                obtain ⟨nk, hnke⟩ : ∃ nk, nk = ns k := ⟨_, rfl⟩
                rw [← hnke] at hck hz h16I hq HROW HST HBD hnk hrc hs6
                have HRC : Hid ((nk : Int) ≤ (rc : Int)) := by show _ ≤ _; omega
                have HNK : Hid ((nk : Int) ≤ 16) := by show _ ≤ _; omega
                have HBO := HB
                clear HBAD hs0 hnum hre hvk hsh hnke HS
                go_wp2_with fail
                go_quiet (fail)
                have HBQ := Hid.mk' (below_drewN HB.out nq)
                obtain ⟨wo, hwo⟩ : ∃ wo, wo = wr.drewN nq := ⟨_, rfl⟩
                rw [← hwo] at HBQ ⊢
                clear hwo hck hc1 hcz HBO HB
                have hc1 := (HC.out wo HBQ.out).2
                have hck := (HROW.out wo HBQ.out).1
                go_wp2_with fail
                clear hc1 hck
                go_loopw [5] (fun t wx => ∃ j : Nat, j ≤ nk ∧ t = .int .i64 j ∧ Hid (Below w1.heap.size w1 wx) ∧ Hid (rowB (zs k) j = true)) (fun t _ => nk - (intOf t).toNat)
                case atStart => exact ⟨0, Nat.zero_le _, rfl, HBQ, rfl⟩
                case round =>
                  clear HBQ
                  obtain ⟨j, hj, rfl, HX, HT⟩ := hrel
                  have hc1 := (HC.out wr HX.out).2
                  have hck := (HROW.out wr HX.out).1
                  rcases Nat.lt_or_ge j nk with h5 | h5
                  · have hjI : (j : Int) < (nk : Int) := by omega
                    have hj0 : (0 : Int) ≤ (j : Int) := by omega
                    have hjc : (j : Int) ≤ (rc : Int) := by have := HRC.out; omega
                    have HCC : Hid (∀ W, Below w1.heap.size w1 W → W.cell? ⟨w.heap.size, 1, none⟩ = some (.slice (some ⟨b, o, none⟩) R lc) ∧ W.cell? ⟨b, o + k, none⟩ = some (.slice (some ⟨rb, ro, none⟩) nk rc) ∧ W.cell? ⟨rb, ro + j, none⟩ = some (.int .i64 (zs k j))) := fun W hb => ⟨(HC.out W hb).2, (HROW.out W hb).1, (HROW.out W hb).2 j h5⟩
                    have HCT : Hid (∀ W, Below w1.heap.size w1 W → Calls Tryd.prog 19 #[.slice (some ⟨rb, ro, none⟩) j rc, .int .i64 (zs k j)] W fun e w' => e = .returned (.bool (inB (zs k) j (zs k j))) ∧ w' = W) := fun W hb => DContains_row rb ro rc j (zs k) (zs k j) W (fun i hi => (HROW.out W hb).2 i (by omega)) (by omega)
                    have HT1 : Hid (inB (zs k) j (zs k j) = true → ciErr R z R ns zs = 3) := fun h => HBD.out (rowB_twice h h5)
                    have HT2 : Hid (¬ (0 ≤ zs k j ∧ zs k j < 16) → ciErr R z R ns zs = 3) := fun h => HBD.out (rowB_out h h5)
                    have HT3 : Hid (0 ≤ zs k j ∧ zs k j < 16 → inB (zs k) j (zs k j) = false → rowB (zs k) (j + 1) = true) := fun h h' => rowB_next HT.out h h'
                    have hcur0 : Below w1.heap.size w1 wr := HX.out
                    have hcur : Below w1.heap.size w1 wr.drew := HX.out.drew
                    generalize inB (zs k) j (zs k j) = q at *
                    generalize zs k j = x at *
                    go_wp2_with fail
                    go_region_held3 (fun W => W.cell? ⟨w.heap.size, 1, none⟩ = some (.slice (some ⟨b, o, none⟩) R lc) ∧ W.cell? ⟨b, o + k, none⟩ = some (.slice (some ⟨rb, ro, none⟩) nk rc) ∧ W.cell? ⟨rb, ro + j, none⟩ = some (.int .i64 x)) (first | exact HCC.out _ hcur0 | exact HCC.out _ hcur) (first
                      | (go_at_call 19; refine (HCT.out _ hcur).mono ?_; rintro e w5 ⟨rfl, hw5⟩; rw [hw5]; clear hw5 w5))
                    have hd1 := (HCC.out _ hcur).1
                    have hd2 := (HCC.out _ hcur).2.1
                    have hd3 := (HCC.out _ hcur).2.2
                    clear hc1 hck
                    cases q with
                    | true =>
                      have HT1' := Hid.mk' (HT1.out rfl)
                      go_wp2_with fail
                      go_ret
                      exact ⟨by rw [HT1'.out]; rfl, below_chS HB1.out hcur⟩
                    | false =>
                      by_cases hx0 : x < 0
                      · have HT2' := Hid.mk' (HT2.out (by omega))
                        go_wp2_with fail
                        go_ret
                        exact ⟨by rw [HT2'.out]; rfl, below_chS HB1.out hcur⟩
                      · have hx0' : decide (x < 0) = false := decide_eq_false hx0
                        by_cases hx1 : 15 < x
                        · have HT2' := Hid.mk' (HT2.out (by omega))
                          clear hx0
                          go_wp2_with fail
                          go_ret
                          exact ⟨by rw [HT2'.out]; rfl, below_chS HB1.out hcur⟩
                        · have hx1' : decide (15 < x) = false := decide_eq_false hx1
                          have HT3' := Hid.mk' (HT3.out (by omega) rfl)
                          clear hx0 hx1
                          go_wp2_with fail
                          exact ⟨⟨j + 1, h5, by go_num, Hid.mk' hcur, HT3'⟩, by simp [intOf]; omega⟩
                  · obtain rfl : j = nk := by omega
                    have HST' := Hid.mk' (HST.out HT.out)
                    go_wp2_with fail
                    exact ⟨⟨k + 1, h1, by go_num, HX, HST'⟩, by simp [intOf]; omega⟩
              · have HV := Hid.mk' (HBAD.out (Or.inr (Or.inl hsh)))
                have hq : ((ns k : Int) != (ns 0 : Int)) = true := by rw [bne_iff_ne]; omega
                rw [hre] at hck
                generalize ns k = nk at *
                clear HBAD hsh hs0 hnum hre
                go_wp2_with fail
                go_quiet (fail)
                go_wp2_with fail
                go_ret
                exact ⟨by rw [HV.out]; rfl, below_drewN (below_chS HB1.out HB.out) _⟩
        · obtain rfl : R = k := by omega
          have HV : Hid (ciErr R z R ns zs = 0) := by show _ = _; rw [HR.out, HS.out, if_neg (by simp)]
          go_wp2_with fail
          go_ret
          exact ⟨by rw [HV.out]; rfl, below_chS HB1.out HB.out⟩
end Go.Proofs.YtdlbnolnkmhdcaaDoor
