/- The document's TableError; the law's copies of tables. -/
import Derived.Test.YtdlbnolnkmhdcaaDoorTab
namespace Go.Proofs.YtdlbnolnkmhdcaaDoor
open Go.RowKit

theorem tabErr_many {R : Nat} {ns : Nat → Nat} {zs : Nat → Nat → Int} (h : 16 < R) : tabErr R ns zs = 2 := by unfold tabErr; exact if_pos h
theorem tabErr_long {R : Nat} {ns : Nat → Nat} {zs : Nat → Nat → Int} (h : ¬ 16 < R) (hl : longB ns R = true) : tabErr R ns zs = 2 := by unfold tabErr; rw [if_neg h, if_pos hl]
theorem tabErr_uneven {R : Nat} {ns : Nat → Nat} {zs : Nat → Nat → Int} (h : ¬ 16 < R) (hl : longB ns R = false) (hu : unevenB ns R = true) : tabErr R ns zs = 3 := by unfold tabErr; rw [if_neg h, if_neg (by rw [hl]; simp), if_pos hu]
theorem tabErr_even {R : Nat} {ns : Nat → Nat} {zs : Nat → Nat → Int} (h : ¬ 16 < R) (hl : longB ns R = false) (hu : unevenB ns R = false) : tabErr R ns zs = listErr (atF (flatL ns zs R)) (flatL ns zs R).length := by unfold tabErr; rw [if_neg h, if_neg (by rw [hl]; simp), if_neg (by rw [hu]; simp)]
theorem not_long {ns : Nat → Nat} : ∀ {n : Nat}, longB ns n = false → ∀ i, i < n → ns i ≤ 16
  | n, h, i, hi => by
    rcases Nat.lt_or_ge 16 (ns i) with h' | h'
    · rw [longB_mono hi h'] at h; cases h
    · exact h'
theorem sumT_le {ns : Nat → Nat} {B : Nat} : ∀ {n : Nat}, (∀ i, i < n → ns i ≤ B) → sumT ns n ≤ n * B
  | 0, _ => Nat.zero_le _
  | n + 1, h => by
    have h1 := sumT_le (ns := ns) (B := B) (n := n) (fun i hi => h i (by omega))
    have h2 := h n (by omega)
    show sumT ns n + ns n ≤ (n + 1) * B
    rw [Nat.add_mul]; omega
theorem sumT_small {ns : Nat → Nat} {R : Nat} (hR : ¬ 16 < R) (hl : longB ns R = false) : sumT ns R ≤ 256 := by
  have h1 := sumT_le (ns := ns) (B := 16) (not_long hl)
  have h2 : R * 16 ≤ 16 * 16 := Nat.mul_le_mul_right _ (by omega)
  omega

set_option maxRecDepth 100000 in
set_option maxHeartbeats 2000000 in
theorem TableError_any (v : Value) (R : Nat) (vs : Nat → Value) (ns : Nat → Nat) (zs : Nat → Nat → Int) (w : World) (h : TabAt w v R vs ns zs) (hR : R ≤ 40) (hs : sumT ns R ≤ 400) :
    Calls Tryd.prog 10 #[v] w fun e w' => e = .returned (.int .i64 (tabErr R ns zs : Int)) ∧ Below w.heap.size w w' := by
  by_cases hR16 : 16 < R
  · obtain ⟨ad, cap, rfl⟩ := h.form
    have HE := Hid.mk' (tabErr_many (ns := ns) (zs := zs) hR16)
    clear h
    go_enter Tryd.func10, Tryd.ntmps10
    go_wp2_with fail
    go_ret
    exact ⟨by rw [HE.out]; rfl, Below.refl _ _⟩
  · have HFL : Hid (∀ W, Below w.heap.size w W → Calls Tryd.prog 21 #[v] W fun e w' => ∃ v', e = .returned v' ∧ w'.ownsRow W.heap.size 3 1 v' (flatL ns zs R).length (cellL (flatL ns zs R)) ∧ Below W.heap.size W w') := fun W hb => Flat_any v R vs ns zs W (h.later hb) (by omega) (by omega)
    have HLE : Hid ((flatL ns zs R).length ≤ 400) := by show _ ≤ _; rw [flatL_length]; exact hs
    rcases h with ⟨ad, cap, rfl, rfl⟩ | ⟨b, o, cap, rfl, h0, hr⟩
    · have HE : Hid (tabErr 0 ns zs = listErr (atF (flatL ns zs 0)) (flatL ns zs 0).length) := tabErr_even (by omega) rfl rfl
      go_enter Tryd.func10, Tryd.ntmps10
      go_wp2_with fail
      refine wp_loop_rounds 1 ?_
      rw [rounds_succ]
      go_wp2_with fail
      refine (HFL.out w (Below.refl _ _)).mono ?_
      rintro e w1 ⟨v1, rfl, hrow, hb1⟩
      have hle := listError_any v1 _ _ w1 (numsAt_row hrow) (by have := HLE.out; omega)
      obtain ⟨ao, cc, hu, hlc⟩ := row_shape hrow
      have HB1 := Hid.mk' hb1
      rw [hu] at hle ⊢
      clear hrow hb1 hlc hu
      go_wp2_with (go_at_call 20; refine hle.mono ?_; rintro e w2 ⟨rfl, hw2⟩; rw [hw2]; clear hw2)
      go_ret
      exact ⟨by rw [HE.out]; rfl, HB1.out⟩
    · have HR := Hid.mk' (fun (W : World) (hb : Below w.heap.size w W) (i : Nat) (hi : i < R) => (show W.cell? ⟨b, o + i, none⟩ = some (vs i) by rw [hb.cell (cell_lt (hr i hi).1)]; exact (hr i hi).1))
      have HF : Hid (∀ i, i < R → ∃ ad cap, vs i = .slice ad (ns i) cap) := fun i hi => (hr i hi).2.form
      obtain ⟨ad0, cap0, hv0⟩ := HF.out 0 h0
      have HC0 : Hid (∀ W, Below w.heap.size w W → W.cell? ⟨b, o, none⟩ = some (.slice ad0 (ns 0) cap0)) := fun W hb => by have := HR.out W hb 0 h0; rw [hv0, Nat.add_zero] at this; exact this
      have HN : Hid (∀ i, i < R → ns i ≤ 400) := fun i hi => by have h2 : sumT ns i + ns i ≤ sumT ns R := sumT_mono ns hi; omega
      have HTB : Hid (longB ns R = false → unevenB ns R = true → tabErr R ns zs = 3) := fun h1 h2 => tabErr_uneven hR16 h1 h2
      have HTE : Hid (longB ns R = false → unevenB ns R = false → tabErr R ns zs = listErr (atF (flatL ns zs R)) (flatL ns zs R).length) := fun h1 h2 => tabErr_even hR16 h1 h2
      have HTL : Hid (∀ k, k < R → 16 < ns k → tabErr R ns zs = 2) := fun k hk hl => tabErr_long hR16 (longB_mono hk hl)
      clear hr hv0
      go_enter Tryd.func10, Tryd.ntmps10
      go_wp2_with fail
      go_loopw [3, 4] (fun u i wr => ∃ (k : Nat) (ub : Bool), k ≤ R ∧ u = .bool ub ∧ i = .int .i64 k ∧ Hid (longB ns k = false ∧ unevenB ns k = ub) ∧ Hid (Below w.heap.size w wr)) (fun _ i _ => R - (intOf i).toNat)
      case atStart => exact ⟨0, false, Nat.zero_le _, rfl, rfl, ⟨rfl, rfl⟩, Below.refl _ _⟩
      case round =>
        obtain ⟨k, ub, hk, rfl, rfl, HL, HB⟩ := hrel
        rcases Nat.lt_or_ge k R with h1 | h1
        · obtain ⟨ad1, cap1, hv1⟩ := HF.out k h1
          have hc := HR.out wr HB.out k h1
          rw [hv1] at hc
          have hc0 := HC0.out wr HB.out
          have hc0d := HC0.out wr.drew HB.out.drew
          have hkn : (k : Int) < (R : Int) := by omega
          have hnk := HN.out k h1
          have hn0 := HN.out 0 h0
          have HTK := Hid.mk' (HTL.out k h1)
          have HLK : Hid (longB ns (k + 1) = decide (16 < ns k)) := by show (longB ns k || _) = _; rw [HL.out.1, Bool.false_or]
          have HUK : Hid (unevenB ns (k + 1) = (ub || !decide (ns k = ns 0))) := by show (unevenB ns k || _) = _; rw [HL.out.2]
          generalize ns k = nk at *
          generalize ns 0 = n0 at *
          clear hv1
          rcases Nat.lt_or_ge 16 nk with hl | hl
          · have hlI : (16 : Int) < (nk : Int) := by omega
            go_wp2_with fail
            go_ret
            exact ⟨by rw [HTK.out hl]; rfl, HB.out⟩
          · have hlI : (nk : Int) ≤ 16 := by omega
            have HL1 : Hid (longB ns (k + 1) = false) := by show _ = _; rw [HLK.out]; exact decide_eq_false (by omega)
            cases ub with
            | true =>
              have HU1 : Hid (unevenB ns (k + 1) = true) := by show _ = _; rw [HUK.out]; rfl
              go_wp2_with fail
              go_region
              all_goals
                go_wp2_with fail
                exact ⟨⟨k + 1, true, h1, rfl, by go_num, ⟨HL1.out, HU1.out⟩, HB.out.drew⟩, by simp [intOf]; omega⟩
            | false =>
              by_cases he : nk = n0
              · subst he
                have HU1 : Hid (unevenB ns (k + 1) = false) := by show _ = _; rw [HUK.out]; simp
                go_wp2_with fail
                go_region
                all_goals
                  go_wp2_with fail
                  exact ⟨⟨k + 1, false, h1, rfl, by go_num, ⟨HL1.out, HU1.out⟩, HB.out.drew⟩, by simp [intOf]; omega⟩
              · have HU1 : Hid (unevenB ns (k + 1) = true) := by show _ = _; rw [HUK.out, decide_eq_false he]; rfl
                have heb : ((nk : Int) != (n0 : Int)) = true := by simp; omega
                go_wp2_with fail
                go_region
                all_goals
                  go_wp2_with fail
                  exact ⟨⟨k + 1, true, h1, rfl, by go_num, ⟨HL1.out, HU1.out⟩, HB.out.drew⟩, by simp [intOf]; omega⟩
        · obtain rfl : k = R := by omega
          cases ub with
          | true =>
            go_wp2_with fail
            go_ret
            exact ⟨by rw [HTB.out HL.out.1 HL.out.2]; rfl, HB.out⟩
          | false =>
            have HE := Hid.mk' (HTE.out HL.out.1 HL.out.2)
            go_wp2_with fail
            refine (HFL.out wr HB.out).mono ?_
            rintro e w1 ⟨v1, rfl, hrow, hb1⟩
            have hle := listError_any v1 _ _ w1 (numsAt_row hrow) (by have := HLE.out; omega)
            obtain ⟨ao, cc, hu, hlc⟩ := row_shape hrow
            have HB1 := Hid.mk' (HB.out.trans (hb1.mono HB.out.size))
            rw [hu] at hle ⊢
            clear hrow hb1 hlc hu
            go_wp2_with (go_at_call 20; refine hle.mono ?_; rintro e w2 ⟨rfl, hw2⟩; rw [hw2]; clear hw2)
            go_ret
            exact ⟨by rw [HE.out]; rfl, HB1.out⟩
end Go.Proofs.YtdlbnolnkmhdcaaDoor
