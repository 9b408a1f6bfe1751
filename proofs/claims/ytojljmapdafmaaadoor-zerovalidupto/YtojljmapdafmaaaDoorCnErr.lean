/- Right channels: the document's. -/
import Derived.Test.YtojljmapdafmaaaDoorCnVal
namespace Go.Proofs.YtojljmapdafmaaaDoor
open Go.RowKit

theorem sumN_256 {z : Nat → Int} : ∀ {m : Nat}, (∀ i, i < m → z i ≤ 256) → sumN z m ≤ 256 * (m : Int)
  | 0, _ => by simp [sumN]
  | m + 1, h => by
    have h1 := sumN_256 (m := m) fun i hi => h i (by omega)
    have h2 := h m (by omega)
    show sumN z m + z m ≤ _
    omega
structure InRow (z : Nat → Int) (G : Bool) (m : Nat) (y : Int) (sb gb : Bool) : Prop where
  neg : negB z m = false
  some : sb = someB z m
  yes : gb = true → G = true ∨ ∃ i, i < m ∧ 256 < z i
  no : gb = false → G = false ∧ (∀ i, i < m → z i ≤ 256) ∧ y = sumN z m
theorem InRow.step {z : Nat → Int} {G : Bool} {m : Nat} {y : Int} {sb gb : Bool} (h : InRow z G m y sb gb) (h0 : 0 ≤ z m) {x : Int} (hx : x = z m) : InRow z G (m + 1) (if gb = true ∨ 256 < x then y else y + x) (sb || decide (0 < x)) (gb || decide (256 < x)) := by
  subst hx
  refine ⟨?_, ?_, fun e => ?_, fun e => ?_⟩
  · show (negB z m || decide (z m < 0)) = false
    rw [h.neg, Bool.false_or]; exact decide_eq_false (by omega)
  · show _ = (someB z m || decide (0 < z m))
    rw [h.some]
  · rcases Bool.or_eq_true_iff.mp e with e | e
    · rcases h.yes e with h1 | ⟨i, hi, h1⟩
      · exact Or.inl h1
      · exact Or.inr ⟨i, by omega, h1⟩
    · exact Or.inr ⟨m, by omega, of_decide_eq_true e⟩
  · obtain ⟨e1, e2⟩ := Bool.or_eq_false_iff.mp e
    obtain ⟨h1, h2, h3⟩ := h.no e1
    have h4 := of_decide_eq_false e2
    refine ⟨h1, fun i hi => ?_, ?_⟩
    · rcases Nat.lt_or_ge i m with h5 | h5
      · exact h2 i h5
      · obtain rfl : i = m := by omega
        omega
    · rw [if_neg (by rw [e1]; simp; omega), h3]; rfl
theorem InRow.close {ns : Nat → Nat} {zs : Nat → Nat → Int} {k : Nat} {y : Int} {sb gb : Bool} (h : InRow (zs k) (greatC ns zs k) (ns k) y sb gb) : greatC ns zs (k + 1) = (gb || decide (256 < y)) ∨ (gb = true ∧ greatC ns zs (k + 1) = true) := by
  show (greatC ns zs k || decide (256 < sumN (zs k) (ns k))) = _ ∨ (_ ∧ (greatC ns zs k || decide (256 < sumN (zs k) (ns k))) = true)
  cases gb with
  | true =>
    refine Or.inr ⟨rfl, ?_⟩
    rcases h.yes rfl with h1 | ⟨i, hi, h1⟩
    · rw [h1]; rfl
    · have := sumN_ge (not_neg h.neg) hi
      rw [decide_eq_true (by omega)]; simp
  | false =>
    obtain ⟨h1, _, h3⟩ := h.no rfl
    exact Or.inl (by rw [h1, h3])
theorem shape_neg {z : Nat → Int} {n m : Nat} (hm : m < n) (h : z m < 0) : listErr z n = 3 := listErr_neg hm h

set_option maxRecDepth 100000 in
set_option maxHeartbeats 4000000 in
theorem ChannelError_any (v : Value) (n : Nat) (vs : Nat → Value) (ns : Nat → Nat) (zs : Nat → Nat → Int) (w : World) (h : TabAt w v n vs ns zs) (hn : n ≤ 1000000) (hns : ∀ i, i < n → ns i ≤ 1000000) :
    Calls Tryd.prog 14 #[v] w fun e w' => e = .returned (.int .i64 (chanErr n ns zs : Nat)) ∧ Below w.heap.size w w' := by
  by_cases h8 : 16 < n
  · obtain ⟨ad, cap, rfl⟩ := h.form
    have hI : (16 : Int) < (n : Int) := by omega
    have he : chanErr n ns zs = 2 := by unfold chanErr; rw [if_pos h8]
    rw [he]
    clear h hns
    go_enter Tryd.func14, Tryd.ntmps14
    go_wp2_with fail
    go_ret
    exact ⟨rfl, Below.refl _ _⟩
  obtain ⟨ad, cap, rfl⟩ := h.form
  have HT := Hid.mk' h
  have HNS := Hid.mk' hns
  clear h hns
  have hI : ¬ (16 : Int) < (n : Int) := by omega
  have HEL : Hid (longB ns n = true → chanErr n ns zs = 2) := fun hl => by unfold chanErr; rw [if_neg h8, if_pos hl]
  have HEZ : Hid (longB ns n = false → n = 0 → chanErr n ns zs = 3) := fun hl h0 => by unfold chanErr; rw [if_neg h8, hl, if_neg (by simp), if_pos h0]
  have HE : Hid (longB ns n = false → 0 < n → chanErr n ns zs = if shapeB (ns 0) ns zs n = true then 3 else if greatC ns zs n = true then 2 else 0) := fun hl h0 => by unfold chanErr; rw [if_neg h8, hl, if_neg (by simp), if_neg (by omega)]
  have HRW : Hid (∀ k, k < n → ∃ b o, ad = some ⟨b, o, none⟩ ∧ w.cell? ⟨b, o + k, none⟩ = some (vs k) ∧ NumsAt w (vs k) (ns k) (zs k)) := fun k hk => by
    rcases HT.out with ⟨_, _, _, h1⟩ | ⟨b, o, c, h1, _, h2⟩
    · omega
    · simp only [Value.slice.injEq, true_and] at h1
      exact ⟨b, o, h1.1, h2 k hk⟩
  go_enter Tryd.func14, Tryd.ntmps14
  go_wp2_with fail
  go_loop [3] (fun t => ∃ k : Nat, k ≤ n ∧ t = .int .i64 k ∧ Hid (longB ns k = false)) (fun t => n - (intOf t).toNat)
  case atStart => exact ⟨0, Nat.zero_le _, rfl, rfl⟩
  case round =>
    obtain ⟨k, hk, rfl, HS⟩ := hrel
    rcases Nat.lt_or_ge k n with h1 | h1
    · have hkI : (k : Int) < (n : Int) := by omega
      have hk0 : (0 : Int) ≤ (k : Int) := by omega
      obtain ⟨b, o, rfl, hc, hnum⟩ := HRW.out k h1
      obtain ⟨rad, rcap, hre⟩ := hnum.form
      rw [hre] at hc
      have hnk := HNS.out k h1
      have HX : Hid (16 < ns k → chanErr n ns zs = 2) := fun hl => HEL.out (longB_mono h1 hl)
      have HL : Hid (longB ns (k + 1) = decide (16 < ns k)) := by show (longB ns k || _) = _; rw [HS.out, Bool.false_or]
      clear hre hnum
      generalize ns k = nk at hc hnk HX HL
      rcases Nat.lt_or_ge 16 nk with h5 | h5
      · have h5I : (16 : Int) < (nk : Int) := by omega
        have HX' := Hid.mk' (HX.out h5)
        go_wp2_with fail
        go_ret
        exact ⟨ret_int (by rw [HX'.out]; rfl), Below.refl _ _⟩
      · have h5I : ¬ (16 : Int) < (nk : Int) := by omega
        have HL' : Hid (longB ns (k + 1) = false) := by show _ = _; rw [HL.out]; exact decide_eq_false (by omega)
        go_wp2_with fail
        exact ⟨⟨k + 1, h1, by go_num, HL'⟩, by simp [intOf]; omega⟩
    · obtain rfl : n = k := by omega
      rcases Nat.eq_zero_or_pos n with h0 | h0
      · have HX := Hid.mk' (HEZ.out HS.out h0)
        subst h0
        go_wp2_with fail
        go_ret
        exact ⟨ret_int (by rw [HX.out]; rfl), Below.refl _ _⟩
      have hz : ((n : Int) == 0) = false := by rw [beq_eq_false_iff_ne]; omega
      have HE' := Hid.mk' (HE.out HS.out h0)
      have HLN := Hid.mk' (not_long HS.out)
      obtain ⟨b, o, rfl, hc0, hnum0⟩ := HRW.out 0 h0
      obtain ⟨rad0, rcap0, hre0⟩ := hnum0.form
      rw [hre0, Nat.add_zero] at hc0
      have HC0 := Hid.mk' hc0
      have hn0 := HLN.out 0 h0
      clear hre0 hnum0 hc0
      go_wp2_with fail
      go_loopw [4, 5] (fun g i wr => ∃ k : Nat, k ≤ n ∧ g = .bool (greatC ns zs k) ∧ i = .int .i64 k ∧ Hid (shapeB (ns 0) ns zs k = false) ∧ Hid (Below w.heap.size w wr)) (fun _ i _ => n - (intOf i).toNat)
      case atStart => exact ⟨0, Nat.zero_le _, rfl, rfl, rfl, Below.refl _ _⟩
      case round =>
        obtain ⟨k, hk, rfl, rfl, HS, HB⟩ := hrel
        rcases Nat.lt_or_ge k n with h1 | h1
        · have hkI : (k : Int) < (n : Int) := by omega
          have hk0 : (0 : Int) ≤ (k : Int) := by omega
          obtain ⟨b', o', hbo, hcw, hnum⟩ := HRW.out k h1
          simp only [Option.some.injEq, Addr.mk.injEq, and_true] at hbo
          obtain ⟨rfl, rfl⟩ := hbo
          obtain ⟨rad, rcap, hre⟩ := hnum.form
          rw [hre] at hcw hnum
          have HN := Hid.mk' hnum
          have HCK : Hid (∀ W, Below w.heap.size w W → W.cell? ⟨b, o + k, none⟩ = some (.slice rad (ns k) rcap)) := fun W hb => by rw [hb.cell (cell_lt hcw)]; exact hcw
          have hc := HCK.out wr HB.out
          have hcd := HCK.out wr.drew HB.out.drew
          have hc0 : wr.cell? ⟨b, o, none⟩ = some (.slice rad0 (ns 0) rcap0) := by rw [HB.out.cell (cell_lt HC0.out)]; exact HC0.out
          have hc0d : wr.drew.cell? ⟨b, o, none⟩ = some (.slice rad0 (ns 0) rcap0) := by rw [HB.out.drew.cell (cell_lt HC0.out)]; exact HC0.out
          have hnk := HLN.out k h1
          have HSB : Hid (ns k ≠ ns 0 ∨ listErr (zs k) (ns k) = 3 → chanErr n ns zs = 3) := fun hb => by rw [HE'.out, if_pos (shapeB_at h1 hb)]
          clear hre hnum hcw
          by_cases hsh : ns k = ns 0
          · have HS' : Hid (listErr (zs k) (ns k) ≠ 3 → shapeB (ns 0) ns zs (k + 1) = false) := fun h5 => by rw [shapeB, HS.out, decide_eq_false (by rw [hsh] at h5 ⊢; omega)]; rfl
            have HSH := Hid.mk' hsh
            rw [hsh] at hc hcd
            have hnn : ((ns 0 : Int) != (ns 0 : Int)) = false := by simp
            clear hsh
            go_wp2_with fail
            go_region
            all_goals
              have HBd := Hid.mk' HB.out.drew
              clear hc0 hc0d hc
              generalize wr.drew = W at *
              go_wp2_with fail
              go_loop [4, 6, 7, 8] (fun g s u i => ∃ (m : Nat) (y : Int) (sb gb : Bool), m ≤ ns k ∧ g = .bool gb ∧ s = .bool sb ∧ u = .int .i64 y ∧ i = .int .i64 m ∧ Hid (InRow (zs k) (greatC ns zs k) m y sb gb)) (fun _ _ _ i => ns k - (intOf i).toNat)
              case atStart => exact ⟨0, 0, false, greatC ns zs k, Nat.zero_le _, rfl, rfl, rfl, rfl, ⟨rfl, rfl, fun e => Or.inl e, fun e => ⟨e, fun i hi => by omega, rfl⟩⟩⟩
              case round =>
                obtain ⟨m, y, sb, gb, hm, rfl, rfl, rfl, rfl, HI⟩ := hrel
                have hns0 : ns 0 = ns k := HSH.out.symm
                rcases Nat.lt_or_ge m (ns k) with h2 | h2
                · have hmI : (m : Int) < (ns 0 : Int) := by omega
                  have hm0 : (0 : Int) ≤ (m : Int) := by omega
                  obtain ⟨rb, ro, rfl, hrow⟩ : ∃ rb ro, rad = some ⟨rb, ro, none⟩ ∧ RowAt w rb ro (ns k) (zs k) := by
                    rcases HN.out with ⟨_, _, _, h6⟩ | ⟨rb, ro, c, h6, _, h7⟩
                    · omega
                    · simp only [Value.slice.injEq, true_and] at h6
                      exact ⟨rb, ro, h6.1, h7⟩
                  have hx := hrow m h2
                  have hxc : W.cell? ⟨rb, ro + m, none⟩ = some (.int .i64 (zs k m)) := by rw [HBd.out.cell (cell_lt hx)]; exact hx
                  clear hrow hx hns0
                  rcases Int.lt_or_le (zs k m) 0 with hz | hz
                  · have HL := Hid.mk' (HSB.out (Or.inr (listErr_neg h2 hz)))
                    generalize zs k m = x at hxc hz
                    go_wp2_with fail
                    go_ret
                    exact ⟨ret_int (by rw [HL.out]; rfl), HBd.out⟩
                  · have HI' := Hid.mk' (HI.out.step hz rfl)
                    have hy : gb = false → 0 ≤ y ∧ y ≤ 4096 := fun e => by
                      obtain ⟨_, h4, h5⟩ := HI.out.no e
                      have h6 := sumN_256 h4
                      have h7 := sumN_nonneg (not_neg HI.out.neg)
                      rw [h5]
                      omega
                    generalize zs k m = x at hxc hz HI'
                    cases gb with
                    | true =>
                      clear hy
                      rw [if_pos (Or.inl rfl)] at HI'
                      cases sb with
                      | true =>
                        go_wp2_with fail
                        exact ⟨⟨m + 1, _, _, _, h2, rfl, rfl, rfl, by go_num, HI'⟩, by simp [intOf]; omega⟩
                      | false =>
                        go_wp2_with fail
                        exact ⟨⟨m + 1, _, _, _, h2, rfl, rfl, rfl, by go_num, HI'⟩, by simp [intOf]; omega⟩
                    | false =>
                      obtain ⟨hy0, hy1⟩ := hy rfl
                      by_cases hg : 256 < x
                      · rw [if_pos (Or.inr hg), decide_eq_true hg] at HI'
                        cases sb with
                        | true =>
                          go_wp2_with fail
                          exact ⟨⟨m + 1, _, _, _, h2, rfl, rfl, rfl, by go_num, HI'⟩, by simp [intOf]; omega⟩
                        | false =>
                          go_wp2_with fail
                          exact ⟨⟨m + 1, _, _, _, h2, rfl, rfl, rfl, by go_num, HI'⟩, by simp [intOf]; omega⟩
                      · have hgd : decide (256 < x) = false := decide_eq_false hg
                        rw [if_neg (by simp; omega), hgd] at HI'
                        cases sb with
                        | true =>
                          go_wp2_with fail
                          exact ⟨⟨m + 1, _, _, _, h2, rfl, rfl, rfl, by go_num, HI'⟩, by simp [intOf]; omega⟩
                        | false =>
                          go_wp2_with fail
                          exact ⟨⟨m + 1, _, _, _, h2, rfl, rfl, rfl, by go_num, HI'⟩, by simp [intOf]; omega⟩
                · obtain rfl : m = ns k := by omega
                  have hmI : ¬ ((ns k : Nat) : Int) < (ns 0 : Int) := by omega
                  clear hns0
                  cases sb with
                  | false =>
                    have HL := Hid.mk' (HSB.out (Or.inr (listErr_none HI.out.some.symm)))
                    go_wp2_with fail
                    go_ret
                    exact ⟨ret_int (by rw [HL.out]; rfl), HBd.out⟩
                  | true =>
                    have HS2 : Hid (shapeB (ns 0) ns zs (k + 1) = false) := HS'.out (fun h5 => by
                      unfold listErr at h5
                      rw [HI.out.neg, ← HI.out.some, if_neg (by simp)] at h5
                      split at h5 <;> cases h5)
                    have HC := Hid.mk' HI.out.close
                    cases gb with
                    | true =>
                      have HG : Hid (greatC ns zs (k + 1) = true) := by
                        rcases HC.out with e | ⟨_, e⟩
                        · rw [Bool.true_or] at e; exact e
                        · exact e
                      go_wp2_with fail
                      exact ⟨⟨k + 1, h1, by rw [HG.out], by go_num, HS2, HBd⟩, by simp [intOf]; omega⟩
                    | false =>
                      have HG : Hid (greatC ns zs (k + 1) = decide (256 < y)) := by
                        rcases HC.out with e | ⟨e, _⟩
                        · rw [Bool.false_or] at e; exact e
                        · cases e
                      go_wp2_with fail
                      exact ⟨⟨k + 1, h1, by rw [HG.out], by go_num, HS2, HBd⟩, by simp [intOf]; omega⟩
          · have hne : ((ns k : Int) != (ns 0 : Int)) = true := by rw [bne_iff_ne]; omega
            have HV := Hid.mk' (HSB.out (Or.inl hsh))
            clear hsh
            go_wp2_with fail
            go_region
            all_goals
              go_wp2_with fail
              go_ret
              exact ⟨ret_int (by rw [HV.out]; rfl), HB.out.drew⟩
        · obtain rfl : n = k := by omega
          have HV : Hid (chanErr n ns zs = if greatC ns zs n = true then 2 else 0) := by show _ = _; rw [HE'.out, HS.out, if_neg (by simp)]
          cases hg : greatC ns zs n with
          | true =>
            rw [hg, if_pos rfl] at HV
            go_wp2_with fail
            go_ret
            exact ⟨ret_int (by rw [HV.out]; rfl), HB.out⟩
          | false =>
            rw [hg, if_neg (by simp)] at HV
            go_wp2_with fail
            go_ret
            exact ⟨ret_int (by rw [HV.out]; rfl), HB.out⟩
end Go.Proofs.YtojljmapdafmaaaDoor
