/- The law LempelSlide. -/
import Derived.Test.YtiocbnjdmceadaaDoorSlideD
import Derived.Test.YtiocbnjdmceadaaDoorAbP
import Derived.Test.YtiocbnjdmceadaaDoorCodedV
namespace Go.Proofs.YtiocbnjdmceadaaDoor
open Go.RowKit

theorem slL_len (L : List UInt8) (w : Nat) : ∀ f p, (slL L w f p).length ≤ f
  | 0, p => Nat.le_refl _
  | f + 1, p => by
    have ih := slL_len L w f (p + (bst L p (min w p)).2 + 1)
    unfold slL
    split
    · split
      · simp; exact ih
      · simp
    · simp
set_option maxRecDepth 100000 in
theorem Slide_bad (a : Nat → Addr) (T : ByteArray) (x : Int) (w : World) (hE : Errs w a) (hT : T.size ≤ maxLen) (h : 4000 < T.size ∨ x < 1 ∨ 4000 < x) :
    Calls Tryd.prog 16 #[.string T, .int .i64 x] w fun e w' => e = .returned (.tuple #[.slice none 0 0, errV a 2]) ∧ Below w.heap.size w w' := by
  have e1 := hE.c1
  rw [errV_two]
  unfold maxLen at hT
  clear hE
  by_cases h1 : 4000 < T.size
  · have h1I : (4000 : Int) < (T.size : Int) := by omega
    go_enter Tryd.func16, Tryd.ntmps16
    go_wp2_with fail
    go_quiet (fail)
    go_wp2_with fail
    go_ret2
    exact ⟨rfl, below_drewN (Below.refl _ _) _⟩
  · have h1I : ¬ (4000 : Int) < (T.size : Int) := by omega
    by_cases h2 : x < 1
    · go_enter Tryd.func16, Tryd.ntmps16
      go_wp2_with fail
      go_quiet (fail)
      go_wp2_with fail
      go_ret2
      exact ⟨rfl, below_drewN (Below.refl _ _) _⟩
    · have h3 : 4000 < x := by omega
      go_enter Tryd.func16, Tryd.ntmps16
      go_wp2_with fail
      go_quiet (fail)
      go_wp2_with fail
      go_ret2
      exact ⟨rfl, below_drewN (Below.refl _ _) _⟩

set_option maxRecDepth 100000 in
set_option maxHeartbeats 4000000 in
theorem LempelSlide_all (a : Nat → Addr) (T : ByteArray) (x : Int) (w : World) (hE : Errs w a) (hT : T.size ≤ maxLen) :
    Calls Tryd.prog 5 #[.string T, .int .i64 x] w fun e w' => e = .returned (.bool true) ∧ Below w.heap.size w w' := by
  have hA := abab_any w
  have HE := Hid.mk' hE
  have HM := Hid.mk' hT
  unfold maxLen at hT
  clear hE
  by_cases hb : 200 < T.size ∧ T.size ≤ 4000
  · have h1 : (200 : Int) < (T.size : Int) := by omega
    have h2 : (T.size : Int) ≤ 4000 := by omega
    clear hb
    go_enter Tryd.func5, Tryd.ntmps5
    go_wp2_with fail
    refine hA.mono ?_
    rintro e w1 ⟨rfl, hb1⟩
    have HB1 := Hid.mk' hb1
    clear hb1 hA
    go_wp2_with fail
    go_ret
    exact ⟨rfl, HB1.out⟩
  · by_cases hc : 4000 < T.size ∨ x < 1 ∨ 4000 < x
    · have HS : Hid (∀ W, Below w.heap.size w W → Calls Tryd.prog 16 #[.string T, .int .i64 x] W fun e w' => e = .returned (.tuple #[.slice none 0 0, errV a 2]) ∧ Below W.heap.size W w') := fun W hW => Slide_bad a T x W (HE.out.below hW) HM.out hc
      have HCD : Hid (∀ W, Below w.heap.size w W → Calls Tryd.prog 10 #[errV a 2, .int .i64 2] W fun e w' => e = .returned (.bool true) ∧ Below W.heap.size W w') := fun W hW => coded_errV a 2 (by decide) W (HE.out.below hW)
      have hd : ((200 : Int) < (T.size : Int) ∧ ¬ (T.size : Int) ≤ 4000 ∧ (4000 : Int) < (T.size : Int)) ∨ (¬ (200 : Int) < (T.size : Int) ∧ ¬ (4000 : Int) < (T.size : Int) ∧ x < 1) ∨ (¬ (200 : Int) < (T.size : Int) ∧ ¬ (4000 : Int) < (T.size : Int) ∧ ¬ x < 1 ∧ 4000 < x) := by omega
      clear hb hc
      generalize errV a 2 = ev at *
      rcases hd with ⟨hd1, hd2, hd3⟩ | ⟨hd1, hd2, hd3⟩ | ⟨hd1, hd2, hd3, hd4⟩
      all_goals
        go_enter Tryd.func5, Tryd.ntmps5
        go_wp2_with fail
        refine hA.mono ?_
        rintro e w1 ⟨rfl, hb1⟩
        have HB1 := Hid.mk' hb1
        clear hb1 hA
        go_wp2_with fail
        refine (HS.out w1 HB1.out).mono ?_
        rintro e w2 ⟨rfl, hb2⟩
        have HB2 := Hid.mk' (below_chain HB1.out hb2)
        clear hb2
        go_wp2_with fail
        refine (HCD.out w2 HB2.out).mono ?_
        rintro e w3 ⟨rfl, hb3⟩
        have HB3 := Hid.mk' (below_chain HB2.out hb3)
        clear hb3
        go_wp2_with fail
        go_ret
        exact ⟨rfl, HB3.out⟩
    · obtain ⟨win, rfl⟩ : ∃ n : Nat, x = (n : Int) := ⟨x.toNat, by omega⟩
      have hs : T.size ≤ 200 := by omega
      have hw1 : 1 ≤ win := by omega
      have hw2 : win ≤ 4000 := by omega
      have HS : Hid (∀ W, Calls Tryd.prog 16 #[.string T, .int .i64 (win : Int)] W fun e w' => ∃ v, e = .returned (.tuple #[v, .nilIface]) ∧ CpyAt w' v (slL T.data.toList win (T.size + 1) 0) ∧ Below W.heap.size W w') := fun W => (Slide_ok T win W (by omega) hw1 hw2).mono fun e w' ⟨v, he, hr, hb⟩ => ⟨v, he, cpyAt_row hr, hb⟩
      have HD : Hid (∀ W, Calls Tryd.prog 17 #[.string T, .int .i64 (win : Int)] W fun e w' => ∃ v, e = .returned v ∧ CpyAt w' v (slL T.data.toList win (T.size + 1) 0) ∧ Below W.heap.size W w') := fun W => (SlideOf_any T win W (by omega) hw1 hw2).mono fun e w' ⟨v, he, hr, hb⟩ => ⟨v, he, cpyAt_row hr, hb⟩
      have HLN : Hid ((slL T.data.toList win (T.size + 1) 0).length ≤ 100000) := Nat.le_trans (slL_len _ _ _ _) (by omega)
      have h1 : ¬ (200 : Int) < (T.size : Int) := by omega
      have h2 : ¬ (4000 : Int) < (T.size : Int) := by omega
      have h3 : ¬ (win : Int) < 1 := by omega
      have h4 : ¬ (4000 : Int) < (win : Int) := by omega
      clear hb hc
      generalize slL T.data.toList win (T.size + 1) 0 = l at *
      go_enter Tryd.func5, Tryd.ntmps5
      go_wp2_with fail
      refine hA.mono ?_
      rintro e w1 ⟨rfl, hb1⟩
      have HB1 := Hid.mk' hb1
      clear hb1 hA
      go_wp2_with fail
      refine (HS.out w1).mono ?_
      rintro e w2 ⟨v, rfl, hl2, hb2⟩
      have HB2 := Hid.mk' (below_chain HB1.out hb2)
      have HL2 := Hid.mk' hl2
      obtain ⟨ad, cap, rfl, hcl⟩ := hl2
      clear hb2 hcl
      go_wp2_with fail
      refine (HD.out w2).mono ?_
      rintro e w3 ⟨v3, rfl, hl3, hb3⟩
      have HB3 := Hid.mk' (below_chain HB2.out hb3)
      have HL3 := Hid.mk' (HL2.out.later hb3)
      have HD3 := Hid.mk' hl3
      obtain ⟨ad3, cap3, rfl, hcl⟩ := hl3
      clear hb3 hcl HL2
      have hln := HLN.out
      go_wp2_with fail
      go_loopw [9] (fun t wr => ∃ k m : Nat, k ≤ l.length ∧ t = .int .i64 (k : Int) ∧ wr = w3.drewN m) (fun t _ => l.length - (intOf t).toNat)
      case atStart => exact ⟨0, 0, Nat.zero_le _, rfl, rfl⟩
      case round =>
        obtain ⟨k, m, hk, rfl, rfl⟩ := hrel
        rcases Nat.lt_or_ge k l.length with h5 | h5
        · have hkI : (k : Int) < (l.length : Int) := by omega
          have hk0 : (0 : Int) ≤ (k : Int) := by omega
          obtain ⟨_, _, e1, q1⟩ := HL3.out
          obtain ⟨rfl, rfl⟩ : ad = _ ∧ cap = _ := by simpa using e1
          obtain ⟨b, o, hbo, x0, x1, x2, x3⟩ := q1 k _ (List.getElem?_eq_getElem h5)
          obtain ⟨_, _, e2, q2⟩ := HD3.out
          obtain ⟨rfl, rfl⟩ : ad3 = _ ∧ cap3 = _ := by simpa using e2
          obtain ⟨b', o', hbo', y0, y1, y2, y3⟩ := q2 k _ (List.getElem?_eq_getElem h5)
          subst hbo
          subst hbo'
          clear q1 q2 e1 e2
          generalize l[k] = c at *
          go_wp2_with fail
          go_quiet (fail)
          go_wp2_with fail
          exact ⟨⟨k + 1, _, h5, by go_num, rfl⟩, by simp [intOf]; omega⟩
        · obtain rfl : k = l.length := by omega
          have hkI : ¬ (l.length : Int) < (l.length : Int) := by omega
          go_wp2_with fail
          go_ret
          exact ⟨rfl, below_drewN HB3.out _⟩
end Go.Proofs.YtiocbnjdmceadaaDoor
