/- ZeroAlone: the law. -/
import Derived.Test.YtojljmapdafmaaaDoorZeAl3
import Derived.Test.YtojljmapdafmaaaDoorZeAD
namespace Go.Proofs.YtojljmapdafmaaaDoor
open Go.RowKit

theorem numsAt_ints {w : World} {v : Value} {l : List Nat} (h : IntsAt w v l) : NumsAt w v l.length (fun i => ((l.getD i 0 : Nat) : Int)) := by
  rcases h with ⟨ad, cap, rfl, rfl⟩ | ⟨b, o, cap, rfl, _, hp, h⟩
  · exact Or.inl ⟨_, _, rfl, rfl⟩
  · exact Or.inr ⟨b, o, cap, rfl, hp, h⟩
theorem grE_le (N : Int) (m : Nat) (p q : Nat → Int) : grE N m p q ≤ 8 := by
  unfold grE
  split
  · decide
  · split <;> decide

set_option maxRecDepth 100000 in
set_option maxHeartbeats 4000000 in
theorem ZeroAlone_all (a : Nat → Addr) (N : Int) (m : Nat) (ev : Value) (p q : Nat → Int) (w : World) (hE : Errs w a) (hT : TzAt w) (hG : EdAt w ev m p q) (hm : m ≤ maxLen) :
    Calls Tryd.prog 4 #[.agg #[.int .i64 N, ev]] w fun e w' => e = .returned (.bool true) ∧ Below w.heap.size w w' := by
  obtain ⟨ad, cap, rfl, -⟩ := id hG
  obtain ⟨w1, hw1⟩ : ∃ w1, w1 = w.alloc (.cells #[.int .i64 N, .slice ad m cap] 24) := ⟨_, rfl⟩
  have hb1 : Below w.heap.size w w1 := by rw [hw1]; exact (Below.refl _ _).alloc (Nat.le_refl _) _
  have hc0 : w1.cell? ⟨w.heap.size, 0, none⟩ = some (.int .i64 N) := by rw [hw1]; go_simp
  have hc1 : w1.cell? ⟨w.heap.size, 1, none⟩ = some (.slice ad m cap) := by rw [hw1]; go_simp
  have HC : Hid (∀ W, Below w1.heap.size w1 W → W.cell? ⟨w.heap.size, 0, none⟩ = some (.int .i64 N) ∧ W.cell? ⟨w.heap.size, 1, none⟩ = some (.slice ad m cap)) := fun W hb => ⟨by rw [hb.cell (cell_lt hc0)]; exact hc0, by rw [hb.cell (cell_lt hc1)]; exact hc1⟩
  have HE : Hid (∀ W, Below w1.heap.size w1 W → Errs W a) := fun W hb => (hE.below hb1).below hb
  have HT : Hid (∀ W, Below w1.heap.size w1 W → TzAt W) := fun W hb => (hT.below hb1).below hb
  have HG : Hid (∀ W, Below w1.heap.size w1 W → EdAt W (.slice ad m cap) m p q) := fun W hb => (hG.later hb1).later hb
  have HW1 := Hid.mk' hw1
  have HEND : Hid (∀ W, Below w1.heap.size w1 W → Below w.heap.size w W) := fun W hb => hb1.trans (hb.mono hb1.size)
  have HPE := Hid.mk' (pentagon_any a w1 (hE.below hb1) (hT.below hb1))
  have HM := Hid.mk' hm
  clear hE hT hG hb1 hw1 hc0 hc1 hm
  go_enter Tryd.func4, Tryd.ntmps4
  go_upto_region 1 with fail
  rw [← HW1.out]
  go_wp2_with fail
  refine HPE.out.mono ?_
  rintro e w2 ⟨rfl, hb2⟩
  have HB2 := Hid.mk' hb2
  obtain ⟨c0, c1⟩ := HC.out _ hb2
  clear hb2 HPE
  have HLI := Hid.mk' (little_any N ad m cap HM.out w2)
  by_cases h200 : m ≤ 200
  · rw [decide_eq_true h200] at HLI
    go_wp2_with fail
    refine HLI.out.mono ?_
    rintro e w3 ⟨rfl, hb3⟩
    have HB3 := Hid.mk' (HB2.out.trans (hb3.mono HB2.out.size))
    clear hb3 HLI HB2 c0 c1
    obtain ⟨c0, c1⟩ := HC.out _ HB3.out
    have HGE := Hid.mk' (GraphError_any N m _ p q w3 (HG.out _ HB3.out) (by omega))
    go_wp2_with fail
    refine HGE.out.mono ?_
    rintro e w4 ⟨rfl, hb4⟩
    have HB4 := Hid.mk' (HB3.out.trans (hb4.mono HB3.out.size))
    clear hb4 HGE HB3 c0 c1
    obtain ⟨c0, c1⟩ := HC.out _ HB4.out
    have hm1 : m ≤ 1000 := by omega
    have HAL : Hid (∀ W v, Below w1.heap.size w1 W → EdAt W v m p q → Calls Tryd.prog 21 #[.agg #[.int .i64 N, v]] W fun e w' => ∃ v, e = .returned (.tuple #[v, errV a (grE N m p q)]) ∧ w'.ownsRow W.heap.size 3 1 v (alL N m p q).length (digCells (alL N m p q)) ∧ Below W.heap.size W w') := fun W v hb hv => Alone_any a N m v p q W (HE.out _ hb) (HT.out _ hb) hv hm1
    have HCO : Hid (∀ W, Below w1.heap.size w1 W → Calls Tryd.prog 10 #[errV a (grE N m p q), .int .i64 (grE N m p q : Nat)] W fun e w' => e = .returned (.bool true) ∧ Below W.heap.size W w') := fun W hb => coded_errV a _ (grE_le N m p q) W (HE.out _ hb)
    by_cases h0 : grE N m p q = 0
    · obtain ⟨n, rfl⟩ : ∃ n : Nat, N = n := ⟨N.toNat, by have := grE_zero h0; omega⟩
      have hn : n ≤ 16 := by have := grE_zero h0; omega
      have hed := ed_nat h0
      have HAO : Hid (Calls Tryd.prog 20 #[.agg #[.int .i64 n, .slice ad m cap]] w4 fun e w' => ∃ v, e = .returned v ∧ IntsAt w' v (alL n m p q) ∧ Below w4.heap.size w4 w') := by
        have h2 := AloneOf_any n m (.slice ad m cap) (nP p) (nP q) w4 ((HG.out _ HB4.out).congr fun k hk => ⟨(hed k hk).2.2.1, (hed k hk).2.2.2⟩) hn hm1 (fun k hk => ⟨(hed k hk).1, by have := (hed k hk).2.1; simpa using this⟩)
        have e : alL n m p q = aloneL (okF (apF (nP p) (nP q) m)) n := by rw [alL, if_pos h0]; rfl
        show Calls _ _ _ _ _
        rw [e]
        exact h2
      have HLEN : Hid ((alL n m p q).length ≤ 16) := by
        have e : alL n m p q = aloneL (okF (apF (nP p) (nP q) m)) n := by rw [alL, if_pos h0]; rfl
        show _ ≤ _
        rw [e]
        exact Nat.le_trans (asc_length (alone_best _ n).1.1) hn
      rw [h0, errV_zero] at HAL
      rw [h0, errV_zero] at HCO
      rw [h0]
      clear h0 hed
      generalize alL n m p q = A at *
      by_cases h10 : n ≤ 10
      · have h10I : ¬ ((10 : Int) < (n : Int)) := by omega
        have h10J : ¬ (10 < n) := by omega
        go_wp2_with fail
        refine HAO.out.mono ?_
        rintro e w5 ⟨v5, rfl, h5, hb5⟩
        have HB5 := Hid.mk' (HB4.out.trans (hb5.mono HB4.out.size))
        have HI5 := Hid.mk' h5
        obtain ⟨c0, c1⟩ := HC.out _ HB5.out
        obtain ⟨a5, k5, rfl⟩ := h5.form
        clear hb5 h5 HAO HB4
        have HGR := Hid.mk' (graph_any n m _ p q w5 (HG.out _ HB5.out) hm1)
        go_wp2_with fail
        refine HGR.out.mono ?_
        rintro e w6 ⟨v6, rfl, h6, hb6⟩
        have HB6 := Hid.mk' (HB5.out.trans (hb6.mono HB5.out.size))
        have HAC := Hid.mk' (HAL.out w6 v6 HB6.out h6)
        have HBI := Hid.mk' hb6
        obtain ⟨a6, k6, rfl, -⟩ := h6
        clear hb6 HGR HAL c0 c1
        go_wp2_with fail
        refine HAC.out.mono ?_
        rintro e w7 ⟨v7, rfl, h7, hb7⟩
        have HB7 := Hid.mk' (HB6.out.trans (hb7.mono HB6.out.size))
        have HN7 := Hid.mk' (numsAt_dig h7)
        have HBJ := Hid.mk' (HBI.out.trans (hb7.mono HBI.out.size))
        obtain ⟨a7, k7, rfl, _⟩ := row_shape h7
        clear hb7 h7 HAC HB6 HBI
        go_wp2_with fail
        refine (HCO.out _ HB7.out).mono ?_
        rintro e w8 ⟨rfl, hb8⟩
        have HB8 := Hid.mk' (HB7.out.trans (hb8.mono HB7.out.size))
        have HSI := Hid.mk' (SameInts_any _ _ A.length (fun i => ((A.getD i 0 : Nat) : Int)) w8 (HN7.out.later hb8) ((numsAt_ints HI5.out).later (HBJ.out.trans (hb8.mono HBJ.out.size))) (by have := HLEN.out; omega))
        clear hb8 HCO HB7
        go_wp2_with fail
        refine HSI.out.mono ?_
        rintro e w9 ⟨rfl, hb9⟩
        have HB9 := Hid.mk' (HB8.out.trans (hb9.mono HB8.out.size))
        clear hb9 HSI
        go_wp2_with fail
        go_ret
        exact ⟨rfl, HEND.out _ HB9.out⟩
      · have h10I : (10 : Int) < (n : Int) := by omega
        go_wp2_with fail
        go_ret
        exact ⟨rfl, HEND.out _ HB4.out⟩
    · have HLEN : Hid ((alL N m p q).length ≤ 16) := by show _ ≤ _; rw [alL, if_neg h0]; decide
      have HNIL : Hid (alL N m p q = []) := if_neg h0
      have hne : (((grE N m p q : Nat) : Int) == 0) = false := by simp; omega
      have hR := errV_pos a h0
      rw [hR] at HAL HCO
      generalize a (grE N m p q - 1) = EA at *
      clear hR h0
      generalize alL N m p q = A at *
      generalize grE N m p q = E at *
      have HGR := Hid.mk' (graph_any N m _ p q w4 (HG.out _ HB4.out) hm1)
      go_wp2_with fail
      refine HGR.out.mono ?_
      rintro e w6 ⟨v6, rfl, h6, hb6⟩
      have HB6 := Hid.mk' (HB4.out.trans (hb6.mono HB4.out.size))
      have HAC := Hid.mk' (HAL.out w6 v6 HB6.out h6)
      have HBI := Hid.mk' hb6
      obtain ⟨a6, k6, rfl, -⟩ := h6
      clear hb6 HGR HAL c0 c1
      go_wp2_with fail
      refine HAC.out.mono ?_
      rintro e w7 ⟨v7, rfl, h7, hb7⟩
      have HB7 := Hid.mk' (HB6.out.trans (hb7.mono HB6.out.size))
      have HN7 := Hid.mk' (numsAt_dig h7)
      have HBJ := Hid.mk' (HBI.out.trans (hb7.mono HBI.out.size))
      obtain ⟨a7, k7, rfl, _⟩ := row_shape h7
      clear hb7 h7 HAC HB6 HBI
      go_wp2_with fail
      refine (HCO.out _ HB7.out).mono ?_
      rintro e w8 ⟨rfl, hb8⟩
      have HB8 := Hid.mk' (HB7.out.trans (hb8.mono HB7.out.size))
      have HSI := Hid.mk' (SameInts_any _ _ A.length (fun i => ((A.getD i 0 : Nat) : Int)) w8 (HN7.out.later hb8) (by have e := HNIL.out; subst e; exact Or.inl ⟨none, 0, rfl, rfl⟩) (by have := HLEN.out; omega))
      clear hb8 HCO HB7
      go_wp2_with fail
      refine HSI.out.mono ?_
      rintro e w9 ⟨rfl, hb9⟩
      have HB9 := Hid.mk' (HB8.out.trans (hb9.mono HB8.out.size))
      clear hb9 HSI
      go_wp2_with fail
      go_ret
      exact ⟨rfl, HEND.out _ HB9.out⟩
  · rw [decide_eq_false h200] at HLI
    go_wp2_with fail
    refine HLI.out.mono ?_
    rintro e w3 ⟨rfl, hb3⟩
    have HB3 := Hid.mk' (HB2.out.trans (hb3.mono HB2.out.size))
    clear hb3 HLI HB2 c0 c1
    go_wp2_with fail
    go_ret
    exact ⟨rfl, HEND.out _ HB3.out⟩
end Go.Proofs.YtojljmapdafmaaaDoor
