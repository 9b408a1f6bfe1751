/- IsingStates: the law. -/
import Derived.Test.YtoghnbcjkgookaaDoorIsBond
import Derived.Test.YtoghnbcjkgookaaDoorIsUn
namespace Go.Proofs.YtoghnbcjkgookaaDoor
open Go.RowKit

set_option maxRecDepth 100000 in
set_option maxHeartbeats 8000000 in
theorem IsingStates_all (a : Nat → Addr) (N : Int) (m : Nat) (ev : Value) (p q : Nat → Int) (w : World) (hE : Errs w a) (hG : EdAt w ev m p q) (hm : m ≤ maxLen) :
    Calls Tryd.prog 4 #[.agg #[.int .i64 N, ev]] w fun e w' => e = .returned (.bool true) ∧ Below w.heap.size w w' := by
  obtain ⟨ad, cap, rfl, -⟩ := id hG
  obtain ⟨w1, hw1⟩ : ∃ w1, w1 = w.alloc (.cells #[.int .i64 N, .slice ad m cap] 24) := ⟨_, rfl⟩
  have hb1 : Below w.heap.size w w1 := by rw [hw1]; exact (Below.refl _ _).alloc (Nat.le_refl _) _
  have hc0 : w1.cell? ⟨w.heap.size, 0, none⟩ = some (.int .i64 N) := by rw [hw1]; go_simp
  have hc1 : w1.cell? ⟨w.heap.size, 1, none⟩ = some (.slice ad m cap) := by rw [hw1]; go_simp
  have HC : Hid (∀ W, Below w1.heap.size w1 W → W.cell? ⟨w.heap.size, 0, none⟩ = some (.int .i64 N) ∧ W.cell? ⟨w.heap.size, 1, none⟩ = some (.slice ad m cap)) := fun W hb => ⟨by rw [hb.cell (cell_lt hc0)]; exact hc0, by rw [hb.cell (cell_lt hc1)]; exact hc1⟩
  have HE : Hid (∀ W, Below w1.heap.size w1 W → Errs W a) := fun W hb => (hE.below hb1).below hb
  have HG : Hid (∀ W, Below w1.heap.size w1 W → EdAt W (.slice ad m cap) m p q) := fun W hb => (hG.later hb1).later hb
  have HW1 := Hid.mk' hw1
  have HEND : Hid (∀ W, Below w1.heap.size w1 W → Below w.heap.size w W) := fun W hb => hb1.trans (hb.mono hb1.size)
  have HPE := Hid.mk' (bond_any a w1 (hE.below hb1))
  have HM := Hid.mk' hm
  clear hE hG hb1 hw1 hc0 hc1 hm
  go_enter Tryd.func4, Tryd.ntmps4
  go_upto_region 1 with fail
  rw [← HW1.out]
  go_wp2_with fail
  refine HPE.out.mono ?_
  rintro e w2 ⟨rfl, hb2⟩
  have HB2 := Hid.mk' hb2
  obtain ⟨c0, c1⟩ := HC.out _ hb2
  clear hb2 HPE
  have HLI := Hid.mk' (tiny_any N ad m cap HM.out w2)
  by_cases h200 : m ≤ 200
  · rw [decide_eq_true h200] at HLI
    go_wp2_with fail
    refine HLI.out.mono ?_
    rintro e w3 ⟨rfl, hb3⟩
    have HB3 := Hid.mk' (HB2.out.trans (hb3.mono HB2.out.size))
    clear hb3 HLI HB2 c0 c1
    obtain ⟨c0, c1⟩ := HC.out _ HB3.out
    have HGE := Hid.mk' (SystemError_any N m _ p q w3 (HG.out _ HB3.out) (by omega))
    go_wp2_with fail
    refine HGE.out.mono ?_
    rintro e w4 ⟨rfl, hb4⟩
    have HB4 := Hid.mk' (HB3.out.trans (hb4.mono HB3.out.size))
    clear hb4 HGE HB3 c0 c1
    obtain ⟨c0, c1⟩ := HC.out _ HB4.out
    have hm1 : m ≤ 1000 := by omega
    have hmI : (m : Int) ≤ 200 := by omega
    have HSY : Hid (∀ W, Below w1.heap.size w1 W → Calls Tryd.prog 13 #[.agg #[.int .i64 N, .slice ad m cap]] W fun e w' => ∃ v, e = .returned (.agg #[.int .i64 N, v]) ∧ EdAt w' v m p q ∧ Below W.heap.size W w') := fun W hb => system_any N m _ p q W (HG.out _ hb) hm1
    have HCO : Hid (∀ W, Below w1.heap.size w1 W → Calls Tryd.prog 11 #[errV a (syE N m p q), .int .i64 (syE N m p q : Nat)] W fun e w' => e = .returned (.bool true) ∧ Below W.heap.size W w') := fun W hb => coded_errV a _ (syE_le N m p q) W (HE.out _ hb)
    by_cases h0 : syE N m p q = 0
    · obtain ⟨hN0, hN1, hm2, hbd⟩ := syE_zero h0
      obtain ⟨n, rfl⟩ : ∃ n : Nat, N = n := ⟨N.toNat, by omega⟩
      have hn : n ≤ 14 := by omega
      have hnI : (n : Int) ≤ 14 := hN1
      have HCG : Hid (∀ W v, EdAt W v m p q → EdAt W v m (fun i => ((nP p i : Nat) : Int)) (fun i => ((nP q i : Nat) : Int))) := fun W v h => h.congr fun i hi => ⟨nP_cast (hbd i hi).1, nP_cast (hbd i hi).2.2.1⟩
      have HPQ : Hid (∀ i, i < m → nP p i < n ∧ nP q i < n ∧ nP p i ≠ nP q i) := fun i hi => by have := hbd i hi; unfold nP; omega
      have HDO : Hid (n ≤ 10 → Calls Tryd.prog 15 #[.int .i64 n, .slice ad m cap] w4 fun e w' => ∃ g, e = .returned (.slice (some ⟨g, 0, none⟩) (m + 1) (m + 1)) ∧ Fills w4 w' g (m + 1) (fun k => ((stK (nP p) (nP q) n m k : Nat) : Int))) := fun _ => UnlikeOf_any n m _ (nP p) (nP q) w4 (HCG.out _ _ (HG.out _ HB4.out)) hn hm2 (fun i hi => ⟨(HPQ.out i hi).1, (HPQ.out i hi).2.1⟩)
      have HST : Hid (∀ W v, Below w1.heap.size w1 W → EdAt W v m p q → Calls Tryd.prog 16 #[.agg #[.int .i64 n, v]] W fun e w' => ∃ g, e = .returned (.tuple #[.slice (some ⟨g, 0, none⟩) (m + 1) (m + 1), .nilIface]) ∧ Fills W w' g (m + 1) (fun k => ((stK (nP p) (nP q) n m k : Nat) : Int))) := fun W v hb hv => States_ok a n m v (nP p) (nP q) W (HE.out _ hb) (HCG.out _ _ hv) hn hm2 HPQ.out
      rw [h0, errV_zero] at HCO
      rw [h0]
      clear h0 hbd hN0 hN1 HCG HPQ
      generalize hf : (fun k => ((stK (nP p) (nP q) n m k : Nat) : Int)) = F at *
      clear hf
      by_cases hs : n ≤ 10
      · have HDC := Hid.mk' (HDO.out hs)
        have hsI : ¬ ((10 : Int) < (n : Int)) := by omega
        have hsJ : ¬ (10 < n) := by omega
        clear HDO
        go_wp2_with fail
        refine HDC.out.mono ?_
        rintro e w5 ⟨g5, rfl, h5⟩
        have HB5 := Hid.mk' (HB4.out.trans (h5.below.mono HB4.out.size))
        have HI5 := Hid.mk' h5.nums
        clear h5 HDC HB4 c0 c1
        obtain ⟨c0, c1⟩ := HC.out _ HB5.out
        go_wp2_with fail
        refine (HSY.out _ HB5.out).mono ?_
        rintro e w6 ⟨v6, rfl, h6, hb6⟩
        have HB6 := Hid.mk' (HB5.out.trans (hb6.mono HB5.out.size))
        have HAC := Hid.mk' (HST.out w6 v6 HB6.out h6)
        have HI6 := Hid.mk' (HI5.out.later hb6)
        obtain ⟨a6, k6, rfl, -⟩ := h6
        clear hb6 HSY HST c0 c1 HI5 HB5
        go_wp2_with fail
        refine HAC.out.mono ?_
        rintro e w7 ⟨g7, rfl, h7⟩
        have HB7 := Hid.mk' (HB6.out.trans (h7.below.mono HB6.out.size))
        have HN7 := Hid.mk' h7.nums
        have HI7 := Hid.mk' (HI6.out.later h7.below)
        clear h7 HAC HB6 HI6
        go_wp2_with fail
        refine (HCO.out _ HB7.out).mono ?_
        rintro e w8 ⟨rfl, hb8⟩
        have HB8 := Hid.mk' (HB7.out.trans (hb8.mono HB7.out.size))
        have HSI := Hid.mk' (SameInts_any _ _ (m + 1) F w8 (HN7.out.later hb8) (HI7.out.later hb8) (by omega))
        clear hb8 HCO HB7 HN7 HI7
        go_wp2_with fail
        refine HSI.out.mono ?_
        rintro e w9 ⟨rfl, hb9⟩
        have HB9 := Hid.mk' (HB8.out.trans (hb9.mono HB8.out.size))
        clear hb9 HSI
        go_wp2_with fail
        go_ret
        exact ⟨rfl, HEND.out _ HB9.out⟩
      · have hsI : (10 : Int) < (n : Int) := by omega
        clear HDO HST HSY HCO
        go_wp2_with fail
        go_ret
        exact ⟨rfl, HEND.out _ HB4.out⟩
    · have HST : Hid (∀ W v, Below w1.heap.size w1 W → EdAt W v m p q → Calls Tryd.prog 16 #[.agg #[.int .i64 N, v]] W fun e w' => e = .returned (.tuple #[.slice none 0 0, errV a (syE N m p q)]) ∧ Below W.heap.size W w') := fun W v hb hv => States_bad a N m v p q W (HE.out _ hb) hv hm1 h0
      have hne : (((syE N m p q : Nat) : Int) == 0) = false := by simp; omega
      have hR := errV_pos a h0
      rw [hR] at HST HCO
      generalize a (syE N m p q - 1) = EA at *
      clear hR h0
      generalize syE N m p q = E at *
      go_wp2_with fail
      refine (HSY.out _ HB4.out).mono ?_
      rintro e w6 ⟨v6, rfl, h6, hb6⟩
      have HB6 := Hid.mk' (HB4.out.trans (hb6.mono HB4.out.size))
      have HAC := Hid.mk' (HST.out w6 v6 HB6.out h6)
      obtain ⟨a6, k6, rfl, -⟩ := h6
      clear hb6 HSY HST c0 c1
      go_wp2_with fail
      refine HAC.out.mono ?_
      rintro e w7 ⟨rfl, hb7⟩
      have HB7 := Hid.mk' (HB6.out.trans (hb7.mono HB6.out.size))
      clear hb7 HAC HB6
      go_wp2_with fail
      refine (HCO.out _ HB7.out).mono ?_
      rintro e w8 ⟨rfl, hb8⟩
      have HB8 := Hid.mk' (HB7.out.trans (hb8.mono HB7.out.size))
      have HSI := Hid.mk' (SameInts_any (.slice none 0 0) (.slice none 0 0) 0 (fun _ => 0) w8 (Or.inl ⟨none, 0, rfl, rfl⟩) (Or.inl ⟨none, 0, rfl, rfl⟩) (by omega))
      clear hb8 HCO HB7
      go_wp2_with fail
      refine HSI.out.mono ?_
      rintro e w9 ⟨rfl, hb9⟩
      have HB9 := Hid.mk' (HB8.out.trans (hb9.mono HB8.out.size))
      clear hb9 HSI
      go_wp2_with fail
      go_ret
      exact ⟨rfl, HEND.out _ HB9.out⟩
  · rw [decide_eq_false h200] at HLI
    go_wp2_with fail
    refine HLI.out.mono ?_
    rintro e w3 ⟨rfl, hb3⟩
    have HB3 := Hid.mk' (HB2.out.trans (hb3.mono HB2.out.size))
    clear hb3 HLI HB2 c0 c1
    go_wp2_with fail
    go_ret
    exact ⟨rfl, HEND.out _ HB3.out⟩
end Go.Proofs.YtoghnbcjkgookaaDoor
