/- IsingValid: the law. -/
import Derived.Test.YtoghnbcjkgookaaDoorIsBond
namespace Go.Proofs.YtoghnbcjkgookaaDoor
open Go.RowKit

set_option maxRecDepth 100000 in
set_option maxHeartbeats 8000000 in
theorem IsingValid_all (a : Nat → Addr) (N : Int) (m : Nat) (ev : Value) (p q : Nat → Int) (w : World) (hE : Errs w a) (hG : EdAt w ev m p q) (hm : m ≤ maxLen) :
    Calls Tryd.prog 3 #[.agg #[.int .i64 N, ev]] w fun e w' => e = .returned (.bool true) ∧ Below w.heap.size w w' := by
  obtain ⟨ad, cap, rfl, -⟩ := id hG
  obtain ⟨w1, hw1⟩ : ∃ w1, w1 = w.alloc (.cells #[.int .i64 N, .slice ad m cap] 24) := ⟨_, rfl⟩
  have hb1 : Below w.heap.size w w1 := by rw [hw1]; exact (Below.refl _ _).alloc (Nat.le_refl _) _
  have hc0 : w1.cell? ⟨w.heap.size, 0, none⟩ = some (.int .i64 N) := by rw [hw1]; go_simp
  have hc1 : w1.cell? ⟨w.heap.size, 1, none⟩ = some (.slice ad m cap) := by rw [hw1]; go_simp
  have HC : Hid (∀ W, Below w1.heap.size w1 W → W.cell? ⟨w.heap.size, 0, none⟩ = some (.int .i64 N) ∧ W.cell? ⟨w.heap.size, 1, none⟩ = some (.slice ad m cap)) := fun W hb => ⟨by rw [hb.cell (cell_lt hc0)]; exact hc0, by rw [hb.cell (cell_lt hc1)]; exact hc1⟩
  have HE : Hid (∀ W, Below w1.heap.size w1 W → Errs W a) := fun W hb => (hE.below hb1).below hb
  have HG : Hid (∀ W, Below w1.heap.size w1 W → EdAt W (.slice ad m cap) m p q) := fun W hb => (hG.later hb1).later hb
  have HW1 := Hid.mk' hw1
  have HEND : Hid (∀ W, Below w1.heap.size w1 W → Below w.heap.size w W) := fun W hb => hb1.trans (hb.mono hb1.size)
  have HPE := Hid.mk' (bond_any a w1 (hE.below hb1))
  have HM := Hid.mk' hm
  clear hE hG hb1 hw1 hc0 hc1 hm
  go_enter Tryd.func3, Tryd.ntmps3
  go_upto_region 1 with fail
  rw [← HW1.out]
  go_wp2_with fail
  refine HPE.out.mono ?_
  rintro e w2 ⟨rfl, hb2⟩
  have HB2 := Hid.mk' hb2
  obtain ⟨c0, c1⟩ := HC.out _ hb2
  clear hb2 HPE
  have HLI := Hid.mk' (tiny_any N ad m cap HM.out w2)
  by_cases h200 : m ≤ 200
  · rw [decide_eq_true h200] at HLI
    go_wp2_with fail
    refine HLI.out.mono ?_
    rintro e w4 ⟨rfl, hb4⟩
    have HB4 := Hid.mk' (HB2.out.trans (hb4.mono HB2.out.size))
    clear hb4 HLI HB2 c0 c1
    have hm1 : m ≤ 1000 := by omega
    have HGR : Hid (∀ W, Below w1.heap.size w1 W → Calls Tryd.prog 13 #[.agg #[.int .i64 N, .slice ad m cap]] W fun e w' => ∃ v, e = .returned (.agg #[.int .i64 N, v]) ∧ EdAt w' v m p q ∧ Below W.heap.size W w') := fun W hb => system_any N m _ p q W (HG.out _ hb) hm1
    have HVA : Hid (∀ W v, Below w1.heap.size w1 W → EdAt W v m p q → Calls Tryd.prog 12 #[.agg #[.int .i64 N, v]] W fun e w' => e = .returned (errV a (syE N m p q)) ∧ Below W.heap.size W w') := fun W v hb hv => IValid_any a N m v p q W (HE.out _ hb) hv hm1
    have HGE : Hid (∀ W, Below w1.heap.size w1 W → Calls Tryd.prog 14 #[.agg #[.int .i64 N, .slice ad m cap]] W fun e w' => e = .returned (.int .i64 (syE N m p q : Nat)) ∧ Below W.heap.size W w') := fun W hb => SystemError_any N m _ p q W (HG.out _ hb) hm1
    have HCO : Hid (∀ W, Below w1.heap.size w1 W → Calls Tryd.prog 11 #[errV a (syE N m p q), .int .i64 (syE N m p q : Nat)] W fun e w' => e = .returned (.bool true) ∧ Below W.heap.size W w') := fun W hb => coded_errV a _ (syE_le N m p q) W (HE.out _ hb)
    have hcur0 := HB4.out
    have hcur := HB4.out.drew
    generalize hgv : errV a (syE N m p q) = GV at *
    generalize syE N m p q = GE at *
    clear hgv
    go_wp2_with fail
    go_region_held3 (fun W => W.cell? ⟨w.heap.size, 0, none⟩ = some (.int .i64 N) ∧ W.cell? ⟨w.heap.size, 1, none⟩ = some (.slice ad m cap))
      (first | exact HC.out _ hcur | exact HC.out _ hcur0 | exact HC.out _ hB5 | exact HC.out _ hB6 | exact HC.out _ hB7 | exact HC.out _ hB8)
      (first
        | (go_at_call 11; refine (HCO.out _ hB7).mono ?_; rintro e w8 ⟨rfl, hb8⟩; have hB8 := hB7.trans (hb8.mono hB7.size); clear hb8)
        | (go_at_call 14; refine (HGE.out _ hB6).mono ?_; rintro e w7 ⟨rfl, hb7⟩; have hB7 := hB6.trans (hb7.mono hB6.size); clear hb7)
        | (go_at_call 12; refine (HVA.out _ _ hB5 HV5.out).mono ?_; rintro e w6 ⟨rfl, hb6⟩; have hB6 := hB5.trans (hb6.mono hB5.size); clear hb6)
        | (go_at_call 13; refine (HGR.out _ hcur).mono ?_; rintro e w5 ⟨v5, rfl, hv5, hb5⟩; have hB5 := hcur.trans (hb5.mono hcur.size); have HV5 := Hid.mk' hv5; obtain ⟨a5, k5, rfl, -⟩ := hv5; clear hb5))
    have HB8 := Hid.mk' hB8
    clear hB5 hB6 hB7 hB8 hcur hcur0 HV5 HGR HVA HGE HCO
    go_wp2_with fail
    go_ret
    exact ⟨rfl, HEND.out _ HB8.out⟩
  · rw [decide_eq_false h200] at HLI
    go_wp2_with fail
    refine HLI.out.mono ?_
    rintro e w3 ⟨rfl, hb3⟩
    have HB3 := Hid.mk' (HB2.out.trans (hb3.mono HB2.out.size))
    clear hb3 HLI HB2 c0 c1
    go_wp2_with fail
    go_ret
    exact ⟨rfl, HEND.out _ HB3.out⟩
end Go.Proofs.YtoghnbcjkgookaaDoor
