/- The program's Collision. -/
import Derived.Test.YtklhfagcembigaaGreatDoorRyLg
import Derived.Test.YtklhfagcembigaaGreatDoorRyUni
namespace Go.Proofs.YtklhfagcembigaaGreatDoor
open Go.RowKit

set_option maxRecDepth 100000 in
set_option maxHeartbeats 4000000 in
theorem Collision_ok (a : Nat → Addr) (v : Value) (n S : Nat) (z : Nat → Int) (w : World) (hE : Errs w a) (h : NumsAt w v n z) (hS : sumN z n = (S : Int)) (hw0 : weightsErr z n = 0) (hd : S * S / Nat.gcd (sqNR z n) (S * S) ≤ 1000000) :
    Calls Tryz.prog 8 #[v] w fun e w' => Tells (S * S / Nat.gcd (sqNR z n) (S * S)) (sqNR z n / Nat.gcd (sqNR z n) (S * S)) e w' ∧ Below w.heap.size w w' := by
  obtain ⟨h16, hok⟩ := weightsErr_ok hw0
  have hn0 := hok.posN
  obtain ⟨b, o, cap, rfl, hrow⟩ := nums_row h hn0
  have hp := hok.pos
  have hl := hok.le
  obtain ⟨W0, hW0⟩ : ∃ W0, W0 = w.alloc (.cells #[.int .i64 0, .slice none 0 0] 27) := ⟨_, rfl⟩
  have hb0 : Below w.heap.size w W0 := by rw [hW0]; exact (Below.refl _ _).alloc (Nat.le_refl _) _
  have c0 : W0.cell? ⟨w.heap.size, 0, none⟩ = some (.int .i64 0) := by rw [hW0]; simp
  have c1 : W0.cell? ⟨w.heap.size, 1, none⟩ = some (.slice none 0 0) := by rw [hW0]; simp
  have f0 : W0.frozen? ⟨w.heap.size, 0, none⟩ = false := by rw [hW0]; simp
  have f1 : W0.frozen? ⟨w.heap.size, 1, none⟩ = false := by rw [hW0]; simp
  have HC : Hid (∀ W, Below W0.heap.size W0 W → (W.cell? ⟨w.heap.size, 0, none⟩ = some (.int .i64 0) ∧ W.cell? ⟨w.heap.size, 1, none⟩ = some (.slice none 0 0)) ∧ W.frozen? ⟨w.heap.size, 0, none⟩ = false ∧ W.frozen? ⟨w.heap.size, 1, none⟩ = false) := fun W hb => ⟨⟨by rw [hb.cell (cell_lt c0)]; exact c0, by rw [hb.cell (cell_lt c1)]; exact c1⟩, by rw [hb.frozen (show w.heap.size < W0.heap.size from cell_lt c0)]; exact f0, by rw [hb.frozen (show w.heap.size < W0.heap.size from cell_lt c0)]; exact f1⟩
  have HEND : Hid (∀ W, Below W0.heap.size W0 W → Below w.heap.size w W) := fun W hb => hb0.trans (hb.mono hb0.size)
  have HV := Hid.mk' (Valid_weights a _ n z W0 (hE.below hb0) (h.later hb0) (by omega))
  rw [hw0, errV_zero] at HV
  have HTO := Hid.mk' (fun (W : World) (hb : Below W0.heap.size W0 W) => by
    have h9 := total_some b o cap n z W ((hrow.later hb0).later hb) (fun k hk => by have := hok.part hk; omega) (fun k hk => by have := hok.lt hk; omega) (by omega)
    rw [hS] at h9
    exact h9)
  have hS0 : 1 ≤ S := by omega
  have hS4 : S ≤ 4096 := by omega
  have HW0 := Hid.mk' hW0
  have hS1 : sumA (wN z) n = S := by have := wN_sum hok.nn; omega
  have hT1 : sqNR z n ≤ S * S := by have := sqN_leR (z := z) (S := S) (n := n) (by omega); rwa [hS1] at this
  have hT0 : 0 < sqNR z n := sqN_posR (by omega)
  have hSS : S * S ≤ 16777216 := Nat.mul_le_mul (show S ≤ 4096 from hS4) hS4
  have hSP : 0 < S * S := Nat.mul_pos hS0 hS0
  have HSQ := Hid.mk' (squares_any b o cap n z W0 (hrow.later hb0) h16 (fun i hi => hok.lt hi))
  have HLO : Hid (∀ W, Calls Tryz.prog 25 #[.int .i64 (sqNR z n : Nat), .int .i64 ((S : Int) * (S : Int))] W fun e w' => e = .returned (.agg #[.int .i64 ((sqNR z n / Nat.gcd (sqNR z n) (S * S) : Nat) : Int), .int .i64 ((S * S / Nat.gcd (sqNR z n) (S * S) : Nat) : Int)]) ∧ Below W.heap.size W w') := fun W => by
    have h9 := lowest_any (sqNR z n : Int) (S * S) W (by omega) (by omega) hSP (by omega) (Nat.gcd (sqNR z n) (S * S)) rfl
    rw [Int.natCast_mul] at h9
    exact h9
  have hSI : (S : Int) * (S : Int) = ((S * S : Nat) : Int) := (Int.natCast_mul _ _).symm
  have hSI1 : 0 ≤ (S : Int) * (S : Int) ∧ (S : Int) * (S : Int) ≤ 16777216 := by rw [hSI]; omega
  have hq1 : 0 < sqNR z n / Nat.gcd (sqNR z n) (S * S) := Nat.div_pos (Nat.gcd_le_left _ hT0) (Nat.gcd_pos_of_pos_left _ hT0)
  have hq2 : sqNR z n / Nat.gcd (sqNR z n) (S * S) ≤ S * S / Nat.gcd (sqNR z n) (S * S) := Nat.div_le_div_right hT1
  have hq3 : S * S / Nat.gcd (sqNR z n) (S * S) ≤ 16777216 := Nat.le_trans (Nat.div_le_self _ _) hSS
  have HOF := Hid.mk' (fun (W : World) => Of_any (S * S / Nat.gcd (sqNR z n) (S * S)) (sqNR z n / Nat.gcd (sqNR z n) (S * S)) W (by omega) hd hq1 (by omega))
  have hdI : ¬ (1000000 : Int) < ((S * S / Nat.gcd (sqNR z n) (S * S) : Nat) : Int) := by omega
  clear hE h hrow hok hw0 hS hb0 hW0 hp hl c0 c1 f0 f1 hS1 hT1 hT0 hSS hSP hSI hS0 hS4
  generalize S * S / Nat.gcd (sqNR z n) (S * S) = q at *
  generalize sqNR z n / Nat.gcd (sqNR z n) (S * S) = p at *
  generalize sqNR z n = T at *
  go_enter Tryz.func8, Tryz.ntmps8
  go_upto_region 1 with fail
  rw [← HW0.out]
  go_wp2_with fail
  refine HV.out.mono ?_
  rintro e w2 ⟨rfl, hw2⟩
  rw [hw2]
  clear hw2 HV
  go_wp2_with fail
  refine HSQ.out.mono ?_
  rintro e w3 ⟨rfl, hwx⟩
  rw [hwx]
  clear hwx
  go_wp2_with fail
  refine (HTO.out W0 (Below.refl _ _)).mono ?_
  rintro e w4 ⟨rfl, hwx⟩
  rw [hwx]
  clear hwx
  go_wp2_with fail
  refine (HTO.out W0 (Below.refl _ _)).mono ?_
  rintro e w4 ⟨rfl, hwx⟩
  rw [hwx]
  clear hwx
  go_wp2_with fail
  refine (HLO.out W0).mono ?_
  rintro e w5 ⟨rfl, hb5⟩
  have HB5 : Hid (Below W0.heap.size W0 (w5.alloc (.cells #[.int .i64 (p : Int), .int .i64 (q : Int)] 38))) := below_chain hb5 ((Below.refl _ _).alloc (Nat.le_refl _) _)
  have g0 : (w5.alloc (.cells #[.int .i64 (p : Int), .int .i64 (q : Int)] 38)).cell? ⟨w5.heap.size, 0, none⟩ = some (.int .i64 (p : Int)) := by simp
  have g1 : (w5.alloc (.cells #[.int .i64 (p : Int), .int .i64 (q : Int)] 38)).cell? ⟨w5.heap.size, 1, none⟩ = some (.int .i64 (q : Int)) := by simp
  have HLA : Hid (w5.alloc (.cells #[.int .i64 (p : Int), .int .i64 (q : Int)] 38) = w5.alloc (.cells #[.int .i64 (p : Int), .int .i64 (q : Int)] 38)) := rfl
  clear hb5
  go_upto_region 5 with fail
  generalize w5.alloc (.cells #[.int .i64 (p : Int), .int .i64 (q : Int)] 38) = W5 at *
  generalize w5.heap.size = B5 at *
  go_wp2_with fail
  refine (over_anyR (q : Int) (p : Int) W5).mono ?_
  rintro e w6 ⟨rfl, hb6⟩
  have HB6 := Hid.mk' (below_chain HB5.out hb6)
  clear hb6 g0 g1 HLA
  go_wp2_with fail
  refine (HOF.out w6).mono ?_
  rintro e wF ⟨u, t, rfl, hu, hi, hbF⟩
  obtain ⟨ua, un, uc, rfl⟩ := (show ∃ ua un uc, u = .slice ua un uc from by rcases hu with ⟨rfl, _⟩ | ⟨g, cp, rfl, _⟩ <;> exact ⟨_, _, _, rfl⟩)
  have hcurF := below_chain HB6.out hbF
  obtain ⟨⟨d0, d1⟩, d2, d3⟩ := HC.out wF hcurF
  have HG := Hid.mk' (put_twoR (.int .i64 1) (.slice ua un uc) d0 d1)
  have HUU : Hid (ListAt ((wF.setCell ⟨w.heap.size, 0, none⟩ (.int .i64 1)).setCell ⟨w.heap.size, 1, none⟩ (.slice ua un uc)) (.slice ua un uc) t) := own_setR hu d1
  have HII := Hid.mk' hi
  have HBE : Hid (Below w.heap.size w ((wF.setCell ⟨w.heap.size, 0, none⟩ (.int .i64 1)).setCell ⟨w.heap.size, 1, none⟩ (.slice ua un uc))) := ((HEND.out wF hcurF).setCell (Nat.le_refl _) _).setCell (Nat.le_refl _) _
  obtain ⟨q0, _, _⟩ := HG.out
  clear hbF hu hi hcurF
  go_wp2_with fail
  generalize (wF.setCell ⟨w.heap.size, 0, none⟩ (.int .i64 1)).setCell ⟨w.heap.size, 1, none⟩ (.slice ua un uc) = W9 at *
  exact bodyPost_ret (v := .tuple #[.agg #[.int .i64 1, .slice ua un uc], .nilIface]) (by simp [results, Tryz.results8, go_sem, HG.out.2.1, HG.out.2.2]) rfl ⟨⟨_, t, rfl, HUU.out, HII.out⟩, HBE.out⟩
set_option maxRecDepth 100000 in
set_option maxHeartbeats 4000000 in
theorem Collision_big (a : Nat → Addr) (v : Value) (n S : Nat) (z : Nat → Int) (w : World) (hE : Errs w a) (h : NumsAt w v n z) (hS : sumN z n = (S : Int)) (hw0 : weightsErr z n = 0) (hd : 1000000 < S * S / Nat.gcd (sqNR z n) (S * S)) :
    Calls Tryz.prog 8 #[v] w fun e w' => e = .returned (.tuple #[.agg #[.int .i64 0, .slice none 0 0], errV a 2]) ∧ Below w.heap.size w w' := by
  obtain ⟨h16, hok⟩ := weightsErr_ok hw0
  have hn0 := hok.posN
  obtain ⟨b, o, cap, rfl, hrow⟩ := nums_row h hn0
  have hp := hok.pos
  have hl := hok.le
  obtain ⟨W0, hW0⟩ : ∃ W0, W0 = w.alloc (.cells #[.int .i64 0, .slice none 0 0] 27) := ⟨_, rfl⟩
  have hb0 : Below w.heap.size w W0 := by rw [hW0]; exact (Below.refl _ _).alloc (Nat.le_refl _) _
  have c0 : W0.cell? ⟨w.heap.size, 0, none⟩ = some (.int .i64 0) := by rw [hW0]; simp
  have c1 : W0.cell? ⟨w.heap.size, 1, none⟩ = some (.slice none 0 0) := by rw [hW0]; simp
  have f0 : W0.frozen? ⟨w.heap.size, 0, none⟩ = false := by rw [hW0]; simp
  have f1 : W0.frozen? ⟨w.heap.size, 1, none⟩ = false := by rw [hW0]; simp
  have HC : Hid (∀ W, Below W0.heap.size W0 W → (W.cell? ⟨w.heap.size, 0, none⟩ = some (.int .i64 0) ∧ W.cell? ⟨w.heap.size, 1, none⟩ = some (.slice none 0 0)) ∧ W.frozen? ⟨w.heap.size, 0, none⟩ = false ∧ W.frozen? ⟨w.heap.size, 1, none⟩ = false) := fun W hb => ⟨⟨by rw [hb.cell (cell_lt c0)]; exact c0, by rw [hb.cell (cell_lt c1)]; exact c1⟩, by rw [hb.frozen (show w.heap.size < W0.heap.size from cell_lt c0)]; exact f0, by rw [hb.frozen (show w.heap.size < W0.heap.size from cell_lt c0)]; exact f1⟩
  have HEND : Hid (∀ W, Below W0.heap.size W0 W → Below w.heap.size w W) := fun W hb => hb0.trans (hb.mono hb0.size)
  have HV := Hid.mk' (Valid_weights a _ n z W0 (hE.below hb0) (h.later hb0) (by omega))
  rw [hw0, errV_zero] at HV
  have HTO := Hid.mk' (fun (W : World) (hb : Below W0.heap.size W0 W) => by
    have h9 := total_some b o cap n z W ((hrow.later hb0).later hb) (fun k hk => by have := hok.part hk; omega) (fun k hk => by have := hok.lt hk; omega) (by omega)
    rw [hS] at h9
    exact h9)
  have hS0 : 1 ≤ S := by omega
  have hS4 : S ≤ 4096 := by omega
  have HW0 := Hid.mk' hW0
  have hS1 : sumA (wN z) n = S := by have := wN_sum hok.nn; omega
  have hT1 : sqNR z n ≤ S * S := by have := sqN_leR (z := z) (S := S) (n := n) (by omega); rwa [hS1] at this
  have hT0 : 0 < sqNR z n := sqN_posR (by omega)
  have hSS : S * S ≤ 16777216 := Nat.mul_le_mul (show S ≤ 4096 from hS4) hS4
  have hSP : 0 < S * S := Nat.mul_pos hS0 hS0
  have HSQ := Hid.mk' (squares_any b o cap n z W0 (hrow.later hb0) h16 (fun i hi => hok.lt hi))
  have HLO : Hid (∀ W, Calls Tryz.prog 25 #[.int .i64 (sqNR z n : Nat), .int .i64 ((S : Int) * (S : Int))] W fun e w' => e = .returned (.agg #[.int .i64 ((sqNR z n / Nat.gcd (sqNR z n) (S * S) : Nat) : Int), .int .i64 ((S * S / Nat.gcd (sqNR z n) (S * S) : Nat) : Int)]) ∧ Below W.heap.size W w') := fun W => by
    have h9 := lowest_any (sqNR z n : Int) (S * S) W (by omega) (by omega) hSP (by omega) (Nat.gcd (sqNR z n) (S * S)) rfl
    rw [Int.natCast_mul] at h9
    exact h9
  have hSI : (S : Int) * (S : Int) = ((S * S : Nat) : Int) := (Int.natCast_mul _ _).symm
  have hSI1 : 0 ≤ (S : Int) * (S : Int) ∧ (S : Int) * (S : Int) ≤ 16777216 := by rw [hSI]; omega
  have hq1 : 0 < sqNR z n / Nat.gcd (sqNR z n) (S * S) := Nat.div_pos (Nat.gcd_le_left _ hT0) (Nat.gcd_pos_of_pos_left _ hT0)
  have hq2 : sqNR z n / Nat.gcd (sqNR z n) (S * S) ≤ S * S / Nat.gcd (sqNR z n) (S * S) := Nat.div_le_div_right hT1
  have hq3 : S * S / Nat.gcd (sqNR z n) (S * S) ≤ 16777216 := Nat.le_trans (Nat.div_le_self _ _) hSS
  have hdI : (1000000 : Int) < ((S * S / Nat.gcd (sqNR z n) (S * S) : Nat) : Int) := by omega
  have HER := Hid.mk' (fun (W : World) (hb : Below W0.heap.size W0 W) => ((hE.below hb0).below hb).c1)
  have HGL : Hid (_ < w.heap.size) := cell_lt hE.c1
  have HEV : Hid (errV a 2 = .iface 183 (.pointer (some (a 1)))) := rfl
  clear hE h hrow hok hw0 hS hb0 hW0 hp hl c0 c1 f0 f1 hS1 hT1 hT0 hSS hSP hSI hS0 hS4
  generalize S * S / Nat.gcd (sqNR z n) (S * S) = q at *
  generalize sqNR z n / Nat.gcd (sqNR z n) (S * S) = p at *
  generalize sqNR z n = T at *
  go_enter Tryz.func8, Tryz.ntmps8
  go_upto_region 1 with fail
  rw [← HW0.out]
  go_wp2_with fail
  refine HV.out.mono ?_
  rintro e w2 ⟨rfl, hw2⟩
  rw [hw2]
  clear hw2 HV
  go_wp2_with fail
  refine HSQ.out.mono ?_
  rintro e w3 ⟨rfl, hwx⟩
  rw [hwx]
  clear hwx
  go_wp2_with fail
  refine (HTO.out W0 (Below.refl _ _)).mono ?_
  rintro e w4 ⟨rfl, hwx⟩
  rw [hwx]
  clear hwx
  go_wp2_with fail
  refine (HTO.out W0 (Below.refl _ _)).mono ?_
  rintro e w4 ⟨rfl, hwx⟩
  rw [hwx]
  clear hwx
  go_wp2_with fail
  refine (HLO.out W0).mono ?_
  rintro e w5 ⟨rfl, hb5⟩
  have HB5 : Hid (Below W0.heap.size W0 (w5.alloc (.cells #[.int .i64 (p : Int), .int .i64 (q : Int)] 38))) := below_chain hb5 ((Below.refl _ _).alloc (Nat.le_refl _) _)
  have g0 : (w5.alloc (.cells #[.int .i64 (p : Int), .int .i64 (q : Int)] 38)).cell? ⟨w5.heap.size, 0, none⟩ = some (.int .i64 (p : Int)) := by simp
  have g1 : (w5.alloc (.cells #[.int .i64 (p : Int), .int .i64 (q : Int)] 38)).cell? ⟨w5.heap.size, 1, none⟩ = some (.int .i64 (q : Int)) := by simp
  have HLA : Hid (w5.alloc (.cells #[.int .i64 (p : Int), .int .i64 (q : Int)] 38) = w5.alloc (.cells #[.int .i64 (p : Int), .int .i64 (q : Int)] 38)) := rfl
  clear hb5
  go_upto_region 5 with fail
  generalize w5.alloc (.cells #[.int .i64 (p : Int), .int .i64 (q : Int)] 38) = W5 at *
  generalize w5.heap.size = B5 at *
  have er := HER.out W5 HB5.out
  have hgl := HGL.out
  have er2 := (World.cell?_setCell_other W5 ⟨w.heap.size, 0, none⟩ _ (.int .i64 0) (fun e => absurd (congrArg Addr.block e) (Nat.ne_of_gt hgl))).trans er
  obtain ⟨⟨d0, d1⟩, d2, d3⟩ := HC.out W5 HB5.out
  clear HLA
  go_wp2_with fail
  go_region
  all_goals
    have HG := Hid.mk' (put_twoR (.int .i64 0) (.slice none 0 0) d0 d1)
    have HBE : Hid (Below w.heap.size w ((W5.setCell ⟨w.heap.size, 0, none⟩ (.int .i64 0)).setCell ⟨w.heap.size, 1, none⟩ (.slice none 0 0)).drew) := (((HEND.out W5 HB5.out).setCell (Nat.le_refl _) _).setCell (Nat.le_refl _) _).drew
    go_wp2_with fail
    have G1 := Hid.mk' HG.out.2.1
    have G2 := Hid.mk' HG.out.2.2
    clear HG d0 d1 d2 d3 er2
    generalize (W5.setCell ⟨w.heap.size, 0, none⟩ (.int .i64 0)).setCell ⟨w.heap.size, 1, none⟩ (.slice none 0 0) = W9 at *
    exact bodyPost_ret (v := .tuple #[.agg #[.int .i64 0, .slice none 0 0], .iface 183 (.pointer (some (a 1)))]) (by simp [results, Tryz.results8, go_sem, G1.out, G2.out]) rfl ⟨by rw [HEV.out], HBE.out⟩
end Go.Proofs.YtklhfagcembigaaGreatDoor
