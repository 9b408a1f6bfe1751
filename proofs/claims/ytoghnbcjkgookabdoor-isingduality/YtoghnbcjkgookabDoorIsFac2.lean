/- ising.Faces. -/
import Derived.Test.YtoghnbcjkgookabDoorIsFac
namespace Go.Proofs.YtoghnbcjkgookabDoor
open Go.RowKit

set_option maxRecDepth 100000 in
set_option maxHeartbeats 8000000 in
theorem Faces_no (a : Nat → Addr) (h l : Int) (w : World) (hE : Errs w a) (hb : ¬ isGr h l) :
    Calls Tryd.prog 6 #[.int .i64 h, .int .i64 l] w fun e w' => e = .returned (.tuple #[.agg #[.int .i64 0, .slice none 0 0], errV a 2]) ∧ Below w.heap.size w w' := by
  obtain ⟨w1, hw1⟩ : ∃ w1, w1 = ((w.alloc (.cells #[.int .i64 h] 3)).alloc (.cells #[.int .i64 l] 3)).alloc (.cells #[.int .i64 0, .slice none 0 0] 25) := ⟨_, rfl⟩
  have hb1 : Below w.heap.size w w1 := by rw [hw1]; exact (((Below.refl _ _).alloc (Nat.le_refl _) _).alloc (by simp) _).alloc (by simp; omega) _
  have hc0 : w1.cell? ⟨w.heap.size, 0, none⟩ = some (.int .i64 h) := by rw [hw1]; go_simp
  have hc9 : w1.cell? ⟨w.heap.size + 1, 0, none⟩ = some (.int .i64 l) := by rw [hw1]; go_simp
  have r0 : w1.cell? ⟨w.heap.size + 1 + 1, 0, none⟩ = some (.int .i64 0) := by rw [hw1]; go_simp
  have r1 : w1.cell? ⟨w.heap.size + 1 + 1, 1, none⟩ = some (.slice none 0 0) := by rw [hw1]; go_simp
  have f0 : w1.frozen? ⟨w.heap.size + 1 + 1, 0, none⟩ = false := by rw [hw1]; go_simp
  have f1 : w1.frozen? ⟨w.heap.size + 1 + 1, 1, none⟩ = false := by rw [hw1]; go_simp
  have eB := (hE.below hb1).c1
  have HV := Hid.mk' (isGrid_no h l w1 hb)
  have HW1 := Hid.mk' hw1
  have HB1 := Hid.mk' hb1
  have HR2 : Hid (errV a 2 = .iface 44 (.pointer (some (a 1)))) := rfl
  rw [HR2.out]
  clear hE hb hb1 hw1
  go_enter Tryd.func6, Tryd.ntmps6
  go_upto_region 1 with fail
  rw [← HW1.out]
  go_wp2_with fail
  refine HV.out.mono ?_
  rintro e w2 ⟨rfl, hw2⟩
  rw [hw2]
  clear hw2 HV
  go_wp2_with fail
  go_region
  all_goals
    go_wp2_with fail
    refine bodyPost_ret (v := .tuple #[.agg #[.int .i64 0, .slice none 0 0], .iface 44 (.pointer (some (a 1)))]) (by simp [results, Tryd.results6, go_sem, r0, r1]) rfl ⟨rfl, ?_⟩
    exact ((HB1.out.setCell (by simp; omega) _).setCell (by simp; omega) _).drew

set_option maxRecDepth 100000 in
set_option maxHeartbeats 8000000 in
theorem Faces_yes (a : Nat → Addr) (h l : Nat) (w : World) (hE : Errs w a) (hg : isGr h l) :
    Calls Tryd.prog 6 #[.int .i64 h, .int .i64 l] w fun e w' => ∃ u, e = .returned u ∧ GrRes a (((h - 1) * (l - 1) + 1 : Nat) : Int) (faB h l l) (syE (((h - 1) * (l - 1) + 1 : Nat) : Int) (faB h l l).length (fsE (faB h l l)) (snE (faB h l l))) u w' ∧ Below w.heap.size w w' := by
  have hg' := hg
  obtain ⟨h1, h2, h3, h4⟩ := hg'
  have hh1 : 2 ≤ h := by omega
  have hh : h ≤ 4 := by omega
  have hl1 : 2 ≤ l := by omega
  have hl : l ≤ 12 := by omega
  obtain ⟨w1, hw1⟩ : ∃ w1, w1 = ((w.alloc (.cells #[.int .i64 h] 3)).alloc (.cells #[.int .i64 l] 3)).alloc (.cells #[.int .i64 0, .slice none 0 0] 25) := ⟨_, rfl⟩
  have hb1 : Below w.heap.size w w1 := by rw [hw1]; exact (((Below.refl _ _).alloc (Nat.le_refl _) _).alloc (by simp) _).alloc (by simp; omega) _
  have hc0 : w1.cell? ⟨w.heap.size, 0, none⟩ = some (.int .i64 h) := by rw [hw1]; go_simp
  have hc9 : w1.cell? ⟨w.heap.size + 1, 0, none⟩ = some (.int .i64 l) := by rw [hw1]; go_simp
  have r0 : w1.cell? ⟨w.heap.size + 1 + 1, 0, none⟩ = some (.int .i64 0) := by rw [hw1]; go_simp
  have r1 : w1.cell? ⟨w.heap.size + 1 + 1, 1, none⟩ = some (.slice none 0 0) := by rw [hw1]; go_simp
  have f0 : w1.frozen? ⟨w.heap.size + 1 + 1, 0, none⟩ = false := by rw [hw1]; go_simp
  have f1 : w1.frozen? ⟨w.heap.size + 1 + 1, 1, none⟩ = false := by rw [hw1]; go_simp
  have HSZ : Hid (w1.heap.size = w.heap.size + 3) := by show _ = _; rw [hw1]; simp
  have HRC : Hid (∀ W, Below w1.heap.size w1 W → W.cell? ⟨w.heap.size + 1 + 1, 0, none⟩ = some (.int .i64 0) ∧ W.cell? ⟨w.heap.size + 1 + 1, 1, none⟩ = some (.slice none 0 0) ∧ W.frozen? ⟨w.heap.size + 1 + 1, 0, none⟩ = false ∧ W.frozen? ⟨w.heap.size + 1 + 1, 1, none⟩ = false) := fun W hb => ⟨by rw [hb.cell (cell_lt r0)]; exact r0, by rw [hb.cell (cell_lt r1)]; exact r1, by rw [hb.frozen (p := ⟨w.heap.size + 1 + 1, 0, none⟩) (cell_lt r0)]; exact f0, by rw [hb.frozen (p := ⟨w.heap.size + 1 + 1, 1, none⟩) (cell_lt r1)]; exact f1⟩
  have HV := Hid.mk' (isGrid_yes h l w1 hg)
  have HW1 := Hid.mk' hw1
  have HB1 := Hid.mk' hb1
  obtain ⟨O, hO⟩ : ∃ O : Nat, O = (h - 1) * (l - 1) := ⟨_, rfl⟩
  have hO33 : O ≤ 33 := by rw [hO]; exact Nat.mul_le_mul (show h - 1 ≤ 3 by omega) (show l - 1 ≤ 11 by omega)
  have eO : ((h : Int) - 1) * ((l : Int) - 1) = (O : Int) := by rw [hO, show (h : Int) - 1 = ((h - 1 : Nat) : Int) by omega, show (l : Int) - 1 = ((l - 1 : Nat) : Int) by omega]; simp
  rw [← hO]
  obtain ⟨FV, hFV⟩ : ∃ FV, FV = Value.func (.func 14) #[] #[.pointer (some ⟨w.heap.size + 1, 0, none⟩), .pointer (some ⟨w.heap.size, 0, none⟩), .pointer (some ⟨w1.heap.size, 0, none⟩)] := ⟨_, rfl⟩
  obtain ⟨Wx, hWx⟩ : ∃ Wx, Wx = (w1.alloc (.cells #[.int .i64 (O : Int)] 3)).alloc (.cells #[FV] 39) := ⟨_, rfl⟩
  have hbx : Below w1.heap.size w1 Wx := by rw [hWx]; exact ((Below.refl _ _).alloc (Nat.le_refl _) _).alloc (by simp) _
  have hx0 : Wx.cell? ⟨w.heap.size, 0, none⟩ = some (.int .i64 h) := by rw [hbx.cell (cell_lt hc0)]; exact hc0
  have hx9 : Wx.cell? ⟨w.heap.size + 1, 0, none⟩ = some (.int .i64 l) := by rw [hbx.cell (cell_lt hc9)]; exact hc9
  have hxO : Wx.cell? ⟨w1.heap.size, 0, none⟩ = some (.int .i64 (O : Int)) := by rw [hWx]; clear hWx hbx hx0 hx9 hw1 hc0 hc9 r0 r1 f0 f1 hb1; go_simp
  have hx7 : Wx.cell? ⟨w1.heap.size + 1, 0, none⟩ = some FV := by rw [hWx]; clear hWx hbx hx0 hx9 hw1 hc0 hc9 r0 r1 f0 f1 hb1 hFV; go_simp
  have HSX : Hid (Wx.heap.size = w1.heap.size + 2) := by show _ = _; rw [hWx]; simp
  have HWX := Hid.mk' hWx
  have HBX := Hid.mk' hbx
  obtain ⟨W2, hW2⟩ : ∃ W2, W2 = Wx.alloc (.cells #[.int .i64 ((O : Int) + 1), .slice none 0 0] 25) := ⟨_, rfl⟩
  have hGr : GrAt Wx W2 Wx.heap.size ((O : Int) + 1) (.slice none 0 0) [] := by
    rw [hW2]
    exact grAt_start Wx _
  have hc2 : W2.cell? ⟨w.heap.size, 0, none⟩ = some (.int .i64 h) := by rw [hGr.below.cell (cell_lt hx0)]; exact hx0
  have hc3 : W2.cell? ⟨w.heap.size + 1, 0, none⟩ = some (.int .i64 l) := by rw [hGr.below.cell (cell_lt hx9)]; exact hx9
  have HEB : Hid (Calls Tryd.prog 11 #[.int .i64 h, .int .i64 l, .func (.func 15) #[] #[.pointer (some ⟨w1.heap.size + 1, 0, none⟩), .pointer (some ⟨Wx.heap.size, 0, none⟩)]] W2 fun e W' => e = .returned (.tuple #[]) ∧ ∃ ov, GrAt Wx W' Wx.heap.size ((O : Int) + 1) ov (faB h l l)) := eachBond_any (dnF h l) (rtF h l) (fun E V => ∃ ov, GrAt Wx V Wx.heap.size ((O : Int) + 1) ov E) 15 #[.pointer (some ⟨w1.heap.size + 1, 0, none⟩), .pointer (some ⟨Wx.heap.size, 0, none⟩)] h l (enters_of Tryd.func15 (by kernel_rfl) rfl) hh hl
    (fun E c r d V hI hEl hc hr _ _ => by obtain ⟨ov, hI⟩ := hI; exact faceTell_any h l Wx V (w.heap.size + 1) w.heap.size w1.heap.size (w1.heap.size + 1) Wx.heap.size ((O : Int) + 1) ov E c r d hh1 hh hl1 hl hx9 hx0 (by rw [← hO]; exact hxO) (by rw [← hFV]; exact hx7) (cell_lt hx9) (cell_lt hx0) (cell_lt hxO) (cell_lt hx7) hI hEl hc hr) W2 ⟨_, hGr⟩
  have HBD : Hid (∀ V ov, GrAt Wx V Wx.heap.size ((O : Int) + 1) ov (faB h l l) → ∃ ao co, ov = .slice ao (faB h l l).length co) := fun V ov hV => by
    obtain ⟨ao, co, rfl, _⟩ := row_shape2 hV.own
    exact ⟨ao, co, rfl⟩
  have HLE : Hid ((faB h l l).length ≤ 96) := allB_small _ _ _ hh hl
  have HBO : Hid (∀ V ao co, GrAt Wx V Wx.heap.size ((O : Int) + 1) (.slice ao (faB h l l).length co) (faB h l l) → Calls Tryd.prog 13 #[.agg #[.int .i64 ((O : Int) + 1), .slice ao (faB h l l).length co]] V fun e w' => e = .returned (if syE ((O : Int) + 1) (faB h l l).length (fsE (faB h l l)) (snE (faB h l l)) = 0 then .tuple #[.agg #[.int .i64 ((O : Int) + 1), .slice ao (faB h l l).length co], .nilIface] else .tuple #[.agg #[.int .i64 0, .slice none 0 0], errV a 2]) ∧ Below V.heap.size V w') := fun V ao co hV => bounded_any a _ _ ao co _ _ V (((hE.below hb1).below hbx).below hV.below) (edAt_row hV.own) (by have := HLE.out; omega)
  have HW2 := Hid.mk' hW2
  have hhI : (h : Int) ≤ 4 := by omega
  have hlI : (l : Int) ≤ 12 := by omega
  have hh0 : (2 : Int) ≤ (h : Int) := by omega
  have hl0 : (2 : Int) ≤ (l : Int) := by omega
  rw [show ((O + 1 : Nat) : Int) = (O : Int) + 1 by omega]
  generalize faB h l l = E at *
  generalize syE ((O : Int) + 1) E.length (fsE E) (snE E) = sE at *
  have HFV := Hid.mk' hFV
  have hnx : ¬ w1.heap.size = w1.heap.size + 1 := by omega
  clear hE hg hb1 hw1 hW2 hO hGr h1 h2 h3 h4 hbx hWx hh1 hl1 hFV
  go_enter Tryd.func6, Tryd.ntmps6
  go_upto_region 1 with fail
  rw [← HW1.out]
  go_wp2_with fail
  refine HV.out.mono ?_
  rintro e w2 ⟨rfl, hw2⟩
  rw [hw2]
  clear hw2 HV
  go_upto_region 5 with fail
  rw [← HFV.out, ← HWX.out]
  clear hc0 hc9
  go_upto_region 6 with fail
  rw [← HW2.out]
  go_wp2_with fail
  refine HEB.out.mono ?_
  rintro e w3 ⟨rfl, ov, h3⟩
  obtain ⟨ao, co, hov⟩ := HBD.out _ _ h3
  subst hov
  have HG3 := Hid.mk' h3
  have g0 := h3.g0
  have g1 := h3.g1
  clear h3 HEB hc2 hc3 r0 r1 f0 f1 hx0 hx9 hxO hx7
  go_wp2_with fail
  refine (HBO.out _ _ _ HG3.out).mono ?_
  rintro e w4 ⟨rfl, hb4⟩
  have HB4 : Hid (Below w1.heap.size w1 w4) := HBX.out.trans ((HG3.out.below.trans (hb4.mono (Nat.le_of_lt HG3.out.lt))).mono HBX.out.size)
  have HO4 := Hid.mk' (own_past HG3.out.own hb4)
  obtain ⟨r0, r1, f0, f1⟩ := HRC.out _ HB4.out
  clear hb4 HBO g0 g1 HG3
  by_cases h0 : sE = 0
  · rw [if_pos h0]
    have hP : ∀ (U : World) (u : Value), GrRes a ((O : Int) + 1) E sE u U = (∃ v, u = .tuple #[.agg #[.int .i64 ((O : Int) + 1), v], .nilIface] ∧ EdAt U v E.length (fsE E) (snE E)) := fun U u => if_pos h0
    have HP := Hid.mk' hP
    clear hP h0
    go_wp2_with fail
    refine bodyPost_ret (v := .tuple #[.agg #[.int .i64 ((O : Int) + 1), .slice ao E.length co], .nilIface]) (by simp [results, Tryd.results6, go_sem, r0, r1]) rfl ⟨_, rfl, ?_, ?_⟩
    · rw [HP.out]
      refine ⟨_, rfl, edAt_row (ownsRow_setCell_below (ownsRow_setCell_below HO4.out (a := ⟨w.heap.size + 1 + 1, 0, none⟩) (by show w.heap.size + 1 + 1 < _; have := HSZ.out; have := HSX.out; omega) _) (a := ⟨w.heap.size + 1 + 1, 1, none⟩) (by show w.heap.size + 1 + 1 < _; have := HSZ.out; have := HSX.out; omega) _)⟩
    · exact ((below_chain HB1.out HB4.out).setCell (by simp; omega) _).setCell (by simp; omega) _
  · rw [if_neg h0]
    have hP : ∀ (U : World) (u : Value), GrRes a ((O : Int) + 1) E sE u U = (u = .tuple #[.agg #[.int .i64 0, .slice none 0 0], errV a 2]) := fun U u => if_neg h0
    have HP := Hid.mk' hP
    have HR2 : Hid (errV a 2 = .iface 44 (.pointer (some (a 1)))) := rfl
    clear hP h0
    rw [HR2.out]
    go_wp2_with fail
    refine bodyPost_ret (v := .tuple #[.agg #[.int .i64 0, .slice none 0 0], .iface 44 (.pointer (some (a 1)))]) (by simp [results, Tryd.results6, go_sem, r0, r1]) rfl ⟨_, rfl, ?_, ?_⟩
    · rw [HP.out, HR2.out]
    · exact ((below_chain HB1.out HB4.out).setCell (by simp; omega) _).setCell (by simp; omega) _
end Go.Proofs.YtoghnbcjkgookabDoor
