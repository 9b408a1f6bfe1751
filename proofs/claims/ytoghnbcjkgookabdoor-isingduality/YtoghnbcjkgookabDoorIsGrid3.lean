/- ising.Grid where there is one. -/
import Derived.Test.YtoghnbcjkgookabDoorIsGrid2
import Derived.Shelf.Abstract
namespace Go.Proofs.YtoghnbcjkgookabDoor
open Go.RowKit

/-- What a grid's function answers: the system, where it is not too large. -/
def GrRes (a : Nat → Addr) (X : Int) (E : List (Nat × Nat)) (sE : Nat) (u : Value) (U : World) : Prop := if sE = 0 then ∃ v, u = .tuple #[.agg #[.int .i64 X, v], .nilIface] ∧ EdAt U v E.length (fsE E) (snE E) else u = .tuple #[.agg #[.int .i64 0, .slice none 0 0], errV a 2]
theorem grAt_start (w : World) (N : Int) : GrAt w (w.alloc (.cells #[.int .i64 N, .slice none 0 0] 25)) w.heap.size N (.slice none 0 0) [] :=
  ⟨(Below.refl _ _).alloc (Nat.le_refl _) _, by go_simp, by go_simp, by go_simp, ⟨rfl, Or.inl ⟨rfl, rfl⟩⟩, by simp⟩

set_option maxRecDepth 100000 in
set_option maxHeartbeats 8000000 in
theorem Grid_yes (a : Nat → Addr) (h l : Nat) (w : World) (hE : Errs w a) (hg : isGr h l) :
    Calls Tryd.prog 5 #[.int .i64 h, .int .i64 l] w fun e w' => ∃ u, e = .returned u ∧ GrRes a ((h * l : Nat) : Int) (grE' h l) (syE ((h * l : Nat) : Int) (grE' h l).length (fsE (grE' h l)) (snE (grE' h l))) u w' ∧ Below w.heap.size w w' := by
  have hg' := hg
  obtain ⟨h1, h2, h3, h4⟩ := hg'
  have hh : h ≤ 4 := by omega
  have hl : l ≤ 12 := by omega
  obtain ⟨w1, hw1⟩ : ∃ w1, w1 = (w.alloc (.cells #[.int .i64 h] 3)).alloc (.cells #[.int .i64 0, .slice none 0 0] 25) := ⟨_, rfl⟩
  have hb1 : Below w.heap.size w w1 := by rw [hw1]; exact ((Below.refl _ _).alloc (Nat.le_refl _) _).alloc (by simp) _
  have hc0 : w1.cell? ⟨w.heap.size, 0, none⟩ = some (.int .i64 h) := by rw [hw1]; go_simp
  have r0 : w1.cell? ⟨w.heap.size + 1, 0, none⟩ = some (.int .i64 0) := by rw [hw1]; go_simp
  have r1 : w1.cell? ⟨w.heap.size + 1, 1, none⟩ = some (.slice none 0 0) := by rw [hw1]; go_simp
  have f0 : w1.frozen? ⟨w.heap.size + 1, 0, none⟩ = false := by rw [hw1]; go_simp
  have f1 : w1.frozen? ⟨w.heap.size + 1, 1, none⟩ = false := by rw [hw1]; go_simp
  have HSZ : Hid (w1.heap.size = w.heap.size + 2) := by show _ = _; rw [hw1]; simp
  have HRC : Hid (∀ W, Below w1.heap.size w1 W → W.cell? ⟨w.heap.size + 1, 0, none⟩ = some (.int .i64 0) ∧ W.cell? ⟨w.heap.size + 1, 1, none⟩ = some (.slice none 0 0) ∧ W.frozen? ⟨w.heap.size + 1, 0, none⟩ = false ∧ W.frozen? ⟨w.heap.size + 1, 1, none⟩ = false) := fun W hb => ⟨by rw [hb.cell (cell_lt r0)]; exact r0, by rw [hb.cell (cell_lt r1)]; exact r1, by rw [hb.frozen (p := ⟨w.heap.size + 1, 0, none⟩) (cell_lt r0)]; exact f0, by rw [hb.frozen (p := ⟨w.heap.size + 1, 1, none⟩) (cell_lt r1)]; exact f1⟩
  have HV := Hid.mk' (isGrid_yes h l w1 hg)
  have HW1 := Hid.mk' hw1
  have HB1 := Hid.mk' hb1
  obtain ⟨X, hX⟩ : ∃ X : Nat, X = h * l := ⟨_, rfl⟩
  have hX48 : X ≤ 48 := by rw [hX]; exact Nat.mul_le_mul hh hl
  have hXI : (h : Int) * (l : Int) = (X : Int) := by rw [hX]; simp
  rw [← hX]
  obtain ⟨W2, hW2⟩ : ∃ W2, W2 = w1.alloc (.cells #[.int .i64 (X : Int), .slice none 0 0] 25) := ⟨_, rfl⟩
  have hGr : GrAt w1 W2 w1.heap.size (X : Int) (.slice none 0 0) [] := by
    rw [hW2]
    exact grAt_start w1 _
  have hc2 : W2.cell? ⟨w.heap.size, 0, none⟩ = some (.int .i64 h) := by rw [hGr.below.cell (cell_lt hc0)]; exact hc0
  have HEB := Hid.mk' (eachBond_any (dnS h) (rtS h l) (fun E V => ∃ ov, GrAt w1 V w1.heap.size (X : Int) ov E) 12 #[.pointer (some ⟨w.heap.size, 0, none⟩), .pointer (some ⟨w1.heap.size, 0, none⟩)] h l (enters_of Tryd.func12 (by kernel_rfl) rfl) hh hl
    (fun E c r d V hI hEl hc hr _ hd => by obtain ⟨ov, hI⟩ := hI; exact gridTell_any h l w1 V w.heap.size w1.heap.size (X : Int) ov E c r d hh hl hc0 (cell_lt hc0) hI hEl hc hr hd) W2 ⟨_, hGr⟩)
  have HBD : Hid (∀ V ov, GrAt w1 V w1.heap.size (X : Int) ov (grE' h l) → ∃ ao co, ov = .slice ao (grE' h l).length co ∧ EdAt V ov (grE' h l).length (fsE (grE' h l)) (snE (grE' h l))) := fun V ov hV => by
    obtain ⟨ao, co, rfl, _⟩ := row_shape2 hV.own
    exact ⟨ao, co, rfl, edAt_row hV.own⟩
  have HLE : Hid ((grE' h l).length ≤ 96) := allB_small _ _ _ hh hl
  have HBO : Hid (∀ V ao co, GrAt w1 V w1.heap.size (X : Int) (.slice ao (grE' h l).length co) (grE' h l) → Calls Tryd.prog 13 #[.agg #[.int .i64 (X : Int), .slice ao (grE' h l).length co]] V fun e w' => e = .returned (if syE (X : Int) (grE' h l).length (fsE (grE' h l)) (snE (grE' h l)) = 0 then .tuple #[.agg #[.int .i64 (X : Int), .slice ao (grE' h l).length co], .nilIface] else .tuple #[.agg #[.int .i64 0, .slice none 0 0], errV a 2]) ∧ Below V.heap.size V w') := fun V ao co hV => bounded_any a _ _ ao co _ _ V ((hE.below hb1).below hV.below) (edAt_row hV.own) (by have := HLE.out; omega)
  have HW2 := Hid.mk' hW2
  have hhI : (h : Int) ≤ 4 := by omega
  have hlI : (l : Int) ≤ 12 := by omega
  have hh0 : (0 : Int) ≤ (h : Int) := by omega
  have hl0 : (0 : Int) ≤ (l : Int) := by omega
  change Hid (Calls _ _ _ _ fun e W' => e = .returned (.tuple #[]) ∧ ∃ ov, GrAt w1 W' w1.heap.size (X : Int) ov (grE' h l)) at HEB
  generalize grE' h l = E at *
  generalize syE (X : Int) E.length (fsE E) (snE E) = sE at *
  clear hE hg hb1 hw1 hW2 hX hGr h1 h2 h3 h4
  go_enter Tryd.func5, Tryd.ntmps5
  go_upto_region 1 with fail
  rw [← HW1.out]
  go_wp2_with fail
  refine HV.out.mono ?_
  rintro e w2 ⟨rfl, hw2⟩
  rw [hw2]
  clear hw2 HV
  go_upto_region 4 with fail
  rw [← HW2.out]
  go_wp2_with fail
  refine HEB.out.mono ?_
  rintro e w3 ⟨rfl, ov, h3⟩
  obtain ⟨ao, co, hov, hEd⟩ := HBD.out _ _ h3
  subst hov
  have HG3 := Hid.mk' h3
  have g0 := h3.g0
  have g1 := h3.g1
  clear hEd h3 HEB hc2 hc0 r0 r1 f0 f1
  go_wp2_with fail
  refine (HBO.out _ _ _ HG3.out).mono ?_
  rintro e w4 ⟨rfl, hb4⟩
  have HB4 : Hid (Below w1.heap.size w1 w4) := HG3.out.below.trans (hb4.mono (Nat.le_of_lt HG3.out.lt))
  have HO4 := Hid.mk' (own_past HG3.out.own hb4)
  obtain ⟨r0, r1, f0, f1⟩ := HRC.out _ HB4.out
  clear hb4 HBO g0 g1 HG3
  by_cases h0 : sE = 0
  · rw [if_pos h0]
    have hP : ∀ (U : World) (u : Value), GrRes a (X : Int) E sE u U = (∃ v, u = .tuple #[.agg #[.int .i64 (X : Int), v], .nilIface] ∧ EdAt U v E.length (fsE E) (snE E)) := fun U u => if_pos h0
    have HP := Hid.mk' hP
    clear hP h0
    go_wp2_with fail
    refine bodyPost_ret (v := .tuple #[.agg #[.int .i64 (X : Int), .slice ao E.length co], .nilIface]) (by simp [results, Tryd.results5, go_sem, r0, r1]) rfl ⟨_, rfl, ?_, ?_⟩
    · rw [HP.out]
      refine ⟨_, rfl, edAt_row (ownsRow_setCell_below (ownsRow_setCell_below HO4.out (a := ⟨w.heap.size + 1, 0, none⟩) (by show w.heap.size + 1 < _; have := HSZ.out; omega) _) (a := ⟨w.heap.size + 1, 1, none⟩) (by show w.heap.size + 1 < _; have := HSZ.out; omega) _)⟩
    · exact ((below_chain HB1.out HB4.out).setCell (by simp) _).setCell (by simp) _
  · rw [if_neg h0]
    have hP : ∀ (U : World) (u : Value), GrRes a (X : Int) E sE u U = (u = .tuple #[.agg #[.int .i64 0, .slice none 0 0], errV a 2]) := fun U u => if_neg h0
    have HP := Hid.mk' hP
    have HR2 : Hid (errV a 2 = .iface 44 (.pointer (some (a 1)))) := rfl
    clear hP h0
    rw [HR2.out]
    go_wp2_with fail
    refine bodyPost_ret (v := .tuple #[.agg #[.int .i64 0, .slice none 0 0], .iface 44 (.pointer (some (a 1)))]) (by simp [results, Tryd.results5, go_sem, r0, r1]) rfl ⟨_, rfl, ?_, ?_⟩
    · rw [HP.out, HR2.out]
    · exact ((below_chain HB1.out HB4.out).setCell (by simp) _).setCell (by simp) _
end Go.Proofs.YtoghnbcjkgookabDoor
