/- ising.Grid: the function that it hands on, and all of it. -/
import Derived.Test.YtoghnbcjkgookabDoorIsGrid
namespace Go.Proofs.YtoghnbcjkgookabDoor
open Go.RowKit

theorem rtS_next {h l c : Nat} (r : Nat) (hq : c + 1 < l) : rtS h l c r = (c * h + r, c * h + r + h) := by
  rw [rtS, Nat.mod_eq_of_lt hq, Nat.succ_mul]
  congr 1
  omega

set_option maxRecDepth 100000 in
set_option maxHeartbeats 8000000 in
theorem gridTell_any (h l : Nat) (W0 W : World) (B0 G : Nat) (N : Int) (ov : Value) (E : List (Nat × Nat)) (c r : Nat) (d : Bool) (hh : h ≤ 4) (hl : l ≤ 12)
    (hb : W0.cell? ⟨B0, 0, none⟩ = some (.int .i64 h)) (hB0 : B0 < G) (hI : GrAt W0 W G N ov E) (hE : E.length ≤ 97) (hc : c < l) (hr : r < h) (hd : d = false → c + 1 < l) :
    Calls Tryd.prog 12 #[.int .i64 (c : Nat), .int .i64 (r : Nat), .bool d, .pointer (some ⟨B0, 0, none⟩), .pointer (some ⟨G, 0, none⟩)] W fun e W' => e = .returned (.tuple #[]) ∧ ∃ ov', GrAt W0 W' G N ov' (E ++ [if d then dnS h c r else rtS h l c r]) := by
  obtain ⟨i0, hi, hi2⟩ := Option.map_eq_some_iff.1 Tryd.infoPair
  obtain ⟨hz, hsz, hby⟩ : i0.zero = some (.agg #[.int .i64 0, .int .i64 0]) ∧ i0.size = 2 ∧ i0.bytes = 16 := by simpa using hi2
  have HINF : Hid (Tryd.prog.info? 34 = some i0 ∧ i0.zero = some (.agg #[.int .i64 0, .int .i64 0]) ∧ i0.size = 2 ∧ i0.bytes = 16) := ⟨hi, hz, hsz, hby⟩
  clear hi hi2 hz hsz hby
  have hbx : W.cell? ⟨B0, 0, none⟩ = some (.int .i64 h) := by rw [hI.below.cell (p := ⟨B0, 0, none⟩) hB0]; exact hb
  have g1 := hI.g1
  have fg := hI.fg
  have hlt := hI.lt
  have HI := Hid.mk' hI
  have hhI : (h : Int) ≤ 4 := by omega
  have hh0 : (0 : Int) ≤ (h : Int) := by omega
  have hcI : (c : Int) ≤ 11 := by omega
  have hc0 : (0 : Int) ≤ (c : Int) := by omega
  have hrI : (r : Int) ≤ 3 := by omega
  have hr0 : (0 : Int) ≤ (r : Int) := by omega
  obtain ⟨X, hX⟩ : ∃ X : Nat, X = c * h := ⟨_, rfl⟩
  have hX44 : X ≤ 44 := by rw [hX]; exact Nat.mul_le_mul (show c ≤ 11 by omega) hh
  have hXI : (c : Int) * (h : Int) = (X : Int) := by rw [hX]; simp
  have HDN : Hid (dnS h c r = (X + r, X + r + 1)) := by show _ = _; rw [dnS, ← hX]
  have HRT : Hid (d = false → rtS h l c r = (X + r, X + r + h)) := fun e => by rw [rtS_next r (hd e), ← hX]
  obtain ⟨ao, co, rfl, _⟩ := row_shape2 hI.own
  clear hI hX hd hb
  cases d with
  | true =>
    go_enter Tryd.func12, Tryd.ntmps12
    go_wp2_with (at_builtin; go_must (refine wpList_append_lies _ rfl _ _ _ rfl (G + 1) 34 i0 _ 2 16 Tryd.underlying23 HINF.out.1 HINF.out.2.1 HINF.out.2.2.1 HINF.out.2.2.2 rfl (by omega) (.slice ao E.length co) _ _ rfl (HI.out.own.alloc _) ⟨W.heap.size, 0, none⟩ 1 1 [.int .i64 ((X : Int) + (r : Int)), .int .i64 ((X : Int) + (r : Int) + 1)] rfl rfl (two_newG _ _ _ _) (by simp [Value.oneCell']) (by omega) (by unfold maxLen; omega) (by omega) (by simp; omega) _ rfl ?_; intro g' cap' w4 hown4 hgrow4 hat4 hlt4; have HJ4 := Hid.mk' (HI.out.push (E' := E ++ [(X + r, X + r + 1)]) hgrow4 (pair_own hown4 (by simp) (by simp))); obtain ⟨q1, q2, q3⟩ := HI.out.pushAt hgrow4; clear hown4 hgrow4 hat4 hlt4))
    go_end0
    exact ⟨rfl, .slice (some ⟨g', 0, none⟩) (E.length + 1) cap', by first | (rw [if_pos rfl, HDN.out]; exact HJ4.out) | (rw [HDN.out]; exact HJ4.out)⟩
  | false =>
    go_enter Tryd.func12, Tryd.ntmps12
    go_wp2_with (at_builtin; go_must (refine wpList_append_lies _ rfl _ _ _ rfl (G + 1) 34 i0 _ 2 16 Tryd.underlying23 HINF.out.1 HINF.out.2.1 HINF.out.2.2.1 HINF.out.2.2.2 rfl (by omega) (.slice ao E.length co) _ _ rfl (HI.out.own.alloc _) ⟨W.heap.size, 0, none⟩ 1 1 [.int .i64 ((X : Int) + (r : Int)), .int .i64 ((X : Int) + (r : Int) + (h : Int))] rfl rfl (two_newG _ _ _ _) (by simp [Value.oneCell']) (by omega) (by unfold maxLen; omega) (by omega) (by simp; omega) _ rfl ?_; intro g' cap' w4 hown4 hgrow4 hat4 hlt4; have HJ4 := Hid.mk' (HI.out.push (E' := E ++ [(X + r, X + r + h)]) hgrow4 (pair_own hown4 (by simp) (by simp))); obtain ⟨q1, q2, q3⟩ := HI.out.pushAt hgrow4; clear hown4 hgrow4 hat4 hlt4))
    go_end0
    exact ⟨rfl, .slice (some ⟨g', 0, none⟩) (E.length + 1) cap', by first | (rw [if_neg (by decide), HRT.out (by first | rfl | trivial)]; exact HJ4.out) | (rw [HRT.out (by first | rfl | trivial)]; exact HJ4.out)⟩

/-- The bonds of a grid. -/
def grE' (h l : Nat) : List (Nat × Nat) := allB (dnS h) (rtS h l) h (fun c => decide (c + 1 < l)) l
theorem strB_grid (h l : Nat) : strB h l false l = grE' h l := by
  unfold strB grE'
  congr 1
  funext c
  rw [onS, Bool.or_false]

set_option maxRecDepth 100000 in
set_option maxHeartbeats 8000000 in
theorem Grid_no (a : Nat → Addr) (h l : Int) (w : World) (hE : Errs w a) (hb : ¬ isGr h l) :
    Calls Tryd.prog 5 #[.int .i64 h, .int .i64 l] w fun e w' => e = .returned (.tuple #[.agg #[.int .i64 0, .slice none 0 0], errV a 2]) ∧ Below w.heap.size w w' := by
  obtain ⟨w1, hw1⟩ : ∃ w1, w1 = (w.alloc (.cells #[.int .i64 h] 3)).alloc (.cells #[.int .i64 0, .slice none 0 0] 25) := ⟨_, rfl⟩
  have hb1 : Below w.heap.size w w1 := by rw [hw1]; exact ((Below.refl _ _).alloc (Nat.le_refl _) _).alloc (by simp) _
  have hc0 : w1.cell? ⟨w.heap.size, 0, none⟩ = some (.int .i64 h) := by rw [hw1]; go_simp
  have r0 : w1.cell? ⟨w.heap.size + 1, 0, none⟩ = some (.int .i64 0) := by rw [hw1]; go_simp
  have r1 : w1.cell? ⟨w.heap.size + 1, 1, none⟩ = some (.slice none 0 0) := by rw [hw1]; go_simp
  have f0 : w1.frozen? ⟨w.heap.size + 1, 0, none⟩ = false := by rw [hw1]; go_simp
  have f1 : w1.frozen? ⟨w.heap.size + 1, 1, none⟩ = false := by rw [hw1]; go_simp
  have eB := (hE.below hb1).c1
  have HV := Hid.mk' (isGrid_no h l w1 hb)
  have HW1 := Hid.mk' hw1
  have HB1 := Hid.mk' hb1
  have HR2 : Hid (errV a 2 = .iface 44 (.pointer (some (a 1)))) := rfl
  rw [HR2.out]
  clear hE hb hb1 hw1
  go_enter Tryd.func5, Tryd.ntmps5
  go_upto_region 1 with fail
  rw [← HW1.out]
  go_wp2_with fail
  refine HV.out.mono ?_
  rintro e w2 ⟨rfl, hw2⟩
  rw [hw2]
  clear hw2 HV
  go_wp2_with fail
  go_region
  all_goals
    go_wp2_with fail
    refine bodyPost_ret (v := .tuple #[.agg #[.int .i64 0, .slice none 0 0], .iface 44 (.pointer (some (a 1)))]) (by simp [results, Tryd.results5, go_sem, r0, r1]) rfl ⟨rfl, ?_⟩
    exact ((HB1.out.setCell (by simp) _).setCell (by simp) _).drew

end Go.Proofs.YtoghnbcjkgookabDoor
