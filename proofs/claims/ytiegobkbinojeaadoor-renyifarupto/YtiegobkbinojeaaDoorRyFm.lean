/- What the laws do with a family: a copy of the program's kind. -/
import Derived.Test.YtiegobkbinojeaaDoorRyUni
import Derived.Test.YtiegobkbinojeaaDoorTabCopy
namespace Go.Proofs.YtiegobkbinojeaaDoor
open Go.RowKit

theorem own_putR {w : World} {base : Nat} {t : TypeId} {sz : Nat} {v : Value} {n : Nat} {xs : List Value} (h : w.ownsRow base t sz v n xs) {a : Addr} (ha : a.block < base) (x : Value) : (w.setCell a x).ownsRow base t sz v n xs := by
  refine ⟨h.1, ?_⟩
  rcases h.2 with hn | ⟨g, cap, cur, hv, hg, hh, rest⟩
  · exact Or.inl hn
  · refine Or.inr ⟨g, cap, cur, hv, hg, ?_, rest⟩
    rw [Below.heap_setCell _ _ _ _ (fun e => by omega)]
    exact hh
theorem numsAt_ownR {w : World} {base : Nat} {v : Value} {n : Nat} {z : Nat → Int} (h : w.ownsRow base 3 1 v n (numCells z n)) : NumsAt w v n z := by
  obtain ⟨ao, c, rfl, _⟩ := row_shape h
  rcases Nat.eq_zero_or_pos n with rfl | h0
  · exact Or.inl ⟨_, _, rfl, rfl⟩
  · rcases h.2 with ⟨hx, _⟩ | ⟨g', cap', cur, hv, _⟩
    · simp at hx; omega
    · obtain ⟨rfl, rfl⟩ : ao = some ⟨g', 0, none⟩ ∧ c = cap' := by simpa using hv
      exact Or.inr ⟨g', 0, c, rfl, h0, rowAt_of_row h⟩
set_option maxRecDepth 100000 in
set_option maxHeartbeats 4000000 in
theorem family_any (M : Int) (v : Value) (R : Nat) (vs : Nat → Value) (ns : Nat → Nat) (zs : Nat → Nat → Int) (w : World) (h : TabAt w v R vs ns zs) (hR : R ≤ 70) (hs : sumT ns R ≤ 1200) :
    Calls Tryd.prog 11 #[.agg #[.int .i64 M, v]] w fun e w' => ∃ v' vs', e = .returned (.agg #[.int .i64 M, v']) ∧ TabAt w' v' R vs' ns zs ∧ Below w.heap.size w w' := by
  obtain ⟨la, lc, rfl⟩ := h.form
  obtain ⟨w1, hw1⟩ : ∃ w1, w1 = (w.alloc (.cells #[.int .i64 M, .slice la R lc] 24)).alloc (.cells #[.int .i64 0, .slice none 0 0] 32) := ⟨_, rfl⟩
  have hb1 : Below w.heap.size w w1 := by rw [hw1]; exact ((Below.refl _ _).alloc (Nat.le_refl _) _).alloc (by simp) _
  have hc0 : w1.cell? ⟨w.heap.size, 0, none⟩ = some (.int .i64 M) := by rw [hw1]; go_simp
  have hc1 : w1.cell? ⟨w.heap.size, 1, none⟩ = some (.slice la R lc) := by rw [hw1]; go_simp
  have hd0 : w1.cell? ⟨w.heap.size + 1, 0, none⟩ = some (.int .i64 0) := by rw [hw1]; go_simp
  have hd1 : w1.cell? ⟨w.heap.size + 1, 1, none⟩ = some (.slice none 0 0) := by rw [hw1]; go_simp
  have hfz : ∀ j, w1.frozen? ⟨w.heap.size + 1, j, none⟩ = false := fun j => by
    have h := World.frozen?_alloc_new (w.alloc (.cells #[.int .i64 M, .slice la R lc] 24)) #[.int .i64 0, .slice none 0 0] 32 j
    rw [World.size_alloc] at h
    rw [hw1]; exact h
  have HB1 := Hid.mk' hb1
  have HW1 := Hid.mk' hw1
  have HC : Hid (∀ W, Below w1.heap.size w1 W → W.cell? ⟨w.heap.size, 0, none⟩ = some (.int .i64 M) ∧ W.cell? ⟨w.heap.size, 1, none⟩ = some (.slice la R lc)) := fun W hb => ⟨by rw [hb.cell (cell_lt hc0)]; exact hc0, by rw [hb.cell (cell_lt hc1)]; exact hc1⟩
  have HD : Hid (∀ W, Below w1.heap.size w1 W → (W.cell? ⟨w.heap.size + 1, 0, none⟩ = some (.int .i64 0) ∧ W.cell? ⟨w.heap.size + 1, 1, none⟩ = some (.slice none 0 0)) ∧ W.frozen? ⟨w.heap.size + 1, 0, none⟩ = false ∧ W.frozen? ⟨w.heap.size + 1, 1, none⟩ = false) := fun W hb => ⟨⟨by rw [hb.cell (cell_lt hd0)]; exact hd0, by rw [hb.cell (cell_lt hd1)]; exact hd1⟩, by rw [hb.frozen (cell_lt hd0)]; exact hfz 0, by rw [hb.frozen (cell_lt hd1)]; exact hfz 1⟩
  have HLI := Hid.mk' (fun (W : World) (hb : Below w1.heap.size w1 W) => lists_own _ R vs ns zs W ((h.later hb1).later hb) hR hs)
  have HS1 : Hid (w1.heap.size = w.heap.size + 1 + 1) := by show _ = _; rw [hw1]; simp
  have hcur0 : Below w1.heap.size w1 w1 := Below.refl _ _
  have hcur : Below w1.heap.size w1 w1.drew := (Below.refl _ _).drew
  clear h hb1 hw1 hd0 hd1 hfz hc0 hc1
  go_enter Tryd.func11, Tryd.ntmps11
  go_upto_region 1 with fail
  rw [← HW1.out]
  have hc0 := (HC.out w1 hcur0).1
  have hc1 := (HC.out w1 hcur0).2
  go_region_with (first
    | (go_at_call 29; refine (HLI.out _ hcur).mono ?_; rintro e w6 ⟨v6, vs6, rfl, ho6, hn6, hb6⟩; obtain ⟨a6, c6, rfl, _⟩ := row_shape ho6; have hcu6 := below_chain hcur hb6; have y0 := (HC.out _ hcu6).1; have y1 := (HC.out _ hcu6).2; obtain ⟨⟨d0, d1⟩, f0, f1⟩ := HD.out _ hcu6; have HO6 := Hid.mk' (ho6.mono hcur.size); have HN6 : Hid (∀ i, i < R → w6.ownsRow w1.heap.size 3 1 (vs6 i) (ns i) (numCells (zs i) (ns i))) := (fun i hi => (hn6 i hi).mono hcur.size); clear hb6 ho6 hn6))
  all_goals
    go_wp2_with fail
    have hs1 := HS1.out
    have HBE : Hid (Below w.heap.size w ((w6.setCell ⟨w.heap.size + 1, 0, none⟩ (.int .i64 M)).setCell ⟨w.heap.size + 1, 1, none⟩ (.slice a6 R c6))) := ((below_chain HB1.out hcu6).setCell (by simp) _).setCell (by simp) _
    have G0 : ((w6.setCell ⟨w.heap.size + 1, 0, none⟩ (.int .i64 M)).setCell ⟨w.heap.size + 1, 1, none⟩ (.slice a6 R c6)).cell? ⟨w.heap.size + 1, 0, none⟩ = some (.int .i64 M) := by rw [World.cell?_setCell_other _ _ _ _ (by simp)]; exact World.cell?_setCell_same _ _ _ d0
    have G1 : ((w6.setCell ⟨w.heap.size + 1, 0, none⟩ (.int .i64 M)).setCell ⟨w.heap.size + 1, 1, none⟩ (.slice a6 R c6)).cell? ⟨w.heap.size + 1, 1, none⟩ = some (.slice a6 R c6) := World.cell?_setCell_same _ _ _ (by rw [World.cell?_setCell_other _ _ _ _ (by simp)]; exact d1)
    have T0 : TabAt ((w6.setCell ⟨w.heap.size + 1, 0, none⟩ (.int .i64 M)).setCell ⟨w.heap.size + 1, 1, none⟩ (.slice a6 R c6)) (.slice a6 R c6) R vs6 ns zs := tabAt_of_row (own_putR (own_putR HO6.out (by simp; omega) _) (by simp; omega) _) (fun i hi => numsAt_ownR (own_putR (own_putR (HN6.out i hi) (by simp; omega) _) (by simp; omega) _))
    generalize (w6.setCell ⟨w.heap.size + 1, 0, none⟩ (.int .i64 M)).setCell ⟨w.heap.size + 1, 1, none⟩ (.slice a6 R c6) = W9 at *
    exact bodyPost_ret (v := .agg #[.int .i64 M, .slice a6 R c6]) (by simp [results, Tryd.results11, go_sem, G0, G1]) rfl ⟨_, vs6, rfl, T0, HBE.out⟩
end Go.Proofs.YtiegobkbinojeaaDoor
