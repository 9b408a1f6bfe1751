/- The linear families: where the program tells an error. -/
import Derived.Test.YtiegobkbinojeaaDoorRyLin
import Derived.Test.YtiegobkbinojeaaDoorRyGs
namespace Go.Proofs.YtiegobkbinojeaaDoor
open Go.RowKit

set_option maxRecDepth 100000 in
set_option maxHeartbeats 8000000 in
theorem Linear_bad (a : Nat → Addr) (p m : Int) (q : Nat) (w : World) (hE : Errs w a) (hq : (q = 8 ∧ ¬ p = 2 ∧ ¬ p = 3 ∧ ¬ p = 5 ∧ ¬ p = 7) ∨ (q = 2 ∧ (p = 2 ∨ p = 3 ∨ p = 5 ∨ p = 7) ∧ (m < 1 ∨ p * p < m ∨ 16 < m))) :
    Calls Tryd.prog 15 #[.int .i64 p, .int .i64 m] w fun e w' => e = .returned (.tuple #[.agg #[.int .i64 0, .slice none 0 0], errV a q]) ∧ Below w.heap.size w w' := by
  obtain ⟨w2, hw2⟩ : ∃ w2, w2 = w.alloc (.cells #[.int .i64 0, .slice none 0 0] 32) := ⟨_, rfl⟩
  have hb2 : Below w.heap.size w w2 := by rw [hw2]; exact (Below.refl _ _).alloc (Nat.le_refl _) _
  have x0 : w2.cell? ⟨w.heap.size, 0, none⟩ = some (.int .i64 0) := by rw [hw2]; go_simp
  have x1 : w2.cell? ⟨w.heap.size, 1, none⟩ = some (.slice none 0 0) := by rw [hw2]; go_simp
  have hfz : ∀ j, w2.frozen? ⟨w.heap.size, j, none⟩ = false := fun j => by rw [hw2]; exact World.frozen?_alloc_new w #[.int .i64 0, .slice none 0 0] 32 j
  have x2 := hfz 0
  have x3 := hfz 1
  have HW2 := Hid.mk' hw2
  have HST : Hid (Below w.heap.size w ((w2.setCell ⟨w.heap.size, 0, none⟩ (.int .i64 0)).setCell ⟨w.heap.size, 1, none⟩ (.slice none 0 0))) := (hb2.setCell (Nat.le_refl _) _).setCell (Nat.le_refl _) _
  have HG := Hid.mk' (put_twoR (.int .i64 0) (.slice none 0 0) x0 x1)
  have h7 := (hE.below hb2).c7
  have h1 := (hE.below hb2).c1
  have e7 := (World.cell?_setCell_other w2 ⟨w.heap.size, 0, none⟩ _ (.int .i64 0) (fun e => absurd (congrArg Addr.block e) (Nat.ne_of_gt (cell_lt hE.c7)))).trans h7
  have e1 := (World.cell?_setCell_other w2 ⟨w.heap.size, 0, none⟩ _ (.int .i64 0) (fun e => absurd (congrArg Addr.block e) (Nat.ne_of_gt (cell_lt hE.c1)))).trans h1
  clear hE hb2 hfz hw2
  rcases hq with ⟨rfl, k1, k2, k3, k4⟩ | ⟨rfl, hp, hm⟩
  · have d1 : (p != 2) = true := by simp; exact k1
    have d2 : (p != 3) = true := by simp; exact k2
    have d3 : (p != 5) = true := by simp; exact k3
    have d4 : (p != 7) = true := by simp; exact k4
    clear h1 e1 k1 k2 k3 k4
    go_enter Tryd.func15, Tryd.ntmps15
    go_upto_region 2 with fail
    rw [← HW2.out]
    go_region
    all_goals
      go_wp2_with fail
      have G1 := Hid.mk' HG.out.2.1
      have G2 := Hid.mk' HG.out.2.2
      have HBE := Hid.mk' HST.out.drew
      clear HG HST x0 x1 x2 x3 h7 e7
      generalize (w2.setCell ⟨w.heap.size, 0, none⟩ (.int .i64 0)).setCell ⟨w.heap.size, 1, none⟩ (.slice none 0 0) = W9 at *
      exact bodyPost_ret (v := .tuple #[.agg #[.int .i64 0, .slice none 0 0], .iface 149 (.pointer (some (a 7)))]) (by simp [results, Tryd.results15, go_sem, G1.out, G2.out]) rfl ⟨rfl, HBE.out⟩
  have hc : (p = 2 ∧ m < 1) ∨ (p = 2 ∧ ¬ m < 1 ∧ 4 < m) ∨ (p = 3 ∧ m < 1) ∨ (p = 3 ∧ ¬ m < 1 ∧ 9 < m) ∨ (p = 5 ∧ m < 1) ∨ (p = 5 ∧ ¬ m < 1 ∧ 16 < m) ∨ (p = 7 ∧ m < 1) ∨ (p = 7 ∧ ¬ m < 1 ∧ 16 < m) := by
    rcases hp with rfl | rfl | rfl | rfl <;> omega
  clear hp hm h7 e7
  rcases hc with ⟨rfl, k1⟩ | ⟨rfl, k1, k2⟩ | ⟨rfl, k1⟩ | ⟨rfl, k1, k2⟩ | ⟨rfl, k1⟩ | ⟨rfl, k1, k2⟩ | ⟨rfl, k1⟩ | ⟨rfl, k1, k2⟩
  · go_enter Tryd.func15, Tryd.ntmps15
    go_upto_region 4 with fail
    rw [← HW2.out]
    go_region
    all_goals
      go_wp2_with fail
      have G1 := Hid.mk' HG.out.2.1
      have G2 := Hid.mk' HG.out.2.2
      have HBE := Hid.mk' HST.out.drew
      clear HG HST x0 x1 x2 x3 h1 e1
      generalize (w2.setCell ⟨w.heap.size, 0, none⟩ (.int .i64 0)).setCell ⟨w.heap.size, 1, none⟩ (.slice none 0 0) = W9 at *
      exact bodyPost_ret (v := .tuple #[.agg #[.int .i64 0, .slice none 0 0], .iface 149 (.pointer (some (a 1)))]) (by simp [results, Tryd.results15, go_sem, G1.out, G2.out]) rfl ⟨rfl, HBE.out⟩
  · go_enter Tryd.func15, Tryd.ntmps15
    go_upto_region 4 with fail
    rw [← HW2.out]
    go_region
    all_goals
      go_wp2_with fail
      have G1 := Hid.mk' HG.out.2.1
      have G2 := Hid.mk' HG.out.2.2
      have HBE := Hid.mk' HST.out.drew
      clear HG HST x0 x1 x2 x3 h1 e1
      generalize (w2.setCell ⟨w.heap.size, 0, none⟩ (.int .i64 0)).setCell ⟨w.heap.size, 1, none⟩ (.slice none 0 0) = W9 at *
      exact bodyPost_ret (v := .tuple #[.agg #[.int .i64 0, .slice none 0 0], .iface 149 (.pointer (some (a 1)))]) (by simp [results, Tryd.results15, go_sem, G1.out, G2.out]) rfl ⟨rfl, HBE.out⟩
  · go_enter Tryd.func15, Tryd.ntmps15
    go_upto_region 4 with fail
    rw [← HW2.out]
    go_region
    all_goals
      go_wp2_with fail
      have G1 := Hid.mk' HG.out.2.1
      have G2 := Hid.mk' HG.out.2.2
      have HBE := Hid.mk' HST.out.drew
      clear HG HST x0 x1 x2 x3 h1 e1
      generalize (w2.setCell ⟨w.heap.size, 0, none⟩ (.int .i64 0)).setCell ⟨w.heap.size, 1, none⟩ (.slice none 0 0) = W9 at *
      exact bodyPost_ret (v := .tuple #[.agg #[.int .i64 0, .slice none 0 0], .iface 149 (.pointer (some (a 1)))]) (by simp [results, Tryd.results15, go_sem, G1.out, G2.out]) rfl ⟨rfl, HBE.out⟩
  · go_enter Tryd.func15, Tryd.ntmps15
    go_upto_region 4 with fail
    rw [← HW2.out]
    go_region
    all_goals
      go_wp2_with fail
      have G1 := Hid.mk' HG.out.2.1
      have G2 := Hid.mk' HG.out.2.2
      have HBE := Hid.mk' HST.out.drew
      clear HG HST x0 x1 x2 x3 h1 e1
      generalize (w2.setCell ⟨w.heap.size, 0, none⟩ (.int .i64 0)).setCell ⟨w.heap.size, 1, none⟩ (.slice none 0 0) = W9 at *
      exact bodyPost_ret (v := .tuple #[.agg #[.int .i64 0, .slice none 0 0], .iface 149 (.pointer (some (a 1)))]) (by simp [results, Tryd.results15, go_sem, G1.out, G2.out]) rfl ⟨rfl, HBE.out⟩
  · go_enter Tryd.func15, Tryd.ntmps15
    go_upto_region 4 with fail
    rw [← HW2.out]
    go_region
    all_goals
      go_wp2_with fail
      have G1 := Hid.mk' HG.out.2.1
      have G2 := Hid.mk' HG.out.2.2
      have HBE := Hid.mk' HST.out.drew
      clear HG HST x0 x1 x2 x3 h1 e1
      generalize (w2.setCell ⟨w.heap.size, 0, none⟩ (.int .i64 0)).setCell ⟨w.heap.size, 1, none⟩ (.slice none 0 0) = W9 at *
      exact bodyPost_ret (v := .tuple #[.agg #[.int .i64 0, .slice none 0 0], .iface 149 (.pointer (some (a 1)))]) (by simp [results, Tryd.results15, go_sem, G1.out, G2.out]) rfl ⟨rfl, HBE.out⟩
  · go_enter Tryd.func15, Tryd.ntmps15
    go_upto_region 4 with fail
    rw [← HW2.out]
    go_region
    all_goals
      go_wp2_with fail
      have G1 := Hid.mk' HG.out.2.1
      have G2 := Hid.mk' HG.out.2.2
      have HBE := Hid.mk' HST.out.drew
      clear HG HST x0 x1 x2 x3 h1 e1
      generalize (w2.setCell ⟨w.heap.size, 0, none⟩ (.int .i64 0)).setCell ⟨w.heap.size, 1, none⟩ (.slice none 0 0) = W9 at *
      exact bodyPost_ret (v := .tuple #[.agg #[.int .i64 0, .slice none 0 0], .iface 149 (.pointer (some (a 1)))]) (by simp [results, Tryd.results15, go_sem, G1.out, G2.out]) rfl ⟨rfl, HBE.out⟩
  · go_enter Tryd.func15, Tryd.ntmps15
    go_upto_region 4 with fail
    rw [← HW2.out]
    go_region
    all_goals
      go_wp2_with fail
      have G1 := Hid.mk' HG.out.2.1
      have G2 := Hid.mk' HG.out.2.2
      have HBE := Hid.mk' HST.out.drew
      clear HG HST x0 x1 x2 x3 h1 e1
      generalize (w2.setCell ⟨w.heap.size, 0, none⟩ (.int .i64 0)).setCell ⟨w.heap.size, 1, none⟩ (.slice none 0 0) = W9 at *
      exact bodyPost_ret (v := .tuple #[.agg #[.int .i64 0, .slice none 0 0], .iface 149 (.pointer (some (a 1)))]) (by simp [results, Tryd.results15, go_sem, G1.out, G2.out]) rfl ⟨rfl, HBE.out⟩
  · go_enter Tryd.func15, Tryd.ntmps15
    go_upto_region 4 with fail
    rw [← HW2.out]
    go_region
    all_goals
      go_wp2_with fail
      have G1 := Hid.mk' HG.out.2.1
      have G2 := Hid.mk' HG.out.2.2
      have HBE := Hid.mk' HST.out.drew
      clear HG HST x0 x1 x2 x3 h1 e1
      generalize (w2.setCell ⟨w.heap.size, 0, none⟩ (.int .i64 0)).setCell ⟨w.heap.size, 1, none⟩ (.slice none 0 0) = W9 at *
      exact bodyPost_ret (v := .tuple #[.agg #[.int .i64 0, .slice none 0 0], .iface 149 (.pointer (some (a 1)))]) (by simp [results, Tryd.results15, go_sem, G1.out, G2.out]) rfl ⟨rfl, HBE.out⟩
end Go.Proofs.YtiegobkbinojeaaDoor
