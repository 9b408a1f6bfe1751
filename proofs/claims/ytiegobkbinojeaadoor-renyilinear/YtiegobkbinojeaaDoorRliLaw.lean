/- The law RenyiLinear. -/
import Derived.Test.YtiegobkbinojeaaDoorRyLu
import Derived.Test.YtiegobkbinojeaaDoorRyLb
import Derived.Test.YtiegobkbinojeaaDoorCodedV
namespace Go.Proofs.YtiegobkbinojeaaDoor
open Go.RowKit

theorem lin_law {P : Int} {p i x : Nat} (hP : P = (p : Int)) (hp : 2 ≤ p) (hp7 : p ≤ 7) (hi : i < p * p) (hx : x < 16) : (linZ p i x != (wrap64 (wrap64 ((i : Int) / P * ((x : Int) / P)) + wrap64 ((i : Int) % P * ((x : Int) % P)))).tmod P) = false := by
  subst hP
  have ha : i / p < p := Nat.div_lt_of_lt_mul hi
  have hb : i % p < p := Nat.mod_lt _ (by omega)
  obtain ⟨h1, h2, h3⟩ := lin_small hp hp7 ha hb hx
  rw [show (x : Int) / (p : Int) = ((x / p : Nat) : Int) from rfl, show (x : Int) % (p : Int) = ((x % p : Nat) : Int) from rfl, show (i : Int) / (p : Int) = ((i / p : Nat) : Int) from rfl, show (i : Int) % (p : Int) = ((i % p : Nat) : Int) from rfl, ← Int.natCast_mul, ← Int.natCast_mul, wrap_sm _ (by omega), wrap_sm _ (by omega), ← Int.natCast_add, wrap_sm _ (by omega), Int.tmod_eq_emod_of_nonneg (Int.natCast_nonneg _)]
  exact bne_self_eq_false _
theorem new_belowL (w : World) (X : Obj) : Below w.heap.size w (w.alloc X) := (Below.refl _ _).alloc (Nat.le_refl _) _
set_option maxRecDepth 100000 in
set_option maxHeartbeats 8000000 in
theorem Rli_bad (a : Nat → Addr) (p m : Int) (q : Nat) (w : World) (hE : Errs w a) (hq : (q = 8 ∧ ¬ p = 2 ∧ ¬ p = 3 ∧ ¬ p = 5 ∧ ¬ p = 7) ∨ (q = 2 ∧ (p = 2 ∨ p = 3 ∨ p = 5 ∨ p = 7) ∧ (m < 1 ∨ p * p < m ∨ 16 < m))) :
    Calls Tryd.prog 4 #[.int .i64 p, .int .i64 m] w fun e w' => e = .returned (.bool true) ∧ Below w.heap.size w w' := by
  have HP := Hid.mk' (dice_any a w hE)
  have HLI := Hid.mk' (fun (W : World) (hb : Below w.heap.size w W) => Linear_bad a p m q W (hE.below hb) hq)
  have HC8 : Hid (∀ W : World, Below w.heap.size w W → Calls Tryd.prog 12 #[.iface 149 (.pointer (some (a 7))), .int .i64 8] W fun e w' => e = .returned (.bool true) ∧ Below W.heap.size W w') := fun W hb => coded_errV a 8 (by decide) W (hE.below hb)
  have HC2 : Hid (∀ W : World, Below w.heap.size w W → Calls Tryd.prog 12 #[.iface 149 (.pointer (some (a 1))), .int .i64 2] W fun e w' => e = .returned (.bool true) ∧ Below W.heap.size W w') := fun W hb => coded_errV a 2 (by decide) W (hE.below hb)
  clear hE
  rcases hq with ⟨rfl, k1, k2, k3, k4⟩ | ⟨rfl, hp, hm⟩
  · have d1 : (p != 2) = true := by simp; exact k1
    have d2 : (p != 3) = true := by simp; exact k2
    have d3 : (p != 5) = true := by simp; exact k3
    have d4 : (p != 7) = true := by simp; exact k4
    clear k1 k2 k3 k4
    rw [show errV a 8 = .iface 149 (.pointer (some (a 7))) from rfl] at HLI
    go_enter Tryd.func4, Tryd.ntmps4
    go_wp2_with fail
    refine HP.out.mono ?_
    rintro e w2 ⟨rfl, hb2⟩
    have HB2 := Hid.mk' hb2
    clear hb2
    go_wp2_with fail
    refine (HLI.out w2 HB2.out).mono ?_
    rintro e w3 ⟨rfl, hb3⟩
    have HB3 := Hid.mk' (below_chain (below_chain HB2.out hb3) (new_belowL w3 (.cells #[.int .i64 0, .slice none 0 0] 32)))
    have x0 : (w3.alloc (.cells #[.int .i64 0, .slice none 0 0] 32)).cell? ⟨w3.heap.size, 0, none⟩ = some (.int .i64 0) := by simp
    have x1 : (w3.alloc (.cells #[.int .i64 0, .slice none 0 0] 32)).cell? ⟨w3.heap.size, 1, none⟩ = some (.slice none 0 0) := by simp
    clear hb3
    go_upto_region 10 with fail
    generalize w3.alloc (.cells #[.int .i64 0, .slice none 0 0] 32) = W3 at *
    generalize w3.heap.size = B3 at *
    go_wp2_with fail
    refine (HC8.out W3 HB3.out).mono ?_
    rintro e w4 ⟨rfl, hb4⟩
    have HB4 := Hid.mk' (below_chain HB3.out hb4)
    have y0 : w4.cell? ⟨B3, 0, none⟩ = some (.int .i64 0) := by rw [hb4.cell (cell_lt x0)]; exact x0
    have y1 : w4.cell? ⟨B3, 1, none⟩ = some (.slice none 0 0) := by rw [hb4.cell (cell_lt x1)]; exact x1
    clear x0 x1 hb4
    go_wp2_with fail
    go_ret
    exact ⟨rfl, HB4.out⟩
  have hc : (p = 2 ∧ m < 1) ∨ (p = 2 ∧ ¬ m < 1 ∧ 4 < m) ∨ (p = 3 ∧ m < 1) ∨ (p = 3 ∧ ¬ m < 1 ∧ 9 < m) ∨ (p = 5 ∧ m < 1) ∨ (p = 5 ∧ ¬ m < 1 ∧ 25 < m) ∨ (p = 5 ∧ ¬ m < 1 ∧ ¬ 25 < m ∧ 16 < m) ∨ (p = 7 ∧ m < 1) ∨ (p = 7 ∧ ¬ m < 1 ∧ 49 < m) ∨ (p = 7 ∧ ¬ m < 1 ∧ ¬ 49 < m ∧ 16 < m) := by
    rcases hp with rfl | rfl | rfl | rfl <;> omega
  clear hp hm
  rcases hc with ⟨rfl, k1⟩ | ⟨rfl, k1, k2⟩ | ⟨rfl, k1⟩ | ⟨rfl, k1, k2⟩ | ⟨rfl, k1⟩ | ⟨rfl, k1, k2⟩ | ⟨rfl, k1, k2, k3⟩ | ⟨rfl, k1⟩ | ⟨rfl, k1, k2⟩ | ⟨rfl, k1, k2, k3⟩
  · rw [show errV a 2 = .iface 149 (.pointer (some (a 1))) from rfl] at HLI
    go_enter Tryd.func4, Tryd.ntmps4
    go_wp2_with fail
    refine HP.out.mono ?_
    rintro e w2 ⟨rfl, hb2⟩
    have HB2 := Hid.mk' hb2
    clear hb2
    go_wp2_with fail
    refine (HLI.out w2 HB2.out).mono ?_
    rintro e w3 ⟨rfl, hb3⟩
    have HB3 := Hid.mk' (below_chain (below_chain HB2.out hb3) (new_belowL w3 (.cells #[.int .i64 0, .slice none 0 0] 32)))
    have x0 : (w3.alloc (.cells #[.int .i64 0, .slice none 0 0] 32)).cell? ⟨w3.heap.size, 0, none⟩ = some (.int .i64 0) := by simp
    have x1 : (w3.alloc (.cells #[.int .i64 0, .slice none 0 0] 32)).cell? ⟨w3.heap.size, 1, none⟩ = some (.slice none 0 0) := by simp
    clear hb3
    go_upto_region 10 with fail
    generalize w3.alloc (.cells #[.int .i64 0, .slice none 0 0] 32) = W3 at *
    generalize w3.heap.size = B3 at *
    go_wp2_with fail
    refine (HC2.out W3 HB3.out).mono ?_
    rintro e w4 ⟨rfl, hb4⟩
    have HB4 := Hid.mk' (below_chain HB3.out hb4)
    have y0 : w4.cell? ⟨B3, 0, none⟩ = some (.int .i64 0) := by rw [hb4.cell (cell_lt x0)]; exact x0
    have y1 : w4.cell? ⟨B3, 1, none⟩ = some (.slice none 0 0) := by rw [hb4.cell (cell_lt x1)]; exact x1
    clear x0 x1 hb4
    go_wp2_with fail
    go_ret
    exact ⟨rfl, HB4.out⟩
  · rw [show errV a 2 = .iface 149 (.pointer (some (a 1))) from rfl] at HLI
    go_enter Tryd.func4, Tryd.ntmps4
    go_wp2_with fail
    refine HP.out.mono ?_
    rintro e w2 ⟨rfl, hb2⟩
    have HB2 := Hid.mk' hb2
    clear hb2
    go_wp2_with fail
    refine (HLI.out w2 HB2.out).mono ?_
    rintro e w3 ⟨rfl, hb3⟩
    have HB3 := Hid.mk' (below_chain (below_chain HB2.out hb3) (new_belowL w3 (.cells #[.int .i64 0, .slice none 0 0] 32)))
    have x0 : (w3.alloc (.cells #[.int .i64 0, .slice none 0 0] 32)).cell? ⟨w3.heap.size, 0, none⟩ = some (.int .i64 0) := by simp
    have x1 : (w3.alloc (.cells #[.int .i64 0, .slice none 0 0] 32)).cell? ⟨w3.heap.size, 1, none⟩ = some (.slice none 0 0) := by simp
    clear hb3
    go_upto_region 10 with fail
    generalize w3.alloc (.cells #[.int .i64 0, .slice none 0 0] 32) = W3 at *
    generalize w3.heap.size = B3 at *
    go_wp2_with fail
    refine (HC2.out W3 HB3.out).mono ?_
    rintro e w4 ⟨rfl, hb4⟩
    have HB4 := Hid.mk' (below_chain HB3.out hb4)
    have y0 : w4.cell? ⟨B3, 0, none⟩ = some (.int .i64 0) := by rw [hb4.cell (cell_lt x0)]; exact x0
    have y1 : w4.cell? ⟨B3, 1, none⟩ = some (.slice none 0 0) := by rw [hb4.cell (cell_lt x1)]; exact x1
    clear x0 x1 hb4
    go_wp2_with fail
    go_ret
    exact ⟨rfl, HB4.out⟩
  · rw [show errV a 2 = .iface 149 (.pointer (some (a 1))) from rfl] at HLI
    go_enter Tryd.func4, Tryd.ntmps4
    go_wp2_with fail
    refine HP.out.mono ?_
    rintro e w2 ⟨rfl, hb2⟩
    have HB2 := Hid.mk' hb2
    clear hb2
    go_wp2_with fail
    refine (HLI.out w2 HB2.out).mono ?_
    rintro e w3 ⟨rfl, hb3⟩
    have HB3 := Hid.mk' (below_chain (below_chain HB2.out hb3) (new_belowL w3 (.cells #[.int .i64 0, .slice none 0 0] 32)))
    have x0 : (w3.alloc (.cells #[.int .i64 0, .slice none 0 0] 32)).cell? ⟨w3.heap.size, 0, none⟩ = some (.int .i64 0) := by simp
    have x1 : (w3.alloc (.cells #[.int .i64 0, .slice none 0 0] 32)).cell? ⟨w3.heap.size, 1, none⟩ = some (.slice none 0 0) := by simp
    clear hb3
    go_upto_region 10 with fail
    generalize w3.alloc (.cells #[.int .i64 0, .slice none 0 0] 32) = W3 at *
    generalize w3.heap.size = B3 at *
    go_wp2_with fail
    refine (HC2.out W3 HB3.out).mono ?_
    rintro e w4 ⟨rfl, hb4⟩
    have HB4 := Hid.mk' (below_chain HB3.out hb4)
    have y0 : w4.cell? ⟨B3, 0, none⟩ = some (.int .i64 0) := by rw [hb4.cell (cell_lt x0)]; exact x0
    have y1 : w4.cell? ⟨B3, 1, none⟩ = some (.slice none 0 0) := by rw [hb4.cell (cell_lt x1)]; exact x1
    clear x0 x1 hb4
    go_wp2_with fail
    go_ret
    exact ⟨rfl, HB4.out⟩
  · rw [show errV a 2 = .iface 149 (.pointer (some (a 1))) from rfl] at HLI
    go_enter Tryd.func4, Tryd.ntmps4
    go_wp2_with fail
    refine HP.out.mono ?_
    rintro e w2 ⟨rfl, hb2⟩
    have HB2 := Hid.mk' hb2
    clear hb2
    go_wp2_with fail
    refine (HLI.out w2 HB2.out).mono ?_
    rintro e w3 ⟨rfl, hb3⟩
    have HB3 := Hid.mk' (below_chain (below_chain HB2.out hb3) (new_belowL w3 (.cells #[.int .i64 0, .slice none 0 0] 32)))
    have x0 : (w3.alloc (.cells #[.int .i64 0, .slice none 0 0] 32)).cell? ⟨w3.heap.size, 0, none⟩ = some (.int .i64 0) := by simp
    have x1 : (w3.alloc (.cells #[.int .i64 0, .slice none 0 0] 32)).cell? ⟨w3.heap.size, 1, none⟩ = some (.slice none 0 0) := by simp
    clear hb3
    go_upto_region 10 with fail
    generalize w3.alloc (.cells #[.int .i64 0, .slice none 0 0] 32) = W3 at *
    generalize w3.heap.size = B3 at *
    go_wp2_with fail
    refine (HC2.out W3 HB3.out).mono ?_
    rintro e w4 ⟨rfl, hb4⟩
    have HB4 := Hid.mk' (below_chain HB3.out hb4)
    have y0 : w4.cell? ⟨B3, 0, none⟩ = some (.int .i64 0) := by rw [hb4.cell (cell_lt x0)]; exact x0
    have y1 : w4.cell? ⟨B3, 1, none⟩ = some (.slice none 0 0) := by rw [hb4.cell (cell_lt x1)]; exact x1
    clear x0 x1 hb4
    go_wp2_with fail
    go_ret
    exact ⟨rfl, HB4.out⟩
  · rw [show errV a 2 = .iface 149 (.pointer (some (a 1))) from rfl] at HLI
    go_enter Tryd.func4, Tryd.ntmps4
    go_wp2_with fail
    refine HP.out.mono ?_
    rintro e w2 ⟨rfl, hb2⟩
    have HB2 := Hid.mk' hb2
    clear hb2
    go_wp2_with fail
    refine (HLI.out w2 HB2.out).mono ?_
    rintro e w3 ⟨rfl, hb3⟩
    have HB3 := Hid.mk' (below_chain (below_chain HB2.out hb3) (new_belowL w3 (.cells #[.int .i64 0, .slice none 0 0] 32)))
    have x0 : (w3.alloc (.cells #[.int .i64 0, .slice none 0 0] 32)).cell? ⟨w3.heap.size, 0, none⟩ = some (.int .i64 0) := by simp
    have x1 : (w3.alloc (.cells #[.int .i64 0, .slice none 0 0] 32)).cell? ⟨w3.heap.size, 1, none⟩ = some (.slice none 0 0) := by simp
    clear hb3
    go_upto_region 10 with fail
    generalize w3.alloc (.cells #[.int .i64 0, .slice none 0 0] 32) = W3 at *
    generalize w3.heap.size = B3 at *
    go_wp2_with fail
    refine (HC2.out W3 HB3.out).mono ?_
    rintro e w4 ⟨rfl, hb4⟩
    have HB4 := Hid.mk' (below_chain HB3.out hb4)
    have y0 : w4.cell? ⟨B3, 0, none⟩ = some (.int .i64 0) := by rw [hb4.cell (cell_lt x0)]; exact x0
    have y1 : w4.cell? ⟨B3, 1, none⟩ = some (.slice none 0 0) := by rw [hb4.cell (cell_lt x1)]; exact x1
    clear x0 x1 hb4
    go_wp2_with fail
    go_ret
    exact ⟨rfl, HB4.out⟩
  · rw [show errV a 2 = .iface 149 (.pointer (some (a 1))) from rfl] at HLI
    go_enter Tryd.func4, Tryd.ntmps4
    go_wp2_with fail
    refine HP.out.mono ?_
    rintro e w2 ⟨rfl, hb2⟩
    have HB2 := Hid.mk' hb2
    clear hb2
    go_wp2_with fail
    refine (HLI.out w2 HB2.out).mono ?_
    rintro e w3 ⟨rfl, hb3⟩
    have HB3 := Hid.mk' (below_chain (below_chain HB2.out hb3) (new_belowL w3 (.cells #[.int .i64 0, .slice none 0 0] 32)))
    have x0 : (w3.alloc (.cells #[.int .i64 0, .slice none 0 0] 32)).cell? ⟨w3.heap.size, 0, none⟩ = some (.int .i64 0) := by simp
    have x1 : (w3.alloc (.cells #[.int .i64 0, .slice none 0 0] 32)).cell? ⟨w3.heap.size, 1, none⟩ = some (.slice none 0 0) := by simp
    clear hb3
    go_upto_region 10 with fail
    generalize w3.alloc (.cells #[.int .i64 0, .slice none 0 0] 32) = W3 at *
    generalize w3.heap.size = B3 at *
    go_wp2_with fail
    refine (HC2.out W3 HB3.out).mono ?_
    rintro e w4 ⟨rfl, hb4⟩
    have HB4 := Hid.mk' (below_chain HB3.out hb4)
    have y0 : w4.cell? ⟨B3, 0, none⟩ = some (.int .i64 0) := by rw [hb4.cell (cell_lt x0)]; exact x0
    have y1 : w4.cell? ⟨B3, 1, none⟩ = some (.slice none 0 0) := by rw [hb4.cell (cell_lt x1)]; exact x1
    clear x0 x1 hb4
    go_wp2_with fail
    go_ret
    exact ⟨rfl, HB4.out⟩
  · rw [show errV a 2 = .iface 149 (.pointer (some (a 1))) from rfl] at HLI
    go_enter Tryd.func4, Tryd.ntmps4
    go_wp2_with fail
    refine HP.out.mono ?_
    rintro e w2 ⟨rfl, hb2⟩
    have HB2 := Hid.mk' hb2
    clear hb2
    go_wp2_with fail
    refine (HLI.out w2 HB2.out).mono ?_
    rintro e w3 ⟨rfl, hb3⟩
    have HB3 := Hid.mk' (below_chain (below_chain HB2.out hb3) (new_belowL w3 (.cells #[.int .i64 0, .slice none 0 0] 32)))
    have x0 : (w3.alloc (.cells #[.int .i64 0, .slice none 0 0] 32)).cell? ⟨w3.heap.size, 0, none⟩ = some (.int .i64 0) := by simp
    have x1 : (w3.alloc (.cells #[.int .i64 0, .slice none 0 0] 32)).cell? ⟨w3.heap.size, 1, none⟩ = some (.slice none 0 0) := by simp
    clear hb3
    go_upto_region 10 with fail
    generalize w3.alloc (.cells #[.int .i64 0, .slice none 0 0] 32) = W3 at *
    generalize w3.heap.size = B3 at *
    go_wp2_with fail
    refine (HC2.out W3 HB3.out).mono ?_
    rintro e w4 ⟨rfl, hb4⟩
    have HB4 := Hid.mk' (below_chain HB3.out hb4)
    have y0 : w4.cell? ⟨B3, 0, none⟩ = some (.int .i64 0) := by rw [hb4.cell (cell_lt x0)]; exact x0
    have y1 : w4.cell? ⟨B3, 1, none⟩ = some (.slice none 0 0) := by rw [hb4.cell (cell_lt x1)]; exact x1
    clear x0 x1 hb4
    go_wp2_with fail
    go_ret
    exact ⟨rfl, HB4.out⟩
  · rw [show errV a 2 = .iface 149 (.pointer (some (a 1))) from rfl] at HLI
    go_enter Tryd.func4, Tryd.ntmps4
    go_wp2_with fail
    refine HP.out.mono ?_
    rintro e w2 ⟨rfl, hb2⟩
    have HB2 := Hid.mk' hb2
    clear hb2
    go_wp2_with fail
    refine (HLI.out w2 HB2.out).mono ?_
    rintro e w3 ⟨rfl, hb3⟩
    have HB3 := Hid.mk' (below_chain (below_chain HB2.out hb3) (new_belowL w3 (.cells #[.int .i64 0, .slice none 0 0] 32)))
    have x0 : (w3.alloc (.cells #[.int .i64 0, .slice none 0 0] 32)).cell? ⟨w3.heap.size, 0, none⟩ = some (.int .i64 0) := by simp
    have x1 : (w3.alloc (.cells #[.int .i64 0, .slice none 0 0] 32)).cell? ⟨w3.heap.size, 1, none⟩ = some (.slice none 0 0) := by simp
    clear hb3
    go_upto_region 10 with fail
    generalize w3.alloc (.cells #[.int .i64 0, .slice none 0 0] 32) = W3 at *
    generalize w3.heap.size = B3 at *
    go_wp2_with fail
    refine (HC2.out W3 HB3.out).mono ?_
    rintro e w4 ⟨rfl, hb4⟩
    have HB4 := Hid.mk' (below_chain HB3.out hb4)
    have y0 : w4.cell? ⟨B3, 0, none⟩ = some (.int .i64 0) := by rw [hb4.cell (cell_lt x0)]; exact x0
    have y1 : w4.cell? ⟨B3, 1, none⟩ = some (.slice none 0 0) := by rw [hb4.cell (cell_lt x1)]; exact x1
    clear x0 x1 hb4
    go_wp2_with fail
    go_ret
    exact ⟨rfl, HB4.out⟩
  · rw [show errV a 2 = .iface 149 (.pointer (some (a 1))) from rfl] at HLI
    go_enter Tryd.func4, Tryd.ntmps4
    go_wp2_with fail
    refine HP.out.mono ?_
    rintro e w2 ⟨rfl, hb2⟩
    have HB2 := Hid.mk' hb2
    clear hb2
    go_wp2_with fail
    refine (HLI.out w2 HB2.out).mono ?_
    rintro e w3 ⟨rfl, hb3⟩
    have HB3 := Hid.mk' (below_chain (below_chain HB2.out hb3) (new_belowL w3 (.cells #[.int .i64 0, .slice none 0 0] 32)))
    have x0 : (w3.alloc (.cells #[.int .i64 0, .slice none 0 0] 32)).cell? ⟨w3.heap.size, 0, none⟩ = some (.int .i64 0) := by simp
    have x1 : (w3.alloc (.cells #[.int .i64 0, .slice none 0 0] 32)).cell? ⟨w3.heap.size, 1, none⟩ = some (.slice none 0 0) := by simp
    clear hb3
    go_upto_region 10 with fail
    generalize w3.alloc (.cells #[.int .i64 0, .slice none 0 0] 32) = W3 at *
    generalize w3.heap.size = B3 at *
    go_wp2_with fail
    refine (HC2.out W3 HB3.out).mono ?_
    rintro e w4 ⟨rfl, hb4⟩
    have HB4 := Hid.mk' (below_chain HB3.out hb4)
    have y0 : w4.cell? ⟨B3, 0, none⟩ = some (.int .i64 0) := by rw [hb4.cell (cell_lt x0)]; exact x0
    have y1 : w4.cell? ⟨B3, 1, none⟩ = some (.slice none 0 0) := by rw [hb4.cell (cell_lt x1)]; exact x1
    clear x0 x1 hb4
    go_wp2_with fail
    go_ret
    exact ⟨rfl, HB4.out⟩
  · rw [show errV a 2 = .iface 149 (.pointer (some (a 1))) from rfl] at HLI
    go_enter Tryd.func4, Tryd.ntmps4
    go_wp2_with fail
    refine HP.out.mono ?_
    rintro e w2 ⟨rfl, hb2⟩
    have HB2 := Hid.mk' hb2
    clear hb2
    go_wp2_with fail
    refine (HLI.out w2 HB2.out).mono ?_
    rintro e w3 ⟨rfl, hb3⟩
    have HB3 := Hid.mk' (below_chain (below_chain HB2.out hb3) (new_belowL w3 (.cells #[.int .i64 0, .slice none 0 0] 32)))
    have x0 : (w3.alloc (.cells #[.int .i64 0, .slice none 0 0] 32)).cell? ⟨w3.heap.size, 0, none⟩ = some (.int .i64 0) := by simp
    have x1 : (w3.alloc (.cells #[.int .i64 0, .slice none 0 0] 32)).cell? ⟨w3.heap.size, 1, none⟩ = some (.slice none 0 0) := by simp
    clear hb3
    go_upto_region 10 with fail
    generalize w3.alloc (.cells #[.int .i64 0, .slice none 0 0] 32) = W3 at *
    generalize w3.heap.size = B3 at *
    go_wp2_with fail
    refine (HC2.out W3 HB3.out).mono ?_
    rintro e w4 ⟨rfl, hb4⟩
    have HB4 := Hid.mk' (below_chain HB3.out hb4)
    have y0 : w4.cell? ⟨B3, 0, none⟩ = some (.int .i64 0) := by rw [hb4.cell (cell_lt x0)]; exact x0
    have y1 : w4.cell? ⟨B3, 1, none⟩ = some (.slice none 0 0) := by rw [hb4.cell (cell_lt x1)]; exact x1
    clear x0 x1 hb4
    go_wp2_with fail
    go_ret
    exact ⟨rfl, HB4.out⟩
set_option maxRecDepth 100000 in
set_option maxHeartbeats 8000000 in
theorem Rli_ok (a : Nat → Addr) (p n : Nat) (w : World) (hE : Errs w a) (hp : p = 2 ∨ p = 3 ∨ p = 5 ∨ p = 7) (hn0 : 0 < n) (hn : n ≤ p * p) (hn16 : n ≤ 16) :
    Calls Tryd.prog 4 #[.int .i64 (p : Int), .int .i64 (n : Int)] w fun e w' => e = .returned (.bool true) ∧ Below w.heap.size w w' := by
  have HP := Hid.mk' (dice_any a w hE)
  obtain ⟨P, hP⟩ : ∃ P : Int, P = (p : Int) := ⟨_, rfl⟩
  rw [← hP]
  obtain ⟨R, hR⟩ : ∃ R, R = p * p := ⟨_, rfl⟩
  have HLI : Hid (∀ W : World, Calls Tryd.prog 15 #[.int .i64 P, .int .i64 (n : Int)] W fun e w' => ∃ v, e = .returned (.tuple #[.agg #[.int .i64 P, v], .nilIface]) ∧ (∃ us, TabAt w' v R us (fun _ => n) (linZ p)) ∧ Below W.heap.size W w') := fun W => by rw [hP, hR]; exact Linear_ok p n W hp hn0 hn hn16
  have HUN : Hid (∀ (v : Value) (us : Nat → Value) (W : World), Below w.heap.size w W → TabAt W v R us (fun _ => n) (linZ p) → Calls Tryd.prog 10 #[.agg #[.int .i64 P, v]] W fun e w' => e = .returned (.tuple #[.bool true, .nilIface]) ∧ Below W.heap.size W w') := fun v us W hb ht => by
    have h1 := Universal_ok a (p : Int) v R us (fun _ => n) (linZ p) W (hE.below hb) ht (by rw [hR]; exact lin_fam hp hn0 hn16) (fun i hi => by show n ≤ _; omega)
    rw [show uniB (p : Int) R ((fun _ => n) 0) (linZ p) = true by rw [hR]; exact lin_uni hp hn hn16] at h1
    rw [hP]; exact h1
  have h27 : 2 ≤ p ∧ p ≤ 7 := by omega
  have HQ := Hid.mk' hP
  have HVAL := Hid.mk' (fun (i x : Nat) (hi : i < R) (hx : x < n) => lin_law (p := p) (i := i) (x := x) hP h27.1 h27.2 (by rw [← hR]; exact hi) (by omega))
  have hR0 : 0 < R := by rcases hp with rfl | rfl | rfl | rfl <;> omega
  have hRI : R ≤ 49 := by rcases hp with rfl | rfl | rfl | rfl <;> omega
  have hn1 : ¬ (n : Int) < 1 := by omega
  have hnI : (n : Int) ≤ 16 := by omega
  have hk : (P = 2 ∧ (n : Int) ≤ 4 ∧ ((R : Int) != 4) = false) ∨ (P = 3 ∧ (n : Int) ≤ 9 ∧ ((R : Int) != 9) = false) ∨ (P = 5 ∧ (n : Int) ≤ 25 ∧ ((R : Int) != 25) = false) ∨ (P = 7 ∧ (n : Int) ≤ 49 ∧ ((R : Int) != 49) = false) := by
    rcases hp with rfl | rfl | rfl | rfl
    · exact Or.inl ⟨hP, by omega, by simp; omega⟩
    · exact Or.inr (Or.inl ⟨hP, by omega, by simp; omega⟩)
    · exact Or.inr (Or.inr (Or.inl ⟨hP, by omega, by simp; omega⟩))
    · exact Or.inr (Or.inr (Or.inr ⟨hP, by omega, by simp; omega⟩))
  clear hE hP hR hp hn h27
  rcases hk with ⟨rfl, hk, kR⟩ | ⟨rfl, hk, kR⟩ | ⟨rfl, hk, kR⟩ | ⟨rfl, hk, kR⟩
  · go_enter Tryd.func4, Tryd.ntmps4
    go_wp2_with fail
    refine HP.out.mono ?_
    rintro e w2 ⟨rfl, hb2⟩
    have HB2 := Hid.mk' hb2
    clear hb2 HP
    go_wp2_with fail
    refine (HLI.out w2).mono ?_
    rintro e w3 ⟨v, rfl, ⟨us, ht⟩, hb3⟩
    obtain ⟨lad, lc, rfl⟩ := ht.form
    obtain ⟨b, o, rfl, _, _⟩ := ht.rowR hR0
    have HB3 := Hid.mk' (below_chain (below_chain HB2.out hb3) (new_belowL w3 (.cells #[.int .i64 2, .slice (some ⟨b, o, none⟩) R lc] 32)))
    have HT0 := Hid.mk' (ht.later (new_belowL w3 (.cells #[.int .i64 2, .slice (some ⟨b, o, none⟩) R lc] 32)))
    have x0 : (w3.alloc (.cells #[.int .i64 2, .slice (some ⟨b, o, none⟩) R lc] 32)).cell? ⟨w3.heap.size, 0, none⟩ = some (.int .i64 2) := by simp
    have x1 : (w3.alloc (.cells #[.int .i64 2, .slice (some ⟨b, o, none⟩) R lc] 32)).cell? ⟨w3.heap.size, 1, none⟩ = some (.slice (some ⟨b, o, none⟩) R lc) := by simp
    clear hb3 ht HLI HB2
    go_upto_region 10 with fail
    generalize w3.alloc (.cells #[.int .i64 2, .slice (some ⟨b, o, none⟩) R lc] 32) = W3 at *
    generalize w3.heap.size = B3 at *
    have HC : Hid (∀ W, Below W3.heap.size W3 W → W.cell? ⟨B3, 0, none⟩ = some (.int .i64 2) ∧ W.cell? ⟨B3, 1, none⟩ = some (.slice (some ⟨b, o, none⟩) R lc)) := fun W hb => ⟨by rw [hb.cell (cell_lt x0)]; exact x0, by rw [hb.cell (cell_lt x1)]; exact x1⟩
    have HROW : Hid (∀ i, i < R → ∃ rb ro rc, ∀ W, Below W3.heap.size W3 W → W.cell? ⟨b, o + i, none⟩ = some (.slice (some ⟨rb, ro, none⟩) n rc) ∧ ∀ x, x < n → W.cell? ⟨rb, ro + x, none⟩ = some (.int .i64 (linZ p i x))) := fun i hi => by
      obtain ⟨b', o', e, h1, h2⟩ := HT0.out.rowR hi
      obtain ⟨rfl, rfl⟩ : b = b' ∧ o = o' := by simpa using e
      rcases h2 with ⟨_, _, _, h0⟩ | ⟨rb, ro, rc, hv, _, hrow⟩
      · exact absurd h0 (Nat.ne_of_gt hn0)
      · rw [hv] at h1
        exact ⟨rb, ro, rc, fun W hb => ⟨by rw [hb.cell (cell_lt h1)]; exact h1, fun x hx => (hrow.later hb) x hx⟩⟩
    go_wp2_with fail
    clear x0 x1
    go_loopw [9] (fun t wr => ∃ i : Nat, i ≤ R ∧ t = .int .i64 (i : Int) ∧ Hid (Below W3.heap.size W3 wr)) (fun t _ => R - (intOf t).toNat)
    case atStart => exact ⟨0, Nat.zero_le _, rfl, Below.refl _ _⟩
    case round =>
      obtain ⟨i, hi, rfl, HB⟩ := hrel
      have c1 := (HC.out wr HB.out).2
      rcases Nat.lt_or_ge i R with h1 | h1
      · have hiI : (i : Int) < (R : Int) := by omega
        have hi0 : (0 : Int) ≤ (i : Int) := by omega
        obtain ⟨rb, ro, rc, hrow⟩ := HROW.out i h1
        have HRW := Hid.mk' hrow
        have r1 := (hrow wr HB.out).1
        have HB' := HB
        clear hrow
        go_wp2_with fail
        clear c1 r1 HB
        go_loopw [10] (fun t wx => ∃ x : Nat, x ≤ n ∧ t = .int .i64 (x : Int) ∧ Hid (Below W3.heap.size W3 wx)) (fun t _ => n - (intOf t).toNat)
        case atStart => exact ⟨0, Nat.zero_le _, rfl, HB'.out⟩
        case round =>
          clear HB'
          obtain ⟨x, hx, rfl, HB⟩ := hrel
          rcases Nat.lt_or_ge x n with h2 | h2
          · have hxI : (x : Int) < (n : Int) := by omega
            have hx0 : (0 : Int) ≤ (x : Int) := by omega
            have c1 := (HC.out wr HB.out).2
            obtain ⟨r1, r2⟩ := HRW.out wr HB.out
            have r2 := r2 x h2
            have k1 := HVAL.out i x h1 h2
            have HD : Hid (∀ q, Below W3.heap.size W3 (wr.drewN q)) := fun q => below_drewR HB.out q
            clear HB
            go_wp2_with fail
            go_quiet (fail)
            go_wp2_with fail
            exact ⟨⟨x + 1, h2, by go_num, Hid.mk' (HD.out _)⟩, by simp [intOf]; omega⟩
          · obtain rfl : x = n := by omega
            have hxI : ¬ (x : Int) < (x : Int) := by omega
            go_wp2_with fail
            exact ⟨⟨i + 1, h1, by go_num, HB⟩, by simp [intOf]; omega⟩
      · obtain rfl : i = R := by omega
        have hiI : ¬ (i : Int) < (i : Int) := by omega
        have c0 := (HC.out wr HB.out).1
        have HU := Hid.mk' (HUN.out _ us wr (below_chain HB3.out HB.out) (HT0.out.later HB.out))
        go_wp2_with fail
        refine HU.out.mono ?_
        rintro e w5 ⟨rfl, hb5⟩
        have HB5 := Hid.mk' (below_chain (below_chain HB3.out HB.out) hb5)
        clear hb5
        go_wp2_with fail
        go_ret
        exact ⟨rfl, HB5.out⟩
  · go_enter Tryd.func4, Tryd.ntmps4
    go_wp2_with fail
    refine HP.out.mono ?_
    rintro e w2 ⟨rfl, hb2⟩
    have HB2 := Hid.mk' hb2
    clear hb2 HP
    go_wp2_with fail
    refine (HLI.out w2).mono ?_
    rintro e w3 ⟨v, rfl, ⟨us, ht⟩, hb3⟩
    obtain ⟨lad, lc, rfl⟩ := ht.form
    obtain ⟨b, o, rfl, _, _⟩ := ht.rowR hR0
    have HB3 := Hid.mk' (below_chain (below_chain HB2.out hb3) (new_belowL w3 (.cells #[.int .i64 3, .slice (some ⟨b, o, none⟩) R lc] 32)))
    have HT0 := Hid.mk' (ht.later (new_belowL w3 (.cells #[.int .i64 3, .slice (some ⟨b, o, none⟩) R lc] 32)))
    have x0 : (w3.alloc (.cells #[.int .i64 3, .slice (some ⟨b, o, none⟩) R lc] 32)).cell? ⟨w3.heap.size, 0, none⟩ = some (.int .i64 3) := by simp
    have x1 : (w3.alloc (.cells #[.int .i64 3, .slice (some ⟨b, o, none⟩) R lc] 32)).cell? ⟨w3.heap.size, 1, none⟩ = some (.slice (some ⟨b, o, none⟩) R lc) := by simp
    clear hb3 ht HLI HB2
    go_upto_region 10 with fail
    generalize w3.alloc (.cells #[.int .i64 3, .slice (some ⟨b, o, none⟩) R lc] 32) = W3 at *
    generalize w3.heap.size = B3 at *
    have HC : Hid (∀ W, Below W3.heap.size W3 W → W.cell? ⟨B3, 0, none⟩ = some (.int .i64 3) ∧ W.cell? ⟨B3, 1, none⟩ = some (.slice (some ⟨b, o, none⟩) R lc)) := fun W hb => ⟨by rw [hb.cell (cell_lt x0)]; exact x0, by rw [hb.cell (cell_lt x1)]; exact x1⟩
    have HROW : Hid (∀ i, i < R → ∃ rb ro rc, ∀ W, Below W3.heap.size W3 W → W.cell? ⟨b, o + i, none⟩ = some (.slice (some ⟨rb, ro, none⟩) n rc) ∧ ∀ x, x < n → W.cell? ⟨rb, ro + x, none⟩ = some (.int .i64 (linZ p i x))) := fun i hi => by
      obtain ⟨b', o', e, h1, h2⟩ := HT0.out.rowR hi
      obtain ⟨rfl, rfl⟩ : b = b' ∧ o = o' := by simpa using e
      rcases h2 with ⟨_, _, _, h0⟩ | ⟨rb, ro, rc, hv, _, hrow⟩
      · exact absurd h0 (Nat.ne_of_gt hn0)
      · rw [hv] at h1
        exact ⟨rb, ro, rc, fun W hb => ⟨by rw [hb.cell (cell_lt h1)]; exact h1, fun x hx => (hrow.later hb) x hx⟩⟩
    go_wp2_with fail
    clear x0 x1
    go_loopw [9] (fun t wr => ∃ i : Nat, i ≤ R ∧ t = .int .i64 (i : Int) ∧ Hid (Below W3.heap.size W3 wr)) (fun t _ => R - (intOf t).toNat)
    case atStart => exact ⟨0, Nat.zero_le _, rfl, Below.refl _ _⟩
    case round =>
      obtain ⟨i, hi, rfl, HB⟩ := hrel
      have c1 := (HC.out wr HB.out).2
      rcases Nat.lt_or_ge i R with h1 | h1
      · have hiI : (i : Int) < (R : Int) := by omega
        have hi0 : (0 : Int) ≤ (i : Int) := by omega
        obtain ⟨rb, ro, rc, hrow⟩ := HROW.out i h1
        have HRW := Hid.mk' hrow
        have r1 := (hrow wr HB.out).1
        have HB' := HB
        clear hrow
        go_wp2_with fail
        clear c1 r1 HB
        go_loopw [10] (fun t wx => ∃ x : Nat, x ≤ n ∧ t = .int .i64 (x : Int) ∧ Hid (Below W3.heap.size W3 wx)) (fun t _ => n - (intOf t).toNat)
        case atStart => exact ⟨0, Nat.zero_le _, rfl, HB'.out⟩
        case round =>
          clear HB'
          obtain ⟨x, hx, rfl, HB⟩ := hrel
          rcases Nat.lt_or_ge x n with h2 | h2
          · have hxI : (x : Int) < (n : Int) := by omega
            have hx0 : (0 : Int) ≤ (x : Int) := by omega
            have c1 := (HC.out wr HB.out).2
            obtain ⟨r1, r2⟩ := HRW.out wr HB.out
            have r2 := r2 x h2
            have k1 := HVAL.out i x h1 h2
            have HD : Hid (∀ q, Below W3.heap.size W3 (wr.drewN q)) := fun q => below_drewR HB.out q
            clear HB
            go_wp2_with fail
            go_quiet (fail)
            go_wp2_with fail
            exact ⟨⟨x + 1, h2, by go_num, Hid.mk' (HD.out _)⟩, by simp [intOf]; omega⟩
          · obtain rfl : x = n := by omega
            have hxI : ¬ (x : Int) < (x : Int) := by omega
            go_wp2_with fail
            exact ⟨⟨i + 1, h1, by go_num, HB⟩, by simp [intOf]; omega⟩
      · obtain rfl : i = R := by omega
        have hiI : ¬ (i : Int) < (i : Int) := by omega
        have c0 := (HC.out wr HB.out).1
        have HU := Hid.mk' (HUN.out _ us wr (below_chain HB3.out HB.out) (HT0.out.later HB.out))
        go_wp2_with fail
        refine HU.out.mono ?_
        rintro e w5 ⟨rfl, hb5⟩
        have HB5 := Hid.mk' (below_chain (below_chain HB3.out HB.out) hb5)
        clear hb5
        go_wp2_with fail
        go_ret
        exact ⟨rfl, HB5.out⟩
  · go_enter Tryd.func4, Tryd.ntmps4
    go_wp2_with fail
    refine HP.out.mono ?_
    rintro e w2 ⟨rfl, hb2⟩
    have HB2 := Hid.mk' hb2
    clear hb2 HP
    go_wp2_with fail
    refine (HLI.out w2).mono ?_
    rintro e w3 ⟨v, rfl, ⟨us, ht⟩, hb3⟩
    obtain ⟨lad, lc, rfl⟩ := ht.form
    obtain ⟨b, o, rfl, _, _⟩ := ht.rowR hR0
    have HB3 := Hid.mk' (below_chain (below_chain HB2.out hb3) (new_belowL w3 (.cells #[.int .i64 5, .slice (some ⟨b, o, none⟩) R lc] 32)))
    have HT0 := Hid.mk' (ht.later (new_belowL w3 (.cells #[.int .i64 5, .slice (some ⟨b, o, none⟩) R lc] 32)))
    have x0 : (w3.alloc (.cells #[.int .i64 5, .slice (some ⟨b, o, none⟩) R lc] 32)).cell? ⟨w3.heap.size, 0, none⟩ = some (.int .i64 5) := by simp
    have x1 : (w3.alloc (.cells #[.int .i64 5, .slice (some ⟨b, o, none⟩) R lc] 32)).cell? ⟨w3.heap.size, 1, none⟩ = some (.slice (some ⟨b, o, none⟩) R lc) := by simp
    clear hb3 ht HLI HB2
    go_upto_region 10 with fail
    generalize w3.alloc (.cells #[.int .i64 5, .slice (some ⟨b, o, none⟩) R lc] 32) = W3 at *
    generalize w3.heap.size = B3 at *
    have HC : Hid (∀ W, Below W3.heap.size W3 W → W.cell? ⟨B3, 0, none⟩ = some (.int .i64 5) ∧ W.cell? ⟨B3, 1, none⟩ = some (.slice (some ⟨b, o, none⟩) R lc)) := fun W hb => ⟨by rw [hb.cell (cell_lt x0)]; exact x0, by rw [hb.cell (cell_lt x1)]; exact x1⟩
    have HROW : Hid (∀ i, i < R → ∃ rb ro rc, ∀ W, Below W3.heap.size W3 W → W.cell? ⟨b, o + i, none⟩ = some (.slice (some ⟨rb, ro, none⟩) n rc) ∧ ∀ x, x < n → W.cell? ⟨rb, ro + x, none⟩ = some (.int .i64 (linZ p i x))) := fun i hi => by
      obtain ⟨b', o', e, h1, h2⟩ := HT0.out.rowR hi
      obtain ⟨rfl, rfl⟩ : b = b' ∧ o = o' := by simpa using e
      rcases h2 with ⟨_, _, _, h0⟩ | ⟨rb, ro, rc, hv, _, hrow⟩
      · exact absurd h0 (Nat.ne_of_gt hn0)
      · rw [hv] at h1
        exact ⟨rb, ro, rc, fun W hb => ⟨by rw [hb.cell (cell_lt h1)]; exact h1, fun x hx => (hrow.later hb) x hx⟩⟩
    go_wp2_with fail
    clear x0 x1
    go_loopw [9] (fun t wr => ∃ i : Nat, i ≤ R ∧ t = .int .i64 (i : Int) ∧ Hid (Below W3.heap.size W3 wr)) (fun t _ => R - (intOf t).toNat)
    case atStart => exact ⟨0, Nat.zero_le _, rfl, Below.refl _ _⟩
    case round =>
      obtain ⟨i, hi, rfl, HB⟩ := hrel
      have c1 := (HC.out wr HB.out).2
      rcases Nat.lt_or_ge i R with h1 | h1
      · have hiI : (i : Int) < (R : Int) := by omega
        have hi0 : (0 : Int) ≤ (i : Int) := by omega
        obtain ⟨rb, ro, rc, hrow⟩ := HROW.out i h1
        have HRW := Hid.mk' hrow
        have r1 := (hrow wr HB.out).1
        have HB' := HB
        clear hrow
        go_wp2_with fail
        clear c1 r1 HB
        go_loopw [10] (fun t wx => ∃ x : Nat, x ≤ n ∧ t = .int .i64 (x : Int) ∧ Hid (Below W3.heap.size W3 wx)) (fun t _ => n - (intOf t).toNat)
        case atStart => exact ⟨0, Nat.zero_le _, rfl, HB'.out⟩
        case round =>
          clear HB'
          obtain ⟨x, hx, rfl, HB⟩ := hrel
          rcases Nat.lt_or_ge x n with h2 | h2
          · have hxI : (x : Int) < (n : Int) := by omega
            have hx0 : (0 : Int) ≤ (x : Int) := by omega
            have c1 := (HC.out wr HB.out).2
            obtain ⟨r1, r2⟩ := HRW.out wr HB.out
            have r2 := r2 x h2
            have k1 := HVAL.out i x h1 h2
            have HD : Hid (∀ q, Below W3.heap.size W3 (wr.drewN q)) := fun q => below_drewR HB.out q
            clear HB
            go_wp2_with fail
            go_quiet (fail)
            go_wp2_with fail
            exact ⟨⟨x + 1, h2, by go_num, Hid.mk' (HD.out _)⟩, by simp [intOf]; omega⟩
          · obtain rfl : x = n := by omega
            have hxI : ¬ (x : Int) < (x : Int) := by omega
            go_wp2_with fail
            exact ⟨⟨i + 1, h1, by go_num, HB⟩, by simp [intOf]; omega⟩
      · obtain rfl : i = R := by omega
        have hiI : ¬ (i : Int) < (i : Int) := by omega
        have c0 := (HC.out wr HB.out).1
        have HU := Hid.mk' (HUN.out _ us wr (below_chain HB3.out HB.out) (HT0.out.later HB.out))
        go_wp2_with fail
        refine HU.out.mono ?_
        rintro e w5 ⟨rfl, hb5⟩
        have HB5 := Hid.mk' (below_chain (below_chain HB3.out HB.out) hb5)
        clear hb5
        go_wp2_with fail
        go_ret
        exact ⟨rfl, HB5.out⟩
  · go_enter Tryd.func4, Tryd.ntmps4
    go_wp2_with fail
    refine HP.out.mono ?_
    rintro e w2 ⟨rfl, hb2⟩
    have HB2 := Hid.mk' hb2
    clear hb2 HP
    go_wp2_with fail
    refine (HLI.out w2).mono ?_
    rintro e w3 ⟨v, rfl, ⟨us, ht⟩, hb3⟩
    obtain ⟨lad, lc, rfl⟩ := ht.form
    obtain ⟨b, o, rfl, _, _⟩ := ht.rowR hR0
    have HB3 := Hid.mk' (below_chain (below_chain HB2.out hb3) (new_belowL w3 (.cells #[.int .i64 7, .slice (some ⟨b, o, none⟩) R lc] 32)))
    have HT0 := Hid.mk' (ht.later (new_belowL w3 (.cells #[.int .i64 7, .slice (some ⟨b, o, none⟩) R lc] 32)))
    have x0 : (w3.alloc (.cells #[.int .i64 7, .slice (some ⟨b, o, none⟩) R lc] 32)).cell? ⟨w3.heap.size, 0, none⟩ = some (.int .i64 7) := by simp
    have x1 : (w3.alloc (.cells #[.int .i64 7, .slice (some ⟨b, o, none⟩) R lc] 32)).cell? ⟨w3.heap.size, 1, none⟩ = some (.slice (some ⟨b, o, none⟩) R lc) := by simp
    clear hb3 ht HLI HB2
    go_upto_region 10 with fail
    generalize w3.alloc (.cells #[.int .i64 7, .slice (some ⟨b, o, none⟩) R lc] 32) = W3 at *
    generalize w3.heap.size = B3 at *
    have HC : Hid (∀ W, Below W3.heap.size W3 W → W.cell? ⟨B3, 0, none⟩ = some (.int .i64 7) ∧ W.cell? ⟨B3, 1, none⟩ = some (.slice (some ⟨b, o, none⟩) R lc)) := fun W hb => ⟨by rw [hb.cell (cell_lt x0)]; exact x0, by rw [hb.cell (cell_lt x1)]; exact x1⟩
    have HROW : Hid (∀ i, i < R → ∃ rb ro rc, ∀ W, Below W3.heap.size W3 W → W.cell? ⟨b, o + i, none⟩ = some (.slice (some ⟨rb, ro, none⟩) n rc) ∧ ∀ x, x < n → W.cell? ⟨rb, ro + x, none⟩ = some (.int .i64 (linZ p i x))) := fun i hi => by
      obtain ⟨b', o', e, h1, h2⟩ := HT0.out.rowR hi
      obtain ⟨rfl, rfl⟩ : b = b' ∧ o = o' := by simpa using e
      rcases h2 with ⟨_, _, _, h0⟩ | ⟨rb, ro, rc, hv, _, hrow⟩
      · exact absurd h0 (Nat.ne_of_gt hn0)
      · rw [hv] at h1
        exact ⟨rb, ro, rc, fun W hb => ⟨by rw [hb.cell (cell_lt h1)]; exact h1, fun x hx => (hrow.later hb) x hx⟩⟩
    go_wp2_with fail
    clear x0 x1
    go_loopw [9] (fun t wr => ∃ i : Nat, i ≤ R ∧ t = .int .i64 (i : Int) ∧ Hid (Below W3.heap.size W3 wr)) (fun t _ => R - (intOf t).toNat)
    case atStart => exact ⟨0, Nat.zero_le _, rfl, Below.refl _ _⟩
    case round =>
      obtain ⟨i, hi, rfl, HB⟩ := hrel
      have c1 := (HC.out wr HB.out).2
      rcases Nat.lt_or_ge i R with h1 | h1
      · have hiI : (i : Int) < (R : Int) := by omega
        have hi0 : (0 : Int) ≤ (i : Int) := by omega
        obtain ⟨rb, ro, rc, hrow⟩ := HROW.out i h1
        have HRW := Hid.mk' hrow
        have r1 := (hrow wr HB.out).1
        have HB' := HB
        clear hrow
        go_wp2_with fail
        clear c1 r1 HB
        go_loopw [10] (fun t wx => ∃ x : Nat, x ≤ n ∧ t = .int .i64 (x : Int) ∧ Hid (Below W3.heap.size W3 wx)) (fun t _ => n - (intOf t).toNat)
        case atStart => exact ⟨0, Nat.zero_le _, rfl, HB'.out⟩
        case round =>
          clear HB'
          obtain ⟨x, hx, rfl, HB⟩ := hrel
          rcases Nat.lt_or_ge x n with h2 | h2
          · have hxI : (x : Int) < (n : Int) := by omega
            have hx0 : (0 : Int) ≤ (x : Int) := by omega
            have c1 := (HC.out wr HB.out).2
            obtain ⟨r1, r2⟩ := HRW.out wr HB.out
            have r2 := r2 x h2
            have k1 := HVAL.out i x h1 h2
            have HD : Hid (∀ q, Below W3.heap.size W3 (wr.drewN q)) := fun q => below_drewR HB.out q
            clear HB
            go_wp2_with fail
            go_quiet (fail)
            go_wp2_with fail
            exact ⟨⟨x + 1, h2, by go_num, Hid.mk' (HD.out _)⟩, by simp [intOf]; omega⟩
          · obtain rfl : x = n := by omega
            have hxI : ¬ (x : Int) < (x : Int) := by omega
            go_wp2_with fail
            exact ⟨⟨i + 1, h1, by go_num, HB⟩, by simp [intOf]; omega⟩
      · obtain rfl : i = R := by omega
        have hiI : ¬ (i : Int) < (i : Int) := by omega
        have c0 := (HC.out wr HB.out).1
        have HU := Hid.mk' (HUN.out _ us wr (below_chain HB3.out HB.out) (HT0.out.later HB.out))
        go_wp2_with fail
        refine HU.out.mono ?_
        rintro e w5 ⟨rfl, hb5⟩
        have HB5 := Hid.mk' (below_chain (below_chain HB3.out HB.out) hb5)
        clear hb5
        go_wp2_with fail
        go_ret
        exact ⟨rfl, HB5.out⟩
theorem RenyiLinear_all (a : Nat → Addr) (p m : Int) (w : World) (hE : Errs w a) :
    Calls Tryd.prog 4 #[.int .i64 p, .int .i64 m] w fun e w' => e = .returned (.bool true) ∧ Below w.heap.size w w' := by
  by_cases hp : p = 2 ∨ p = 3 ∨ p = 5 ∨ p = 7
  · by_cases hm : m < 1 ∨ p * p < m ∨ 16 < m
    · exact Rli_bad a p m 2 w hE (Or.inr ⟨rfl, hp, hm⟩)
    · obtain ⟨k, rfl⟩ : ∃ k : Nat, p = (k : Int) := ⟨p.toNat, by omega⟩
      obtain ⟨n, rfl⟩ : ∃ n : Nat, m = (n : Int) := ⟨m.toNat, by omega⟩
      have hk : (((k * k : Nat)) : Int) = (k : Int) * (k : Int) := Int.natCast_mul _ _
      exact Rli_ok a k n w hE (by omega) (by omega) (by omega) (by omega)
  · exact Rli_bad a p m 8 w hE (Or.inl ⟨rfl, by omega, by omega, by omega, by omega⟩)
end Go.Proofs.YtiegobkbinojeaaDoor
