/- Errors with their places, held against a number and a place. -/
import Derived.Test.YtgopohbombnflaaDoorCodedV
import Derived.Test.YtgopohbombnflaaDoorHtErr
namespace Go.Proofs.YtgopohbombnflaaDoor
open Go.RowKit

theorem Code_pl (a : Nat → Addr) (v : Value) (c : Nat × Int) (w : World) (hE : Errs w a) (h : ErrPl a w v c) :
    Calls Tryd.prog 33 #[v] w fun e w' => (∃ t, e = .returned (.tuple #[.int .i64 (c.1 : Int), .int .i64 t]) ∧ (c.1 ≠ 0 → t = c.2)) ∧ Below w.heap.size w w' := by
  rcases h with ⟨rfl, h2, h3⟩ | ⟨pb, rfl, h1, h2, h3, h4⟩
  · by_cases h0 : c.1 = 0
    · rw [h0, errV_zero]
      refine (code_nil w).mono ?_
      rintro e w' ⟨rfl, rfl⟩
      exact ⟨⟨-1, rfl, fun h => absurd rfl h⟩, Below.refl _ _⟩
    · rw [errV_pos a h0]
      have hk := hE.row (c.1 - 1) (by omega)
      refine (code_err a (a (c.1 - 1)) (c.1 - 1) (by omega) w hE hk (fun j hj => hE.ne (c.1 - 1) j (by omega) (by omega) (by omega)) (fun _ => rfl)).mono ?_
      rintro e w' ⟨rfl, hb⟩
      rw [codeOf_lt (by omega)]
      exact ⟨⟨-1, by rw [show ((c.1 - 1 : Nat) : Int) + 1 = (c.1 : Int) by omega], fun _ => h2.symm⟩, hb⟩
  · refine (code_fault a pb c.2 (c.1 - 1) (by omega) w hE (cell_lt h1) h1 h2).mono ?_
    rintro e w' ⟨rfl, hb⟩
    exact ⟨⟨c.2, by rw [show ((c.1 - 1 : Nat) : Int) + 1 = (c.1 : Int) by omega], fun _ => rfl⟩, hb⟩

set_option maxRecDepth 100000 in
theorem faulted_pl (a : Nat → Addr) (v : Value) (c : Nat × Int) (w : World) (hE : Errs w a) (h : ErrPl a w v c) :
    Calls Tryd.prog 20 #[v, .agg #[.int .i64 (c.1 : Int), .int .i64 c.2]] w fun e w' => e = .returned (.bool true) ∧ Below w.heap.size w w' := by
  obtain ⟨k, t⟩ := c
  have hb0 : Below w.heap.size w (w.alloc (.cells #[.int .i64 (k : Int), .int .i64 t] 40)) := (Below.refl _ _).alloc (Nat.le_refl _) _
  have hC := Code_pl a v (k, t) _ (hE.below hb0) (h.later hb0)
  have HB0 := Hid.mk' hb0
  clear h hE hb0
  have x0 : (w.alloc (.cells #[.int .i64 (k : Int), .int .i64 t] 40)).cell? ⟨w.heap.size, 0, none⟩ = some (.int .i64 (k : Int)) := by simp
  have x1 : (w.alloc (.cells #[.int .i64 (k : Int), .int .i64 t] 40)).cell? ⟨w.heap.size, 1, none⟩ = some (.int .i64 t) := by simp
  have hl : w.heap.size < (w.alloc (.cells #[.int .i64 (k : Int), .int .i64 t] 40)).heap.size := by simp
  go_enter Tryd.func20, Tryd.ntmps20
  go_wp2_with fail
  refine hC.mono ?_
  clear hC
  rintro e w1 ⟨⟨q, rfl, hq⟩, hb1⟩
  have y0 : w1.cell? ⟨w.heap.size, 0, none⟩ = some (.int .i64 (k : Int)) := by rw [hb1.cell (by exact hl)]; exact x0
  have y1 : w1.cell? ⟨w.heap.size, 1, none⟩ = some (.int .i64 t) := by rw [hb1.cell (by exact hl)]; exact x1
  have HB1 := Hid.mk' (below_chain HB0.out hb1)
  clear x0 x1 hb1 hl
  by_cases h0 : k = 0
  · subst h0
    go_wp2_with fail
    go_ret
    exact ⟨rfl, HB1.out⟩
  · obtain rfl : q = t := hq h0
    have hk0 : ((k : Int) == 0) = false := by simp; exact h0
    clear hq h0
    go_wp2_with fail
    go_ret
    exact ⟨rfl, HB1.out⟩
end Go.Proofs.YtgopohbombnflaaDoor
