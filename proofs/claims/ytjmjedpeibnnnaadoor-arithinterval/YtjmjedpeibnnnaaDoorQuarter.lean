/- The closed fact at the head of chapter 5's laws: of two even weights the message 1, 0 begins at a half. -/
import Derived.Test.YtjmjedpeibnnnaaDoorIntervalP
namespace Go.Proofs.YtjmjedpeibnnnaaDoor
open Go.RowKit

def quZ (_ : Nat) : Int := 1
def quL (i : Nat) : Int := if i = 0 then 1 else 0
theorem qu_ok : (mesE quZ 2 2 quL).1 = 0 := by decide
theorem qu_told (a : Nat → Addr) : ivV a (cutL quZ quL 2 2) (cutW quZ quL 2) (2 ^ 2) = .tuple #[.agg #[.int .i64 1, .int .i64 2], .agg #[.int .i64 1, .int .i64 4], .nilIface] := by
  have e1 : cutL quZ quL 2 2 = 2 := by decide
  have e2 : cutW quZ quL 2 = 1 := by decide
  rw [e1, e2]
  rfl
set_option maxRecDepth 100000 in
theorem quarter_any (a : Nat → Addr) (w : World) (hE : Errs w a) :
    Calls Tryd.prog 8 #[] w fun e w' => e = .returned (.bool true) ∧ Below w.heap.size w w' := by
  have hb0 : Below w.heap.size w ((w.alloc (.cells #[.int .i64 1, .int .i64 1] 3)).alloc (.cells #[.int .i64 1, .int .i64 0] 3)) := ((Below.refl _ _).alloc (Nat.le_refl _) _).alloc (by simp) _
  have hr : RowAt ((w.alloc (.cells #[.int .i64 1, .int .i64 1] 3)).alloc (.cells #[.int .i64 1, .int .i64 0] 3)) w.heap.size 0 2 quZ := fun i hi => by
    rw [World.cell?_alloc_lt _ _ _ (by simp), World.cell?_alloc_at _ _ _ _ rfl]
    rcases (show i = 0 ∨ i = 1 by omega) with rfl | rfl <;> rfl
  have hl : NumsAt ((w.alloc (.cells #[.int .i64 1, .int .i64 1] 3)).alloc (.cells #[.int .i64 1, .int .i64 0] 3)) (.slice (some ⟨w.heap.size + 1, 0, none⟩) 2 2) 2 quL := Or.inr ⟨_, _, _, rfl, by decide, fun i hi => by
    rw [top_cell _ _ _ _ (by simp)]
    rcases (show i = 0 ∨ i = 1 by omega) with rfl | rfl <;> rfl⟩
  have hI := Interval_ok a w.heap.size 0 2 _ 2 2 2 quZ quL _ (hE.below hb0) hr (Nat.le_refl _) hl rfl qu_ok
  rw [qu_told] at hI
  have HB0 := Hid.mk' hb0
  clear hr hl hE hb0
  go_enter Tryd.func8, Tryd.ntmps8
  go_wp2_with fail
  refine hI.mono ?_
  clear hI
  rintro e w1 ⟨rfl, hb1⟩
  have HB1 := Hid.mk' (below_chain HB0.out hb1)
  clear hb1
  go_wp2_with fail
  go_ret
  exact ⟨rfl, (HB1.out.alloc HB1.out.size _).alloc (by have := HB1.out.size; simp; omega) _⟩
end Go.Proofs.YtjmjedpeibnnnaaDoor
