/- The closed fact at the head of all Order laws: all at one place is above an even share. -/
import Derived.Test.YtgopohbombnflaaDoorOrAb
namespace Go.Proofs.YtgopohbombnflaaDoor
open Go.RowKit

def unP : Nat → Int := fun i => if i = 0 then 0 else 4
def unQ : Nat → Int := fun _ => 2
theorem un_err : prE 2 unP 2 unQ = 0 := by decide +kernel
theorem un_dip : dipN (surF unP unQ 2) 2 = false := by decide +kernel
set_option maxRecDepth 100000 in
set_option maxHeartbeats 2000000 in
theorem unlike_any (a : Nat → Addr) (w : World) (hE : Errs w a) :
    Calls Tryd.prog 8 #[] w fun e w' => e = .returned (.bool true) ∧ Below w.heap.size w w' := by
  obtain ⟨W0, hW0⟩ : ∃ W0, W0 = w.alloc (.cells #[.int .i64 0, .int .i64 4] 3) := ⟨_, rfl⟩
  obtain ⟨W1, hW1⟩ : ∃ W1, W1 = W0.alloc (.cells #[.int .i64 2, .int .i64 2] 3) := ⟨_, rfl⟩
  have hb0 : Below w.heap.size w W0 := by rw [hW0]; exact (Below.refl _ _).alloc (Nat.le_refl _) _
  have hb01 : Below W0.heap.size W0 W1 := by rw [hW1]; exact (Below.refl _ _).alloc (Nat.le_refl _) _
  have hs0 : W0.heap.size = w.heap.size + 1 := by rw [hW0]; simp
  have hN : NumsAt W0 (.slice (some ⟨w.heap.size, 0, none⟩) 2 2) 2 unP := by
    refine Or.inr ⟨_, 0, 2, rfl, by decide, fun i hi => ?_⟩
    rw [hW0]
    rcases (show i = 0 ∨ i = 1 by omega) with rfl | rfl <;> go_simp <;> rfl
  have hM : NumsAt W1 (.slice (some ⟨w.heap.size + 1, 0, none⟩) 2 2) 2 unQ := by
    refine Or.inr ⟨_, 0, 2, rfl, by decide, fun i hi => ?_⟩
    rw [hW1, ← hs0]
    rcases (show i = 0 ∨ i = 1 by omega) with rfl | rfl <;> go_simp <;> rfl
  have hb1 := below_chain hb0 hb01
  have hA : Calls Tryd.prog 10 #[.slice (some ⟨w.heap.size, 0, none⟩) 2 2, .slice (some ⟨w.heap.size + 1, 0, none⟩) 2 2] W1 fun e w' => e = .returned (.tuple #[.bool true, .nilIface]) ∧ Below W1.heap.size W1 w' := by
    have h := Above_any a _ _ 2 2 unP unQ W1 (hE.below hb1) (hN.later hb01) hM (by omega) (by omega)
    rw [un_err, un_dip] at h
    exact h
  have HA := Hid.mk' hA
  have HB := Hid.mk' hb1
  have HW : Hid ((w.alloc (.cells #[.int .i64 0, .int .i64 4] 3)).alloc (.cells #[.int .i64 2, .int .i64 2] 3) = W1) := by show _ = _; rw [hW1, hW0]
  clear hE hb0 hb01 hb1 hN hM hA hW0 hW1 hs0
  go_enter Tryd.func8, Tryd.ntmps8
  go_wp2_with fail
  rw [HW.out]
  refine HA.out.mono ?_
  rintro e w2 ⟨rfl, hb2⟩
  have HB2 := Hid.mk' (below_chain HB.out hb2)
  clear hb2 HA
  go_wp2_with fail
  go_ret
  exact ⟨rfl, HB2.out⟩
end Go.Proofs.YtgopohbombnflaaDoor
