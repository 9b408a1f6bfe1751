/- The closed fact at the head of all Ising laws: two spins, one bond. -/
import Derived.Test.YtpdenfjncpfogaaDoorIsSt
namespace Go.Proofs.YtpdenfjncpfogaaDoor
open Go.RowKit

theorem Fills.nums {w wr : World} {g T : Nat} {f : Nat → Int} (h : Fills w wr g (T + 1) f) : NumsAt wr (.slice (some ⟨g, 0, none⟩) (T + 1) (T + 1)) (T + 1) f := Or.inr ⟨g, 0, T + 1, rfl, Nat.succ_pos _, h.row⟩
theorem stK2 : ∀ k, k < 2 → stK (fun _ => 0) (fun _ => 1) 2 1 k = 2 := by decide +kernel

set_option maxRecDepth 100000 in
set_option maxHeartbeats 4000000 in
theorem bond_any (a : Nat → Addr) (w : World) (hE : Errs w a) :
    Calls Tryd.prog 5 #[] w fun e w' => e = .returned (.bool true) ∧ Below w.heap.size w w' := by
  obtain ⟨W0, hW0⟩ : ∃ W0, W0 = w.alloc (.cells #[.int .i64 0, .int .i64 1] 57) := ⟨_, rfl⟩
  have hb0 : Below w.heap.size w W0 := by rw [hW0]; exact (Below.refl _ _).alloc (Nat.le_refl _) _
  have hG : EdAt W0 (.slice (some ⟨w.heap.size, 0, none⟩) 1 1) 1 (fun i => (((fun _ => 0 : Nat → Nat) i : Nat) : Int)) (fun i => (((fun _ => 1 : Nat → Nat) i : Nat) : Int)) := by
    refine ⟨_, _, rfl, Or.inr ⟨w.heap.size, 0, rfl, fun i hi => ?_⟩⟩
    rw [hW0]
    obtain rfl : i = 0 := by omega
    constructor <;> go_simp
  have HA := Hid.mk' (States_ok a 2 1 _ _ _ W0 (hE.below hb0) hG (by decide) (by decide) (fun _ _ => by decide))
  have HB0 := Hid.mk' hb0
  have HW0 := Hid.mk' hW0
  clear hE hb0 hG hW0
  go_enter Tryd.func5, Tryd.ntmps5
  go_wp2_with fail
  rw [← HW0.out]
  refine HA.out.mono ?_
  rintro e w2 ⟨g, rfl, h2⟩
  have HB2 : Hid (Below w.heap.size w w2) := below_chain HB0.out h2.below
  have HN : Hid (NumsAt w2 (.slice (some ⟨g, 0, none⟩) 2 2) 2 (fun _ => 2)) := h2.nums.congr fun i hi => by rw [stK2 i hi]; rfl
  clear h2 HA HW0 HB0
  have hb3 : Below w2.heap.size w2 (w2.alloc (.cells #[.int .i64 2, .int .i64 2] 3)) := (Below.refl _ _).alloc (Nat.le_refl _) _
  have hk : NumsAt (w2.alloc (.cells #[.int .i64 2, .int .i64 2] 3)) (.slice (some ⟨w2.heap.size, 0, none⟩) 2 2) 2 (fun _ => 2) := by
    refine Or.inr ⟨_, 0, 2, rfl, by decide, fun i hi => ?_⟩
    rcases (show i = 0 ∨ i = 1 by omega) with rfl | rfl <;> go_simp
  have HSI := Hid.mk' (SameInts_any _ _ 2 _ _ (HN.out.later hb3) hk (by decide))
  have HB3 := Hid.mk' (below_chain HB2.out hb3)
  clear hb3 hk HN
  go_wp2_with fail
  refine HSI.out.mono ?_
  rintro e w4 ⟨rfl, hb4⟩
  have HB4 := Hid.mk' (below_chain HB3.out hb4)
  clear hb4 HSI
  go_wp2_with fail
  go_ret
  exact ⟨rfl, HB4.out⟩
end Go.Proofs.YtpdenfjncpfogaaDoor
