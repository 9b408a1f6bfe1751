/- The closed fact at the head of all Sample laws: of three even outcomes, two bits. -/
import Derived.Test.YtobmngkaoahmiaaDoorSmDw
namespace Go.Proofs.YtobmngkaoahmiaaDoor
open Go.RowKit

def thZ (_ : Nat) : Int := 1
def thT : ByteArray := ⟨#[49, 49, 49, 48]⟩
theorem th_err : dwE thZ 3 thT = 0 := by decide +kernel
theorem th_comes : Comes (xT thZ 3 3) 3 (dpT 3) thT.size (bitN thT) 0 0 0 (some (2, 4)) := ⟨10, by decide +kernel⟩
set_option maxRecDepth 100000 in
set_option maxHeartbeats 2000000 in
theorem third_any (a : Nat → Addr) (w : World) (hE : Errs w a) :
    Calls Tryd.prog 9 #[] w fun e w' => e = .returned (.bool true) ∧ Below w.heap.size w w' := by
  obtain ⟨W0, hW0⟩ : ∃ W0, W0 = w.alloc (.cells #[.int .i64 1, .int .i64 1, .int .i64 1] 3) := ⟨_, rfl⟩
  have hb0 : Below w.heap.size w W0 := by rw [hW0]; exact (Below.refl _ _).alloc (Nat.le_refl _) _
  have hN : NumsAt W0 (.slice (some ⟨w.heap.size, 0, none⟩) 3 3) 3 thZ := by
    refine Or.inr ⟨_, 0, 3, rfl, by decide, fun i hi => ?_⟩
    rw [hW0]
    rcases (show i = 0 ∨ i = 1 ∨ i = 2 by omega) with rfl | rfl | rfl <;> go_simp <;> rfl
  have HA := Hid.mk' (Draw_ok a _ 3 3 thZ thT W0 (hE.below hb0) hN rfl th_err)
  have HB0 := Hid.mk' hb0
  have HW0 := Hid.mk' hW0
  clear hE hb0 hN hW0
  go_enter Tryd.func9, Tryd.ntmps9
  go_wp2_with fail
  rw [← HW0.out]
  refine HA.out.mono ?_
  rintro e w2 ⟨⟨r, rfl, hr⟩, hb2⟩
  obtain rfl := hr.same th_comes
  have HB2 := Hid.mk' (below_chain HB0.out hb2)
  clear hr hb2 HA
  unfold drawV
  go_wp2_with fail
  go_ret
  exact ⟨rfl, HB2.out⟩
end Go.Proofs.YtobmngkaoahmiaaDoor
