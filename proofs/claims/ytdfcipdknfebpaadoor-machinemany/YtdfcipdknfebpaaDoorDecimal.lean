/- The document's Decimal. -/
import Derived.Test.YtdfcipdknfebpaaDoorValidWalk
import Derived.Lib.ItoaNum
import Derived.Laws.BytesArg
import Derived.Deep.RegionHeld3
namespace Go.Proofs.YtdfcipdknfebpaaDoor
open Go.RowKit

theorem byte_string (W : World) (b x : Nat) (h : W.cell? ⟨b, 0, none⟩ = some (.int .u8 (x : Int))) : (convert 58 9 (.slice (some ⟨b, 0, none⟩) 1 1)).run Tryd.prog W = .ok (.string ⟨#[UInt8.ofNat x]⟩) W :=
  run_convert_bytes_arg W 58 5 Tryd.underlying58 Tryd.underlying5 b 0 1 1 [(x : Int)] rfl (fun i hi => by
    obtain rfl : i = 0 := by omega
    exact h) 9 Tryd.underlying9

set_option maxRecDepth 10000 in
set_option maxHeartbeats 1000000 in
theorem Decimal_small (n : Nat) (w : World) (hn : n < 10) : Calls Tryd.prog 16 #[.int .i64 n] w fun e w' => e = .returned (.string ⟨(Lib.decDigits n).toArray⟩) ∧ Below w.heap.size w w' := by
  have hI : (n : Int) < 10 := by omega
  have hcv := byte_string (w.alloc (.cells #[.int .u8 ((48 + n : Nat) : Int)] 5)) w.heap.size (48 + n) (by simp)
  rw [show ((48 + n : Nat) : Int) = 48 + (n : Int) by simp] at hcv
  have HD : Hid ((Lib.decDigits n).toArray = #[UInt8.ofNat (48 + n)]) := by
    show _ = _
    rw [Lib.decDigits, dif_pos hn]
  generalize UInt8.ofNat (48 + n) = u at hcv HD
  have HB : Hid (Below w.heap.size w (w.alloc (.cells #[.int .u8 (48 + (n : Int))] 5))) := (Below.refl _ _).alloc (Nat.le_refl _) _
  go_enter Tryd.func16, Tryd.ntmps16
  go_wp2_with fail
  go_ret
  exact ⟨by rw [HD.out]; rfl, HB.out⟩
end Go.Proofs.YtdfcipdknfebpaaDoor
