/- demonlaw3.twice: the closed fact at the head of all Machine laws. -/
import Derived.Test.YtdfcipdknfebpaaDoorMacR
namespace Go.Proofs.YtdfcipdknfebpaaDoor
open Go.RowKit

set_option maxRecDepth 100000 in
theorem twice_any (vB vT : Value) (w : World) (hvT : w.cell? ⟨1, 0, none⟩ = some vT) (hvB : w.cell? ⟨0, 0, none⟩ = some vB) (hTi : ∃ t x, vT = .iface t x) (hBi : ∃ t x, vB = .iface t x) :
    Calls Tryd.prog 7 #[] w fun e w' => e = .returned (.bool true) ∧ Below w.heap.size w w' := by
  have hR : Calls Tryd.prog 8 #[.string ⟨#[48, 49, 49, 48, 48]⟩] w fun e w' => e = .returned (.tuple #[.string ⟨#[49, 49]⟩, .nilIface]) ∧ Below w.heap.size w w' := by
    refine (Run_any [48, 49, 49, 48, 48] vB vT w (by decide) hvT hvB hTi hBi).mono ?_
    rintro e w' ⟨s, v, rfl, hI, hB⟩
    obtain ⟨rfl, rfl⟩ := hI.good (by decide) [1, 2] rfl (fun i hi => by
      rcases i with _ | _ | _ | i
      · decide
      · decide
      · decide
      · simp at hi)
    exact ⟨rfl, hB⟩
  clear hvT hvB hTi hBi
  go_enter Tryd.func7, Tryd.ntmps7
  go_wp2_with fail
  refine hR.mono ?_
  rintro e w' ⟨rfl, hB⟩
  have HB := Hid.mk' hB
  clear hB hR
  go_wp2_with fail
  go_ret
  exact ⟨rfl, HB.out⟩

end Go.Proofs.YtdfcipdknfebpaaDoor
