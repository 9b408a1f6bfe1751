/- logs.Of at 8 over 1: the map's part. -/
import Derived.Test.YtklhfagcembigaaGreatDoorOwn
import Derived.Maps.OwnOps
namespace Go.Proofs.YtklhfagcembigaaGreatDoor
open Go.RowKit Go.Maps

theorem Tryz.lawInt : Keyed Tryz.prog 3 := int_keyed Tryz.underlying3
theorem Tryz.zeroInt (w : World) : (zeroValue 3).run Tryz.prog w = .ok (.int .i64 0) w := by kernel_rfl

set_option maxRecDepth 100000 in
theorem newSum_any (den : Int) (w : World) :
    Calls Tryz.prog 51 #[.int .i64 den] w fun e w' => e = .returned (.agg #[.int .i64 den, .map (some (w.heap.size + 1))]) ∧ w'.ownsMap Tryz.prog 3 (plainElem (H := Unit) Tryz.prog 3) (w.heap.size + 1) 0 (.map []) ∧ Below w.heap.size w w' := by
  have hmm := @run_makeMap Tryz.prog
  go_enter Tryz.func51, Tryz.ntmps51
  go_wp2
  refine bodyPost_ret (v := .agg #[.int .i64 den, .map (some (w.heap.size + 1))]) (by simp [results, Tryz.results51, go_sem]) rfl ⟨rfl, ?_, ?_⟩
  · have := World.ownsMap_made (H := Unit) (w.alloc (.cells #[.int .i64 den, .map (some (w.heap.size + 1))] 86)) Tryz.prog 3 (plainElem Tryz.prog 3)
    simpa using this
  · exact ((Below.refl _ _).alloc (Nat.le_refl _) _).alloc (by simp) _

/-- The map with key 2 alone. -/
def coefs2 : Nat → DataW Unit
  | 0 => .map []
  | k + 1 => .map [(.int .i64 2, .lit (.int .i64 ((k : Int) + 1)))]
theorem coefs2_at : ∀ k, (coefs2 k).atKey (.int .i64 2) (.lit (.int .i64 0)) = .lit (.int .i64 (k : Int))
  | 0 => rfl
  | k + 1 => by simp [coefs2, DataW.atKey, Lit.sameKey]
theorem coefs2_put (k : Nat) : (coefs2 k).put (.int .i64 2) (.lit (.int .i64 ((k : Int) + 1))) = coefs2 (k + 1) := by
  cases k <;> simp [coefs2, DataW.put, DataW.insert, Lit.sameKey]

theorem cell_beside {w w' : World} {b B o : Nat} {v : Value} (hg : w.grownBy w' (some b)) (hc : w.cell? ⟨B, o, none⟩ = some v) (hne : B ≠ b) : w'.cell? ⟨B, o, none⟩ = some v := by
  have hlt := cell_lt hc
  have := World.cell?_of_block (a := ⟨B, o, none⟩) (w := w) (hg.block B hlt (by simpa using hne))
  rw [this]; exact hc

end Go.Proofs.YtklhfagcembigaaGreatDoor
