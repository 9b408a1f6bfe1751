/- The document's Contains, JoinError, inverse. -/
import Derived.Test.YtdlbnolnkmhdcaaDoorSkJq
import Derived.Deep.RegionHeld3
namespace Go.Proofs.YtdlbnolnkmhdcaaDoor
open Go.RowKit

set_option maxRecDepth 100000 in
set_option maxHeartbeats 1000000 in
theorem DContains_row (b o cap n : Nat) (z : Nat → Int) (v : Int) (w : World) (h : RowAt w b o n z) (hn : n ≤ 1000000) :
    Calls Tryd.prog 19 #[.slice (some ⟨b, o, none⟩) n cap, .int .i64 v] w fun e w' => e = .returned (.bool (inB z n v)) ∧ w' = w := by
  have HR := Hid.mk' h
  clear h
  go_enter Tryd.func19, Tryd.ntmps19
  go_wp2_with fail
  go_loop [5] (fun t => ∃ k : Nat, k ≤ n ∧ t = .int .i64 k ∧ Hid (inB z k v = false)) (fun t => n - (intOf t).toNat)
  case atStart => exact ⟨0, Nat.zero_le _, rfl, rfl⟩
  case round =>
    obtain ⟨k, hk, rfl, HS⟩ := hrel
    rcases Nat.lt_or_ge k n with h1 | h1
    · have hc := HR.out k h1
      have hkI : (k : Int) < (n : Int) := by omega
      by_cases e : z k = v
      · have HX : Hid (inB z n v = true) := (inB_iff z v n).2 ⟨k, h1, e⟩
        have hb : (z k == v) = true := by rw [beq_iff_eq]; exact e
        generalize z k = y at *
        clear e
        go_wp2_with fail
        go_ret
        exact ⟨by rw [HX.out]; rfl, rfl⟩
      · have HN : Hid (inB z (k + 1) v = false) := by show (inB z k v || decide (z k = v)) = false; rw [HS.out, decide_eq_false e]; rfl
        have hb : (z k == v) = false := by rw [beq_eq_false_iff_ne]; exact e
        generalize z k = y at *
        clear e
        go_wp2_with fail
        exact ⟨⟨k + 1, h1, by go_num, HN⟩, by simp [intOf]; omega⟩
    · obtain rfl : n = k := by omega
      go_wp2_with fail
      go_ret
      exact ⟨by rw [HS.out]; rfl, rfl⟩
end Go.Proofs.YtdlbnolnkmhdcaaDoor
