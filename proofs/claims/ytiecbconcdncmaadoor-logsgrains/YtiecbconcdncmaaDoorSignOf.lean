/- The document's SignOf. -/
import Derived.Test.YtiecbconcdncmaaDoorSides
namespace Go.Proofs.YtiecbconcdncmaaDoor
open Go.RowKit

theorem pow_room (m : Nat) : 2 ^ m < 1000000 ^ (m + 1) :=
  Nat.lt_of_le_of_lt (Nat.pow_le_pow_left (show 2 ≤ 1000000 by decide) m) (Nat.pow_lt_pow_right (by decide) (Nat.lt_succ_self m))

set_option maxRecDepth 10000 in
set_option maxHeartbeats 1000000 in
theorem SignOf_any (den : Int) (ad : Option Addr) (n cap : Nat) (p c : Nat → Int) (w : World) (hl : LogAt w (.slice ad n cap) n p c) (hn : n ≤ 30) (hbd : Bounded n p c) (hcost : cost p c n ≤ 40000) :
    Calls Tryd.prog 18 #[.agg #[.int .i64 den, .slice ad n cap]] w fun e w' => e = .returned (.int .i64 (cmpOf (sideUp p c 1 n) (sideDown p c 1 n))) ∧ Below w.heap.size w w' := by
  have hb0 : Below w.heap.size w (w.alloc (.cells #[.int .i64 den, .slice ad n cap] 39)) := (Below.refl _ _).alloc (Nat.le_refl _) _
  obtain ⟨E, hE, hEb⟩ : ∃ E, E ≤ 1000000 ∧ 2 ^ (1 * cost p c n) < 1000000 ^ E := ⟨1 * cost p c n + 1, by omega, pow_room _⟩
  have hs := Sides_one den ad n cap E p c (w.alloc (.cells #[.int .i64 den, .slice ad n cap] 39)) (hl.later hb0) hn hbd (by omega) hE hEb
  have hle := sides_le p c 1 n
  have HU := Hid.mk' (Nat.lt_of_le_of_lt hle.1 hEb)
  have HD := Hid.mk' (Nat.lt_of_le_of_lt hle.2 hEb)
  have HB0 := Hid.mk' hb0
  clear hb0 hl hbd hEb hle hcost
  go_enter Tryd.func18, Tryd.ntmps18
  go_wp2_with fail
  refine hs.mono ?_
  clear hs
  rintro e w1 ⟨u, v, rfl, hu, hv, hb⟩
  have hc := BigCmp_any u v _ _ E w1 hu hv HU.out HD.out hE
  have HB1 := Hid.mk' (below_chain HB0.out hb)
  clear hu hv hb
  go_wp2_with fail
  refine hc.mono ?_
  clear hc
  rintro e w2 ⟨rfl, m, hw2⟩
  go_wp2_with fail
  go_ret
  exact ⟨rfl, below_drewN HB1.out _⟩
end Go.Proofs.YtiecbconcdncmaaDoor
