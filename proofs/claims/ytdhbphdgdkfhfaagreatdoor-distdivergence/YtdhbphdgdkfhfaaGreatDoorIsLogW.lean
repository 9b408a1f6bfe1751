/- The law's isLog. -/
import Derived.Test.YtdhbphdgdkfhfaaGreatDoorOfAny
import Derived.Test.YtdhbphdgdkfhfaaGreatDoorCode
namespace Go.Proofs.YtdhbphdgdkfhfaaGreatDoor
open Go.RowKit

theorem same_own (den : Int) (v1 v2 : Value) (n : Nat) (p c : Nat → Int) (w : World) (h1 : OwnAt w v1 n p c) (h2 : OwnAt w v2 n p c) (hn : n ≤ 1000000) :
    Calls Tryz.prog 14 #[.agg #[.int .i64 den, v1], .agg #[.int .i64 den, v2]] w fun e w' => e = .returned (.bool true) ∧ Below w.heap.size w w' := by
  rcases h1 with ⟨rfl, rfl⟩ | ⟨g1, c1, rfl, t1⟩
  · rcases h2 with ⟨rfl, _⟩ | ⟨g2, c2, rfl, t2⟩
    · exact SameLog_none den none none 0 0 w
    · exact SameLog_none den none _ 0 c2 w
  · rcases h2 with ⟨rfl, rfl⟩ | ⟨g2, c2, rfl, t2⟩
    · exact SameLog_none den _ none c1 0 w
    · exact SameLog_some den g1 0 c1 g2 0 c2 n p c w t1 t2 hn
theorem own_form {w : World} {v : Value} {n : Nat} {p c : Nat → Int} (h : OwnAt w v n p c) : ∃ ad m cap, v = .slice ad m cap := by
  rcases h with ⟨rfl, _⟩ | ⟨g, cap, rfl, _⟩
  · exact ⟨_, _, _, rfl⟩
  · exact ⟨_, _, _, rfl⟩

set_option maxRecDepth 10000 in
set_option maxHeartbeats 1000000 in
theorem isLog_ok (den : Int) (v1 v2 : Value) (n : Nat) (p c : Nat → Int) (w : World) (h1 : OwnAt w v1 n p c) (h2 : OwnAt w v2 n p c) (hn : n ≤ 1000000) :
    Calls Tryz.prog 10 #[.agg #[.int .i64 den, v1], .nilIface, .agg #[.int .i64 den, v2], .int .i64 0] w fun e w' => e = .returned (.bool true) ∧ Below w.heap.size w w' := by
  obtain ⟨ad1, m1, cap1, rfl⟩ := own_form h1
  obtain ⟨ad2, m2, cap2, rfl⟩ := own_form h2
  have hb0 : Below w.heap.size w ((w.alloc (.cells #[.int .i64 den, .slice ad1 m1 cap1] 27)).alloc (.cells #[.int .i64 den, .slice ad2 m2 cap2] 27)) := ((Below.refl _ _).alloc (Nat.le_refl _) _).alloc (by simp) _
  have hs := same_own den _ _ n p c _ (h1.later hb0) (h2.later hb0) hn
  have HB := Hid.mk' hb0
  clear h1 h2 hb0
  go_enter Tryz.func10, Tryz.ntmps10
  go_wp2_with fail
  refine hs.mono ?_
  clear hs
  rintro e w1 ⟨rfl, hb1⟩
  go_wp2_with fail
  go_ret
  exact ⟨rfl, below_chain HB.out hb1⟩

set_option maxRecDepth 10000 in
set_option maxHeartbeats 1000000 in
theorem isLog_err (a : Nat → Addr) (k : Nat) (hk : k < 8) (d2 : Int) (ad2 : Option Addr) (m2 cap2 : Nat) (w : World) (h : Errs w a) :
    Calls Tryz.prog 10 #[.agg #[.int .i64 0, .slice none 0 0], .iface 155 (.pointer (some (a k))), .agg #[.int .i64 d2, .slice ad2 m2 cap2], .int .i64 ((k : Int) + 1)] w fun e w' => e = .returned (.bool true) ∧ Below w.heap.size w w' := by
  have hb0 : Below w.heap.size w ((w.alloc (.cells #[.int .i64 0, .slice none 0 0] 27)).alloc (.cells #[.int .i64 d2, .slice ad2 m2 cap2] 27)) := ((Below.refl _ _).alloc (Nat.le_refl _) _).alloc (by simp) _
  have hc := coded_err a k hk ((k : Int) + 1) _ (h.below hb0)
  rw [decide_eq_true rfl] at hc
  have HB := Hid.mk' hb0
  have hk1 : (0 : Int) < (k : Int) + 1 := by omega
  clear h hb0
  go_enter Tryz.func10, Tryz.ntmps10
  go_wp2_with fail
  refine hc.mono ?_
  clear hc
  rintro e w1 ⟨rfl, hb1⟩
  have c0 := hb1.cell (p := ⟨w.heap.size, 0, none⟩) (by simp; omega)
  have c1 := hb1.cell (p := ⟨w.heap.size, 1, none⟩) (by simp; omega)
  rw [World.cell?_alloc_lt _ _ ⟨w.heap.size, 0, none⟩ (by simp), World.cell?_alloc_at _ _ _ _ rfl] at c0
  rw [World.cell?_alloc_lt _ _ ⟨w.heap.size, 1, none⟩ (by simp), World.cell?_alloc_at _ _ _ _ rfl] at c1
  simp at c0 c1
  have HB1 := Hid.mk' (below_chain HB.out hb1)
  clear hb1
  go_wp2_with fail
  go_ret
  exact ⟨rfl, HB1.out⟩
end Go.Proofs.YtdhbphdgdkfhfaaGreatDoor
