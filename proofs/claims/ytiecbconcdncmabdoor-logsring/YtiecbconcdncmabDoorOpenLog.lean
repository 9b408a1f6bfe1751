/- A parameter of type api.Log opened: its number, its slice, its terms. -/
import Derived.Test.YtiecbconcdncmabDoorValidWalk
import Derived.Test.YtiecbconcdncmabDoorLaid
import Derived.Test.YtiecbconcdncmabDoorCards
import Derived.Test.YtiecbconcdncmabDoorTie
import Derived.SevenTiedAt
import Derived.ProofKit
import Derived.OpenShut
import Derived.ChangeOld
import Derived.Lib.SmallJoins
import Derived.Deep.SlicePairs
namespace Go.Proofs.YtiecbconcdncmabDoor
open Go.ChangeShapes Go.WideShapes Go.ChangeAt Go.RowKit Go.Joins Go.Deep

theorem Tryd.laidOut : laidOutB Tryd.prog = true := by kernel_rfl
theorem Tryd.cellsLog : Tryd.prog.cellsOf 25 = 2 := by kernel_rfl
theorem Tryd.cellsTerm : Tryd.prog.cellsOf 41 = 2 := by kernel_rfl
theorem Tryd.cellsInt : Tryd.prog.cellsOf 3 = 1 := by kernel_rfl

set_option maxRecDepth 100000 in
/-- What a parameter of type api.Log gives: its number, its slice, its terms. -/
theorem open_log {H : Type} {enc : TypeId × Value → H} {W : World} {base : Nat} {v : Value} {d : DataW H} {p : List MemPlace} (hv : Value.okWide Tryd.prog W .any base 25 v)
    (h : DataW.Trod enc Tryd.prog W 0 (fun _ => true) true 25 v d p) :
    ∃ (den : Int) (ad : Option Addr) (n cap : Nat) (pf cf : Nat → Int), v = .agg #[.int .i64 den, .slice ad n cap] ∧ n ≤ maxLen ∧ LogAt W (.slice ad n cap) n pf cf := by
  obtain ⟨c0, c1, y0, y1, m, rfl, rfl, rfl, hy0, hy1⟩ := open_agg2 Tryd.underlying25 (by kernel_rfl) Tryd.cellsLog hv h
  obtain ⟨den, e0, _, _⟩ := DataW.trod_int Tryd.underlying3 hy0
  simp at e0
  subst e0
  rcases open_slice_pairs Tryd.underlying23 Tryd.underlying41 Tryd.cellsTerm rfl rfl Tryd.cellsInt Tryd.cellsInt hy1 with ⟨hc, _⟩ | ⟨a, len, cap, mm, nn, V0, V1, D0, D1, P0, P1, hc, _, hl, hm, hmm, _, hx⟩
  · simp at hc
    subst hc
    exact ⟨den, none, 0, 0, fun _ => 0, fun _ => 0, rfl, Nat.zero_le _, Or.inl ⟨none, 0, rfl, rfl⟩⟩
  · simp at hc
    subst hc
    simp at hmm
    rcases Nat.eq_zero_or_pos len with rfl | hpos
    · exact ⟨den, some a, 0, cap, fun _ => 0, fun _ => 0, rfl, Nat.zero_le _, Or.inl ⟨some a, cap, rfl, rfl⟩⟩
    · obtain ⟨b, o, spot⟩ := a
      have hspot : spot = none := by simpa [Addr.add] using World.cell?_spot (hx 0 (by omega)).1
      subst hspot
      have hint : ∀ i, i < len → ∃ x : Int × Int, V0 i = .int .i64 x.1 ∧ V1 i = .int .i64 x.2 := fun i hi => by
        obtain ⟨_, _, g0, g1⟩ := hx i (by omega)
        obtain ⟨x, e0, _, _⟩ := DataW.trod_int Tryd.underlying3 g0
        obtain ⟨y, e1, _, _⟩ := DataW.trod_int Tryd.underlying3 g1
        simp at e0 e1
        exact ⟨(x, y), e0, e1⟩
      obtain ⟨f, hf⟩ := choose_lt hint
      refine ⟨den, some ⟨b, o, none⟩, len, cap, fun i => (f i).1, fun i => (f i).2, rfl, by omega, Or.inr ⟨b, o, cap, rfl, hpos, fun i hi => ?_⟩⟩
      obtain ⟨g0, g1, _, _⟩ := hx i (by omega)
      rw [Go.Proofs.YtiecbconcdncmabDoor.add_plain, (hf i hi).1] at g0
      rw [Go.Proofs.YtiecbconcdncmabDoor.add_plain, (hf i hi).2, ← Nat.add_assoc] at g1
      exact ⟨g0, g1⟩

end Go.Proofs.YtiecbconcdncmabDoor
