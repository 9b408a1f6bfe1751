/- A parameter of type demonref4.System opened: its number, its slice, its bonds. -/
import Derived.Test.YtoghnbcjkgookaaDoorIsSys
import Derived.Test.YtoghnbcjkgookaaDoorLaid
import Derived.Test.YtoghnbcjkgookaaDoorCards
import Derived.Test.YtoghnbcjkgookaaDoorTie
import Derived.SevenTiedAt
import Derived.ProofKit
import Derived.OpenShut
import Derived.ChangeOld
import Derived.Lib.SmallJoins
import Derived.Deep.SlicePairs
namespace Go.Proofs.YtoghnbcjkgookaaDoor
open Go.ChangeShapes Go.WideShapes Go.ChangeAt Go.RowKit Go.Joins Go.Deep

theorem Tryd.laidOutS : laidOutB Tryd.prog = true := by kernel_rfl
theorem Tryd.cellsSystem : Tryd.prog.cellsOf 24 = 2 := by kernel_rfl
theorem Tryd.cellsPair : Tryd.prog.cellsOf 50 = 2 := by kernel_rfl
theorem Tryd.cellsIntS : Tryd.prog.cellsOf 3 = 1 := by kernel_rfl

/-- The two numbers of an array of two. -/
theorem open_pair {H : Type} {enc : TypeId × Value → H} {W : World} {spare : Nat → Bool} {held : Bool} {fuel : Nat} {cs : List Value} {x : DataW H × List MemPlace} (h : DataW.trod enc Tryd.prog W 0 spare held fuel 50 cs = some x) (hl : cs.length = 2) : ∃ a b : Int, cs = [.int .i64 a, .int .i64 b] := by
  obtain ⟨xs, k, hk, _, _, hxl, hf⟩ := DataW.trod_array Tryd.underlying50 h
  rw [Tryd.cellsIntS] at hf
  match xs, hxl, cs, hl with
  | [y0, y1], _, [v0, v1], _ =>
    have g0 := hf 0 (by decide)
    have g1 := hf 1 (by decide)
    simp at g0 g1
    obtain ⟨a, e0, _, _⟩ := DataW.trod_int Tryd.underlying3 g0
    obtain ⟨b, e1, _, _⟩ := DataW.trod_int Tryd.underlying3 g1
    simp at e0 e1
    exact ⟨a, b, by rw [e0, e1]⟩

set_option maxRecDepth 100000 in
theorem open_system {H : Type} {enc : TypeId × Value → H} {W : World} {base : Nat} {v : Value} {d : DataW H} {p : List MemPlace} (hv : Value.okWide Tryd.prog W .any base 24 v)
    (h : DataW.Trod enc Tryd.prog W 0 (fun _ => true) true 24 v d p) :
    ∃ (N : Int) (m : Nat) (ev : Value) (pf qf : Nat → Int), v = .agg #[.int .i64 N, ev] ∧ EdAt W ev m pf qf ∧ m ≤ maxLen := by
  obtain ⟨c0, c1, y0, y1, m, rfl, rfl, rfl, hy0, hy1⟩ := open_agg2 Tryd.underlying24 (by kernel_rfl) Tryd.cellsSystem hv h
  obtain ⟨N, e0, _, _⟩ := DataW.trod_int Tryd.underlying3 hy0
  simp at e0
  subst e0
  rcases open_slice Tryd.underlying22 hy1 with ⟨hc, _⟩ | ⟨a, len, cap, mm, nn, D, Pl, hc, _, hl, hm, hmm, _, hx⟩
  · simp at hc
    subst hc
    exact ⟨N, 0, .slice none 0 0, fun _ => 0, fun _ => 0, rfl, ⟨none, 0, rfl, Or.inl rfl⟩, Nat.zero_le _⟩
  · simp at hc
    subst hc
    simp at hmm
    rcases Nat.eq_zero_or_pos len with rfl | hpos
    · exact ⟨N, 0, .slice (some a) 0 cap, fun _ => 0, fun _ => 0, rfl, ⟨some a, cap, rfl, Or.inl rfl⟩, Nat.zero_le _⟩
    · have each : ∀ i, i < len → ∃ x : Int × Int, W.cell? (a.add (i * 2)) = some (.int .i64 x.1) ∧ W.cell? (a.add (i * 2 + 1)) = some (.int .i64 x.2) := fun i hi => by
        obtain ⟨cs', h1, h2⟩ := hx i (by omega)
        rw [Tryd.cellsPair] at h1
        obtain ⟨_, hlen, hcell⟩ := World.cells?_some h1
        obtain ⟨x, y, rfl⟩ := open_pair h2 hlen
        have e0 := hcell 0 (by omega)
        have e1 := hcell 1 (by omega)
        rw [add_add] at e0 e1
        exact ⟨(x, y), by simpa using e0, by simpa using e1⟩
      obtain ⟨f, hf⟩ := choose_lt each
      obtain ⟨b, o, spot⟩ := a
      have hspot : spot = none := by simpa [Addr.add] using World.cell?_spot (hf 0 hpos).1
      subst hspot
      refine ⟨N, len, .slice (some ⟨b, o, none⟩) len cap, fun i => (f i).1, fun i => (f i).2, rfl, ⟨_, _, rfl, Or.inr ⟨b, o, rfl, fun i hi => ?_⟩⟩, by omega⟩
      obtain ⟨g0, g1⟩ := hf i hi
      rw [Go.Proofs.YtoghnbcjkgookaaDoor.add_plain] at g0
      rw [Go.Proofs.YtoghnbcjkgookaaDoor.add_plain, ← Nat.add_assoc] at g1
      exact ⟨g0, g1⟩
end Go.Proofs.YtoghnbcjkgookaaDoor
