/- A card's parameter of type []string, opened. -/
import Derived.Test.YtcigmihfannmjaaGreatDoorWordsP
import Derived.Test.YtcigmihfannmjaaGreatDoorOpenInts
import Derived.Deep.Strs
namespace Go.Proofs.YtcigmihfannmjaaGreatDoor
open Go.ChangeShapes Go.WideShapes Go.ChangeAt Go.RowKit Go.Joins Go.Deep

theorem Tryz.cellsStr : Tryz.prog.cellsOf 9 = 1 := by kernel_rfl
set_option maxRecDepth 100000 in
/-- What a parameter of type []string gives: its slice, its texts. -/
theorem open_texts {H : Type} {enc : TypeId × Value → H} {W : World} {base : Nat} {v : Value} {d : DataW H} {p : List MemPlace} (hv : Value.okWide Tryz.prog W .any base 22 v)
    (h : DataW.Trod enc Tryz.prog W 0 (fun _ => true) true 22 v d p) :
    ∃ (ad : Option Addr) (n cap : Nat) (f : Nat → ByteArray), v = .slice ad n cap ∧ n ≤ maxLen ∧ TxtAt W ad n f ∧ ∀ i, i < n → (f i).size ≤ maxLen := by
  obtain ⟨ad, n, cap, rfl⟩ := okWide_slice Tryz.underlying22 hv
  obtain ⟨fuel, hf⟩ := h
  rcases open_strs Tryz.underlying22 Tryz.underlying9 Tryz.cellsStr hf with ⟨hc, _⟩ | ⟨a, len, cap', m, Sx, hc, _, hl, hm, hz, _, hcell⟩
  · simp [Value.cells] at hc
    obtain ⟨rfl, rfl, rfl⟩ := hc
    exact ⟨none, 0, 0, fun _ => ⟨#[]⟩, rfl, Nat.zero_le _, fun i hi => by omega, fun i hi => by omega⟩
  · simp [Value.cells] at hc
    obtain ⟨rfl, rfl, rfl⟩ := hc
    simp only [if_true] at hz
    obtain ⟨b, o, spot⟩ := a
    refine ⟨_, n, cap, Sx, rfl, by omega, fun i hi => ?_, fun i hi => (hcell i (by omega)).2⟩
    have h1 := (hcell i (by omega)).1
    have hspot : spot = none := by simpa [Addr.add] using World.cell?_spot (hcell 0 (by omega)).1
    subst hspot
    rw [Go.Proofs.YtcigmihfannmjaaGreatDoor.add_plain] at h1
    exact ⟨b, o, rfl, h1⟩
end Go.Proofs.YtcigmihfannmjaaGreatDoor
