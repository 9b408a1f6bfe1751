/- Proved: demonlaw1.Names, called in whatever memory in which package api's eight errors and errors.errorType are as their initialisers lay them, returns true and changes nothing that was there; the listed variables are tied to the program's text by the card. -/
import Derived.Test.YtiecbconcdncmaaDoorNames
import Derived.Test.YtiecbconcdncmaaDoorLaid
import Derived.Test.YtiecbconcdncmaaDoorCards
import Derived.Test.YtiecbconcdncmaaDoorTie
import Derived.SevenTiedAt
import Derived.ProofKit
namespace Go.Proofs.YtiecbconcdncmaaDoor
open Go.ChangeShapes Go.WideShapes Go.RowKit

theorem full_text (s : ByteArray) (j : Nat) (x : String × List UInt8) (hx : eightNames[j]? = some x) (h : s.data.toList = x.2) : s = full j := by
  have e : s = ⟨⟨x.2⟩⟩ := by
    obtain ⟨⟨l⟩⟩ := s
    simp only at h
    rw [h]
  have hj : j < 8 := by
    rcases Nat.lt_or_ge j 8 with h' | h'
    · exact h'
    · rw [List.getElem?_eq_none (by exact h')] at hx; cases hx
  rw [e]
  have : j = 0 ∨ j = 1 ∨ j = 2 ∨ j = 3 ∨ j = 4 ∨ j = 5 ∨ j = 6 ∨ j = 7 := by omega
  rcases this with rfl | rfl | rfl | rfl | rfl | rfl | rfl | rfl <;> (obtain rfl := Option.some.inj hx; decide)

set_option maxRecDepth 100000 in
theorem names_lifted (os : Os) (started : os.Started) (H : Type) (enc : TypeId × Value → H) :
    ReturnsInHanded {} Tryd.checked os 3 .any (fun w args => (Rows.namesSpec.pre enc Tryd.prog Tryd.f3 [] false w args ∧ laidMetH Tryd.prog laidAll w) ∧ sizedMet enc Tryd.prog Tryd.f3 (OpenSpec.ofChange Rows.namesSpec) false w args)
      (Rows.namesSpec.post enc Tryd.prog Tryd.f3 false true false false) := by
  refine returnsInHanded_of_change_and (C := Tryd.checked) (X := fun w _ => laidMetH Tryd.prog laidAll w) (fun _ _ _ hh h => h.of_heap hh) Tryd.own started (by kernel_rfl) Tryd.func3
    (ChangeSpec.witness_shaped (enc := enc) (C := Tryd.checked) (os := os) (X := fun w _ => laidMetH Tryd.prog laidAll w) false (World.doorLaid Tryd.prog 168 os) #[] 8 rfl (World.shaped_of_RefB (by kernel_rfl) (by kernel_rfl)) (by kernel_rfl) (by kernel_rfl) (by kernel_rfl) (door_met os _)) ?_
  intro W base args ds gs before hval0 hW _ _ hL _
  have hW' := hW
  obtain ⟨p, q, hA0, hV, rfl, hfz, hnd⟩ := hW
  have hA : DataW.TrodAll enc Tryd.prog W 0 (fun _ => true) true Tryd.f3.params.toList args.toList ds p := hA0
  rw [Tryd.params3] at hA
  obtain ⟨h1, rfl, rfl⟩ := trodAll_none hA
  obtain rfl : args = #[] := by obtain ⟨l⟩ := args; simp at h1; rw [h1]
  obtain ⟨rfl, rfl⟩ := trodVars_none hV
  obtain ⟨a, hE, hT⟩ := errs_of_laid hL
  have ht : ∀ j, j < 8 → W.cell? (a j) = some (.string (full j)) := fun j hj => by
    have hl : eightNames.length = 8 := rfl
    obtain ⟨s, hs, hx⟩ := hT j eightNames[j] (List.getElem?_eq_getElem (by omega))
    rw [hs, full_text s j _ (List.getElem?_eq_getElem (by omega)) hx]
  refine (names_walk W a hE ht).mono fun e W' ⟨he, hb⟩ => ?_
  subst he
  have e1 : Rows.namesSpec.fn H ([] ++ []) = { results := [.lit (.bool true)], args := [] } := by simp [Rows.namesSpec]
  refine ⟨_, rfl, _, _, _, [], [], [], hW', ?_, ?_, ?_, hb.frame _, fun h => by cases h⟩
  · rw [e1]; exact trodAll_mk1 (shut_bool Tryd.underlying4 true)
  · rw [e1]; exact trodAll_mk0
  · rw [e1]; rfl

theorem names_holds : Rows.NamesSaid :=
  OpenClaim.holds_of_wide 3 Tryd.f3 rfl rfl rfl rfl rfl rfl rfl ⟨rfl, rfl, rfl, rfl, rfl⟩ rfl rfl rfl rfl rfl (by kernel_rfl) Tryd.func3 (by kernel_rfl)
    (of_decide_eq_true (by kernel_rfl)) (by unfold Func.isWrapper; rw [if_neg (of_decide_eq_false (by kernel_rfl))]; exact ⟨rfl, rfl⟩)
    (fun os started H enc _ => names_lifted os started H enc)

theorem names_card : Rows.NamesCardSaid :=
  Claim7.holds_tied_plain_at .later [] [.handle, .sentinel, .sentinel, .sentinel, .sentinel, .sentinel, .sentinel, .sentinel, .sentinel] true (true, "5cb9f1bcb6b1e6f1c5215e650acdc18ab03aa017a8e0483fa92cdfb94715cf5b") true
    names_holds (fun _ h => by cases h) (by kernel_rfl) (fun _ h => by cases h) names_row_tie rfl ⟨rfl, rfl⟩ (by kernel_rfl) rfl
    (fun f fn hf hfn => by
      obtain rfl : f = 3 := Option.some.inj ((show Tryd.prog.funcNamed "demon/demonlaw1.Names" = some 3 by kernel_rfl).symm.trans hf) |>.symm
      obtain rfl : fn = Tryd.f3 := (Option.some.inj (Tryd.func3.symm.trans hfn)).symm
      exact ⟨by kernel_rfl, fun j t ht => by
        rw [Tryd.params3] at ht
        simp at ht⟩)
    (by kernel_rfl)
#print axioms names_card
end Go.Proofs.YtiecbconcdncmaaDoor
