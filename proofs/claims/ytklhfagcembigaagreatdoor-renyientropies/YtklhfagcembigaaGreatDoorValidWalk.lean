/- demonlaw1.LogsValid walked. -/
import Derived.Test.YtklhfagcembigaaGreatDoorSame
import Derived.Test.YtklhfagcembigaaGreatDoorCode
import Derived.Deep.RegionHeld3
import Derived.Deep.RegionWith
namespace Go.Proofs.YtklhfagcembigaaGreatDoor
open Go.RowKit Go.Maps

/-- A logarithm as a value: its slice has n terms. -/
def LogAt (w : World) (sv : Value) (n : Nat) (p c : Nat → Int) : Prop := (∃ ad cap, sv = .slice ad 0 cap ∧ n = 0) ∨ ∃ b o cap, sv = .slice (some ⟨b, o, none⟩) n cap ∧ 0 < n ∧ TermsAt w b o n p c

theorem LogAt.later {w w' : World} {sv : Value} {n : Nat} {p c : Nat → Int} (h : LogAt w sv n p c) (hb : Below w.heap.size w w') : LogAt w' sv n p c := by
  rcases h with h | ⟨b, o, cap, h1, h2, h3⟩
  · exact Or.inl h
  · exact Or.inr ⟨b, o, cap, h1, h2, h3.later hb⟩

/-- The copy's own value, in whatever later world. -/
theorem Valid_at (den : Int) (sv : Value) (n : Nat) (p c : Nat → Int) (a : Nat → Addr) (ok : Bool) (hok : ok = true ↔ OkLog den n p c) (w : World) (h : Errs w a) (hs : (sv = .slice none 0 0 ∧ n = 0) ∨ ∃ g cap, sv = .slice (some ⟨g, 0, none⟩) n cap ∧ TermsAt w g 0 n p c) (hn : n ≤ 30) :
    Calls Tryz.prog 69 #[.agg #[.int .i64 den, sv]] w fun e w' => e = .returned (shapeErr ok a) ∧ Below w.heap.size w w' := by
  rcases hs with ⟨rfl, rfl⟩ | ⟨g, cap, rfl, ht⟩
  · exact Valid_none den p c a ok hok w h
  · exact Valid_terms den g 0 n cap p c a ok hok w h ht (by omega)

theorem coded_shape (ok : Bool) (a : Nat → Addr) (w : World) (h : Errs w a) :
    Calls Tryz.prog 19 #[shapeErr ok a, .int .i64 (shapeCode ok)] w fun e w' => e = .returned (.bool true) ∧ Below w.heap.size w w' := by
  cases ok
  · have := coded_err a 2 (by decide) 3 w h
    exact this
  · exact (coded_nil 0 w).mono fun e w' ⟨he, hw⟩ => ⟨he, by rw [hw]; exact Below.refl _ _⟩

theorem below_chain {w0 W W' : World} (h : Below w0.heap.size w0 W) (hb : Below W.heap.size W W') : Below w0.heap.size w0 W' := h.trans (hb.mono h.size)

theorem own_later {w w' : World} {sv : Value} {n : Nat} {p c : Nat → Int} (h : (sv = .slice none 0 0 ∧ n = 0) ∨ ∃ g cap, sv = .slice (some ⟨g, 0, none⟩) n cap ∧ TermsAt w g 0 n p c) (hb : Below w.heap.size w w') : (sv = .slice none 0 0 ∧ n = 0) ∨ ∃ g cap, sv = .slice (some ⟨g, 0, none⟩) n cap ∧ TermsAt w' g 0 n p c := by
  rcases h with h | ⟨g, cap, h1, h2⟩
  · exact Or.inl h
  · exact Or.inr ⟨g, cap, h1, h2.later hb⟩

/-- What stays, whatever is called, from a world on: the errors, the logarithm, its box. -/
structure Stays (w0 : World) (a : Nat → Addr) (den : Int) (sv : Value) (n : Nat) (p c : Nat → Int) (B : Nat) (W : World) : Prop where
  errs : Errs W a
  log : LogAt W sv n p c
  c0 : W.cell? ⟨B, 0, none⟩ = some (.int .i64 den)
  c1 : W.cell? ⟨B, 1, none⟩ = some sv

theorem Stays.of {w0 W : World} {a : Nat → Addr} {den : Int} {sv : Value} {n : Nat} {p c : Nat → Int} {B : Nat} (h : Stays w0 a den sv n p c B w0) (hb : Below w0.heap.size w0 W) : Stays w0 a den sv n p c B W :=
  ⟨h.errs.below hb, h.log.later hb, by rw [hb.cell (cell_lt h.c0)]; exact h.c0, by rw [hb.cell (cell_lt h.c1)]; exact h.c1⟩

end Go.Proofs.YtklhfagcembigaaGreatDoor
