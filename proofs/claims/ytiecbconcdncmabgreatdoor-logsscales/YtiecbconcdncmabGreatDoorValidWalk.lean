/- demonlaw1.LogsValid walked. -/
import Derived.Test.YtiecbconcdncmabGreatDoorSame
import Derived.Test.YtiecbconcdncmabGreatDoorCode
import Derived.Deep.RegionHeld3
import Derived.Deep.RegionWith
namespace Go.Proofs.YtiecbconcdncmabGreatDoor
open Go.RowKit Go.Maps

/-- A logarithm as a value: its slice has n terms. -/
def LogAt (w : World) (sv : Value) (n : Nat) (p c : Nat → Int) : Prop := (∃ ad cap, sv = .slice ad 0 cap ∧ n = 0) ∨ ∃ b o cap, sv = .slice (some ⟨b, o, none⟩) n cap ∧ 0 < n ∧ TermsAt w b o n p c

theorem LogAt.later {w w' : World} {sv : Value} {n : Nat} {p c : Nat → Int} (h : LogAt w sv n p c) (hb : Below w.heap.size w w') : LogAt w' sv n p c := by
  rcases h with h | ⟨b, o, cap, h1, h2, h3⟩
  · exact Or.inl h
  · exact Or.inr ⟨b, o, cap, h1, h2, h3.later hb⟩

set_option maxHeartbeats 1000000 in
theorem LogError_zero (den : Int) (ad : Option Addr) (cap : Nat) (ok : Bool) (p c : Nat → Int) (hok : ok = true ↔ OkLog den 0 p c) (w : World) :
    Calls Tryz.prog 8 #[.agg #[.int .i64 den, .slice ad 0 cap]] w fun e w' => e = .returned (.int .i64 (shapeCode ok)) ∧ Below w.heap.size w w' := by
  have HOK : Hid (ok = true ↔ den = 1) := hok.trans (OkLog_none den p c)
  clear hok
  by_cases h1 : 1 ≤ den
  · by_cases h2 : den ≤ 1000000
    · by_cases h3 : den = 1
      · have hbt : ok = true := HOK.out.2 h3
        subst hbt
        subst h3
        go_enter Tryz.func8, Tryz.ntmps8
        go_wp2_with fail
        refine wp_loop_rounds 1 ?_
        rw [rounds_succ]
        go_wp2_with fail
        go_ret
        exact ⟨rfl, (Below.refl _ _).alloc (Nat.le_refl _) _⟩
      · have hbf : ok = false := not_true_of HOK.out h3
        subst hbf
        have hgb : 1 < den := by omega
        clear h3
        go_enter Tryz.func8, Tryz.ntmps8
        go_wp2_with fail
        refine wp_loop_rounds 1 ?_
        rw [rounds_succ]
        go_wp2_with fail
        go_ret
        exact ⟨rfl, (Below.refl _ _).alloc (Nat.le_refl _) _⟩
    · have hbf : ok = false := not_true_of HOK.out (fun h => h2 (by omega))
      subst hbf
      go_enter Tryz.func8, Tryz.ntmps8
      go_wp2_with fail
      go_ret
      exact ⟨rfl, (Below.refl _ _).alloc (Nat.le_refl _) _⟩
  · have hbf : ok = false := not_true_of HOK.out (fun h => h1 (by omega))
    subst hbf
    go_enter Tryz.func8, Tryz.ntmps8
    go_wp2_with fail
    go_ret
    exact ⟨rfl, (Below.refl _ _).alloc (Nat.le_refl _) _⟩

theorem LogError_at (den : Int) (sv : Value) (n : Nat) (ok : Bool) (p c : Nat → Int) (hok : ok = true ↔ OkLog den n p c) (w : World) (h : LogAt w sv n p c) (hn : n ≤ 30) :
    Calls Tryz.prog 8 #[.agg #[.int .i64 den, sv]] w fun e w' => e = .returned (.int .i64 (shapeCode ok)) ∧ Below w.heap.size w w' := by
  rcases h with ⟨ad, cap, rfl, rfl⟩ | ⟨b, o, cap, rfl, h0, ht⟩
  · exact LogError_zero den ad cap ok p c hok w
  · exact LogError_terms den b o n cap p c ok hok w ht (by omega)

theorem own_at (den : Int) (sv : Value) (n : Nat) (p c : Nat → Int) (w : World) (h : LogAt w sv n p c) (hn : n ≤ 30) :
    Calls Tryz.prog 12 #[.agg #[.int .i64 den, sv]] w fun e w' => ∃ sv', e = .returned (.agg #[.int .i64 den, sv']) ∧ ((sv' = .slice none 0 0 ∧ n = 0) ∨ ∃ g cap, sv' = .slice (some ⟨g, 0, none⟩) n cap ∧ TermsAt w' g 0 n p c) ∧ Below w.heap.size w w' := by
  rcases h with ⟨ad, cap, rfl, rfl⟩ | ⟨b, o, cap, rfl, h0, ht⟩
  · exact (own_none den ad cap w).mono fun e w' ⟨he, hb⟩ => ⟨_, he, Or.inl ⟨rfl, rfl⟩, hb⟩
  · exact (own_some den b o n cap p c w ht h0 hn).mono fun e w' ⟨g, cap', he, hT, hb⟩ => ⟨_, he, Or.inr ⟨g, cap', rfl, hT⟩, hb⟩

/-- The copy's own value, in whatever later world. -/
theorem Valid_at (den : Int) (sv : Value) (n : Nat) (p c : Nat → Int) (a : Nat → Addr) (ok : Bool) (hok : ok = true ↔ OkLog den n p c) (w : World) (h : Errs w a) (hs : (sv = .slice none 0 0 ∧ n = 0) ∨ ∃ g cap, sv = .slice (some ⟨g, 0, none⟩) n cap ∧ TermsAt w g 0 n p c) (hn : n ≤ 30) :
    Calls Tryz.prog 25 #[.agg #[.int .i64 den, sv]] w fun e w' => e = .returned (shapeErr ok a) ∧ Below w.heap.size w w' := by
  rcases hs with ⟨rfl, rfl⟩ | ⟨g, cap, rfl, ht⟩
  · exact Valid_none den p c a ok hok w h
  · exact Valid_terms den g 0 n cap p c a ok hok w h ht (by omega)

theorem coded_shape (ok : Bool) (a : Nat → Addr) (w : World) (h : Errs w a) :
    Calls Tryz.prog 30 #[shapeErr ok a, .int .i64 (shapeCode ok)] w fun e w' => e = .returned (.bool true) ∧ Below w.heap.size w w' := by
  cases ok
  · have := coded_err a 2 (by decide) 3 w h
    exact this
  · exact (coded_nil 0 w).mono fun e w' ⟨he, hw⟩ => ⟨he, by rw [hw]; exact Below.refl _ _⟩

theorem below_chain {w0 W W' : World} (h : Below w0.heap.size w0 W) (hb : Below W.heap.size W W') : Below w0.heap.size w0 W' := h.trans (hb.mono h.size)

theorem own_later {w w' : World} {sv : Value} {n : Nat} {p c : Nat → Int} (h : (sv = .slice none 0 0 ∧ n = 0) ∨ ∃ g cap, sv = .slice (some ⟨g, 0, none⟩) n cap ∧ TermsAt w g 0 n p c) (hb : Below w.heap.size w w') : (sv = .slice none 0 0 ∧ n = 0) ∨ ∃ g cap, sv = .slice (some ⟨g, 0, none⟩) n cap ∧ TermsAt w' g 0 n p c := by
  rcases h with h | ⟨g, cap, h1, h2⟩
  · exact Or.inl h
  · exact Or.inr ⟨g, cap, h1, h2.later hb⟩

/-- What stays, whatever is called, from a world on: the errors, the logarithm, its box. -/
structure Stays (w0 : World) (a : Nat → Addr) (den : Int) (sv : Value) (n : Nat) (p c : Nat → Int) (B : Nat) (W : World) : Prop where
  errs : Errs W a
  log : LogAt W sv n p c
  c0 : W.cell? ⟨B, 0, none⟩ = some (.int .i64 den)
  c1 : W.cell? ⟨B, 1, none⟩ = some sv

theorem Stays.of {w0 W : World} {a : Nat → Addr} {den : Int} {sv : Value} {n : Nat} {p c : Nat → Int} {B : Nat} (h : Stays w0 a den sv n p c B w0) (hb : Below w0.heap.size w0 W) : Stays w0 a den sv n p c B W :=
  ⟨h.errs.below hb, h.log.later hb, by rw [hb.cell (cell_lt h.c0)]; exact h.c0, by rw [hb.cell (cell_lt h.c1)]; exact h.c1⟩

end Go.Proofs.YtiecbconcdncmabGreatDoor
