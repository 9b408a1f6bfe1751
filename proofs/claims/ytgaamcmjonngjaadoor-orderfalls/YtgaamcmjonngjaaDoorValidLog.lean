/- logs.Valid at any logarithm. -/
import Derived.Test.YtgaamcmjonngjaaDoorValidWalk
namespace Go.Proofs.YtgaamcmjonngjaaDoor
open Go.RowKit

set_option maxHeartbeats 1000000 in
/-- Valid at a slice without terms, wherever it lies. -/
theorem Valid_zero (den : Int) (ad : Option Addr) (cap : Nat) (p c : Nat → Int) (a : Nat → Addr) (ok : Bool) (hok : ok = true ↔ OkLog den 0 p c) (w : World) (h : Errs w a) :
    Calls Tryd.prog 79 #[.agg #[.int .i64 den, .slice ad 0 cap]] w fun e w' => e = .returned (shapeErr ok a) ∧ Below w.heap.size w w' := by
  have HOK : Hid (ok = true ↔ den = 1) := hok.trans (OkLog_none den p c)
  have HE : Hid (Errs w a) := h
  clear hok h
  have hal : ∀ X, (w.alloc X).cell? ⟨1, 0, none⟩ = some (.iface 227 (.pointer (some (a 2)))) := fun X => shape_later HE.out ((Below.refl _ _).alloc (Nat.le_refl _) _)
  by_cases h1 : 1 ≤ den
  · by_cases h2 : den ≤ 1000000
    · by_cases h3 : den = 1
      · have hbt : ok = true := HOK.out.2 h3
        subst hbt
        subst h3
        go_enter Tryd.func79, Tryd.ntmps79
        go_wp2_with fail
        refine wp_loop_rounds 1 ?_
        rw [rounds_succ]
        go_wp2_with fail
        go_ret
        exact ⟨rfl, (Below.refl _ _).alloc (Nat.le_refl _) _⟩
      · have hbf : ok = false := not_true_of HOK.out h3
        subst hbf
        have hgb : (den != 1) = true := by simp [h3]
        clear h3
        go_enter Tryd.func79, Tryd.ntmps79
        go_wp2_with fail
        refine wp_loop_rounds 1 ?_
        rw [rounds_succ]
        go_wp2_with fail
        go_ret
        exact ⟨rfl, (Below.refl _ _).alloc (Nat.le_refl _) _⟩
    · have hbf : ok = false := not_true_of HOK.out (fun h => h2 (by omega))
      subst hbf
      go_enter Tryd.func79, Tryd.ntmps79
      go_wp2_with fail
      go_ret
      exact ⟨rfl, (Below.refl _ _).alloc (Nat.le_refl _) _⟩
  · have hbf : ok = false := not_true_of HOK.out (fun h => h1 (by omega))
    subst hbf
    go_enter Tryd.func79, Tryd.ntmps79
    go_wp2_with fail
    go_ret
    exact ⟨rfl, (Below.refl _ _).alloc (Nat.le_refl _) _⟩
theorem Valid_log (den : Int) (sv : Value) (n : Nat) (p c : Nat → Int) (a : Nat → Addr) (ok : Bool) (hok : ok = true ↔ OkLog den n p c) (w : World) (h : Errs w a) (hs : LogAt w sv n p c) (hn : n ≤ 1000000) :
    Calls Tryd.prog 79 #[.agg #[.int .i64 den, sv]] w fun e w' => e = .returned (shapeErr ok a) ∧ Below w.heap.size w w' := by
  rcases hs with ⟨ad, cap, rfl, rfl⟩ | ⟨b, o, cap, rfl, h0, ht⟩
  · exact Valid_zero den ad cap p c a ok hok w h
  · exact Valid_terms den b o n cap p c a ok hok w h ht hn
theorem LogAt.slice {w : World} {sv : Value} {n : Nat} {p c : Nat → Int} (h : LogAt w sv n p c) : ∃ ad cap, sv = .slice ad n cap := by
  rcases h with ⟨ad, cap, rfl, rfl⟩ | ⟨b, o, cap, rfl, _⟩
  · exact ⟨_, _, rfl⟩
  · exact ⟨_, _, rfl⟩
end Go.Proofs.YtgaamcmjonngjaaDoor
