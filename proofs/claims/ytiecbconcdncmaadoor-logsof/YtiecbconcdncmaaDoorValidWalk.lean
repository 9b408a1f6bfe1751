/- demonlaw1.LogsValid walked. -/
import Derived.Test.YtiecbconcdncmaaDoorSame
import Derived.Test.YtiecbconcdncmaaDoorCode
import Derived.Deep.RegionHeld3
import Derived.Deep.RegionWith
namespace Go.Proofs.YtiecbconcdncmaaDoor
open Go.RowKit Go.Maps

/-- A logarithm as a value: its slice has n terms. -/
def LogAt (w : World) (sv : Value) (n : Nat) (p c : Nat → Int) : Prop := (∃ ad cap, sv = .slice ad 0 cap ∧ n = 0) ∨ ∃ b o cap, sv = .slice (some ⟨b, o, none⟩) n cap ∧ 0 < n ∧ TermsAt w b o n p c

theorem LogAt.later {w w' : World} {sv : Value} {n : Nat} {p c : Nat → Int} (h : LogAt w sv n p c) (hb : Below w.heap.size w w') : LogAt w' sv n p c := by
  rcases h with h | ⟨b, o, cap, h1, h2, h3⟩
  · exact Or.inl h
  · exact Or.inr ⟨b, o, cap, h1, h2, h3.later hb⟩

set_option maxHeartbeats 1000000 in
theorem LogError_zero (den : Int) (ad : Option Addr) (cap : Nat) (ok : Bool) (p c : Nat → Int) (hok : ok = true ↔ OkLog den 0 p c) (w : World) :
    Calls Tryd.prog 16 #[.agg #[.int .i64 den, .slice ad 0 cap]] w fun e w' => e = .returned (.int .i64 (shapeCode ok)) ∧ Below w.heap.size w w' := by
  have HOK : Hid (ok = true ↔ den = 1) := hok.trans (OkLog_none den p c)
  clear hok
  by_cases h1 : 1 ≤ den
  · by_cases h2 : den ≤ 1000000
    · by_cases h3 : den = 1
      · have hbt : ok = true := HOK.out.2 h3
        subst hbt
        subst h3
        go_enter Tryd.func16, Tryd.ntmps16
        go_wp2_with fail
        refine wp_loop_rounds 1 ?_
        rw [rounds_succ]
        go_wp2_with fail
        go_ret
        exact ⟨rfl, (Below.refl _ _).alloc (Nat.le_refl _) _⟩
      · have hbf : ok = false := not_true_of HOK.out h3
        subst hbf
        have hgb : 1 < den := by omega
        clear h3
        go_enter Tryd.func16, Tryd.ntmps16
        go_wp2_with fail
        refine wp_loop_rounds 1 ?_
        rw [rounds_succ]
        go_wp2_with fail
        go_ret
        exact ⟨rfl, (Below.refl _ _).alloc (Nat.le_refl _) _⟩
    · have hbf : ok = false := not_true_of HOK.out (fun h => h2 (by omega))
      subst hbf
      go_enter Tryd.func16, Tryd.ntmps16
      go_wp2_with fail
      go_ret
      exact ⟨rfl, (Below.refl _ _).alloc (Nat.le_refl _) _⟩
  · have hbf : ok = false := not_true_of HOK.out (fun h => h1 (by omega))
    subst hbf
    go_enter Tryd.func16, Tryd.ntmps16
    go_wp2_with fail
    go_ret
    exact ⟨rfl, (Below.refl _ _).alloc (Nat.le_refl _) _⟩

theorem LogError_at (den : Int) (sv : Value) (n : Nat) (ok : Bool) (p c : Nat → Int) (hok : ok = true ↔ OkLog den n p c) (w : World) (h : LogAt w sv n p c) (hn : n ≤ 30) :
    Calls Tryd.prog 16 #[.agg #[.int .i64 den, sv]] w fun e w' => e = .returned (.int .i64 (shapeCode ok)) ∧ Below w.heap.size w w' := by
  rcases h with ⟨ad, cap, rfl, rfl⟩ | ⟨b, o, cap, rfl, h0, ht⟩
  · exact LogError_zero den ad cap ok p c hok w
  · exact LogError_terms den b o n cap p c ok hok w ht (by omega)

theorem own_at (den : Int) (sv : Value) (n : Nat) (p c : Nat → Int) (w : World) (h : LogAt w sv n p c) (hn : n ≤ 30) :
    Calls Tryd.prog 15 #[.agg #[.int .i64 den, sv]] w fun e w' => ∃ sv', e = .returned (.agg #[.int .i64 den, sv']) ∧ ((sv' = .slice none 0 0 ∧ n = 0) ∨ ∃ g cap, sv' = .slice (some ⟨g, 0, none⟩) n cap ∧ TermsAt w' g 0 n p c) ∧ Below w.heap.size w w' := by
  rcases h with ⟨ad, cap, rfl, rfl⟩ | ⟨b, o, cap, rfl, h0, ht⟩
  · exact (own_none den ad cap w).mono fun e w' ⟨he, hb⟩ => ⟨_, he, Or.inl ⟨rfl, rfl⟩, hb⟩
  · exact (own_some den b o n cap p c w ht h0 hn).mono fun e w' ⟨g, cap', he, hT, hb⟩ => ⟨_, he, Or.inr ⟨g, cap', rfl, hT⟩, hb⟩

/-- The copy's own value, in whatever later world. -/
theorem Valid_at (den : Int) (sv : Value) (n : Nat) (p c : Nat → Int) (a : Nat → Addr) (ok : Bool) (hok : ok = true ↔ OkLog den n p c) (w : World) (h : Errs w a) (hs : (sv = .slice none 0 0 ∧ n = 0) ∨ ∃ g cap, sv = .slice (some ⟨g, 0, none⟩) n cap ∧ TermsAt w g 0 n p c) (hn : n ≤ 30) :
    Calls Tryd.prog 14 #[.agg #[.int .i64 den, sv]] w fun e w' => e = .returned (shapeErr ok a) ∧ Below w.heap.size w w' := by
  rcases hs with ⟨rfl, rfl⟩ | ⟨g, cap, rfl, ht⟩
  · exact Valid_none den p c a ok hok w h
  · exact Valid_terms den g 0 n cap p c a ok hok w h ht (by omega)

theorem coded_shape (ok : Bool) (a : Nat → Addr) (w : World) (h : Errs w a) :
    Calls Tryd.prog 10 #[shapeErr ok a, .int .i64 (shapeCode ok)] w fun e w' => e = .returned (.bool true) ∧ Below w.heap.size w w' := by
  cases ok
  · have := coded_err a 2 (by decide) 3 w h
    exact this
  · exact (coded_nil 0 w).mono fun e w' ⟨he, hw⟩ => ⟨he, by rw [hw]; exact Below.refl _ _⟩

theorem below_chain {w0 W W' : World} (h : Below w0.heap.size w0 W) (hb : Below W.heap.size W W') : Below w0.heap.size w0 W' := h.trans (hb.mono h.size)

theorem own_later {w w' : World} {sv : Value} {n : Nat} {p c : Nat → Int} (h : (sv = .slice none 0 0 ∧ n = 0) ∨ ∃ g cap, sv = .slice (some ⟨g, 0, none⟩) n cap ∧ TermsAt w g 0 n p c) (hb : Below w.heap.size w w') : (sv = .slice none 0 0 ∧ n = 0) ∨ ∃ g cap, sv = .slice (some ⟨g, 0, none⟩) n cap ∧ TermsAt w' g 0 n p c := by
  rcases h with h | ⟨g, cap, h1, h2⟩
  · exact Or.inl h
  · exact Or.inr ⟨g, cap, h1, h2.later hb⟩

/-- What stays, whatever is called, from a world on: the errors, the logarithm, its box. -/
structure Stays (w0 : World) (a : Nat → Addr) (den : Int) (sv : Value) (n : Nat) (p c : Nat → Int) (B : Nat) (W : World) : Prop where
  errs : Errs W a
  log : LogAt W sv n p c
  c0 : W.cell? ⟨B, 0, none⟩ = some (.int .i64 den)
  c1 : W.cell? ⟨B, 1, none⟩ = some sv

theorem Stays.of {w0 W : World} {a : Nat → Addr} {den : Int} {sv : Value} {n : Nat} {p c : Nat → Int} {B : Nat} (h : Stays w0 a den sv n p c B w0) (hb : Below w0.heap.size w0 W) : Stays w0 a den sv n p c B W :=
  ⟨h.errs.below hb, h.log.later hb, by rw [hb.cell (cell_lt h.c0)]; exact h.c0, by rw [hb.cell (cell_lt h.c1)]; exact h.c1⟩

set_option maxRecDepth 10000 in
set_option maxHeartbeats 2000000 in
theorem LogsValid_short (den : Int) (ad : Option Addr) (n cap : Nat) (p c : Nat → Int) (a : Nat → Addr) (w : World) (h : Errs w a) (hl : LogAt w (.slice ad n cap) n p c) (hn : n ≤ 30) :
    Calls Tryd.prog 4 #[.agg #[.int .i64 den, .slice ad n cap]] w fun e w' => e = .returned (.bool true) ∧ Below w.heap.size w w' := by
  obtain ⟨ok, hok⟩ : ∃ ok : Bool, ok = true ↔ OkLog den n p c := by
    by_cases h : OkLog den n p c
    · exact ⟨true, ⟨fun _ => h, fun _ => rfl⟩⟩
    · exact ⟨false, ⟨(fun e => by cases e), (fun e => absurd e h)⟩⟩
  have HOK := Hid.mk' hok
  clear hok
  have hb0 : Below w.heap.size w (w.alloc (.cells #[.int .i64 den, .slice ad n cap] 39)) := (Below.refl _ _).alloc (Nat.le_refl _) _
  have hst : Stays (w.alloc (.cells #[.int .i64 den, .slice ad n cap] 39)) a den (.slice ad n cap) n p c w.heap.size (w.alloc (.cells #[.int .i64 den, .slice ad n cap] 39)) := ⟨h.below hb0, hl.later hb0, by simp, by simp⟩
  have hE := eighth_any (w.alloc (.cells #[.int .i64 den, .slice ad n cap] 39))
  have HS := Hid.mk' hst
  have HB0 := Hid.mk' hb0
  clear h hl hst hb0
  go_enter Tryd.func4, Tryd.ntmps4
  go_wp2_with fail
  refine hE.mono ?_
  clear hE
  rintro e w1 ⟨rfl, hb1⟩
  have S1 := HS.out.of hb1
  have c0 := S1.c0
  have c1 := S1.c1
  have HB1 := Hid.mk' (below_chain HB0.out hb1)
  have hsh := short_any den ad n cap true (by simpa using hn) (by unfold maxLen; omega) w1
  have HS1 : Hid (Stays w1 a den (.slice ad n cap) n p c w.heap.size w1) := ⟨S1.errs, S1.log, S1.c0, S1.c1⟩
  clear S1 HS HB0 hb1
  go_wp2_with fail
  refine hsh.mono ?_
  clear hsh c0 c1
  rintro e w2 ⟨rfl, hb2⟩
  have S2 := HS1.out.of hb2
  have HB2 := Hid.mk' (below_chain HB1.out hb2)
  have HK : Hid (∀ W, Below w2.heap.size w2 W → Stays w2 a den (.slice ad n cap) n p c w.heap.size W) := fun W hb => Stays.of (w0 := w2) ⟨S2.errs, S2.log, S2.c0, S2.c1⟩ hb
  have hcur : Below w2.heap.size w2 w2.drew := (Below.refl _ _).drew
  have hcur0 : Below w2.heap.size w2 w2 := Below.refl _ _
  clear S2 HS1 HB1 hb2
  go_wp2_with fail
  go_region_held3 (fun W => W.cell? ⟨w.heap.size, 0, none⟩ = some (.int .i64 den) ∧ W.cell? ⟨w.heap.size, 1, none⟩ = some (.slice ad n cap))
    (exact ⟨(HK.out _ (by assumption)).c0, (HK.out _ (by assumption)).c1⟩)
    (first
      | (go_at_call 15; refine (own_at den _ n p c _ ?_ hn).mono ?_; exact (HK.out _ (by assumption)).log; rintro e w3 ⟨sv', rfl, hsO, hbO⟩; have hcO := below_chain (by assumption) hbO)
      | (go_at_call 14; refine (Valid_at den _ n p c a ok HOK.out _ ?_ ?_ hn).mono ?_; exact (HK.out _ (by assumption)).errs; (first | exact hsO | exact own_later hsO hbL); rintro e w4 ⟨rfl, hbV⟩; have hcV := below_chain (by assumption) hbV)
      | (go_at_call 16; refine (LogError_at den _ n ok p c HOK.out _ ?_ hn).mono ?_; exact (HK.out _ (by assumption)).log; rintro e w5 ⟨rfl, hbL⟩; have hcL := below_chain (by assumption) hbL)
      | (go_at_call 10; refine (coded_shape ok a _ ?_).mono ?_; exact (HK.out _ (by assumption)).errs; rintro e w6 ⟨rfl, hbC⟩; have hcC := below_chain (by assumption) hbC))
  go_wp2_with fail
  go_ret
  exact ⟨rfl, below_chain HB2.out (by assumption)⟩

set_option maxRecDepth 10000 in
set_option maxHeartbeats 2000000 in
theorem LogsValid_long (den : Int) (ad : Option Addr) (n cap : Nat) (w : World) (hn : ¬ n ≤ 30) (hm : n ≤ maxLen) :
    Calls Tryd.prog 4 #[.agg #[.int .i64 den, .slice ad n cap]] w fun e w' => e = .returned (.bool true) ∧ Below w.heap.size w w' := by
  have hb0 : Below w.heap.size w (w.alloc (.cells #[.int .i64 den, .slice ad n cap] 39)) := (Below.refl _ _).alloc (Nat.le_refl _) _
  have hE := eighth_any (w.alloc (.cells #[.int .i64 den, .slice ad n cap] 39))
  have HB0 := Hid.mk' hb0
  clear hb0
  go_enter Tryd.func4, Tryd.ntmps4
  go_wp2_with fail
  refine hE.mono ?_
  clear hE
  rintro e w1 ⟨rfl, hb1⟩
  have c0 := hb1.cell (p := ⟨w.heap.size, 0, none⟩) (by simp)
  have c1 := hb1.cell (p := ⟨w.heap.size, 1, none⟩) (by simp)
  simp at c0 c1
  have HB1 := Hid.mk' (below_chain HB0.out hb1)
  have hsh := short_any den ad n cap false (by simpa using hn) hm w1
  clear HB0 hb1
  go_wp2_with fail
  refine hsh.mono ?_
  clear hsh c0 c1
  rintro e w2 ⟨rfl, hb2⟩
  go_wp2_with fail
  go_ret
  exact ⟨rfl, below_chain HB1.out hb2⟩
end Go.Proofs.YtiecbconcdncmaaDoor
