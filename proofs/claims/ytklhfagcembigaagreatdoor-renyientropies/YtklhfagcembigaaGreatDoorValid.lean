/- logs.Valid and the document's LogError: both by one sentence on the terms. -/
import Derived.Test.YtklhfagcembigaaGreatDoorErrs
import Derived.Test.YtklhfagcembigaaGreatDoorNums
namespace Go.Proofs.YtklhfagcembigaaGreatDoor
open Go.RowKit

/-- A term in bounds: its prime is one. -/
def TermOk (p c : Int) : Prop := p ≤ 1000000 ∧ c ≠ 0 ∧ -1099511627776 ≤ c ∧ c ≤ 1099511627776 ∧ 2 ≤ p ∧ Pr p.toNat
def lastP (p : Nat → Int) : Nat → Int
  | 0 => 1
  | k + 1 => p k
def gcdTo (den : Int) (c : Nat → Int) : Nat → Nat
  | 0 => den.natAbs
  | k + 1 => Int.gcd (gcdTo den c k : Int) (c k)
def OkTo (p c : Nat → Int) (k : Nat) : Prop := ∀ i, i < k → lastP p i < p i ∧ TermOk (p i) (c i)
/-- In form. -/
def OkLog (den : Int) (n : Nat) (p c : Nat → Int) : Prop := 1 ≤ den ∧ den ≤ 1000000 ∧ OkTo p c n ∧ gcdTo den c n = 1
/-- The terms' cells. -/
def TermsAt (w : World) (b o n : Nat) (p c : Nat → Int) : Prop := ∀ i, i < n → w.cell? ⟨b, o + i * 2, none⟩ = some (.int .i64 (p i)) ∧ w.cell? ⟨b, o + i * 2 + 1, none⟩ = some (.int .i64 (c i))
def shapeErr (ok : Bool) (a : Nat → Addr) : Value := match ok with
  | true => .nilIface
  | false => .iface 183 (.pointer (some (a 2)))
def shapeCode (ok : Bool) : Int := match ok with
  | true => 0
  | false => 3

theorem not_true_of {b : Bool} {P : Prop} (h : b = true ↔ P) (hn : ¬ P) : b = false := by
  cases b
  · rfl
  · exact absurd (h.1 rfl) hn

set_option maxHeartbeats 400000 in
theorem validTerm_any (p c : Int) (b : Bool) (hb : b = true ↔ TermOk p c) (w : World) (h2 : 2 ≤ p) :
    Calls Tryz.prog 90 #[.agg #[.int .i64 p, .int .i64 c]] w fun e w' => e = .returned (.bool b) ∧ Below w.heap.size w w' := by
  have HB : Hid (b = true ↔ TermOk p c) := hb
  clear hb
  by_cases h1 : p ≤ 1000000
  · by_cases h0 : c = 0
    · have hbf : b = false := not_true_of HB.out (fun h => h.2.1 h0)
      subst hbf
      have e0 : (c != 0) = false := by simp [h0]
      clear h0
      go_enter Tryz.func90, Tryz.ntmps90
      go_wp2
      go_ret
      exact ⟨rfl, (Below.refl _ _).alloc (Nat.le_refl _) _⟩
    · have e0 : (c != 0) = true := by simp [h0]
      by_cases h3 : -1099511627776 ≤ c
      · by_cases h4 : c ≤ 1099511627776
        · obtain ⟨n, rfl⟩ := Int.eq_ofNat_of_zero_le (show 0 ≤ p by omega)
          have hp : b = true ↔ Pr n := HB.out.trans ⟨fun h => by simpa using h.2.2.2.2.2, fun h => ⟨h1, h0, h3, h4, h2, by simpa using h⟩⟩
          have hprime := fun w => Prime_in n b hp w (by omega) (by omega)
          clear h0 hp
          go_enter Tryz.func90, Tryz.ntmps90
          go_wp2_with (go_at_call 114; refine (hprime _).mono ?_; rintro e w' ⟨rfl, rfl⟩)
          go_ret
          exact ⟨rfl, (Below.refl _ _).alloc (Nat.le_refl _) _⟩
        · have hbf : b = false := not_true_of HB.out (fun h => h4 h.2.2.2.1)
          subst hbf
          clear h0
          go_enter Tryz.func90, Tryz.ntmps90
          go_wp2
          go_ret
          exact ⟨rfl, (Below.refl _ _).alloc (Nat.le_refl _) _⟩
      · have hbf : b = false := not_true_of HB.out (fun h => h3 h.2.2.1)
        subst hbf
        clear h0
        go_enter Tryz.func90, Tryz.ntmps90
        go_wp2
        go_ret
        exact ⟨rfl, (Below.refl _ _).alloc (Nat.le_refl _) _⟩
  · have hbf : b = false := not_true_of HB.out (fun h => h1 h.1)
    subst hbf
    go_enter Tryz.func90, Tryz.ntmps90
    go_wp2
    go_ret
    exact ⟨rfl, (Below.refl _ _).alloc (Nat.le_refl _) _⟩

theorem gcdTo_pos (den : Int) (c : Nat → Int) (h : 1 ≤ den) : ∀ k, 1 ≤ gcdTo den c k ∧ gcdTo den c k ≤ den.natAbs
  | 0 => ⟨by show 1 ≤ den.natAbs; omega, Nat.le_refl _⟩
  | k + 1 => by
    obtain ⟨h1, h2⟩ := gcdTo_pos den c h k
    show 1 ≤ Int.gcd (gcdTo den c k : Int) (c k) ∧ Int.gcd (gcdTo den c k : Int) (c k) ≤ _
    have h3 : Int.gcd (gcdTo den c k : Int) (c k) ≤ gcdTo den c k := Nat.gcd_le_left _ (by simp; omega)
    have h4 : 0 < Int.gcd (gcdTo den c k : Int) (c k) := Nat.gcd_pos_of_pos_left _ (by simp; omega)
    omega

theorem lastP_ge {p c : Nat → Int} : ∀ k, OkTo p c k → 1 ≤ lastP p k
  | 0, _ => by show (1 : Int) ≤ 1; omega
  | k + 1, h => by have := (h k (by omega)).2.2.2.2.2.1; show 1 ≤ p k; omega
theorem lastP_le {p c : Nat → Int} : ∀ k, OkTo p c k → lastP p k ≤ 1000000
  | 0, _ => by show (1 : Int) ≤ 1000000; omega
  | k + 1, h => (h k (by omega)).2.1
theorem OkTo.succ {p c : Nat → Int} {k : Nat} (h : OkTo p c k) (h1 : lastP p k < p k) (h2 : TermOk (p k) (c k)) : OkTo p c (k + 1) := fun i hi => by
  rcases Nat.lt_or_ge i k with h' | h'
  · exact h i h'
  · obtain rfl : i = k := by omega
    exact ⟨h1, h2⟩

/-- The error's cell, behind a new block and behind what a call has made. -/
theorem shape_later {w wr : World} {a : Nat → Addr} (h : Errs w a) (hb : Below w.heap.size w wr) : wr.cell? ⟨1, 0, none⟩ = some (.iface 183 (.pointer (some (a 2)))) := (h.below hb).c2

set_option maxHeartbeats 1000000 in
theorem Valid_terms (den : Int) (b o n cap : Nat) (p c : Nat → Int) (a : Nat → Addr) (ok : Bool) (hok : ok = true ↔ OkLog den n p c) (w : World) (h : Errs w a) (ht : TermsAt w b o n p c) (hn : n ≤ 1000000) :
    Calls Tryz.prog 69 #[.agg #[.int .i64 den, .slice (some ⟨b, o, none⟩) n cap]] w fun e w' => e = .returned (shapeErr ok a) ∧ Below w.heap.size w w' := by
  have HOK : Hid (ok = true ↔ OkLog den n p c) := hok
  have HT : Hid (TermsAt w b o n p c) := ht
  have HE : Hid (Errs w a) := h
  clear hok ht h
  have hal : ∀ X, (w.alloc X).cell? ⟨1, 0, none⟩ = some (.iface 183 (.pointer (some (a 2)))) := fun X => shape_later HE.out ((Below.refl _ _).alloc (Nat.le_refl _) _)
  by_cases h1 : 1 ≤ den
  · by_cases h2 : den ≤ 1000000
    · have HB0 : Hid (Below w.heap.size w (w.alloc (.cells #[.int .i64 den, .slice (some ⟨b, o, none⟩) n cap] 27))) := (Below.refl _ _).alloc (Nat.le_refl _) _
      go_enter Tryz.func69, Tryz.ntmps69
      go_wp2_with fail
      clear hal
      go_loopw [3, 4, 21] (fun s t i wr => ∃ k : Nat, k ≤ n ∧ s = .int .i64 (gcdTo den c k) ∧ t = .int .i64 (lastP p k) ∧ i = .int .i64 k ∧ Hid (OkTo p c k) ∧ Hid (Below w.heap.size w wr)) (fun _ _ i _ => n - (intOf i).toNat)
      case atStart => exact ⟨0, Nat.zero_le _, by show _ = Value.int IntKind.i64 ((den.natAbs : Nat) : Int); congr 1; omega, rfl, rfl, fun i hi => by omega, HB0.out⟩
      case round =>
        clear HB0
        obtain ⟨k, hk, rfl, rfl, rfl, HO, HW⟩ := hrel
        have hw : w.heap.size ≤ wr.heap.size := HW.out.size
        by_cases hlt : k < n
        · have hcl := HW.out.cell (cell_lt (HT.out k hlt).1)
          have hcr := HW.out.cell (cell_lt (HT.out k hlt).2)
          rw [(HT.out k hlt).1] at hcl
          rw [(HT.out k hlt).2] at hcr
          have hal : ∀ X, (wr.alloc X).cell? ⟨1, 0, none⟩ = some (.iface 183 (.pointer (some (a 2)))) := fun X => shape_later HE.out (HW.out.alloc HW.out.size _)
          by_cases hle : p k ≤ lastP p k
          · have hbf : ok = false := not_true_of HOK.out (fun h => by have := (h.2.2.1 k hlt).1; omega)
            subst hbf
            go_wp2_with fail
            go_ret
            exact ⟨rfl, HW.out.alloc HW.out.size _⟩
          · have hp2 : 2 ≤ p k := by have := lastP_ge k HO.out; omega
            have hlast := lastP_le k HO.out
            have HB1 : Hid (Below w.heap.size w (wr.alloc (.cells #[.int .i64 (p k), .int .i64 (c k)] 90))) := HW.out.alloc HW.out.size _
            by_cases hterm : TermOk (p k) (c k)
            · have hv := validTerm_any (p k) (c k) true ⟨fun _ => hterm, fun _ => rfl⟩ (wr.alloc (.cells #[.int .i64 (p k), .int .i64 (c k)] 90)) hp2
              go_wp2_with fail
              refine hv.mono ?_
              clear hv hal hcl hcr
              rintro e w2 ⟨rfl, hb2⟩
              have hc1 := hb2.cell (p := ⟨wr.heap.size, 0, none⟩) (by simp)
              have hc2 := hb2.cell (p := ⟨wr.heap.size, 1, none⟩) (by simp)
              simp at hc1 hc2
              have HW2 : Hid (Below w.heap.size w w2) := HB1.out.trans (hb2.mono (by simp; omega))
              have HT2 : Hid (TermOk (p k) (c k)) := hterm
              have hg1 := gcdTo_pos den c h1 k
              have hcc1 := hterm.2.2.1
              have hcc2 := hterm.2.2.2.1
              clear hterm hb2 HB1
              go_wp2_with fail
              go_quiet ((go_at_call 55; exact Calls.quiet_of (GCD_any _ _ _ (by omega) (by omega) (by omega) (by omega))))
              go_wp2_with fail
              exact ⟨⟨k + 1, by omega, rfl, rfl, by go_num, HO.out.succ (by omega) HT2.out, below_drewN HW2.out nq⟩, by simp [intOf]; omega⟩
            · have hbf : ok = false := not_true_of HOK.out (fun h => hterm (h.2.2.1 k hlt).2)
              subst hbf
              have hv := validTerm_any (p k) (c k) false ⟨(fun h => by cases h), (fun h => absurd h hterm)⟩ (wr.alloc (.cells #[.int .i64 (p k), .int .i64 (c k)] 90)) hp2
              clear hterm
              go_wp2_with fail
              refine hv.mono ?_
              clear hv hal hcl hcr
              rintro e w2 ⟨rfl, hb2⟩
              have HW2 : Hid (Below w.heap.size w w2) := HB1.out.trans (hb2.mono (by simp; omega))
              have hal := shape_later HE.out HW2.out
              clear hb2 HB1
              go_wp2_with fail
              go_ret
              exact ⟨rfl, HW2.out⟩
        · obtain rfl : k = n := by omega
          have hal := shape_later HE.out HW.out
          by_cases hg : gcdTo den c k = 1
          · have hbt : ok = true := HOK.out.2 ⟨h1, h2, HO.out, hg⟩
            subst hbt
            have hgb : ((gcdTo den c k : Int) != 1) = false := by simp [hg]
            clear hg
            go_wp2_with fail
            go_ret
            exact ⟨rfl, HW.out⟩
          · have hbf : ok = false := not_true_of HOK.out (fun h => hg h.2.2.2)
            subst hbf
            have hgb : ((gcdTo den c k : Int) != 1) = true := by simp; omega
            clear hg
            go_wp2_with fail
            go_ret
            exact ⟨rfl, HW.out⟩
    · have hbf : ok = false := not_true_of HOK.out (fun h => h2 h.2.1)
      subst hbf
      go_enter Tryz.func69, Tryz.ntmps69
      go_wp2_with fail
      go_ret
      exact ⟨rfl, (Below.refl _ _).alloc (Nat.le_refl _) _⟩
  · have hbf : ok = false := not_true_of HOK.out (fun h => h1 h.1)
    subst hbf
    go_enter Tryz.func69, Tryz.ntmps69
    go_wp2_with fail
    go_ret
    exact ⟨rfl, (Below.refl _ _).alloc (Nat.le_refl _) _⟩

theorem OkLog_none (den : Int) (p c : Nat → Int) : OkLog den 0 p c ↔ den = 1 :=
  ⟨fun h => by have h1 := h.1; have h2 : den.natAbs = 1 := h.2.2.2; omega, fun h => ⟨by omega, by omega, fun i hi => by omega, by show den.natAbs = 1; omega⟩⟩

set_option maxHeartbeats 1000000 in
/-- A slice that is nil. -/
theorem Valid_none (den : Int) (p c : Nat → Int) (a : Nat → Addr) (ok : Bool) (hok : ok = true ↔ OkLog den 0 p c) (w : World) (h : Errs w a) :
    Calls Tryz.prog 69 #[.agg #[.int .i64 den, .slice none 0 0]] w fun e w' => e = .returned (shapeErr ok a) ∧ Below w.heap.size w w' := by
  have HOK : Hid (ok = true ↔ den = 1) := hok.trans (OkLog_none den p c)
  have HE : Hid (Errs w a) := h
  clear hok h
  have hal : ∀ X, (w.alloc X).cell? ⟨1, 0, none⟩ = some (.iface 183 (.pointer (some (a 2)))) := fun X => shape_later HE.out ((Below.refl _ _).alloc (Nat.le_refl _) _)
  by_cases h1 : 1 ≤ den
  · by_cases h2 : den ≤ 1000000
    · by_cases h3 : den = 1
      · have hbt : ok = true := HOK.out.2 h3
        subst hbt
        subst h3
        go_enter Tryz.func69, Tryz.ntmps69
        go_wp2_with fail
        refine wp_loop_rounds 1 ?_
        rw [rounds_succ]
        go_wp2_with fail
        go_ret
        exact ⟨rfl, (Below.refl _ _).alloc (Nat.le_refl _) _⟩
      · have hbf : ok = false := not_true_of HOK.out h3
        subst hbf
        have hgb : (den != 1) = true := by simp [h3]
        clear h3
        go_enter Tryz.func69, Tryz.ntmps69
        go_wp2_with fail
        refine wp_loop_rounds 1 ?_
        rw [rounds_succ]
        go_wp2_with fail
        go_ret
        exact ⟨rfl, (Below.refl _ _).alloc (Nat.le_refl _) _⟩
    · have hbf : ok = false := not_true_of HOK.out (fun h => h2 (by omega))
      subst hbf
      go_enter Tryz.func69, Tryz.ntmps69
      go_wp2_with fail
      go_ret
      exact ⟨rfl, (Below.refl _ _).alloc (Nat.le_refl _) _⟩
  · have hbf : ok = false := not_true_of HOK.out (fun h => h1 (by omega))
    subst hbf
    go_enter Tryz.func69, Tryz.ntmps69
    go_wp2_with fail
    go_ret
    exact ⟨rfl, (Below.refl _ _).alloc (Nat.le_refl _) _⟩
end Go.Proofs.YtklhfagcembigaaGreatDoor
