/- logs.Valid and the document's LogError: both by one sentence on the terms. -/
import Derived.Test.YtiegobkbinojeaaDoorErrs
import Derived.Test.YtiegobkbinojeaaDoorNums
namespace Go.Proofs.YtiegobkbinojeaaDoor
open Go.RowKit

/-- A term in bounds: its prime is one. -/
def TermOk (p c : Int) : Prop := p ≤ 1000000 ∧ c ≠ 0 ∧ -1099511627776 ≤ c ∧ c ≤ 1099511627776 ∧ 2 ≤ p ∧ Pr p.toNat
def lastP (p : Nat → Int) : Nat → Int
  | 0 => 1
  | k + 1 => p k
def gcdTo (den : Int) (c : Nat → Int) : Nat → Nat
  | 0 => den.natAbs
  | k + 1 => Int.gcd (gcdTo den c k : Int) (c k)
def OkTo (p c : Nat → Int) (k : Nat) : Prop := ∀ i, i < k → lastP p i < p i ∧ TermOk (p i) (c i)
/-- In form. -/
def OkLog (den : Int) (n : Nat) (p c : Nat → Int) : Prop := 1 ≤ den ∧ den ≤ 1000000 ∧ OkTo p c n ∧ gcdTo den c n = 1
/-- The terms' cells. -/
def TermsAt (w : World) (b o n : Nat) (p c : Nat → Int) : Prop := ∀ i, i < n → w.cell? ⟨b, o + i * 2, none⟩ = some (.int .i64 (p i)) ∧ w.cell? ⟨b, o + i * 2 + 1, none⟩ = some (.int .i64 (c i))
def shapeErr (ok : Bool) (a : Nat → Addr) : Value := match ok with
  | true => .nilIface
  | false => .iface 149 (.pointer (some (a 2)))
def shapeCode (ok : Bool) : Int := match ok with
  | true => 0
  | false => 3

theorem not_true_of {b : Bool} {P : Prop} (h : b = true ↔ P) (hn : ¬ P) : b = false := by
  cases b
  · rfl
  · exact absurd (h.1 rfl) hn

theorem gcdTo_pos (den : Int) (c : Nat → Int) (h : 1 ≤ den) : ∀ k, 1 ≤ gcdTo den c k ∧ gcdTo den c k ≤ den.natAbs
  | 0 => ⟨by show 1 ≤ den.natAbs; omega, Nat.le_refl _⟩
  | k + 1 => by
    obtain ⟨h1, h2⟩ := gcdTo_pos den c h k
    show 1 ≤ Int.gcd (gcdTo den c k : Int) (c k) ∧ Int.gcd (gcdTo den c k : Int) (c k) ≤ _
    have h3 : Int.gcd (gcdTo den c k : Int) (c k) ≤ gcdTo den c k := Nat.gcd_le_left _ (by simp; omega)
    have h4 : 0 < Int.gcd (gcdTo den c k : Int) (c k) := Nat.gcd_pos_of_pos_left _ (by simp; omega)
    omega

theorem lastP_ge {p c : Nat → Int} : ∀ k, OkTo p c k → 1 ≤ lastP p k
  | 0, _ => by show (1 : Int) ≤ 1; omega
  | k + 1, h => by have := (h k (by omega)).2.2.2.2.2.1; show 1 ≤ p k; omega
theorem lastP_le {p c : Nat → Int} : ∀ k, OkTo p c k → lastP p k ≤ 1000000
  | 0, _ => by show (1 : Int) ≤ 1000000; omega
  | k + 1, h => (h k (by omega)).2.1
theorem OkTo.succ {p c : Nat → Int} {k : Nat} (h : OkTo p c k) (h1 : lastP p k < p k) (h2 : TermOk (p k) (c k)) : OkTo p c (k + 1) := fun i hi => by
  rcases Nat.lt_or_ge i k with h' | h'
  · exact h i h'
  · obtain rfl : i = k := by omega
    exact ⟨h1, h2⟩

/-- The error's cell, behind a new block and behind what a call has made. -/
theorem shape_later {w wr : World} {a : Nat → Addr} (h : Errs w a) (hb : Below w.heap.size w wr) : wr.cell? ⟨1, 0, none⟩ = some (.iface 149 (.pointer (some (a 2)))) := (h.below hb).c2

theorem OkLog_none (den : Int) (p c : Nat → Int) : OkLog den 0 p c ↔ den = 1 :=
  ⟨fun h => by have h1 := h.1; have h2 : den.natAbs = 1 := h.2.2.2; omega, fun h => ⟨by omega, by omega, fun i hi => by omega, by show den.natAbs = 1; omega⟩⟩

end Go.Proofs.YtiegobkbinojeaaDoor
