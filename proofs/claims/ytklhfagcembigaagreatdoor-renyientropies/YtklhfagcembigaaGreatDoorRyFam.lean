/- Families of functions: the program's allBelow and Valid. -/
import Derived.Test.YtklhfagcembigaaGreatDoorTab
import Derived.Test.YtklhfagcembigaaGreatDoorTabCopy
import Derived.Test.YtklhfagcembigaaGreatDoorWeights
import Derived.BigQuiet
import Derived.Deep.CutRange
import Derived.Deep.DeepCutAuto
import Derived.Deep.RegionHeld3
import Derived.Deep.AppendLies
import Derived.Deep.QuietTactic
namespace Go.Proofs.YtklhfagcembigaaGreatDoor
open Go.RowKit

/-- Is there one of n? -/
def anyR (p : Nat → Bool) : Nat → Bool
  | 0 => false
  | n + 1 => anyR p n || p n
theorem anyR_at {p : Nat → Bool} : ∀ {n k : Nat}, p k = true → k < n → anyR p n = true
  | 0, k, _, h => by omega
  | n + 1, k, hk, h => by
    show (anyR p n || _) = true
    rcases Nat.lt_or_ge k n with h' | h'
    · rw [anyR_at hk h', Bool.true_or]
    · obtain rfl : k = n := by omega
      rw [hk, Bool.or_true]
theorem anyR_no {p : Nat → Bool} : ∀ {n : Nat}, anyR p n = false → ∀ k, k < n → p k = false
  | 0, _, k, h => by omega
  | n + 1, hn, k, h => by
    have h1 : (anyR p n || p n) = false := hn
    rw [Bool.or_eq_false_iff] at h1
    rcases Nat.lt_or_ge k n with h' | h'
    · exact anyR_no h1.1 k h'
    · obtain rfl : k = n := by omega
      exact h1.2
theorem anyR_none {p : Nat → Bool} : ∀ {n : Nat}, (∀ k, k < n → p k = false) → anyR p n = false
  | 0, _ => rfl
  | n + 1, h => by show (anyR p n || p n) = false; rw [anyR_none (fun k hk => h k (by omega)), h n (by omega)]; rfl
/-- Is a value not from 0 to M - 1? -/
def offB (M x : Int) : Bool := decide (x < 0) || decide (M ≤ x)
def outB (M : Int) (z : Nat → Int) (n : Nat) : Bool := anyR (fun k => offB M (z k)) n
def fRow (M : Int) (ns : Nat → Nat) (zs : Nat → Nat → Int) (i : Nat) : Bool := decide (ns i ≠ ns 0) || outB M (zs i) (ns i)
/-- What is wrong with a family. -/
def famErr (M : Int) (R : Nat) (ns : Nat → Nat) (zs : Nat → Nat → Int) : Nat :=
  if 64 < R ∨ M < 1 ∨ 16 < M then 2 else if longB ns R = true then 2 else if R = 0 ∨ ns 0 = 0 then 3 else if anyR (fRow M ns zs) R = true then 3 else 0
/-- A right one. -/
structure FamOk (M : Int) (R : Nat) (ns : Nat → Nat) (zs : Nat → Nat → Int) : Prop where
  pos : 0 < R
  le : R ≤ 64
  m1 : 1 ≤ M
  m16 : M ≤ 16
  n0 : 0 < ns 0
  n16 : ns 0 ≤ 16
  len : ∀ i, i < R → ns i = ns 0
  num : ∀ i, i < R → ∀ k, k < ns 0 → 0 ≤ zs i k ∧ zs i k < M
theorem offB_no {M x : Int} (h : offB M x = false) : 0 ≤ x ∧ x < M := by
  unfold offB at h
  rw [Bool.or_eq_false_iff] at h
  have h1 := of_decide_eq_false h.1
  have h2 := of_decide_eq_false h.2
  omega
theorem famErr_ok {M : Int} {R : Nat} {ns : Nat → Nat} {zs : Nat → Nat → Int} (h : famErr M R ns zs = 0) : FamOk M R ns zs := by
  unfold famErr at h
  by_cases h1 : 64 < R ∨ M < 1 ∨ 16 < M
  · rw [if_pos h1] at h; cases h
  · rw [if_neg h1] at h
    cases h2 : longB ns R with
    | true => rw [h2, if_pos rfl] at h; cases h
    | false =>
      rw [h2, if_neg (by decide)] at h
      by_cases h3 : R = 0 ∨ ns 0 = 0
      · rw [if_pos h3] at h; cases h
      · rw [if_neg h3] at h
        cases h4 : anyR (fRow M ns zs) R with
        | true => rw [h4, if_pos rfl] at h; cases h
        | false =>
          have hl : ∀ i, i < R → ns i = ns 0 ∧ ∀ k, k < ns i → 0 ≤ zs i k ∧ zs i k < M := fun i hi => by
            have h5 := anyR_no h4 i hi
            unfold fRow at h5
            rw [Bool.or_eq_false_iff] at h5
            exact ⟨by simpa using h5.1, fun k hk => offB_no (anyR_no h5.2 k hk)⟩
          have hlong : ns 0 ≤ 16 := by
            rcases Nat.lt_or_ge 16 (ns 0) with h6 | h6
            · have := longB_mono (n := R) (k := 0) (by omega) h6
              rw [h2] at this; cases this
            · exact h6
          exact ⟨by omega, by omega, by omega, by omega, by omega, hlong, fun i hi => (hl i hi).1, fun i hi k hk => (hl i hi).2 k (by rw [(hl i hi).1]; exact hk)⟩
theorem famErr_le (M : Int) (R : Nat) (ns : Nat → Nat) (zs : Nat → Nat → Int) : famErr M R ns zs ≤ 8 := by
  unfold famErr
  split
  · omega
  · split
    · omega
    · split
      · omega
      · split <;> omega
theorem TabAt.rowR {w : World} {ad : Option Addr} {R cap : Nat} {vs : Nat → Value} {ns : Nat → Nat} {zs : Nat → Nat → Int} (h : TabAt w (.slice ad R cap) R vs ns zs) {i : Nat} (hi : i < R) : ∃ b o, ad = some ⟨b, o, none⟩ ∧ w.cell? ⟨b, o + i, none⟩ = some (vs i) ∧ NumsAt w (vs i) (ns i) (zs i) := by
  rcases h with ⟨_, _, h1', h2'⟩ | ⟨b, o, c, h1', _, h2⟩
  · omega
  · simp only [Value.slice.injEq, true_and] at h1'
    exact ⟨b, o, h1'.1, h2 i hi⟩
end Go.Proofs.YtklhfagcembigaaGreatDoor
