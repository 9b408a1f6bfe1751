/- How many bits are set: the library's sums of neighbours, looked through up to 16 bits. -/
import Derived.Test.YtojljmapdafmaaaDoorZeBits
namespace Go.Proofs.YtojljmapdafmaaaDoor

theorem popN_succ (n x : Nat) : popN (n + 1) x = x % 2 + popN n (x / 2) := by
  unfold popN
  rw [List.range_succ_eq_map, List.filter_cons, List.filter_map, Nat.testBit_zero]
  have e : ((fun i => x.testBit i) ∘ Nat.succ) = fun i => (x / 2).testBit i := funext fun i => by simp [Nat.testBit_succ]
  rw [e]
  by_cases h : x % 2 = 1
  · rw [if_pos (by simpa using h), List.length_cons, List.length_map, h]; omega
  · rw [if_neg (by simpa using h), List.length_map]; omega
def popA : Nat → Nat → Nat
  | 0, _ => 0
  | n + 1, x => x % 2 + popA n (x / 2)
theorem popN_A : ∀ n x, popN n x = popA n x
  | 0, x => rfl
  | n + 1, x => by rw [popN_succ, popN_A n]; rfl
def popH : Nat → Nat → Bool
  | 0, _ => true
  | f + 1, x => (popW x == popA 16 x && Nat.ble (popW x) 16) && popH f (x + 1)
theorem popH_all : ∀ (f x : Nat), popH f x = true → ∀ y, x ≤ y → y < x + f → popW y = popA 16 y ∧ popW y ≤ 16
  | 0, x, _, y, h1, h2 => by omega
  | f + 1, x, h, y, h1, h2 => by
    simp only [popH, Bool.and_eq_true, beq_iff_eq] at h
    rcases Nat.eq_or_lt_of_le h1 with rfl | h3
    · exact ⟨h.1.1, Nat.le_of_ble_eq_true h.1.2⟩
    · exact popH_all f (x + 1) h.2 y h3 (by omega)
theorem popH_tab : ∀ k, k < 256 → popH 256 (256 * k) = true := by decide +kernel
theorem popW_bits {l : List Nat} (h : Asc 16 l) : popW (bitZ l) = l.length := by
  have h1 := h.lt
  have := popH_all 256 (256 * (bitZ l / 256)) (popH_tab _ (by omega)) (bitZ l) (by omega) (by omega)
  rw [this.1, ← popN_A, popN_bits h]
end Go.Proofs.YtojljmapdafmaaaDoor
