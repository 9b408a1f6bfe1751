/- Lists put in order, the greatest first; guesses one by one. -/
import Derived.Test.YtiegobkbinojeaaDoorTab
namespace Go.Proofs.YtiegobkbinojeaaDoor

/-- The numbers of a list, the greatest first. -/
def dnL (z : Nat → Int) (n : Nat) : List Int := ((rowL z n).mergeSort fun x y => decide (x ≤ y)).reverse
theorem dnL_perm (z : Nat → Int) (n : Nat) : (dnL z n).Perm (rowL z n) := (List.reverse_perm _).trans (List.mergeSort_perm _ _)
theorem dnL_length (z : Nat → Int) (n : Nat) : (dnL z n).length = n := by rw [(dnL_perm z n).length_eq, rowL_length]
theorem dnL_down (z : Nat → Int) (n : Nat) : (dnL z n).Pairwise (fun a b => b ≤ a) := by
  unfold dnL
  rw [List.pairwise_reverse]
  have h := List.pairwise_mergeSort (le := fun x y : Int => decide (x ≤ y)) (fun a b c h1 h2 => by simp at *; omega) (fun a b => by simp; omega) (rowL z n)
  exact h.imp fun h => by simpa using h
theorem dnL_only {z : Nat → Int} {n : Nat} {l : List Int} (hp : l.Perm (rowL z n)) (hd : l.Pairwise (fun a b => b ≤ a)) : l = dnL z n :=
  List.Perm.eq_of_pairwise (le := fun a b => b ≤ a) (fun a b _ _ h1 h2 => by omega) hd (dnL_down z n) (hp.trans (dnL_perm z n).symm)
theorem dnL_mem {z : Nat → Int} {n : Nat} {x : Int} (h : x ∈ dnL z n) : ∃ i, i < n ∧ x = z i := by
  have h1 := (dnL_perm z n).mem_iff.1 h
  unfold rowL at h1
  obtain ⟨i, hi, rfl⟩ := List.mem_map.1 h1
  exact ⟨i, List.mem_range.1 hi, rfl⟩
theorem dnL_at {z : Nat → Int} {n j : Nat} (hj : j < n) : ∃ i, i < n ∧ atF (dnL z n) j = z i := by
  have hl := dnL_length z n
  have h1 : atF (dnL z n) j ∈ dnL z n := by
    unfold atF
    rw [List.getD_eq_getElem?_getD, List.getElem?_eq_getElem (by omega)]
    exact List.getElem_mem _
  exact dnL_mem h1
/-- Guesses, one by one. -/
def gueN (f : Nat → Int) (n : Nat) : Int := sumN (fun i => ((i : Int) + 1) * f i) n
theorem gue_part {f : Nat → Int} {n k : Nat} (hn : n ≤ 16) (h : ∀ i, i < n → 0 ≤ f i ∧ f i ≤ 4096) (hk : k ≤ n) : 0 ≤ gueN f k ∧ gueN f k ≤ (k : Int) * 65536 := by
  induction k with
  | zero => exact ⟨Int.le_refl _, Int.le_refl _⟩
  | succ k ih =>
    have h1 := ih (by omega)
    have h2 := h k (by omega)
    have h3 : 0 ≤ ((k : Int) + 1) * f k := Int.mul_nonneg (by omega) h2.1
    have h4 : ((k : Int) + 1) * f k ≤ 16 * 4096 := Int.mul_le_mul (by omega) h2.2 h2.1 (by omega)
    show 0 ≤ gueN f k + ((k : Int) + 1) * f k ∧ gueN f k + ((k : Int) + 1) * f k ≤ _
    omega
theorem gue_term {f : Nat → Int} {n k : Nat} (hn : n ≤ 16) (h : ∀ i, i < n → 0 ≤ f i ∧ f i ≤ 4096) (hk : k < n) : 0 ≤ ((k : Int) + 1) * f k ∧ ((k : Int) + 1) * f k ≤ 65536 := by
  have h2 := h k hk
  exact ⟨Int.mul_nonneg (by omega) h2.1, Int.mul_le_mul (c := 16) (d := 4096) (by omega) h2.2 h2.1 (by omega)⟩
/-- Guesses of weights. -/
def gueZ (z : Nat → Int) (n : Nat) : Nat := (gueN (atF (dnL z n)) n).toNat
theorem dn_right {z : Nat → Int} {n : Nat} (h : OkW z n) (i : Nat) (hi : i < n) : 0 ≤ atF (dnL z n) i ∧ atF (dnL z n) i ≤ 4096 := by
  obtain ⟨j, hj, e⟩ := dnL_at (z := z) hi
  rw [e]; exact h.lt hj
theorem gueZ_eq {z : Nat → Int} {n : Nat} (h : OkW z n) (hn : n ≤ 16) : (gueZ z n : Int) = gueN (atF (dnL z n)) n ∧ gueZ z n ≤ 1048576 := by
  have h1 := gue_part hn (dn_right h) (Nat.le_refl n)
  unfold gueZ
  exact ⟨by omega, by omega⟩
/-- A fraction in its lowest terms. -/
def gueV (T S : Nat) : Value := .agg #[.int .i64 ((T / Nat.gcd T S : Nat) : Int), .int .i64 ((S / Nat.gcd T S : Nat) : Int)]
end Go.Proofs.YtiegobkbinojeaaDoor
