/- Trees of leaves (KNUTH and YAO): which outcomes have a leaf at a depth; where bits lead to. -/
import Derived.WalkKit
namespace Go.Proofs.YtobmngkaoahmiaaDoor

/-- Those of the first m outcomes that have the digit 2 ^ k, in order. -/
def lvs (x : Nat → Nat) (k : Nat) : Nat → List Nat
  | 0 => []
  | i + 1 => lvs x k i ++ (if x i / 2 ^ k % 2 = 1 then [i] else [])
theorem lvs_lt {x : Nat → Nat} {k : Nat} : ∀ {m : Nat}, ∀ i ∈ lvs x k m, i < m ∧ x i / 2 ^ k % 2 = 1
  | 0, i, h => by simp [lvs] at h
  | m + 1, i, h => by
    rw [lvs, List.mem_append] at h
    rcases h with h | h
    · have := lvs_lt i h
      exact ⟨by omega, this.2⟩
    · split at h
      · next hh => simp at h; subst h; exact ⟨by omega, hh⟩
      · simp at h
theorem lvs_length {x : Nat → Nat} {k : Nat} : ∀ m, (lvs x k m).length ≤ m
  | 0 => Nat.le_refl _
  | m + 1 => by
    have := lvs_length (x := x) (k := k) m
    rw [lvs, List.length_append]
    split <;> simp <;> omega
theorem lvs_congr {x y : Nat → Nat} {k : Nat} : ∀ {m : Nat}, (∀ i, i < m → x i = y i) → lvs x k m = lvs y k m
  | 0, _ => rfl
  | m + 1, h => by rw [lvs, lvs, lvs_congr (fun i hi => h i (by omega)), h m (by omega)]
theorem lvs_at {x : Nat → Nat} {k m v : Nat} (h : v < (lvs x k m).length) : (lvs x k m).getD v 0 < m ∧ x ((lvs x k m).getD v 0) / 2 ^ k % 2 = 1 := by
  refine lvs_lt _ ?_
  rw [List.getD_eq_getElem?_getD, List.getElem?_eq_getElem h]
  exact List.getElem_mem h

def sumX (x : Nat → Nat) : Nat → Nat
  | 0 => 0
  | m + 1 => sumX x m + x m
def lowS (x : Nat → Nat) (k : Nat) : Nat → Nat
  | 0 => 0
  | m + 1 => lowS x k m + x m % 2 ^ k
theorem sumX_congr {x y : Nat → Nat} : ∀ {m : Nat}, (∀ i, i < m → x i = y i) → sumX x m = sumX y m
  | 0, _ => rfl
  | m + 1, h => by rw [sumX, sumX, sumX_congr (fun i hi => h i (by omega)), h m (by omega)]
theorem sumX_ge {x : Nat → Nat} : ∀ {m i : Nat}, i < m → x i ≤ sumX x m
  | 0, i, h => by omega
  | m + 1, i, h => by
    rw [sumX]
    rcases Nat.lt_or_ge i m with h' | h'
    · have := sumX_ge (x := x) h'; omega
    · obtain rfl : i = m := by omega
      omega
theorem lowS_succ (x : Nat → Nat) (k : Nat) : ∀ m, lowS x (k + 1) m = (lvs x k m).length * 2 ^ k + lowS x k m
  | 0 => by simp [lowS, lvs]
  | m + 1 => by
    have ih := lowS_succ x k m
    have h1 : x m % 2 ^ (k + 1) = x m % 2 ^ k + 2 ^ k * (x m / 2 ^ k % 2) := Nat.mod_pow_succ
    rw [lowS, lowS, lvs, List.length_append, ih, h1, Nat.add_mul]
    by_cases h : x m / 2 ^ k % 2 = 1
    · rw [if_pos h, h]; simp; omega
    · have h0 : x m / 2 ^ k % 2 = 0 := by omega
      rw [if_neg h, h0]; simp; omega
theorem lowS_rest (x : Nat → Nat) (k : Nat) : ∀ m, ∃ q, sumX x m = lowS x k m + 2 ^ k * q
  | 0 => ⟨0, rfl⟩
  | m + 1 => by
    obtain ⟨q, hq⟩ := lowS_rest x k m
    refine ⟨q + x m / 2 ^ k, ?_⟩
    have := Nat.mod_add_div (x m) (2 ^ k)
    rw [sumX, lowS, hq, Nat.mul_add]
    omega
theorem lowS_all {x : Nat → Nat} {k : Nat} : ∀ {m : Nat}, (∀ i, i < m → x i < 2 ^ k) → lowS x k m = sumX x m
  | 0, _ => rfl
  | m + 1, h => by rw [lowS, sumX, lowS_all (fun i hi => h i (by omega)), Nat.mod_eq_of_lt (h m (by omega))]
theorem lowS_dvd {x : Nat → Nat} {k D m : Nat} (h : sumX x m = 2 ^ D) (hk : k ≤ D) : ∃ q, lowS x k m = 2 ^ k * q := by
  obtain ⟨q, hq⟩ := lowS_rest x k m
  have h2 : 2 ^ k ∣ lowS x k m + 2 ^ k * q := by rw [← hq, h]; exact Nat.pow_dvd_pow 2 hk
  have h3 : 2 ^ k ∣ lowS x k m := (Nat.dvd_add_left (Nat.dvd_mul_right _ _)).1 h2
  exact h3

/-- A place among the nodes of the depth where the digit is 2 ^ k. -/
def inT (x : Nat → Nat) (k m v : Nat) : Prop := v * 2 ^ k < lowS x (k + 1) m
theorem inT_root {x : Nat → Nat} {D m : Nat} (h : sumX x m = 2 ^ D) : inT x D m 0 := by
  have h0 : 0 < 2 ^ D := Nat.two_pow_pos D
  unfold inT
  rw [lowS_all (fun i hi => by have := sumX_ge (x := x) hi; rw [Nat.pow_succ]; omega), h]
  omega
theorem inT_next {x : Nat → Nat} {D k m v b : Nat} (h : sumX x m = 2 ^ D) (hk : k + 1 ≤ D) (hv : inT x (k + 1) m v) (hl : (lvs x (k + 1) m).length ≤ v) (hb : b ≤ 1) : inT x k m (2 * (v - (lvs x (k + 1) m).length) + b) := by
  unfold inT at hv ⊢
  rw [lowS_succ] at hv
  obtain ⟨q, hq⟩ := lowS_dvd h hk
  rw [hq] at hv ⊢
  generalize (lvs x (k + 1) m).length = l at *
  obtain ⟨d, rfl⟩ : ∃ d, v = l + d := ⟨v - l, by omega⟩
  rw [Nat.add_sub_cancel_left]
  have h1 : d * 2 ^ (k + 1) < 2 ^ (k + 1) * q := by rw [Nat.add_mul] at hv; omega
  have h2 : d < q := by
    rw [Nat.mul_comm] at h1
    exact Nat.lt_of_mul_lt_mul_left h1
  have h3 : 2 ^ (k + 1) * (d + 1) ≤ 2 ^ (k + 1) * q := Nat.mul_le_mul_left _ h2
  have h4 : (2 * d + b) * 2 ^ k < 2 ^ (k + 1) * (d + 1) := by
    have h5 : (2 * d + b) * 2 ^ k < (2 * d + 2) * 2 ^ k := Nat.mul_lt_mul_of_pos_right (by omega) (Nat.two_pow_pos k)
    have h6 : (2 * d + 2) * 2 ^ k = 2 ^ (k + 1) * (d + 1) := by
      rw [Nat.pow_succ, show 2 * d + 2 = 2 * (d + 1) by omega, Nat.mul_comm (2 ^ k) 2, Nat.mul_right_comm]
    omega
  omega
theorem inT_end {x : Nat → Nat} {m v : Nat} (hv : inT x 0 m v) : v < (lvs x 0 m).length := by
  unfold inT at hv
  rw [lowS_succ] at hv
  have h1 : lowS x 0 m = 0 := by
    have : ∀ m, lowS x 0 m = 0 := fun m => by
      induction m with
      | zero => rfl
      | succ m ih => rw [lowS, ih]; simp [Nat.mod_one]
    exact this m
  rw [h1] at hv
  simpa using hv
/-- Ahead of the first bit there is a leaf of a whole alone. -/
theorem root_leaf {x : Nat → Nat} {D m v : Nat} (h : sumX x m = 2 ^ D) (hv : v < (lvs x D m).length) : x ((lvs x D m).getD v 0) = 2 ^ D := by
  obtain ⟨h1, h2⟩ := lvs_at hv
  have h3 := sumX_ge (x := x) h1
  rw [h] at h3
  have h0 : 0 < 2 ^ D := Nat.two_pow_pos D
  rcases Nat.lt_or_ge (x ((lvs x D m).getD v 0)) (2 ^ D) with h4 | h4
  · rw [Nat.div_eq_of_lt h4] at h2; omega
  · omega

/-- Bits read from a place of the tree on: an outcome and how many bits, or none; outside: they are not read to an end. -/
def flS (x : Nat → Nat) (n D L : Nat) (s : Nat → Nat) : Nat → Nat → Nat → Nat → Option (Option (Nat × Nat))
  | 0, _, _, _ => none
  | f + 1, d, v, u =>
    if v < (lvs x (D - d) (n + 1)).length then
      if (lvs x (D - d) (n + 1)).getD v 0 < n then some (some ((lvs x (D - d) (n + 1)).getD v 0, u)) else flS x n D L s f 0 0 u
    else if u = L then some none else flS x n D L s f (d + 1) (2 * (v - (lvs x (D - d) (n + 1)).length) + s u) (u + 1)
theorem flS_more {x : Nat → Nat} {n D L : Nat} {s : Nat → Nat} {r : Option (Nat × Nat)} : ∀ {f d v u : Nat}, flS x n D L s f d v u = some r → flS x n D L s (f + 1) d v u = some r
  | 0, d, v, u, h => by cases h
  | f + 1, d, v, u, h => by
    rw [flS] at h ⊢
    split
    · next h1 =>
      rw [if_pos h1] at h
      split
      · next h2 => rw [if_pos h2] at h; exact h
      · next h2 => rw [if_neg h2] at h; exact flS_more h
    · next h1 =>
      rw [if_neg h1] at h
      split
      · next h2 => rw [if_pos h2] at h; exact h
      · next h2 => rw [if_neg h2] at h; exact flS_more h
theorem flS_plus {x : Nat → Nat} {n D L : Nat} {s : Nat → Nat} {r : Option (Nat × Nat)} {f d v u : Nat} (h : flS x n D L s f d v u = some r) : ∀ g, flS x n D L s (f + g) d v u = some r
  | 0 => h
  | g + 1 => flS_more (flS_plus h g)
def Comes (x : Nat → Nat) (n D L : Nat) (s : Nat → Nat) (d v u : Nat) (r : Option (Nat × Nat)) : Prop := ∃ f, flS x n D L s f d v u = some r
theorem Comes.same {x : Nat → Nat} {n D L : Nat} {s : Nat → Nat} {d v u : Nat} {r r' : Option (Nat × Nat)} (h : Comes x n D L s d v u r) (h' : Comes x n D L s d v u r') : r = r' := by
  obtain ⟨f, h⟩ := h
  obtain ⟨g, h'⟩ := h'
  have h1 := flS_plus h g
  have h2 := flS_plus h' f
  rw [Nat.add_comm g f, h1] at h2
  exact Option.some.inj h2
theorem comes_leaf {x : Nat → Nat} {n D L : Nat} {s : Nat → Nat} {d v u : Nat} (h1 : v < (lvs x (D - d) (n + 1)).length) (h2 : (lvs x (D - d) (n + 1)).getD v 0 < n) : Comes x n D L s d v u (some ((lvs x (D - d) (n + 1)).getD v 0, u)) := ⟨1, by rw [flS, if_pos h1, if_pos h2]⟩
theorem comes_again {x : Nat → Nat} {n D L : Nat} {s : Nat → Nat} {d v u : Nat} {r : Option (Nat × Nat)} (h1 : v < (lvs x (D - d) (n + 1)).length) (h2 : ¬ (lvs x (D - d) (n + 1)).getD v 0 < n) (h : Comes x n D L s 0 0 u r) : Comes x n D L s d v u r := by
  obtain ⟨f, h⟩ := h
  exact ⟨f + 1, by rw [flS, if_pos h1, if_neg h2]; exact h⟩
theorem comes_none {x : Nat → Nat} {n D L : Nat} {s : Nat → Nat} {d v : Nat} (h1 : ¬ v < (lvs x (D - d) (n + 1)).length) : Comes x n D L s d v L none := ⟨1, by rw [flS, if_neg h1, if_pos rfl]⟩
theorem comes_step {x : Nat → Nat} {n D L : Nat} {s : Nat → Nat} {d v u : Nat} {r : Option (Nat × Nat)} (h1 : ¬ v < (lvs x (D - d) (n + 1)).length) (h2 : u ≠ L) (h : Comes x n D L s (d + 1) (2 * (v - (lvs x (D - d) (n + 1)).length) + s u) (u + 1) r) : Comes x n D L s d v u r := by
  obtain ⟨f, h⟩ := h
  exact ⟨f + 1, by rw [flS, if_neg h1, if_neg h2]; exact h⟩
end Go.Proofs.YtobmngkaoahmiaaDoor
