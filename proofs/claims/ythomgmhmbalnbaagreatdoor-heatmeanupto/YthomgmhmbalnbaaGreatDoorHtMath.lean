/- Processes in whole numbers: what a step keeps (JARZYNSKI). -/
import Derived.Test.YthomgmhmbalnbaaGreatDoorInts
namespace Go.Proofs.YthomgmhmbalnbaaGreatDoor
open Go.RowKit

/-- Sums and products of the first ones; products of all but one. -/
def smU (u : Nat → Nat) : Nat → Nat
  | 0 => 0
  | k + 1 => smU u k + u k
def prdU (u : Nat → Nat) : Nat → Nat
  | 0 => 1
  | k + 1 => prdU u k * u k
def prdX (u : Nat → Nat) (i : Nat) : Nat → Nat
  | 0 => 1
  | k + 1 => if k = i then prdX u i k else prdX u i k * u k
theorem smU_congr {u v : Nat → Nat} : ∀ {n : Nat}, (∀ i, i < n → u i = v i) → smU u n = smU v n
  | 0, _ => rfl
  | n + 1, h => by rw [smU, smU, smU_congr (fun i hi => h i (by omega)), h n (by omega)]
theorem smU_mul (c : Nat) (u : Nat → Nat) : ∀ n, smU (fun i => c * u i) n = c * smU u n
  | 0 => rfl
  | n + 1 => by rw [smU, smU, smU_mul c u n, Nat.mul_add]
theorem smU_mulR (c : Nat) (u : Nat → Nat) (n : Nat) : smU (fun i => u i * c) n = smU u n * c := by
  rw [Nat.mul_comm, ← smU_mul]
  exact smU_congr fun i _ => Nat.mul_comm _ _
theorem smU_ge {u : Nat → Nat} {i : Nat} : ∀ {n : Nat}, i < n → u i ≤ smU u n
  | 0, h => by omega
  | n + 1, h => by
    rw [smU]
    rcases Nat.lt_or_ge i n with h1 | h1
    · have := smU_ge (u := u) h1
      omega
    · obtain rfl : i = n := by omega
      omega
theorem smU_le {u : Nat → Nat} {B : Nat} : ∀ {n : Nat}, (∀ i, i < n → u i ≤ B) → smU u n ≤ n * B
  | 0, _ => by simp [smU]
  | n + 1, h => by
    rw [smU, Nat.succ_mul]
    have h1 := smU_le (u := u) (n := n) (fun i hi => h i (by omega))
    have h2 := h n (by omega)
    omega
theorem smU_mono (u : Nat → Nat) {k n : Nat} (h : k ≤ n) : smU u k ≤ smU u n := by
  induction n with
  | zero => obtain rfl : k = 0 := by omega
            exact Nat.le_refl _
  | succ n ih =>
    rcases Nat.lt_or_ge k (n + 1) with h1 | h1
    · have := ih (by omega)
      rw [smU]; omega
    · obtain rfl : k = n + 1 := by omega
      exact Nat.le_refl _
theorem sumN_smU {z : Nat → Int} {u : Nat → Nat} : ∀ {n : Nat}, (∀ i, i < n → z i = (u i : Int)) → sumN z n = ((smU u n : Nat) : Int)
  | 0, _ => rfl
  | n + 1, h => by
    rw [sumN, smU, sumN_smU (fun i hi => h i (by omega)), h n (by omega)]
    simp
theorem prdX_past {u : Nat → Nat} {i : Nat} : ∀ {k : Nat}, k ≤ i → prdX u i k = prdU u k
  | 0, _ => rfl
  | k + 1, h => by rw [prdX, if_neg (by omega), prdU, prdX_past (by omega)]
theorem prdX_at {u : Nat → Nat} {i : Nat} : ∀ {n : Nat}, i < n → prdX u i n * u i = prdU u n
  | 0, h => by omega
  | n + 1, h => by
    rw [prdX, prdU]
    by_cases hn : n = i
    · subst hn
      rw [if_pos rfl, prdX_past (Nat.le_refl _)]
    · rw [if_neg hn, Nat.mul_right_comm, prdX_at (by omega)]
theorem prdU_pos {u : Nat → Nat} : ∀ {n : Nat}, (∀ i, i < n → 0 < u i) → 0 < prdU u n
  | 0, _ => by simp [prdU]
  | n + 1, h => Nat.mul_pos (prdU_pos (fun i hi => h i (by omega))) (h n (by omega))
theorem prdX_pos {u : Nat → Nat} {i : Nat} : ∀ {n : Nat}, (∀ k, k < n → 0 < u k) → 0 < prdX u i n
  | 0, _ => by simp [prdX]
  | n + 1, h => by
    rw [prdX]
    split
    · exact prdX_pos (fun k hk => h k (by omega))
    · exact Nat.mul_pos (prdX_pos (fun k hk => h k (by omega))) (h n (by omega))
theorem prdU_le {u : Nat → Nat} {B : Nat} : ∀ {n : Nat}, (∀ i, i < n → u i ≤ B) → prdU u n ≤ B ^ n
  | 0, _ => by simp [prdU]
  | n + 1, h => by
    rw [prdU, Nat.pow_succ]
    exact Nat.mul_le_mul (prdU_le (fun i hi => h i (by omega))) (h n (by omega))
theorem prdX_le {u : Nat → Nat} {i B : Nat} (hB : 0 < B) : ∀ {n : Nat}, (∀ k, k < n → u k ≤ B) → prdX u i n ≤ B ^ n
  | 0, _ => by simp [prdX]
  | n + 1, h => by
    rw [prdX, Nat.pow_succ]
    have h1 := prdX_le (i := i) hB (n := n) (fun k hk => h k (by omega))
    split
    · exact Nat.le_trans h1 (Nat.le_mul_of_pos_right _ hB)
    · exact Nat.mul_le_mul h1 (h n (by omega))

/-- As often one way as the other. -/
def Bal (n : Nat) (w : Nat → Nat) (P : Nat → Nat → Nat) : Prop := ∀ i k, i < n → k < n → w i * P i k * smU (P k) n = w k * P k i * smU (P i) n
/-- What a step keeps. -/
theorem bal_keeps {n : Nat} {w : Nat → Nat} {P : Nat → Nat → Nat} (hb : Bal n w P) (hR : ∀ k, k < n → 0 < smU (P k) n) {k : Nat} (hk : k < n) :
    smU (fun i => w i * prdX (fun j => smU (P j) n) i n * P i k) n = w k * prdU (fun j => smU (P j) n) n := by
  have h1 : smU (fun i => smU (P k) n * (w i * prdX (fun j => smU (P j) n) i n * P i k)) n = smU (fun i => (w k * prdU (fun j => smU (P j) n) n) * P k i) n := by
    refine smU_congr fun i hi => ?_
    have h2 := hb i k hi hk
    have h3 := prdX_at (u := fun j => smU (P j) n) hi
    rw [← h3]
    show smU (P k) n * (w i * prdX (fun j => smU (P j) n) i n * P i k) = w k * (prdX (fun j => smU (P j) n) i n * smU (P i) n) * P k i
    generalize smU (P k) n = a at *
    generalize smU (P i) n = b at *
    generalize prdX (fun j => smU (P j) n) i n = c at *
    calc a * (w i * c * P i k) = (w i * P i k * a) * c := by grind
      _ = (w k * P k i * b) * c := by rw [h2]
      _ = w k * (c * b) * P k i := by grind
  rw [smU_mul, smU_mul, Nat.mul_comm _ (smU (P k) n)] at h1
  exact Nat.eq_of_mul_eq_mul_left (hR k hk) h1
/-- What is carried: w over S, with the denominator D. -/
def Car (n S : Nat) (w P : Nat → Nat) (D : Nat) : Prop := ∀ i, i < n → P i * S = w i * D
theorem car_gain {n S : Nat} {w v P : Nat → Nat} {D : Nat} (h : Car n S w P D) : Car n S v (fun i => P i * prdX w i n * v i) (D * prdU w n) := fun i hi => by
  have h1 := h i hi
  have h2 := prdX_at (u := w) hi
  show P i * prdX w i n * v i * S = v i * (D * prdU w n)
  rw [← h2]
  calc P i * prdX w i n * v i * S = (P i * S) * (prdX w i n * v i) := by grind
    _ = (w i * D) * (prdX w i n * v i) := by rw [h1]
    _ = v i * (D * (prdX w i n * w i)) := by grind
theorem car_step {n S : Nat} {w P : Nat → Nat} {D : Nat} {Q : Nat → Nat → Nat} (h : Car n S w P D) (hb : Bal n w Q) (hR : ∀ k, k < n → 0 < smU (Q k) n) :
    Car n S w (fun k => smU (fun i => P i * prdX (fun j => smU (Q j) n) i n * Q i k) n) (D * prdU (fun j => smU (Q j) n) n) := fun k hk => by
  show smU (fun i => P i * prdX (fun j => smU (Q j) n) i n * Q i k) n * S = _
  rw [← smU_mulR, show w k * (D * prdU (fun j => smU (Q j) n) n) = D * (w k * prdU (fun j => smU (Q j) n) n) by grind, ← bal_keeps hb hR hk, ← smU_mul]
  refine smU_congr fun i hi => ?_
  have h1 := h i hi
  calc P i * prdX (fun j => smU (Q j) n) i n * Q i k * S = (P i * S) * (prdX (fun j => smU (Q j) n) i n * Q i k) := by grind
    _ = (w i * D) * (prdX (fun j => smU (Q j) n) i n * Q i k) := by rw [h1]
    _ = D * (w i * prdX (fun j => smU (Q j) n) i n * Q i k) := by grind
theorem car_sum {n S : Nat} {w P : Nat → Nat} {D : Nat} (h : Car n S w P D) : smU P n * S = smU w n * D := by
  rw [← smU_mulR, ← smU_mulR]
  exact smU_congr h

/-- The first one of which something holds. -/
def fstG (p : Nat → Bool) : Nat → Nat → Nat
  | 0, s => s
  | f + 1, s => if p s = true then s else fstG p f (s + 1)
def fstP (p : Nat → Bool) (T : Nat) : Nat := fstG p T 0
theorem fstG_at {p : Nat → Bool} {k : Nat} (hk : p k = true) : ∀ {f s : Nat}, s ≤ k → k < s + f → (∀ i, s ≤ i → i < k → p i = false) → fstG p f s = k
  | 0, s, h1, h2, _ => by omega
  | f + 1, s, h1, h2, h3 => by
    rw [fstG]
    by_cases he : s = k
    · subst he
      rw [if_pos hk]
    · rw [if_neg (by rw [h3 s (Nat.le_refl _) (by omega)]; simp)]
      exact fstG_at hk (by omega) (by omega) (fun i hi => h3 i (by omega))
theorem fstG_no {p : Nat → Bool} : ∀ {f s : Nat}, (∀ i, s ≤ i → i < s + f → p i = false) → fstG p f s = s + f
  | 0, s, _ => rfl
  | f + 1, s, h => by
    rw [fstG, if_neg (by rw [h s (Nat.le_refl _) (by omega)]; simp), fstG_no (fun i h1 h2 => h i (by omega) (by omega))]
    omega
theorem fstP_at {p : Nat → Bool} {k T : Nat} (hk : p k = true) (hT : k < T) (h : ∀ i, i < k → p i = false) : fstP p T = k := fstG_at hk (Nat.zero_le _) (by omega) (fun i _ hi => h i hi)
theorem fstP_no {p : Nat → Bool} {T : Nat} (h : ∀ i, i < T → p i = false) : fstP p T = T := by
  unfold fstP
  rw [fstG_no (fun i _ hi => h i (by omega))]
  omega
theorem fstG_le (p : Nat → Bool) : ∀ f s, fstG p f s ≤ s + f
  | 0, s => Nat.le_refl _
  | f + 1, s => by
    rw [fstG]
    split
    · omega
    · have := fstG_le p f (s + 1)
      omega
theorem fstG_is (p : Nat → Bool) : ∀ f s, fstG p f s < s + f → p (fstG p f s) = true
  | 0, s, h => by rw [fstG] at h; omega
  | f + 1, s, h => by
    rw [fstG] at h ⊢
    split
    · assumption
    · rename_i h1
      rw [if_neg h1] at h
      exact fstG_is p f (s + 1) (by omega)
theorem fstP_is {p : Nat → Bool} {T : Nat} (h : fstP p T < T) : p (fstP p T) = true := fstG_is p T 0 (by unfold fstP at h; omega)
theorem fstG_none {p : Nat → Bool} : ∀ {f s i : Nat}, fstG p f s = s + f → s ≤ i → i < s + f → p i = false
  | 0, s, i, _, h1, h2 => by omega
  | f + 1, s, i, h, h1, h2 => by
    rw [fstG] at h
    split at h
    · omega
    · rename_i h3
      by_cases he : s = i
      · subst he; simpa using h3
      · exact fstG_none (f := f) (s := s + 1) (by omega) (by omega) (by omega)
theorem fstP_none {p : Nat → Bool} {T : Nat} (h : ¬ fstP p T < T) : ∀ i, i < T → p i = false := fun i hi => by
  have := fstG_le p T 0
  exact fstG_none (f := T) (s := 0) (by unfold fstP at h; omega) (Nat.zero_le _) (by omega)
end Go.Proofs.YthomgmhmbalnbaaGreatDoor
