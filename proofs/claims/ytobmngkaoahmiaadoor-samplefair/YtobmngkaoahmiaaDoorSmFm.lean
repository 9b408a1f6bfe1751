/- All rows of so many bits: what SampleFair asks of numbers. -/
import Derived.Test.YtobmngkaoahmiaaDoorSmFr
import Derived.Test.YtobmngkaoahmiaaDoorSmDw
namespace Go.Proofs.YtobmngkaoahmiaaDoor

/-- The text of a number's lowest bits, the lowest first. -/
def txS (k : Nat) : Nat → ByteArray
  | 0 => ⟨#[]⟩
  | i + 1 => txS k i ++ (if k / 2 ^ i % 2 = 0 then ⟨#[48]⟩ else ⟨#[49]⟩)
theorem txS_size (k : Nat) : ∀ i, (txS k i).size = i
  | 0 => rfl
  | i + 1 => by
    show (txS k i ++ _).size = _
    rw [ByteArray.size_append, txS_size k i]
    split <;> rfl
theorem txS_at (k : Nat) : ∀ i j (hj : j < (txS k i).size), (txS k i)[j]'hj = if k / 2 ^ j % 2 = 0 then 48 else 49
  | 0, j, hj => absurd hj (Nat.not_lt_zero _)
  | i + 1, j, hj => by
    have hs := txS_size k i
    have hj2 : j < i + 1 := by rw [txS_size] at hj; exact hj
    have key : ∀ (T : ByteArray) (hT : T = txS k i ++ (if k / 2 ^ i % 2 = 0 then ⟨#[48]⟩ else ⟨#[49]⟩)) (hj : j < T.size), T[j]'hj = if k / 2 ^ j % 2 = 0 then 48 else 49 := by
      intro T hT hj
      subst hT
      rcases Nat.lt_or_ge j i with h | h
      · rw [ByteArray.getElem_append_left (by rw [hs]; exact h)]
        exact txS_at k i j _
      · obtain rfl : j = i := by omega
        rw [ByteArray.getElem_append_right (by rw [hs]; exact Nat.le_refl _)]
        rcases Nat.mod_two_eq_zero_or_one (k / 2 ^ j) with e | e
        · simp only [e, if_pos, hs, Nat.sub_self]; rfl
        · simp only [e, Nat.one_ne_zero, if_false, hs, Nat.sub_self]; rfl
    exact key _ rfl hj
theorem txS_bitN {k i j : Nat} (h : j < i) : bitN (txS k i) j = bitR k j := by
  unfold bitN bitR
  rw [dif_pos (by rw [txS_size]; exact h), txS_at]
  rcases Nat.mod_two_eq_zero_or_one (k / 2 ^ j) with e | e
  · rw [e]; decide
  · rw [e]; decide
theorem txS_bitB (k i : Nat) : bitB (txS k i) = true := by
  unfold bitB
  rw [List.all_eq_true]
  intro c hc
  obtain ⟨j, hj, rfl⟩ := List.getElem_of_mem hc
  have h2 : j < (txS k i).size := by have h3 := hj; rw [Array.length_toList] at h3; exact h3
  have h4 : (txS k i).data.toList[j] = if k / 2 ^ j % 2 = 0 then 48 else 49 := txS_at k i j h2
  rw [h4]
  split <;> rfl
theorem resF_congr {x : Nat → Nat} {n D : Nat} : ∀ {t d v : Nat} {b b' : Nat → Nat}, (∀ j, j < t → b j = b' j) → resF x n D t d v b = resF x n D t d v b'
  | 0, d, v, b, b', _ => rfl
  | t + 1, d, v, b, b', h => by
    rw [resF, resF, h 0 (by omega), resF_congr (b := fun j => b (j + 1)) (b' := fun j => b' (j + 1)) (fun j hj => h (j + 1) (by omega)), resF_congr (d := d + 1) (b := fun j => b (j + 1)) (b' := fun j => b' (j + 1)) (fun j hj => h (j + 1) (by omega))]
theorem resF_lt {x : Nat → Nat} {n D : Nat} : ∀ {t d v : Nat} {b : Nat → Nat} {k : Nat}, resF x n D t d v b = some k → k < n
  | 0, d, v, b, k, h => by
    rw [resF] at h
    split at h
    · split at h
      · cases h; assumption
      · cases h
    · cases h
  | t + 1, d, v, b, k, h => by
    rw [resF] at h
    split at h
    · split at h
      · cases h; assumption
      · exact resF_lt h
    · exact resF_lt h
theorem flS_le {x : Nat → Nat} {n D L : Nat} {s : Nat → Nat} {k u' : Nat} : ∀ {f d v u : Nat}, u ≤ L → flS x n D L s f d v u = some (some (k, u')) → u' ≤ L
  | 0, d, v, u, _, h => by cases h
  | f + 1, d, v, u, hu, h => by
    rw [flS] at h
    split at h
    · split at h
      · cases h; exact hu
      · exact flS_le hu h
    · split at h
      · cases h
      · exact flS_le (by omega) h
/-- What Draw gives on a row of bits. -/
theorem row_comes {x : Nat → Nat} {n D B r : Nat} {q : Option (Nat × Nat)} (hs : sumX x (n + 1) = 2 ^ D) (hn : x n < 2 ^ D) (h : Comes x n D (txS r B).size (bitN (txS r B)) 0 0 0 q) :
    (q = none ∧ resF x n D B 0 0 (bitR r) = none) ∨ ∃ k u, q = some (k, u) ∧ resF x n D B 0 0 (bitR r) = some k ∧ k < n ∧ u ≤ B := by
  rw [txS_size] at h
  obtain ⟨q2, h2, h3⟩ := resF_comes (L := B) (s := bitN (txS r B)) hs hn B 0 0 0 (by omega)
  obtain rfl := h.same h2
  rw [resF_congr (b' := bitR r) (fun j hj => by show bitN (txS r B) (0 + j) = _; rw [Nat.zero_add]; exact txS_bitN hj)] at h3
  cases q with
  | none => exact Or.inl ⟨rfl, h3.symm⟩
  | some p =>
    obtain ⟨k, u⟩ := p
    have h4 : resF x n D B 0 0 (bitR r) = some k := h3.symm
    obtain ⟨f, h5⟩ := h
    exact Or.inr ⟨k, u, rfl, h4, resF_lt h4, flS_le (Nat.zero_le _) h5⟩
/-- Each row comes to one outcome, or to none. -/
theorem cnt_parts {F : Nat → Option Nat} {n : Nat} (hF : ∀ r k, F r = some k → k < n) : ∀ m, sumF (fun i => cntR (fun r => F r == some i) m) n + cntR (fun r => F r == none) m = m
  | 0 => by
    have : ∀ n, sumF (fun i => cntR (fun r => F r == some i) 0) n = 0 := fun n => by
      induction n with
      | zero => rfl
      | succ n ih => rw [sumF, ih]; rfl
    rw [this]; rfl
  | m + 1 => by
    have ih := cnt_parts hF m
    have e : ∀ N, sumF (fun i => cntR (fun r => F r == some i) (m + 1)) N = sumF (fun i => cntR (fun r => F r == some i) m) N + sumF (fun i => if i = (F m).getD n then (if F m = none then 0 else 1) else 0) N := fun N => by
      induction N with
      | zero => rfl
      | succ N ih2 =>
        rw [sumF, ih2, sumF, sumF, cntR]
        have : (if (F m == some N) = true then 1 else 0) = if N = (F m).getD n then (if F m = none then 0 else 1) else 0 := by
          cases hf : F m with
          | none => simp
          | some k =>
            by_cases hk : k = N
            · subst hk; simp
            · have h2 : ¬ N = k := fun e => hk e.symm
              simp [hk, h2]
        rw [this]; omega
    rw [e n, cntR]
    cases hf : F m with
    | none =>
      have h0 : ∀ N, sumF (fun i => if i = (none : Option Nat).getD n then (if (none : Option Nat) = none then 0 else 1) else 0) N = 0 := fun N => by
        induction N with
        | zero => rfl
        | succ N ih2 => rw [sumF, ih2]; simp
      rw [h0, if_pos (show ((none : Option Nat) == none) = true from rfl)]; omega
    | some k =>
      have h1 := sumF_one (i := k) (fun _ => 1) (hF m k hf)
      have h2 : sumF (fun i => if i = (some k : Option Nat).getD n then (if (some k : Option Nat) = none then 0 else 1) else 0) n = 1 := by
        refine Eq.trans (sumF_congr fun i _ => ?_) h1
        simp
      rw [h2, if_neg (show ¬ ((some k : Option Nat) == none) = true by simp)]; omega
theorem sumF_le {f g : Nat → Nat} : ∀ {m : Nat}, (∀ i, i < m → f i ≤ g i) → sumF f m ≤ sumF g m
  | 0, _ => Nat.le_refl _
  | m + 1, h => by
    have h1 := sumF_le (f := f) (g := g) (m := m) (fun i hi => h i (by omega))
    have h2 := h m (by omega)
    rw [sumF, sumF]; omega
theorem sumF_gap {f g : Nat → Nat} : ∀ {m k : Nat}, (∀ i, i < m → f i ≤ g i) → k < m → sumF f m + g k ≤ sumF g m + f k
  | 0, k, _, hk => absurd hk (Nat.not_lt_zero _)
  | m + 1, k, h, hk => by
    rw [sumF, sumF]
    have h2 := h m (by omega)
    rcases Nat.lt_or_ge k m with h3 | h3
    · have h1 := sumF_gap (f := f) (g := g) (m := m) (fun i hi => h i (by omega)) h3
      omega
    · obtain rfl : k = m := by omega
      have h1 := sumF_le (f := f) (g := g) (m := k) (fun i hi => h i (by omega))
      omega
theorem sumF_mul (f : Nat → Nat) (c : Nat) : ∀ m, sumF (fun i => f i * c) m = sumF f m * c
  | 0 => (Nat.zero_mul _).symm
  | m + 1 => by rw [sumF, sumF, sumF_mul f c m, Nat.add_mul]
theorem sumX_F (x : Nat → Nat) : ∀ m, sumX x m = sumF x m
  | 0 => rfl
  | m + 1 => by rw [sumX, sumF, sumX_F x m]
/-- How many of the first m rows come to outcome k; and how many to none. -/
def gotS (x : Nat → Nat) (n D B m k : Nat) : Nat := cntR (fun r => resF x n D B 0 0 (bitR r) == some k) m
def opnS (x : Nat → Nat) (n D B m : Nat) : Nat := cntR (fun r => resF x n D B 0 0 (bitR r) == none) m
theorem got_zero (x : Nat → Nat) (n D B k : Nat) : gotS x n D B 0 k = 0 := rfl
theorem opn_zero (x : Nat → Nat) (n D B : Nat) : opnS x n D B 0 = 0 := rfl
theorem got_none {x : Nat → Nat} {n D B m : Nat} (h : resF x n D B 0 0 (bitR m) = none) (k : Nat) : gotS x n D B (m + 1) k = gotS x n D B m k ∧ opnS x n D B (m + 1) = opnS x n D B m + 1 := by
  unfold gotS opnS
  rw [cntR, cntR, h]
  simp
theorem got_some {x : Nat → Nat} {n D B m j : Nat} (h : resF x n D B 0 0 (bitR m) = some j) (k : Nat) : (gotS x n D B (m + 1) k = if k = j then gotS x n D B m j + 1 else gotS x n D B m k) ∧ opnS x n D B (m + 1) = opnS x n D B m := by
  unfold gotS opnS
  rw [cntR, cntR, h]
  refine ⟨?_, by simp⟩
  by_cases hk : k = j
  · subst hk; simp
  · have h2 : ¬ j = k := fun e => hk e.symm
    simp [hk, h2]
theorem cntR_le (p : Nat → Bool) : ∀ m, cntR p m ≤ m
  | 0 => Nat.le_refl _
  | m + 1 => by have := cntR_le p m; rw [cntR]; split <;> omega
theorem got_le (x : Nat → Nat) (n D B m k : Nat) : gotS x n D B m k ≤ m := cntR_le _ _
theorem opn_le (x : Nat → Nat) (n D B m : Nat) : opnS x n D B m ≤ m := cntR_le _ _
theorem fair_end {x : Nat → Nat} {n D B S k : Nat} (hs : sumX x (n + 1) = 2 ^ D) (hn : x n < 2 ^ D) (hS : sumX x n = S) (hk : k < n) :
    gotS x n D B (2 ^ B) k * S ≤ x k * 2 ^ B ∧ x k * 2 ^ B ≤ (gotS x n D B (2 ^ B) k + opnS x n D B (2 ^ B)) * S := by
  have h1 : ∀ i, i < n → gotS x n D B (2 ^ B) i * S ≤ x i * 2 ^ B := fun i hi => (fair_all hs hn hS hi B).1
  refine ⟨h1 k hk, ?_⟩
  have h2 := sumF_gap (f := fun i => gotS x n D B (2 ^ B) i * S) (g := fun i => x i * 2 ^ B) h1 hk
  rw [sumF_mul, sumF_mul, ← sumX_F x, hS] at h2
  have h3 : sumF (gotS x n D B (2 ^ B)) n + opnS x n D B (2 ^ B) = 2 ^ B := cnt_parts (F := fun r => resF x n D B 0 0 (bitR r)) (fun r k h => resF_lt h) (2 ^ B)
  have h4 : S * 2 ^ B = (sumF (gotS x n D B (2 ^ B)) n + opnS x n D B (2 ^ B)) * S := by rw [h3, Nat.mul_comm]
  rw [Nat.add_mul] at h4 ⊢
  omega
end Go.Proofs.YtobmngkaoahmiaaDoor
