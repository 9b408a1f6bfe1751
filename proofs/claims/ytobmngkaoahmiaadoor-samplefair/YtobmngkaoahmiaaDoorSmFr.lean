/- Of all rows of so many bits: how many come to an outcome. -/
import Derived.Test.YtobmngkaoahmiaaDoorSmMath
namespace Go.Proofs.YtobmngkaoahmiaaDoor

/-- Where bits lead to: t of them, from a place of the tree on. -/
def resF (x : Nat → Nat) (n D : Nat) : Nat → Nat → Nat → (Nat → Nat) → Option Nat
  | 0, d, v, _ => if v < (lvs x (D - d) (n + 1)).length then (if (lvs x (D - d) (n + 1)).getD v 0 < n then some ((lvs x (D - d) (n + 1)).getD v 0) else none) else none
  | t + 1, d, v, b =>
    if v < (lvs x (D - d) (n + 1)).length then (if (lvs x (D - d) (n + 1)).getD v 0 < n then some ((lvs x (D - d) (n + 1)).getD v 0) else resF x n D t 1 (b 0) (fun j => b (j + 1)))
    else resF x n D t (d + 1) (2 * (v - (lvs x (D - d) (n + 1)).length) + b 0) (fun j => b (j + 1))
theorem root_none {x : Nat → Nat} {n D : Nat} (h : sumX x (n + 1) = 2 ^ D) (h0 : 0 < x n) (hn : x n < 2 ^ D) : (lvs x D (n + 1)).length = 0 := by
  rcases Nat.eq_zero_or_pos (lvs x D (n + 1)).length with h1 | h1
  · exact h1
  · have h2 := root_leaf h h1
    have h3 := (lvs_at h1).1
    generalize (lvs x D (n + 1)).getD 0 0 = i at *
    rcases Nat.lt_or_ge i n with h4 | h4
    · have h5 := sumX_ge (x := x) h4
      rw [sumX] at h
      omega
    · obtain rfl : i = n := by omega
      omega
theorem again_pos {x : Nat → Nat} {n k m v : Nat} (h : v < (lvs x k m).length) (hv : (lvs x k m).getD v 0 = n) : 0 < x n := by
  have := (lvs_at h).2
  rw [hv] at this
  rcases Nat.eq_zero_or_pos (x n) with e | e
  · rw [e] at this; simp at this
  · exact e
theorem resF_comes {x : Nat → Nat} {n D L : Nat} {s : Nat → Nat} (hs : sumX x (n + 1) = 2 ^ D) (hn : x n < 2 ^ D) : ∀ (t d v u : Nat), u + t = L → ∃ r, Comes x n D L s d v u r ∧ r.map Prod.fst = resF x n D t d v (fun j => s (u + j))
  | 0, d, v, u, hu => by
    obtain rfl : u = L := by omega
    rw [resF]
    by_cases h1 : v < (lvs x (D - d) (n + 1)).length
    · rw [if_pos h1]
      by_cases h2 : (lvs x (D - d) (n + 1)).getD v 0 < n
      · rw [if_pos h2]; exact ⟨_, comes_leaf h1 h2, rfl⟩
      · rw [if_neg h2]
        have h3 := (lvs_at h1).1
        have h4 := root_none hs (again_pos h1 (show _ = n by omega)) hn
        exact ⟨none, comes_again h1 h2 (comes_none (by rw [Nat.sub_zero, h4]; omega)), rfl⟩
    · rw [if_neg h1]; exact ⟨none, comes_none h1, rfl⟩
  | t + 1, d, v, u, hu => by
    rw [resF]
    by_cases h1 : v < (lvs x (D - d) (n + 1)).length
    · rw [if_pos h1]
      by_cases h2 : (lvs x (D - d) (n + 1)).getD v 0 < n
      · rw [if_pos h2]; exact ⟨_, comes_leaf h1 h2, rfl⟩
      · rw [if_neg h2]
        have h3 := (lvs_at h1).1
        have h4 := root_none hs (again_pos h1 (show _ = n by omega)) hn
        obtain ⟨r, h5, h6⟩ := resF_comes (L := L) (s := s) hs hn t 1 (s u) (u + 1) (by omega)
        refine ⟨r, comes_again h1 h2 (comes_step (by rw [Nat.sub_zero, h4]; omega) (show u ≠ L by omega) ?_), ?_⟩
        · rw [Nat.sub_zero, h4]; simpa using h5
        · rw [h6]; congr 1
          funext j; show s (u + 1 + j) = s (u + (j + 1)); congr 1; omega
    · rw [if_neg h1]
      obtain ⟨r, h5, h6⟩ := resF_comes (L := L) (s := s) hs hn t (d + 1) (2 * (v - (lvs x (D - d) (n + 1)).length) + s u) (u + 1) (by omega)
      refine ⟨r, comes_step h1 (show u ≠ L by omega) h5, ?_⟩
      rw [h6]; congr 1
      funext j; show s (u + 1 + j) = s (u + (j + 1)); congr 1; omega
/-- How many of the first R numbers. -/
def cntR (p : Nat → Bool) : Nat → Nat
  | 0 => 0
  | k + 1 => cntR p k + (if p k = true then 1 else 0)
theorem cntR_congr {p q : Nat → Bool} : ∀ {m : Nat}, (∀ i, i < m → p i = q i) → cntR p m = cntR q m
  | 0, _ => rfl
  | m + 1, h => by rw [cntR, cntR, cntR_congr (fun i hi => h i (by omega)), h m (by omega)]
theorem cntR_split (p : Nat → Bool) : ∀ m, cntR p (2 * m) = cntR (fun q => p (2 * q)) m + cntR (fun q => p (2 * q + 1)) m
  | 0 => rfl
  | m + 1 => by
    rw [show 2 * (m + 1) = 2 * m + 1 + 1 by omega, cntR, cntR, cntR_split p m, cntR, cntR]
    omega
theorem cntR_all {p : Nat → Bool} : ∀ {m : Nat}, (∀ i, i < m → p i = true) → cntR p m = m
  | 0, _ => rfl
  | m + 1, h => by rw [cntR, cntR_all (fun i hi => h i (by omega)), h m (by omega)]; rfl
theorem cntR_none {p : Nat → Bool} : ∀ {m : Nat}, (∀ i, i < m → p i = false) → cntR p m = 0
  | 0, _ => rfl
  | m + 1, h => by rw [cntR, cntR_none (fun i hi => h i (by omega)), h m (by omega)]; rfl
/-- The bits of a row's number. -/
def bitR (r j : Nat) : Nat := r / 2 ^ j % 2
theorem bitR_even (q : Nat) : bitR (2 * q) 0 = 0 ∧ (fun j => bitR (2 * q) (j + 1)) = bitR q := by
  refine ⟨by simp [bitR], ?_⟩
  funext j
  unfold bitR
  rw [Nat.pow_succ, Nat.mul_comm (2 ^ j) 2, ← Nat.div_div_eq_div_mul, show 2 * q / 2 = q by omega]
theorem bitR_odd (q : Nat) : bitR (2 * q + 1) 0 = 1 ∧ (fun j => bitR (2 * q + 1) (j + 1)) = bitR q := by
  refine ⟨by simp [bitR] <;> omega, ?_⟩
  funext j
  unfold bitR
  rw [Nat.pow_succ, Nat.mul_comm (2 ^ j) 2, ← Nat.div_div_eq_div_mul, show (2 * q + 1) / 2 = q by omega]
/-- How many rows of t bits come to outcome i, from a place on. -/
def cmG (x : Nat → Nat) (n D i t d v : Nat) : Nat := cntR (fun r => resF x n D t d v (bitR r) == some i) (2 ^ t)
theorem cmG_leaf {x : Nat → Nat} {n D i t d v : Nat} (h1 : v < (lvs x (D - d) (n + 1)).length) (h2 : (lvs x (D - d) (n + 1)).getD v 0 < n) : cmG x n D i t d v = if (lvs x (D - d) (n + 1)).getD v 0 = i then 2 ^ t else 0 := by
  have e : ∀ r, resF x n D t d v (bitR r) = some ((lvs x (D - d) (n + 1)).getD v 0) := fun r => by
    cases t with
    | zero => rw [resF, if_pos h1, if_pos h2]
    | succ t => rw [resF, if_pos h1, if_pos h2]
  unfold cmG
  by_cases h : (lvs x (D - d) (n + 1)).getD v 0 = i
  · rw [if_pos h]; exact cntR_all fun r _ => by rw [e, h]; simp
  · rw [if_neg h]; exact cntR_none fun r _ => by rw [e]; simpa using h
theorem cmG_half {x : Nat → Nat} {n D i t d v d' v' : Nat} (h : ∀ b, resF x n D (t + 1) d v b = resF x n D t d' (v' + b 0) (fun j => b (j + 1))) : cmG x n D i (t + 1) d v = cmG x n D i t d' v' + cmG x n D i t d' (v' + 1) := by
  unfold cmG
  rw [Nat.pow_succ, Nat.mul_comm, cntR_split]
  congr 1
  · refine cntR_congr fun q _ => ?_
    rw [h, (bitR_even q).1, (bitR_even q).2, Nat.add_zero]
  · refine cntR_congr fun q _ => ?_
    rw [h, (bitR_odd q).1, (bitR_odd q).2]
theorem cmG_inner {x : Nat → Nat} {n D i t d v : Nat} (h1 : ¬ v < (lvs x (D - d) (n + 1)).length) : cmG x n D i (t + 1) d v = cmG x n D i t (d + 1) (2 * (v - (lvs x (D - d) (n + 1)).length)) + cmG x n D i t (d + 1) (2 * (v - (lvs x (D - d) (n + 1)).length) + 1) :=
  cmG_half fun b => by rw [resF, if_neg h1]
theorem cmG_none {x : Nat → Nat} {n D i d v : Nat} (h1 : ¬ v < (lvs x (D - d) (n + 1)).length) : cmG x n D i 0 d v = 0 :=
  cntR_none fun r _ => by rw [resF, if_neg h1]; rfl
theorem cmG_again {x : Nat → Nat} {n D i t d v : Nat} (hs : sumX x (n + 1) = 2 ^ D) (hn : x n < 2 ^ D) (h1 : v < (lvs x (D - d) (n + 1)).length) (h2 : (lvs x (D - d) (n + 1)).getD v 0 = n) : cmG x n D i t d v = cmG x n D i t 0 0 := by
  have h4 := root_none hs (again_pos h1 h2) hn
  have h5 : ¬ 0 < (lvs x (D - 0) (n + 1)).length := by rw [Nat.sub_zero, h4]; omega
  unfold cmG
  refine cntR_congr fun r _ => ?_
  congr 1
  cases t with
  | zero => rw [resF, if_pos h1, if_neg (by omega), resF, if_neg h5]
  | succ t => rw [resF, if_pos h1, if_neg (by omega), resF, if_neg h5]; simp [h4]

def sumF (f : Nat → Nat) : Nat → Nat
  | 0 => 0
  | m + 1 => sumF f m + f m
theorem sumF_congr {f g : Nat → Nat} : ∀ {m : Nat}, (∀ i, i < m → f i = g i) → sumF f m = sumF g m
  | 0, _ => rfl
  | m + 1, h => by rw [sumF, sumF, sumF_congr (fun i hi => h i (by omega)), h m (by omega)]
theorem sumF_add (f : Nat → Nat) (a : Nat) : ∀ b, sumF f (a + b) = sumF f a + sumF (fun i => f (a + i)) b
  | 0 => rfl
  | b + 1 => by rw [Nat.add_succ, sumF, sumF, sumF_add f a b]; omega
theorem sumF_two (f : Nat → Nat) : ∀ m, sumF (fun y => f (2 * y) + f (2 * y + 1)) m = sumF f (2 * m)
  | 0 => rfl
  | m + 1 => by rw [sumF, sumF_two f m, show 2 * (m + 1) = 2 * m + 1 + 1 by omega, sumF, sumF]; omega
/-- What is summed over the leaves of a depth is summed over the outcomes that have one. -/
theorem sumF_leaves (x : Nat → Nat) (k : Nat) (f : Nat → Nat) : ∀ m, sumF (fun v => f ((lvs x k m).getD v 0)) (lvs x k m).length = sumF (fun j => x j / 2 ^ k % 2 * f j) m
  | 0 => rfl
  | m + 1 => by
    have ih := sumF_leaves x k f m
    rw [sumF, ← ih]
    rw [lvs]
    split
    · next h =>
      rw [List.length_append, List.length_singleton, sumF, h, Nat.one_mul]
      congr 1
      · refine sumF_congr fun v hv => ?_
        simp only [List.getD_eq_getElem?_getD]
        rw [List.getElem?_append_left hv]
      · simp only [List.getD_eq_getElem?_getD]
        rw [List.getElem?_append_right (Nat.le_refl _)]
        simp
    · next h =>
      have h0 : x m / 2 ^ k % 2 = 0 := by omega
      rw [h0, Nat.zero_mul, List.append_nil, Nat.add_zero]
theorem sumF_one {i : Nat} (c : Nat → Nat) : ∀ {m : Nat}, i < m → sumF (fun j => if j = i then c j else 0) m = c i
  | 0, h => by omega
  | m + 1, h => by
    rw [sumF]
    by_cases he : m = i
    · subst he
      rw [if_pos rfl]
      have : sumF (fun j => if j = m then c j else 0) m = 0 := by
        have h9 : ∀ k, k ≤ m → sumF (fun j => if j = m then c j else 0) k = 0 := fun k => by
          induction k with
          | zero => intro _; rfl
          | succ k ih => intro hk; rw [sumF, ih (by omega), if_neg (by omega)]
        exact h9 m (Nat.le_refl _)
      omega
    · rw [if_neg he, sumF_one c (show i < m by omega)]; rfl
/-- All places of a depth together. -/
theorem depth_sum {x : Nat → Nat} {n D i t d N : Nat} (hs : sumX x (n + 1) = 2 ^ D) (hn : x n < 2 ^ D) (hi : i < n) (hN : (lvs x (D - d) (n + 1)).length ≤ N) :
    sumF (fun v => cmG x n D i t d v) N = x i / 2 ^ (D - d) % 2 * 2 ^ t + x n / 2 ^ (D - d) % 2 * cmG x n D i t 0 0 + (if t = 0 then 0 else sumF (fun v => cmG x n D i (t - 1) (d + 1) v) (2 * (N - (lvs x (D - d) (n + 1)).length))) := by
  obtain ⟨M, rfl⟩ : ∃ M, N = (lvs x (D - d) (n + 1)).length + M := ⟨N - (lvs x (D - d) (n + 1)).length, by omega⟩
  rw [sumF_add, Nat.add_sub_cancel_left]
  congr 1
  · have e1 : sumF (fun v => cmG x n D i t d v) (lvs x (D - d) (n + 1)).length = sumF (fun v => (fun j => if j < n then (if j = i then 2 ^ t else 0) else cmG x n D i t 0 0) ((lvs x (D - d) (n + 1)).getD v 0)) (lvs x (D - d) (n + 1)).length := by
      refine sumF_congr fun v hv => ?_
      have h3 := (lvs_at hv).1
      dsimp only
      split
      · next h => exact cmG_leaf hv h
      · next h => exact cmG_again hs hn hv (by omega)
    rw [e1, show sumF (fun v => (fun j => if j < n then (if j = i then 2 ^ t else 0) else cmG x n D i t 0 0) ((lvs x (D - d) (n + 1)).getD v 0)) (lvs x (D - d) (n + 1)).length = sumF (fun j => x j / 2 ^ (D - d) % 2 * (if j < n then (if j = i then 2 ^ t else 0) else cmG x n D i t 0 0)) (n + 1) from sumF_leaves x (D - d) (fun j => if j < n then (if j = i then 2 ^ t else 0) else cmG x n D i t 0 0) (n + 1), sumF, if_neg (Nat.lt_irrefl n)]
    congr 1
    rw [show sumF (fun j => x j / 2 ^ (D - d) % 2 * (if j < n then (if j = i then 2 ^ t else 0) else cmG x n D i t 0 0)) n = sumF (fun j => if j = i then x j / 2 ^ (D - d) % 2 * 2 ^ t else 0) n from sumF_congr fun j hj => by
      rw [if_pos hj]
      split <;> simp]
    exact sumF_one (fun j => x j / 2 ^ (D - d) % 2 * 2 ^ t) hi
  · cases t with
    | zero =>
      rw [if_pos rfl]
      have h9 : ∀ k, sumF (fun y => cmG x n D i 0 d ((lvs x (D - d) (n + 1)).length + y)) k = 0 := fun k => by
        induction k with
        | zero => rfl
        | succ k ih => rw [sumF, ih, cmG_none (by omega)]
      exact h9 M
    | succ t =>
      rw [if_neg (by omega), Nat.add_sub_cancel, ← sumF_two]
      refine sumF_congr fun y _ => ?_
      rw [cmG_inner (by omega), Nat.add_sub_cancel_left]
/-- No more rows come to an outcome than its chance says. -/
theorem fair_all {x : Nat → Nat} {n D i S : Nat} (hs : sumX x (n + 1) = 2 ^ D) (hn : x n < 2 ^ D) (hS : sumX x n = S) (hi : i < n) : ∀ t, cmG x n D i t 0 0 * S ≤ x i * 2 ^ t ∧ ∀ k d N, d + k = D → N * 2 ^ k = lowS x (k + 1) (n + 1) → S * sumF (fun v => cmG x n D i t d v) N * 2 ^ k ≤ 2 ^ t * (S * (x i % 2 ^ (k + 1)) + x i * (x n % 2 ^ (k + 1))) := fun t => by
  have hle : ∀ j, j < n + 1 → x j ≤ 2 ^ D := fun j hj => by have := sumX_ge (x := x) hj; omega
  have hxi := hle i (by omega)
  have hp := Nat.two_pow_pos D
  have hSx : S + x n = 2 ^ D := by rw [sumX, hS] at hs; exact hs
  induction t with
  | zero =>
    have h0 : cmG x n D i 0 0 0 * S ≤ x i * 2 ^ 0 := by
      rcases Nat.eq_zero_or_pos (cmG x n D i 0 0 0) with e | e
      · rw [e]; omega
      · have h1 := depth_sum (t := 0) (d := 0) (N := 1) hs hn hi (by
          rcases Nat.lt_or_ge 1 (lvs x (D - 0) (n + 1)).length with h | h
          · have h2 := lowS_succ x D (n + 1)
            rw [lowS_all (fun j hj => by have := hle j hj; rw [Nat.pow_succ]; omega), hs] at h2
            rw [Nat.sub_zero] at h
            have h3 : 2 * 2 ^ D ≤ (lvs x D (n + 1)).length * 2 ^ D := Nat.mul_le_mul_right _ h
            omega
          · exact h)
        have h2 : x n / 2 ^ (D - 0) % 2 = 0 := by rw [Nat.sub_zero, Nat.div_eq_of_lt hn]
        rw [h2, Nat.zero_mul, if_pos rfl, Nat.sub_zero] at h1
        have h3 : sumF (fun v => cmG x n D i 0 0 v) 1 = cmG x n D i 0 0 0 := by show 0 + _ = _; rw [Nat.zero_add]
        rw [h3, Nat.pow_zero, Nat.mul_one] at h1
        have h4 : x i / 2 ^ D ≠ 0 := fun h => by rw [h] at h1; simp at h1; omega
        have h5 : 2 ^ D ≤ x i := by
          rcases Nat.lt_or_ge (x i) (2 ^ D) with h | h
          · exact absurd (Nat.div_eq_of_lt h) h4
          · exact h
        have h6 : x i / 2 ^ D % 2 ≤ 1 := by omega
        rw [h1]
        have h7 : (x i / 2 ^ D % 2 + 0 + 0) * S ≤ 1 * S := Nat.mul_le_mul_right _ (by omega)
        omega
    refine ⟨h0, fun k d N hdk hN => ?_⟩
    have hl : (lvs x (D - d) (n + 1)).length ≤ N := by
      rw [show D - d = k by omega]
      rw [lowS_succ] at hN
      have : (lvs x k (n + 1)).length * 2 ^ k ≤ N * 2 ^ k := by omega
      exact Nat.le_of_mul_le_mul_right this (Nat.two_pow_pos k)
    have h1 := depth_sum (t := 0) hs hn hi hl
    rw [if_pos rfl, show D - d = k by omega] at h1
    rw [h1]
    have m1 : x i % 2 ^ (k + 1) = x i % 2 ^ k + 2 ^ k * (x i / 2 ^ k % 2) := Nat.mod_pow_succ
    have m2 : x n % 2 ^ (k + 1) = x n % 2 ^ k + 2 ^ k * (x n / 2 ^ k % 2) := Nat.mod_pow_succ
    rw [m1, m2]
    generalize x i / 2 ^ k % 2 = bi at *
    generalize x n / 2 ^ k % 2 = bn at *
    generalize cmG x n D i 0 0 0 = A at *
    generalize 2 ^ k = K at *
    have e1 : bn * (A * S) * K ≤ bn * (x i * 2 ^ 0) * K := Nat.mul_le_mul_right _ (Nat.mul_le_mul_left _ h0)
    calc S * (bi * 2 ^ 0 + bn * A + 0) * K = S * bi * K + bn * (A * S) * K := by grind
      _ ≤ S * bi * K + bn * (x i * 2 ^ 0) * K := Nat.add_le_add_left e1 _
      _ ≤ 2 ^ 0 * (S * (x i % K + K * bi) + x i * (x n % K + K * bn)) := by
        have : S * bi * K + bn * (x i * 2 ^ 0) * K = S * (K * bi) + x i * (K * bn) := by grind
        rw [this, Nat.pow_zero, Nat.one_mul, Nat.mul_add, Nat.mul_add]
        omega
  | succ t ih =>
    obtain ⟨_, ihd⟩ := ih
    have step : ∀ k d N, d + k = D → N * 2 ^ k = lowS x (k + 1) (n + 1) → ∃ B, sumF (fun v => cmG x n D i (t + 1) d v) N = x i / 2 ^ k % 2 * 2 ^ (t + 1) + x n / 2 ^ k % 2 * cmG x n D i (t + 1) 0 0 + B ∧ S * B * 2 ^ k ≤ 2 ^ (t + 1) * (S * (x i % 2 ^ k) + x i * (x n % 2 ^ k)) := fun k d N hdk hN => by
      have hl0 : (lvs x k (n + 1)).length * 2 ^ k + lowS x k (n + 1) = N * 2 ^ k := by rw [hN, lowS_succ]
      have hl : (lvs x (D - d) (n + 1)).length ≤ N := by
        rw [show D - d = k by omega]
        have : (lvs x k (n + 1)).length * 2 ^ k ≤ N * 2 ^ k := by omega
        exact Nat.le_of_mul_le_mul_right this (Nat.two_pow_pos k)
      have h1 := depth_sum (t := t + 1) hs hn hi hl
      rw [if_neg (by omega), show D - d = k by omega, Nat.add_sub_cancel] at h1
      refine ⟨_, h1, ?_⟩
      rw [show D - d = k by omega] at hl
      cases k with
      | zero =>
        have h2 : lowS x 0 (n + 1) = 0 := by
          have : ∀ m, lowS x 0 m = 0 := fun m => by
            induction m with
            | zero => rfl
            | succ m ih => rw [lowS, ih]; simp [Nat.mod_one]
          exact this _
        rw [h2] at hl0
        have h3 : N - (lvs x 0 (n + 1)).length = 0 := by simp at hl0; omega
        rw [h3]
        show S * 0 * _ ≤ _
        rw [Nat.mul_zero, Nat.zero_mul]; exact Nat.zero_le _
      | succ k =>
        have h2 : 2 * (N - (lvs x (k + 1) (n + 1)).length) * 2 ^ k = lowS x (k + 1) (n + 1) := by
          obtain ⟨M, hM⟩ : ∃ M, N = (lvs x (k + 1) (n + 1)).length + M := ⟨N - (lvs x (k + 1) (n + 1)).length, by omega⟩
          rw [hM, Nat.add_mul] at hl0
          rw [hM, Nat.add_sub_cancel_left]
          have : 2 * M * 2 ^ k = M * 2 ^ (k + 1) := by rw [Nat.pow_succ]; grind
          omega
        have h3 := ihd k (d + 1) _ (by omega) h2
        generalize sumF (fun v => cmG x n D i t (d + 1) v) (2 * (N - (lvs x (k + 1) (n + 1)).length)) = B at *
        have e1 : S * B * 2 ^ (k + 1) = 2 * (S * B * 2 ^ k) := by rw [Nat.pow_succ]; grind
        have e2 : ∀ y, 2 ^ (t + 1) * y = 2 * (2 ^ t * y) := fun y => by rw [Nat.pow_succ]; grind
        rw [e1, e2]
        exact Nat.mul_le_mul_left _ h3
    have hlow : lowS x (D + 1) (n + 1) = 2 ^ D := by rw [lowS_all (fun j hj => by have := hle j hj; rw [Nat.pow_succ]; omega), hs]
    have h0 : cmG x n D i (t + 1) 0 0 * S ≤ x i * 2 ^ (t + 1) := by
      obtain ⟨B, h1, h2⟩ := step D 0 1 (by omega) (by rw [hlow]; omega)
      have h3 : sumF (fun v => cmG x n D i (t + 1) 0 v) 1 = cmG x n D i (t + 1) 0 0 := by show 0 + _ = _; rw [Nat.zero_add]
      rw [h3, Nat.div_eq_of_lt hn, Nat.zero_mod, Nat.zero_mul, Nat.add_zero] at h1
      rw [Nat.mod_eq_of_lt hn] at h2
      have m1 : x i % 2 ^ (D + 1) = x i % 2 ^ D + 2 ^ D * (x i / 2 ^ D % 2) := Nat.mod_pow_succ
      rw [Nat.mod_eq_of_lt (show x i < 2 ^ (D + 1) by rw [Nat.pow_succ]; omega)] at m1
      rw [h1]
      generalize x i / 2 ^ D % 2 = bi at *
      generalize x i % 2 ^ D = ri at *
      generalize 2 ^ (t + 1) = T at *
      refine Nat.le_of_mul_le_mul_right (c := 2 ^ D) ?_ hp
      calc (bi * T + B) * S * 2 ^ D = T * (S * (2 ^ D * bi)) + S * B * 2 ^ D := by grind
        _ ≤ T * (S * (2 ^ D * bi)) + T * (S * ri + x i * x n) := Nat.add_le_add_left h2 _
        _ = T * (S * (ri + 2 ^ D * bi) + x i * x n) := by grind
        _ = T * (x i * (S + x n)) := by rw [← m1]; grind
        _ = x i * T * 2 ^ D := by rw [hSx]; grind
    refine ⟨h0, fun k d N hdk hN => ?_⟩
    obtain ⟨B, h1, h2⟩ := step k d N hdk hN
    rw [h1]
    have m1 : x i % 2 ^ (k + 1) = x i % 2 ^ k + 2 ^ k * (x i / 2 ^ k % 2) := Nat.mod_pow_succ
    have m2 : x n % 2 ^ (k + 1) = x n % 2 ^ k + 2 ^ k * (x n / 2 ^ k % 2) := Nat.mod_pow_succ
    rw [m1, m2]
    generalize x i / 2 ^ k % 2 = bi at *
    generalize x n / 2 ^ k % 2 = bn at *
    generalize cmG x n D i (t + 1) 0 0 = A at *
    generalize x i % 2 ^ k = ri at *
    generalize x n % 2 ^ k = rn at *
    generalize 2 ^ k = K at *
    generalize 2 ^ (t + 1) = T at *
    have e1 : bn * (A * S) * K ≤ bn * (x i * T) * K := Nat.mul_le_mul_right _ (Nat.mul_le_mul_left _ h0)
    calc S * (bi * T + bn * A + B) * K = T * (S * (K * bi)) + bn * (A * S) * K + S * B * K := by grind
      _ ≤ T * (S * (K * bi)) + bn * (x i * T) * K + T * (S * ri + x i * rn) := Nat.add_le_add (Nat.add_le_add_left e1 _) h2
      _ = T * (S * (ri + K * bi) + x i * (rn + K * bn)) := by grind
end Go.Proofs.YtobmngkaoahmiaaDoor
