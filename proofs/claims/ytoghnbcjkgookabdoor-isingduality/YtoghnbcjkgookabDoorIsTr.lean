/- Strips by transfer from column to column: what is counted, how many in all, and that two states have no unlike bond. -/
import Derived.WalkKit
namespace Go.Proofs.YtoghnbcjkgookabDoor

/-- Sums of numbers. -/
def suF (f : Nat → Nat) : Nat → Nat
  | 0 => 0
  | n + 1 => suF f n + f n
theorem suF_congr {f g : Nat → Nat} : ∀ {n : Nat}, (∀ i, i < n → f i = g i) → suF f n = suF g n
  | 0, _ => rfl
  | n + 1, h => by
    show suF f n + f n = suF g n + g n
    rw [suF_congr (fun i hi => h i (by omega)), h n (by omega)]
theorem suF_zero : ∀ n, suF (fun _ => 0) n = 0
  | 0 => rfl
  | n + 1 => suF_zero n
theorem suF_add (f g : Nat → Nat) : ∀ n, suF (fun i => f i + g i) n = suF f n + suF g n
  | 0 => rfl
  | n + 1 => by
    show suF _ n + (f n + g n) = (suF f n + f n) + (suF g n + g n)
    rw [suF_add f g n]
    omega
theorem suF_swap (f : Nat → Nat → Nat) (n : Nat) : ∀ m, suF (fun i => suF (f i) n) m = suF (fun k => suF (fun i => f i k) m) n
  | 0 => (suF_zero n).symm
  | m + 1 => by
    show suF (fun i => suF (f i) n) m + suF (f m) n = _
    rw [suF_swap f n m, ← suF_add]
    rfl
theorem suF_const (c : Nat) : ∀ n, suF (fun _ => c) n = n * c
  | 0 => by simp [suF]
  | n + 1 => by
    show suF _ n + c = _
    rw [suF_const c n, Nat.succ_mul]
theorem suF_le {f g : Nat → Nat} : ∀ {n : Nat}, (∀ i, i < n → f i ≤ g i) → suF f n ≤ suF g n
  | 0, _ => Nat.le_refl _
  | n + 1, h => Nat.add_le_add (suF_le (fun i hi => h i (by omega))) (h n (by omega))
theorem suF_mono (f : Nat → Nat) {m : Nat} : ∀ {n : Nat}, m ≤ n → suF f m ≤ suF f n
  | 0, h => by rw [Nat.le_zero.1 h]; exact Nat.le_refl _
  | n + 1, h => by
    rcases Nat.lt_or_ge m (n + 1) with h1 | h1
    · exact Nat.le_trans (suF_mono f (by omega)) (Nat.le_add_right _ _)
    · rw [show m = n + 1 by omega]; exact Nat.le_refl _
theorem suF_tail (f : Nat → Nat) {d : Nat} : ∀ {n : Nat}, d ≤ n → (∀ k, d ≤ k → f k = 0) → suF f n = suF f d
  | 0, h, _ => by rw [Nat.le_zero.1 h]
  | n + 1, h, hz => by
    rcases Nat.lt_or_ge d (n + 1) with h1 | h1
    · show suF f n + f n = _
      rw [hz n (by omega), suF_tail f (by omega) hz, Nat.add_zero]
    · rw [show d = n + 1 by omega]
theorem suF_one (c : Nat) (x : Nat) : ∀ n, suF (fun i => if i = c then x else 0) n = if c < n then x else 0
  | 0 => by simp [suF]
  | n + 1 => by
    show suF _ n + (if n = c then x else 0) = _
    rw [suF_one c x n]
    by_cases h1 : c < n
    · rw [if_pos h1, if_neg (show ¬ n = c by omega), if_pos (show c < n + 1 by omega)]; omega
    · rw [if_neg h1]
      by_cases h2 : n = c
      · rw [if_pos h2, if_pos (show c < n + 1 by omega)]; omega
      · rw [if_neg h2, if_neg (show ¬ c < n + 1 by omega)]

/-- A row that is moved up by s. -/
def shf (f : Nat → Nat) (s k : Nat) : Nat := if s ≤ k then f (k - s) else 0
theorem shf_sum (f : Nat → Nat) (s : Nat) : ∀ n, suF (shf f s) (s + n) = suF f n
  | 0 => by
    show suF (shf f s) s = 0
    have : suF (shf f s) s = suF (fun _ => 0) s := suF_congr fun i hi => if_neg (by omega)
    rw [this, suF_zero]
  | n + 1 => by
    show suF (shf f s) (s + n) + shf f s (s + n) = suF f n + f n
    rw [shf_sum f s n, shf, if_pos (by omega), Nat.add_sub_cancel_left]
theorem shf_zero {f : Nat → Nat} {d s : Nat} (h : ∀ k, d ≤ k → f k = 0) : ∀ k, s + d ≤ k → shf f s k = 0 := fun k hk => by
  unfold shf
  split
  · exact h _ (by omega)
  · rfl
theorem shf_le {f : Nat → Nat} {M : Nat} (h : ∀ k, f k ≤ M) (s k : Nat) : shf f s k ≤ M := by
  unfold shf
  split
  · exact h _
  · exact Nat.zero_le _

/-- From the first column on: of how many rows of t + 1 columns, the last one c, k bonds are unlike. -/
def trF (bt : Nat → Nat → Nat) (wt : Nat → Nat) (T first : Nat) : Nat → Nat → Nat → Nat
  | 0, c, k => if c = first ∧ k = wt first then 1 else 0
  | t + 1, c, k => suF (fun b => shf (trF bt wt T first t b) (bt b c + wt c) k) T
/-- All rows of columns, closed or not. -/
def stO (bt : Nat → Nat → Nat) (wt : Nat → Nat) (cl : Nat → Nat → Nat) (T t k : Nat) : Nat := suF (fun first => suF (fun last => shf (trF bt wt T first t last) (cl last first) k) T) T

theorem trF_le (bt : Nat → Nat → Nat) (wt : Nat → Nat) (T first : Nat) : ∀ t c k, trF bt wt T first t c k ≤ T ^ t
  | 0, c, k => by
    show (if _ then 1 else 0) ≤ 1
    split <;> omega
  | t + 1, c, k => by
    have h : suF (fun b => shf (trF bt wt T first t b) (bt b c + wt c) k) T ≤ suF (fun _ => T ^ t) T := suF_le fun b _ => shf_le (trF_le bt wt T first t b) _ _
    rw [suF_const] at h
    show suF _ T ≤ T ^ (t + 1)
    rw [Nat.pow_succ, Nat.mul_comm]
    exact h
/-- How far up the counts go, and what they are together. -/
theorem trF_all {bt : Nat → Nat → Nat} {wt : Nat → Nat} {T first H : Nat} (hb : ∀ a b, a < T → b < T → bt a b ≤ H) (hw : ∀ c, c < T → wt c + 1 ≤ H) (hf : first < T) :
    ∀ t, (∀ c k, c < T → t * (H + H - 1) + H ≤ k → trF bt wt T first t c k = 0) ∧ suF (fun c => suF (trF bt wt T first t c) (t * (H + H - 1) + H)) T = T ^ t
  | 0 => by
    have hw0 := hw first hf
    refine ⟨fun c k _ hk => ?_, ?_⟩
    · show (if _ then 1 else 0) = 0
      exact if_neg (fun h => by omega)
    · have e : ∀ c, suF (trF bt wt T first 0 c) (0 * (H + H - 1) + H) = if c = first then 1 else 0 := fun c => by
        by_cases h : c = first
        · rw [if_pos h]
          have : suF (trF bt wt T first 0 c) (0 * (H + H - 1) + H) = suF (fun k => if k = wt first then 1 else 0) (0 * (H + H - 1) + H) := suF_congr fun k _ => by
            show (if _ then 1 else 0) = _
            by_cases h2 : k = wt first
            · rw [if_pos ⟨h, h2⟩, if_pos h2]
            · rw [if_neg (fun h3 => h2 h3.2), if_neg h2]
          rw [this, suF_one, if_pos (by omega)]
        · rw [if_neg h]
          have : suF (trF bt wt T first 0 c) (0 * (H + H - 1) + H) = suF (fun _ => 0) (0 * (H + H - 1) + H) := suF_congr fun k _ => by
            show (if _ then 1 else 0) = 0
            exact if_neg (fun h3 => h h3.1)
          rw [this, suF_zero]
      have e2 : suF (fun c => suF (trF bt wt T first 0 c) (0 * (H + H - 1) + H)) T = suF (fun c => if c = first then 1 else 0) T := suF_congr fun c _ => e c
      rw [e2, suF_one, if_pos hf]
      rfl
  | t + 1 => by
    obtain ⟨hz, hs⟩ := trF_all hb hw hf t
    have hstep : (t + 1) * (H + H - 1) + H = (H + H - 1) + (t * (H + H - 1) + H) := by rw [Nat.succ_mul]; omega
    have hsm : ∀ b c, b < T → c < T → bt b c + wt c ≤ H + H - 1 := fun b c h1 h2 => by have := hb b c h1 h2; have := hw c h2; omega
    refine ⟨fun c k hc hk => ?_, ?_⟩
    · have : suF (fun b => shf (trF bt wt T first t b) (bt b c + wt c) k) T = suF (fun _ => 0) T := suF_congr fun b hb' => shf_zero (d := t * (H + H - 1) + H) (fun k hk => hz b k hb' hk) k (by have := hsm b c hb' hc; omega)
      show suF _ T = 0
      rw [this, suF_zero]
    · have e : ∀ c, c < T → suF (trF bt wt T first (t + 1) c) ((t + 1) * (H + H - 1) + H) = T ^ t := fun c hc => by
        have e1 : suF (trF bt wt T first (t + 1) c) ((t + 1) * (H + H - 1) + H) = suF (fun b => suF (shf (trF bt wt T first t b) (bt b c + wt c)) ((t + 1) * (H + H - 1) + H)) T := by
          rw [suF_swap]
          rfl
        have e2 : suF (fun b => suF (shf (trF bt wt T first t b) (bt b c + wt c)) ((t + 1) * (H + H - 1) + H)) T = suF (fun b => suF (trF bt wt T first t b) (t * (H + H - 1) + H)) T := suF_congr fun b hb' => by
          have h1 := hsm b c hb' hc
          rw [suF_tail _ (d := (bt b c + wt c) + (t * (H + H - 1) + H)) (by omega) (shf_zero (fun k hk => hz b k hb' hk)), shf_sum]
        rw [e1, e2, hs]
      have e3 : suF (fun c => suF (trF bt wt T first (t + 1) c) ((t + 1) * (H + H - 1) + H)) T = suF (fun _ => T ^ t) T := suF_congr e
      rw [e3, suF_const, Nat.pow_succ, Nat.mul_comm]
/-- All together: as many as there are rows of columns. -/
theorem stO_sum {bt : Nat → Nat → Nat} {wt : Nat → Nat} {cl : Nat → Nat → Nat} {T H C : Nat} (hb : ∀ a b, a < T → b < T → bt a b ≤ H) (hw : ∀ c, c < T → wt c + 1 ≤ H) (hc : ∀ a b, a < T → b < T → cl a b ≤ C) (t n : Nat) (hn : C + (t * (H + H - 1) + H) ≤ n) : suF (stO bt wt cl T t) n = T ^ (t + 1) := by
  have e1 : suF (stO bt wt cl T t) n = suF (fun first => suF (fun last => suF (shf (trF bt wt T first t last) (cl last first)) n) T) T := by
    have : suF (stO bt wt cl T t) n = suF (fun first => suF (fun k => suF (fun last => shf (trF bt wt T first t last) (cl last first) k) T) n) T := by
      rw [suF_swap]
      rfl
    rw [this]
    exact suF_congr fun first _ => by rw [suF_swap (fun last k => shf (trF bt wt T first t last) (cl last first) k)]
  have e2 : ∀ first, first < T → suF (fun last => suF (shf (trF bt wt T first t last) (cl last first)) n) T = T ^ t := fun first hf => by
    obtain ⟨hz, hs⟩ := trF_all hb hw hf t
    rw [← hs]
    exact suF_congr fun last hl => by
      have := hc last first hl hf
      rw [suF_tail _ (d := cl last first + (t * (H + H - 1) + H)) (by omega) (shf_zero (fun k hk => hz last k hl hk)), shf_sum]
  rw [e1, suF_congr e2, suF_const, Nat.pow_succ, Nat.mul_comm]
theorem stO_le (bt : Nat → Nat → Nat) (wt : Nat → Nat) (cl : Nat → Nat → Nat) (T t k : Nat) : stO bt wt cl T t k ≤ T * (T * T ^ t) := by
  have h : stO bt wt cl T t k ≤ suF (fun _ => T * T ^ t) T := suF_le fun first _ => by
    have h2 : suF (fun last => shf (trF bt wt T first t last) (cl last first) k) T ≤ suF (fun _ => T ^ t) T := suF_le fun last _ => shf_le (trF_le bt wt T first t last) _ _
    rwa [suF_const] at h2
  rwa [suF_const] at h
/-- Without an unlike bond. -/
theorem trF_none {bt : Nat → Nat → Nat} {wt : Nat → Nat} {T first : Nat} (hb0 : ∀ a b, a < T → b < T → (bt a b = 0 ↔ a = b)) (hf : first < T) : ∀ t c, c < T → trF bt wt T first t c 0 = if c = first ∧ wt first = 0 then 1 else 0
  | 0, c, _ => by
    show (if _ then 1 else 0) = _
    by_cases h : c = first ∧ wt first = 0
    · rw [if_pos h, if_pos ⟨h.1, h.2.symm⟩]
    · rw [if_neg h, if_neg (fun h2 => h ⟨h2.1, h2.2.symm⟩)]
  | t + 1, c, hc => by
    have e : suF (fun b => shf (trF bt wt T first t b) (bt b c + wt c) 0) T = suF (fun b => if b = first then (if c = first ∧ wt first = 0 then 1 else 0) else 0) T := suF_congr fun b hb => by
      unfold shf
      by_cases h1 : b = first
      · rw [if_pos h1]
        by_cases h2 : bt b c + wt c = 0
        · rw [if_pos (by omega), Nat.zero_sub, trF_none hb0 hf t b hb]
          have h3 : b = c := (hb0 b c hb hc).1 (by omega)
          have e1 : (b = first ∧ wt first = 0) = (c = first ∧ wt first = 0) := by rw [h3]
          simp only [e1]
        · rw [if_neg (by omega), if_neg]
          rintro ⟨h3, h4⟩
          have h5 : bt b c = 0 := (hb0 b c hb hc).2 (by omega)
          rw [h3] at h2
          rw [h3] at h5
          omega
      · rw [if_neg h1]
        split
        · rw [Nat.zero_sub, trF_none hb0 hf t b hb, if_neg (fun h => h1 h.1)]
        · rfl
    show suF _ T = _
    rw [e, suF_one, if_pos hf]
theorem stO_none {bt : Nat → Nat → Nat} {wt : Nat → Nat} {cl : Nat → Nat → Nat} {T : Nat} (hb0 : ∀ a b, a < T → b < T → (bt a b = 0 ↔ a = b)) (hc0 : ∀ a, a < T → cl a a = 0) (t : Nat) : stO bt wt cl T t 0 = suF (fun first => if wt first = 0 then 1 else 0) T := by
  refine suF_congr fun first hf => ?_
  have e : suF (fun last => shf (trF bt wt T first t last) (cl last first) 0) T = suF (fun last => if last = first then (if wt first = 0 then 1 else 0) else 0) T := suF_congr fun last hl => by
    unfold shf
    by_cases h1 : last = first
    · subst h1
      rw [if_pos (by rw [hc0 last hl]; exact Nat.le_refl _), Nat.zero_sub, trF_none hb0 hf t last hl]
      simp
    · rw [if_neg h1]
      split
      · rw [Nat.zero_sub, trF_none hb0 hf t last hl, if_neg (fun h => h1 h.1)]
      · rfl
  rw [e, suF_one, if_pos hf]
end Go.Proofs.YtoghnbcjkgookabDoor
