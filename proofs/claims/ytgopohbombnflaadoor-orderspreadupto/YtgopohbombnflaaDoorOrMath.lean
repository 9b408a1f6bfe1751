/- Lists put in order, the greatest first; which is above which. -/
import Derived.Test.YtgopohbombnflaaDoorOrVal
import Derived.Test.YtgopohbombnflaaDoorTab
namespace Go.Proofs.YtgopohbombnflaaDoor

/-- A number put in, behind all that are not less. -/
def insD (x : Int) : List Int → List Int
  | [] => [x]
  | y :: l => if x ≤ y then y :: insD x l else x :: y :: l
theorem insD_perm (x : Int) : ∀ l, (insD x l).Perm (x :: l)
  | [] => List.Perm.refl _
  | y :: l => by
    unfold insD
    by_cases h : x ≤ y
    · rw [if_pos h]
      exact ((insD_perm x l).cons y).trans (List.Perm.swap _ _ _)
    · rw [if_neg h]
theorem insD_down (x : Int) : ∀ l : List Int, l.Pairwise (fun a b => b ≤ a) → (insD x l).Pairwise (fun a b => b ≤ a)
  | [], _ => by simp [insD]
  | y :: l, h => by
    rw [List.pairwise_cons] at h
    unfold insD
    by_cases hx : x ≤ y
    · rw [if_pos hx, List.pairwise_cons]
      refine ⟨fun c hc => ?_, insD_down x l h.2⟩
      rcases List.mem_cons.1 ((insD_perm x l).mem_iff.1 hc) with rfl | h2
      · exact hx
      · exact h.1 c h2
    · rw [if_neg hx, List.pairwise_cons]
      refine ⟨fun c hc => ?_, List.pairwise_cons.2 h⟩
      rcases List.mem_cons.1 hc with rfl | h2
      · omega
      · have := h.1 c h2; omega
/-- Where it is put. -/
theorem insD_at (x : Int) : ∀ (l : List Int) (k : Nat), k ≤ l.length → (∀ i, i < k → x ≤ l.getD i 0) → (k = l.length ∨ ¬ x ≤ l.getD k 0) → insD x l = l.take k ++ x :: l.drop k
  | [], k, hk, _, _ => by obtain rfl : k = 0 := by simpa using hk
                          rfl
  | y :: l, 0, _, _, h => by
    rcases h with h | h
    · simp at h
    · have h2 : ¬ x ≤ y := by simpa using h
      show (if x ≤ y then _ else _) = _
      rw [if_neg h2]; rfl
  | y :: l, k + 1, hk, h1, h => by
    have h2 : x ≤ y := by simpa using h1 0 (by omega)
    show (if x ≤ y then _ else _) = _
    rw [if_pos h2, insD_at x l k (by simpa using hk) (fun i hi => by simpa using h1 (i + 1) (by omega)) (by simpa using h)]
    rfl
def fallL (z : Nat → Int) : Nat → List Int
  | 0 => []
  | k + 1 => insD (z k) (fallL z k)
theorem fallL_perm (z : Nat → Int) : ∀ n, (fallL z n).Perm (rowL z n)
  | 0 => List.Perm.refl _
  | n + 1 => by
    refine (insD_perm _ _).trans ?_
    have h : rowL z (n + 1) = rowL z n ++ [z n] := by simp [rowL, List.range_succ]
    rw [h]
    exact ((fallL_perm z n).cons (z n)).trans (List.perm_append_singleton _ _).symm
theorem fallL_length (z : Nat → Int) (n : Nat) : (fallL z n).length = n := by rw [(fallL_perm z n).length_eq, rowL_length]
theorem fallL_down (z : Nat → Int) : ∀ n, (fallL z n).Pairwise (fun a b => b ≤ a)
  | 0 => List.Pairwise.nil
  | n + 1 => insD_down _ _ (fallL_down z n)
theorem atF_down {l : List Int} (h : l.Pairwise (fun a b => b ≤ a)) {i j : Nat} (hij : i ≤ j) (hj : j < l.length) : atF l j ≤ atF l i := by
  rcases Nat.eq_or_lt_of_le hij with rfl | h1
  · exact Int.le_refl _
  · have := List.pairwise_iff_getElem.1 h i j (by omega) hj h1
    simpa [atF, List.getD, hj, show i < l.length by omega] using this
theorem atF_mem {z : Nat → Int} {n : Nat} {j : Nat} (hj : j < n) : ∃ i, i < n ∧ atF (fallL z n) j = z i := by
  have hl := fallL_length z n
  have h1 : atF (fallL z n) j ∈ fallL z n := by
    unfold atF
    rw [List.getD_eq_getElem?_getD, List.getElem?_eq_getElem (by omega)]
    exact List.getElem_mem _
  have h2 := (fallL_perm z n).mem_iff.1 h1
  simp only [rowL, List.mem_map, List.mem_range] at h2
  obtain ⟨i, hi, e⟩ := h2
  exact ⟨i, hi, e.symm⟩
theorem fall_sorted (z : Nat → Int) (n : Nat) (D : List Nat) (hp : D.Perm (List.range n)) (hs : ∀ i j, i < j → j < n → z (D.getD j 0) ≤ z (D.getD i 0)) : D.map z = fallL z n := by
  have hl : D.length = n := by rw [hp.length_eq, List.length_range]
  refine List.Perm.eq_of_pairwise (le := fun a b => b ≤ a) (fun a b _ _ h1 h2 => by omega) ?_ (fallL_down z n) ((hp.map z).trans (fallL_perm z n).symm)
  rw [List.pairwise_iff_getElem]
  intro i j hi hj hij
  simp only [List.length_map] at hi hj
  have := hs i j hij (by omega)
  simpa [List.getD, hi, hj] using this
theorem fall_at {z : Nat → Int} {n : Nat} {D : List Nat} (h : D.map z = fallL z n) {j : Nat} (hj : j < n) : z (D.getD j 0) = atF (fallL z n) j := by
  have hl : D.length = n := by have := congrArg List.length h; rwa [List.length_map, fallL_length] at this
  rw [← h]
  unfold atF
  simp [List.getD, hl, hj]
theorem sumN_perm {l r : List Int} (h : l.Perm r) : l.sum = r.sum := by
  induction h with
  | nil => rfl
  | cons x _ ih => simp [ih]
  | swap x y l => simp; omega
  | trans _ _ h1 h2 => rw [h1, h2]
theorem sum_rowL (z : Nat → Int) : ∀ n, (rowL z n).sum = sumN z n
  | 0 => rfl
  | n + 1 => by
    have h : rowL z (n + 1) = rowL z n ++ [z n] := by simp [rowL, List.range_succ]
    rw [h, List.sum_append, sum_rowL z n]
    simp [sumN]
theorem rowL_atF (l : List Int) : rowL (atF l) l.length = l := by
  refine List.ext_getElem (by simp [rowL]) (fun i h1 h2 => ?_)
  simp [rowL, atF, List.getD, List.getElem?_eq_getElem h2]
theorem fall_sum (z : Nat → Int) (n : Nat) : sumN (atF (fallL z n)) n = sumN z n := by
  have h := sum_rowL (atF (fallL z n)) n
  have h2 := rowL_atF (fallL z n)
  rw [fallL_length] at h2
  rw [h2, sumN_perm (fallL_perm z n), sum_rowL] at h
  exact h.symm
/-- What one has more than another one, the greatest first; does it ever lack? -/
def surF (p q : Nat → Int) (n : Nat) (k : Nat) : Int := atF (fallL p n) k - atF (fallL q n) k
def dipN (d : Nat → Int) : Nat → Bool
  | 0 => false
  | k + 1 => dipN d k || decide (sumN d (k + 1) < 0)
theorem dipN_none {d : Nat → Int} : ∀ {n : Nat}, dipN d n = false → ∀ k, k ≤ n → 0 ≤ sumN d k
  | 0, _, k, hk => by obtain rfl : k = 0 := by omega
                      exact Int.le_refl _
  | n + 1, h, k, hk => by
    have h1 : (dipN d n || decide (sumN d (n + 1) < 0)) = false := h
    rw [Bool.or_eq_false_iff] at h1
    rcases Nat.lt_or_ge k (n + 1) with h' | h'
    · exact dipN_none h1.1 k (by omega)
    · obtain rfl : k = n + 1 := by omega
      have := h1.2; simp at this; exact this
theorem dipN_at {d : Nat → Int} : ∀ {n k : Nat}, sumN d k < 0 → k ≤ n → dipN d n = true
  | 0, k, h, hk => by obtain rfl : k = 0 := by omega
                      simp [sumN] at h
  | n + 1, k, h, hk => by
    show (dipN d n || _) = true
    rcases Nat.lt_or_ge k (n + 1) with h' | h'
    · rw [dipN_at h (by omega), Bool.true_or]
    · obtain rfl : k = n + 1 := by omega
      rw [decide_eq_true h, Bool.or_true]
theorem dipN_of {d : Nat → Int} {n : Nat} (h : ∀ k, k ≤ n → 0 ≤ sumN d k) : dipN d n = false := by
  cases hb : dipN d n with
  | false => rfl
  | true =>
    exfalso
    induction n with
    | zero => cases hb
    | succ n ih =>
      have h1 : (dipN d n || decide (sumN d (n + 1) < 0)) = true := hb
      rw [Bool.or_eq_true] at h1
      rcases h1 with h1 | h1
      · exact ih (fun k hk => h k (by omega)) h1
      · have := h (n + 1) (Nat.le_refl _); simp at h1; omega
theorem sumN_sub (a b : Nat → Int) : ∀ n, sumN (fun k => a k - b k) n = sumN a n - sumN b n
  | 0 => rfl
  | n + 1 => by
    show sumN (fun k => a k - b k) n + (a n - b n) = sumN a n + a n - (sumN b n + b n)
    rw [sumN_sub a b n]; omega
theorem sur_sum (p q : Nat → Int) (n k : Nat) : sumN (surF p q n) k = sumN (atF (fallL p n)) k - sumN (atF (fallL q n)) k := sumN_sub _ _ _
/-- What is wrong with two lists. -/
def prE (n : Nat) (p : Nat → Int) (m : Nat) (q : Nat → Int) : Nat :=
  if 16 < n ∨ 16 < m then 2 else if n = 0 ∨ n ≠ m ∨ noN p n = true ∨ noN q m = true ∨ sumN p n ≠ sumN q m then 3 else 0
theorem prE_ok {n m : Nat} {p q : Nat → Int} (h : prE n p m q = 0) : n ≤ 16 ∧ 0 < n ∧ n = m ∧ (∀ k, k < n → 0 ≤ p k ∧ p k ≤ 4096) ∧ (∀ k, k < n → 0 ≤ q k ∧ q k ≤ 4096) ∧ sumN p n = sumN q n := by
  unfold prE at h
  by_cases h1 : 16 < n ∨ 16 < m
  · rw [if_pos h1] at h; cases h
  · rw [if_neg h1] at h
    by_cases h2 : n = 0 ∨ n ≠ m ∨ noN p n = true ∨ noN q m = true ∨ sumN p n ≠ sumN q m
    · rw [if_pos h2] at h; cases h
    · simp only [not_or, Bool.not_eq_true, Decidable.not_not, ne_eq] at h2
      obtain ⟨a, rfl, c, d, e⟩ := h2
      exact ⟨by omega, by omega, rfl, noN_none c, noN_none d, e⟩
theorem prE_le (n m : Nat) (p q : Nat → Int) : prE n p m q ≤ 8 := by
  unfold prE
  split
  · omega
  · split <;> omega
theorem fall_right {z : Nat → Int} {n : Nat} (h : ∀ k, k < n → 0 ≤ z k ∧ z k ≤ 4096) {j : Nat} (hj : j < n) : 0 ≤ atF (fallL z n) j ∧ atF (fallL z n) j ≤ 4096 := by
  obtain ⟨i, hi, e⟩ := atF_mem (z := z) hj
  rw [e]; exact h i hi
end Go.Proofs.YtgopohbombnflaaDoor
