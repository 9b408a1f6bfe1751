/- Reading a text by words: which word comes, and where. -/
import Derived.Test.YtcigmihfannmjabDoorWordsA
namespace Go.Proofs.YtcigmihfannmjabDoor
open Go.RowKit

/-- The number of the first word that begins a text; n: none does. -/
def fstN (f : Nat → ByteArray) (t : ByteArray) : Nat → Nat
  | 0 => 0
  | n + 1 => if fstN f t n < n then fstN f t n else if begB (f n) t = true then n else n + 1
theorem fstN_le (f : Nat → ByteArray) (t : ByteArray) : ∀ n, fstN f t n ≤ n
  | 0 => Nat.le_refl _
  | n + 1 => by
    have := fstN_le f t n
    rw [fstN]
    split
    · omega
    · split <;> omega
theorem fstN_hit {f : Nat → ByteArray} {t : ByteArray} : ∀ {n : Nat}, fstN f t n < n → begB (f (fstN f t n)) t = true
  | 0, h => by omega
  | n + 1, h => by
    rw [fstN] at h ⊢
    split
    · rename_i h1
      exact fstN_hit h1
    · rename_i h1
      rw [if_neg h1] at h
      split
      · rename_i h2; exact h2
      · rename_i h2
        rw [if_neg h2] at h
        omega
theorem fstN_no {f : Nat → ByteArray} {t : ByteArray} : ∀ {n i : Nat}, i < fstN f t n → begB (f i) t = false
  | 0, i, h => by simp [fstN] at h
  | n + 1, i, h => by
    rw [fstN] at h
    have hle := fstN_le f t n
    split at h
    · exact fstN_no h
    · rename_i h1
      have he : fstN f t n = n := by omega
      split at h
      · exact fstN_no (n := n) (by omega)
      · rename_i h2
        rcases Nat.lt_or_ge i n with h3 | h3
        · exact fstN_no (n := n) (by omega)
        · obtain rfl : i = n := by omega
          simpa using h2
/-- What is left of a text. -/
def sfx (T : ByteArray) (p : Nat) : ByteArray := T.extract p T.size
theorem sfx_size (T : ByteArray) (p : Nat) : (sfx T p).size = T.size - p := by
  unfold sfx; rw [ByteArray.size_extract]; omega
theorem sfx_list (T : ByteArray) (p : Nat) : (sfx T p).data.toList = T.data.toList.drop p := by
  unfold sfx
  rw [ByteArray.data_extract, Array.toList_extract, List.extract_eq_take_drop]
  have : T.size = T.data.toList.length := size_list T
  rw [List.take_of_length_le (by rw [List.length_drop]; omega)]
theorem ba_ext {a b : ByteArray} (h : a.data.toList = b.data.toList) : a = b := by
  cases a; cases b
  simp only [ByteArray.mk.injEq]
  exact Array.ext' h
theorem sfx_sfx (T : ByteArray) (p m : Nat) : (sfx T p).extract m (sfx T p).size = sfx T (p + m) := by
  apply ba_ext
  have : (sfx (sfx T p) m).data.toList = (sfx T (p + m)).data.toList := by rw [sfx_list, sfx_list, sfx_list, List.drop_drop]
  exact this
theorem sfx_zero (T : ByteArray) : sfx T 0 = T := by
  apply ba_ext
  rw [sfx_list, List.drop_zero]
theorem sfx_some {T : ByteArray} {p : Nat} (h : p < T.size) : (sfx T p).toList.isEmpty = false := by
  rw [ByteArray.toList_eq]
  cases h1 : (sfx T p).data.toList with
  | nil => have h2 := sfx_size T p; rw [size_list, h1] at h2; simp at h2; omega
  | cons _ _ => rfl
theorem sfx_none {T : ByteArray} {p : Nat} (h : T.size ≤ p) : (sfx T p).toList.isEmpty = true := by
  rw [ByteArray.toList_eq]
  cases h1 : (sfx T p).data.toList with
  | nil => rfl
  | cons _ _ => have h2 := sfx_size T p; rw [size_list, h1] at h2; simp at h2; omega
/-- Where the j-th word begins. -/
def posD (f : Nat → ByteArray) (T : ByteArray) (n : Nat) : Nat → Nat
  | 0 => 0
  | j + 1 => posD f T n j + (f (fstN f (sfx T (posD f T n j)) n)).size
def idxD (f : Nat → ByteArray) (T : ByteArray) (n j : Nat) : Nat := fstN f (sfx T (posD f T n j)) n
theorem posD_succ (f : Nat → ByteArray) (T : ByteArray) (n j : Nat) : posD f T n (j + 1) = posD f T n j + (f (idxD f T n j)).size := rfl
/-- The reading ends behind J words: well, or not. -/
structure EndsD (f : Nat → ByteArray) (T : ByteArray) (n J : Nat) (ok : Bool) : Prop where
  on : ∀ j, j < J → posD f T n j < T.size ∧ idxD f T n j < n
  yes : ok = true → T.size ≤ posD f T n J
  no : ok = false → posD f T n J < T.size ∧ idxD f T n J = n
theorem fits_in {f : Nat → ByteArray} {T : ByteArray} {n j : Nat} (h : idxD f T n j < n) (hp : posD f T n j ≤ T.size) : posD f T n (j + 1) ≤ T.size := by
  have h1 : begB (f (idxD f T n j)) (sfx T (posD f T n j)) = true := fstN_hit h
  have h2 : (f (idxD f T n j)).size ≤ (sfx T (posD f T n j)).size := by
    rcases Nat.lt_or_ge (sfx T (posD f T n j)).size (f (idxD f T n j)).size with h3 | h3
    · rw [beg_long _ _ h3] at h1; cases h1
    · exact h3
  rw [sfx_size] at h2
  rw [posD_succ]; omega
theorem nonempty_size {s : ByteArray} (h : s.toList.isEmpty = false) : 1 ≤ s.size := by
  rw [ByteArray.toList_eq] at h
  rw [size_list]
  cases h1 : s.data.toList with
  | nil => rw [h1] at h; cases h
  | cons _ _ => simp
theorem ends_from {f : Nat → ByteArray} {T : ByteArray} {n : Nat} (hf : ∀ i, i < n → (f i).toList.isEmpty = false) : ∀ (m j : Nat), T.size - posD f T n j ≤ m → (∀ i, i < j → posD f T n i < T.size ∧ idxD f T n i < n) → ∃ J ok, EndsD f T n J ok := by
  intro m
  induction m with
  | zero =>
    intro j hm hj
    exact ⟨j, true, hj, fun _ => by omega, fun h => by cases h⟩
  | succ m ih =>
    intro j hm hj
    rcases Nat.lt_or_ge (posD f T n j) T.size with h1 | h1
    · rcases Nat.lt_or_ge (idxD f T n j) n with h2 | h2
      · have h3 := nonempty_size (hf _ h2)
        refine ih (j + 1) (by rw [posD_succ]; omega) (fun i hi => ?_)
        rcases Nat.lt_or_ge i j with h4 | h4
        · exact hj i h4
        · obtain rfl : i = j := by omega
          exact ⟨h1, h2⟩
      · have h3 : idxD f T n j ≤ n := fstN_le _ _ _
        exact ⟨j, false, hj, fun h => (by cases h), fun _ => ⟨h1, by omega⟩⟩
    · exact ⟨j, true, hj, fun _ => h1, fun h => by cases h⟩
theorem ends_is {f : Nat → ByteArray} {T : ByteArray} {n : Nat} (hf : ∀ i, i < n → (f i).toList.isEmpty = false) : ∃ J ok, EndsD f T n J ok := ends_from hf _ 0 (Nat.le_refl _) (fun i hi => by omega)
theorem pos_ge {f : Nat → ByteArray} {T : ByteArray} {n : Nat} (hf : ∀ i, i < n → (f i).toList.isEmpty = false) : ∀ j, (∀ i, i < j → idxD f T n i < n) → j ≤ posD f T n j
  | 0, _ => Nat.zero_le _
  | j + 1, h => by
    have h1 := pos_ge hf j (fun i hi => h i (by omega))
    have h2 := nonempty_size (hf _ (h j (by omega)))
    rw [posD_succ]; omega
theorem pos_le {f : Nat → ByteArray} {T : ByteArray} {n : Nat} : ∀ j, (∀ i, i < j → idxD f T n i < n) → posD f T n j ≤ T.size
  | 0, _ => Nat.zero_le _
  | j + 1, h => fits_in (h j (by omega)) (pos_le j (fun i hi => h i (by omega)))
theorem ends_short {f : Nat → ByteArray} {T : ByteArray} {n J : Nat} {ok : Bool} (hf : ∀ i, i < n → (f i).toList.isEmpty = false) (h : EndsD f T n J ok) : J ≤ T.size :=
  Nat.le_trans (pos_ge hf J (fun i hi => (h.on i hi).2)) (pos_le J (fun i hi => (h.on i hi).2))
end Go.Proofs.YtcigmihfannmjabDoor
