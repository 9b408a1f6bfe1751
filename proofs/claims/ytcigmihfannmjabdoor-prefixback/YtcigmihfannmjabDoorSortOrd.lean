/- The order in which a stable sort puts places: number by number, each in the order of the places. Plain lists and arrays. -/
import Derived.Sort.LotA
namespace Go.Proofs.YtcigmihfannmjabDoor
open Go.Sort

/-- Places by their numbers; and then by the places. -/
def ltL (l : Nat → Int) (i k : Nat) : Bool := decide (l i < l k)
def ltX (l : Nat → Int) (i k : Nat) : Bool := decide (l i < l k ∨ (l i = l k ∧ i < k))
theorem ltX_swo (l : Nat → Int) : SWO (ltX l) := ⟨fun x => by simp [ltX], fun x y z h1 h2 => by simp [ltX] at *; omega, fun x y z h1 h2 => by simp [ltX] at *; omega⟩
theorem inner_same (l : Nat → Int) : ∀ (j : Nat) (d : Array Nat), j < d.size → (∀ k, k < j → d[k]! < d[j]!) → insInner (ltL l) 0 j d = insInner (ltX l) 0 j d
  | 0, d, _, _ => rfl
  | j + 1, d, hj, h => by
    have h1 := h j (by omega)
    have e : ltL l d[j + 1]! d[j]! = ltX l d[j + 1]! d[j]! := by
      unfold ltL ltX
      congr 1
      apply propext
      constructor
      · exact Or.inl
      · rintro (h2 | ⟨_, h2⟩)
        · exact h2
        · omega
    rw [insInner, insInner, e]
    split
    · refine inner_same l j _ (by rw [swp_size]; omega) (fun k hk => ?_)
      rw [swp_get d (by omega) (by omega), swp_get d (by omega) (by omega)]
      have := h k (by omega)
      simp only [show k ≠ j + 1 by omega, show k ≠ j by omega, if_false]
      simpa using this
    · rfl
/-- The places of numbers from 1 to V: number by number, each in the order of the places. -/
def rowOf (l : Nat → Int) (v : Int) (n : Nat) : List Nat := (List.range n).filter (fun i => decide (l i = v))
def ordL (l : Nat → Int) (n : Nat) : Nat → List Nat
  | 0 => []
  | V + 1 => ordL l n V ++ rowOf l ((V : Int) + 1) n
theorem rowOf_mem {l : Nat → Int} {v : Int} {n k : Nat} : k ∈ rowOf l v n ↔ k < n ∧ l k = v := by simp [rowOf]
theorem ordL_mem {l : Nat → Int} {n : Nat} : ∀ {V k : Nat}, k ∈ ordL l n V ↔ k < n ∧ 1 ≤ l k ∧ l k ≤ V
  | 0, k => by simp [ordL]; omega
  | V + 1, k => by
    simp only [ordL, List.mem_append, ordL_mem (V := V), rowOf_mem]
    constructor
    · rintro (⟨h1, h2, h3⟩ | ⟨h1, h2⟩) <;> refine ⟨h1, ?_, ?_⟩ <;> omega
    · rintro ⟨h1, h2, h3⟩
      by_cases h : l k = (V : Int) + 1
      · exact Or.inr ⟨h1, h⟩
      · exact Or.inl ⟨h1, h2, by omega⟩
theorem ordL_sorted {l : Nat → Int} {n : Nat} : ∀ V, (ordL l n V).Pairwise (fun i k => ltX l i k = true)
  | 0 => by simp [ordL]
  | V + 1 => by
    rw [ordL, List.pairwise_append]
    refine ⟨ordL_sorted V, ?_, fun a ha b hb => ?_⟩
    · have h1 : (List.range n).Pairwise (· < ·) := List.pairwise_lt_range
      refine List.Pairwise.imp_of_mem ?_ (h1.sublist List.filter_sublist)
      intro a b ha hb hab
      simp [rowOf] at ha hb
      simp [ltX]; omega
    · have h1 := ordL_mem.1 ha
      have h2 := rowOf_mem.1 hb
      simp [ltX]; omega
theorem ordL_nodup {l : Nat → Int} {n : Nat} (V : Nat) : (ordL l n V).Nodup := (ordL_sorted V).imp (fun h e => by subst e; simp [ltX] at h)
theorem outer_same (l : Nat → Int) (n : Nat) : ∀ (m i : Nat) (d : Array Nat), n - i = m → 0 < i → i ≤ n → d.size = n → (∀ p, p < i → d[p]! < i) → (∀ p, i ≤ p → p < n → d[p]! = p) → SortedIn (ltX l) 0 i d → insOuter (ltL l) 0 n i d = insOuter (ltX l) 0 n i d
  | 0, i, d, hm, _, hi, _, _, _, _ => by
    obtain rfl : i = n := by omega
    rw [insOuter, if_neg (by omega), insOuter, if_neg (by omega)]
  | m + 1, i, d, hm, h0, hi, hd, h1, h2, hs => by
    have hlt : i < n := by omega
    have e := inner_same l i d (by omega) (fun k hk => by rw [h2 i (Nat.le_refl i) hlt]; exact h1 k hk)
    have hP := insInner_spec (ltX_swo l) swp_permIn permIn_refl permIn_trans 0 (i + 1) i (by omega) i d (Nat.zero_le _) (Nat.le_refl _) (by omega) ⟨fun p q hap hpq hqi _ hq => hs p q hap hpq (by omega), fun q h1 h2 => by omega⟩
    rw [insOuter, if_pos hlt, e, insOuter.eq_1 (ltX l) 0 n i, if_pos hlt]
    have hall := permIn_all d (insInner (ltX l) 0 i d) 0 (i + 1) (fun x => x < i + 1) (by omega) hP.1 (fun p _ hp => by
      rcases Nat.lt_or_ge p i with h' | h'
      · have := h1 p h'; omega
      · obtain rfl : p = i := by omega
        rw [h2 p (Nat.le_refl _) hlt]; exact hp)
    refine outer_same l n m (i + 1) _ (by omega) (by omega) (by omega) (by rw [hP.1.1]; exact hd) (fun p hp => hall p (Nat.zero_le _) hp) (fun p hp hpn => ?_) hP.2
    rw [hP.1.2.1 p (Or.inr hp)]
    exact h2 p (by omega) hpn
/-- What the sort makes of the places. -/
theorem sort_ord (l : Nat → Int) (n : Nat) (hl : ∀ i, i < n → 1 ≤ l i ∧ l i ≤ 40) : (insertionSort (ltL l) (List.range n).toArray 0 n).toList = ordL l n 40 := by
  have hsz : (List.range n).toArray.size = n := by simp
  have hat : ∀ p, p < n → (List.range n).toArray[p]! = p := fun p hp => by simp [getElem!_pos, hp]
  have e : insertionSort (ltL l) (List.range n).toArray 0 n = insertionSort (ltX l) (List.range n).toArray 0 n := by
    unfold insertionSort
    rcases Nat.eq_zero_or_pos n with h0 | h0
    · subst h0; rw [insOuter, if_neg (by omega), insOuter, if_neg (by omega)]
    · exact outer_same l n (n - 1) (0 + 1) _ (by omega) (by omega) (by omega) hsz (fun p hp => by rw [hat p (by omega)]; omega) (fun p _ hp => hat p hp) (fun i j _ h1 h2 => by omega)
  have hanti : ∀ x y, ltX l x y = false → ltX l y x = false → x = y := fun x y h1 h2 => by simp [ltX] at h1 h2; omega
  have hH := insertionSort_holds (lt := ltX l) (ltX_swo l) (List.range n).toArray 0 n (Nat.zero_le _) (by omega)
  have u1 := sorted_unique_holds (ltX_swo l) hanti (List.range n).toArray (insertionSort (ltX l) (List.range n).toArray 0 n) (by rw [hsz]; exact hH.1) (by rw [hsz]; exact hH.2)
  have hperm : (ordL l n 40).Perm (List.range n) := (List.perm_ext_iff_of_nodup (ordL_nodup 40) List.nodup_range).2 (fun k => by
    rw [ordL_mem, List.mem_range]
    exact ⟨fun h => h.1, fun h => ⟨h, (hl k h).1, (hl k h).2⟩⟩)
  have hlen : (ordL l n 40).length = n := by rw [hperm.length_eq, List.length_range]
  have u2 := sorted_unique_holds (ltX_swo l) hanti (List.range n).toArray (ordL l n 40).toArray ⟨by simp [hlen], fun i hi => by simp at hi; simp [getElem!_neg, hlen, hi], by simp; rw [List.take_of_length_le (by omega)]; exact hperm⟩ (fun i j _ hij hj => by
    rw [hsz] at hj
    have := (List.pairwise_iff_getElem.1 (ordL_sorted (l := l) (n := n) 40)) i j (by omega) (by omega) hij
    rw [getElem!_pos _ _ (by simp; omega), getElem!_pos _ _ (by simp; omega)]
    simp only [List.getElem_toArray]
    simp [ltX] at this ⊢
    omega)
  rw [e, u1, ← u2]
end Go.Proofs.YtcigmihfannmjabDoor
