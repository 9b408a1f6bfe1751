/- The words of lengths, put one behind the other, are read again. -/
import Derived.Test.YtcigmihfannmjabDoorDecMath
import Derived.Test.YtcigmihfannmjabDoorCanFree
namespace Go.Proofs.YtcigmihfannmjabDoor
open Go.RowKit

/-- The texts put one behind the other. -/
def catL (f : Nat → ByteArray) (m : Nat → Nat) : Nat → List UInt8
  | 0 => []
  | j + 1 => catL f m j ++ (f (m j)).data.toList
theorem catL_more (f : Nat → ByteArray) (m : Nat → Nat) (j : Nat) : ∀ d, ∃ r, catL f m (j + d) = catL f m j ++ r
  | 0 => ⟨[], by simp⟩
  | d + 1 => by
    obtain ⟨r, hr⟩ := catL_more f m j d
    exact ⟨r ++ (f (m (j + d))).data.toList, by rw [← Nat.add_assoc, catL, hr, List.append_assoc]⟩
theorem catL_drop (f : Nat → ByteArray) (m : Nat → Nat) {j M : Nat} (h : j < M) : ∃ r, (catL f m M).drop (catL f m j).length = (f (m j)).data.toList ++ r := by
  obtain ⟨r, hr⟩ := catL_more f m (j + 1) (M - (j + 1))
  rw [show j + 1 + (M - (j + 1)) = M by omega] at hr
  refine ⟨r, ?_⟩
  rw [hr, catL, List.append_assoc, List.drop_left]
theorem prefix_two {a b c : List UInt8} (h1 : a <+: c) (h2 : b <+: c) : a <+: b ∨ b <+: a := List.prefix_or_prefix_of_prefix h1 h2
/-- Of words none of which begins another one, the first that begins a text is the one that was put there. -/
theorem fstN_is {f : Nat → ByteArray} {t : ByteArray} {n k : Nat} (hap : Apart f n) (hk : k < n) (hb : begB (f k) t = true) : fstN f t n = k := by
  have h1 : fstN f t n ≤ k := Nat.le_of_not_lt fun h => by rw [fstN_no h] at hb; cases hb
  have h2 : begB (f (fstN f t n)) t = true := fstN_hit (by omega)
  rcases Nat.lt_or_ge (fstN f t n) k with h3 | h3
  · exfalso
    have e1 : (f (fstN f t n)).data.toList <+: t.data.toList := of_decide_eq_true h2
    have e2 : (f k).data.toList <+: t.data.toList := of_decide_eq_true hb
    rcases prefix_two e1 e2 with h4 | h4
    · have := hap (fstN f t n) k (by omega) hk (by omega)
      rw [begB, decide_eq_true h4] at this; cases this
    · have := hap k (fstN f t n) hk (by omega) (by omega)
      rw [begB, decide_eq_true h4] at this; cases this
  · omega
theorem back_at {f : Nat → ByteArray} {T : ByteArray} {m : Nat → Nat} {n M : Nat} (hap : Apart f n) (hT : T.data.toList = catL f m M) (hm : ∀ j, j < M → m j < n) : ∀ j, j ≤ M → posD f T n j = (catL f m j).length ∧ (j < M → idxD f T n j = m j) := by
  have hid : ∀ j, j < M → posD f T n j = (catL f m j).length → idxD f T n j = m j := fun j hj hp => by
    refine fstN_is hap (hm j hj) ?_
    obtain ⟨r, hr⟩ := catL_drop f m hj
    unfold begB
    refine decide_eq_true ?_
    rw [sfx_list, hT, hp, hr]
    exact List.prefix_append _ _
  intro j
  induction j with
  | zero => intro _; exact ⟨rfl, fun h => hid 0 h rfl⟩
  | succ j ih =>
    intro hj
    obtain ⟨h1, h2⟩ := ih (by omega)
    have h3 : posD f T n (j + 1) = (catL f m (j + 1)).length := by
      rw [posD_succ, h2 (by omega), h1, catL, List.length_append, size_list]
    exact ⟨h3, fun h => hid (j + 1) h h3⟩
theorem back_ends {f : Nat → ByteArray} {T : ByteArray} {m : Nat → Nat} {n M : Nat} (hap : Apart f n) (hf : ∀ i, i < n → (f i).toList.isEmpty = false) (hT : T.data.toList = catL f m M) (hm : ∀ j, j < M → m j < n) : EndsD f T n M true := by
  have hs : T.size = (catL f m M).length := by rw [size_list, hT]
  refine ⟨fun j hj => ?_, fun _ => ?_, fun h => by cases h⟩
  · obtain ⟨h1, h2⟩ := back_at hap hT hm j (by omega)
    obtain ⟨r, hr⟩ := catL_more f m (j + 1) (M - (j + 1))
    rw [show j + 1 + (M - (j + 1)) = M by omega] at hr
    have h3 := nonempty_size (hf _ (hm j hj))
    rw [size_list] at h3
    refine ⟨?_, by rw [h2 hj]; exact hm j hj⟩
    rw [h1, hs, hr, catL, List.length_append, List.length_append]; omega
  · rw [(back_at hap hT hm M (Nat.le_refl _)).1, hs]; exact Nat.le_refl _
theorem catL_len {f : Nat → ByteArray} {m : Nat → Nat} {n B : Nat} (hs : ∀ i, i < n → (f i).size ≤ B) : ∀ {M : Nat}, (∀ j, j < M → m j < n) → (catL f m M).length ≤ M * B
  | 0, _ => by simp [catL]
  | M + 1, h => by
    have h1 := catL_len hs (M := M) (fun j hj => h j (by omega))
    have h2 := hs _ (h M (by omega))
    rw [size_list] at h2
    rw [catL, List.length_append, Nat.add_mul]; omega
/-- The words of lengths, as texts. -/
def canF (z : Nat → Int) (n i : Nat) : ByteArray := ⟨(wordsN z (ordL z n 40) n i).toArray⟩
theorem canF_list (z : Nat → Int) (n i : Nat) : (canF z n i).data.toList = wordsN z (ordL z n 40) n i := rfl
theorem bits_all (m : Nat) : ∀ d, (bitsL m d).all (fun c => [48, 49].contains c) = true
  | 0 => rfl
  | d + 1 => by
    rw [bitsL_front, List.all_cons, bits_all m d]
    rcases Nat.mod_two_eq_zero_or_one (m / 2 ^ d) with h | h <;> rw [h] <;> decide
theorem canF_word {z : Nat → Int} {n : Nat} (hz : ∀ i, i < n → 1 ≤ z i ∧ z i ≤ 40) {i : Nat} (hi : i < n) : ∃ q, wordsN z (ordL z n 40) n i = bitsL q (z i).toNat := by
  have hl := ordL_len hz
  have hnd : (ordL z n 40).Nodup := ordL_nodup 40
  have hmem : i ∈ ordL z n 40 := ordL_mem.2 ⟨hi, (hz i hi).1, (hz i hi).2⟩
  generalize ordL z n 40 = os at *
  obtain ⟨j, hj, e⟩ := List.getElem_of_mem hmem
  have e1 : os.getD j 0 = i := by rw [List.getD_eq_getElem?_getD, List.getElem?_eq_getElem hj]; exact e
  have e2 : wordsN z os n i = wordAt z os j := by rw [← e1, wordsN_at hnd (by omega) (by omega)]
  refine ⟨takenN z os j / shareOf z (os.getD j 0), ?_⟩
  rw [e2, wordAt, e1]
theorem canF_well {z : Nat → Int} {n : Nat} (hz : ∀ i, i < n → 1 ≤ z i ∧ z i ≤ 40) (ht : ((List.range n).map (shareOf z)).sum ≤ 1099511627776) (hn0 : 0 < n) (hn : n ≤ 16) : wdErr n (canF z n) = 0 ∧ Apart (canF z n) n ∧ ∀ i, i < n → (canF z n i).size ≤ 40 := by
  have hsz : ∀ i, i < n → (canF z n i).size = (z i).toNat := fun i hi => by
    obtain ⟨q, hq⟩ := canF_word hz hi
    rw [size_list, canF_list, hq, bitsL_length]
  have k1 : anyB lgP (canF z n) n = false := anyB_no.2 fun i hi => by
    have := hsz i hi
    have := hz i hi
    unfold lgP
    exact decide_eq_false (by omega)
  have k2 : anyB otP (canF z n) n = false := anyB_no.2 fun i hi => by
    obtain ⟨q, hq⟩ := canF_word hz hi
    unfold otP bitB
    rw [canF_list, hq, bits_all]; rfl
  have k3 : anyB emP (canF z n) n = false := anyB_no.2 fun i hi => by
    unfold emP
    rw [ByteArray.toList_eq]
    cases h1 : (canF z n i).data.toList with
    | cons _ _ => rfl
    | nil =>
      have h2 := hsz i hi
      have h3 := hz i hi
      rw [size_list, h1] at h2
      simp at h2; omega
  refine ⟨?_, fun i k hi hk hne => ?_, fun i hi => by have := hsz i hi; have := hz i hi; omega⟩
  · unfold wdErr
    rw [k1, k2, k3, if_neg (by simp; omega), if_neg (by simp), if_neg (by simp; omega)]
  · unfold begB
    exact decide_eq_false (words_apart hz ht hi hk hne)
end Go.Proofs.YtcigmihfannmjabDoor
