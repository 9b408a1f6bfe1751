/- Words of lengths, one behind the other: none begins another one; in the document's order they are the same. Plain lists. -/
import Derived.Test.YtcigmihfannmjabDoorCanonMath
namespace Go.Proofs.YtcigmihfannmjabDoor

theorem wordsN_at {z : Nat → Int} {os : List Nat} (hnd : os.Nodup) {j : Nat} : ∀ {m : Nat}, j < m → m ≤ os.length → wordsN z os m (os.getD j 0) = wordAt z os j
  | 0, h, _ => by omega
  | m + 1, h, hm => by
    rw [wordsN]
    by_cases hj : j = m
    · rw [hj, if_pos rfl]
    · rw [if_neg, wordsN_at hnd (by omega) (by omega)]
      rw [List.getD_eq_getElem?_getD, List.getD_eq_getElem?_getD, List.getElem?_eq_getElem (by omega), List.getElem?_eq_getElem (by omega)]
      intro e
      exact hj ((List.getElem_inj hnd).1 e)
theorem shareOf_pos (z : Nat → Int) (i : Nat) : 0 < shareOf z i := Nat.two_pow_pos _
theorem at_apart {z : Nat → Int} {os : List Nat} {n j1 j2 : Nat} (hl : os.length = n) (hso : os.Pairwise (fun i k => ltX z i k = true)) (hz : ∀ j, j < n → 1 ≤ z (os.getD j 0) ∧ z (os.getD j 0) ≤ 40) (ht : takenN z os n ≤ 1099511627776) (hj1 : j1 < n) (hj2 : j2 < n) (hjn : j1 ≠ j2) : ¬ wordAt z os j1 <+: wordAt z os j2 := by
  have b1 := hz _ hj1
  have b2 := hz _ hj2
  obtain ⟨x1, hx1⟩ : ∃ x : Nat, z (os.getD j1 0) = (x : Int) := ⟨(z (os.getD j1 0)).toNat, by omega⟩
  obtain ⟨x2, hx2⟩ : ∃ x : Nat, z (os.getD j2 0) = (x : Int) := ⟨(z (os.getD j2 0)).toNat, by omega⟩
  have f1 := word_fits hx1 (by omega) (Nat.le_trans (takenN_mono z _ (show j1 + 1 ≤ n by omega)) ht)
  have f2 := word_fits hx2 (by omega) (Nat.le_trans (takenN_mono z _ (show j2 + 1 ≤ n by omega)) ht)
  have w1 : wordAt z os j1 = bitsL (takenN z os j1 / 2 ^ (40 - x1)) x1 := by unfold wordAt shareOf; rw [hx1]; rfl
  have w2 : wordAt z os j2 = bitsL (takenN z os j2 / 2 ^ (40 - x2)) x2 := by unfold wordAt shareOf; rw [hx2]; rfl
  have t1 : takenN z os (j1 + 1) = takenN z os j1 + 2 ^ (40 - x1) := by rw [takenN, shareOf, hx1]; rfl
  have t2 : takenN z os (j2 + 1) = takenN z os j2 + 2 ^ (40 - x2) := by rw [takenN, shareOf, hx2]; rfl
  rw [w1, w2]
  intro hp
  have hle := hp.length_le
  rw [bitsL_length, bitsL_length] at hle
  obtain ⟨e, rfl⟩ : ∃ e, x2 = x1 + e := ⟨x2 - x1, by omega⟩
  have htk := List.prefix_iff_eq_take.1 hp
  rw [bitsL_length, bitsL_take] at htk
  have hs : 2 ^ (40 - (x1 + e)) * 2 ^ e = 2 ^ (40 - x1) := by rw [← Nat.pow_add, show 40 - (x1 + e) + e = 40 - x1 by omega]
  have h1 : takenN z os j2 / 2 ^ (40 - (x1 + e)) / 2 ^ e = takenN z os j2 / 2 ^ (40 - x1) := by rw [Nat.div_div_eq_div_mul, hs]
  have h2 : takenN z os j2 / 2 ^ (40 - x1) < 2 ^ x1 := by
    rw [← h1, Nat.div_lt_iff_lt_mul (Nat.two_pow_pos _), ← Nat.pow_add]
    exact f2
  rw [h1] at htk
  have heq := bitsL_inj f1 h2 htk
  have hp0 := Nat.two_pow_pos (40 - x1)
  rcases Nat.lt_or_ge j1 j2 with hlt | hge
  · have hm := takenN_mono z os (show j1 + 1 ≤ j2 by omega)
    rw [t1] at hm
    have h5 : (takenN z os j1 + 2 ^ (40 - x1)) / 2 ^ (40 - x1) ≤ takenN z os j2 / 2 ^ (40 - x1) := Nat.div_le_div_right hm
    rw [Nat.add_div_right _ hp0] at h5
    omega
  · have hlt : j2 < j1 := by omega
    have hsort := (List.pairwise_iff_getElem.1 hso) j2 j1 (by omega) (by omega) hlt
    have g1 : os[j1] = os.getD j1 0 := by rw [List.getD_eq_getElem?_getD, List.getElem?_eq_getElem (by omega)]; rfl
    have g2 : os[j2] = os.getD j2 0 := by rw [List.getD_eq_getElem?_getD, List.getElem?_eq_getElem (by omega)]; rfl
    rw [g1, g2] at hsort
    have hq := of_decide_eq_true hsort
    rw [hx1, hx2] at hq
    obtain rfl : e = 0 := by omega
    have hm := takenN_mono z os (show j2 + 1 ≤ j1 by omega)
    rw [t2, Nat.add_zero] at hm
    have h5 : (takenN z os j2 + 2 ^ (40 - x1)) / 2 ^ (40 - x1) ≤ takenN z os j1 / 2 ^ (40 - x1) := Nat.div_le_div_right hm
    rw [Nat.add_div_right _ hp0] at h5
    omega
theorem words_apart {z : Nat → Int} {n : Nat} (hz : ∀ i, i < n → 1 ≤ z i ∧ z i ≤ 40) (ht : ((List.range n).map (shareOf z)).sum ≤ 1099511627776) {i k : Nat} (hi : i < n) (hk : k < n) (hne : i ≠ k) : ¬ wordsN z (ordL z n 40) n i <+: wordsN z (ordL z n 40) n k := by
  have hl := ordL_len hz
  have hnd : (ordL z n 40).Nodup := ordL_nodup 40
  have hso := ordL_sorted (l := z) (n := n) 40
  have hall := takenN_all hz
  have hat : ∀ j, j < n → 1 ≤ z ((ordL z n 40).getD j 0) ∧ z ((ordL z n 40).getD j 0) ≤ 40 := fun j hj => hz _ (ordL_at hz hj)
  have hmem : ∀ i, i < n → i ∈ ordL z n 40 := fun i hi => ordL_mem.2 ⟨hi, (hz i hi).1, (hz i hi).2⟩
  generalize ordL z n 40 = os at *
  have hfind : ∀ i, i < n → ∃ j, j < n ∧ os.getD j 0 = i := fun i hi => by
    obtain ⟨j, hj, e⟩ := List.getElem_of_mem (hmem i hi)
    exact ⟨j, by omega, by rw [List.getD_eq_getElem?_getD, List.getElem?_eq_getElem hj]; exact e⟩
  obtain ⟨j1, hj1, e1⟩ := hfind i hi
  obtain ⟨j2, hj2, e2⟩ := hfind k hk
  rw [← e1, ← e2, wordsN_at hnd hj1 (by omega), wordsN_at hnd hj2 (by omega)]
  exact at_apart hl hso hat (by omega) hj1 hj2 (fun e => hne (by rw [← e1, ← e2, e]))

/-- What the document has gone through: all lengths up to V, and of the next one the first i places. -/
def gone (z : Nat → Int) (n V i : Nat) : List Nat := ordL z n V ++ rowOf z ((V : Int) + 1) i
theorem rowOf_succ (z : Nat → Int) (v : Int) (i : Nat) : rowOf z v (i + 1) = if z i = v then rowOf z v i ++ [i] else rowOf z v i := by
  unfold rowOf
  rw [List.range_succ, List.filter_append]
  by_cases h : z i = v <;> simp [h]
theorem gone_zero (z : Nat → Int) (n V : Nat) : gone z n V 0 = ordL z n V := by simp [gone, rowOf]
theorem gone_all (z : Nat → Int) (n V : Nat) : gone z n V n = ordL z n (V + 1) := rfl
theorem gone_yes {z : Nat → Int} {n V i : Nat} (h : z i = (V : Int) + 1) : gone z n V (i + 1) = gone z n V i ++ [i] := by unfold gone; rw [rowOf_succ, if_pos h, List.append_assoc]
theorem gone_no {z : Nat → Int} {n V i : Nat} (h : z i ≠ (V : Int) + 1) : gone z n V (i + 1) = gone z n V i := by unfold gone; rw [rowOf_succ, if_neg h]
theorem rowOf_pre (z : Nat → Int) (v : Int) {i n : Nat} (h : i ≤ n) : rowOf z v i <+: rowOf z v n := by
  induction n with
  | zero => obtain rfl : i = 0 := by omega
            exact List.prefix_refl _
  | succ n ih =>
    rcases Nat.lt_or_ge i (n + 1) with h' | h'
    · refine (ih (by omega)).trans ?_
      rw [rowOf_succ]; split
      · exact List.prefix_append _ _
      · exact List.prefix_refl _
    · obtain rfl : i = n + 1 := by omega
      exact List.prefix_refl _
theorem ordL_pre (z : Nat → Int) (n : Nat) {V U : Nat} (h : V ≤ U) : ordL z n V <+: ordL z n U := by
  induction U with
  | zero => obtain rfl : V = 0 := by omega
            exact List.prefix_refl _
  | succ U ih =>
    rcases Nat.lt_or_ge V (U + 1) with h' | h'
    · exact (ih (by omega)).trans (List.prefix_append _ _)
    · obtain rfl : V = U + 1 := by omega
      exact List.prefix_refl _
theorem gone_pre (z : Nat → Int) {n V i : Nat} (hV : V < 40) (hi : i ≤ n) : gone z n V i <+: ordL z n 40 := by
  refine List.IsPrefix.trans ?_ (ordL_pre z n (show V + 1 ≤ 40 by omega))
  exact (List.prefix_append_right_inj _).2 (rowOf_pre z _ hi)
/-- The place that comes next in the order. -/
theorem gone_next {z : Nat → Int} {n V i : Nat} (hV : V < 40) (hi : i < n) (h : z i = (V : Int) + 1) : (ordL z n 40).getD (gone z n V i).length 0 = i := by
  have hp := gone_pre z hV (show i + 1 ≤ n by omega)
  rw [gone_yes h] at hp
  obtain ⟨r, hr⟩ := hp
  rw [← hr, List.getD_eq_getElem?_getD, List.append_assoc, List.getElem?_append_right (Nat.le_refl _)]
  simp
end Go.Proofs.YtcigmihfannmjabDoor
