/- What is slid comes back. -/
import Derived.Test.YtiocbnjdmceadaaDoorSlMath
import Derived.Test.YtiocbnjdmceadaaDoorUnMath
namespace Go.Proofs.YtiocbnjdmceadaaDoor

theorem cpyN_more : ∀ n k b, cpyN (n + 1) k b = cpyN n k b ++ [(cpyN n k b).getD ((cpyN n k b).length - k) 0]
  | 0, k, b => rfl
  | n + 1, k, b => by
    rw [cpyN, cpyN_more n k (b ++ [b.getD (b.length - k) 0])]
    rfl
theorem cpyN_take (L : List UInt8) (p k : Nat) (hk : 1 ≤ k) (hkp : k ≤ p) : ∀ n, p + n ≤ L.length → (∀ j, j < n → L.getD (p + j) 0 = L.getD (p - k + j) 0) → cpyN n k (L.take p) = L.take (p + n)
  | 0, _, _ => rfl
  | n + 1, hn, hc => by
    rw [cpyN_more, cpyN_take L p k hk hkp n (by omega) (fun j hj => hc j (by omega))]
    have hl : (L.take (p + n)).length = p + n := by rw [List.length_take]; omega
    rw [hl, show p + (n + 1) = p + n + 1 by omega, List.take_succ_eq_append_getElem (show p + n < L.length by omega)]
    congr 2
    have h1 := hc n (by omega)
    rw [List.getD_eq_getElem?_getD, List.getD_eq_getElem?_getD, List.getElem?_eq_getElem (show p + n < L.length by omega)] at h1
    rw [List.getD_eq_getElem?_getD, List.getElem?_take_of_lt (by omega), show p + n - k = p - k + n by omega, ← h1]
    rfl
theorem bst_same_bytes (L : List UInt8) (p m j : Nat) (hj : j < (bst L p m).2) : L.getD (p + j) 0 = L.getD (p - (bst L p m).1 + j) 0 := by
  have h := bst_copy L p m
  have h2 := congrArg (fun l : List UInt8 => l[j]?) h
  simp only [List.getElem?_take_of_lt hj, List.getElem?_drop] at h2
  rw [List.getD_eq_getElem?_getD, List.getD_eq_getElem?_getD, ← h2]
/-- A copy as it may come in. -/
def ofC (c : Cpy) : CpI := ⟨(c.back : Int), (c.len : Int), UInt8.ofNat c.next, c.last⟩
theorem back_step (L : List UInt8) (w p : Nat) (h : p < L.length) : let r := bst L p (min w p); p + r.2 ≤ L.length ∧ r.1 ≤ p ∧ (r.1 = 0 ↔ r.2 = 0) ∧ cpyN r.2 r.1 (L.take p) = L.take (p + r.2) := by
  intro r
  have h1 := bst_le L p (min w p)
  have h2 := bst_zero L p (min w p)
  have hr : p + r.2 ≤ L.length := by show p + (bst L p (min w p)).2 ≤ _; omega
  have hb : r.1 ≤ p := by show (bst L p (min w p)).1 ≤ p; omega
  refine ⟨hr, hb, h2, ?_⟩
  by_cases h0 : r.2 = 0
  · rw [h0]; rfl
  · exact cpyN_take L p r.1 (by have : r.1 ≠ 0 := fun e => h0 (h2.1 e); omega) hb r.2 hr (fun j hj => bst_same_bytes L p _ j hj)
theorem next_byte (L : List UInt8) (q : Nat) (h : q < L.length) : UInt8.ofNat (L.getD q 0).toNat = L[q] := by
  rw [List.getD_eq_getElem?_getD, List.getElem?_eq_getElem h]
  simp
theorem slide_back (L : List UInt8) (w : Nat) : ∀ (f p i n : Nat), p ≤ L.length → L.length + 1 ≤ f + p → n = i + (slL L w f p).length → scanC n ((slL L w f p).map ofC) i p = .inr L.length ∧ ((slL L w f p).map ofC).foldl stepT (L.take p) = L
  | 0, p, i, n, hp, hf, hn => by omega
  | f + 1, p, i, n, hp, hf, hn => by
    rcases Nat.lt_or_ge p L.length with h | h
    · obtain ⟨h1, h2, h3, h4⟩ := back_step L w p h
      rcases Nat.lt_or_ge (p + (bst L p (min w p)).2) L.length with h5 | h5
      · rw [slL_step L w f p h h5] at hn ⊢
        generalize bst L p (min w p) = r at *
        have hok : badC n i p (ofC ⟨r.1, r.2, (L.getD (p + r.2) 0).toNat, false⟩) = false := by
          unfold badC ofC
          simp only [Bool.false_and, Bool.or_false, decide_eq_false_iff_not]
          omega
        obtain ⟨ih1, ih2⟩ := slide_back L w f (p + r.2 + 1) (i + 1) n (by omega) (by omega) (by rw [hn]; simp; omega)
        constructor
        · rw [List.map_cons, scanC_ok hok]
          have e : stepC p (ofC ⟨r.1, r.2, (L.getD (p + r.2) 0).toNat, false⟩) = p + r.2 + 1 := by simp [stepC, ofC]
          rw [e]
          exact ih1
        · rw [List.map_cons, List.foldl_cons]
          have e : stepT (L.take p) (ofC ⟨r.1, r.2, (L.getD (p + r.2) 0).toNat, false⟩) = L.take (p + r.2 + 1) := by
            unfold stepT ofC
            rw [if_neg (show ¬ (false = true) by decide), Int.toNat_natCast, Int.toNat_natCast, h4, next_byte L _ h5, List.take_succ_eq_append_getElem h5]
          rw [e]
          exact ih2
      · rw [slL_last L w f p h h5] at hn ⊢
        generalize bst L p (min w p) = r at *
        have hok : badC n i p (ofC ⟨r.1, r.2, 0, true⟩) = false := by
          unfold badC ofC
          simp only [Bool.true_and, Bool.or_eq_false_iff, decide_eq_false_iff_not]
          simp at hn
          refine ⟨by omega, ?_⟩
          have : (UInt8.ofNat 0).toNat = 0 := rfl
          rw [this]
          omega
        have hpe : p + r.2 = L.length := by omega
        constructor
        · rw [List.map_cons, scanC_ok hok]
          have e : stepC p (ofC ⟨r.1, r.2, 0, true⟩) = L.length := by simp [stepC, ofC]; omega
          rw [e]
          rfl
        · rw [List.map_cons, List.foldl_cons]
          have e : stepT (L.take p) (ofC ⟨r.1, r.2, 0, true⟩) = L := by
            unfold stepT ofC
            rw [if_pos rfl, Int.toNat_natCast, Int.toNat_natCast, h4, hpe, List.take_length]
          rw [e]
          rfl
    · rw [slL_end L w (f + 1) p h]
      obtain rfl : p = L.length := by omega
      exact ⟨rfl, by rw [List.take_length]; rfl⟩
theorem slL_short (L : List UInt8) (w : Nat) : ∀ f p, (slL L w f p).length ≤ f
  | 0, p => Nat.le_refl _
  | f + 1, p => by
    have ih := slL_short L w f (p + (bst L p (min w p)).2 + 1)
    unfold slL
    split
    · split
      · simp; exact ih
      · simp
    · simp
theorem slL_lens (L : List UInt8) (w : Nat) : ∀ f p c, c ∈ slL L w f p → c.len ≤ L.length
  | 0, p, c, h => by simp [slL] at h
  | f + 1, p, c, h => by
    have ih := slL_lens L w f (p + (bst L p (min w p)).2 + 1) c
    have hb := (bst_le L p (min w p)).2
    unfold slL at h
    split at h
    · split at h
      · rcases List.mem_cons.1 h with rfl | h
        · show (bst L p (min w p)).2 ≤ _; omega
        · exact ih h
      · obtain rfl := List.mem_singleton.1 h
        show (bst L p (min w p)).2 ≤ _; omega
    · simp at h
theorem slid_ok (L : List UInt8) (w : Nat) (hL : L.length ≤ 600) : (cpE ((slL L w (L.length + 1) 0).map ofC)).1 = 0 ∧ cpT ((slL L w (L.length + 1) 0).map ofC) = L := by
  obtain ⟨h1, h2⟩ := slide_back L w (L.length + 1) 0 0 _ (Nat.zero_le _) (by omega) rfl
  have hl := slL_short L w (L.length + 1) 0
  rw [Nat.zero_add] at h1
  refine ⟨?_, by rw [List.take_zero] at h2; exact h2⟩
  unfold cpE
  rw [if_neg (by rw [List.length_map]; omega), if_neg ?_]
  · rw [List.length_map, h1]
    simp only
    rw [if_neg (by omega)]
  · rw [Bool.not_eq_true]
    refine any_none fun i c hc => ?_
    rw [List.getElem?_map] at hc
    obtain ⟨d, hd, rfl⟩ := Option.map_eq_some_iff.1 hc
    have := slL_lens L w _ _ d (List.mem_of_getElem? hd)
    show ¬ (4000 : Int) < (d.len : Int)
    omega
end Go.Proofs.YtiocbnjdmceadaaDoor
