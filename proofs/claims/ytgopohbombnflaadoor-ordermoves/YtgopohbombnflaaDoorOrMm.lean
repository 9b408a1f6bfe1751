/- HARDY, LITTLEWOOD and POLYA: the moves from one list to another one that it is above. -/
import Derived.Test.YtgopohbombnflaaDoorOrMath
import Derived.Test.YtgopohbombnflaaDoorOrAp
namespace Go.Proofs.YtgopohbombnflaaDoor

/-- How many are not 0. -/
def nzN (d : Nat → Int) : Nat → Nat
  | 0 => 0
  | k + 1 => nzN d k + if d k = 0 then 0 else 1
theorem nz_le (d : Nat → Int) : ∀ n, nzN d n ≤ n
  | 0 => Nat.le_refl _
  | n + 1 => by have := nz_le d n; unfold nzN; split <;> omega
theorem nz_zero {d : Nat → Int} : ∀ {n : Nat}, nzN d n = 0 → ∀ k, k < n → d k = 0
  | 0, _, k, hk => by omega
  | n + 1, h, k, hk => by
    unfold nzN at h
    by_cases h1 : d n = 0
    · rw [if_pos h1] at h
      rcases Nat.lt_or_ge k n with h2 | h2
      · exact nz_zero (by omega) k h2
      · obtain rfl : k = n := by omega
        exact h1
    · rw [if_neg h1] at h; omega
theorem sum_zero {d : Nat → Int} : ∀ {n : Nat}, (∀ k, k < n → d k = 0) → sumN d n = 0
  | 0, _ => rfl
  | n + 1, h => by show sumN d n + d n = 0; rw [sum_zero (fun k hk => h k (by omega)), h n (by omega)]; rfl
theorem nz_one {d : Nat → Int} : ∀ {n : Nat}, nzN d n = 1 → sumN d n ≠ 0
  | 0, h => by simp [nzN] at h
  | n + 1, h => by
    unfold nzN at h
    show sumN d n + d n ≠ 0
    by_cases h1 : d n = 0
    · rw [if_pos h1] at h
      have := nz_one (d := d) (n := n) (by omega)
      omega
    · rw [if_neg h1] at h
      rw [sum_zero (nz_zero (by omega))]
      omega
theorem nz_mono {d d' : Nat → Int} : ∀ {n : Nat}, (∀ k, k < n → d' k ≠ 0 → d k ≠ 0) → nzN d' n ≤ nzN d n
  | 0, _ => Nat.le_refl _
  | n + 1, h => by
    have h1 := nz_mono (d := d) (d' := d') (n := n) (fun k hk => h k (by omega))
    have h2 := h n (by omega)
    unfold nzN
    by_cases e : d' n = 0
    · rw [if_pos e]; split <;> omega
    · rw [if_neg e, if_neg (h2 e)]; omega
theorem nz_lt {d d' : Nat → Int} : ∀ {n k0 : Nat}, (∀ k, k < n → d' k ≠ 0 → d k ≠ 0) → k0 < n → d k0 ≠ 0 → d' k0 = 0 → nzN d' n + 1 ≤ nzN d n
  | 0, _, _, h, _, _ => by omega
  | n + 1, k0, h, hk, h1, h2 => by
    have hn := h n (by omega)
    unfold nzN
    rcases Nat.lt_or_ge k0 n with h3 | h3
    · have ih := nz_lt (d := d) (d' := d') (n := n) (k0 := k0) (fun k hk => h k (by omega)) h3 h1 h2
      by_cases e : d' n = 0
      · rw [if_pos e]; split <;> omega
      · rw [if_neg e, if_neg (hn e)]; omega
    · obtain rfl : k0 = n := by omega
      have := nz_mono (d := d) (d' := d') (n := k0) (fun k hk => h k (by omega))
      rw [if_pos h2, if_neg h1]; omega
theorem sumN_set (d : Nat → Int) (i : Nat) (x : Int) : ∀ k, sumN (setF d i x) k = sumN d k + if i < k then x - d i else 0
  | 0 => by simp [sumN]
  | k + 1 => by
    show sumN (setF d i x) k + setF d i x k = sumN d k + d k + _
    rw [sumN_set d i x k]
    unfold setF
    by_cases h : k = i
    · subst h
      rw [if_pos rfl, if_neg (by omega), if_pos (by omega)]; omega
    · rw [if_neg h]
      by_cases h2 : i < k
      · rw [if_pos h2, if_pos (by omega)]; omega
      · rw [if_neg h2, if_neg (by omega)]; omega
theorem run_snoc (n : Nat) (m : MvI) : ∀ (l : List MvI) (z f : Nat → Int) (k : Nat), runM n z l k = .inr f → mvB n f m = false → runM n z (l ++ [m]) k = .inr (mvS f m)
  | [], z, f, k, h, hb => by
    obtain rfl : z = f := by simpa [runM] using h
    show (if mvB n z m = true then _ else _) = _
    rw [hb, if_neg (by decide)]; rfl
  | c :: l, z, f, k, h, hb => by
    have h1 : (if mvB n z c = true then Sum.inl k else runM n (mvS z c) l (k + 1)) = .inr f := h
    show (if mvB n z c = true then Sum.inl k else runM n (mvS z c) (l ++ [m]) (k + 1)) = _
    by_cases hc : mvB n z c = true
    · rw [if_pos hc] at h1; cases h1
    · rw [if_neg hc] at h1 ⊢
      exact run_snoc n m l _ f _ h1 hb
theorem perm_inj {D : List Nat} {n i j : Nat} (h : D.Perm (List.range n)) (hi : i < n) (hj : j < n) (e : D.getD i 0 = D.getD j 0) : i = j := by
  have hl : D.length = n := by rw [h.length_eq, List.length_range]
  have hd : D.Nodup := h.nodup_iff.2 List.nodup_range
  rw [List.getD_eq_getElem?_getD, List.getD_eq_getElem?_getD, List.getElem?_eq_getElem (by omega), List.getElem?_eq_getElem (by omega)] at e
  simp only [Option.getD_some] at e
  have hp := List.pairwise_iff_getElem.1 hd
  rcases Nat.lt_trichotomy i j with h1 | h1 | h1
  · exact absurd e (hp i j (by omega) (by omega) h1)
  · exact h1
  · exact absurd e.symm (hp j i (by omega) (by omega) h1)
theorem perm_lt' {D : List Nat} {n j : Nat} (h : D.Perm (List.range n)) (hj : j < n) : D.getD j 0 < n := by
  have hl : D.length = n := by rw [h.length_eq, List.length_range]
  have hm : D.getD j 0 ∈ D := by
    rw [List.getD_eq_getElem?_getD, List.getElem?_eq_getElem (by omega)]
    exact List.getElem_mem _
  exact List.mem_range.1 (h.mem_iff.1 hm)

theorem mvB_of {n : Nat} {z : Nat → Int} {i j : Nat} {s : Int} (hi : i < n) (hj : j < n) (hij : i ≠ j) (h0 : 0 ≤ s) (hs : s ≤ z i - z j) : mvB n z ⟨(i : Int), (j : Int), s⟩ = false := by
  simp [mvB]
  omega
/-- Where Moves stands: from, to, what each has too much, the moves so far. -/
structure MvJ (n : Nat) (p q : Nat → Int) (D : List Nat) (fr to : Nat) (d : Nat → Int) (ml : List MvI) : Prop where
  ft : fr ≤ to
  neg : ∀ k, k < to → 0 ≤ d k
  zer : ∀ k, k < fr → d k = 0
  sum : ∀ k, k ≤ n → 0 ≤ sumN d k
  tot : sumN d n = 0
  bnd : ∀ k, k < n → -4096 ≤ d k ∧ d k ≤ 4096
  cur : ∃ c, runM n p ml 0 = .inr c ∧ ∀ k, k < n → c (D.getD k 0) = atF (fallL q n) k + d k
  cnt : (nzN d n = 0 ∧ ml.length + 1 ≤ n) ∨ (2 ≤ nzN d n ∧ ml.length + nzN d n ≤ n)
theorem MvJ.start {n : Nat} {p q : Nat → Int} {D : List Nat} (h0 : 0 < n) (hm : D.map p = fallL p n) (hp : ∀ k, k < n → 0 ≤ p k ∧ p k ≤ 4096) (hq : ∀ k, k < n → 0 ≤ q k ∧ q k ≤ 4096) (hs : sumN p n = sumN q n) (hd : dipN (surF p q n) n = false) : MvJ n p q D 0 0 (surF p q n) [] := by
  have ht : sumN (surF p q n) n = 0 := by rw [sur_sum, fall_sum, fall_sum]; omega
  refine ⟨Nat.le_refl _, fun k hk => by omega, fun k hk => by omega, dipN_none hd, ht, fun k hk => ?_, ⟨p, rfl, fun k hk => ?_⟩, ?_⟩
  · have h1 := fall_right hp hk
    have h2 := fall_right hq hk
    unfold surF; omega
  · rw [fall_at hm hk]; unfold surF; omega
  · rcases Nat.eq_zero_or_pos (nzN (surF p q n) n) with h | h
    · exact Or.inl ⟨h, by simp; omega⟩
    · refine Or.inr ⟨?_, by simpa using nz_le _ _⟩
      rcases Nat.lt_or_ge 1 (nzN (surF p q n) n) with h2 | h2
      · omega
      · exact absurd ht (nz_one (by omega))
theorem MvJ.next {n : Nat} {p q : Nat → Int} {D : List Nat} {fr to : Nat} {d : Nat → Int} {ml : List MvI} (h : MvJ n p q D fr to d ml) (hd : ¬ d to < 0) : MvJ n p q D fr (to + 1) d ml :=
  ⟨by have := h.ft; omega, fun k hk => by
    rcases Nat.lt_or_ge k to with h1 | h1
    · exact h.neg k h1
    · obtain rfl : k = to := by omega
      omega, h.zer, h.sum, h.tot, h.bnd, h.cur, h.cnt⟩
theorem MvJ.lt {n : Nat} {p q : Nat → Int} {D : List Nat} {fr to : Nat} {d : Nat → Int} {ml : List MvI} (h : MvJ n p q D fr to d ml) (hto : to < n) (hd : d to < 0) : fr < to := by
  rcases Nat.lt_or_ge fr to with h1 | h1
  · exact h1
  · have e : fr = to := by have := h.ft; omega
    have h2 := h.sum (to + 1) hto
    have h3 : sumN d to = 0 := sum_zero (fun k hk => h.zer k (by omega))
    simp only [sumN] at h2
    omega
theorem MvJ.skip {n : Nat} {p q : Nat → Int} {D : List Nat} {fr to : Nat} {d : Nat → Int} {ml : List MvI} (h : MvJ n p q D fr to d ml) (hto : to < n) (hd : d to < 0) (hf : d fr ≤ 0) : MvJ n p q D (fr + 1) to d ml := by
  have hlt := h.lt hto hd
  refine ⟨hlt, h.neg, fun k hk => ?_, h.sum, h.tot, h.bnd, h.cur, h.cnt⟩
  rcases Nat.lt_or_ge k fr with h1 | h1
  · exact h.zer k h1
  · obtain rfl : k = fr := by omega
    have := h.neg k hlt
    omega
/-- The move that is made. -/
def mvM (D : List Nat) (fr to : Nat) (s : Int) : MvI := ⟨(D.getD fr 0 : Nat), (D.getD to 0 : Nat), s⟩
theorem MvJ.move {n : Nat} {p q : Nat → Int} {D : List Nat} {fr to : Nat} {d : Nat → Int} {ml : List MvI} (h : MvJ n p q D fr to d ml) (hD : D.Perm (List.range n)) (hto : to < n) (hd : d to < 0) (hf : 0 < d fr) (s : Int) (hs1 : s ≤ d fr) (hs2 : s ≤ - d to) (hs3 : s = d fr ∨ s = - d to) :
    MvJ n p q D fr to (setF (setF d fr (d fr - s)) to (d to + s)) (ml ++ [mvM D fr to s]) := by
  have hlt := h.lt hto hd
  have hs0 : 0 < s := by omega
  have ne : to ≠ fr := by omega
  have hto' : setF d fr (d fr - s) to = d to := setF_other ne
  have vF : setF (setF d fr (d fr - s)) to (d to + s) fr = d fr - s := by rw [setF_other (by omega), setF_at]
  have vT : setF (setF d fr (d fr - s)) to (d to + s) to = d to + s := setF_at _ _ _
  have vO : ∀ k, k ≠ fr → k ≠ to → setF (setF d fr (d fr - s)) to (d to + s) k = d k := fun k h1 h2 => by rw [setF_other h2, setF_other h1]
  have hsum : ∀ k, sumN (setF (setF d fr (d fr - s)) to (d to + s)) k = sumN d k + (if fr < k then - s else 0) + (if to < k then s else 0) := fun k => by
    rw [sumN_set, sumN_set, hto']
    by_cases h1 : fr < k
    · rw [if_pos h1, if_pos h1]
      by_cases h2 : to < k
      · rw [if_pos h2, if_pos h2]; omega
      · rw [if_neg h2, if_neg h2]; omega
    · rw [if_neg h1, if_neg h1, if_neg (by omega), if_neg (by omega)]
  have htot : sumN (setF (setF d fr (d fr - s)) to (d to + s)) n = 0 := by rw [hsum, if_pos (by omega), if_pos hto, h.tot]; omega
  have hneg : ∀ k, k < to → 0 ≤ setF (setF d fr (d fr - s)) to (d to + s) k := fun k hk => by
    by_cases e : k = fr
    · rw [e, vF]; omega
    · rw [vO k e (by omega)]; exact h.neg k hk
  have hnz : nzN (setF (setF d fr (d fr - s)) to (d to + s)) n + 1 ≤ nzN d n := by
    have hm : ∀ k, k < n → setF (setF d fr (d fr - s)) to (d to + s) k ≠ 0 → d k ≠ 0 := fun k _ hk => by
      by_cases e1 : k = fr
      · rw [e1]; omega
      · by_cases e2 : k = to
        · rw [e2]; omega
        · rw [vO k e1 e2] at hk; exact hk
    rcases hs3 with e | e
    · exact nz_lt hm (show fr < n by omega) (by omega) (by rw [vF]; omega)
    · exact nz_lt hm hto (by omega) (by rw [vT]; omega)
  refine ⟨h.ft, hneg, fun k hk => by rw [vO k (by omega) (by omega)]; exact h.zer k hk, fun k hk => ?_, htot, fun k hk => ?_, ?_, ?_⟩
  · rcases Nat.lt_or_ge to k with h1 | h1
    · rw [hsum, if_pos (by omega), if_pos h1]
      have := h.sum k hk
      omega
    · exact sumN_nonneg (fun i hi => hneg i (by omega))
  · have b := h.bnd k hk
    have bf := h.bnd fr (by omega)
    have bt := h.bnd to hto
    by_cases e1 : k = fr
    · rw [e1, vF]; omega
    · by_cases e2 : k = to
      · rw [e2, vT]; omega
      · rw [vO k e1 e2]; exact b
  · obtain ⟨c, hr, hc⟩ := h.cur
    have hcf := hc fr (by omega)
    have hct := hc to hto
    have hq := atF_down (fallL_down q n) (i := fr) (j := to) (by omega) (by rw [fallL_length]; exact hto)
    have hne : D.getD to 0 ≠ D.getD fr 0 := fun e => ne (perm_inj hD hto (by omega) e)
    have l1 := perm_lt' hD (show fr < n by omega)
    have l2 := perm_lt' hD hto
    have hb : mvB n c (mvM D fr to s) = false := by
      exact mvB_of l1 l2 (fun e => hne e.symm) (by omega) (by rw [hcf, hct]; omega)
    refine ⟨_, run_snoc n _ ml p c 0 hr hb, fun k hk => ?_⟩
    simp only [mvS, mvM, Int.toNat_natCast]
    by_cases e2 : k = to
    · subst e2
      rw [setF_at, vT, hct]; omega
    · have hne2 : D.getD k 0 ≠ D.getD to 0 := fun e => e2 (perm_inj hD hk hto e)
      rw [setF_other hne2]
      by_cases e1 : k = fr
      · subst e1
        rw [setF_at, vF, hcf]; omega
      · have hne1 : D.getD k 0 ≠ D.getD fr 0 := fun e => e1 (perm_inj hD hk (by omega) e)
        rw [setF_other hne1, vO k e1 e2]
        exact hc k hk
  · rw [List.length_append]
    show (_ ∧ ml.length + 1 + 1 ≤ n) ∨ (_ ∧ ml.length + 1 + _ ≤ n)
    rcases h.cnt with ⟨h1, _⟩ | ⟨h1, h2⟩
    · omega
    · rcases Nat.eq_zero_or_pos (nzN (setF (setF d fr (d fr - s)) to (d to + s)) n) with h3 | h3
      · exact Or.inl ⟨h3, by omega⟩
      · refine Or.inr ⟨?_, by omega⟩
        rcases Nat.lt_or_ge 1 (nzN (setF (setF d fr (d fr - s)) to (d to + s)) n) with h4 | h4
        · omega
        · exact absurd htot (nz_one (by omega))
/-- What the moves are to be. -/
def MvOk (n : Nat) (p q : Nat → Int) (ml : List MvI) : Prop := ml.length + 1 ≤ n ∧ ∃ c, runM n p ml 0 = .inr c ∧ fallL c n = fallL q n
theorem MvJ.len {n : Nat} {p q : Nat → Int} {D : List Nat} {fr to : Nat} {d : Nat → Int} {ml : List MvI} (h : MvJ n p q D fr to d ml) : ml.length + 1 ≤ n := by
  rcases h.cnt with ⟨_, h1⟩ | ⟨h1, h2⟩ <;> omega
theorem sum_nonneg_zero {d : Nat → Int} : ∀ {n : Nat}, (∀ k, k < n → 0 ≤ d k) → sumN d n = 0 → ∀ k, k < n → d k = 0
  | 0, _, _, k, hk => by omega
  | n + 1, h, hs, k, hk => by
    have h1 := sumN_nonneg (z := d) (n := n) (fun i hi => h i (by omega))
    have h2 := h n (by omega)
    simp only [sumN] at hs
    rcases Nat.lt_or_ge k n with h3 | h3
    · exact sum_nonneg_zero (fun i hi => h i (by omega)) (by omega) k h3
    · obtain rfl : k = n := by omega
      omega
theorem MvJ.done {n : Nat} {p q : Nat → Int} {D : List Nat} {fr : Nat} {d : Nat → Int} {ml : List MvI} (h : MvJ n p q D fr n d ml) (hD : D.Perm (List.range n)) : MvOk n p q ml := by
  refine ⟨h.len, ?_⟩
  obtain ⟨c, hr, hc⟩ := h.cur
  refine ⟨c, hr, ?_⟩
  have hz := sum_nonneg_zero h.neg h.tot
  have hl : D.length = n := by rw [hD.length_eq, List.length_range]
  have hm : D.map c = fallL q n := by
    refine List.ext_getElem (by rw [List.length_map, fallL_length, hl]) (fun i h1 h2 => ?_)
    have hi : i < n := by rw [List.length_map] at h1; omega
    have := hc i hi
    rw [hz i hi] at this
    simp [List.getD, hl, hi, atF, fallL_length] at this
    simpa using this
  refine List.Perm.eq_of_pairwise (le := fun a b => b ≤ a) (fun a b _ _ h1 h2 => by omega) (fallL_down c n) (fallL_down q n) ?_
  rw [← hm]
  exact (fallL_perm c n).trans (hD.map c).symm
end Go.Proofs.YtgopohbombnflaaDoor
