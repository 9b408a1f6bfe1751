/- The least programs: what follows from the look through all of them. -/
import Derived.Test.YtdfcipdknfebpaaDoorMacK
namespace Go.Proofs.YtdfcipdknfebpaaDoor

theorem looked5 : chkS (lvl 17).1 = true ∧ chkE (lvl 17).1 = true ∧ chkC (lvl 17).2 (lvl 17).1 = true ∧ chkT (lvl 17).2 = true ∧ (List.range 17).map (manyM (lvl 17).1.flatten) = [1, 1, 3, 3, 7, 7, 15, 19, 31, 47, 75, 117, 159, 217, 301, 355, 511] := by
  have h := looked
  simp only [Bool.and_eq_true, decide_eq_true_eq] at h
  exact ⟨h.1.1.1.1, h.1.1.1.2, h.1.1.2, h.1.2, h.2⟩
theorem srt_ok {n : Nat} (h : n < 17) : srtd (lonS (lvl n).1 n) = true ∧ (lonS (lvl n).1 n).length ≤ 1000 := by
  have h1 := looked5.1
  unfold chkS at h1
  rw [List.all_eq_true] at h1
  have h2 := h1 n (List.mem_range.2 h)
  have h3 := lvl_take n (17 - n)
  rw [show n + (17 - n) = 17 by omega] at h3
  simp only [h3, Bool.and_eq_true, decide_eq_true_eq] at h2
  exact h2
theorem lon_len {n : Nat} (h : n < 17) : (lon (lvl n).1 n).length ≤ 1000 := by rw [← (lonS_perm (lvl n).1 n).length_eq]; exact (srt_ok h).2
theorem lvl_mem : ∀ (n : Nat) (l : List Pg), l ∈ (lvl n).1 → ∃ k, k < n ∧ l = (frs (lonS (lvl k).1 k) (lvl k).2).1
  | 0, l, h => by simp [lvl] at h
  | n + 1, l, h => by
    have h' : l ∈ (lvl n).1 ++ [(frs (lonS (lvl n).1 n) (lvl n).2).1] := h
    rcases List.mem_append.1 h' with h1 | h1
    · obtain ⟨k, hk, e⟩ := lvl_mem n l h1; exact ⟨k, by omega, e⟩
    · exact ⟨n, by omega, List.mem_singleton.1 h1⟩
theorem lvl_short {n : Nat} (hn : n ≤ 17) {l : List Pg} (h : l ∈ (lvl n).1) : l.length ≤ 1000 := by
  obtain ⟨k, hk, rfl⟩ := lvl_mem n l h
  exact Nat.le_trans (frs_len _ _) (srt_ok (by omega)).2
theorem allE_pre (n : Nat) : ∀ m, allE n <+: allE (n + m)
  | 0 => List.prefix_refl _
  | m + 1 => by
    have h := allE_pre n m
    have e : allE (n + (m + 1)) = allE (n + m) ++ _ := allE_succ (n + m)
    rw [e]
    exact h.trans (List.prefix_append _ _)
theorem allE_le {n : Nat} (h : n ≤ 17) : allE n <+: allE 17 := by have := allE_pre n (17 - n); rwa [show n + (17 - n) = 17 by omega] at this
theorem ent_small {p : Pg} (h : p ∈ allE 17) : (fla p).length ≤ 16 ∧ (stp p).length ≤ 24 := by
  have h1 := looked5.2.1
  unfold chkE at h1
  rw [List.all_eq_true] at h1
  have h2 := h1 p h
  simp only [Bool.and_eq_true, decide_eq_true_eq] at h2
  exact h2
theorem lvl_small {n : Nat} (hn : n ≤ 17) {l : List Pg} (h : l ∈ (lvl n).1) {p : Pg} (hp : p ∈ l) : (fla p).length ≤ 16 ∧ (stp p).length ≤ 24 :=
  ent_small ((allE_le hn).subset (List.mem_flatten.2 ⟨l, h, hp⟩))
theorem lon_small {n : Nat} (hn : n < 17) {p : Pg} (h : p ∈ lon (lvl n).1 n) : (stp p).length ≤ 100 := by
  unfold lon at h
  split at h
  · rw [List.mem_singleton.1 h]; simp [stp]
  · obtain ⟨k, _, hk⟩ := List.mem_flatMap.1 h
    unfold lonL at hk
    split at hk
    · obtain ⟨q, hq, rfl⟩ := List.mem_map.1 hk
      have hq2 : (stp q).length ≤ 24 := by
        rcases Nat.lt_or_ge (n - (mW k).length) (lvl n).1.length with h1 | h1
        · rw [List.getD_eq_getElem?_getD, List.getElem?_eq_getElem h1] at hq
          exact (lvl_small (by omega) (List.getElem_mem h1) hq).2
        · rw [List.getD_eq_getElem?_getD, List.getElem?_eq_none h1] at hq
          simp at hq
      rw [stp_snoc]
      have := mD_len k (stp q)
      omega
    · simp at hk
/-- The level n, of its own. -/
def levN (n : Nat) : List Pg := (frs (lonS (lvl n).1 n) (lvl n).2).1
theorem lvl_succ1 (n : Nat) : (lvl (n + 1)).1 = (lvl n).1 ++ [levN n] := rfl
theorem lvl_succ2 (n : Nat) : (lvl (n + 1)).2 = (frs (lonS (lvl n).1 n) (lvl n).2).2 := rfl
theorem allE_lev (n : Nat) : allE (n + 1) = allE n ++ levN n := allE_succ n
theorem lev_pre {n i : Nat} {p : Pg} (hn : n < 17) (hp : (levN n)[i]? = some p) : (allE n ++ (levN n).take i) ++ [p] <+: allE 17 := by
  refine List.IsPrefix.trans ?_ (allE_le (show n + 1 ≤ 17 by omega))
  rw [allE_lev, List.append_assoc]
  refine (List.prefix_append_right_inj (allE n)).2 ?_
  have : (levN n).take (i + 1) = (levN n).take i ++ [p] := by rw [List.take_add_one, hp]; rfl
  rw [← this]
  exact List.take_prefix _ _
theorem lev_len {n : Nat} (hn : n < 17) : (levN n).length ≤ 1000 := Nat.le_trans (frs_len _ _) (srt_ok hn).2

/-- No program comes ahead of the one that is found. -/
theorem slP_trans {a b c : Pg} (h1 : slP a b = true) (h2 : slP b c = true) : slP a c = true := by
  unfold slP at h1 h2 ⊢
  by_cases x1 : (fla a).length < (fla b).length
  · by_cases y1 : (fla b).length < (fla c).length
    · rw [if_pos (by omega)]
    · rw [if_neg y1] at h2
      by_cases y2 : (fla b).length = (fla c).length
      · rw [if_pos (by omega)]
      · rw [if_neg y2] at h2; exact absurd h2 (by simp)
  · rw [if_neg x1] at h1
    by_cases x2 : (fla a).length = (fla b).length
    · rw [if_pos x2] at h1
      by_cases y1 : (fla b).length < (fla c).length
      · rw [if_pos (by omega)]
      · rw [if_neg y1] at h2
        by_cases y2 : (fla b).length = (fla c).length
        · rw [if_pos y2] at h2
          rw [if_neg (by omega), if_pos (by omega)]
          simp only [Bool.not_eq_true'] at h1 h2 ⊢
          exact ltU_ntrans _ _ _ h2 h1
        · rw [if_neg y2] at h2; exact absurd h2 (by simp)
    · rw [if_neg x2] at h1; exact absurd h1 (by simp)
theorem ltU_app : ∀ (a b c : List UInt8), a.length = b.length → ltU (a ++ c) (b ++ c) = ltU a b
  | [], [], c, _ => by simp only [List.nil_append]; rw [ltU_irrefl]; rfl
  | [], _ :: _, _, h => by simp at h
  | _ :: _, [], _, h => by simp at h
  | a :: s, b :: t, c, h => by
    simp only [List.cons_append]
    unfold ltU
    rw [ltU_app s t c (by simpa using h)]
theorem slP_snoc {a b : Pg} (k : Fin 6) (h : slP a b = true) : slP (a ++ [k]) (b ++ [k]) = true := by
  unfold slP at h ⊢
  rw [fla_snoc, fla_snoc, List.length_append, List.length_append]
  by_cases x1 : (fla a).length < (fla b).length
  · rw [if_pos (by omega)]
  · rw [if_neg x1] at h
    by_cases x2 : (fla a).length = (fla b).length
    · rw [if_pos x2] at h
      rw [if_neg (by omega), if_pos (by omega)]
      unfold ltP at h ⊢
      rw [fla_snoc, fla_snoc, ltU_app _ _ _ x2.symm]
      exact h
    · rw [if_neg x2] at h; exact absurd h (by simp)
theorem mem_bits : ∀ x : List UInt8, bitL x = true → x ∈ bitsOf x.length
  | [], _ => by simp [bitsOf]
  | c :: t, h => by
    have hc := (mem_bit.1 h) c (by simp)
    have ht := mem_bits t (mem_bit.2 fun d hd => mem_bit.1 h d (by simp [hd]))
    show c :: t ∈ (bitsOf t.length).flatMap _
    refine List.mem_flatMap.2 ⟨t, ht, ?_⟩
    rcases hc with rfl | rfl <;> simp
theorem oksG_ok : ∀ (p : Pg) (q : Pg), oksG p (stp q) = true → oks q → oks (q ++ p)
  | [], q, _, h => by rw [List.append_nil]; exact h
  | k :: p, q, h, ho => by
    unfold oksG at h
    by_cases h1 : (mD k (stp q)).length ≤ 24
    · rw [if_pos h1, ← stp_snoc] at h
      rw [← stp_snoc] at h1
      have := oksG_ok p (q ++ [k]) h (oks_snoc ho h1)
      rwa [List.append_assoc] at this
    · rw [if_neg h1] at h; exact absurd h (by simp)
/-- The least program of a text. -/
def lstM (x : List UInt8) : Pg := ((lvl 17).2.get x).getD []
theorem lst_all {x : List UInt8} (hb : bitL x = true) (hx : x.length ≤ 8) : (lvl 17).2.get x = some (lstM x) ∧ (fla (lstM x)).length ≤ 2 * x.length ∧ oks (lstM x) ∧ stp (lstM x) = x ∧ (x.length ≤ 4 → (fla (lstM (x ++ x))).length ≤ (fla (lstM x)).length + 3) := by
  have h1 := looked5.2.2.2.1
  unfold chkT at h1
  rw [List.all_eq_true] at h1
  have h2 := h1 x.length (List.mem_range.2 (by omega))
  rw [List.all_eq_true] at h2
  have h3 := h2 x (mem_bits x hb)
  unfold lstM
  cases hg : (lvl 17).2.get x with
  | none => rw [hg] at h3; exact absurd h3 (by simp)
  | some p =>
    rw [hg] at h3
    simp only [Bool.and_eq_true, decide_eq_true_eq] at h3
    obtain ⟨⟨⟨h4, h5⟩, h6⟩, h7⟩ := h3
    refine ⟨rfl, h4, ?_, h6, fun h8 => ?_⟩
    · have := oksG_ok p [] h5 oks_nil
      simpa using this
    · rw [if_pos h8] at h7
      cases hg2 : (lvl 17).2.get (x ++ x) with
      | none => rw [hg2] at h7; exact absurd h7 (by simp)
      | some q => rw [hg2] at h7; simpa using h7
theorem lst_find {x : List UInt8} (hb : bitL x = true) (hx : x.length ≤ 8) : (allE 17).find? (fun p => decide (stp p = x)) = some (lstM x) := by rw [← lvl_find 17 x hb]; exact (lst_all hb hx).1
/-- It is ahead of all others that write the same. -/
theorem lst_least : ∀ (q : Pg), oks q → (fla q).length ≤ 16 → ∃ p, (lvl 17).2.get (stp q) = some p ∧ slP p q = true := by
  have h1 := looked5.2.2.1
  unfold chkC at h1
  rw [List.all_eq_true] at h1
  intro q
  induction h : q.length generalizing q with
  | zero =>
    intro _ _
    have hq : q = [] := List.eq_nil_of_length_eq_zero h
    subst hq
    obtain ⟨h2, h3, _⟩ := lst_all (x := []) rfl (by simp)
    refine ⟨lstM [], h2, ?_⟩
    have h4 : fla (lstM []) = [] := List.eq_nil_of_length_eq_zero (by simpa using h3)
    have h5 : lstM [] = [] := fla_inj h4
    rw [h5]
    rfl
  | succ m ih =>
    intro ho hl
    rcases List.eq_nil_or_concat q with rfl | ⟨r, k, rfl⟩
    · simp at h
    · rw [List.concat_eq_append] at *
      have hrl : r.length = m := by simpa using h
      have hor : oks r := fun i hi => by have := ho i (by rw [List.length_append]; omega); rwa [List.take_append_of_le_length hi] at this
      rw [fla_snoc, List.length_append] at hl
      have hkp := mW_pos k
      obtain ⟨p, hp1, hp2⟩ := ih r hrl hor (by omega)
      have hpm : p ∈ allE 17 := by
        rw [lvl_find 17 _ (stp_bit r)] at hp1
        exact List.mem_of_find?_eq_some hp1
      have hps : stp p = stp r := by
        rw [lvl_find 17 _ (stp_bit r)] at hp1
        have := List.find?_some hp1
        simpa using this
      have hpl : (fla p).length ≤ (fla r).length := by
        unfold slP at hp2
        by_cases y : (fla p).length < (fla r).length
        · omega
        · rw [if_neg y] at hp2
          by_cases y2 : (fla p).length = (fla r).length
          · omega
          · rw [if_neg y2] at hp2; exact absurd hp2 (by simp)
      have h2 := h1 p hpm
      rw [List.all_eq_true] at h2
      have hk6 : k ∈ six := all6 (P := fun k => k ∈ six) (by decide) (by decide) (by decide) (by decide) (by decide) (by decide) k
      have h3 := h2 k hk6
      rw [if_pos (by omega)] at h3
      have e : stp (p ++ [k]) = stp (r ++ [k]) := by rw [stp_snoc, stp_snoc, hps]
      have h24 : (stp (r ++ [k])).length ≤ 24 := oks_self ho
      rw [e, if_pos h24] at h3
      cases hg : (lvl 17).2.get (stp (r ++ [k])) with
      | none => rw [hg] at h3; exact absurd h3 (by simp)
      | some p2 =>
        rw [hg] at h3
        exact ⟨p2, rfl, slP_trans h3 (slP_snoc k hp2)⟩
end Go.Proofs.YtdfcipdknfebpaaDoor
