/- The document's LeastOf: which program it finds. -/
import Derived.Test.YtdfcipdknfebpaaDoorMacX
namespace Go.Proofs.YtdfcipdknfebpaaDoor

def runF (s : List UInt8) (q : Pg) : List UInt8 := q.foldl (fun s k => mD k s) s
theorem runF_stp (q0 q : Pg) : runF (stp q0) q = stp (q0 ++ q) := by unfold runF stp; rw [List.foldl_append]
theorem wrt_iff : ∀ (f : Nat) (s x : List UInt8) (left : Nat), left ≤ f → (wrt f s x left = true ↔ ∃ q : Pg, (fla q).length = left ∧ runF s q = x) := by
  intro f
  induction f with
  | zero =>
    intro s x left h
    obtain rfl : left = 0 := by omega
    rw [wrt_zero, decide_eq_true_eq]
    constructor
    · intro e; exact ⟨[], rfl, e⟩
    · rintro ⟨q, h1, h2⟩
      have : q = [] := List.eq_nil_of_length_eq_zero (by have := fla_len q; omega)
      subst this; exact h2
  | succ f ih =>
    intro s x left h
    rcases Nat.lt_or_ge left 2 with h2 | h2
    · rcases (show left = 0 ∨ left = 1 by omega) with rfl | rfl
      · rw [wrt_zero, decide_eq_true_eq]
        constructor
        · intro e; exact ⟨[], rfl, e⟩
        · rintro ⟨q, h1, h3⟩
          have : q = [] := List.eq_nil_of_length_eq_zero (by have := fla_len q; omega)
          subst this; exact h3
      · rw [wrt_one]
        constructor
        · intro e; exact absurd e (by simp)
        · rintro ⟨q, h1, _⟩
          have h3 := fla_len q
          have : q = [] := List.eq_nil_of_length_eq_zero (by omega)
          subst this
          simp [fla] at h1
    · rw [wrt_more s x h2, List.any_eq_true]
      constructor
      · rintro ⟨k, _, hk⟩
        have hkp := mW_pos k
        by_cases hl : (mW k).length ≤ left
        · rw [if_pos hl] at hk
          obtain ⟨q, h3, h4⟩ := (ih _ x _ (by omega)).1 hk
          exact ⟨k :: q, by rw [fla_cons, List.length_append]; omega, h4⟩
        · rw [if_neg hl] at hk; exact absurd hk (by simp)
      · rintro ⟨q, h3, h4⟩
        cases q with
        | nil => simp [fla] at h3; omega
        | cons k q =>
          have hkp := mW_pos k
          rw [fla_cons, List.length_append] at h3
          refine ⟨k, all6 (P := fun k => k ∈ six) (by decide) (by decide) (by decide) (by decide) (by decide) (by decide) k, ?_⟩
          rw [if_pos (by omega)]
          exact (ih _ x _ (by omega)).2 ⟨q, by omega, h4⟩
/-- How much can be written with so many bits. -/
def bT (m : Nat) : Nat := [0, 0, 1, 1, 2, 2, 3, 4, 4, 6, 8].getD m 0
theorem bT_two : ∀ m, m < 9 → bT m + 1 ≤ bT (m + 2) := by decide
theorem bT_three : ∀ m, m < 8 → 2 * bT m ≤ bT (m + 3) := by decide
theorem bT_8 : ∀ m, m < 11 → bT m ≤ 8 := by decide
theorem stp_small : ∀ (n : Nat) (q : Pg), q.length = n → (fla q).length ≤ 10 → (stp q).length ≤ bT (fla q).length := by
  intro n
  induction n with
  | zero =>
    intro q h _
    rw [List.eq_nil_of_length_eq_zero h]; simp [stp]
  | succ n ih =>
    intro q h hl
    rcases List.eq_nil_or_concat q with rfl | ⟨r, k, rfl⟩
    · simp at h
    · rw [List.concat_eq_append] at *
      have hr : r.length = n := by simpa using h
      rw [fla_snoc, List.length_append] at hl ⊢
      rw [stp_snoc]
      have h1 := ih r hr (by omega)
      have hw := mW_len k
      refine all6 (P := fun k => (mW k).length = (if k.val < 2 then 2 else 3) → (fla r).length + (mW k).length ≤ 10 → (mD k (stp r)).length ≤ bT ((fla r).length + (mW k).length)) ?_ ?_ ?_ ?_ ?_ ?_ k hw hl
      all_goals intro h2 h3
      all_goals (first | (have h2' : (mW 0).length = 2 := h2) | skip)
      · have e : (mW 0).length = 2 := rfl
        rw [e] at h3 ⊢
        have := bT_two (fla r).length (by omega)
        rw [mD0, List.length_append]; simp; omega
      · have e : (mW 1).length = 2 := rfl
        rw [e] at h3 ⊢
        have := bT_two (fla r).length (by omega)
        rw [mD1, List.length_append]; simp; omega
      · have e : (mW 2).length = 3 := rfl
        rw [e] at h3 ⊢
        have := bT_three (fla r).length (by omega)
        rw [mD2, List.length_append]; omega
      · have e : (mW 3).length = 3 := rfl
        rw [e] at h3 ⊢
        have := bT_three (fla r).length (by omega)
        rw [mD3, List.length_reverse]; omega
      · have e : (mW 4).length = 3 := rfl
        rw [e] at h3 ⊢
        have := bT_three (fla r).length (by omega)
        rw [mD4, List.length_map]; omega
      · have e : (mW 5).length = 3 := rfl
        rw [e] at h3 ⊢
        have := bT_three (fla r).length (by omega)
        rw [mD5, List.length_dropLast]; omega
theorem fla_take (q : Pg) (i : Nat) : (fla (q.take i)).length ≤ (fla q).length := by
  have : fla q = fla (q.take i) ++ fla (q.drop i) := by rw [← fla_app, List.take_append_drop]
  rw [this, List.length_append]; omega
theorem oks10 {q : Pg} (h : (fla q).length ≤ 10) : oks q := fun i _ => by
  have h1 := fla_take q i
  have h2 := stp_small _ (q.take i) rfl (by omega)
  have h3 := bT_8 (fla (q.take i)).length (by omega)
  omega
theorem ltU_pre : ∀ (c a b : List UInt8), ltU (c ++ a) (c ++ b) = ltU a b
  | [], _, _ => rfl
  | x :: c, a, b => by
    simp only [List.cons_append]
    show (if x < x then true else if x < x then false else ltU (c ++ a) (c ++ b)) = _
    simp only [UInt8.lt_irrefl, if_false]
    exact ltU_pre c a b
theorem ltW (k k' : Fin 6) (h : k.val < k'.val) (a b : List UInt8) : ltU (mW k ++ a) (mW k' ++ b) = true := by
  revert h
  refine all6 (P := fun k => k.val < k'.val → ltU (mW k ++ a) (mW k' ++ b) = true) ?_ ?_ ?_ ?_ ?_ ?_ k
  all_goals (refine all6 (P := fun k' => _ < k'.val → ltU (mW _ ++ a) (mW k' ++ b) = true) ?_ ?_ ?_ ?_ ?_ ?_ k')
  all_goals (intro h; first | (exact absurd h (by decide)) | rfl | simp [mW, ltU])
/-- What the document's search meets. -/
structure DocL (x : List UInt8) (p : Pg) : Prop where
  len : (fla p).length ≤ 10
  fail : ∀ n, n < (fla p).length → wrt 20 [] x n = false
  hit : wrt 20 [] x (fla p).length = true
  skip : ∀ j k k', p[j]? = some k' → k.val < k'.val → (mW k).length ≤ (fla p).length - (fla (p.take j)).length → wrt 20 (mD k (stp (p.take j))) x ((fla p).length - (fla (p.take j)).length - (mW k).length) = false
  take : ∀ j k', p[j]? = some k' → (mW k').length ≤ (fla p).length - (fla (p.take j)).length ∧ wrt 20 (mD k' (stp (p.take j))) x ((fla p).length - (fla (p.take j)).length - (mW k').length) = true
theorem doc_least {x : List UInt8} (hb : bitL x = true) (hx : x.length ≤ 5) : DocL x (lstM x) := by
  obtain ⟨h1, h2, h3, h4, _⟩ := lst_all hb (by omega)
  have hlen : (fla (lstM x)).length ≤ 10 := by omega
  have hmin : ∀ q : Pg, (fla q).length ≤ 10 → stp q = x → slP (lstM x) q = true := fun q hq hs => by
    obtain ⟨p, hp1, hp2⟩ := lst_least q (oks10 hq) (by omega)
    rw [hs, h1] at hp1
    obtain rfl := Option.some.inj hp1
    exact hp2
  have hsp : ∀ (j : Nat) (k' : Fin 6), (lstM x)[j]? = some k' → ∃ r, lstM x = (lstM x).take j ++ [k'] ++ r := fun j k' hj => by
    refine ⟨(lstM x).drop (j + 1), ?_⟩
    have : (lstM x).take (j + 1) = (lstM x).take j ++ [k'] := by rw [List.take_add_one, hj]; rfl
    rw [← this, List.take_append_drop]
  generalize lstM x = p at *
  refine ⟨hlen, fun n hn => ?_, ?_, fun j k k' hj hk hl => ?_, fun j k' hj => ?_⟩
  · cases hw : wrt 20 [] x n with
    | false => rfl
    | true =>
      obtain ⟨q, hq1, hq2⟩ := (wrt_iff 20 [] x n (by omega)).1 hw
      have := hmin q (by omega) hq2
      unfold slP at this
      rw [if_neg (by omega), if_neg (by omega)] at this
      exact absurd this (by simp)
  · exact (wrt_iff 20 [] x _ (by omega)).2 ⟨p, rfl, h4⟩
  · cases hw : wrt 20 (mD k (stp (p.take j))) x ((fla p).length - (fla (p.take j)).length - (mW k).length) with
    | false => rfl
    | true =>
      obtain ⟨q, hq1, hq2⟩ := (wrt_iff 20 _ x _ (by omega)).1 hw
      rw [← stp_snoc, runF_stp] at hq2
      obtain ⟨r, hr⟩ := hsp j k' hj
      have hft := fla_take p j
      have hrl : (fla (p.take j ++ [k] ++ q)).length = (fla p).length := by
        rw [fla_app, fla_snoc, List.length_append, List.length_append]; omega
      have hm := hmin _ (by omega) hq2
      unfold slP at hm
      rw [if_neg (by omega), if_pos (by omega)] at hm
      have hlt : ltP (p.take j ++ [k] ++ q) p = true := by
        unfold ltP
        have e : fla p = fla (p.take j) ++ (mW k' ++ fla r) := by
          conv => lhs; rw [hr]
          rw [fla_app, fla_snoc, List.append_assoc]
        rw [e, fla_app, fla_snoc, List.append_assoc, ltU_pre]
        exact ltW k k' hk _ _
      rw [hlt] at hm
      exact absurd hm (by simp)
  · obtain ⟨r, hr⟩ := hsp j k' hj
    have e : (fla p).length = (fla (p.take j)).length + (mW k').length + (fla r).length := by
      conv => lhs; rw [hr]
      rw [fla_app, fla_snoc, List.length_append, List.length_append]
    refine ⟨by omega, (wrt_iff 20 _ x _ (by omega)).2 ⟨r, by omega, ?_⟩⟩
    rw [← stp_snoc, runF_stp, ← hr]
    exact h4
end Go.Proofs.YtdfcipdknfebpaaDoor
