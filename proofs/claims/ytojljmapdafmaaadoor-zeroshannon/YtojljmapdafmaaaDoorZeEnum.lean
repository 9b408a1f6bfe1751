/- Sets of which each two fit, in order; the first of the greatest. Plain functions. -/
import Derived.Test.YtojljmapdafmaaaDoorZeBits
namespace Go.Proofs.YtojljmapdafmaaaDoor

theorem asc_length {n : Nat} {l : List Nat} (h : Asc n l) : l.length ≤ n := by
  rw [← asc_filter h]
  exact Nat.le_trans (List.length_filter_le _ _) (by simp)

/-- All rising lists (not empty) of which each two fit, out of a list, in order. -/
def enumC (ok : Nat → Nat → Bool) : Nat → List Nat → List (List Nat)
  | 0, _ => []
  | _ + 1, [] => []
  | f + 1, v :: r => [v] :: ((enumC ok f (r.filter (ok v))).map (v :: ·) ++ enumC ok f r)
/-- As the program's grow goes, with a function that is told each set. -/
def loopG {σ : Type} (tell : σ → List Nat → List Nat → σ × Bool) (ok : Nat → Nat → Bool) : Nat → σ → List Nat → List Nat → σ
  | 0, s, _, _ => s
  | _ + 1, s, _, [] => s
  | f + 1, s, g, v :: r => loopG tell ok f (if (tell s (g ++ [v]) (r.filter (ok v))).2 then loopG tell ok f (tell s (g ++ [v]) (r.filter (ok v))).1 (g ++ [v]) (r.filter (ok v)) else (tell s (g ++ [v]) (r.filter (ok v))).1) g r
def fromG {σ : Type} (tell : σ → List Nat → List Nat → σ × Bool) (ok : Nat → Nat → Bool) (f : Nat) (s : σ) (g l : List Nat) : σ :=
  if (tell s g l).2 then loopG tell ok f (tell s g l).1 g l else (tell s g l).1
theorem loopG_cons {σ : Type} (tell : σ → List Nat → List Nat → σ × Bool) (ok : Nat → Nat → Bool) (f : Nat) (s : σ) (g : List Nat) (v : Nat) (r : List Nat) : loopG tell ok (f + 1) s g (v :: r) = loopG tell ok f (fromG tell ok f s (g ++ [v]) (r.filter (ok v))) g r := rfl
theorem loopG_nil {σ : Type} (tell : σ → List Nat → List Nat → σ × Bool) (ok : Nat → Nat → Bool) (f : Nat) (s : σ) (g : List Nat) : loopG tell ok f s g [] = s := by cases f <;> rfl

def pick (s t : List Nat) : List Nat := if s.length < t.length then t else s
def tellA (s g l : List Nat) : List Nat × Bool := (pick s g, decide ((pick s g).length < g.length + l.length))
theorem enumC_length (ok : Nat → Nat → Bool) : ∀ (f : Nat) (l t : List Nat), t ∈ enumC ok f l → 0 < t.length ∧ t.length ≤ l.length
  | 0, _, t, h => by simp [enumC] at h
  | _ + 1, [], t, h => by simp [enumC] at h
  | f + 1, v :: r, t, h => by
    simp only [enumC, List.mem_cons, List.mem_append, List.mem_map] at h
    rcases h with rfl | ⟨u, hu, rfl⟩ | h
    · simp
    · have := enumC_length ok f _ u hu
      have h2 := List.length_filter_le (ok v) r
      simp only [List.length_cons]; omega
    · have := enumC_length ok f r t h
      simp only [List.length_cons]; omega
theorem fold_keep : ∀ (E : List (List Nat)) (s : List Nat), (∀ t ∈ E, t.length ≤ s.length) → E.foldl pick s = s
  | [], _, _ => rfl
  | t :: E, s, h => by
    have e : pick s t = s := if_neg (by have := h t List.mem_cons_self; omega)
    rw [List.foldl_cons, e]
    exact fold_keep E s fun u hu => h u (List.mem_cons_of_mem _ hu)
theorem loopA_fold (ok : Nat → Nat → Bool) : ∀ (f : Nat) (s g l : List Nat), l.length ≤ f → loopG tellA ok f s g l = ((enumC ok f l).map (g ++ ·)).foldl pick s
  | 0, s, g, l, _ => rfl
  | f + 1, s, g, [], _ => rfl
  | f + 1, s, g, v :: r, h => by
    simp only [List.length_cons] at h
    have hf := List.length_filter_le (ok v) r
    have e : fromG tellA ok f s (g ++ [v]) (r.filter (ok v)) = ((enumC ok f (r.filter (ok v))).map ((g ++ [v]) ++ ·)).foldl pick (pick s (g ++ [v])) := by
      unfold fromG tellA
      by_cases hc : (pick s (g ++ [v])).length < (g ++ [v]).length + (r.filter (ok v)).length
      · simp only [hc, decide_true, if_true]
        exact loopA_fold ok f _ _ _ (by omega)
      · simp only [hc, decide_false, Bool.false_eq_true, if_false]
        refine (fold_keep _ _ fun t ht => ?_).symm
        obtain ⟨u, hu, rfl⟩ := List.mem_map.1 ht
        have := enumC_length ok f _ u hu
        rw [List.length_append]; omega
    rw [loopG_cons, loopA_fold ok f _ g r (by omega), e]
    simp only [enumC, List.map_cons, List.map_append, List.map_map, List.foldl_cons, List.foldl_append]
    have e2 : (fun x => g ++ x) ∘ (fun x => v :: x) = fun x => (g ++ [v]) ++ x := funext fun x => by simp
    rw [e2]

/-- Which list comes first: numbers are compared from the first on; what ends comes ahead. -/
def lexB : List Nat → List Nat → Bool
  | _, [] => false
  | [], _ :: _ => true
  | a :: x, b :: y => if a = b then lexB x y else decide (a < b)
/-- As the document's Ahead. -/
def aheadB : List Nat → List Nat → Bool
  | [], _ => false
  | _ :: _, [] => false
  | a :: x, b :: y => if a = b then aheadB x y else decide (a < b)
theorem lex_ahead : ∀ {a b : List Nat}, a.length = b.length → lexB a b = aheadB a b
  | [], [], _ => rfl
  | [], _ :: _, h => by simp at h
  | _ :: _, [], h => by simp at h
  | a :: x, b :: y, h => by simp only [lexB, aheadB]; rw [lex_ahead (by simpa using h)]
theorem ahead_irr : ∀ (a : List Nat), aheadB a a = false
  | [] => rfl
  | a :: x => by simp [aheadB, ahead_irr x]
theorem ahead_trans : ∀ {a b c : List Nat}, aheadB a b = true → aheadB b c = true → aheadB a c = true
  | [], _, _, h, _ => by simp [aheadB] at h
  | _ :: _, [], _, h, _ => by simp [aheadB] at h
  | _ :: _, _ :: _, [], _, h => by simp [aheadB] at h
  | a :: x, b :: y, c :: z, h1, h2 => by
    simp only [aheadB] at h1 h2 ⊢
    split at h1
    · rename_i e; subst e
      split at h2
      · rename_i e2; rw [if_pos e2]; exact ahead_trans h1 h2
      · rename_i e2; rw [if_neg e2]; exact h2
    · rename_i e
      split at h2
      · rename_i e2; subst e2; rw [if_neg e]; exact h1
      · simp at h1 h2
        rw [if_neg (by omega)]
        simp; omega
theorem ahead_total : ∀ {a b : List Nat}, a.length = b.length → aheadB a b = false → aheadB b a = false → a = b
  | [], [], _, _, _ => rfl
  | [], _ :: _, h, _, _ => by simp at h
  | _ :: _, [], h, _, _ => by simp at h
  | a :: x, b :: y, h, h1, h2 => by
    simp only [aheadB] at h1 h2
    by_cases e : a = b
    · subst e
      rw [if_pos rfl] at h1 h2
      rw [ahead_total (by simpa using h) h1 h2]
    · rw [if_neg e] at h1
      rw [if_neg (fun x => e x.symm)] at h2
      simp at h1 h2
      omega
theorem enumC_in (ok : Nat → Nat → Bool) : ∀ (f : Nat) (l t : List Nat), t ∈ enumC ok f l → t.Sublist l ∧ t.Pairwise (fun a b => ok a b = true)
  | 0, _, t, h => by simp [enumC] at h
  | _ + 1, [], t, h => by simp [enumC] at h
  | f + 1, v :: r, t, h => by
    simp only [enumC, List.mem_cons, List.mem_append, List.mem_map] at h
    rcases h with rfl | ⟨u, hu, rfl⟩ | h
    · exact ⟨by simp, List.pairwise_singleton _ _⟩
    · obtain ⟨h1, h2⟩ := enumC_in ok f _ u hu
      refine ⟨(h1.trans List.filter_sublist).cons_cons v, List.pairwise_cons.2 ⟨fun x hx => (List.mem_filter.1 (h1.subset hx)).2, h2⟩⟩
    · obtain ⟨h1, h2⟩ := enumC_in ok f r t h
      exact ⟨h1.cons v, h2⟩
theorem enumC_has (ok : Nat → Nat → Bool) : ∀ (f : Nat) (l t : List Nat), l.length ≤ f → t ≠ [] → t.Sublist l → t.Pairwise (fun a b => ok a b = true) → t ∈ enumC ok f l
  | 0, l, t, hf, h0, h1, _ => by
    have : l = [] := List.length_eq_zero_iff.1 (by omega)
    subst this
    exact absurd (List.sublist_nil.1 h1) h0
  | _ + 1, [], t, _, h0, h1, _ => absurd (List.sublist_nil.1 h1) h0
  | f + 1, v :: r, t, hf, h0, h1, h2 => by
    simp only [List.length_cons] at hf
    simp only [enumC, List.mem_cons, List.mem_append, List.mem_map]
    rcases List.sublist_cons_iff.1 h1 with h3 | ⟨u, rfl, h3⟩
    · exact Or.inr (Or.inr (enumC_has ok f r t (by omega) h0 h3 h2))
    · obtain ⟨g1, g2⟩ := List.pairwise_cons.1 h2
      rcases u with _ | ⟨x, u⟩
      · exact Or.inl rfl
      · refine Or.inr (Or.inl ⟨x :: u, enumC_has ok f _ _ (Nat.le_trans (List.length_filter_le _ _) (by omega)) (by simp) ?_ g2, rfl⟩)
        have e : (x :: u).filter (ok v) = x :: u := List.filter_eq_self.2 g1
        rw [← e]
        exact h3.filter _
theorem enumC_lex (ok : Nat → Nat → Bool) : ∀ (f : Nat) (l : List Nat), l.Pairwise (· < ·) → (enumC ok f l).Pairwise (fun a b => lexB a b = true)
  | 0, _, _ => List.Pairwise.nil
  | _ + 1, [], _ => List.Pairwise.nil
  | f + 1, v :: r, h => by
    obtain ⟨hv, hr⟩ := List.pairwise_cons.1 h
    have far : ∀ (t : List Nat), t ∈ enumC ok f r → ∃ b y, t = b :: y ∧ v < b := fun t ht => by
      have h1 := enumC_in ok f r t ht
      have h2 := enumC_length ok f r t ht
      rcases t with _ | ⟨b, y⟩
      · simp at h2
      · exact ⟨b, y, rfl, hv b (h1.1.subset List.mem_cons_self)⟩
    simp only [enumC]
    refine List.pairwise_cons.2 ⟨fun t ht => ?_, List.pairwise_append.2 ⟨List.pairwise_map.2 ((enumC_lex ok f _ (hr.filter _)).imp fun h => by simpa [lexB] using h), enumC_lex ok f r hr, fun a ha b hb => ?_⟩⟩
    · rcases List.mem_append.1 ht with h1 | h1
      · obtain ⟨u, hu, rfl⟩ := List.mem_map.1 h1
        have := enumC_length ok f _ u hu
        rcases u with _ | ⟨x, u⟩
        · simp at this
        · simp [lexB]
      · obtain ⟨b, y, rfl, hb⟩ := far t h1
        simp only [lexB]
        rw [if_neg (by omega)]
        simpa using hb
    · obtain ⟨u, hu, rfl⟩ := List.mem_map.1 ha
      obtain ⟨c, y, rfl, hc⟩ := far b hb
      simp only [lexB]
      rw [if_neg (by omega)]
      simpa using hc
theorem fold_best : ∀ (E : List (List Nat)) (s : List Nat), E.Pairwise (fun a b => lexB a b = true) → (∀ t ∈ E, lexB s t = true) →
    (E.foldl pick s = s ∨ E.foldl pick s ∈ E) ∧ s.length ≤ (E.foldl pick s).length ∧ (∀ t ∈ E, t.length < (E.foldl pick s).length ∨ (t.length = (E.foldl pick s).length ∧ (t = E.foldl pick s ∨ lexB (E.foldl pick s) t = true)))
  | [], s, _, _ => ⟨Or.inl rfl, Nat.le_refl _, fun _ h => by cases h⟩
  | t :: E, s, hE, hs => by
    obtain ⟨ht, hE'⟩ := List.pairwise_cons.1 hE
    rw [List.foldl_cons]
    by_cases hc : s.length < t.length
    · rw [show pick s t = t from if_pos hc]
      obtain ⟨h1, h2, h3⟩ := fold_best E t hE' ht
      refine ⟨Or.inr ?_, by omega, fun u hu => ?_⟩
      · rcases h1 with h1 | h1
        · rw [h1]; exact List.mem_cons_self
        · exact List.mem_cons_of_mem _ h1
      · rcases List.mem_cons.1 hu with rfl | hu
        · rcases Nat.lt_or_eq_of_le h2 with h4 | h4
          · exact Or.inl h4
          · refine Or.inr ⟨h4, ?_⟩
            rcases h1 with h1 | h1
            · exact Or.inl h1.symm
            · have hx : E.foldl pick u = u := by
                have h5 := fold_keep E u (fun x hx => by
                  rcases h3 x hx with h6 | h6
                  · omega
                  · omega)
                exact h5
              exact Or.inl hx.symm
        · exact h3 u hu
    · rw [show pick s t = s from if_neg hc]
      obtain ⟨h1, h2, h3⟩ := fold_best E s hE' fun u hu => hs u (List.mem_cons_of_mem _ hu)
      refine ⟨h1.imp id (List.mem_cons_of_mem _), h2, fun u hu => ?_⟩
      rcases List.mem_cons.1 hu with rfl | hu
      · rcases Nat.lt_or_eq_of_le (Nat.le_trans (Nat.le_of_not_lt hc) h2) with h4 | h4
        · exact Or.inl h4
        · refine Or.inr ⟨h4, Or.inr ?_⟩
          have hx : E.foldl pick s = s := fold_keep E s (fun x hx => by
            rcases h3 x hx with h6 | h6 <;> omega)
          rw [hx]
          exact hs u List.mem_cons_self
      · exact h3 u hu

/-- The first of the greatest sets of which each two fit. -/
def aloneL (ok : Nat → Nat → Bool) (n : Nat) : List Nat := (enumC ok n (List.range n)).foldl pick []
theorem fromA_alone (ok : Nat → Nat → Bool) (n : Nat) : fromG tellA ok n [] [] (List.range n) = aloneL ok n := by
  rcases n with _ | n
  · rfl
  · have e : tellA [] [] (List.range (n + 1)) = ([], true) := by simp [tellA, pick]
    unfold fromG aloneL
    rw [e]
    simp only [if_true]
    rw [loopA_fold ok (n + 1) _ _ _ (by simp)]
    simp
/-- A set of vertices below n of which each two fit. -/
def FitsZ (ok : Nat → Nat → Bool) (n : Nat) (t : List Nat) : Prop := Asc n t ∧ t.Pairwise (fun a b => ok a b = true)
theorem asc_sub {n : Nat} {t : List Nat} (h : Asc n t) : t.Sublist (List.range n) := by
  rw [← asc_filter h]
  exact List.filter_sublist
theorem sub_asc {n : Nat} {t : List Nat} (h : t.Sublist (List.range n)) : Asc n t := ⟨List.pairwise_lt_range.sublist h, fun _ hv => List.mem_range.1 (h.subset hv)⟩
theorem alone_best (ok : Nat → Nat → Bool) (n : Nat) : FitsZ ok n (aloneL ok n) ∧ ∀ t, FitsZ ok n t → t.length < (aloneL ok n).length ∨ (t.length = (aloneL ok n).length ∧ (t = aloneL ok n ∨ aheadB (aloneL ok n) t = true)) := by
  obtain ⟨h1, h2, h3⟩ := fold_best (enumC ok n (List.range n)) [] (enumC_lex ok n _ List.pairwise_lt_range) (fun t ht => by
    have := enumC_length ok n _ t ht
    rcases t with _ | ⟨x, t⟩
    · simp at this
    · rfl)
  refine ⟨?_, fun t ht => ?_⟩
  · rcases h1 with h1 | h1
    · unfold aloneL; rw [h1]; exact ⟨⟨List.Pairwise.nil, fun _ h => by cases h⟩, List.Pairwise.nil⟩
    · obtain ⟨g1, g2⟩ := enumC_in ok n _ _ h1
      exact ⟨sub_asc g1, g2⟩
  · by_cases h0 : t = []
    · subst h0
      rcases Nat.eq_zero_or_pos (aloneL ok n).length with h4 | h4
      · exact Or.inr ⟨h4.symm, Or.inl (List.length_eq_zero_iff.1 h4).symm⟩
      · exact Or.inl h4
    · rcases h3 t (enumC_has ok n _ t (by simp) h0 (asc_sub ht.1) ht.2) with h4 | ⟨h4, h5⟩
      · exact Or.inl h4
      · refine Or.inr ⟨h4, h5.imp id fun h => ?_⟩
        exact (lex_ahead h4.symm).symm.trans h
/-- Whoever is not behind any is that one. -/
theorem alone_only {ok : Nat → Nat → Bool} {n : Nat} {b : List Nat} (hb : FitsZ ok n b) (h : ∀ t, FitsZ ok n t → t.length < b.length ∨ (t.length = b.length ∧ aheadB t b = false)) : b = aloneL ok n := by
  obtain ⟨h1, h2⟩ := alone_best ok n
  rcases h2 b hb with h3 | ⟨h3, h4 | h4⟩
  · rcases h _ h1 with h5 | h5 <;> omega
  · exact h4
  · rcases h _ h1 with h5 | ⟨_, h5⟩
    · omega
    · rw [h4] at h5; cases h5
end Go.Proofs.YtojljmapdafmaaaDoor
