/- Sums of logarithms as sorted lists of primes and coefficients. -/
import Derived.Test.YtklhfagcembigaaGreatDoorTold
namespace Go.Proofs.YtklhfagcembigaaGreatDoor
open Go.RowKit Go.Maps

def mapOf (l : List (Int × Int)) : DataW Unit := .map (l.map fun e => (.int .i64 e.1, .lit (.int .i64 e.2)))
def insL (e : Int × Int) : List (Int × Int) → List (Int × Int)
  | [] => [e]
  | y :: r => if e.1 < y.1 then e :: y :: r else y :: insL e r
def putL (l : List (Int × Int)) (k v : Int) : List (Int × Int) := insL (k, v) (l.filter fun e => !decide (e.1 = k))
def atL : List (Int × Int) → Int → Int
  | [], _ => 0
  | e :: r, x => if e.1 = x then e.2 else atL r x
def Rising (l : List (Int × Int)) : Prop := l.Pairwise fun a b => a.1 < b.1

theorem insert_map (e : Int × Int) : ∀ l : List (Int × Int), DataW.insert (H := Unit) (.int .i64 e.1, .lit (.int .i64 e.2)) (l.map fun e => (.int .i64 e.1, .lit (.int .i64 e.2))) = (insL e l).map fun e => (.int .i64 e.1, .lit (.int .i64 e.2))
  | [] => rfl
  | y :: r => by
    have ih := insert_map e r
    simp only [List.map_cons, DataW.insert, insL, Lit.before]
    by_cases h : e.1 < y.1
    · simp [h]
    · simp only [h, decide_false, Bool.false_eq_true, if_false]
      rw [ih]
      simp
theorem put_map (l : List (Int × Int)) (k v : Int) : (mapOf l).put (.int .i64 k) (.lit (.int .i64 v)) = mapOf (putL l k v) := by
  have h : ((l.map fun e => ((Lit.int .i64 e.1, DataW.lit (.int .i64 e.2)) : Lit × DataW Unit)).filter fun p => !p.1.sameKey (.int .i64 k)) = (l.filter fun e => !decide (e.1 = k)).map fun e => (.int .i64 e.1, .lit (.int .i64 e.2)) := by
    rw [List.filter_map]
    congr 1
    refine List.filter_congr fun e _ => ?_
    simp [Lit.sameKey]
  show DataW.map _ = _
  rw [h, insert_map (k, v)]
  rfl
theorem at_map : ∀ (l : List (Int × Int)) (x : Int), (mapOf l).atKey (.int .i64 x) (.lit (.int .i64 0)) = .lit (.int .i64 (atL l x))
  | [], x => rfl
  | e :: r, x => by
    have ih := at_map r x
    simp only [mapOf, DataW.atKey, List.map_cons, List.find?_cons, atL, Lit.sameKey] at ih ⊢
    by_cases h : e.1 = x
    · simp [h]
    · simp only [h, and_false, decide_false, if_false]
      exact ih
theorem keys_map (l : List (Int × Int)) : intKeys (mapOf l) = l.map Prod.fst := by
  simp only [intKeys, mapOf, List.map_map]
  exact List.map_congr_left fun e _ => rfl
theorem size_map (l : List (Int × Int)) : Maps.size (mapOf l) = l.length := by simp [mapOf, Maps.size]

theorem mem_insL (e f : Int × Int) : ∀ l : List (Int × Int), f ∈ insL e l ↔ f = e ∨ f ∈ l
  | [] => by simp [insL]
  | y :: r => by
    have ih := mem_insL e f r
    by_cases h : e.1 < y.1
    · simp [insL, h]
    · simp only [insL, h, if_false, List.mem_cons, ih]
      constructor
      · rintro (h | h | h)
        · exact Or.inr (Or.inl h)
        · exact Or.inl h
        · exact Or.inr (Or.inr h)
      · rintro (h | h | h)
        · exact Or.inr (Or.inl h)
        · exact Or.inl h
        · exact Or.inr (Or.inr h)
theorem rising_insL (e : Int × Int) : ∀ l : List (Int × Int), Rising l → (∀ f ∈ l, f.1 ≠ e.1) → Rising (insL e l)
  | [], _, _ => by simp [insL, Rising]
  | y :: r, h, hn => by
    have hy := List.pairwise_cons.1 h
    by_cases hlt : e.1 < y.1
    · simp only [insL, hlt, if_true]
      refine List.pairwise_cons.2 ⟨fun f hf => ?_, h⟩
      rcases List.mem_cons.1 hf with rfl | hf
      · exact hlt
      · have := hy.1 f hf; omega
    · simp only [insL, hlt, if_false]
      refine List.pairwise_cons.2 ⟨fun f hf => ?_, rising_insL e r hy.2 (fun f hf => hn f (List.mem_cons_of_mem _ hf))⟩
      rcases (mem_insL e f r).1 hf with rfl | hf
      · have := hn y (List.mem_cons_self ..); omega
      · exact hy.1 f hf
theorem rising_put {l : List (Int × Int)} (h : Rising l) (k v : Int) : Rising (putL l k v) :=
  rising_insL (k, v) _ (h.filter _) (fun f hf => by
    have := (List.mem_filter.1 hf).2
    simpa using this)
theorem mem_put {l : List (Int × Int)} {k v : Int} {f : Int × Int} : f ∈ putL l k v ↔ f = (k, v) ∨ (f ∈ l ∧ f.1 ≠ k) := by
  unfold putL
  rw [mem_insL, List.mem_filter]
  simp
theorem length_insL (e : Int × Int) : ∀ l : List (Int × Int), (insL e l).length = l.length + 1
  | [] => rfl
  | y :: r => by
    have ih := length_insL e r
    by_cases h : e.1 < y.1
    · simp [insL, h]
    · simp [insL, h, ih]
theorem length_put (l : List (Int × Int)) (k v : Int) : (putL l k v).length ≤ l.length + 1 := by
  unfold putL
  rw [length_insL]
  have := List.length_filter_le (fun e : Int × Int => !decide (e.1 = k)) l
  omega
theorem atL_none {l : List (Int × Int)} {x : Int} (h : ∀ e ∈ l, e.1 ≠ x) : atL l x = 0 := by
  induction l with
  | nil => rfl
  | cons e r ih =>
    simp only [atL]
    rw [if_neg (h e (List.mem_cons_self ..)), ih (fun f hf => h f (List.mem_cons_of_mem _ hf))]
theorem atL_mem {l : List (Int × Int)} (h : Rising l) {e : Int × Int} (he : e ∈ l) : atL l e.1 = e.2 := by
  induction l with
  | nil => cases he
  | cons y r ih =>
    have hy := List.pairwise_cons.1 h
    simp only [atL]
    rcases List.mem_cons.1 he with rfl | he
    · rw [if_pos rfl]
    · have := hy.1 e he
      rw [if_neg (by omega), ih hy.2 he]
theorem atL_some {l : List (Int × Int)} {x : Int} (h : atL l x ≠ 0) : (x, atL l x) ∈ l := by
  induction l with
  | nil => exact absurd rfl h
  | cons e r ih =>
    simp only [atL] at h ⊢
    by_cases hx : e.1 = x
    · rw [if_pos hx]
      subst hx
      exact List.mem_cons_self ..
    · rw [if_neg hx] at h ⊢
      exact List.mem_cons_of_mem _ (ih h)
theorem atL_put {l : List (Int × Int)} (h : Rising l) (k v x : Int) : atL (putL l k v) x = if x = k then v else atL l x := by
  by_cases hx : x = k
  · rw [if_pos hx, hx]
    exact atL_mem (rising_put h k v) (e := (k, v)) (mem_put.2 (Or.inl rfl))
  · rw [if_neg hx]
    by_cases h0 : atL l x = 0
    · rw [h0]
      by_cases h1 : atL (putL l k v) x = 0
      · exact h1
      · have hm := atL_some h1
        rcases mem_put.1 hm with he | ⟨he, _⟩
        · exact absurd (Prod.mk.inj he).1 hx
        · have := atL_mem h he
          simp only at this
          omega
    · have hm := atL_some h0
      have := atL_mem (rising_put h k v) (mem_put.2 (Or.inr ⟨hm, hx⟩))
      exact this
/-- Two rising lists without noughts that tell the same are the same. -/
theorem rising_ext : ∀ {l r : List (Int × Int)}, Rising l → Rising r → (∀ e ∈ l, e.2 ≠ 0) → (∀ e ∈ r, e.2 ≠ 0) → (∀ x, atL l x = atL r x) → l = r
  | [], [], _, _, _, _, _ => rfl
  | [], e :: r, _, hr, _, hn, h => by
    have := h e.1
    rw [atL_mem hr (List.mem_cons_self ..)] at this
    exact absurd this.symm (hn e (List.mem_cons_self ..))
  | e :: l, [], hl, _, hn, _, h => by
    have := h e.1
    rw [atL_mem hl (List.mem_cons_self ..)] at this
    exact absurd this (hn e (List.mem_cons_self ..))
  | e :: l, f :: r, hl, hr, hnl, hnr, h => by
    have hl' := List.pairwise_cons.1 hl
    have hr' := List.pairwise_cons.1 hr
    have h1 : f.1 ≤ e.1 := by
      have h2 := h e.1
      rw [atL_mem hl (List.mem_cons_self ..)] at h2
      have h3 := atL_some (l := f :: r) (x := e.1) (by rw [← h2]; exact hnl e (List.mem_cons_self ..))
      rcases List.mem_cons.1 h3 with h4 | h4
      · rw [← h4]; exact Int.le_refl _
      · have := hr'.1 _ h4; simp only at this; omega
    have h1' : e.1 ≤ f.1 := by
      have h2 := h f.1
      rw [atL_mem hr (List.mem_cons_self ..)] at h2
      have h3 := atL_some (l := e :: l) (x := f.1) (by rw [h2]; exact hnr f (List.mem_cons_self ..))
      rcases List.mem_cons.1 h3 with h4 | h4
      · rw [← h4]; exact Int.le_refl _
      · have := hl'.1 _ h4; simp only at this; omega
    have hk : e.1 = f.1 := by omega
    have hv : e.2 = f.2 := by
      have h2 := h e.1
      rw [atL_mem hl (List.mem_cons_self ..), hk, atL_mem hr (List.mem_cons_self ..)] at h2
      exact h2
    have hef : e = f := Prod.ext hk hv
    subst hef
    congr 1
    refine rising_ext hl'.2 hr'.2 (fun g hg => hnl g (List.mem_cons_of_mem _ hg)) (fun g hg => hnr g (List.mem_cons_of_mem _ hg)) (fun x => ?_)
    have h2 := h x
    simp only [atL] at h2
    by_cases hx : e.1 = x
    · subst hx
      rw [atL_none (fun g hg => by have := hl'.1 g hg; omega), atL_none (fun g hg => by have := hr'.1 g hg; omega)]
    · rw [if_neg hx, if_neg hx] at h2
      exact h2
theorem sort_keys {l : List (Int × Int)} (h : Rising l) (ss : List Int) (hp : ss.Perm (intKeys (mapOf l))) : ss.mergeSort (fun x y => decide (x ≤ y)) = l.map Prod.fst := by
  rw [keys_map] at hp
  refine List.Perm.eq_of_pairwise (le := fun a b => a ≤ b) (fun a b _ _ h1 h2 => by omega) ?_ ?_ ((List.mergeSort_perm ..).trans hp)
  · have := List.pairwise_mergeSort (le := fun x y : Int => decide (x ≤ y)) (fun a b c h1 h2 => by simp at *; omega) (fun a b => by simp; omega) ss
    exact this.imp (fun h => by simpa using h)
  · rw [List.pairwise_map]
    exact h.imp (fun h => by omega)

/-- Over the common divisor, without noughts. -/
def overL (G : Nat) (l : List (Int × Int)) : List (Int × Int) := (l.map fun e => (e.1, e.2.tdiv (G : Int))).filter fun e => !decide (e.2 = 0)
theorem rising_over {l : List (Int × Int)} (h : Rising l) (G : Nat) : Rising (overL G l) := by
  refine List.Pairwise.filter _ ?_
  rw [List.pairwise_map]
  exact h
theorem over_nz {l : List (Int × Int)} {G : Nat} {e : Int × Int} (h : e ∈ overL G l) : e.2 ≠ 0 := by
  have := (List.mem_filter.1 h).2
  simpa using this
theorem mem_over {l : List (Int × Int)} {G : Nat} {e : Int × Int} (h : e ∈ overL G l) : ∃ f ∈ l, e = (f.1, f.2.tdiv (G : Int)) := by
  obtain ⟨f, hf, rfl⟩ := List.mem_map.1 (List.mem_filter.1 h).1
  exact ⟨f, hf, rfl⟩
theorem atL_over {l : List (Int × Int)} (h : Rising l) (G : Nat) (x : Int) : atL (overL G l) x = (atL l x).tdiv (G : Int) := by
  by_cases h0 : (atL l x).tdiv (G : Int) = 0
  · rw [h0]
    by_cases h1 : atL (overL G l) x = 0
    · exact h1
    · obtain ⟨f, hf, he⟩ := mem_over (atL_some h1)
      have h2 := Prod.mk.inj he
      have h3 := atL_mem h hf
      rw [← h2.1] at h3
      rw [h2.2, ← h3, h0]
  · have h1 : atL l x ≠ 0 := fun e => h0 (by rw [e]; simp)
    have hm := atL_some h1
    have : (x, (atL l x).tdiv (G : Int)) ∈ overL G l := List.mem_filter.2 ⟨List.mem_map.2 ⟨_, hm, rfl⟩, by simpa using h0⟩
    exact atL_mem (rising_over h G) this
theorem length_over (l : List (Int × Int)) (G : Nat) : (overL G l).length ≤ l.length := by
  have := List.length_filter_le (fun e : Int × Int => !decide (e.2 = 0)) (l.map fun e => (e.1, e.2.tdiv (G : Int)))
  rw [List.length_map] at this
  exact this
/-- told's rows are these. -/
def flat : List (Int × Int) → List Value
  | [] => []
  | e :: r => .int .i64 e.1 :: .int .i64 e.2 :: flat r
theorem terms_flat (cf : Int → Int) (G : Nat) : ∀ l : List (Int × Int), (∀ e ∈ l, cf e.1 = e.2) → termsOf (quo cf G) (l.map Prod.fst) = flat (overL G l) ∧ countOf (quo cf G) (l.map Prod.fst) = (overL G l).length
  | [], _ => ⟨rfl, rfl⟩
  | e :: r, h => by
    have ih := terms_flat cf G r (fun f hf => h f (List.mem_cons_of_mem _ hf))
    have he : quo cf G e.1 = e.2.tdiv (G : Int) := by unfold quo; rw [h e (List.mem_cons_self ..)]
    simp only [List.map_cons, termsOf, countOf, he]
    by_cases h0 : e.2.tdiv (G : Int) = 0
    · rw [if_pos h0, if_pos h0]
      have : overL G (e :: r) = overL G r := by simp [overL, h0]
      rw [this]; exact ih
    · rw [if_neg h0, if_neg h0]
      have : overL G (e :: r) = (e.1, e.2.tdiv (G : Int)) :: overL G r := by simp [overL, h0]
      rw [this]
      exact ⟨by rw [ih.1]; rfl, by rw [ih.2]; rfl⟩
def pOf (l : List (Int × Int)) (i : Nat) : Int := (l.getD i (0, 0)).1
def cOf (l : List (Int × Int)) (i : Nat) : Int := (l.getD i (0, 0)).2
theorem flat_join : ∀ l r : List (Int × Int), flat (l ++ r) = flat l ++ flat r
  | [], _ => rfl
  | e :: l, r => by simp only [List.cons_append, flat, flat_join l r]
theorem flat_cells (l : List (Int × Int)) : flat l = termCells (pOf l) (cOf l) l.length := by
  have aux : ∀ k, k ≤ l.length → flat (l.take k) = termCells (pOf l) (cOf l) k := by
    intro k
    induction k with
    | zero => intro _; rfl
    | succ k ih =>
      intro hk
      have h1 : l.take (k + 1) = l.take k ++ [l.getD k (0, 0)] := by
        rw [List.take_succ_eq_append_getElem (by omega), List.getD_eq_getElem?_getD, List.getElem?_eq_getElem (by omega)]
        rfl
      rw [h1, flat_join, ih (by omega)]
      rfl
  have := aux l.length (Nat.le_refl _)
  rwa [List.take_length] at this
theorem getD_mem {l : List (Int × Int)} {i : Nat} (h : i < l.length) : l.getD i (0, 0) ∈ l := by
  rw [List.getD_eq_getElem?_getD, List.getElem?_eq_getElem h]; exact List.getElem_mem h
end Go.Proofs.YtklhfagcembigaaGreatDoor
