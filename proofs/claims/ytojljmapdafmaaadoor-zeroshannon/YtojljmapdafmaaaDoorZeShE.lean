/- The edges of two at once: they rise, and are those of the function. -/
import Derived.Test.YtojljmapdafmaaaDoorZeSh
import Derived.Test.YtojljmapdafmaaaDoorZeSt
namespace Go.Proofs.YtojljmapdafmaaaDoor

def PairLt (a b : Nat × Nat) : Prop := a.1 < b.1 ∨ (a.1 = b.1 ∧ a.2 < b.2)
theorem mem_edRow {J : Nat → Nat → Bool} {i v w : Nat} : ∀ {k : Nat}, (v, w) ∈ edRow J i k ↔ v = i ∧ i < w ∧ w < k ∧ J i w = true
  | 0 => by simp [edRow]
  | k + 1 => by
    rw [edRow]
    split
    · rename_i h
      rw [List.mem_append, mem_edRow (k := k), List.mem_singleton, Prod.mk.injEq]
      constructor
      · rintro (⟨h1, h2, h3, h4⟩ | ⟨h1, h2⟩)
        · exact ⟨h1, h2, by omega, h4⟩
        · subst h1 h2; exact ⟨rfl, h.1, by omega, h.2⟩
      · rintro ⟨h1, h2, h3, h4⟩
        rcases Nat.lt_or_ge w k with h5 | h5
        · exact Or.inl ⟨h1, h2, h5, h4⟩
        · exact Or.inr ⟨h1, by omega⟩
    · rename_i h
      rw [mem_edRow (k := k)]
      constructor
      · rintro ⟨h1, h2, h3, h4⟩; exact ⟨h1, h2, by omega, h4⟩
      · rintro ⟨h1, h2, h3, h4⟩
        refine ⟨h1, h2, ?_, h4⟩
        rcases Nat.lt_or_ge w k with h5 | h5
        · exact h5
        · obtain rfl : w = k := by omega
          exact absurd ⟨h2, h4⟩ h
theorem mem_edTo {J : Nat → Nat → Bool} {n v w : Nat} : ∀ {i : Nat}, (v, w) ∈ edTo J n i ↔ v < i ∧ v < w ∧ w < n ∧ J v w = true
  | 0 => by simp [edTo]
  | i + 1 => by
    rw [edTo, List.mem_append, mem_edTo (i := i), mem_edRow]
    constructor
    · rintro (⟨h1, h2⟩ | ⟨rfl, h2, h3, h4⟩)
      · exact ⟨by omega, h2⟩
      · exact ⟨by omega, h2, h3, h4⟩
    · rintro ⟨h1, h2⟩
      rcases Nat.lt_or_ge v i with h3 | h3
      · exact Or.inl ⟨h3, h2⟩
      · obtain rfl : v = i := by omega
        exact Or.inr ⟨rfl, h2⟩
theorem edRow_rise (J : Nat → Nat → Bool) (i : Nat) : ∀ k, (edRow J i k).Pairwise PairLt
  | 0 => List.Pairwise.nil
  | k + 1 => by
    rw [edRow]
    split
    · refine List.pairwise_append.2 ⟨edRow_rise J i k, List.pairwise_singleton _ _, fun a ha b hb => ?_⟩
      obtain ⟨v, w⟩ := a
      obtain ⟨h1, _, h3, _⟩ := mem_edRow.1 ha
      rw [List.mem_singleton.1 hb]
      exact Or.inr ⟨h1, h3⟩
    · exact edRow_rise J i k
theorem edTo_rise (J : Nat → Nat → Bool) (n : Nat) : ∀ i, (edTo J n i).Pairwise PairLt
  | 0 => List.Pairwise.nil
  | i + 1 => by
    rw [edTo]
    refine List.pairwise_append.2 ⟨edTo_rise J n i, edRow_rise J i n, fun a ha b hb => ?_⟩
    obtain ⟨v, w⟩ := a
    obtain ⟨x, y⟩ := b
    have h1 := (mem_edTo.1 ha).1
    have h2 := (mem_edRow.1 hb).1
    exact Or.inl (by show v < x; omega)
theorem getD_el {E : List (Nat × Nat)} {i : Nat} (hi : i < E.length) : E.getD i (0, 0) = E[i] := by simp [List.getD, hi]
theorem getD_mem {E : List (Nat × Nat)} {i : Nat} (hi : i < E.length) : E.getD i (0, 0) ∈ E := by
  rw [getD_el hi]; exact List.getElem_mem hi
def pE (E : List (Nat × Nat)) (i : Nat) : Int := (((E.getD i (0, 0)).1 : Nat) : Int)
def qE (E : List (Nat × Nat)) (i : Nat) : Int := (((E.getD i (0, 0)).2 : Nat) : Int)
theorem edsB_all {N : Int} {p q : Nat → Int} : ∀ {m : Nat}, (∀ i, i < m → edB N p q i = true) → edsB N p q m = true
  | 0, _ => rfl
  | m + 1, h => by rw [edsB, edsB_all fun i hi => h i (by omega), h m (by omega)]; rfl
/-- What joinedBy makes is a right graph. -/
theorem grE_edTo (J : Nat → Nat → Bool) (n : Nat) (hn : n ≤ 16) : grE n (edTo J n n).length (pE (edTo J n n)) (qE (edTo J n n)) = 0 := by
  have hr := edTo_rise J n n
  have hm : ∀ i, i < (edTo J n n).length → (edTo J n n).getD i (0, 0) ∈ edTo J n n := fun i hi => getD_mem hi
  have hm2 : ∀ i, i < (edTo J n n).length → ((edTo J n n).getD i (0, 0)).1 < ((edTo J n n).getD i (0, 0)).2 ∧ ((edTo J n n).getD i (0, 0)).2 < n := fun i hi => by
    have h1 := hm i hi
    generalize (edTo J n n).getD i (0, 0) = x at h1 ⊢
    obtain ⟨v, w⟩ := x
    have h2 := mem_edTo.1 h1
    exact ⟨h2.2.1, h2.2.2.1⟩
  generalize edTo J n n = E at *
  unfold grE
  rw [if_neg (by omega), if_pos]
  refine edsB_all fun i hi => ?_
  have h1 := hm2 i hi
  unfold edB pE qE
  rw [decide_eq_true (by omega), decide_eq_true (by omega), decide_eq_true (by omega)]
  simp only [Bool.true_and]
  rcases Nat.eq_zero_or_pos i with h0 | h0
  · rw [decide_eq_true h0]; rfl
  · have h2 : PairLt (E.getD (i - 1) (0, 0)) (E.getD i (0, 0)) := by
      rw [getD_el hi, getD_el (show i - 1 < E.length by omega)]
      exact List.pairwise_iff_getElem.1 hr (i - 1) i (by omega) hi (by omega)
    have h3 : riseB (((E.getD (i - 1) (0, 0)).1 : Nat) : Int) (((E.getD (i - 1) (0, 0)).2 : Nat) : Int) (((E.getD i (0, 0)).1 : Nat) : Int) (((E.getD i (0, 0)).2 : Nat) : Int) = true := by
      unfold riseB
      rcases h2 with h2 | ⟨h2, h4⟩
      · rw [decide_eq_true (by omega)]; rfl
      · rw [decide_eq_true (show (((E.getD (i - 1) (0, 0)).1 : Nat) : Int) = (((E.getD i (0, 0)).1 : Nat) : Int) by omega), decide_eq_true (show (((E.getD (i - 1) (0, 0)).2 : Nat) : Int) < (((E.getD i (0, 0)).2 : Nat) : Int) by omega)]; simp
    rw [h3, Bool.or_true]
/-- Sets without edges, by the edges of memory. -/
theorem apart_iff {p q : Nat → Nat} {m n : Nat} {l : List Nat} (hn : n ≤ 16) (hpq : ∀ k, k < m → p k < q k ∧ q k < n) : FitsZ (okF (apF p q m)) n l ↔ Apart (joinB p q m) n l := by
  rw [fits_iff hn hpq]
  constructor
  · rintro ⟨h1, h2⟩
    refine ⟨h1, fun a ha b hb hab => ?_⟩
    cases h3 : joinB p q m a b
    · rfl
    · obtain ⟨k, hk, h4⟩ := joinB_iff.1 h3
      rcases h4 with ⟨rfl, rfl⟩ | ⟨h5, h6⟩
      · exact absurd ⟨ha, hb⟩ (h2 k hk)
      · have := (hpq k hk).1; omega
  · rintro ⟨h1, h2⟩
    refine ⟨h1, fun k hk hh => ?_⟩
    have h3 := h2 _ hh.1 _ hh.2 (hpq k hk).1
    have h4 : joinB p q m (p k) (q k) = true := joinB_iff.2 ⟨k, hk, Or.inl ⟨rfl, rfl⟩⟩
    rw [h3] at h4
    cases h4
theorem joinB_edTo (J : Nat → Nat → Bool) (n v w : Nat) (hw : w < n) (hvw : v < w) : joinB (nP (pE (edTo J n n))) (nP (qE (edTo J n n))) (edTo J n n).length v w = J v w := by
  rw [Bool.eq_iff_iff, joinB_iff]
  constructor
  · rintro ⟨k, hk, h⟩
    have h1 := getD_mem hk
    have e1 : nP (pE (edTo J n n)) k = ((edTo J n n).getD k (0, 0)).1 := by unfold nP pE; omega
    have e2 : nP (qE (edTo J n n)) k = ((edTo J n n).getD k (0, 0)).2 := by unfold nP qE; omega
    rw [e1, e2] at h
    generalize (edTo J n n).getD k (0, 0) = x at h h1
    obtain ⟨x1, x2⟩ := x
    have h2 := mem_edTo.1 h1
    simp only at h
    rcases h with ⟨rfl, rfl⟩ | ⟨h5, h6⟩
    · exact h2.2.2.2
    · omega
  · intro h
    have hmem : (v, w) ∈ edTo J n n := mem_edTo.2 ⟨by omega, hvw, hw, h⟩
    obtain ⟨k, hk, e⟩ := List.getElem_of_mem hmem
    refine ⟨k, hk, Or.inl ?_⟩
    have e3 : (edTo J n n).getD k (0, 0) = (v, w) := by rw [getD_el hk]; exact e
    unfold nP pE qE
    rw [e3]
    simp

/-- SHANNON's inequalities of the three answers of Alone. -/
theorem shannon_al {n1 n2 m1 m2 : Nat} {p1 q1 p2 q2 : Nat → Int} (h1 : grE n1 m1 p1 q1 = 0) (h2 : grE n2 m2 p2 q2 = 0) (hn : n1 * n2 ≤ 16) :
    (alL n1 m1 p1 q1).length * (alL n2 m2 p2 q2).length ≤ (alL ((n1 * n2 : Nat) : Int) (edTo (stJ m1 p1 q1 n2 m2 p2 q2) (n1 * n2) (n1 * n2)).length (pE (edTo (stJ m1 p1 q1 n2 m2 p2 q2) (n1 * n2) (n1 * n2))) (qE (edTo (stJ m1 p1 q1 n2 m2 p2 q2) (n1 * n2) (n1 * n2)))).length ∧
    (alL ((n1 * n2 : Nat) : Int) (edTo (stJ m1 p1 q1 n2 m2 p2 q2) (n1 * n2) (n1 * n2)).length (pE (edTo (stJ m1 p1 q1 n2 m2 p2 q2) (n1 * n2) (n1 * n2))) (qE (edTo (stJ m1 p1 q1 n2 m2 p2 q2) (n1 * n2) (n1 * n2)))).length ≤ n1 * (alL n2 m2 p2 q2).length ∧
    (alL ((n1 * n2 : Nat) : Int) (edTo (stJ m1 p1 q1 n2 m2 p2 q2) (n1 * n2) (n1 * n2)).length (pE (edTo (stJ m1 p1 q1 n2 m2 p2 q2) (n1 * n2) (n1 * n2))) (qE (edTo (stJ m1 p1 q1 n2 m2 p2 q2) (n1 * n2) (n1 * n2)))).length ≤ (alL n1 m1 p1 q1).length * n2 := by
  have hE := grE_edTo (stJ m1 p1 q1 n2 m2 p2 q2) (n1 * n2) hn
  have hj := joinB_edTo (stJ m1 p1 q1 n2 m2 p2 q2) (n1 * n2)
  have hn1 : n1 ≤ 16 := by have := grE_zero h1; omega
  have hn2 : n2 ≤ 16 := by have := grE_zero h2; omega
  have d1 : ∀ k, k < m1 → nP p1 k < nP q1 k ∧ nP q1 k < n1 := fun k hk => by have := ed_nat h1 k hk; exact ⟨this.1, by have := this.2.1; simpa using this⟩
  have d2 : ∀ k, k < m2 → nP p2 k < nP q2 k ∧ nP q2 k < n2 := fun k hk => by have := ed_nat h2 k hk; exact ⟨this.1, by have := this.2.1; simpa using this⟩
  have dE : ∀ k, k < (edTo (stJ m1 p1 q1 n2 m2 p2 q2) (n1 * n2) (n1 * n2)).length → nP (pE (edTo (stJ m1 p1 q1 n2 m2 p2 q2) (n1 * n2) (n1 * n2))) k < nP (qE (edTo (stJ m1 p1 q1 n2 m2 p2 q2) (n1 * n2) (n1 * n2))) k ∧ nP (qE (edTo (stJ m1 p1 q1 n2 m2 p2 q2) (n1 * n2) (n1 * n2))) k < n1 * n2 := fun k hk => by
    have h3 := ed_nat hE k hk
    have e3 : ((n1 * n2 : Nat) : Int).toNat = n1 * n2 := by rw [Int.toNat_natCast]
    rw [e3] at h3
    exact ⟨h3.1, h3.2.1⟩
  have best : ∀ {n m : Nat} {p q : Nat → Int}, grE n m p q = 0 → n ≤ 16 → (∀ k, k < m → nP p k < nP q k ∧ nP q k < n) → Apart (joinB (nP p) (nP q) m) n (alL n m p q) ∧ ∀ t, Apart (joinB (nP p) (nP q) m) n t → t.length ≤ (alL n m p q).length := fun {n m p q} hg hnn hd => by
    have e : alL n m p q = aloneL (okF (apF (nP p) (nP q) m)) n := by rw [alL, if_pos hg]; rfl
    rw [e]
    obtain ⟨b1, b2⟩ := alone_best (okF (apF (nP p) (nP q) m)) n
    refine ⟨(apart_iff hnn hd).1 b1, fun t ht => ?_⟩
    rcases b2 t ((apart_iff hnn hd).2 ht) with h | h
    · omega
    · omega
  obtain ⟨xA, mA⟩ := best h1 hn1 d1
  obtain ⟨xB, mB⟩ := best h2 hn2 d2
  obtain ⟨xS, mS⟩ := best hE hn dE
  refine shannon _ _ _ xA xB xS mA mB mS rfl rfl rfl (fun a b => joinB_symm _ _ _ a b) (fun v w _ hw hvw => ?_)
  rw [hj v w hw hvw]
  unfold stJ bothJ
  have e0 : ((n2 : Nat) : Int).toNat = n2 := by simp
  rw [e0, nrB_test _ _ _ _ _ (fun k hk => (d1 k hk).1), nrB_test _ _ _ _ _ (fun k hk => (d2 k hk).1)]
  have e1 : decide (w / n2 = v / n2) = decide (v / n2 = w / n2) := by rw [decide_eq_decide]; exact ⟨Eq.symm, Eq.symm⟩
  have e2 : decide (w % n2 = v % n2) = decide (v % n2 = w % n2) := by rw [decide_eq_decide]; exact ⟨Eq.symm, Eq.symm⟩
  rw [e1, e2]
end Go.Proofs.YtojljmapdafmaaaDoor
