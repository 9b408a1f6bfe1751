/- Greatest common divisors of lists; canonical forms: each value has one. -/
import Derived.Test.YtklhfagcembigaaGreatDoorOfAny
namespace Go.Proofs.YtklhfagcembigaaGreatDoor

theorem take_join {t : List (Int × Int)} {k : Nat} (hk : k < t.length) : t.take (k + 1) = t.take k ++ [t.getD k (0, 0)] := by
  rw [List.take_succ_eq_append_getElem hk, List.getD_eq_getElem?_getD, List.getElem?_eq_getElem hk]
  rfl
theorem OkLog.mem {den : Int} {t : List (Int × Int)} (h : OkLog den t.length (pOf t) (cOf t)) : ∀ e ∈ t, TermOk e.1 e.2 := fun e he => by
  obtain ⟨i, hi, rfl⟩ := List.getElem_of_mem he
  have := (h.2.2.1 i hi).2
  simp only [pOf, cOf, List.getD_eq_getElem?_getD] at this
  rw [List.getElem?_eq_getElem hi] at this
  exact this
theorem OkLog.rising {den : Int} {t : List (Int × Int)} (h : OkLog den t.length (pOf t) (cOf t)) : Rising t := by
  have hs : ∀ j i, i < j → j < t.length → pOf t i < pOf t j := by
    intro j
    induction j with
    | zero => intro i h1; omega
    | succ j ih =>
      intro i h1 h2
      have h3 : pOf t j < pOf t (j + 1) := (h.2.2.1 (j + 1) h2).1
      rcases Nat.lt_or_ge i j with h4 | h4
      · have := ih i h4 (by omega); omega
      · obtain rfl : i = j := by omega
        exact h3
  refine List.pairwise_iff_getElem.2 fun i j hi hj hij => ?_
  have := hs j i hij hj
  simp only [pOf, List.getD_eq_getElem?_getD] at this
  rw [List.getElem?_eq_getElem hi, List.getElem?_eq_getElem hj] at this
  exact this


/-- The greatest common divisor of a number and a list. -/
def gList : Nat → List Int → Nat
  | g, [] => g
  | g, x :: r => gList (Nat.gcd g x.natAbs) r
theorem gList_append : ∀ (L : List Int) (g : Nat) (x : Int), gList g (L ++ [x]) = Nat.gcd (gList g L) x.natAbs
  | [], _, _ => rfl
  | y :: r, g, x => gList_append r (Nat.gcd g y.natAbs) x
theorem gcdTo_list (den : Int) (t : List (Int × Int)) : ∀ k, k ≤ t.length → gcdTo den (cOf t) k = gList den.natAbs ((t.take k).map Prod.snd)
  | 0, _ => rfl
  | k + 1, h => by
    rw [take_join (by omega), List.map_append, List.map_singleton, gList_append, ← gcdTo_list den t k (by omega)]
    rfl
theorem gList_dvd : ∀ (L : List Int) (g : Nat), gList g L ∣ g ∧ ∀ x ∈ L, gList g L ∣ x.natAbs
  | [], g => ⟨Nat.dvd_refl _, fun x hx => by cases hx⟩
  | y :: r, g => by
    obtain ⟨h1, h2⟩ := gList_dvd r (Nat.gcd g y.natAbs)
    refine ⟨Nat.dvd_trans h1 (Nat.gcd_dvd_left _ _), fun x hx => ?_⟩
    rcases List.mem_cons.1 hx with rfl | hx
    · exact Nat.dvd_trans h1 (Nat.gcd_dvd_right _ _)
    · exact h2 x hx
theorem gList_greatest {d m : Nat} : ∀ (L : List Int) (g : Nat), d ∣ m * g → (∀ x ∈ L, d ∣ m * x.natAbs) → d ∣ m * gList g L
  | [], _, h, _ => h
  | y :: r, g, h, hx => gList_greatest r _ (by rw [← Nat.gcd_mul_left]; exact Nat.dvd_gcd h (hx y (List.mem_cons_self ..))) (fun x h' => hx x (List.mem_cons_of_mem _ h'))
theorem gList_zeros : ∀ (L : List Int) (g : Nat), gList g (L.filter fun x => !decide (x = 0)) = gList g L
  | [], _ => rfl
  | y :: r, g => by
    by_cases h : y = 0
    · subst h
      simp only [List.filter_cons, decide_true, Bool.not_true, Bool.false_eq_true, if_false, gList, Int.natAbs_zero, Nat.gcd_zero_right]
      exact gList_zeros r g
    · simp only [List.filter_cons, h, decide_false, Bool.not_false, if_true, gList]
      exact gList_zeros r _
theorem gList_times (G : Nat) : ∀ (L : List Int) (g : Nat), gList (G * g) (L.map fun x => (G : Int) * x) = G * gList g L
  | [], _ => rfl
  | y :: r, g => by
    simp only [List.map_cons, gList]
    rw [Int.natAbs_mul, Int.natAbs_natCast, Nat.gcd_mul_left]
    exact gList_times G r _

/-- In form, but for the bounds. -/
structure Canon (d : Nat) (t : List (Int × Int)) : Prop where
  pos : 0 < d
  rise : Rising t
  nz : ∀ e ∈ t, e.2 ≠ 0
  one : gList d (t.map Prod.snd) = 1
theorem canon_dvd {d d' : Nat} {t t' : List (Int × Int)} (h : Canon d t) (he : ∀ x, atL t x * (d' : Int) = atL t' x * (d : Int)) : d ∣ d' := by
  have := gList_greatest (d := d) (m := d') (t.map Prod.snd) d (Nat.dvd_mul_left d d') (fun x hx => by
    obtain ⟨e, he', rfl⟩ := List.mem_map.1 hx
    have h1 := he e.1
    rw [atL_mem h.rise he'] at h1
    refine ⟨(atL t' e.1).natAbs, ?_⟩
    have h2 := congrArg Int.natAbs h1
    rw [Int.natAbs_mul, Int.natAbs_mul, Int.natAbs_natCast, Int.natAbs_natCast] at h2
    rw [Nat.mul_comm d' e.2.natAbs, h2, Nat.mul_comm])
  rw [h.one, Nat.mul_one] at this
  exact this
/-- One value, one form. -/
theorem canon_uniq {d d' : Nat} {t t' : List (Int × Int)} (h : Canon d t) (h' : Canon d' t') (he : ∀ x, atL t x * (d' : Int) = atL t' x * (d : Int)) : d = d' ∧ t = t' := by
  have hd : d = d' := Nat.dvd_antisymm (canon_dvd h he) (canon_dvd h' (fun x => (he x).symm))
  subst hd
  refine ⟨rfl, rising_ext h.rise h'.rise h.nz h'.nz (fun x => ?_)⟩
  have hp : (d : Int) ≠ 0 := by have := h.pos; omega
  exact Int.eq_of_mul_eq_mul_right hp (he x)
theorem OkLog.canon {d : Nat} {t : List (Int × Int)} (h : OkLog d t.length (pOf t) (cOf t)) : Canon d t := by
  refine ⟨by have := h.1; omega, h.rising, fun e he => (h.mem e he).2.1, ?_⟩
  have := h.2.2.2
  rw [gcdTo_list _ _ _ (Nat.le_refl _), List.take_length, Int.natAbs_natCast] at this
  exact this

theorem over_snd (G : Nat) : ∀ l : List (Int × Int), (overL G l).map Prod.snd = (l.map fun e => e.2.tdiv (G : Int)).filter fun x => !decide (x = 0)
  | [] => rfl
  | e :: r => by
    have ih := over_snd G r
    unfold overL at ih ⊢
    by_cases h : e.2.tdiv (G : Int) = 0
    · simp only [List.map_cons, List.filter_cons, h, decide_true, Bool.not_true, Bool.false_eq_true, if_false]
      exact ih
    · simp only [List.map_cons, List.filter_cons, h, decide_false, Bool.not_false, if_true, List.map_cons]
      rw [ih]
/-- A sum over its common divisor is in form, but for the bounds. -/
theorem over_canon {D G : Nat} {l : List (Int × Int)} (hD : 0 < D) (hr : Rising l) (hG : gcdL (D : Int) (atL l) (l.map Prod.fst) l.length = G) : G ∣ D ∧ 0 < G ∧ (∀ x, atL l x = (G : Int) * atL (overL G l) x) ∧ Canon (D / G) (overL G l) := by
  have h0 : gcdL (D : Int) (atL l) (l.map Prod.fst) l.length = gcdTo (D : Int) (cOf l) l.length := by
    have aux : ∀ k, k ≤ l.length → gcdTo (D : Int) (fun i => atL l ((l.map Prod.fst).getD i 0)) k = gcdTo (D : Int) (cOf l) k := by
      intro k
      induction k with
      | zero => intro _; rfl
      | succ k ih =>
        intro hk
        show Int.gcd (gcdTo (D : Int) (fun i => atL l ((l.map Prod.fst).getD i 0)) k : Int) (atL l ((l.map Prod.fst).getD k 0)) = Int.gcd (gcdTo (D : Int) (cOf l) k : Int) (cOf l k)
        rw [ih (by omega)]
        have : atL l ((l.map Prod.fst).getD k 0) = cOf l k := by rw [getD_fst (by omega)]; exact atL_mem hr (getD_mem (by omega))
        rw [this]
    exact aux _ (Nat.le_refl _)
  rw [h0, gcdTo_list _ _ _ (Nat.le_refl _), List.take_length, Int.natAbs_natCast] at hG
  obtain ⟨g1, g2⟩ := gList_dvd (l.map Prod.snd) D
  rw [hG] at g1 g2
  have hGp : 0 < G := Nat.pos_of_dvd_of_pos g1 hD
  have hex : ∀ e ∈ l, e.2 = (G : Int) * e.2.tdiv (G : Int) := fun e he => by
    have h1 : (G : Int) ∣ e.2 := Int.ofNat_dvd_left.2 (g2 _ (List.mem_map.2 ⟨e, he, rfl⟩))
    exact (Int.mul_tdiv_cancel' h1).symm
  have hval : ∀ x, atL l x = (G : Int) * atL (overL G l) x := fun x => by
    rw [atL_over hr]
    by_cases hx : atL l x = 0
    · rw [hx]; simp
    · exact hex _ (atL_some hx)
  refine ⟨g1, hGp, hval, ⟨Nat.div_pos (Nat.le_of_dvd hD g1) hGp, rising_over hr G, fun e he => over_nz he, ?_⟩⟩
  have h1 : l.map Prod.snd = (l.map fun e => e.2.tdiv (G : Int)).map fun x => (G : Int) * x := by
    rw [List.map_map]
    exact List.map_congr_left fun e he => hex e he
  have h2 := over_snd G l
  rw [h2, gList_zeros]
  have h3 := gList_times G (l.map fun e => e.2.tdiv (G : Int)) (D / G)
  rw [← h1, Nat.mul_div_cancel' g1, hG] at h3
  exact Nat.eq_of_mul_eq_mul_left hGp (by rw [← h3, Nat.mul_one])
end Go.Proofs.YtklhfagcembigaaGreatDoor
