/- Right tables: rows, columns, all. -/
import Derived.Test.YtfnmpkkfdljgcaaDoorTabErr
namespace Go.Proofs.YtfnmpkkfdljgcaaDoor

def lsum : List Int → Int
  | [] => 0
  | x :: r => x + lsum r
theorem lsum_append : ∀ l r : List Int, lsum (l ++ r) = lsum l + lsum r
  | [], r => by simp [lsum]
  | x :: l, r => by simp only [List.cons_append, lsum, lsum_append l r]; omega
theorem lsum_row (z : Nat → Int) : ∀ n, lsum (rowL z n) = sumN z n
  | 0 => rfl
  | n + 1 => by
    have ih := lsum_row z n
    unfold rowL at ih ⊢
    rw [List.range_succ, List.map_append, lsum_append, ih]
    simp [lsum, sumN]
theorem rowL_atF (l : List Int) : rowL (atF l) l.length = l := by
  refine List.ext_getElem (by simp [rowL]) (fun i h1 h2 => ?_)
  simp [rowL, atF, List.getD, List.getElem?_eq_getElem h2]
theorem sumN_list (l : List Int) : sumN (atF l) l.length = lsum l := by rw [← lsum_row, rowL_atF]
/-- A function's sum over a list, as over its places. -/
theorem sumN_map (g : Int → Int) (l : List Int) : sumN (fun i => g (atF l i)) l.length = lsum (l.map g) := by
  have h : rowL (fun i => g (atF l i)) l.length = l.map g := by
    refine List.ext_getElem (by simp [rowL]) (fun i h1 h2 => ?_)
    have h3 : i < l.length := by simpa using h2
    simp [rowL, atF, List.getD, List.getElem?_eq_getElem h3]
  rw [← lsum_row, h]
theorem lsum_flat (g : Int → Int) (ns : Nat → Nat) (zs : Nat → Nat → Int) : ∀ k, lsum ((flatL ns zs k).map g) = sumN (fun i => sumN (fun j => g (zs i j)) (ns i)) k
  | 0 => rfl
  | k + 1 => by
    show lsum ((flatL ns zs k ++ rowL (zs k) (ns k)).map g) = _
    rw [List.map_append, lsum_append, lsum_flat g ns zs k]
    have : (rowL (zs k) (ns k)).map g = rowL (fun j => g (zs k j)) (ns k) := by simp [rowL]
    rw [this, lsum_row]
    rfl
theorem mem_flat {ns : Nat → Nat} {zs : Nat → Nat → Int} : ∀ {k i j : Nat}, i < k → j < ns i → zs i j ∈ flatL ns zs k
  | k + 1, i, j, hi, hj => by
    show zs i j ∈ flatL ns zs k ++ rowL (zs k) (ns k)
    rw [List.mem_append]
    rcases Nat.lt_or_ge i k with h | h
    · exact Or.inl (mem_flat h hj)
    · obtain rfl : i = k := by omega
      exact Or.inr (List.mem_map.2 ⟨j, List.mem_range.2 hj, rfl⟩)
/-- A right table. -/
structure OkT (R : Nat) (ns : Nat → Nat) (zs : Nat → Nat → Int) (N : Nat) : Prop where
  r0 : 0 < R
  r16 : R ≤ 16
  c0 : 0 < ns 0
  c16 : ns 0 ≤ 16
  even : ∀ i, i < R → ns i = ns 0
  nn : ∀ i, i < R → ∀ j, j < ns i → 0 ≤ zs i j
  tot : sumN (fun i => sumN (zs i) (ns i)) R = N
  n1 : 1 ≤ N
  n6 : N ≤ 4096
theorem not_uneven {ns : Nat → Nat} {n i : Nat} (h : unevenB ns n = false) (hi : i < n) : ns i = ns 0 := by
  by_cases h' : ns i = ns 0
  · exact h'
  · rw [unevenB_mono hi h'] at h; cases h
theorem okT_of {R : Nat} {ns : Nat → Nat} {zs : Nat → Nat → Int} (h1 : R ≤ 16) (h2 : longB ns R = false) (h3 : unevenB ns R = false) (h4 : OkW (atF (flatL ns zs R)) (flatL ns zs R).length) : ∃ N, OkT R ns zs N ∧ sumN (atF (flatL ns zs R)) (flatL ns zs R).length = N := by
  obtain ⟨N, hN⟩ := Int.eq_ofNat_of_zero_le (Int.le_of_lt h4.pos)
  have hp := h4.posN
  rw [flatL_length] at hp
  have hr0 : 0 < R := Nat.pos_of_ne_zero (fun e => by subst e; simp [sumT] at hp)
  have hc0 : 0 < ns 0 := Nat.pos_of_ne_zero (fun e => by
    have := sumT_le (ns := ns) (B := 0) (n := R) (fun i hi => by have := not_uneven h3 hi; omega)
    omega)
  have h5 := h4.pos
  have h6 := h4.le
  have hsum : sumN (atF (flatL ns zs R)) (flatL ns zs R).length = sumN (fun i => sumN (zs i) (ns i)) R := by
    rw [sumN_list]
    have := lsum_flat id ns zs R
    simpa using this
  refine ⟨N, ⟨hr0, h1, hc0, not_long h2 0 hr0, fun i hi => not_uneven h3 hi, fun i hi j hj => ?_, by rw [← hsum]; exact hN, by omega, by omega⟩, hN⟩
  obtain ⟨q, hq⟩ := List.getElem?_of_mem (mem_flat (zs := zs) hi hj)
  have hql : q < (flatL ns zs R).length := by
    rcases Nat.lt_or_ge q (flatL ns zs R).length with h' | h'
    · exact h'
    · rw [List.getElem?_eq_none h'] at hq; cases hq
  have := h4.nn q hql
  unfold atF at this
  rw [List.getD_eq_getElem?_getD, hq] at this
  exact this
theorem OkT.row {R : Nat} {ns : Nat → Nat} {zs : Nat → Nat → Int} {N : Nat} (h : OkT R ns zs N) {i : Nat} (hi : i < R) : 0 ≤ sumN (zs i) (ns i) ∧ sumN (zs i) (ns i) ≤ N := by
  have h1 := sumN_nonneg (h.nn i hi)
  have h2 := sumN_ge (z := fun i => sumN (zs i) (ns i)) (n := R) (fun k hk => sumN_nonneg (h.nn k hk)) hi
  rw [h.tot] at h2
  exact ⟨h1, h2⟩
theorem OkT.cell {R : Nat} {ns : Nat → Nat} {zs : Nat → Nat → Int} {N : Nat} (h : OkT R ns zs N) {i j : Nat} (hi : i < R) (hj : j < ns i) : 0 ≤ zs i j ∧ zs i j ≤ 4096 := by
  have h1 := h.nn i hi j hj
  have h2 := sumN_ge (h.nn i hi) hj
  have h3 := (h.row hi).2
  have h4 := h.n6
  exact ⟨h1, by omega⟩
theorem OkT.part {R : Nat} {ns : Nat → Nat} {zs : Nat → Nat → Int} {N : Nat} (h : OkT R ns zs N) {i k : Nat} (hi : i < R) (hk : k ≤ ns i) : 0 ≤ sumN (zs i) k ∧ sumN (zs i) k ≤ 4096 := by
  have h1 := sumN_nonneg (z := zs i) (n := k) (fun j hj => h.nn i hi j (by omega))
  have h2 := sumN_mono (h.nn i hi) hk
  have h3 := (h.row hi).2
  have h4 := h.n6
  exact ⟨h1, by omega⟩
def colV (zs : Nat → Nat → Int) (k j : Nat) : Int := sumN (fun i => zs i j) k
theorem OkT.col {R : Nat} {ns : Nat → Nat} {zs : Nat → Nat → Int} {N : Nat} (h : OkT R ns zs N) {k j : Nat} (hk : k ≤ R) (hj : j < ns 0) : 0 ≤ colV zs k j ∧ colV zs k j ≤ 4096 := by
  have h1 : 0 ≤ colV zs k j := sumN_nonneg (fun i hi => h.nn i (by omega) j (by rw [h.even i (by omega)]; exact hj))
  have h2 : colV zs k j ≤ sumN (fun i => sumN (zs i) (ns i)) k := sumN_le (fun i hi => sumN_ge (h.nn i (by omega)) (by rw [h.even i (by omega)]; exact hj))
  have h3 := sumN_mono (z := fun i => sumN (zs i) (ns i)) (k := k) (n := R) (fun i hi => sumN_nonneg (h.nn i hi)) hk
  have h4 := h.tot
  have h5 := h.n6
  exact ⟨h1, by omega⟩
end Go.Proofs.YtfnmpkkfdljgcaaDoor
