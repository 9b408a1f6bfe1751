/- The H-theorem: what a table spreads is majorized. -/
import Derived.Test.YtgopohbombnflaaDoorOrTab
import Derived.Test.YtgopohbombnflaaDoorOrSort
namespace Go.Proofs.YtgopohbombnflaaDoor

theorem sumN_add (f g : Nat → Int) : ∀ n, sumN (fun k => f k + g k) n = sumN f n + sumN g n
  | 0 => rfl
  | n + 1 => by
    show sumN (fun k => f k + g k) n + (f n + g n) = (sumN f n + f n) + (sumN g n + g n)
    rw [sumN_add f g n]; omega
theorem sumN_mul (c : Int) (f : Nat → Int) : ∀ n, sumN (fun k => c * f k) n = c * sumN f n
  | 0 => by simp [sumN]
  | n + 1 => by show _ + _ = c * (_ + _); rw [sumN_mul c f n, Int.mul_add]
theorem sumN_mulr (c : Int) (f : Nat → Int) : ∀ n, sumN (fun k => f k * c) n = sumN f n * c
  | 0 => by simp [sumN]
  | n + 1 => by show _ + _ = (_ + _) * c; rw [sumN_mulr c f n, Int.add_mul]
theorem sumN_const (c : Int) : ∀ n : Nat, sumN (fun _ => c) n = (n : Int) * c
  | 0 => by simp [sumN]
  | n + 1 => by
    show sumN (fun _ => c) n + c = _
    rw [sumN_const c n, show ((n + 1 : Nat) : Int) = (n : Int) + 1 by omega, Int.add_mul, Int.one_mul]
theorem sumN_swap (f : Nat → Nat → Int) (n : Nat) : ∀ k, sumN (fun j => sumN (fun c => f j c) n) k = sumN (fun c => sumN (fun j => f j c) k) n
  | 0 => by
    show 0 = sumN (fun _ => 0) n
    rw [sumN_const]; simp
  | k + 1 => by
    show sumN (fun j => sumN (fun c => f j c) n) k + sumN (fun c => f k c) n = sumN (fun c => sumN (fun j => f j c) k + f k c) n
    rw [sumN_swap f n k, sumN_add]
theorem sum_map_list (f : Nat → Int) : ∀ D : List Nat, sumN (fun j => f (D.getD j 0)) D.length = (D.map f).sum := fun D => by
  have h := sum_rowL (fun j => f (D.getD j 0)) D.length
  rw [← h]
  congr 1
  refine List.ext_getElem (by simp [rowL]) (fun i h1 h2 => ?_)
  simp [rowL] at h1
  simp [rowL, List.getD, h1]
theorem sum_perm {D : List Nat} {n : Nat} (h : D.Perm (List.range n)) (f : Nat → Int) : sumN (fun j => f (D.getD j 0)) n = sumN f n := by
  have hl : D.length = n := by rw [h.length_eq, List.length_range]
  have h1 := sum_map_list f D
  rw [hl] at h1
  rw [h1, sumN_perm (h.map f)]
  exact sum_rowL f n
theorem fall_places (z : Nat → Int) (n : Nat) : ∃ D : List Nat, D.Perm (List.range n) ∧ D.map z = fallL z n := by
  obtain ⟨D, _, h1, h2⟩ := sorted_places n z
  exact ⟨D, h1, h2⟩
/-- A part of each of falling numbers is at most as much of the first ones. -/
theorem part_le {n k : Nat} {x W : Nat → Int} {S : Int} (hk : k ≤ n) (hx : ∀ j, j < n → 0 ≤ x j ∧ x j ≤ S) (hW : ∀ i j, i ≤ j → j < n → W j ≤ W i) (hs : sumN x n = (k : Int) * S) : sumN (fun j => x j * W j) n ≤ S * sumN W k := by
  rcases Nat.eq_zero_or_pos k with h0 | h0
  · subst h0
    have hz : ∀ j, j < n → x j = 0 := by
      have h1 : sumN x n = 0 := by rw [hs]; simp
      intro j hj
      have h2 := sumN_ge (z := x) (n := n) (fun i hi => (hx i hi).1) hj
      have h3 := (hx j hj).1
      omega
    rw [sumN_congr (z' := fun _ => 0) (fun j hj => by rw [hz j hj]; simp), sumN_const]
    simp [sumN]
  · obtain ⟨t, ht⟩ : ∃ t, t = W (k - 1) := ⟨_, rfl⟩
    have hind : ∀ m, m ≤ n → sumN (fun j => if j < k then S * W j + t * (x j - S) else t * x j) m = S * sumN W (min m k) + t * (sumN x m - S * (min m k : Nat)) := fun m => by
      induction m with
      | zero => intro _; simp [sumN]
      | succ m ih =>
        intro hm
        have := ih (by omega)
        show sumN _ m + (if m < k then S * W m + t * (x m - S) else t * x m) = _
        rw [this]
        by_cases hmk : m < k
        · rw [if_pos hmk, show min (m + 1) k = m + 1 by omega, show min m k = m by omega]
          show _ = S * (sumN W m + W m) + t * (sumN x m + x m - S * ((m + 1 : Nat) : Int))
          rw [show ((m + 1 : Nat) : Int) = (m : Int) + 1 by omega, Int.mul_add S, Int.mul_add S, Int.mul_one, Int.mul_sub t, Int.mul_sub t, Int.mul_sub t, Int.mul_add t, Int.mul_add t]
          omega
        · rw [if_neg hmk, show min (m + 1) k = k by omega, show min m k = k by omega]
          show _ = S * sumN W k + t * (sumN x m + x m - S * (k : Int))
          rw [Int.mul_sub t, Int.mul_sub t, Int.mul_add t]
          omega
    have h1 : sumN (fun j => x j * W j) n ≤ sumN (fun j => if j < k then S * W j + t * (x j - S) else t * x j) n := sumN_le fun j hj => by
      have a := hx j hj
      by_cases hjk : j < k
      · simp only [if_pos hjk]
        have b := hW j (k - 1) (by omega) (by omega)
        rw [← ht] at b
        have c : 0 ≤ (S - x j) * (W j - t) := Int.mul_nonneg (by omega) (by omega)
        rw [Int.sub_mul, Int.mul_sub, Int.mul_sub] at c
        rw [Int.mul_sub t, Int.mul_comm t (x j), Int.mul_comm t S]
        omega
      · simp only [if_neg hjk]
        have b := hW (k - 1) j (by omega) hj
        rw [← ht] at b
        have c : 0 ≤ x j * (t - W j) := Int.mul_nonneg a.1 (by omega)
        rw [Int.mul_sub, Int.mul_comm (x j) t] at c
        omega
    have h2 := hind n (Nat.le_refl _)
    rw [show min n k = k by omega, hs, Int.mul_comm (k : Int) S, Int.sub_self, Int.mul_zero, Int.add_zero] at h2
    omega
/-- What a table makes of weights. -/
def sprF (R : Nat) (zs : Nat → Nat → Int) (w : Nat → Int) (i : Nat) : Int := sumN (fun k => zs i k * w k) R
theorem spread_top {R : Nat} {ns : Nat → Nat} {zs : Nat → Nat → Int} {w : Nat → Int} (h : SqOk R ns zs) {k : Nat} (hk : k ≤ R) : sumN (atF (fallL (sprF R zs w) R)) k ≤ sumN (zs 0) R * sumN (atF (fallL w R)) k := by
  obtain ⟨D, hD, hDm⟩ := fall_places (sprF R zs w) R
  obtain ⟨E, hE, hEm⟩ := fall_places w R
  have e1 : sumN (atF (fallL (sprF R zs w) R)) k = sumN (fun j => sumN (fun c => zs (D.getD j 0) c * w c) R) k := sumN_congr fun j hj => by
    rw [← fall_at hDm (show j < R by omega)]; rfl
  have e2 := sumN_swap (fun j c => zs (D.getD j 0) c * w c) R k
  have e3 : sumN (fun c => sumN (fun j => zs (D.getD j 0) c * w c) k) R = sumN (fun c => sumN (fun j => zs (D.getD j 0) c) k * w c) R := sumN_congr fun c _ => sumN_mulr _ _ _
  have e4 := sum_perm hE (fun c => sumN (fun j => zs (D.getD j 0) c) k * w c)
  have e5 : sumN (fun j => sumN (fun i => zs (D.getD i 0) (E.getD j 0)) k * w (E.getD j 0)) R = sumN (fun j => sumN (fun i => zs (D.getD i 0) (E.getD j 0)) k * atF (fallL w R) j) R := sumN_congr fun j hj => by rw [fall_at hEm hj]
  have hx : ∀ j, j < R → 0 ≤ sumN (fun i => zs (D.getD i 0) (E.getD j 0)) k ∧ sumN (fun i => zs (D.getD i 0) (E.getD j 0)) k ≤ sumN (zs 0) R := fun j hj => by
    have hc := perm_lt hE hj
    have hp : ∀ i, i < R → 0 ≤ zs (D.getD i 0) (E.getD j 0) := fun i hi => (h.num _ (perm_lt hD hi) _ hc).1
    refine ⟨sumN_nonneg fun i hi => hp i (by omega), ?_⟩
    have h1 := sumN_mono (z := fun i => zs (D.getD i 0) (E.getD j 0)) (k := k) (n := R) hp hk
    have h2 := sum_perm hD (fun r => zs r (E.getD j 0))
    have h3 := h.col _ hc
    unfold colN at h3
    omega
  have hs : sumN (fun j => sumN (fun i => zs (D.getD i 0) (E.getD j 0)) k) R = (k : Int) * sumN (zs 0) R := by
    rw [sum_perm hE (fun c => sumN (fun i => zs (D.getD i 0) c) k), ← sumN_swap (fun i c => zs (D.getD i 0) c) R k, sumN_congr (z' := fun _ => sumN (zs 0) R) (fun i hi => ?_), sumN_const]
    exact h.row _ (perm_lt hD (show i < R by omega))
  have hfin := part_le hk hx (fun i j hij hj => atF_down (fallL_down w R) hij (by rw [fallL_length]; exact hj)) hs
  rw [e1, e2, e3, ← e4, e5]
  exact hfin
theorem fall_scale {S : Int} (hS : 0 ≤ S) (w : Nat → Int) (n : Nat) {j : Nat} (hj : j < n) : atF (fallL (fun i => w i * S) n) j = atF (fallL w n) j * S := by
  obtain ⟨D, hD, hDm⟩ := fall_places w n
  have hm : D.map (fun i => w i * S) = fallL (fun i => w i * S) n := fall_sorted _ n D hD fun i k hik hk => by
    have h1 := atF_down (fallL_down w n) (i := i) (j := k) (by omega) (by rw [fallL_length]; exact hk)
    rw [← fall_at hDm hk, ← fall_at hDm (show i < n by omega)] at h1
    exact Int.mul_le_mul_of_nonneg_right h1 hS
  rw [← fall_at hm hj, ← fall_at hDm hj]
/-- What is spread is majorized. -/
theorem spread_below {R : Nat} {ns : Nat → Nat} {zs : Nat → Nat → Int} {w : Nat → Int} (h : SqOk R ns zs) : dipN (surF (fun i => w i * sumN (zs 0) R) (sprF R zs w) R) R = false := by
  have hS : 0 ≤ sumN (zs 0) R := sumN_nonneg fun i hi => (h.num 0 h.pos i hi).1
  refine dipN_of fun k hk => ?_
  rw [sur_sum]
  have h1 := spread_top (w := w) h hk
  have h2 : sumN (atF (fallL (fun i => w i * sumN (zs 0) R) R)) k = sumN (zs 0) R * sumN (atF (fallL w R)) k := by
    rw [sumN_congr (z' := fun j => atF (fallL w R) j * sumN (zs 0) R) (fun j hj => fall_scale hS w R (by omega)), sumN_mulr, Int.mul_comm]
  omega
theorem sprF_bnd {R : Nat} {ns : Nat → Nat} {zs : Nat → Nat → Int} {w : Nat → Int} (h : SqOk R ns zs) (hw : ∀ k, k < R → 0 ≤ w k ∧ w k ≤ 4096) {i : Nat} (hi : i < R) : ∀ k, k ≤ R → 0 ≤ sumN (fun k => zs i k * w k) k ∧ sumN (fun k => zs i k * w k) k ≤ (k : Int) * 16777216
  | 0, _ => by simp [sumN]
  | k + 1, hk => by
    obtain ⟨h1, h2⟩ := sprF_bnd h hw hi k (by omega)
    have a := h.num i hi k (by omega)
    have b := hw k (by omega)
    have c : 0 ≤ zs i k * w k := Int.mul_nonneg a.1 b.1
    have d : zs i k * w k ≤ 4096 * 4096 := Int.mul_le_mul a.2 b.2 b.1 (by decide)
    show 0 ≤ sumN (fun k => zs i k * w k) k + zs i k * w k ∧ sumN (fun k => zs i k * w k) k + zs i k * w k ≤ _
    rw [show ((k + 1 : Nat) : Int) * 16777216 = (k : Int) * 16777216 + 16777216 by omega]
    omega
end Go.Proofs.YtgopohbombnflaaDoor
