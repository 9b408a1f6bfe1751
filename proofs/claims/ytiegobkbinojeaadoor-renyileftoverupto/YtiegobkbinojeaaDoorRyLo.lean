/- The LEFTOVER HASH (IMPAGLIAZZO, LEVIN, LUBY), in whole numbers. -/
import Derived.Test.YtiegobkbinojeaaDoorRyFr
namespace Go.Proofs.YtiegobkbinojeaaDoor

theorem sq_nonnegR (x : Int) : 0 ≤ x * x := by
  rcases Int.le_total 0 x with h | h
  · exact Int.mul_nonneg h h
  · have := Int.mul_nonneg (show 0 ≤ -x by omega) (show 0 ≤ -x by omega)
    rwa [Int.neg_mul_neg] at this
theorem sumN_plusR (f g : Nat → Int) : ∀ n, sumN (fun i => f i + g i) n = sumN f n + sumN g n
  | 0 => rfl
  | n + 1 => by
    show sumN (fun i => f i + g i) n + (f n + g n) = sumN f n + f n + (sumN g n + g n)
    rw [sumN_plusR f g n]; omega
theorem sumN_timesR (k : Int) (f : Nat → Int) : ∀ n, sumN (fun i => k * f i) n = k * sumN f n
  | 0 => (Int.mul_zero _).symm
  | n + 1 => by
    show sumN (fun i => k * f i) n + k * f n = k * (sumN f n + f n)
    rw [sumN_timesR k f n, Int.mul_add]
theorem sumN_constR (k : Int) : ∀ n : Nat, sumN (fun _ => k) n = (n : Int) * k
  | 0 => (Int.zero_mul _).symm
  | n + 1 => by
    show sumN (fun _ => k) n + k = ((n + 1 : Nat) : Int) * k
    rw [sumN_constR k n, Int.natCast_add, Int.add_mul]; simp
/-- A sum where one place changes. -/
theorem sumN_changeR {f g : Nat → Int} {v : Nat} {y : Int} : ∀ {m : Nat}, v < m → (∀ i, i < m → g i = if i = v then f i + y else f i) → sumN g m = sumN f m + y
  | 0, h, _ => by omega
  | m + 1, h, hg => by
    show sumN g m + g m = sumN f m + f m + y
    rcases Nat.lt_or_ge v m with h1 | h1
    · rw [sumN_changeR h1 (fun i hi => hg i (by omega)), hg m (by omega), if_neg (by omega)]; omega
    · obtain rfl : v = m := by omega
      rw [sumN_congr (z := g) (z' := f) (fun i hi => by rw [hg i (by omega), if_neg (by omega)]), hg v (by omega), if_pos rfl]; omega
/-- CAUCHY. -/
theorem cauchyR (a : Nat → Int) : ∀ n : Nat, sumN a n * sumN a n ≤ (n : Int) * sumN (fun i => a i * a i) n
  | 0 => by simp [sumN]
  | n + 1 => by
    have ih := cauchyR a n
    have h1 : ∀ k : Nat, 2 * (sumN a k * a n) ≤ sumN (fun i => a i * a i) k + (k : Int) * (a n * a n) := fun k => by
      induction k with
      | zero => simp [sumN]
      | succ k ihk =>
        have h2 := sq_nonnegR (a k - a n)
        have e1 : (a k - a n) * (a k - a n) = a k * a k - 2 * (a k * a n) + a n * a n := by grind
        show 2 * ((sumN a k + a k) * a n) ≤ sumN (fun i => a i * a i) k + a k * a k + ((k + 1 : Nat) : Int) * (a n * a n)
        have e2 : 2 * ((sumN a k + a k) * a n) = 2 * (sumN a k * a n) + 2 * (a k * a n) := by grind
        have e3 : ((k + 1 : Nat) : Int) * (a n * a n) = (k : Int) * (a n * a n) + a n * a n := by rw [Int.natCast_add, Int.add_mul]; simp
        rw [e2, e3]
        generalize sumN a k * a n = x1 at *
        generalize a k * a n = x2 at *
        generalize (k : Int) * (a n * a n) = x3 at *
        generalize a n * a n = x4 at *
        generalize a k * a k = x5 at *
        omega
    have h3 := h1 n
    show (sumN a n + a n) * (sumN a n + a n) ≤ ((n + 1 : Nat) : Int) * (sumN (fun i => a i * a i) n + a n * a n)
    have e1 : (sumN a n + a n) * (sumN a n + a n) = sumN a n * sumN a n + 2 * (sumN a n * a n) + a n * a n := by grind
    have e2 : ((n + 1 : Nat) : Int) * (sumN (fun i => a i * a i) n + a n * a n) = (n : Int) * sumN (fun i => a i * a i) n + sumN (fun i => a i * a i) n + (n : Int) * (a n * a n) + a n * a n := by
      rw [Int.natCast_add]; grind
    rw [e1, e2]
    generalize sumN a n * sumN a n = x1 at *
    generalize sumN a n * a n = x2 at *
    generalize (n : Int) * sumN (fun i => a i * a i) n = x3 at *
    generalize (n : Int) * (a n * a n) = x4 at *
    omega
/-- All of it goes somewhere. -/
theorem ld_all {zr z : Nat → Int} {n m : Nat} (hb : ∀ i, i < n → 0 ≤ zr i ∧ zr i < (m : Int)) : ∀ k, k ≤ n → sumN (ldF zr z k) m = sumN z k
  | 0, _ => by
    have : ∀ m, sumN (ldF zr z 0) m = 0 := fun m => by
      induction m with
      | zero => rfl
      | succ m ih => show sumN (ldF zr z 0) m + 0 = 0; rw [ih]; rfl
    rw [this]; rfl
  | k + 1, hk => by
    have ih := ld_all (z := z) hb k (by omega)
    have h1 := hb k (by omega)
    obtain ⟨v, hv⟩ : ∃ v : Nat, zr k = (v : Int) := ⟨(zr k).toNat, by omega⟩
    show _ = sumN z k + z k
    rw [← ih]
    exact sumN_changeR (v := v) (by omega) (fun i _ => by
      show (if zr k = (i : Int) then ldF zr z k i + z k else ldF zr z k i) = _
      by_cases e : i = v
      · rw [if_pos e, if_pos (by omega)]
      · rw [if_neg e, if_neg (by omega)])
/-- The squares of what goes to each. -/
def sqV (zr z : Nat → Int) (m k : Nat) : Int := sumN (fun v => ldF zr z k v * ldF zr z k v) m
theorem sqV_step {zr z : Nat → Int} {m k : Nat} (h : 0 ≤ zr k ∧ zr k < (m : Int)) : sqV zr z m (k + 1) = sqV zr z m k + (2 * (z k * ldF zr z k (zr k).toNat) + z k * z k) := by
  refine sumN_changeR (v := (zr k).toNat) (by omega) (fun i _ => ?_)
  show (if zr k = (i : Int) then ldF zr z k i + z k else ldF zr z k i) * (if zr k = (i : Int) then ldF zr z k i + z k else ldF zr z k i) = _
  by_cases e : i = (zr k).toNat
  · rw [if_pos e, if_pos (by omega), ← e]; grind
  · rw [if_neg e, if_neg (by omega)]
theorem tog_sum (zs : Nat → Nat → Int) (x y : Nat) (c : Int) : ∀ R, sumN (fun i => if zs i x = zs i y then c else 0) R = c * (togN zs x y R : Int)
  | 0 => (Int.mul_zero _).symm
  | R + 1 => by
    show sumN (fun i => if zs i x = zs i y then c else 0) R + (if zs R x = zs R y then c else 0) = c * ((togN zs x y R + (if zs R x = zs R y then 1 else 0) : Nat) : Int)
    rw [tog_sum zs x y c R]
    by_cases h : zs R x = zs R y
    · rw [if_pos h, if_pos h, Int.natCast_add, Int.mul_add]; simp
    · rw [if_neg h, if_neg h]; simp
/-- What went where the next one goes. -/
theorem meet_le {zs : Nat → Nat → Int} {z : Nat → Int} {R n m k : Nat} (hk : k < n) (hb : ∀ i, i < R → ∀ x, x < n → 0 ≤ zs i x ∧ zs i x < (m : Int)) (hz : ∀ i, i < n → 0 ≤ z i) (hu : ∀ x y, x < y → y < n → (togN zs x y R : Int) * (m : Int) ≤ (R : Int)) :
    ∀ j, j ≤ k → (m : Int) * sumN (fun i => ldF (zs i) z j (zs i k).toNat) R ≤ (R : Int) * sumN z j
  | 0, _ => by
    have : ∀ R, sumN (fun i => ldF (zs i) z 0 (zs i k).toNat) R = 0 := fun R => by
      induction R with
      | zero => rfl
      | succ R ih => show sumN (fun i => ldF (zs i) z 0 (zs i k).toNat) R + 0 = 0; rw [ih]; rfl
    rw [this]; simp [sumN]
  | j + 1, hj => by
    have ih := meet_le hk hb hz hu j (by omega)
    have e1 : sumN (fun i => ldF (zs i) z (j + 1) (zs i k).toNat) R = sumN (fun i => ldF (zs i) z j (zs i k).toNat + (if zs i j = zs i k then z j else 0)) R := sumN_congr fun i hi => by
      show (if zs i j = ((zs i k).toNat : Int) then ldF (zs i) z j (zs i k).toNat + z j else ldF (zs i) z j (zs i k).toNat) = _
      have := hb i hi k hk
      have e : ((zs i k).toNat : Int) = zs i k := by omega
      rw [e]
      by_cases h : zs i j = zs i k
      · rw [if_pos h, if_pos h]
      · rw [if_neg h, if_neg h]; omega
    rw [e1, sumN_plusR, tog_sum, Int.mul_add]
    show _ ≤ (R : Int) * (sumN z j + z j)
    rw [Int.mul_add]
    have h1 := hu j k (by omega) hk
    have h2 := Int.mul_le_mul_of_nonneg_left h1 (hz j (by omega))
    have e2 : (m : Int) * (z j * (togN zs j k R : Int)) = z j * ((togN zs j k R : Int) * (m : Int)) := by grind
    have e3 : (R : Int) * z j = z j * (R : Int) := Int.mul_comm _ _
    rw [e2, e3]
    generalize z j * ((togN zs j k R : Int) * (m : Int)) = x1 at *
    generalize z j * (R : Int) = x2 at *
    omega
/-- The squares of weights. -/
def sqI (z : Nat → Int) (n : Nat) : Int := sumN (fun i => z i * z i) n
theorem sqI_nn (z : Nat → Int) : ∀ n, 0 ≤ sqI z n
  | 0 => Int.le_refl _
  | n + 1 => by
    have := sqI_nn z n
    have := sq_nonnegR (z n)
    show 0 ≤ sqI z n + z n * z n
    omega
theorem leftover_sq {zs : Nat → Nat → Int} {z : Nat → Int} {R n m : Nat} (hb : ∀ i, i < R → ∀ x, x < n → 0 ≤ zs i x ∧ zs i x < (m : Int)) (hz : ∀ i, i < n → 0 ≤ z i) (hu : ∀ x y, x < y → y < n → (togN zs x y R : Int) * (m : Int) ≤ (R : Int)) :
    ∀ k, k ≤ n → (m : Int) * sumN (fun i => sqV (zs i) z m k) R ≤ (m : Int) * ((R : Int) * sqI z k) + (R : Int) * (sumN z k * sumN z k - sqI z k)
  | 0, _ => by
    have h0 : ∀ i, sqV (zs i) z m 0 = 0 := fun i => by
      unfold sqV
      have : ∀ m, sumN (fun v => ldF (zs i) z 0 v * ldF (zs i) z 0 v) m = 0 := fun m => by
        induction m with
        | zero => rfl
        | succ m ih => show sumN (fun v => ldF (zs i) z 0 v * ldF (zs i) z 0 v) m + 0 * 0 = 0; rw [ih]; rfl
      exact this m
    have : sumN (fun i => sqV (zs i) z m 0) R = 0 := by
      rw [sumN_congr (z' := fun _ => 0) (fun i _ => h0 i), sumN_constR, Int.mul_zero]
    rw [this]; simp [sqI, sumN]
  | k + 1, hk => by
    have ih := leftover_sq hb hz hu k (by omega)
    have hm := meet_le (zs := zs) (z := z) (R := R) (n := n) (m := m) (k := k) (by omega) hb hz hu k (Nat.le_refl _)
    have e1 : sumN (fun i => sqV (zs i) z m (k + 1)) R = sumN (fun i => sqV (zs i) z m k) R + (2 * (z k * sumN (fun i => ldF (zs i) z k (zs i k).toNat) R) + (R : Int) * (z k * z k)) := by
      rw [sumN_congr (fun i hi => sqV_step (z := z) (hb i hi k (by omega))), sumN_plusR, sumN_plusR, sumN_constR, sumN_timesR, sumN_timesR]
    have h2 := Int.mul_le_mul_of_nonneg_left hm (hz k (by omega))
    rw [e1]
    show _ ≤ (m : Int) * ((R : Int) * (sqI z k + z k * z k)) + (R : Int) * ((sumN z k + z k) * (sumN z k + z k) - (sqI z k + z k * z k))
    generalize sumN (fun i => sqV (zs i) z m k) R = L at *
    generalize sumN (fun i => ldF (zs i) z k (zs i k).toNat) R = D at *
    generalize sumN z k = s at *
    generalize sqI z k = t at *
    generalize z k = x at *
    generalize (R : Int) = r at *
    generalize (m : Int) = M at *
    have e2 : M * (L + (2 * (x * D) + r * (x * x))) = M * L + 2 * (x * (M * D)) + M * (r * (x * x)) := by grind
    have e3 : M * (r * (t + x * x)) + r * ((s + x) * (s + x) - (t + x * x)) = (M * (r * t) + r * (s * s - t)) + M * (r * (x * x)) + 2 * (x * (r * s)) := by grind
    rw [e2, e3]
    generalize M * L = y1 at *
    generalize x * (M * D) = y2 at *
    generalize M * (r * t) + r * (s * s - t) = y3 at *
    generalize x * (r * s) = y4 at *
    omega
theorem lin_sq (f : Nat → Int) (M S : Int) : ∀ u : Nat, sumN (fun v => (f v * M - S) * (f v * M - S)) u = M * M * sumN (fun v => f v * f v) u - 2 * (M * S) * sumN f u + (u : Int) * (S * S)
  | 0 => by simp [sumN]
  | u + 1 => by
    show sumN (fun v => (f v * M - S) * (f v * M - S)) u + (f u * M - S) * (f u * M - S) = M * M * (sumN (fun v => f v * f v) u + f u * f u) - 2 * (M * S) * (sumN f u + f u) + ((u + 1 : Nat) : Int) * (S * S)
    rw [lin_sq f M S u, Int.natCast_add]
    grind
theorem apR_sum (M S : Int) (f : Nat → Int) : ∀ u, (apR M S f u : Int) = sumN (fun v => ((f v * M - S).natAbs : Int)) u
  | 0 => rfl
  | u + 1 => by
    show ((apR M S f u + (f u * M - S).natAbs : Nat) : Int) = sumN _ u + ((f u * M - S).natAbs : Int)
    rw [Int.natCast_add, apR_sum M S f u]
theorem apA_sum (M S : Int) (n : Nat) (zs : Nat → Nat → Int) (z : Nat → Int) : ∀ R, (apA M S n zs z R : Int) = sumN (fun i => (apR M S (ldF (zs i) z n) M.toNat : Int)) R
  | 0 => rfl
  | R + 1 => by
    show ((apA M S n zs z R + apR M S (ldF (zs R) z n) M.toNat : Nat) : Int) = sumN _ R + (apR M S (ldF (zs R) z n) M.toNat : Int)
    rw [Int.natCast_add, apA_sum M S n zs z R]
theorem leftover {zs : Nat → Nat → Int} {z : Nat → Int} {R n m S : Nat} (hb : ∀ i, i < R → ∀ x, x < n → 0 ≤ zs i x ∧ zs i x < (m : Int)) (hz : ∀ i, i < n → 0 ≤ z i) (hS : sumN z n = (S : Int)) (hu : ∀ x y, x < y → y < n → (togN zs x y R : Int) * (m : Int) ≤ (R : Int)) :
    (apA (m : Int) (S : Int) n zs z R : Int) * (apA (m : Int) (S : Int) n zs z R : Int) ≤ (R : Int) * (R : Int) * ((m : Int) * (m : Int) * (m : Int)) * sqI z n := by
  have h1 := cauchyR (fun i => (apR (m : Int) (S : Int) (ldF (zs i) z n) m : Int)) R
  have h2 : ∀ i, i < R → (apR (m : Int) (S : Int) (ldF (zs i) z n) m : Int) * (apR (m : Int) (S : Int) (ldF (zs i) z n) m : Int) ≤ (m : Int) * ((m : Int) * (m : Int) * sqV (zs i) z m n - (m : Int) * ((S : Int) * (S : Int))) := fun i hi => by
    have h3 := cauchyR (fun v => ((ldF (zs i) z n v * (m : Int) - (S : Int)).natAbs : Int)) m
    rw [← apR_sum] at h3
    have e1 : sumN (fun v => ((ldF (zs i) z n v * (m : Int) - (S : Int)).natAbs : Int) * ((ldF (zs i) z n v * (m : Int) - (S : Int)).natAbs : Int)) m = sumN (fun v => (ldF (zs i) z n v * (m : Int) - (S : Int)) * (ldF (zs i) z n v * (m : Int) - (S : Int))) m := sumN_congr fun v _ => Int.natAbs_mul_self' _
    rw [e1, lin_sq, ld_all (z := z) (hb i hi) n (Nat.le_refl _), hS] at h3
    have e2 : (m : Int) * (m : Int) * sumN (fun v => ldF (zs i) z n v * ldF (zs i) z n v) m - 2 * ((m : Int) * (S : Int)) * (S : Int) + (m : Int) * ((S : Int) * (S : Int)) = (m : Int) * (m : Int) * sqV (zs i) z m n - (m : Int) * ((S : Int) * (S : Int)) := by
      show _ = (m : Int) * (m : Int) * sumN (fun v => ldF (zs i) z n v * ldF (zs i) z n v) m - _
      grind
    rw [e2] at h3
    exact h3
  have h3 : sumN (fun i => (apR (m : Int) (S : Int) (ldF (zs i) z n) m : Int) * (apR (m : Int) (S : Int) (ldF (zs i) z n) m : Int)) R ≤ sumN (fun i => (m : Int) * ((m : Int) * (m : Int) * sqV (zs i) z m n - (m : Int) * ((S : Int) * (S : Int)))) R := sumN_le h2
  have e3 : sumN (fun i => (m : Int) * ((m : Int) * (m : Int) * sqV (zs i) z m n - (m : Int) * ((S : Int) * (S : Int)))) R = (m : Int) * ((m : Int) * (m : Int) * sumN (fun i => sqV (zs i) z m n) R - (R : Int) * ((m : Int) * ((S : Int) * (S : Int)))) := by
    rw [sumN_timesR]
    have : sumN (fun i => (m : Int) * (m : Int) * sqV (zs i) z m n - (m : Int) * ((S : Int) * (S : Int))) R = sumN (fun i => (m : Int) * (m : Int) * sqV (zs i) z m n + -((m : Int) * ((S : Int) * (S : Int)))) R := sumN_congr fun i _ => Int.sub_eq_add_neg
    rw [this, sumN_plusR, sumN_timesR, sumN_constR, Int.mul_neg, Int.sub_eq_add_neg]
  rw [e3] at h3
  have h4 := leftover_sq hb hz hu n (Nat.le_refl _)
  rw [hS] at h4
  have h5 : (apA (m : Int) (S : Int) n zs z R : Int) = sumN (fun i => (apR (m : Int) (S : Int) (ldF (zs i) z n) m : Int)) R := apA_sum (m : Int) (S : Int) n zs z R
  rw [h5]
  have h6 := sqI_nn z n
  have hr : 0 ≤ (R : Int) := by omega
  have hm : 0 ≤ (m : Int) := by omega
  generalize sumN (fun i => (apR (m : Int) (S : Int) (ldF (zs i) z n) m : Int)) R = X at *
  generalize sumN (fun i => (apR (m : Int) (S : Int) (ldF (zs i) z n) m : Int) * (apR (m : Int) (S : Int) (ldF (zs i) z n) m : Int)) R = Y at *
  generalize sumN (fun i => sqV (zs i) z m n) R = L at *
  generalize sqI z n = T at *
  generalize (R : Int) = r at *
  generalize (m : Int) = M at *
  generalize (S : Int) = s at *
  clear h5 e3 h2 hS hu hb hz
  have a1 : r * Y ≤ r * (M * (M * M * L - r * (M * (s * s)))) := Int.mul_le_mul_of_nonneg_left h3 hr
  have a2 : r * (M * (M * M * L - r * (M * (s * s)))) = r * (M * M) * (M * L) - r * (M * M) * (r * (s * s)) := by grind
  have hrm : 0 ≤ r * (M * M) := Int.mul_nonneg hr (Int.mul_nonneg hm hm)
  have a3 : r * (M * M) * (M * L) ≤ r * (M * M) * (M * (r * T) + r * (s * s - T)) := Int.mul_le_mul_of_nonneg_left h4 hrm
  have a4 : r * (M * M) * (M * (r * T) + r * (s * s - T)) = r * r * (M * M * M) * T + r * (M * M) * (r * (s * s)) - r * (M * M) * (r * T) := by grind
  have a5 : 0 ≤ r * (M * M) * (r * T) := Int.mul_nonneg hrm (Int.mul_nonneg hr h6)
  generalize r * (M * M) * (r * T) = y1 at *
  generalize r * (M * M) * (r * (s * s)) = y2 at *
  generalize r * (M * M) * (M * L) = y3 at *
  generalize r * r * (M * M * M) * T = y4 at *
  omega
end Go.Proofs.YtiegobkbinojeaaDoor
