/- Guesses: the greatest of each column, and how much of all they are. -/
import Derived.Test.YtnihclkaaglnjaaDoorCnMath
namespace Go.Proofs.YtnihclkaaglnjaaDoor

def mxN (Z : Nat → Nat → Nat) (k : Nat) : Nat → Nat
  | 0 => 0
  | i + 1 => if mxN Z k i < Z i k then Z i k else mxN Z k i
def lkN (Z : Nat → Nat → Nat) (k : Nat) : Nat → Int
  | 0 => -1
  | i + 1 => if mxN Z k i < Z i k then (i : Int) else lkN Z k i
def colN (Z : Nat → Nat → Nat) (R k : Nat) : Nat := sumW (fun i => Z i k) R
def allN (Z : Nat → Nat → Nat) (R k : Nat) : Nat := sumW (colN Z R) k
def rightN (Z : Nat → Nat → Nat) (R k : Nat) : Nat := sumW (fun c => mxN Z c R) k
theorem mxN_le (Z : Nat → Nat → Nat) (k : Nat) : ∀ R, mxN Z k R ≤ colN Z R k
  | 0 => Nat.le_refl _
  | R + 1 => by
    have h := mxN_le Z k R
    show (if mxN Z k R < Z R k then Z R k else mxN Z k R) ≤ colN Z R k + Z R k
    split <;> omega
theorem lkN_ge (Z : Nat → Nat → Nat) (k : Nat) : ∀ R, -1 ≤ lkN Z k R ∧ lkN Z k R ≤ (R : Int)
  | 0 => ⟨by simp [lkN], by simp [lkN]⟩
  | R + 1 => by
    have h := lkN_ge Z k R
    show -1 ≤ (if mxN Z k R < Z R k then (R : Int) else lkN Z k R) ∧ (if mxN Z k R < Z R k then (R : Int) else lkN Z k R) ≤ _
    split <;> (constructor <;> omega)
theorem sumW_mono {f g : Nat → Nat} : ∀ {n : Nat}, (∀ i, i < n → f i ≤ g i) → sumW f n ≤ sumW g n
  | 0, _ => Nat.le_refl _
  | n + 1, h => by
    have h1 := sumW_mono (n := n) fun i hi => h i (by omega)
    have h2 := h n (by omega)
    show sumW f n + f n ≤ sumW g n + g n
    omega
theorem sumW_le {f : Nat → Nat} {k : Nat} : ∀ {n : Nat}, k ≤ n → sumW f k ≤ sumW f n
  | 0, h => by obtain rfl : k = 0 := by omega
               exact Nat.le_refl _
  | n + 1, h => by
    rcases Nat.lt_or_ge k (n + 1) with h1 | h1
    · have := sumW_le (f := f) (k := k) (n := n) (by omega)
      show _ ≤ sumW f n + f n
      omega
    · obtain rfl : k = n + 1 := by omega
      exact Nat.le_refl _
theorem rightN_le (Z : Nat → Nat → Nat) (R k : Nat) : rightN Z R k ≤ allN Z R k := sumW_mono fun c _ => mxN_le Z c R
theorem sumW_add (f g : Nat → Nat) : ∀ n, sumW (fun k => f k + g k) n = sumW f n + sumW g n
  | 0 => rfl
  | n + 1 => by
    have := sumW_add f g n
    show sumW (fun k => f k + g k) n + (f n + g n) = sumW f n + f n + (sumW g n + g n)
    omega
theorem sumW_zero : ∀ n, sumW (fun _ => 0) n = 0
  | 0 => rfl
  | n + 1 => by show sumW (fun _ => 0) n + 0 = 0; rw [sumW_zero n]
theorem sumW_swap (Z : Nat → Nat → Nat) (R : Nat) : ∀ C, sumW (fun k => sumW (fun i => Z i k) R) C = sumW (fun i => sumW (Z i) C) R
  | 0 => by show 0 = sumW (fun _ => 0) R; rw [sumW_zero]
  | C + 1 => by
    have h := sumW_swap Z R C
    show sumW (fun k => sumW (fun i => Z i k) R) C + sumW (fun i => Z i C) R = sumW (fun i => sumW (Z i) C + Z i C) R
    rw [h, sumW_add]
theorem allN_whole (L C : Nat) (f : Nat → Nat → Nat × Nat) (R : Nat) : allN (fun i k => wholeP L (f i k)) R C = sumP L (flatF C f R) := by
  rw [sumP_flat]
  exact sumW_swap _ R C
theorem lowP_whole {L : Nat} {p : Nat × Nat} (hp : LowP p) (hd : p.2 ∣ L) (hL : 0 < L) : lowP (wholeP L p) L = p := by
  obtain ⟨e, he⟩ := hd
  have he0 : 0 < e := by
    rcases Nat.eq_zero_or_pos e with h | h
    · rw [h, Nat.mul_zero] at he; omega
    · exact h
  have h1 : wholeP L p = e * p.1 := by unfold wholeP; rw [he, Nat.mul_div_cancel_left _ hp.1, Nat.mul_comm]
  rw [h1, he, Nat.mul_comm p.2 e, lowP_scale he0]
  unfold lowP
  rw [hp.2, Nat.div_one, Nat.div_one]
theorem lowP_lt {x m L : Nat} (hL : 0 < L) : (lowP m L).1 * (lowP x L).2 < (lowP x L).1 * (lowP m L).2 ↔ m < x := by
  have h1 := lowP_cross x L
  have h2 := lowP_cross m L
  have p1 := (lowP_low (a := x) hL).1
  have p2 := (lowP_low (a := m) hL).1
  generalize (lowP x L).1 = a at *
  generalize (lowP x L).2 = b at *
  generalize (lowP m L).1 = c at *
  generalize (lowP m L).2 = d at *
  have e1 : c * b * L = m * (d * b) := by rw [Nat.mul_right_comm, h2, Nat.mul_assoc]
  have e2 : a * d * L = x * (d * b) := by rw [Nat.mul_right_comm, h1, Nat.mul_assoc, Nat.mul_comm b d]
  have hdb : 0 < d * b := Nat.mul_pos p2 p1
  constructor
  · intro h
    have h3 : c * b * L < a * d * L := Nat.mul_lt_mul_of_pos_right h hL
    rw [e1, e2] at h3
    exact Nat.lt_of_mul_lt_mul_right h3
  · intro h
    have h3 : m * (d * b) < x * (d * b) := Nat.mul_lt_mul_of_pos_right h hdb
    rw [← e1, ← e2] at h3
    exact Nat.lt_of_mul_lt_mul_right h3
theorem lowP_le_cross {x y L : Nat} (hL : 0 < L) (h : y ≤ x) : (lowP y L).1 * (lowP x L).2 ≤ (lowP x L).1 * (lowP y L).2 := by
  rcases Nat.lt_or_ge y x with h1 | h1
  · exact Nat.le_of_lt ((lowP_lt hL).2 h1)
  · obtain rfl : x = y := by omega
    exact Nat.le_refl _
theorem lowP_sub {x y L : Nat} (hL : 0 < L) : lowP ((lowP x L).1 * (lowP y L).2 - (lowP y L).1 * (lowP x L).2) ((lowP x L).2 * (lowP y L).2) = lowP (x - y) L := by
  have g1 : 0 < Nat.gcd x L := Nat.gcd_pos_of_pos_right _ hL
  have g2 : 0 < Nat.gcd y L := Nat.gcd_pos_of_pos_right _ hL
  have e1 : Nat.gcd x L * (lowP x L).1 = x := Nat.mul_div_cancel' (Nat.gcd_dvd_left x L)
  have e2 : Nat.gcd x L * (lowP x L).2 = L := Nat.mul_div_cancel' (Nat.gcd_dvd_right x L)
  have e3 : Nat.gcd y L * (lowP y L).1 = y := Nat.mul_div_cancel' (Nat.gcd_dvd_left y L)
  have e4 : Nat.gcd y L * (lowP y L).2 = L := Nat.mul_div_cancel' (Nat.gcd_dvd_right y L)
  rw [← lowP_scale (c := Nat.gcd x L * Nat.gcd y L) (Nat.mul_pos g1 g2), ← lowP_scale (a := x - y) (b := L) hL]
  congr 1
  · rw [Nat.mul_sub, Nat.mul_sub, Nat.mul_mul_mul_comm, e1, e4, Nat.mul_comm (lowP y L).1, Nat.mul_mul_mul_comm, e2, e3, Nat.mul_comm x L]
  · rw [Nat.mul_mul_mul_comm, e2, e4]
end Go.Proofs.YtnihclkaaglnjaaDoor
