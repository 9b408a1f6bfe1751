/- PINSKER's inequality of two chances, of whole numbers whose sums are at most 60. -/
import Derived.Test.YtofflboheiflaaaGreatDoorTwoMath
namespace Go.Proofs.YtofflboheiflaaaGreatDoor
def allB (f : Nat → Bool) : Nat → Bool
  | 0 => true
  | n + 1 => f n && allB f n
theorem allB_get {f : Nat → Bool} : ∀ {n : Nat}, allB f n = true → ∀ i, i < n → f i = true
  | 0, _, i, h => by omega
  | n + 1, h, i, hi => by
    unfold allB at h
    rw [Bool.and_eq_true] at h
    rcases Nat.lt_or_ge i n with h1 | h1
    · exact allB_get h.2 i h1
    · obtain rfl : i = n := by omega
      exact h.1
/-- Roots: how far 2 chances may be for so many grains, in parts of 65536. -/
def wn (n : Nat) : Nat := [0, 6820, 9645, 11813, 13640, 15250, 16706, 18044, 19290, 20460, 21567, 22620, 23626, 24590, 25519, 26414, 27281, 28120, 28936, 29728, 30501, 31254, 31989, 32708, 33412, 34101, 34776, 35439, 36089, 36728, 37356, 37973, 38581, 39179, 39768, 40349, 40921, 41486, 42043, 42592, 43135, 43671, 44200, 44723, 45240, 45751, 46257, 46757, 47252, 47742, 48226, 48706, 49181, 49652, 50118, 50580, 51038, 51492, 51941, 52387, 52829, 53268, 53702, 54134, 54562, 54986, 55408, 55826, 56241, 56653, 57062, 57468, 57872, 58272, 58670, 59065, 59457, 59847, 60235, 60620, 61002, 61382, 61760, 62135, 62508, 62879, 63248, 63615, 63979, 64342, 64702, 65061, 65417].getD n 0
def rn (P a n : Nat) : Nat := (a * 65536 + P - 1) / P - wn n
def pinB (P a n : Nat) : Bool := (rn P a n == 0) || Nat.ble (2 ^ (n * P) * (P ^ P * (rn P a n ^ a * (65536 - rn P a n) ^ (P - a))) ^ 32) ((65536 ^ P * (a ^ a * (P - a) ^ (P - a))) ^ 32)
theorem wn_all : allB (fun n => Nat.ble (640000000 * (wn (n + 1) * wn (n + 1))) (6931472 * (n + 1) * (65536 * 65536)) && Nat.ble 1 (wn (n + 1))) 92 = true := by decide +kernel
theorem pin_table : allB (fun P => allB (fun a => allB (fun n => pinB (P + 1) (a + 1) (n + 1)) 92) (P + 1)) 60 = true := by decide +kernel
theorem pow_mono {A a b Q r s : Nat} (hr : 0 < r) (hs : r < s) (hb : b ≤ Q) (h1 : b * s ≤ r * Q) (h2 : r * (A + a) ≤ A * s) : b ^ A * (Q - b) ^ a * s ^ (A + a) ≤ r ^ A * (s - r) ^ a * Q ^ (A + a) := by
  have h := two_le A (b * (s - r)) ((Q - b) * r) a
  have hm : s * (A * (b * (s - r)) + a * ((Q - b) * r)) ≤ (A + a) * (Q * (r * (s - r))) := by
    obtain ⟨u, rfl⟩ : ∃ u, s = r + u := ⟨s - r, by omega⟩
    obtain ⟨c, rfl⟩ : ∃ c, Q = b + c := ⟨Q - b, by omega⟩
    rw [Nat.add_sub_cancel_left, Nat.add_sub_cancel_left]
    obtain ⟨x, hx⟩ : ∃ x, r * (b + c) = b * (r + u) + x := ⟨r * (b + c) - b * (r + u), by omega⟩
    obtain ⟨y, hy⟩ : ∃ y, A * (r + u) = r * (A + a) + y := ⟨A * (r + u) - r * (A + a), by omega⟩
    have e : (A + a) * ((b + c) * (r * u)) = (r + u) * (A * (b * u) + a * (c * r)) + x * y := by
      apply Int.ofNat_inj.1
      have hx' : (r : Int) * (b + c) = b * (r + u) + x := by exact_mod_cast hx
      have hy' : (A : Int) * (r + u) = r * (A + a) + y := by exact_mod_cast hy
      push_cast
      have ex : (x : Int) = r * (b + c) - b * (r + u) := by omega
      have ey : (y : Int) = A * (r + u) - r * (A + a) := by omega
      rw [ex, ey]
      grind
    omega
  have h3 := Nat.pow_le_pow_left hm (A + a)
  rw [Nat.mul_pow, Nat.mul_pow, Nat.mul_pow, Nat.mul_pow] at h3
  rw [Nat.mul_pow, Nat.mul_pow] at h
  have e2 : r ^ (A + a) = r ^ A * r ^ a := Nat.pow_add ..
  have e3 : (s - r) ^ (A + a) = (s - r) ^ A * (s - r) ^ a := Nat.pow_add ..
  rw [e2, e3] at h3
  have hN := self_pos (A + a)
  have hk : 0 < (A + a) ^ (A + a) * (r ^ a * (s - r) ^ A) := Nat.mul_pos hN (Nat.mul_pos (Nat.pow_pos hr) (Nat.pow_pos (by omega)))
  refine Nat.le_of_mul_le_mul_right ?_ hk
  have h4 := Nat.mul_le_mul_left (s ^ (A + a)) h
  generalize (A + a) ^ (A + a) = t1 at *
  generalize s ^ (A + a) = t2 at *
  generalize Q ^ (A + a) = t3 at *
  generalize (A * (b * (s - r)) + a * ((Q - b) * r)) ^ (A + a) = t4 at *
  generalize b ^ A = t5 at *
  generalize (s - r) ^ A = t6 at *
  generalize (Q - b) ^ a = t7 at *
  generalize r ^ a = t8 at *
  generalize r ^ A = t9 at *
  generalize (s - r) ^ a = t10 at *
  have h5 := Nat.le_trans h4 h3
  have e5 : t5 * t7 * t2 * (t1 * (t8 * t6)) = t2 * (t1 * (t5 * t6 * (t7 * t8))) := by grind
  have e6 : t9 * t10 * t3 * (t1 * (t8 * t6)) = t1 * (t3 * (t9 * t8 * (t6 * t10))) := by grind
  rw [e5, e6]
  exact h5
set_option maxRecDepth 100000 in
/-- PINSKER of two chances. -/
theorem pin_two {P Q a b n : Nat} (hP : 1 ≤ P ∧ P ≤ 60) (hQ : 1 ≤ Q) (ha : a ≤ P) (hb : b ≤ Q) (hb0 : 0 < b) (hlt : b * P < a * Q) (hn : 6931472 * n * (P * P * (Q * Q)) ≤ 640000000 * ((a * Q - b * P) * (a * Q - b * P))) :
    2 ^ (n * P) * (P ^ P * (b ^ a * (Q - b) ^ (P - a))) ^ 32 ≤ (Q ^ P * (a ^ a * (P - a) ^ (P - a))) ^ 32 := by
  have ha0 : 0 < a := by
    rcases Nat.eq_zero_or_pos a with h | h
    · subst h; omega
    · exact h
  rcases Nat.eq_zero_or_pos n with h0 | h0
  · subst h0
    have h := sum2_le a (P - a) b (Q - b)
    rw [show a + (P - a) = P by omega, show b + (Q - b) = Q by omega] at h
    rw [Nat.zero_mul, Nat.pow_zero, Nat.one_mul]
    exact Nat.pow_le_pow_left h 32
  obtain ⟨t, ht⟩ : ∃ t, t = a * Q - b * P := ⟨_, rfl⟩
  rw [← ht] at hn
  have htl : t ≤ P * Q := by
    have : a * Q ≤ P * Q := Nat.mul_le_mul_right _ ha
    omega
  have hPQ : 0 < P * Q := Nat.mul_pos (by omega) (by omega)
  have hn92 : n ≤ 92 := by
    have h1 : t * t ≤ (P * Q) * (P * Q) := Nat.mul_le_mul htl htl
    have e : P * P * (Q * Q) = (P * Q) * (P * Q) := by grind
    rw [e] at hn
    have h2 : 0 < (P * Q) * (P * Q) := Nat.mul_pos hPQ hPQ
    have h3 : 6931472 * n * ((P * Q) * (P * Q)) ≤ 640000000 * ((P * Q) * (P * Q)) := Nat.le_trans hn (Nat.mul_le_mul_left _ h1)
    have h4 := Nat.le_of_mul_le_mul_right h3 h2
    omega
  have hw := allB_get wn_all (n - 1) (by omega)
  have hpt := allB_get (allB_get (allB_get pin_table (P - 1) (by omega)) (a - 1) (by omega)) (n - 1) (by omega)
  rw [show n - 1 + 1 = n by omega, Bool.and_eq_true] at hw
  rw [show P - 1 + 1 = P by omega, show a - 1 + 1 = a by omega, show n - 1 + 1 = n by omega] at hpt
  have hw1 := Nat.le_of_ble_eq_true hw.1
  have hw2 := Nat.le_of_ble_eq_true hw.2
  obtain ⟨W, hW⟩ : ∃ W, W = wn n := ⟨_, rfl⟩
  obtain ⟨C, hC⟩ : ∃ C, C = (a * 65536 + P - 1) / P := ⟨_, rfl⟩
  obtain ⟨r, hr⟩ : ∃ r, r = rn P a n := ⟨_, rfl⟩
  have hrC : r = C - W := by rw [hr, hC, hW]; rfl
  unfold pinB at hpt
  rw [← hr] at hpt
  rw [← hW] at hw1 hw2
  have hC1 : P * C ≤ a * 65536 + P - 1 := by rw [hC]; exact Nat.mul_div_le _ _
  have hC2 : a * 65536 ≤ P * C := by
    have := Nat.lt_mul_div_succ (a * 65536 + P - 1) (show 0 < P by omega)
    rw [← hC, Nat.mul_add, Nat.mul_one] at this
    omega
  have hsq : (W * (P * Q)) * (W * (P * Q)) ≤ (t * 65536) * (t * 65536) := by
    have g1 := Nat.mul_le_mul_right ((P * Q) * (P * Q)) hw1
    have g2 := Nat.mul_le_mul_right (65536 * 65536) hn
    have e1 : P * P * (Q * Q) = (P * Q) * (P * Q) := by grind
    rw [e1] at g2
    refine Nat.le_of_mul_le_mul_left (c := 640000000) ?_ (by decide)
    generalize P * Q = z at *
    have k1 : 640000000 * (W * z * (W * z)) = 640000000 * (W * W) * (z * z) := by grind
    have k2 : 640000000 * (t * 65536 * (t * 65536)) = 640000000 * (t * t) * (65536 * 65536) := by grind
    have k3 : 6931472 * n * (65536 * 65536) * (z * z) = 6931472 * n * (z * z) * (65536 * 65536) := by grind
    rw [k1, k2]
    rw [k3] at g1
    exact Nat.le_trans g1 g2
  have hroot : W * (P * Q) ≤ t * 65536 := by
    rcases Nat.lt_or_ge (t * 65536) (W * (P * Q)) with h | h
    · have := Nat.mul_lt_mul'' h h
      omega
    · exact h
  have hA : b * 65536 * P + W * Q * P ≤ a * 65536 * Q := by
    have e1 : W * (P * Q) = W * Q * P := by grind
    have e2 : t * 65536 + b * 65536 * P = a * 65536 * Q := by
      have h7 : t + b * P = a * Q := by omega
      generalize 65536 = s
      have h8 := congrArg (· * s) h7
      rw [Nat.add_mul] at h8
      have k1 : b * P * s = b * s * P := by grind
      have k2 : a * Q * s = a * s * Q := by grind
      omega
    omega
  have hB : b * 65536 * P + W * Q * P ≤ C * Q * P := by
    have := Nat.mul_le_mul_right Q hC2
    have e1 : P * C * Q = C * Q * P := by grind
    omega
  have hD : b * 65536 + W * Q ≤ C * Q := by
    refine Nat.le_of_mul_le_mul_right (c := P) ?_ (by omega)
    rw [Nat.add_mul]
    exact hB
  have hWC : W < C := by
    rcases Nat.lt_or_ge W C with h | h
    · exact h
    · have := Nat.mul_le_mul_right Q h
      omega
  have hbr : b * 65536 ≤ r * Q := by
    rw [hrC, Nat.sub_mul]
    exact Nat.le_sub_of_add_le hD
  have hr0 : 0 < r := by rw [hrC]; exact Nat.sub_pos_of_lt hWC
  have hrP : r * P ≤ a * 65536 := by
    have : P ≤ W * P := Nat.le_mul_of_pos_left _ hw2
    have e1 : C * P = P * C := Nat.mul_comm ..
    rw [hrC, Nat.sub_mul]
    omega
  have hrs : r < 65536 := by
    have h1 : a * 65536 ≤ P * 65536 := Nat.mul_le_mul_right _ ha
    have h3 : C ≤ 65536 := by
      rcases Nat.lt_or_ge 65536 C with h | h
      · have h4 : P * 65536 + P ≤ P * C := by
          have := Nat.mul_le_mul_left P (Nat.succ_le_of_lt h)
          rwa [Nat.mul_succ] at this
        have h5 : P * 65536 + P ≤ P * 65536 + P - 1 := Nat.le_trans h4 (Nat.le_trans hC1 (Nat.sub_le_sub_right (Nat.add_le_add_right h1 P) 1))
        omega
      · exact h
    rw [hrC]
    exact Nat.lt_of_lt_of_le (Nat.sub_lt (Nat.lt_of_le_of_lt (Nat.zero_le _) hWC) hw2) h3
  have hmono := pow_mono (A := a) (a := P - a) (b := b) (Q := Q) (r := r) (s := 65536) hr0 hrs hb hbr (by rw [show a + (P - a) = P by omega]; exact hrP)
  rw [show a + (P - a) = P by omega] at hmono
  rw [Bool.or_eq_true] at hpt
  have hpt2 : 2 ^ (n * P) * (P ^ P * (r ^ a * (65536 - r) ^ (P - a))) ^ 32 ≤ (65536 ^ P * (a ^ a * (P - a) ^ (P - a))) ^ 32 := by
    rcases hpt with h | h
    · have := of_decide_eq_true h
      omega
    · exact Nat.le_of_ble_eq_true h
  have h32 := Nat.pow_le_pow_left hmono 32
  rw [Nat.mul_pow (b ^ a * (Q - b) ^ (P - a)), Nat.mul_pow (r ^ a * (65536 - r) ^ (P - a))] at h32
  rw [Nat.mul_pow, Nat.mul_pow (65536 ^ P)] at hpt2
  rw [Nat.mul_pow, Nat.mul_pow (Q ^ P)]
  refine Nat.le_of_mul_le_mul_right (c := (65536 ^ P) ^ 32) ?_ (Nat.pow_pos (Nat.pow_pos (by decide)))
  have g1 := Nat.mul_le_mul_left (2 ^ (n * P) * (P ^ P) ^ 32) h32
  have g2 := Nat.mul_le_mul_right ((Q ^ P) ^ 32) hpt2
  generalize 2 ^ (n * P) = u1 at *
  generalize (P ^ P) ^ 32 = u2 at *
  generalize (b ^ a * (Q - b) ^ (P - a)) ^ 32 = u3 at *
  generalize (Q ^ P) ^ 32 = u4 at *
  generalize (a ^ a * (P - a) ^ (P - a)) ^ 32 = u5 at *
  generalize (65536 ^ P) ^ 32 = u6 at *
  generalize (r ^ a * (65536 - r) ^ (P - a)) ^ 32 = u7 at *
  have k1 : u1 * (u2 * u3) * u6 = u1 * u2 * (u3 * u6) := by grind
  have k2 : u1 * (u2 * u7) * u4 = u1 * u2 * (u7 * u4) := by grind
  have k3 : u6 * u5 * u4 = u4 * u5 * u6 := by grind
  rw [k1]
  rw [k2, k3] at g2
  exact Nat.le_trans g1 g2
end Go.Proofs.YtofflboheiflaaaGreatDoor
