/- Digits to the base 2. Plain lists. -/
namespace Go.Proofs.YtgfejijaipggeaaDoor

/-- So many digits of a number to the base 2, the last ones. -/
def bitsL (m : Nat) : Nat → List UInt8
  | 0 => []
  | d + 1 => bitsL (m / 2) d ++ [UInt8.ofNat (48 + m % 2)]
theorem bitsL_length (m : Nat) : ∀ d, (bitsL m d).length = d
  | 0 => rfl
  | d + 1 => by simp [bitsL, bitsL_length (m / 2) d]
theorem bitsL_zero : ∀ d, bitsL 0 d = List.replicate d 48
  | 0 => rfl
  | d + 1 => by
    have h := bitsL_zero d
    rw [bitsL, show 0 / 2 = 0 by decide, h, List.replicate_succ']
    rfl
/-- A number of k digits has zeros ahead. -/
theorem bitsL_more : ∀ (k : Nat) (m d : Nat), m < 2 ^ k → bitsL m (d + k) = List.replicate d 48 ++ bitsL m k
  | 0, m, d, h => by
    obtain rfl : m = 0 := by simpa using h
    simp [bitsL, bitsL_zero]
  | k + 1, m, d, h => by
    rw [show d + (k + 1) = d + k + 1 by omega, bitsL, bitsL, bitsL_more k (m / 2) d (by rw [Nat.pow_succ] at h; omega), List.append_assoc]
/-- What the document writes letter by letter. -/
theorem bitsL_next (x d : Nat) (hd : d < 40) : bitsL (x / 2 ^ (40 - d)) d ++ [UInt8.ofNat (48 + x / 2 ^ (40 - (d + 1)) % 2)] = bitsL (x / 2 ^ (40 - (d + 1))) (d + 1) := by
  rw [bitsL, Nat.div_div_eq_div_mul, ← Nat.pow_succ, show (40 - (d + 1)).succ = 40 - d by omega]
theorem bitsL_inj : ∀ {d a b : Nat}, a < 2 ^ d → b < 2 ^ d → bitsL a d = bitsL b d → a = b
  | 0, a, b, ha, hb, _ => by simp at ha hb; omega
  | d + 1, a, b, ha, hb, h => by
    rw [bitsL, bitsL] at h
    have h1 := List.append_inj_left' h rfl
    have h2 := List.append_inj_right' h rfl
    have h3 := bitsL_inj (by rw [Nat.pow_succ] at ha; omega) (by rw [Nat.pow_succ] at hb; omega) h1
    have h4 : a % 2 = b % 2 := by
      have h5 := congrArg UInt8.toNat (List.cons.inj h2).1
      rcases Nat.mod_two_eq_zero_or_one a with ha | ha <;> rcases Nat.mod_two_eq_zero_or_one b with hb | hb <;> simp [ha, hb] at h5 ⊢
    omega
/-- The first digits. -/
theorem bitsL_take : ∀ (e m d : Nat), (bitsL m (d + e)).take d = bitsL (m / 2 ^ e) d
  | 0, m, d => by rw [Nat.add_zero, Nat.pow_zero, Nat.div_one, List.take_of_length_le (by rw [bitsL_length]; omega)]
  | e + 1, m, d => by
    rw [show d + (e + 1) = d + e + 1 by omega, bitsL, List.take_append_of_le_length (by rw [bitsL_length]; omega), bitsL_take e (m / 2) d, Nat.div_div_eq_div_mul, Nat.pow_succ, Nat.mul_comm]
theorem bitsL_front : ∀ (k m : Nat), bitsL m (k + 1) = UInt8.ofNat (48 + m / 2 ^ k % 2) :: bitsL m k
  | 0, m => by simp [bitsL]
  | k + 1, m => by
    rw [bitsL, bitsL_front k (m / 2), Nat.div_div_eq_div_mul, show 2 * 2 ^ k = 2 ^ (k + 1) by rw [Nat.pow_succ, Nat.mul_comm]]
    rfl
theorem bitsL_mem : ∀ {d m : Nat} {c : UInt8}, c ∈ bitsL m d → c = 48 ∨ c = 49
  | 0, _, _, h => by simp [bitsL] at h
  | d + 1, m, c, h => by
    simp only [bitsL, List.mem_append, List.mem_singleton] at h
    rcases h with h | h
    · exact bitsL_mem h
    · rcases Nat.mod_two_eq_zero_or_one m with hm | hm <;> simp [hm] at h
      · exact Or.inl h
      · exact Or.inr h
end Go.Proofs.YtgfejijaipggeaaDoor
