/- The words of a number that is put together bit by bit. -/
import Derived.Test.YtncgpldfenkiiaaGreatDoorWordMath
namespace Go.Proofs.YtncgpldfenkiiaaGreatDoor

def wordAt (V q : Nat) : Nat := V / 18446744073709551616 ^ q % 18446744073709551616
theorem word_two (q : Nat) : 18446744073709551616 ^ q = 2 ^ (64 * q) := by rw [show 18446744073709551616 = 2 ^ 64 by decide, ← Nat.pow_mul]
theorem wv_of_words : ∀ (l : List Nat) (V : Nat), (∀ q, q < l.length → l.getD q 0 = wordAt V q) → wv l = V % 18446744073709551616 ^ l.length
  | [], V, _ => by simp [wv, Nat.mod_one]
  | d :: r, V, h => by
    have h0 := h 0 (by simp)
    have hr := wv_of_words r (V / 18446744073709551616) (fun q hq => by
      have h1 := h (q + 1) (by simp; omega)
      have e1 : (d :: r).getD (q + 1) 0 = r.getD q 0 := by simp
      rw [e1] at h1
      rw [h1]
      unfold wordAt
      rw [Nat.div_div_eq_div_mul, Nat.pow_succ, Nat.mul_comm (18446744073709551616 ^ q)])
    have e0 : (d :: r).getD 0 0 = d := rfl
    rw [e0] at h0
    show d + 18446744073709551616 * wv r = _
    rw [hr, h0, List.length_cons, Nat.pow_succ, Nat.mul_comm (18446744073709551616 ^ r.length), Nat.mod_mul]
    unfold wordAt
    rw [Nat.pow_zero, Nat.div_one]
/-- One bit more. -/
theorem word_put {X p : Nat} (q : Nat) : wordAt ((2 * X + 1) * 2 ^ p) q = if q = p / 64 then wordAt (2 * X * 2 ^ p) q ||| 2 ^ (p % 64) else wordAt (2 * X * 2 ^ p) q := by
  unfold wordAt
  rw [word_two]
  have hp := Nat.div_add_mod p 64
  have hr : p % 64 < 64 := Nat.mod_lt _ (by decide)
  generalize p / 64 = a at *
  generalize p % 64 = r at *
  subst hp
  rcases Nat.lt_trichotomy q a with h | h | h
  · rw [if_neg (by omega)]
    obtain ⟨e, rfl⟩ : ∃ e, a = q + 1 + e := ⟨a - q - 1, by omega⟩
    have e1 : ∀ Y : Nat, Y * 2 ^ (64 * (q + 1 + e) + r) / 2 ^ (64 * q) % 18446744073709551616 = 0 := fun Y => by
      rw [show 64 * (q + 1 + e) + r = 64 * q + (64 + (64 * e + r)) by omega, Nat.pow_add, ← Nat.mul_assoc, Nat.mul_right_comm, Nat.mul_div_cancel _ (Nat.pow_pos (by decide)), Nat.pow_add, show (2 : Nat) ^ 64 = 18446744073709551616 by decide, ← Nat.mul_assoc, Nat.mul_right_comm, Nat.mul_mod_left]
    rw [e1, e1]
  · subst h
    rw [if_pos rfl]
    have e1 : ∀ Y : Nat, Y * 2 ^ (64 * q + r) / 2 ^ (64 * q) = Y * 2 ^ r := fun Y => by
      rw [Nat.pow_add, ← Nat.mul_assoc, Nat.mul_right_comm, Nat.mul_div_cancel _ (Nat.pow_pos (by decide))]
    rw [e1, e1]
    have e2 : (2 * X + 1) * 2 ^ r = X <<< (r + 1) ||| 2 ^ r := by
      rw [← Nat.shiftLeft_add_eq_or_of_lt (Nat.pow_lt_pow_right (by decide) (by omega)), Nat.shiftLeft_eq, Nat.pow_succ, Nat.add_mul, Nat.one_mul]
      rw [Nat.mul_comm (2 ^ r) 2, ← Nat.mul_assoc, Nat.mul_comm X 2]
    have e3 : 2 * X * 2 ^ r = X <<< (r + 1) := by rw [Nat.shiftLeft_eq, Nat.pow_succ, Nat.mul_comm (2 ^ r) 2, ← Nat.mul_assoc, Nat.mul_comm X 2]
    rw [e2, e3, show (18446744073709551616 : Nat) = 2 ^ 64 by decide, Nat.or_mod_two_pow, Nat.mod_eq_of_lt (Nat.pow_lt_pow_right (by decide) hr)]
  · rw [if_neg (by omega)]
    obtain ⟨e, he⟩ : ∃ e, 64 * q = 64 * a + r + (e + 1) := ⟨64 * q - (64 * a + r) - 1, by omega⟩
    have e1 : ∀ Y : Nat, Y * 2 ^ (64 * a + r) / 2 ^ (64 * q) = Y / 2 ^ (e + 1) := fun Y => by
      rw [he, Nat.pow_add 2 (64 * a + r) (e + 1), Nat.mul_comm Y, Nat.mul_div_mul_left _ _ (Nat.pow_pos (by decide))]
    rw [e1, e1, Nat.pow_succ, Nat.mul_comm (2 ^ e) 2, ← Nat.div_div_eq_div_mul, ← Nat.div_div_eq_div_mul, show (2 * X + 1) / 2 = X by omega, show 2 * X / 2 = X by omega]
end Go.Proofs.YtncgpldfenkiiaaGreatDoor
