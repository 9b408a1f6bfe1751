/- 2 to a power against a quotient: plain numbers. -/
import Derived.Test.YtlnhpkmcinohdaaDoorWordsCmp
namespace Go.Proofs.YtlnhpkmcinohdaaDoor

/-- 2 to the power of k is at most a over b. -/
def le2 (k : Int) (a b : Nat) : Prop := b * 2 ^ k.toNat ≤ a * 2 ^ (-k).toNat
theorem le2_iff {k : Int} {a b x y : Nat} (h : (x : Int) - (y : Int) = k) : le2 k a b ↔ b * 2 ^ x ≤ a * 2 ^ y := by
  obtain ⟨s, hx, hy⟩ : ∃ s, x = k.toNat + s ∧ y = (-k).toNat + s := ⟨x - k.toNat, by omega, by omega⟩
  clear h
  subst hx hy
  unfold le2
  rw [Nat.pow_add, Nat.pow_add, ← Nat.mul_assoc, ← Nat.mul_assoc]
  exact ⟨fun h => Nat.mul_le_mul_right _ h, fun h => Nat.le_of_mul_le_mul_right h (Nat.two_pow_pos s)⟩
theorem le2_anti {j k : Int} {a b : Nat} (h : le2 k a b) (hj : j ≤ k) : le2 j a b := by
  rw [le2_iff (x := k.toNat) (y := (-k).toNat + (k - j).toNat) (by omega)]
  unfold le2 at h
  rw [Nat.pow_add, ← Nat.mul_assoc]
  exact Nat.le_trans h (Nat.le_mul_of_pos_right _ (Nat.two_pow_pos _))
theorem le2_low {a b : Nat} (ha : 0 < a) : le2 ((bitLen a : Int) - (bitLen b : Int) - 1) a b := by
  have h0 := bitLen_pos ha
  rw [le2_iff (x := bitLen a - 1) (y := bitLen b) (by omega), Nat.mul_comm a]
  exact Nat.mul_le_mul (Nat.le_of_lt (bitLen_spec b).1) ((bitLen_spec a).2 (by omega))
theorem le2_high {a b : Nat} (hb : 0 < b) : ¬ le2 ((bitLen a : Int) - (bitLen b : Int) + 1) a b := by
  have h0 := bitLen_pos hb
  rw [le2_iff (x := bitLen a) (y := bitLen b - 1) (by omega)]
  have h1 := (bitLen_spec a).1
  have h2 := (bitLen_spec b).2 (by omega)
  have h3 : a * 2 ^ (bitLen b - 1) < 2 ^ bitLen a * 2 ^ (bitLen b - 1) := Nat.mul_lt_mul_of_pos_right h1 (Nat.two_pow_pos _)
  have h4 : 2 ^ bitLen a * 2 ^ (bitLen b - 1) ≤ b * 2 ^ bitLen a := by rw [Nat.mul_comm]; exact Nat.mul_le_mul_right _ h2
  omega
/-- The greatest one. -/
def IsLog (k : Int) (a b : Nat) : Prop := le2 k a b ∧ ¬ le2 (k + 1) a b
theorem isLog_of {a b : Nat} (hb : 0 < b) (h : le2 ((bitLen a : Int) - (bitLen b : Int)) a b) : IsLog ((bitLen a : Int) - (bitLen b : Int)) a b := ⟨h, le2_high hb⟩
theorem isLog_less {a b : Nat} (ha : 0 < a) (h : ¬ le2 ((bitLen a : Int) - (bitLen b : Int)) a b) : IsLog ((bitLen a : Int) - (bitLen b : Int) - 1) a b := ⟨le2_low ha, by rw [show (bitLen a : Int) - (bitLen b : Int) - 1 + 1 = (bitLen a : Int) - (bitLen b : Int) by omega]; exact h⟩
/-- Rounded down behind a division. -/
theorem isLog_floor {k g : Int} {a b : Nat} {d : Int} (hd : 0 < d) (h : IsLog k a b) (hg : g = k / d) : le2 (g * d) a b ∧ ¬ le2 ((g + 1) * d) a b := by
  subst hg
  have h1 : k / d * d ≤ k := Int.ediv_mul_le k (by omega)
  have h2 : k < (k / d + 1) * d := Int.lt_ediv_add_one_mul_self k hd
  exact ⟨le2_anti h.1 h1, fun h' => h.2 (le2_anti h' (by omega))⟩
theorem bitLen_le_of_lt {n m : Nat} (h : n < 2 ^ m) : bitLen n ≤ m := by
  unfold bitLen
  split
  · omega
  · rename_i h0
    have := (Nat.log2_lt h0).2 h
    omega

theorem word_pow (k : Nat) : 18446744073709551616 ^ k = 2 ^ (64 * k) := by
  rw [show 18446744073709551616 = 2 ^ 64 by decide, ← Nat.pow_mul]
/-- The bits of a number, by its last word. -/
theorem bits_words {l : List Nat} (hw : Wrd l) (hn : NoEnd l) {m : Nat} (hl : l.length = m + 1) : bitLen (wv l) = 64 * m + bitLen (l.getD m 0) := by
  have h1 := wv_take_succ l m (by omega)
  rw [show l.take (m + 1) = l by rw [← hl, List.take_length]] at h1
  have h2 := wv_lt _ (hw.take m)
  rw [List.length_take, Nat.min_eq_left (by omega)] at h2
  have h3 : wv l / 2 ^ (64 * m) = l.getD m 0 := by
    rw [← word_pow, h1, Nat.add_mul_div_left _ _ (Nat.pow_pos (by decide)), Nat.div_eq_of_lt h2, Nat.zero_add]
  have h4 := bitLen_shift (wv l) (64 * m) (by rw [h3]; exact hn m (by omega))
  rw [h3] at h4
  exact h4
theorem wv_zeros_then (m : Nat) (l : List Nat) : wv (List.replicate m 0 ++ l) = 18446744073709551616 ^ m * wv l := by
  rw [wv_append, List.length_replicate]
  have : wv (List.replicate m 0) = 0 := by
    induction m with
    | zero => rfl
    | succ m ih => rw [List.replicate_succ]; simp [wv, ih]
  rw [this, Nat.zero_add]
theorem shift_val (n b : Nat) : 18446744073709551616 ^ (b / 64) * (n * 2 ^ (b % 64)) = n * 2 ^ b := by
  rw [word_pow, Nat.mul_left_comm, ← Nat.pow_add, show 64 * (b / 64) + b % 64 = b by omega]
end Go.Proofs.YtlnhpkmcinohdaaDoor
