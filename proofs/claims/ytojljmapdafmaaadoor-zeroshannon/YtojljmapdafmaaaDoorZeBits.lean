/- Sets of numbers as bits, and as rising lists. Plain functions. -/
import Derived.WalkKit
import Derived.Lib.TrailingZeros
import Derived.Laws.BitsAllLaws
namespace Go.Proofs.YtojljmapdafmaaaDoor

/-- The bits of a list of numbers. -/
def bitZ : List Nat → Nat
  | [] => 0
  | v :: r => 2 ^ v ||| bitZ r
/-- A rising list of numbers below n. -/
def Asc (n : Nat) (l : List Nat) : Prop := l.Pairwise (· < ·) ∧ ∀ v ∈ l, v < n
theorem Asc.tail {n v : Nat} {r : List Nat} (h : Asc n (v :: r)) : Asc n r := ⟨(List.pairwise_cons.1 h.1).2, fun x hx => h.2 x (List.mem_cons_of_mem _ hx)⟩
theorem Asc.head {n v : Nat} {r : List Nat} (h : Asc n (v :: r)) : v < n ∧ ∀ x ∈ r, v < x := ⟨h.2 v List.mem_cons_self, (List.pairwise_cons.1 h.1).1⟩
theorem Asc.filter {n : Nat} {l : List Nat} (h : Asc n l) (p : Nat → Bool) : Asc n (l.filter p) := ⟨h.1.filter p, fun x hx => h.2 x (List.mem_filter.1 hx).1⟩
theorem Asc.range (n : Nat) : Asc n (List.range n) := ⟨List.pairwise_lt_range, fun _ h => List.mem_range.1 h⟩
theorem Asc.more {n m : Nat} {l : List Nat} (h : Asc n l) (hm : n ≤ m) : Asc m l := ⟨h.1, fun v hv => Nat.lt_of_lt_of_le (h.2 v hv) hm⟩
/-- Put behind: all so far are less. -/
theorem Asc.snoc {n v : Nat} {g : List Nat} (h : Asc n g) (hv : v < n) (hg : ∀ x ∈ g, x < v) : Asc n (g ++ [v]) := by
  refine ⟨List.pairwise_append.2 ⟨h.1, List.pairwise_singleton _ _, fun a ha b hb => ?_⟩, fun x hx => ?_⟩
  · rw [List.mem_singleton.1 hb]; exact hg a ha
  · rcases List.mem_append.1 hx with h1 | h1
    · exact h.2 x h1
    · rw [List.mem_singleton.1 h1]; exact hv
theorem bitZ_test : ∀ (l : List Nat) (i : Nat), (bitZ l).testBit i = decide (i ∈ l)
  | [], i => by simp [bitZ]
  | v :: r, i => by
    rw [bitZ, Nat.testBit_or, Nat.testBit_two_pow, bitZ_test r i, Bool.eq_iff_iff]
    simp
    constructor
    · rintro (h | h)
      · exact Or.inl h.symm
      · exact Or.inr h
    · rintro (h | h)
      · exact Or.inl h.symm
      · exact Or.inr h
theorem bitZ_lt {n : Nat} : ∀ {l : List Nat}, (∀ v ∈ l, v < n) → bitZ l < 2 ^ n
  | [], _ => Nat.two_pow_pos n
  | v :: r, h => Nat.or_lt_two_pow (Nat.pow_lt_pow_right (by decide) (h v List.mem_cons_self)) (bitZ_lt fun x hx => h x (List.mem_cons_of_mem _ hx))
theorem Asc.lt {n : Nat} {l : List Nat} (h : Asc n l) : bitZ l < 2 ^ n := bitZ_lt h.2
theorem bitZ_ext {a b : List Nat} (h : ∀ i, i ∈ a ↔ i ∈ b) : bitZ a = bitZ b :=
  Nat.eq_of_testBit_eq fun i => by rw [bitZ_test, bitZ_test, decide_eq_decide]; exact h i
theorem bitZ_pos {v : Nat} {r : List Nat} : 0 < bitZ (v :: r) := by
  rcases Nat.eq_zero_or_pos (bitZ (v :: r)) with h | h
  · have := bitZ_test (v :: r) v
    rw [h] at this
    simp at this
  · exact h
theorem bitZ_snoc (g : List Nat) (v : Nat) : bitZ g ||| 2 ^ v = bitZ (g ++ [v]) := Nat.eq_of_testBit_eq fun i => by
  rw [Nat.testBit_or, Nat.testBit_two_pow, bitZ_test, bitZ_test, Bool.eq_iff_iff]
  simp only [Bool.or_eq_true, decide_eq_true_eq, List.mem_append, List.mem_singleton]
  exact or_congr Iff.rfl ⟨Eq.symm, Eq.symm⟩
theorem bitZ_and (l : List Nat) (x : Nat) : bitZ l &&& x = bitZ (l.filter fun i => x.testBit i) := Nat.eq_of_testBit_eq fun i => by
  rw [Nat.testBit_and, bitZ_test, bitZ_test, Bool.eq_iff_iff]
  simp
theorem low_form {v : Nat} {r : List Nat} (h : ∀ x ∈ r, v < x) : ∃ m, bitZ (v :: r) = 2 ^ v * (2 * m + 1) ∧ bitZ r = 2 ^ (v + 1) * m := by
  have key : bitZ r = 2 ^ (v + 1) * (bitZ r / 2 ^ (v + 1)) := by
    refine Nat.eq_of_testBit_eq fun i => ?_
    rw [Nat.mul_comm, Nat.testBit_mul_two_pow, Nat.testBit_div_two_pow]
    by_cases hi : v + 1 ≤ i
    · rw [Nat.sub_add_cancel hi]; simp [hi]
    · rw [bitZ_test]
      have : i ∉ r := fun hm => by have := h i hm; omega
      simp [this]; omega
  obtain ⟨m, key⟩ : ∃ m, bitZ r = 2 ^ (v + 1) * m := ⟨_, key⟩
  refine ⟨m, ?_, key⟩
  rw [bitZ, key]
  have e : 2 ^ (v + 1) * m ||| 2 ^ v = 2 ^ (v + 1) * m + 2 ^ v := by
    refine nat_join (v + 1) _ _ (Nat.mul_mod_right _ _) (Nat.pow_lt_pow_right (by decide) (Nat.lt_succ_self v))
  rw [Nat.or_comm, e, Nat.pow_succ, Nat.mul_add, Nat.mul_one, Nat.mul_assoc]
theorem two_form {a b m k : Nat} (h : 2 ^ a * (2 * m + 1) = 2 ^ b * (2 * k + 1)) : a = b := by
  have t : ∀ a m i, (2 ^ a * (2 * m + 1)).testBit i = if i < a then false else (2 * m + 1).testBit (i - a) := fun a m i => by
    rw [Nat.mul_comm, Nat.testBit_mul_two_pow]
    by_cases hi : a ≤ i
    · rw [if_neg (by omega)]; simp [hi]
    · rw [if_pos (by omega)]; simp [hi]
  rcases Nat.lt_trichotomy a b with h1 | h1 | h1
  · have e := t a m a
    rw [h, t b k a, if_pos h1] at e
    simp at e
  · exact h1
  · have e := t b k b
    rw [← h, t a m b, if_pos h1] at e
    simp at e
theorem bitZ_ctz {v : Nat} {r : List Nat} (h : Asc 64 (v :: r)) : Lib.ctz 64 (bitZ (v :: r)) = v := by
  have h0 := bitZ_pos (v := v) (r := r)
  obtain ⟨m, hm, _⟩ := low_form h.head.2
  obtain ⟨k, hk, _⟩ := Lib.ctzFrom_spec 64 _ h0 h.lt
  rw [Lib.ctz, if_neg (by omega)]
  have hk2 := hk
  generalize Lib.ctzFrom 64 (bitZ (v :: r)) = c at hk2 ⊢
  rw [hm] at hk2
  exact (two_form hk2).symm
theorem test_not {x i : Nat} (hx : x < 2 ^ 64) (hi : i < 64) : (18446744073709551615 - x).testBit i = !x.testBit i := by
  have e : 18446744073709551615 - x = 2 ^ 64 - (x + 1) := by omega
  rw [e, Nat.testBit_two_pow_sub_succ hx]
  simp [hi]
theorem bitZ_drop {v : Nat} {r : List Nat} (h : Asc 64 (v :: r)) : bitZ (v :: r) &&& (18446744073709551615 - 2 ^ v) = bitZ r := Nat.eq_of_testBit_eq fun i => by
  rw [Nat.testBit_and, bitZ_test, bitZ_test]
  by_cases hi : i < 64
  · rw [test_not (Nat.pow_lt_pow_right (by decide) h.head.1) hi, Nat.testBit_two_pow, Bool.eq_iff_iff]
    simp
    constructor
    · rintro ⟨h1 | h1, h2⟩
      · exact absurd h1.symm h2
      · exact h1
    · intro h1
      have := h.head.2 i h1
      exact ⟨Or.inr h1, by omega⟩
  · have h1 : i ∉ v :: r := fun hm => hi (h.2 i hm)
    have h2 : i ∉ r := fun hm => h1 (List.mem_cons_of_mem _ hm)
    simp only [h1, h2, decide_false, Bool.false_and]
theorem bitZ_less {v : Nat} {r : List Nat} (h : ∀ x ∈ r, v < x) : bitZ (v :: r) &&& (bitZ (v :: r) - 1) = bitZ r := by
  obtain ⟨m, hm, hr⟩ := low_form h
  rw [hm, hr]
  have hp := Nat.two_pow_pos v
  have e1 : 2 ^ v * (2 * m + 1) - 1 = 2 ^ (v + 1) * m + (2 ^ v - 1) := by
    rw [Nat.pow_succ, Nat.mul_add, Nat.mul_one, Nat.mul_assoc]; omega
  have e2 : 2 ^ v * (2 * m + 1) = 2 ^ (v + 1) * m + 2 ^ v := by rw [Nat.pow_succ, Nat.mul_add, Nat.mul_one, Nat.mul_assoc]
  have l1 : 2 ^ v - 1 < 2 ^ (v + 1) := by rw [Nat.pow_succ]; omega
  have l2 : 2 ^ v < 2 ^ (v + 1) := by rw [Nat.pow_succ]; omega
  have e3 : 2 ^ (v + 1) * m = 2 ^ (v + 1) * m + 0 := rfl
  refine Nat.eq_of_testBit_eq fun i => ?_
  rw [e1, e2, Nat.testBit_and, Nat.testBit_two_pow_mul_add _ l1, Nat.testBit_two_pow_mul_add _ l2]
  conv => rhs; rw [e3]
  rw [Nat.testBit_two_pow_mul_add _ (Nat.two_pow_pos _)]
  by_cases hi : i < v + 1
  · rw [if_pos hi, if_pos hi, if_pos hi, Nat.testBit_two_pow, Nat.zero_testBit, Nat.testBit_two_pow_sub_one]
    by_cases hv : v = i
    · subst hv; simp
    · simp [hv]
  · rw [if_neg hi, if_neg hi, if_neg hi, Bool.and_self]
/-- Rising lists with the same members are the same. -/
theorem asc_ext : ∀ {a b : List Nat}, a.Pairwise (· < ·) → b.Pairwise (· < ·) → (∀ x, x ∈ a ↔ x ∈ b) → a = b
  | [], [], _, _, _ => rfl
  | [], y :: b, _, _, h => by have := (h y).2 List.mem_cons_self; cases this
  | x :: a, [], _, _, h => by have := (h x).1 List.mem_cons_self; cases this
  | x :: a, y :: b, ha, hb, h => by
    obtain ⟨hx, ha'⟩ := List.pairwise_cons.1 ha
    obtain ⟨hy, hb'⟩ := List.pairwise_cons.1 hb
    have e : x = y := by
      rcases List.mem_cons.1 ((h x).1 List.mem_cons_self) with h1 | h1
      · exact h1
      · rcases List.mem_cons.1 ((h y).2 List.mem_cons_self) with h2 | h2
        · exact h2.symm
        · have := hx y h2; have := hy x h1; omega
    subst e
    congr 1
    refine asc_ext ha' hb' fun z => ?_
    constructor
    · intro hz
      rcases List.mem_cons.1 ((h z).1 (List.mem_cons_of_mem _ hz)) with h1 | h1
      · have := hx z hz; omega
      · exact h1
    · intro hz
      rcases List.mem_cons.1 ((h z).2 (List.mem_cons_of_mem _ hz)) with h1 | h1
      · have := hy z hz; omega
      · exact h1
theorem asc_filter {n : Nat} {l : List Nat} (h : Asc n l) : (List.range n).filter (fun i => decide (i ∈ l)) = l :=
  asc_ext (List.pairwise_lt_range.filter _) h.1 fun x => by
    rw [List.mem_filter, List.mem_range]
    simp
    exact h.2 x
theorem bitZ_inj {n : Nat} {a b : List Nat} (ha : Asc n a) (hb : Asc n b) (h : bitZ a = bitZ b) : a = b :=
  asc_ext ha.1 hb.1 fun x => by
    have := congrArg (fun z => z.testBit x) h
    simp only [bitZ_test] at this
    simpa using this
/-- How many bits are set below n. -/
def popN (n x : Nat) : Nat := ((List.range n).filter fun i => x.testBit i).length
theorem popN_bits {n : Nat} {l : List Nat} (h : Asc n l) : popN n (bitZ l) = l.length := by
  have e : (fun i => (bitZ l).testBit i) = fun i => decide (i ∈ l) := funext fun i => bitZ_test l i
  rw [popN, e, asc_filter h]
/-- The library's way to count bits: sums of neighbours. -/
def pop1 (x : Nat) : Nat := ((x / 2) &&& 6148914691236517205) + (x &&& 6148914691236517205)
def pop2 (x : Nat) : Nat := ((x / 4) &&& 3689348814741910323) + (x &&& 3689348814741910323)
def pop3 (x : Nat) : Nat := (x / 16 + x) &&& 1085102592571150095
def pop4 (x : Nat) : Nat := x + x / 256
def pop5 (x : Nat) : Nat := x + x / 65536
def pop6 (x : Nat) : Nat := x + x / 4294967296
def popW (x : Nat) : Nat := pop6 (pop5 (pop4 (pop3 (pop2 (pop1 x))))) % 128
/-- Counted with fuel, so that the kernel goes through all of them. -/
def popGo : Nat → Nat → Bool
  | 0, _ => true
  | f + 1, x => (popW x == popN 16 x && decide (popW x ≤ 16)) && popGo f (x + 1)
theorem popGo_all : ∀ (f x : Nat), popGo f x = true → ∀ y, x ≤ y → y < x + f → popW y = popN 16 y ∧ popW y ≤ 16
  | 0, x, _, y, h1, h2 => by omega
  | f + 1, x, h, y, h1, h2 => by
    simp only [popGo, Bool.and_eq_true, beq_iff_eq, decide_eq_true_eq] at h
    rcases Nat.eq_or_lt_of_le h1 with rfl | h3
    · exact h.1
    · exact popGo_all f (x + 1) h.2 y h3 (by omega)
end Go.Proofs.YtojljmapdafmaaaDoor
