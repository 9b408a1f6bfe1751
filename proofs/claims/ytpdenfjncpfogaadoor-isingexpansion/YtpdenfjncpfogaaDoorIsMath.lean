/- Spins: unlike bonds of a state, how many states have so many; even sets of bonds, counted from both ends. -/
import Derived.WalkKit
import Derived.Laws.BitsAllLaws
namespace Go.Proofs.YtpdenfjncpfogaaDoor

/-- Are the two spins unlike in this state? -/
def unB (s a b : Nat) : Nat := ((s >>> a) ^^^ (s >>> b)) &&& 1
def unl (p q : Nat → Nat) (s : Nat) : Nat → Nat
  | 0 => 0
  | i + 1 => unl p q s i + unB s (p i) (q i)
theorem unB_le (s a b : Nat) : unB s a b ≤ 1 := by
  unfold unB
  rw [Nat.and_one_is_mod]
  omega
theorem xor_mod (x y : Nat) : (x ^^^ y) % 2 = (x % 2 + y % 2) % 2 := by
  have h := Nat.testBit_xor (x := x) (y := y) (i := 0)
  rw [Nat.testBit_zero, Nat.testBit_zero, Nat.testBit_zero] at h
  rcases Nat.mod_two_eq_zero_or_one x with h1 | h1 <;> rcases Nat.mod_two_eq_zero_or_one y with h2 | h2 <;> rcases Nat.mod_two_eq_zero_or_one (x ^^^ y) with h3 | h3 <;> simp [h1, h2, h3] at h ⊢
theorem unB_eq (s a b : Nat) : unB s a b = if (s >>> a) % 2 = (s >>> b) % 2 then 0 else 1 := by
  unfold unB
  rw [Nat.and_one_is_mod, xor_mod]
  split <;> omega
theorem unl_le (p q : Nat → Nat) (s : Nat) : ∀ m, unl p q s m ≤ m
  | 0 => Nat.le_refl _
  | m + 1 => by
    have h1 := unl_le p q s m
    have h2 := unB_le s (p m) (q m)
    show unl p q s m + unB s (p m) (q m) ≤ m + 1
    omega
theorem unl_congr {p q p' q' : Nat → Nat} (s : Nat) : ∀ {m : Nat}, (∀ i, i < m → p i = p' i ∧ q i = q' i) → unl p q s m = unl p' q' s m
  | 0, _ => rfl
  | m + 1, h => by
    show unl p q s m + unB s (p m) (q m) = unl p' q' s m + unB s (p' m) (q' m)
    rw [unl_congr s (fun i hi => h i (by omega)), (h m (by omega)).1, (h m (by omega)).2]

/-- At how many of the first T places is k? -/
def cntK (f : Nat → Nat) (k : Nat) : Nat → Nat
  | 0 => 0
  | T + 1 => cntK f k T + if f T = k then 1 else 0
theorem cntK_le (f : Nat → Nat) (k : Nat) : ∀ T, cntK f k T ≤ T
  | 0 => Nat.le_refl _
  | T + 1 => by
    have := cntK_le f k T
    show cntK f k T + (if f T = k then 1 else 0) ≤ T + 1
    split <;> omega
theorem cntK_congr {f g : Nat → Nat} (k : Nat) : ∀ {T : Nat}, (∀ i, i < T → f i = g i) → cntK f k T = cntK g k T
  | 0, _ => rfl
  | T + 1, h => by
    show cntK f k T + _ = cntK g k T + _
    rw [cntK_congr k (fun i hi => h i (by omega)), h T (by omega)]
/-- Of how many states just k bonds are unlike. -/
def stK (p q : Nat → Nat) (n m k : Nat) : Nat := cntK (fun s => unl p q s m) k (2 ^ n)
theorem stK_le (p q : Nat → Nat) (n m k : Nat) : stK p q n m k ≤ 2 ^ n := cntK_le _ _ _

/-- How many of the sets of k out of these have this sum (by exclusive or). -/
def subN : List Nat → Nat → Nat → Nat
  | [], o, k => if o = 0 ∧ k = 0 then 1 else 0
  | _ :: l, o, 0 => subN l o 0
  | e :: l, o, k + 1 => subN l o (k + 1) + subN l (o ^^^ e) k
theorem subN_many : ∀ (l : List Nat) (o k : Nat), l.length < k → subN l o k = 0
  | [], o, k, h => by
    rw [subN, if_neg]
    rintro ⟨_, rfl⟩
    exact absurd h (by decide)
  | e :: l, o, 0, h => absurd h (by simp)
  | e :: l, o, k + 1, h => by
    simp only [List.length_cons] at h
    rw [subN, subN_many l o (k + 1) (by omega), subN_many l _ k (by omega)]
theorem subN_last (e : Nat) : ∀ (l : List Nat) (o : Nat), subN (l ++ [e]) o 0 = subN l o 0 ∧ ∀ k, subN (l ++ [e]) o (k + 1) = subN l o (k + 1) + subN l (o ^^^ e) k
  | [], o => ⟨rfl, fun k => rfl⟩
  | x :: l, o => by
    refine ⟨(subN_last e l o).1, fun k => ?_⟩
    show subN (l ++ [e]) o (k + 1) + subN (l ++ [e]) (o ^^^ x) k = (subN l o (k + 1) + subN l (o ^^^ x) k) + subN (x :: l) (o ^^^ e) k
    rw [(subN_last e l o).2 k]
    cases k with
    | zero =>
      rw [(subN_last e l (o ^^^ x)).1]
      show _ = _ + subN l (o ^^^ e) 0
      omega
    | succ k =>
      rw [(subN_last e l (o ^^^ x)).2 k]
      show _ = _ + (subN l (o ^^^ e) (k + 1) + subN l (o ^^^ e ^^^ x) k)
      rw [show o ^^^ e ^^^ x = o ^^^ x ^^^ e by rw [Nat.xor_assoc, Nat.xor_comm e x, ← Nat.xor_assoc]]
      omega
theorem subN_le : ∀ (l : List Nat) (o k : Nat), subN l o k ≤ 2 ^ l.length
  | [], o, k => by
    show (if _ then 1 else 0) ≤ 1
    split <;> omega
  | e :: l, o, 0 => by
    have := subN_le l o 0
    show subN l o 0 ≤ 2 ^ (l.length + 1)
    rw [Nat.pow_succ]
    omega
  | e :: l, o, k + 1 => by
    have h1 := subN_le l o (k + 1)
    have h2 := subN_le l (o ^^^ e) k
    show _ + _ ≤ 2 ^ (l.length + 1)
    rw [Nat.pow_succ]
    omega
/-- The two ends of a bond, as bits. -/
def endB (p q : Nat → Nat) (i : Nat) : Nat := 2 ^ p i ||| 2 ^ q i
/-- The ends of the first i bonds. -/
def endL (p q : Nat → Nat) : Nat → List Nat
  | 0 => []
  | i + 1 => endL p q i ++ [endB p q i]
theorem endL_length (p q : Nat → Nat) : ∀ i, (endL p q i).length = i
  | 0 => rfl
  | i + 1 => by simp [endL, endL_length p q i]
/-- How many sets of k out of the first i bonds leave these spins odd. -/
def evC (p q : Nat → Nat) (i k o : Nat) : Nat := subN (endL p q i) o k
theorem evC_start (p q : Nat → Nat) (k o : Nat) : evC p q 0 k o = if o = 0 ∧ k = 0 then 1 else 0 := rfl
theorem evC_none (p q : Nat → Nat) (i o : Nat) : evC p q (i + 1) 0 o = evC p q i 0 o := (subN_last _ _ _).1
theorem evC_more (p q : Nat → Nat) (i k o : Nat) : evC p q (i + 1) (k + 1) o = evC p q i (k + 1) o + evC p q i k (o ^^^ endB p q i) := (subN_last _ _ _).2 k
theorem evC_le (p q : Nat → Nat) (i k o : Nat) : evC p q i k o ≤ 2 ^ i := by
  have := subN_le (endL p q i) o k
  rwa [endL_length] at this
theorem evC_many (p q : Nat → Nat) (i k o : Nat) (h : i < k) : evC p q i k o = 0 := subN_many _ _ _ (by rw [endL_length]; exact h)
/-- The ends of the last r bonds of m. -/
def endR (p q : Nat → Nat) (m : Nat) : Nat → List Nat
  | 0 => []
  | r + 1 => endB p q (m - (r + 1)) :: endR p q m r
theorem endR_all (p q : Nat → Nat) (m : Nat) : ∀ r, r ≤ m → endL p q (m - r) ++ endR p q m r = endL p q m
  | 0, _ => by simp [endR]
  | r + 1, h => by
    have e : m - r = (m - (r + 1)) + 1 := by omega
    rw [← endR_all p q m r (by omega), e]
    simp [endL, endR]
theorem endR_whole (p q : Nat → Nat) (m : Nat) : endR p q m m = endL p q m := by
  have := endR_all p q m m (Nat.le_refl _)
  simpa [endL] using this
theorem endR_length (p q : Nat → Nat) (m : Nat) : ∀ r, (endR p q m r).length = r
  | 0 => rfl
  | r + 1 => by simp [endR, endR_length p q m r]
theorem endB_lt {p q : Nat → Nat} {n i : Nat} (hp : p i < n) (hq : q i < n) : endB p q i < 2 ^ n := Nat.or_lt_two_pow (Nat.pow_lt_pow_right (by decide) hp) (Nat.pow_lt_pow_right (by decide) hq)
theorem endB_xor {p q : Nat → Nat} {i : Nat} (h : p i ≠ q i) : 2 ^ p i ^^^ 2 ^ q i = endB p q i := by
  apply Nat.eq_of_testBit_eq
  intro j
  rw [endB, Nat.testBit_xor, Nat.testBit_or, Nat.testBit_two_pow, Nat.testBit_two_pow]
  by_cases h1 : p i = j <;> by_cases h2 : q i = j <;> simp [h1, h2]
  omega
end Go.Proofs.YtpdenfjncpfogaaDoor
