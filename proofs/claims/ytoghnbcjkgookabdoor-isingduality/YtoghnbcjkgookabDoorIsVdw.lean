/- VAN DER WAERDEN's expansion: a sum over states is a sum over even sets of bonds. -/
import Derived.Test.YtoghnbcjkgookabDoorIsMath
namespace Go.Proofs.YtoghnbcjkgookabDoor

/-- Sums of numbers of any sign. -/
def sI (f : Nat → Int) : Nat → Int
  | 0 => 0
  | n + 1 => sI f n + f n
theorem sI_congr {f g : Nat → Int} : ∀ {n : Nat}, (∀ i, i < n → f i = g i) → sI f n = sI g n
  | 0, _ => rfl
  | n + 1, h => by
    show sI f n + f n = sI g n + g n
    rw [sI_congr (fun i hi => h i (by omega)), h n (by omega)]
theorem sI_add (f g : Nat → Int) : ∀ n, sI (fun i => f i + g i) n = sI f n + sI g n
  | 0 => rfl
  | n + 1 => by
    show sI _ n + (f n + g n) = (sI f n + f n) + (sI g n + g n)
    rw [sI_add f g n]
    omega
theorem sI_mul (c : Int) (f : Nat → Int) : ∀ n, sI (fun i => c * f i) n = c * sI f n
  | 0 => by simp [sI]
  | n + 1 => by
    show sI _ n + c * f n = c * (sI f n + f n)
    rw [sI_mul c f n, Int.mul_add]
theorem sI_zero : ∀ n, sI (fun _ => 0) n = 0
  | 0 => rfl
  | n + 1 => by show sI _ n + 0 = 0; rw [sI_zero n]; rfl
theorem sI_split (f : Nat → Int) (a : Nat) : ∀ b, sI f (a + b) = sI f a + sI (fun i => f (a + i)) b
  | 0 => by simp [sI]
  | b + 1 => by
    show sI f (a + b) + f (a + b) = sI f a + (sI _ b + f (a + b))
    rw [sI_split f a b]
    omega
theorem sI_first (f : Nat → Int) (n : Nat) : sI f (n + 1) = f 0 + sI (fun k => f (k + 1)) n := by
  have h := sI_split f 1 n
  rw [Nat.add_comm 1 n] at h
  rw [h]
  show (0 + f 0) + _ = _
  rw [Int.zero_add]
  congr 1
  exact sI_congr fun i _ => by rw [Nat.add_comm]

/-- The sign of a state at a set of spins. -/
def chi (o s : Nat) : Nat → Int
  | 0 => 1
  | i + 1 => chi o s i * (if o.testBit i && s.testBit i then -1 else 1)
theorem chi_xor (o e s : Nat) : ∀ n, chi (o ^^^ e) s n = chi o s n * chi e s n
  | 0 => rfl
  | n + 1 => by
    show chi (o ^^^ e) s n * _ = (chi o s n * _) * (chi e s n * _)
    rw [chi_xor o e s n, Nat.testBit_xor]
    cases o.testBit n <;> cases e.testBit n <;> cases s.testBit n <;> simp <;> grind
theorem chi_none (s : Nat) : ∀ n, chi 0 s n = 1
  | 0 => rfl
  | n + 1 => by
    show chi 0 s n * _ = 1
    rw [chi_none s n]
    simp
theorem chi_pow (a s : Nat) : ∀ n, chi (2 ^ a) s n = if a < n then (if s.testBit a then -1 else 1) else 1
  | 0 => rfl
  | n + 1 => by
    show chi (2 ^ a) s n * _ = _
    rw [chi_pow a s n, Nat.testBit_two_pow]
    by_cases h1 : a < n
    · have h2 : ¬ a = n := by omega
      rw [if_pos h1, if_pos (show a < n + 1 by omega)]
      simp [h2]
    · rw [if_neg h1]
      by_cases h2 : a = n
      · subst h2
        rw [if_pos (show a < a + 1 by omega)]
        simp
      · rw [if_neg (show ¬ a < n + 1 by omega)]
        simp [h2]
theorem chi_low (o : Nat) {s t : Nat} : ∀ n, (∀ i, i < n → s.testBit i = t.testBit i) → chi o s n = chi o t n
  | 0, _ => rfl
  | n + 1, h => by
    show chi o s n * _ = chi o t n * _
    rw [chi_low o n (fun i hi => h i (by omega)), h n (by omega)]
/-- All signs together. -/
def smN (o : Nat) : Nat → Int
  | 0 => 1
  | n + 1 => if o.testBit n then 0 else 2 * smN o n
theorem chi_sum (o : Nat) : ∀ n, sI (fun s => chi o s n) (2 ^ n) = smN o n
  | 0 => rfl
  | n + 1 => by
    rw [Nat.pow_succ, Nat.mul_two, sI_split]
    have e1 : sI (fun s => chi o s (n + 1)) (2 ^ n) = smN o n := by
      rw [← chi_sum o n]
      refine sI_congr fun s hs => ?_
      show chi o s n * _ = _
      rw [Nat.testBit_lt_two_pow hs]
      simp
    have e2 : sI (fun i => chi o (2 ^ n + i) (n + 1)) (2 ^ n) = (if o.testBit n then -1 else 1) * smN o n := by
      rw [← chi_sum o n, ← sI_mul]
      refine sI_congr fun s hs => ?_
      show chi o (2 ^ n + s) n * _ = _
      have e3 : (2 ^ n + s).testBit n = true := by
        have := Nat.testBit_two_pow_add_eq s n
        rw [this, Nat.testBit_lt_two_pow hs]
        rfl
      rw [e3, chi_low o n (t := s) (fun i hi => Nat.testBit_two_pow_add_gt hi s), Int.mul_comm]
      simp
    rw [e1, e2, smN]
    split <;> omega
theorem smN_zero : ∀ n, smN 0 n = 2 ^ n
  | 0 => rfl
  | n + 1 => by rw [smN, if_neg (by simp), smN_zero n, Int.pow_succ, Int.mul_comm]
theorem smN_none (o : Nat) : ∀ n, o < 2 ^ n → o ≠ 0 → smN o n = 0
  | 0, h, h0 => by omega
  | n + 1, h, h0 => by
    rw [smN]
    split
    · rfl
    · rename_i hb
      have hlt : o < 2 ^ n := by
        rcases Nat.lt_or_ge o (2 ^ n) with h1 | h1
        · exact h1
        · exfalso
          apply hb
          have h2 : o / 2 ^ n = 1 := by
            have h3 : o / 2 ^ n < 2 := Nat.div_lt_of_lt_mul (by rw [← Nat.pow_succ]; exact h)
            have h4 : 1 ≤ o / 2 ^ n := (Nat.le_div_iff_mul_le (Nat.two_pow_pos n)).2 (by omega)
            omega
          rw [Nat.testBit_eq_decide_div_mod_eq, h2]
          rfl
      rw [smN_none o n hlt h0]
      rfl

/-- The product over bonds, and its expansion. -/
def prI (S D : Int) (n s : Nat) : List Nat → Int
  | [] => 1
  | e :: l => (S + D * chi e s n) * prI S D n s l
def psi (S D : Int) : List Nat → Nat → Int
  | [], o => if o = 0 then 1 else 0
  | e :: l, o => S * psi S D l o + D * psi S D l (o ^^^ e)
theorem pr_psi (S D : Int) (n : Nat) : ∀ (l : List Nat) (o : Nat), o < 2 ^ n → (∀ e, e ∈ l → e < 2 ^ n) → sI (fun s => chi o s n * prI S D n s l) (2 ^ n) = 2 ^ n * psi S D l o
  | [], o, ho, _ => by
    have e1 : sI (fun s => chi o s n * prI S D n s []) (2 ^ n) = smN o n := by
      rw [← chi_sum o n]
      exact sI_congr fun s _ => by show chi o s n * 1 = _; rw [Int.mul_one]
    rw [e1, psi]
    by_cases h : o = 0
    · subst h; rw [if_pos rfl, smN_zero, Int.mul_one]
    · rw [if_neg h, smN_none o n ho h, Int.mul_zero]
  | e :: l, o, ho, hl => by
    have he := hl e List.mem_cons_self
    have h1 := pr_psi S D n l o ho (fun x hx => hl x (List.mem_cons_of_mem _ hx))
    have h2 := pr_psi S D n l (o ^^^ e) (Nat.xor_lt_two_pow ho he) (fun x hx => hl x (List.mem_cons_of_mem _ hx))
    have e1 : sI (fun s => chi o s n * prI S D n s (e :: l)) (2 ^ n) = sI (fun s => S * (chi o s n * prI S D n s l) + D * (chi (o ^^^ e) s n * prI S D n s l)) (2 ^ n) := sI_congr fun s _ => by
      show chi o s n * ((S + D * chi e s n) * prI S D n s l) = _
      rw [chi_xor]
      grind
    rw [e1, sI_add, sI_mul, sI_mul, h1, h2, psi]
    grind
/-- The expansion by how many bonds there are. -/
theorem psi_sum (S D : Int) : ∀ (l : List Nat) (o : Nat), psi S D l o = sI (fun k => (subN l o k : Int) * D ^ k * S ^ (l.length - k)) (l.length + 1)
  | [], o => by
    show (if o = 0 then (1 : Int) else 0) = 0 + ((if o = 0 ∧ 0 = 0 then 1 else 0 : Nat) : Int) * D ^ 0 * S ^ (0 - 0)
    by_cases h : o = 0
    · simp [h]
    · simp [h]
  | e :: l, o => by
    have h1 := psi_sum S D l o
    have h2 := psi_sum S D l (o ^^^ e)
    have e1 : sI (fun k => (subN (e :: l) o k : Int) * D ^ k * S ^ ((e :: l).length - k)) ((e :: l).length + 1) = sI (fun k => (subN l o k : Int) * D ^ k * S ^ (l.length + 1 - k)) (l.length + 1 + 1) + sI (fun k => D * ((subN l (o ^^^ e) k : Int) * D ^ k * S ^ (l.length - k))) (l.length + 1) := by
      show sI _ (l.length + 1 + 1) = _
      rw [sI_first, sI_first (fun k => (subN l o k : Int) * D ^ k * S ^ (l.length + 1 - k)), Int.add_assoc, ← sI_add]
      congr 1
      refine sI_congr fun k _ => ?_
      show ((subN l o (k + 1) + subN l (o ^^^ e) k : Nat) : Int) * D ^ (k + 1) * S ^ (l.length + 1 - (k + 1)) = _
      rw [show l.length + 1 - (k + 1) = l.length - k by omega, Int.natCast_add, Int.pow_succ]
      grind
    have e2 : sI (fun k => (subN l o k : Int) * D ^ k * S ^ (l.length + 1 - k)) (l.length + 1 + 1) = S * sI (fun k => (subN l o k : Int) * D ^ k * S ^ (l.length - k)) (l.length + 1) := by
      show sI _ (l.length + 1) + (subN l o (l.length + 1) : Int) * D ^ (l.length + 1) * S ^ (l.length + 1 - (l.length + 1)) = _
      rw [subN_many l o (l.length + 1) (Nat.lt_succ_self _), ← sI_mul]
      have e3 : sI (fun k => (subN l o k : Int) * D ^ k * S ^ (l.length + 1 - k)) (l.length + 1) = sI (fun k => S * ((subN l o k : Int) * D ^ k * S ^ (l.length - k))) (l.length + 1) := sI_congr fun k hk => by
        rw [show l.length + 1 - k = l.length - k + 1 by omega, Int.pow_succ]
        grind
      rw [e3]
      simp
    rw [e1, e2, sI_mul, ← h1, ← h2]
    rfl
/-- Sums over states by how many bonds are unlike. -/
theorem sI_count (f : Nat → Nat) (g : Nat → Int) (m : Nat) : ∀ T, (∀ s, s < T → f s ≤ m) → sI (fun s => g (f s)) T = sI (fun k => (cntK f k T : Int) * g k) (m + 1)
  | 0, _ => by
    have : sI (fun k => (cntK f k 0 : Int) * g k) (m + 1) = sI (fun _ => 0) (m + 1) := sI_congr fun k _ => by show ((0 : Nat) : Int) * g k = 0; simp
    rw [this, sI_zero]
    rfl
  | T + 1, h => by
    have e1 : sI (fun k => (cntK f k (T + 1) : Int) * g k) (m + 1) = sI (fun k => (cntK f k T : Int) * g k + (if f T = k then g (f T) else 0)) (m + 1) := sI_congr fun k _ => by
      show ((cntK f k T + (if f T = k then 1 else 0) : Nat) : Int) * g k = _
      by_cases e : f T = k
      · rw [if_pos e, if_pos e, Int.natCast_add, e]
        grind
      · rw [if_neg e, if_neg e]
        simp
    have e2 : ∀ (x : Int) (c n : Nat), sI (fun k => if c = k then x else 0) n = if c < n then x else 0 := fun x c n => by
      induction n with
      | zero => rfl
      | succ n ih =>
        show sI _ n + (if c = n then x else 0) = _
        rw [ih]
        by_cases h1 : c < n
        · rw [if_pos h1, if_neg (show ¬ c = n by omega), if_pos (show c < n + 1 by omega), Int.add_zero]
        · rw [if_neg h1, Int.zero_add]
          by_cases h2 : c = n
          · rw [if_pos h2, if_pos (show c < n + 1 by omega)]
          · rw [if_neg h2, if_neg (show ¬ c < n + 1 by omega)]
    have hT := h T (Nat.lt_succ_self _)
    rw [e1, sI_add, e2, if_pos (show f T < m + 1 by omega), ← sI_count f g m T (fun s hs => h s (by omega))]
    rfl
/-- A bond's factor. -/
theorem chi_bond {p q : Nat → Nat} {i n : Nat} (hp : p i < n) (hq : q i < n) (hne : p i ≠ q i) (X Y : Int) (s : Nat) : (X + Y) + (Y - X) * chi (endB p q i) s n = 2 * (if unB s (p i) (q i) = 0 then Y else X) := by
  rw [← endB_xor hne, chi_xor, chi_pow, chi_pow, if_pos hp, if_pos hq, unB_eq]
  have e1 : ∀ a, s.testBit a = decide (s >>> a % 2 = 1) := fun a => by rw [Nat.testBit_eq_decide_div_mod_eq, Nat.shiftRight_eq_div_pow]
  rw [e1, e1]
  rcases Nat.mod_two_eq_zero_or_one (s >>> p i) with h1 | h1 <;> rcases Nat.mod_two_eq_zero_or_one (s >>> q i) with h2 | h2 <;> simp [h1, h2] <;> grind
theorem pr_state {p q : Nat → Nat} {n : Nat} (X Y : Int) (s : Nat) : ∀ m, (∀ i, i < m → p i < n ∧ q i < n ∧ p i ≠ q i) → prI (X + Y) (Y - X) n s (endL p q m) = 2 ^ m * (X ^ unl p q s m * Y ^ (m - unl p q s m))
  | 0, _ => by simp [endL, prI, unl]
  | m + 1, h => by
    have hs : ∀ (S D : Int) (l : List Nat) (e : Nat), prI S D n s (l ++ [e]) = prI S D n s l * (S + D * chi e s n) := fun S D l e => by
      induction l with
      | nil => simp [prI]
      | cons x l ih =>
        show (S + D * chi x s n) * prI S D n s (l ++ [e]) = _
        rw [ih]
        show _ = ((S + D * chi x s n) * prI S D n s l) * _
        grind
    obtain ⟨h1, h2, h3⟩ := h m (by omega)
    have hle := unl_le p q s m
    have hu : unl p q s (m + 1) = unl p q s m + unB s (p m) (q m) := rfl
    rw [endL, hs, pr_state X Y s m (fun i hi => h i (by omega)), chi_bond h1 h2 h3, hu, Int.pow_succ]
    have hb := unB_le s (p m) (q m)
    rcases (show unB s (p m) (q m) = 0 ∨ unB s (p m) (q m) = 1 by omega) with e | e
    · rw [e, if_pos rfl, Nat.add_zero, show m + 1 - unl p q s m = m - unl p q s m + 1 by omega, Int.pow_succ]
      grind
    · rw [e, if_neg (by decide), show m + 1 - (unl p q s m + 1) = m - unl p q s m by omega, Int.pow_succ]
      grind
theorem vdw {p q : Nat → Nat} {n m : Nat} (h : ∀ i, i < m → p i < n ∧ q i < n ∧ p i ≠ q i) (X Y : Int) :
    2 ^ m * sI (fun k => (stK p q n m k : Int) * (X ^ k * Y ^ (m - k))) (m + 1) = 2 ^ n * sI (fun k => (evC p q m k 0 : Int) * (Y - X) ^ k * (X + Y) ^ (m - k)) (m + 1) := by
  have hl : ∀ e, e ∈ endL p q m → e < 2 ^ n := by
    have h9 : ∀ j, j ≤ m → ∀ e, e ∈ endL p q j → e < 2 ^ n := fun j => by
      induction j with
      | zero => intro _ e he; simp [endL] at he
      | succ j ih =>
        intro hj e he
        rw [endL, List.mem_append] at he
        rcases he with he | he
        · exact ih (by omega) e he
        · rw [List.mem_singleton.1 he]
          exact endB_lt (h j (by omega)).1 (h j (by omega)).2.1
    exact h9 m (Nat.le_refl _)
  have h1 := pr_psi (X + Y) (Y - X) n (endL p q m) 0 (Nat.two_pow_pos n) hl
  rw [psi_sum, endL_length] at h1
  have e1 : sI (fun s => chi 0 s n * prI (X + Y) (Y - X) n s (endL p q m)) (2 ^ n) = 2 ^ m * sI (fun s => X ^ unl p q s m * Y ^ (m - unl p q s m)) (2 ^ n) := by
    rw [← sI_mul]
    exact sI_congr fun s _ => by rw [chi_none, Int.one_mul, pr_state X Y s m h]
  rw [e1, sI_count (fun s => unl p q s m) (fun k => X ^ k * Y ^ (m - k)) m (2 ^ n) (fun s _ => unl_le p q s m)] at h1
  exact h1
end Go.Proofs.YtoghnbcjkgookabDoor
