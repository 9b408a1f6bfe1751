/- Multiplicities of primes: plain numbers. -/
import Derived.Test.YtklhfagcembigaaGreatDoorSumMath
import Derived.Test.YtklhfagcembigaaGreatDoorNums
namespace Go.Proofs.YtklhfagcembigaaGreatDoor

/-- How often a number divides another one, with fuel. -/
def multF (p : Nat) : Nat → Nat → Nat
  | 0, _ => 0
  | k + 1, n => if 2 ≤ p ∧ 0 < n ∧ n % p = 0 then multF p k (n / p) + 1 else 0
theorem multF_more {p : Nat} : ∀ (k m n : Nat), n ≤ k → n ≤ m → multF p k n = multF p m n
  | 0, 0, _, _, _ => rfl
  | 0, m + 1, n, h, _ => by
    obtain rfl : n = 0 := by omega
    show 0 = if 2 ≤ p ∧ 0 < 0 ∧ 0 % p = 0 then _ else 0
    rw [if_neg (fun e => absurd e.2.1 (by decide))]
  | k + 1, 0, n, _, h => by
    obtain rfl : n = 0 := by omega
    show (if 2 ≤ p ∧ 0 < 0 ∧ 0 % p = 0 then _ else 0) = 0
    rw [if_neg (fun e => absurd e.2.1 (by decide))]
  | k + 1, m + 1, n, h1, h2 => by
    show (if 2 ≤ p ∧ 0 < n ∧ n % p = 0 then multF p k (n / p) + 1 else 0) = if 2 ≤ p ∧ 0 < n ∧ n % p = 0 then multF p m (n / p) + 1 else 0
    by_cases h : 2 ≤ p ∧ 0 < n ∧ n % p = 0
    · rw [if_pos h, if_pos h]
      have h3 := Nat.div_lt_self h.2.1 h.1
      rw [multF_more k m (n / p) (by omega) (by omega)]
    · rw [if_neg h, if_neg h]
def mult (p n : Nat) : Nat := multF p n n

theorem mult_div {p n : Nat} (hp : 2 ≤ p) (hn : 0 < n) (h : n % p = 0) : mult p n = mult p (n / p) + 1 := by
  obtain ⟨k, rfl⟩ : ∃ k, n = k + 1 := ⟨n - 1, by omega⟩
  show (if 2 ≤ p ∧ 0 < k + 1 ∧ (k + 1) % p = 0 then multF p k ((k + 1) / p) + 1 else 0) = multF p ((k + 1) / p) ((k + 1) / p) + 1
  rw [if_pos ⟨hp, hn, h⟩]
  have h3 := Nat.div_lt_self hn hp
  rw [multF_more k ((k + 1) / p) ((k + 1) / p) (by omega) (Nat.le_refl _)]
theorem mult_not {p n : Nat} (h : ¬ n % p = 0) : mult p n = 0 := by
  cases n with
  | zero => rfl
  | succ k =>
    show (if 2 ≤ p ∧ 0 < k + 1 ∧ (k + 1) % p = 0 then _ else 0) = 0
    rw [if_neg (fun e => h e.2.2)]
theorem mult_one {p : Nat} (hp : 2 ≤ p) : mult p 1 = 0 := mult_not (by rw [Nat.mod_eq_of_lt (by omega)]; omega)
theorem mult_times {p n : Nat} (hp : 2 ≤ p) (hn : 0 < n) : mult p (p * n) = mult p n + 1 := by
  rw [mult_div hp (Nat.mul_pos (by omega) hn) (Nat.mul_mod_right p n), Nat.mul_div_cancel_left _ (by omega)]
theorem pr_dvd {p d : Nat} (h : Pr p) (hd : d ∣ p) : d = 1 ∨ d = p := by
  obtain ⟨h2, hq⟩ := h
  obtain ⟨e, he⟩ := hd
  have hd0 : 0 < d := by
    rcases Nat.eq_zero_or_pos d with h0 | h0
    · rw [h0, Nat.zero_mul] at he; omega
    · exact h0
  have he0 : 0 < e := by
    rcases Nat.eq_zero_or_pos e with h0 | h0
    · rw [h0, Nat.mul_zero] at he; omega
    · exact h0
  rcases Nat.lt_or_ge d 2 with h1 | h1
  · exact Or.inl (by omega)
  · rcases Nat.lt_or_ge e 2 with h3 | h3
    · have : e = 1 := by omega
      rw [this, Nat.mul_one] at he
      exact Or.inr he.symm
    · exfalso
      rcases Nat.le_total d e with h4 | h4
      · exact hq d h1 (by rw [he]; exact Nat.mul_le_mul_left _ h4) (by rw [he]; exact Nat.mul_mod_right d e)
      · exact hq e h3 (by rw [he, Nat.mul_comm d e]; exact Nat.mul_le_mul_left _ h4) (by rw [he]; exact Nat.mul_mod_left d e)
theorem pr_mul {p a b : Nat} (h : Pr p) (hab : p ∣ a * b) : p ∣ a ∨ p ∣ b := by
  by_cases ha : p ∣ a
  · exact Or.inl ha
  · refine Or.inr (Nat.Coprime.dvd_of_dvd_mul_left (m := a) ?_ hab)
    rcases pr_dvd h (Nat.gcd_dvd_left p a) with h1 | h1
    · exact h1
    · exact absurd (h1 ▸ Nat.gcd_dvd_right p a) ha
theorem mult_mul {p : Nat} (h : Pr p) : ∀ a b : Nat, 0 < a → 0 < b → mult p (a * b) = mult p a + mult p b := by
  intro a
  induction a using Nat.strongRecOn with
  | _ a iha =>
    intro b ha hb
    by_cases hpa : p ∣ a
    · obtain ⟨c, rfl⟩ := hpa
      have hc : 0 < c := Nat.pos_of_mul_pos_left ha
      rw [Nat.mul_assoc, mult_times h.1 (Nat.mul_pos hc hb), mult_times h.1 hc, iha c (by have := h.1; have := Nat.mul_le_mul_right c h.1; omega) b hc hb]
      omega
    · have h0 : mult p a = 0 := mult_not (fun e => hpa (Nat.dvd_of_mod_eq_zero e))
      rw [h0, Nat.zero_add]
      induction b using Nat.strongRecOn with
      | _ b ihb =>
        by_cases hpb : p ∣ b
        · obtain ⟨c, rfl⟩ := hpb
          have hc : 0 < c := Nat.pos_of_mul_pos_left hb
          rw [Nat.mul_left_comm, mult_times h.1 (Nat.mul_pos ha hc), mult_times h.1 hc, ihb c (by have := Nat.mul_le_mul_right c h.1; omega) hc]
        · rw [mult_not (fun e => (pr_mul h (Nat.dvd_of_mod_eq_zero e)).elim hpa hpb), mult_not (fun e => hpb (Nat.dvd_of_mod_eq_zero e))]
theorem mult_self {p : Nat} (h : Pr p) : mult p p = 1 := by
  have := mult_times (p := p) (n := 1) h.1 (by omega)
  rw [Nat.mul_one, mult_one h.1] at this
  exact this
theorem mult_other {p q : Nat} (hp : Pr p) (hq : Pr q) (h : p ≠ q) : mult p q = 0 := mult_not fun e => by
  rcases pr_dvd hq (Nat.dvd_of_mod_eq_zero e) with h1 | h1
  · have := hp.1; omega
  · exact h h1
theorem mult_pow {p q : Nat} (hp : Pr p) (hq : Pr q) : ∀ m, mult p (q ^ m) = if p = q then m else 0
  | 0 => by rw [Nat.pow_zero, mult_one hp.1]; split <;> rfl
  | m + 1 => by
    have hq0 : 0 < q := by have := hq.1; omega
    rw [Nat.pow_succ, mult_mul hp _ _ (Nat.pow_pos hq0) hq0, mult_pow hp hq m]
    by_cases h : p = q
    · subst h; rw [if_pos rfl, if_pos rfl, mult_self hp]
    · rw [if_neg h, if_neg h, mult_other hp hq h]
theorem mult_bound {p : Nat} (hp : 2 ≤ p) : ∀ n, 0 < n → 2 ^ mult p n ≤ n := by
  intro n
  induction n using Nat.strongRecOn with
  | _ n ih =>
    intro hn
    by_cases h : n % p = 0
    · obtain ⟨c, rfl⟩ := Nat.dvd_of_mod_eq_zero h
      have hc : 0 < c := Nat.pos_of_mul_pos_left hn
      have hlt : c < p * c := by have := Nat.mul_le_mul_right c hp; omega
      rw [mult_times hp hc, Nat.pow_succ]
      have := ih c hlt hc
      have := Nat.mul_le_mul_right c hp
      omega
    · rw [mult_not h]; omega
theorem mult_le {p n : Nat} (hp : 2 ≤ p) (hn : 0 < n) (h6 : n ≤ 1000000) : mult p n ≤ 19 := by
  rcases Nat.lt_or_ge 19 (mult p n) with h | h
  · have h1 := mult_bound hp n hn
    have h2 : 2 ^ 20 ≤ 2 ^ mult p n := Nat.pow_le_pow_right (by decide) h
    have h3 : (2 : Nat) ^ 20 = 1048576 := by decide
    omega
  · exact h
theorem pr_least {n d : Nat} (h2 : 2 ≤ d) (hd : n % d = 0) (hl : ∀ e, 2 ≤ e → e < d → n % e ≠ 0) : Pr d :=
  ⟨h2, fun e he hee h => hl e he (by
    rcases Nat.lt_or_ge e d with h' | h'
    · exact h'
    · have := Nat.mul_le_mul h' he
      omega) (Nat.mod_eq_zero_of_dvd (Nat.dvd_trans (Nat.dvd_of_mod_eq_zero h) (Nat.dvd_of_mod_eq_zero hd)))⟩
theorem has_prime {n : Nat} (h : 2 ≤ n) : ∃ p, Pr p ∧ n % p = 0 := by
  have aux : ∀ k d, 2 ≤ d → d + k = n → (∀ e, 2 ≤ e → e < d → n % e ≠ 0) → ∃ p, Pr p ∧ n % p = 0 := by
    intro k
    induction k with
    | zero =>
      intro d hd he hl
      obtain rfl : d = n := by omega
      exact ⟨d, pr_least hd (Nat.mod_self d) hl, Nat.mod_self d⟩
    | succ k ih =>
      intro d hd he hl
      by_cases h0 : n % d = 0
      · exact ⟨d, pr_least hd h0 hl, h0⟩
      · refine ih (d + 1) (by omega) (by omega) (fun e h1 h2 => ?_)
        rcases Nat.lt_or_ge e d with h' | h'
        · exact hl e h1 h'
        · obtain rfl : e = d := by omega
          exact h0
  exact aux (n - 2) 2 (by omega) (by omega) (fun e h1 h2 => by omega)
/-- Numbers with the same multiplicities are the same. -/
theorem eq_of_mult : ∀ a b : Nat, 0 < a → 0 < b → (∀ p, Pr p → mult p a = mult p b) → a = b := by
  intro a
  induction a using Nat.strongRecOn with
  | _ a ih =>
    intro b ha hb h
    rcases Nat.lt_or_ge a 2 with h1 | h1
    · rcases Nat.lt_or_ge b 2 with h2 | h2
      · omega
      · obtain ⟨p, hp, hd⟩ := has_prime h2
        have := h p hp
        rw [show a = 1 by omega, mult_one hp.1, mult_div hp.1 hb hd] at this
        omega
    · obtain ⟨p, hp, hd⟩ := has_prime h1
      obtain ⟨c, rfl⟩ := Nat.dvd_of_mod_eq_zero hd
      have hc : 0 < c := Nat.pos_of_mul_pos_left ha
      have hm := h p hp
      rw [mult_times hp.1 hc] at hm
      have hdb : b % p = 0 := by
        by_cases h0 : b % p = 0
        · exact h0
        · rw [mult_not h0] at hm; omega
      obtain ⟨e, rfl⟩ := Nat.dvd_of_mod_eq_zero hdb
      have he : 0 < e := Nat.pos_of_mul_pos_left hb
      congr 1
      refine ih c (by have := Nat.mul_le_mul_right c hp.1; omega) e hc he (fun q hq => ?_)
      have := h q hq
      rw [mult_mul hq _ _ (by have := hp.1; omega) hc, mult_mul hq _ _ (by have := hp.1; omega) he] at this
      omega

/-- A prime, by trying. -/
def isPr (n : Nat) : Bool := decide (2 ≤ n) && (List.range (n + 1)).all fun d => !(decide (2 ≤ d) && decide (d * d ≤ n) && decide (n % d = 0))
theorem isPr_iff (n : Nat) : isPr n = true ↔ Pr n := by
  unfold isPr Pr
  simp only [Bool.and_eq_true, decide_eq_true_eq, List.all_eq_true, List.mem_range, Bool.not_eq_true', Bool.and_eq_false_imp, decide_eq_false_iff_not]
  constructor
  · rintro ⟨h1, h2⟩
    refine ⟨h1, fun d hd hdd h => ?_⟩
    have hlt : d < n + 1 := by have := Nat.mul_le_mul_left d (show 1 ≤ d by omega); omega
    exact h2 d hlt ⟨hd, hdd⟩ h
  · rintro ⟨h1, h2⟩
    exact ⟨h1, fun d _ h => h2 d h.1 h.2⟩
/-- The multiplicity of any number that is a prime. -/
def multI (x : Int) (n : Nat) : Int := if isPr x.toNat = true then (mult x.toNat n : Int) else 0
theorem multI_pr {x : Int} {n : Nat} (h : Pr x.toNat) : multI x n = (mult x.toNat n : Int) := by unfold multI; rw [if_pos ((isPr_iff _).2 h)]
theorem multI_no {x : Int} {n : Nat} (h : ¬ Pr x.toNat) : multI x n = 0 := by unfold multI; rw [if_neg (fun e => h ((isPr_iff _).1 e))]
theorem multI_one (x : Int) : multI x 1 = 0 := by
  by_cases h : Pr x.toNat
  · rw [multI_pr h, mult_one h.1]; rfl
  · exact multI_no h
theorem multI_mul (x : Int) {a b : Nat} (ha : 0 < a) (hb : 0 < b) : multI x (a * b) = multI x a + multI x b := by
  by_cases h : Pr x.toNat
  · rw [multI_pr h, multI_pr h, multI_pr h, mult_mul h a b ha hb]; simp
  · rw [multI_no h, multI_no h, multI_no h]; rfl
theorem multI_prime (x : Int) {q : Nat} (hq : Pr q) : multI x q = if x = (q : Int) then 1 else 0 := by
  by_cases h : Pr x.toNat
  · rw [multI_pr h]
    by_cases hx : x = (q : Int)
    · subst hx; rw [if_pos rfl]; simp [mult_self hq]
    · rw [if_neg hx, mult_other h hq (fun e => hx (by have := h.1; omega))]; rfl
  · rw [multI_no h, if_neg (fun e => h (by rw [e]; simpa using hq))]
theorem multI_step (x : Int) {n d : Nat} (hn : 0 < n) (hd : Pr d) (h : n % d = 0) : multI x n = multI x (n / d) + if x = (d : Int) then 1 else 0 := by
  obtain ⟨c, rfl⟩ := Nat.dvd_of_mod_eq_zero h
  have hc : 0 < c := Nat.pos_of_mul_pos_left hn
  have hd0 : 0 < d := by have := hd.1; omega
  rw [Nat.mul_div_cancel_left _ hd0, multI_mul x hd0 hc, multI_prime x hd]
  omega
theorem multI_nonneg (x : Int) (n : Nat) : 0 ≤ multI x n := by
  by_cases h : Pr x.toNat
  · rw [multI_pr h]; omega
  · rw [multI_no h]; omega
theorem multI_le (x : Int) {n : Nat} (hn : 0 < n) (h6 : n ≤ 1000000) : multI x n ≤ 19 := by
  by_cases h : Pr x.toNat
  · rw [multI_pr h]; have := mult_le h.1 hn h6; omega
  · rw [multI_no h]; omega
theorem multI_support {x : Int} {n : Nat} (hn : 0 < n) (h : multI x n ≠ 0) : Pr x.toNat ∧ 2 ≤ x ∧ x ≤ (n : Int) := by
  by_cases hp : Pr x.toNat
  · refine ⟨hp, by have := hp.1; omega, ?_⟩
    rw [multI_pr hp] at h
    have hd : n % x.toNat = 0 := by
      by_cases h0 : n % x.toNat = 0
      · exact h0
      · rw [mult_not h0] at h; exact absurd rfl h
    have := Nat.le_of_dvd hn (Nat.dvd_of_mod_eq_zero hd)
    omega
  · exact absurd (multI_no hp) h
end Go.Proofs.YtklhfagcembigaaGreatDoor
