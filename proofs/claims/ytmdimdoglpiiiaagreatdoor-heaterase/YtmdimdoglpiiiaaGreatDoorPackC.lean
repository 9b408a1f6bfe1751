/- Multiplicities of primes: plain numbers. -/
import Derived.Test.YtmdimdoglpiiiaaGreatDoorPackB
import Derived.Test.YtmdimdoglpiiiaaGreatDoorNums
import Derived.Test.YtmdimdoglpiiiaaGreatDoorPut8
import Derived.Test.YtmdimdoglpiiiaaGreatDoorValidWalk
import Derived.Test.YtmdimdoglpiiiaaGreatDoorNatTold
import Derived.Test.YtmdimdoglpiiiaaGreatDoorPackA
import Derived.Test.YtmdimdoglpiiiaaGreatDoorSides
import Derived.Test.YtmdimdoglpiiiaaGreatDoorWeights
namespace Go.Proofs.YtmdimdoglpiiiaaGreatDoor

/-- How often a number divides another one, with fuel. -/
def multF (p : Nat) : Nat → Nat → Nat
  | 0, _ => 0
  | k + 1, n => if 2 ≤ p ∧ 0 < n ∧ n % p = 0 then multF p k (n / p) + 1 else 0
theorem multF_more {p : Nat} : ∀ (k m n : Nat), n ≤ k → n ≤ m → multF p k n = multF p m n
  | 0, 0, _, _, _ => rfl
  | 0, m + 1, n, h, _ => by
    obtain rfl : n = 0 := by omega
    show 0 = if 2 ≤ p ∧ 0 < 0 ∧ 0 % p = 0 then _ else 0
    rw [if_neg (fun e => absurd e.2.1 (by decide))]
  | k + 1, 0, n, _, h => by
    obtain rfl : n = 0 := by omega
    show (if 2 ≤ p ∧ 0 < 0 ∧ 0 % p = 0 then _ else 0) = 0
    rw [if_neg (fun e => absurd e.2.1 (by decide))]
  | k + 1, m + 1, n, h1, h2 => by
    show (if 2 ≤ p ∧ 0 < n ∧ n % p = 0 then multF p k (n / p) + 1 else 0) = if 2 ≤ p ∧ 0 < n ∧ n % p = 0 then multF p m (n / p) + 1 else 0
    by_cases h : 2 ≤ p ∧ 0 < n ∧ n % p = 0
    · rw [if_pos h, if_pos h]
      have h3 := Nat.div_lt_self h.2.1 h.1
      rw [multF_more k m (n / p) (by omega) (by omega)]
    · rw [if_neg h, if_neg h]
def mult (p n : Nat) : Nat := multF p n n

theorem mult_div {p n : Nat} (hp : 2 ≤ p) (hn : 0 < n) (h : n % p = 0) : mult p n = mult p (n / p) + 1 := by
  obtain ⟨k, rfl⟩ : ∃ k, n = k + 1 := ⟨n - 1, by omega⟩
  show (if 2 ≤ p ∧ 0 < k + 1 ∧ (k + 1) % p = 0 then multF p k ((k + 1) / p) + 1 else 0) = multF p ((k + 1) / p) ((k + 1) / p) + 1
  rw [if_pos ⟨hp, hn, h⟩]
  have h3 := Nat.div_lt_self hn hp
  rw [multF_more k ((k + 1) / p) ((k + 1) / p) (by omega) (Nat.le_refl _)]
theorem mult_not {p n : Nat} (h : ¬ n % p = 0) : mult p n = 0 := by
  cases n with
  | zero => rfl
  | succ k =>
    show (if 2 ≤ p ∧ 0 < k + 1 ∧ (k + 1) % p = 0 then _ else 0) = 0
    rw [if_neg (fun e => h e.2.2)]
theorem mult_one {p : Nat} (hp : 2 ≤ p) : mult p 1 = 0 := mult_not (by rw [Nat.mod_eq_of_lt (by omega)]; omega)
theorem mult_times {p n : Nat} (hp : 2 ≤ p) (hn : 0 < n) : mult p (p * n) = mult p n + 1 := by
  rw [mult_div hp (Nat.mul_pos (by omega) hn) (Nat.mul_mod_right p n), Nat.mul_div_cancel_left _ (by omega)]
theorem pr_dvd {p d : Nat} (h : Pr p) (hd : d ∣ p) : d = 1 ∨ d = p := by
  obtain ⟨h2, hq⟩ := h
  obtain ⟨e, he⟩ := hd
  have hd0 : 0 < d := by
    rcases Nat.eq_zero_or_pos d with h0 | h0
    · rw [h0, Nat.zero_mul] at he; omega
    · exact h0
  have he0 : 0 < e := by
    rcases Nat.eq_zero_or_pos e with h0 | h0
    · rw [h0, Nat.mul_zero] at he; omega
    · exact h0
  rcases Nat.lt_or_ge d 2 with h1 | h1
  · exact Or.inl (by omega)
  · rcases Nat.lt_or_ge e 2 with h3 | h3
    · have : e = 1 := by omega
      rw [this, Nat.mul_one] at he
      exact Or.inr he.symm
    · exfalso
      rcases Nat.le_total d e with h4 | h4
      · exact hq d h1 (by rw [he]; exact Nat.mul_le_mul_left _ h4) (by rw [he]; exact Nat.mul_mod_right d e)
      · exact hq e h3 (by rw [he, Nat.mul_comm d e]; exact Nat.mul_le_mul_left _ h4) (by rw [he]; exact Nat.mul_mod_left d e)
theorem pr_mul {p a b : Nat} (h : Pr p) (hab : p ∣ a * b) : p ∣ a ∨ p ∣ b := by
  by_cases ha : p ∣ a
  · exact Or.inl ha
  · refine Or.inr (Nat.Coprime.dvd_of_dvd_mul_left (m := a) ?_ hab)
    rcases pr_dvd h (Nat.gcd_dvd_left p a) with h1 | h1
    · exact h1
    · exact absurd (h1 ▸ Nat.gcd_dvd_right p a) ha
theorem mult_mul {p : Nat} (h : Pr p) : ∀ a b : Nat, 0 < a → 0 < b → mult p (a * b) = mult p a + mult p b := by
  intro a
  induction a using Nat.strongRecOn with
  | _ a iha =>
    intro b ha hb
    by_cases hpa : p ∣ a
    · obtain ⟨c, rfl⟩ := hpa
      have hc : 0 < c := Nat.pos_of_mul_pos_left ha
      rw [Nat.mul_assoc, mult_times h.1 (Nat.mul_pos hc hb), mult_times h.1 hc, iha c (by have := h.1; have := Nat.mul_le_mul_right c h.1; omega) b hc hb]
      omega
    · have h0 : mult p a = 0 := mult_not (fun e => hpa (Nat.dvd_of_mod_eq_zero e))
      rw [h0, Nat.zero_add]
      induction b using Nat.strongRecOn with
      | _ b ihb =>
        by_cases hpb : p ∣ b
        · obtain ⟨c, rfl⟩ := hpb
          have hc : 0 < c := Nat.pos_of_mul_pos_left hb
          rw [Nat.mul_left_comm, mult_times h.1 (Nat.mul_pos ha hc), mult_times h.1 hc, ihb c (by have := Nat.mul_le_mul_right c h.1; omega) hc]
        · rw [mult_not (fun e => (pr_mul h (Nat.dvd_of_mod_eq_zero e)).elim hpa hpb), mult_not (fun e => hpb (Nat.dvd_of_mod_eq_zero e))]
theorem mult_self {p : Nat} (h : Pr p) : mult p p = 1 := by
  have := mult_times (p := p) (n := 1) h.1 (by omega)
  rw [Nat.mul_one, mult_one h.1] at this
  exact this
theorem mult_other {p q : Nat} (hp : Pr p) (hq : Pr q) (h : p ≠ q) : mult p q = 0 := mult_not fun e => by
  rcases pr_dvd hq (Nat.dvd_of_mod_eq_zero e) with h1 | h1
  · have := hp.1; omega
  · exact h h1
theorem mult_pow {p q : Nat} (hp : Pr p) (hq : Pr q) : ∀ m, mult p (q ^ m) = if p = q then m else 0
  | 0 => by rw [Nat.pow_zero, mult_one hp.1]; split <;> rfl
  | m + 1 => by
    have hq0 : 0 < q := by have := hq.1; omega
    rw [Nat.pow_succ, mult_mul hp _ _ (Nat.pow_pos hq0) hq0, mult_pow hp hq m]
    by_cases h : p = q
    · subst h; rw [if_pos rfl, if_pos rfl, mult_self hp]
    · rw [if_neg h, if_neg h, mult_other hp hq h]
theorem mult_bound {p : Nat} (hp : 2 ≤ p) : ∀ n, 0 < n → 2 ^ mult p n ≤ n := by
  intro n
  induction n using Nat.strongRecOn with
  | _ n ih =>
    intro hn
    by_cases h : n % p = 0
    · obtain ⟨c, rfl⟩ := Nat.dvd_of_mod_eq_zero h
      have hc : 0 < c := Nat.pos_of_mul_pos_left hn
      have hlt : c < p * c := by have := Nat.mul_le_mul_right c hp; omega
      rw [mult_times hp hc, Nat.pow_succ]
      have := ih c hlt hc
      have := Nat.mul_le_mul_right c hp
      omega
    · rw [mult_not h]; omega
theorem mult_le {p n : Nat} (hp : 2 ≤ p) (hn : 0 < n) (h6 : n ≤ 1000000) : mult p n ≤ 19 := by
  rcases Nat.lt_or_ge 19 (mult p n) with h | h
  · have h1 := mult_bound hp n hn
    have h2 : 2 ^ 20 ≤ 2 ^ mult p n := Nat.pow_le_pow_right (by decide) h
    have h3 : (2 : Nat) ^ 20 = 1048576 := by decide
    omega
  · exact h
theorem pr_least {n d : Nat} (h2 : 2 ≤ d) (hd : n % d = 0) (hl : ∀ e, 2 ≤ e → e < d → n % e ≠ 0) : Pr d :=
  ⟨h2, fun e he hee h => hl e he (by
    rcases Nat.lt_or_ge e d with h' | h'
    · exact h'
    · have := Nat.mul_le_mul h' he
      omega) (Nat.mod_eq_zero_of_dvd (Nat.dvd_trans (Nat.dvd_of_mod_eq_zero h) (Nat.dvd_of_mod_eq_zero hd)))⟩
theorem has_prime {n : Nat} (h : 2 ≤ n) : ∃ p, Pr p ∧ n % p = 0 := by
  have aux : ∀ k d, 2 ≤ d → d + k = n → (∀ e, 2 ≤ e → e < d → n % e ≠ 0) → ∃ p, Pr p ∧ n % p = 0 := by
    intro k
    induction k with
    | zero =>
      intro d hd he hl
      obtain rfl : d = n := by omega
      exact ⟨d, pr_least hd (Nat.mod_self d) hl, Nat.mod_self d⟩
    | succ k ih =>
      intro d hd he hl
      by_cases h0 : n % d = 0
      · exact ⟨d, pr_least hd h0 hl, h0⟩
      · refine ih (d + 1) (by omega) (by omega) (fun e h1 h2 => ?_)
        rcases Nat.lt_or_ge e d with h' | h'
        · exact hl e h1 h'
        · obtain rfl : e = d := by omega
          exact h0
  exact aux (n - 2) 2 (by omega) (by omega) (fun e h1 h2 => by omega)
/-- Numbers with the same multiplicities are the same. -/
theorem eq_of_mult : ∀ a b : Nat, 0 < a → 0 < b → (∀ p, Pr p → mult p a = mult p b) → a = b := by
  intro a
  induction a using Nat.strongRecOn with
  | _ a ih =>
    intro b ha hb h
    rcases Nat.lt_or_ge a 2 with h1 | h1
    · rcases Nat.lt_or_ge b 2 with h2 | h2
      · omega
      · obtain ⟨p, hp, hd⟩ := has_prime h2
        have := h p hp
        rw [show a = 1 by omega, mult_one hp.1, mult_div hp.1 hb hd] at this
        omega
    · obtain ⟨p, hp, hd⟩ := has_prime h1
      obtain ⟨c, rfl⟩ := Nat.dvd_of_mod_eq_zero hd
      have hc : 0 < c := Nat.pos_of_mul_pos_left ha
      have hm := h p hp
      rw [mult_times hp.1 hc] at hm
      have hdb : b % p = 0 := by
        by_cases h0 : b % p = 0
        · exact h0
        · rw [mult_not h0] at hm; omega
      obtain ⟨e, rfl⟩ := Nat.dvd_of_mod_eq_zero hdb
      have he : 0 < e := Nat.pos_of_mul_pos_left hb
      congr 1
      refine ih c (by have := Nat.mul_le_mul_right c hp.1; omega) e hc he (fun q hq => ?_)
      have := h q hq
      rw [mult_mul hq _ _ (by have := hp.1; omega) hc, mult_mul hq _ _ (by have := hp.1; omega) he] at this
      omega

/-- A prime, by trying. -/
def isPr (n : Nat) : Bool := decide (2 ≤ n) && (List.range (n + 1)).all fun d => !(decide (2 ≤ d) && decide (d * d ≤ n) && decide (n % d = 0))
theorem isPr_iff (n : Nat) : isPr n = true ↔ Pr n := by
  unfold isPr Pr
  simp only [Bool.and_eq_true, decide_eq_true_eq, List.all_eq_true, List.mem_range, Bool.not_eq_true', Bool.and_eq_false_imp, decide_eq_false_iff_not]
  constructor
  · rintro ⟨h1, h2⟩
    refine ⟨h1, fun d hd hdd h => ?_⟩
    have hlt : d < n + 1 := by have := Nat.mul_le_mul_left d (show 1 ≤ d by omega); omega
    exact h2 d hlt ⟨hd, hdd⟩ h
  · rintro ⟨h1, h2⟩
    exact ⟨h1, fun d _ h => h2 d h.1 h.2⟩
/-- The multiplicity of any number that is a prime. -/
def multI (x : Int) (n : Nat) : Int := if isPr x.toNat = true then (mult x.toNat n : Int) else 0
theorem multI_pr {x : Int} {n : Nat} (h : Pr x.toNat) : multI x n = (mult x.toNat n : Int) := by unfold multI; rw [if_pos ((isPr_iff _).2 h)]
theorem multI_no {x : Int} {n : Nat} (h : ¬ Pr x.toNat) : multI x n = 0 := by unfold multI; rw [if_neg (fun e => h ((isPr_iff _).1 e))]
theorem multI_one (x : Int) : multI x 1 = 0 := by
  by_cases h : Pr x.toNat
  · rw [multI_pr h, mult_one h.1]; rfl
  · exact multI_no h
theorem multI_mul (x : Int) {a b : Nat} (ha : 0 < a) (hb : 0 < b) : multI x (a * b) = multI x a + multI x b := by
  by_cases h : Pr x.toNat
  · rw [multI_pr h, multI_pr h, multI_pr h, mult_mul h a b ha hb]; simp
  · rw [multI_no h, multI_no h, multI_no h]; rfl
theorem multI_prime (x : Int) {q : Nat} (hq : Pr q) : multI x q = if x = (q : Int) then 1 else 0 := by
  by_cases h : Pr x.toNat
  · rw [multI_pr h]
    by_cases hx : x = (q : Int)
    · subst hx; rw [if_pos rfl]; simp [mult_self hq]
    · rw [if_neg hx, mult_other h hq (fun e => hx (by have := h.1; omega))]; rfl
  · rw [multI_no h, if_neg (fun e => h (by rw [e]; simpa using hq))]
theorem multI_step (x : Int) {n d : Nat} (hn : 0 < n) (hd : Pr d) (h : n % d = 0) : multI x n = multI x (n / d) + if x = (d : Int) then 1 else 0 := by
  obtain ⟨c, rfl⟩ := Nat.dvd_of_mod_eq_zero h
  have hc : 0 < c := Nat.pos_of_mul_pos_left hn
  have hd0 : 0 < d := by have := hd.1; omega
  rw [Nat.mul_div_cancel_left _ hd0, multI_mul x hd0 hc, multI_prime x hd]
  omega
theorem multI_nonneg (x : Int) (n : Nat) : 0 ≤ multI x n := by
  by_cases h : Pr x.toNat
  · rw [multI_pr h]; omega
  · rw [multI_no h]; omega
theorem multI_le (x : Int) {n : Nat} (hn : 0 < n) (h6 : n ≤ 1000000) : multI x n ≤ 19 := by
  by_cases h : Pr x.toNat
  · rw [multI_pr h]; have := mult_le h.1 hn h6; omega
  · rw [multI_no h]; omega
theorem multI_support {x : Int} {n : Nat} (hn : 0 < n) (h : multI x n ≠ 0) : Pr x.toNat ∧ 2 ≤ x ∧ x ≤ (n : Int) := by
  by_cases hp : Pr x.toNat
  · refine ⟨hp, by have := hp.1; omega, ?_⟩
    rw [multI_pr hp] at h
    have hd : n % x.toNat = 0 := by
      by_cases h0 : n % x.toNat = 0
      · exact h0
      · rw [mult_not h0] at h; exact absurd rfl h
    have := Nat.le_of_dvd hn (Nat.dvd_of_mod_eq_zero hd)
    omega
  · exact absurd (multI_no hp) h
end Go.Proofs.YtmdimdoglpiiiaaGreatDoor

/- (sum).putFactors at any number up to a million. -/
namespace Go.Proofs.YtmdimdoglpiiiaaGreatDoor
open Go.RowKit Go.Maps

theorem wf_int {x : Int} (h : -9223372036854775808 ≤ x ∧ x ≤ 9223372036854775807) : (Lit.int .i64 x).wf = true := by
  have h1 : IntKind.i64.min = -9223372036854775808 := by decide
  have h2 : IntKind.i64.max = 9223372036854775807 := by decide
  simp only [Lit.wf, h1, h2, Bool.and_eq_true, decide_eq_true_eq]
  exact h
theorem quo_any {a b : Nat} (h : a ≤ 1000000) : wrap64 ((a : Int) / (b : Int)) = ((a / b : Nat) : Int) := by
  have h0 : (a : Int) / (b : Int) = ((a / b : Nat) : Int) := by simp
  have h1 : a / b ≤ a := Nat.div_le_self _ _
  rw [h0]
  generalize a / b = q at h1
  rw [w64 _ (by omega)]

theorem mul_small19 {t m : Int} (ht : -1000000 ≤ t ∧ t ≤ 1000000) (hm : 0 ≤ m ∧ m ≤ 19) : -19000000 ≤ t * m ∧ t * m ≤ 19000000 := by
  obtain ⟨k, rfl⟩ := Int.eq_ofNat_of_zero_le hm.1
  have hk : k ≤ 19 := by omega
  rcases k with _ | _ | _ | _ | _ | _ | _ | _ | _ | _ | _ | _ | _ | _ | _ | _ | _ | _ | _ | _ | k <;> omega
/-- What putFactors keeps: n is left, k factors are put. -/
structure InPut (w wr : World) (b : Nat) (t : Int) (l0 : List (Int × Int)) (n0 nn0 n : Nat) (l : List (Int × Int)) (k : Nat) : Prop where
  own : wr.ownsMap Tryz.prog 3 (plainElem (H := Unit) Tryz.prog 3) b (nn0 + k) (mapOf l)
  rise : Rising l
  val : ∀ x, atL l x + t * multI x n = atL l0 x + t * multI x n0
  keys : ∀ e ∈ l, 2 ≤ e.1 ∧ e.1 ≤ 1000000
  cnt : 2 ^ k * n ≤ n0
  len : l.length ≤ l0.length + k
  grow : w.grownBy wr (some b)
  box : wr.cell? ⟨w.heap.size, 1, none⟩ = some (.map (some b))

theorem InPut.coef {w wr : World} {b : Nat} {t : Int} {l0 l : List (Int × Int)} {n0 nn0 n k : Nat} (h : InPut w wr b t l0 n0 nn0 n l k) (ht : -1000000 ≤ t ∧ t ≤ 1000000) (hn : 0 < n) (hn6 : n ≤ 1000000) (hn0 : 0 < n0) (hn06 : n0 ≤ 1000000) (hb : ∀ x, -1000000000000000 ≤ atL l0 x ∧ atL l0 x ≤ 1000000000000000) (x : Int) : -1000000100000000 ≤ atL l x ∧ atL l x ≤ 1000000100000000 := by
  have h1 := h.val x
  have h2 := hb x
  have h3 := multI_nonneg x n
  have h4 := multI_le x hn hn6
  have h5 := multI_nonneg x n0
  have h6 := multI_le x hn0 hn06
  have h7 := mul_small19 ht ⟨h3, h4⟩
  have h8 := mul_small19 ht ⟨h5, h6⟩
  omega

theorem InPut.cnt_le {w wr : World} {b : Nat} {t : Int} {l0 l : List (Int × Int)} {n0 nn0 n k : Nat} (h : InPut w wr b t l0 n0 nn0 n l k) (hn : 0 < n) (hn06 : n0 ≤ 1000000) : k ≤ 19 := by
  rcases Nat.lt_or_ge 19 k with h' | h'
  · have h1 := h.cnt
    have h2 : 2 ^ 20 ≤ 2 ^ k := Nat.pow_le_pow_right (by decide) h'
    have h3 : (2 : Nat) ^ 20 = 1048576 := by decide
    have h4 := Nat.mul_le_mul_left (2 ^ k) hn
    omega
  · exact h'

theorem InPut.put {w wr w1 : World} {b : Nat} {t : Int} {l0 l : List (Int × Int)} {n0 nn0 n k d : Nat} (h : InPut w wr b t l0 n0 nn0 n l k) (hb : b < w.heap.size) (hn : 0 < n) (hn6 : n ≤ 1000000) (hd : Pr d) (hm : n % d = 0)
    (ho : w1.ownsMap Tryz.prog 3 (plainElem (H := Unit) Tryz.prog 3) b (nn0 + k + 1) ((mapOf l).put (.int .i64 (d : Int)) (.lit (.int .i64 (atL l (d : Int) + t))))) (hg : wr.grownBy w1 (some b)) :
    InPut w w1 b t l0 n0 nn0 (n / d) (putL l (d : Int) (atL l (d : Int) + t)) (k + 1) := by
  have hdn : d ≤ n := Nat.le_of_dvd hn (Nat.dvd_of_mod_eq_zero hm)
  refine ⟨by rw [put_map] at ho; rw [← Nat.add_assoc]; exact ho, rising_put h.rise _ _, fun x => ?_, fun e he => ?_, ?_, ?_, grown_two h.grow hg, cell_beside hg h.box (by omega)⟩
  · rw [atL_put h.rise, ← h.val x, multI_step x hn hd hm, Int.mul_add]
    by_cases hx : x = (d : Int)
    · rw [if_pos hx, if_pos hx, hx, Int.mul_one]; omega
    · rw [if_neg hx, if_neg hx, Int.mul_zero]; omega
  · rcases mem_put.1 he with rfl | ⟨he, _⟩
    · have := hd.1; exact ⟨by show (2 : Int) ≤ (d : Int); omega, by show (d : Int) ≤ 1000000; omega⟩
    · exact h.keys e he
  · have h1 := h.cnt
    have h2 : 2 * (n / d) ≤ n := by
      have h3 := Nat.mul_le_mul_right (n / d) hd.1
      have h4 := Nat.mul_div_le n d
      omega
    have h5 := Nat.mul_le_mul_left (2 ^ k) h2
    rw [Nat.pow_succ, Nat.mul_assoc]
    omega
  · have h1 := length_put l (d : Int) (atL l (d : Int) + t)
    have h2 := h.len
    omega

theorem coef_at {l : List (Int × Int)} {x c : Int} (hat : (mapOf l).atKey (.int .i64 x) (.lit (.int .i64 0)) = .lit (.int .i64 c)) : c = atL l x := by
  rw [at_map] at hat
  simpa using hat.symm

theorem left_no {n d : Nat} (hm : n % d = 0) (hd : ∀ e, 2 ≤ e → e < d → n % e ≠ 0) : ∀ e, 2 ≤ e → e < d → (n / d) % e ≠ 0 := fun e h1 h2 h3 => by
  refine hd e h1 h2 (Nat.mod_eq_zero_of_dvd (Nat.dvd_trans (Nat.dvd_of_mod_eq_zero h3) ?_))
  exact ⟨d, by rw [Nat.mul_comm]; exact (Nat.mul_div_cancel' (Nat.dvd_of_mod_eq_zero hm)).symm⟩

set_option maxRecDepth 100000 in
set_option maxHeartbeats 2000000 in
theorem Put_any (den t : Int) (b n0 nn0 : Nat) (l0 : List (Int × Int)) (w : World) (hown : w.ownsMap Tryz.prog 3 (plainElem (H := Unit) Tryz.prog 3) b nn0 (mapOf l0)) (hr : Rising l0) (hk : ∀ e ∈ l0, 2 ≤ e.1 ∧ e.1 ≤ 1000000) (hb : ∀ x, -1000000000000000 ≤ atL l0 x ∧ atL l0 x ≤ 1000000000000000) (ht1 : -1000000 ≤ t ∧ t ≤ 1000000) (ht0 : ¬ t = 0) (hn1 : 1 ≤ n0) (hn6 : n0 ≤ 1000000) (hnn : nn0 ≤ 1000000) :
    Calls Tryz.prog 60 #[.agg #[.int .i64 den, .map (some b)], .int .i64 n0, .int .i64 t] w fun e w' => e = .returned (.tuple #[]) ∧ ∃ l k, InPut w w' b t l0 n0 nn0 1 l k := by
  have hbl := hown.lt
  have HT := Hid.mk' ht1
  have htb : (t == 0) = false := by simpa using ht0
  have HB := Hid.mk' hb
  have HI0 : Hid (InPut w (w.alloc (.cells #[.int .i64 den, .map (some b)] 120)) b t l0 n0 nn0 n0 l0 0) :=
    ⟨ownsMap_later hown (Below.heap_alloc _ _ b hbl), hr, fun x => rfl, hk, by simp, Nat.le_refl _, ⟨rfl, rfl, rfl, by simp, fun k hk _ => Below.heap_alloc _ _ k hk⟩, by simp⟩
  clear hown hr hk hb
  go_enter Tryz.func60, Tryz.ntmps60
  go_wp2_with fail
  go_loopw [1, 6] (fun s r wr => ∃ (n d k : Nat) (l : List (Int × Int)), s = .int .i64 n ∧ r = .int .i64 d ∧ 1 ≤ n ∧ n ≤ 1000000 ∧ 2 ≤ d ∧ d ≤ 1001 ∧ Hid (∀ e, 2 ≤ e → e < d → n % e ≠ 0) ∧ Hid (InPut w wr b t l0 n0 nn0 n l k)) (fun _ r _ => 1002 - (intOf r).toNat)
  case atStart => exact ⟨n0, 2, 0, l0, rfl, rfl, hn1, hn6, by omega, by omega, fun e h1 h2 => by omega, HI0⟩
  case round =>
    clear HI0
    obtain ⟨n, d, k, l, rfl, rfl, hn, hnm, hd2, hd3, HD, HI⟩ := hrel
    have hq := quo_any (b := d) hnm
    have hdz : ¬ (d : Int) = 0 := by omega
    by_cases hle : d * d ≤ n
    · have hbr : (d : Int) ≤ wrap64 ((n : Int) / (d : Int)) := by
        rw [hq]
        have := (sq_le_of_le_div (n := n) (show 0 < d by omega)).2 hle
        omega
      have hd1000 : d ≤ 1000 := by
        rcases Nat.lt_or_ge 1000 d with h | h
        · have := Nat.mul_le_mul h h; omega
        · exact h
      clear hq hle
      go_wp2_with fail
      obtain ⟨wo, hwo⟩ : ∃ wo, wo = wr := ⟨_, rfl⟩
      rw [← hwo] at HI ⊢
      clear hwo
      go_loopw [1] (fun s wr => ∃ (m k : Nat) (l : List (Int × Int)), s = .int .i64 m ∧ 1 ≤ m ∧ m ≤ 1000000 ∧ Hid (∀ e, 2 ≤ e → e < d → m % e ≠ 0) ∧ Hid (InPut w wr b t l0 n0 nn0 m l k)) (fun s _ => (intOf s).toNat)
      case atStart => exact ⟨n, k, l, rfl, hn, hnm, HD, HI⟩
      case round =>
        clear HD HI hbr
        obtain ⟨m, k, l, rfl, hm, hmm, HD, HI⟩ := hrel
        have hbox := HI.out.box
        by_cases hmod : m % d = 0
        · have hpr : Pr d := pr_least hd2 hmod HD.out
          have hdm : d ≤ m := Nat.le_of_dvd hm (Nat.dvd_of_mod_eq_zero hmod)
          have hb1 : ((m : Int) % (d : Int) == 0) = true := by
            have : (m : Int) % (d : Int) = ((m % d : Nat) : Int) := by simp
            rw [this, hmod]; rfl
          have hk := HI.out.cnt_le hm hn6
          have hcb := HI.out.coef HT.out hm hmm hn1 hn6 HB.out (d : Int)
          have HKEY : Hid (keyOf Tryz.prog 3 (.int .i64 (d : Int)) = some (.int .i64 (d : Int))) := keyOf_int_mk Tryz.underlying3 (wf_int (by omega))
          have HPUT := Hid.mk' (fun (w1 : World) => HI.out.put (w1 := w1) hbl hm hmm hpr hmod)
          obtain ⟨c, hc⟩ : ∃ c, c = atL l (d : Int) := ⟨_, rfl⟩
          rw [← hc] at hcb HPUT
          have HC := Hid.mk' hc
          have HMOD := Hid.mk' hmod
          have hdiv : m / d ≤ m / 2 := Nat.div_le_div_left hd2 (by omega)
          have hdiv1 : 1 ≤ m / d := Nat.div_pos hdm (by omega)
          have HQM := Hid.mk' (quo_any (b := d) hmm)
          have HDV := Hid.mk' (And.intro hdiv1 hdiv)
          clear hc hmod hpr hdiv hdiv1
          go_wp2_with (first
            | (at_lookup; go_must (refine wpList_lookup_own_int _ rfl _ _ 118 rfl 3 3 .i64 Tryz.lawInt Tryz.underlying118 Tryz.underlying3 (Tryz.zeroInt _) b _ _ rfl HI.out.own _ _ rfl HKEY.out ?_; intro c' hat hwc; have hcc := (coef_at hat).trans HC.out.symm; clear hat hwc; subst hcc))
            | (at_mapUpdate; go_must (refine wpList_mapUpdate_own _ rfl _ _ _ 118 rfl 3 3 Tryz.lawInt Tryz.underlying118 _ b _ _ rfl HI.out.own (by unfold maxLen; omega) _ _ _ rfl rfl HKEY.out _ [] (plainElem_int Tryz.underlying3 (wf_int (by omega))) ?_; intro w1 hown1 hgrow1; have HP1 := Hid.mk' (HPUT.out w1 hown1 hgrow1); clear hown1 hgrow1)))
          exact ⟨⟨m / d, k + 1, _, by rw [HQM.out], HDV.out.1, by have := HDV.out.2; omega, left_no HMOD.out HD.out, HP1⟩, by rw [HQM.out]; show (((m / d : Nat) : Int)).toNat < ((m : Nat) : Int).toNat; rw [Int.toNat_natCast, Int.toNat_natCast]; have := HDV.out.2; omega⟩
        · have hb1 : ((m : Int) % (d : Int) == 0) = false := by
            have : (m : Int) % (d : Int) = ((m % d : Nat) : Int) := by simp
            rw [this, beq_eq_false_iff_ne]; omega
          have HD' : Hid (∀ e, 2 ≤ e → e < d + 1 → m % e ≠ 0) := fun e h1 h2 => by
            rcases Nat.lt_or_ge e d with h | h
            · exact HD.out e h1 h
            · obtain rfl : e = d := by omega
              exact hmod
          clear hmod
          go_wp2_with fail
          exact ⟨⟨m, d + 1, k, l, rfl, by go_num, hm, hmm, by omega, by omega, HD', HI⟩, by simp [intOf]; omega⟩
    · have hbr : wrap64 ((n : Int) / (d : Int)) < (d : Int) := by
        rw [hq]
        have := fun h => hle ((sq_le_of_le_div (n := n) (show 0 < d by omega)).1 h)
        exact Int.ofNat_lt.2 (Nat.lt_of_not_le this)
      have hbox := HI.out.box
      clear hq
      rcases Nat.lt_or_ge 1 n with h1 | h1
      · have hpr : Pr n := Pr_of_end h1 HD.out (by omega)
        have hk := HI.out.cnt_le hn hn6
        have hcb := HI.out.coef HT.out hn hnm hn1 hn6 HB.out (n : Int)
        have HKEY : Hid (keyOf Tryz.prog 3 (.int .i64 (n : Int)) = some (.int .i64 (n : Int))) := keyOf_int_mk Tryz.underlying3 (wf_int (by omega))
        have HPUT := Hid.mk' (fun (w1 : World) => HI.out.put (w1 := w1) hbl hn hnm hpr (Nat.mod_self n))
        obtain ⟨c, hc⟩ : ∃ c, c = atL l (n : Int) := ⟨_, rfl⟩
        rw [← hc] at hcb HPUT
        have HC := Hid.mk' hc
        have hn1I : (1 : Int) < (n : Int) := by omega
        clear hc hpr hle
        go_wp2_with (first
          | (at_lookup; go_must (refine wpList_lookup_own_int _ rfl _ _ 118 rfl 3 3 .i64 Tryz.lawInt Tryz.underlying118 Tryz.underlying3 (Tryz.zeroInt _) b _ _ rfl HI.out.own _ _ rfl HKEY.out ?_; intro c' hat hwc; have hcc := (coef_at hat).trans HC.out.symm; clear hat hwc; subst hcc))
          | (at_mapUpdate; go_must (refine wpList_mapUpdate_own _ rfl _ _ _ 118 rfl 3 3 Tryz.lawInt Tryz.underlying118 _ b _ _ rfl HI.out.own (by unfold maxLen; omega) _ _ _ rfl rfl HKEY.out _ [] (plainElem_int Tryz.underlying3 (wf_int (by omega))) ?_; intro w1 hown1 hgrow1; have HP1 := Hid.mk' (HPUT.out w1 hown1 hgrow1); clear hown1 hgrow1)))
        go_end0
        have := HP1.out
        rw [Nat.div_self (by omega)] at this
        exact ⟨rfl, _, _, this⟩
      · have hn1I : (n : Int) ≤ 1 := by omega
        clear hle
        go_wp2_with fail
        go_end0
        have h1n : n = 1 := by omega
        have := HI.out
        rw [h1n] at this
        exact ⟨rfl, _, _, this⟩

theorem putFactors_any (den t : Int) (b n0 nn0 : Nat) (l0 : List (Int × Int)) (w : World) (hown : w.ownsMap Tryz.prog 3 (plainElem (H := Unit) Tryz.prog 3) b nn0 (mapOf l0)) (hr : Rising l0) (hk : ∀ e ∈ l0, 2 ≤ e.1 ∧ e.1 ≤ 1000000) (hb : ∀ x, -1000 ≤ atL l0 x ∧ atL l0 x ≤ 1000) (ht : t = 1 ∨ t = -1) (hn1 : 1 ≤ n0) (hn6 : n0 ≤ 1000000) (hnn : nn0 ≤ 1000) :
    Calls Tryz.prog 60 #[.agg #[.int .i64 den, .map (some b)], .int .i64 n0, .int .i64 t] w fun e w' => e = .returned (.tuple #[]) ∧ ∃ l k, InPut w w' b t l0 n0 nn0 1 l k :=
  Put_any den t b n0 nn0 l0 w hown hr hk (fun x => by have := hb x; omega) (by omega) (by omega) hn1 hn6 (by omega)

/-- What calls of Put leave, whatever they put: f comes to the sum, in at most c calls. -/
structure Puts (w wr : World) (b : Nat) (f : Int → Int) (c : Nat) (l0 : List (Int × Int)) (nn0 : Nat) (l : List (Int × Int)) (nn : Nat) : Prop where
  own : wr.ownsMap Tryz.prog 3 (plainElem (H := Unit) Tryz.prog 3) b nn (mapOf l)
  rise : Rising l
  val : ∀ x, atL l x = atL l0 x + f x
  keys : ∀ e ∈ l, 2 ≤ e.1 ∧ e.1 ≤ 1000000
  cnt : nn ≤ nn0 + 20 * c
  len : l.length ≤ l0.length + 20 * c
  grow : w.grownBy wr (some b)
theorem grown_refl (w : World) (b : Option Nat) : w.grownBy w b := ⟨rfl, rfl, rfl, Nat.le_refl _, fun _ _ _ => rfl⟩
theorem Puts.trans {w w1 w2 : World} {b : Nat} {f g : Int → Int} {c d : Nat} {l0 l1 l2 : List (Int × Int)} {nn0 nn1 nn2 : Nat} (h : Puts w w1 b f c l0 nn0 l1 nn1) (k : Puts w1 w2 b g d l1 nn1 l2 nn2) : Puts w w2 b (fun x => f x + g x) (c + d) l0 nn0 l2 nn2 :=
  ⟨k.own, k.rise, fun x => by rw [k.val, h.val]; omega, k.keys, by have := h.cnt; have := k.cnt; omega, by have := h.len; have := k.len; omega, grown_two h.grow k.grow⟩
theorem Puts.congr {w w1 : World} {b : Nat} {f g : Int → Int} {c d : Nat} {l0 l1 : List (Int × Int)} {nn0 nn1 : Nat} (h : Puts w w1 b f c l0 nn0 l1 nn1) (hc : c ≤ d) (he : ∀ x, f x = g x) : Puts w w1 b g d l0 nn0 l1 nn1 :=
  ⟨h.own, h.rise, fun x => by rw [h.val, he], h.keys, by have := h.cnt; omega, by have := h.len; omega, h.grow⟩
set_option maxRecDepth 100000 in
theorem Put_by (den t : Int) (b n0 nn0 : Nat) (l0 : List (Int × Int)) (w : World) (hown : w.ownsMap Tryz.prog 3 (plainElem (H := Unit) Tryz.prog 3) b nn0 (mapOf l0)) (hr : Rising l0) (hk : ∀ e ∈ l0, 2 ≤ e.1 ∧ e.1 ≤ 1000000) (hb : ∀ x, -1000000000000000 ≤ atL l0 x ∧ atL l0 x ≤ 1000000000000000) (ht1 : -1000000 ≤ t ∧ t ≤ 1000000) (hn1 : t ≠ 0 → 1 ≤ n0) (hn6 : n0 ≤ 1000000) (hnn : nn0 ≤ 1000000) :
    Calls Tryz.prog 60 #[.agg #[.int .i64 den, .map (some b)], .int .i64 n0, .int .i64 t] w fun e w' => e = .returned (.tuple #[]) ∧ ∃ l nn, Puts w w' b (fun x => t * multI x n0) 1 l0 nn0 l nn := by
  by_cases ht0 : t = 0
  · subst ht0
    have hbl := hown.lt
    have HP : Hid (Puts w (w.alloc (.cells #[.int .i64 den, .map (some b)] 120)) b (fun x => 0 * multI x n0) 1 l0 nn0 l0 nn0) :=
      ⟨ownsMap_later hown (Below.heap_alloc _ _ b hbl), hr, fun x => by simp, hk, by omega, by omega, ⟨rfl, rfl, rfl, by simp, fun k hk _ => Below.heap_alloc _ _ k hk⟩⟩
    clear hown hr hk hb hn1
    go_enter Tryz.func60, Tryz.ntmps60
    go_wp2_with fail
    exact bodyPost_ret (v := .tuple #[]) (by simp [results, Tryz.results60]) rfl ⟨rfl, _, _, HP.out⟩
  · refine (Put_any den t b n0 nn0 l0 w hown hr hk hb ht1 ht0 (hn1 ht0) hn6 hnn).mono ?_
    rintro e w' ⟨rfl, l, k, h⟩
    have hk19 := h.cnt_le (by decide) hn6
    exact ⟨rfl, l, nn0 + k, h.own, h.rise, fun x => by have := h.val x; rw [multI_one, Int.mul_zero, Int.add_zero] at this; exact this, h.keys, by omega, by have := h.len; omega, h.grow⟩
end Go.Proofs.YtmdimdoglpiiiaaGreatDoor

/- (sum).told by lists; logs.Of at any fraction. -/
namespace Go.Proofs.YtmdimdoglpiiiaaGreatDoor
open Go.RowKit Go.Maps

/-- A logarithm that was made here: its terms lie at the head of a row of their own. -/
def OwnAt (w : World) (v : Value) (n : Nat) (p c : Nat → Int) : Prop := (v = .slice none 0 0 ∧ n = 0) ∨ ∃ g cap, v = .slice (some ⟨g, 0, none⟩) n cap ∧ TermsAt w g 0 n p c
theorem ownAt_of_row {w : World} {base : Nat} {v : Value} {n : Nat} {p c : Nat → Int} (h : w.ownsRow base 90 2 v n (termCells p c n)) : OwnAt w v n p c := by
  have h' := h
  rcases h.2 with ⟨rfl, h0⟩ | ⟨g, cap, cur, rfl, _⟩
  · exact Or.inl ⟨rfl, h0⟩
  · exact Or.inr ⟨g, cap, rfl, termsAt_of_row h'⟩
theorem OwnAt.later {w w' : World} {v : Value} {n : Nat} {p c : Nat → Int} (h : OwnAt w v n p c) (hb : Below w.heap.size w w') : OwnAt w' v n p c := own_later h hb
/-- A logarithm by its list. -/
def ListAt (w : World) (v : Value) (t : List (Int × Int)) : Prop := OwnAt w v t.length (pOf t) (cOf t)

theorem getD_fst {l : List (Int × Int)} {i : Nat} (h : i < l.length) : (l.map Prod.fst).getD i 0 = (l.getD i (0, 0)).1 := by
  simp only [List.getD_eq_getElem?_getD, List.getElem?_map]
  rw [List.getElem?_eq_getElem h]
  rfl

/-- told: a sum that has a form. -/
theorem told_list (den : Int) (b nn : Nat) (l : List (Int × Int)) (w : World) (hown : w.ownsMap Tryz.prog 3 (plainElem (H := Unit) Tryz.prog 3) b nn (mapOf l)) (hr : Rising l) (hk : ∀ e ∈ l, 2 ≤ e.1 ∧ e.1 ≤ 1000000) (hlen : l.length ≤ 100000)
    (hb : ∀ x, -2305843009213693952 ≤ atL l x ∧ atL l x ≤ 2305843009213693952) (hd1 : 1 ≤ den) (hd2 : den ≤ 1000000000000) (G : Nat) (hG : gcdL den (atL l) (l.map Prod.fst) l.length = G) (hdq : den / (G : Int) ≤ 1000000) (hq : ∀ e ∈ l, (e.2.tdiv (G : Int)).natAbs ≤ 1099511627776) :
    Calls Tryz.prog 61 #[.agg #[.int .i64 den, .map (some b)]] w fun e w' => ∃ v, e = .returned (.tuple #[.agg #[.int .i64 (den / (G : Int)), v], .nilIface]) ∧ w'.ownsRow w.heap.size 90 2 v (overL G l).length (termCells (pOf (overL G l)) (cOf (overL G l)) (overL G l).length) ∧ Below w.heap.size w w' := by
  have hcf : ∀ e ∈ l, atL l e.1 = e.2 := fun e he => atL_mem hr he
  have ht := terms_flat (atL l) G l hcf
  have := told_ok den b nn (mapOf l) (atL l) (l.map Prod.fst) w hown (at_map l) (sort_keys hr) (by rw [size_map]; exact hlen) (by rw [List.length_map]; exact hlen)
    (fun x hx => by obtain ⟨e, he, rfl⟩ := List.mem_map.1 hx; have := hk e he; exact wf_int (by omega)) hd1 hd2 hb G (by rw [List.length_map]; exact hG) hdq
    (fun x hx => by obtain ⟨e, he, rfl⟩ := List.mem_map.1 hx; unfold quo; rw [hcf e he]; exact hq e he)
  rw [ht.1, ht.2, flat_cells] at this
  exact this

theorem gcdTo_one (c : Nat → Int) : ∀ k, gcdTo 1 c k = 1
  | 0 => rfl
  | k + 1 => by
    show Int.gcd (gcdTo 1 c k : Int) (c k) = 1
    rw [gcdTo_one c k]
    simp [Int.gcd]
theorem overL_one {l : List (Int × Int)} {e : Int × Int} (h : e ∈ overL 1 l) : e ∈ l := by
  obtain ⟨f, hf, rfl⟩ := mem_over h
  simpa using hf

/-- In form, by the list. -/
theorem okLog_list {den : Int} {t : List (Int × Int)} (hr : Rising t) (ht : ∀ e ∈ t, TermOk e.1 e.2) (hd1 : 1 ≤ den) (hd6 : den ≤ 1000000) (hg : gcdTo den (cOf t) t.length = 1) : OkLog den t.length (pOf t) (cOf t) := by
  refine ⟨hd1, hd6, fun i hi => ⟨?_, ht _ (getD_mem hi)⟩, hg⟩
  cases i with
  | zero =>
    show (1 : Int) < pOf t 0
    have := (ht _ (getD_mem hi)).2.2.2.2.1
    show (1 : Int) < (t.getD 0 (0, 0)).1
    omega
  | succ i =>
    show pOf t i < pOf t (i + 1)
    have := List.pairwise_iff_getElem.1 hr i (i + 1) (by omega) hi (by omega)
    simp only [pOf, List.getD_eq_getElem?_getD]
    rw [List.getElem?_eq_getElem hi, List.getElem?_eq_getElem (show i < t.length by omega)]
    exact this

theorem fresh_inPut {w w' : World} {b : Nat} {t : Int} {l0 l : List (Int × Int)} {n0 nn0 n k : Nat} (h : InPut w w' b t l0 n0 nn0 n l k) (hn : n = 1) : ∀ x, atL l x = atL l0 x + t * multI x n0 := fun x => by
  have := h.val x
  rw [hn, multI_one, Int.mul_zero, Int.add_zero] at this
  exact this
theorem log2_of {k n : Nat} (h : 2 ^ k * 1 ≤ n) (h6 : n ≤ 1000) : k ≤ 9 := by
  rcases Nat.lt_or_ge 9 k with h' | h'
  · have h2 : 2 ^ 10 ≤ 2 ^ k := Nat.pow_le_pow_right (by decide) h'
    have h3 : (2 : Nat) ^ 10 = 1024 := by decide
    omega
  · exact h'
theorem log2_of6 {k n : Nat} (h : 2 ^ k * 1 ≤ n) (h6 : n ≤ 1000000) : k ≤ 19 := by
  rcases Nat.lt_or_ge 19 k with h' | h'
  · have h2 : 2 ^ 20 ≤ 2 ^ k := Nat.pow_le_pow_right (by decide) h'
    have h3 : (2 : Nat) ^ 20 = 1048576 := by decide
    omega
  · exact h'

/-- What Of tells. -/
structure IsOf (a b : Nat) (t : List (Int × Int)) : Prop where
  rise : Rising t
  nz : ∀ e ∈ t, e.2 ≠ 0
  val : ∀ x, atL t x = multI x a - multI x b
  len : ∃ k j, 2 ^ k * 1 ≤ a ∧ 2 ^ j * 1 ≤ b ∧ t.length ≤ k + j

theorem IsOf.terms {a b : Nat} {t : List (Int × Int)} (h : IsOf a b t) (ha : 0 < a) (ha6 : a ≤ 1000000) (hb : 0 < b) (hb6 : b ≤ 1000000) : ∀ e ∈ t, TermOk e.1 e.2 ∧ -19 ≤ e.2 ∧ e.2 ≤ 19 := fun e he => by
  have h1 := atL_mem h.rise he
  rw [h.val] at h1
  have h2 := h.nz e he
  have h3 := multI_nonneg e.1 a
  have h4 := multI_le e.1 ha ha6
  have h5 := multI_nonneg e.1 b
  have h6 := multI_le e.1 hb hb6
  have h7 : Pr e.1.toNat ∧ 2 ≤ e.1 ∧ e.1 ≤ 1000000 := by
    by_cases hz : multI e.1 a = 0
    · obtain ⟨q1, q2, q3⟩ := multI_support (x := e.1) hb (by omega)
      exact ⟨q1, q2, by omega⟩
    · obtain ⟨q1, q2, q3⟩ := multI_support ha hz
      exact ⟨q1, q2, by omega⟩
  exact ⟨⟨h7.2.2, h2, by omega, by omega, h7.2.1, h7.1⟩, by omega, by omega⟩
theorem IsOf.ok {a b : Nat} {t : List (Int × Int)} (h : IsOf a b t) (ha : 0 < a) (ha6 : a ≤ 1000000) (hb : 0 < b) (hb6 : b ≤ 1000000) : OkLog 1 t.length (pOf t) (cOf t) :=
  okLog_list h.rise (fun e he => (h.terms ha ha6 hb hb6 e he).1) (by omega) (by omega) (gcdTo_one _ _)

end Go.Proofs.YtmdimdoglpiiiaaGreatDoor

/- Greatest common divisors of lists; canonical forms: each value has one. -/
namespace Go.Proofs.YtmdimdoglpiiiaaGreatDoor

theorem take_join {t : List (Int × Int)} {k : Nat} (hk : k < t.length) : t.take (k + 1) = t.take k ++ [t.getD k (0, 0)] := by
  rw [List.take_succ_eq_append_getElem hk, List.getD_eq_getElem?_getD, List.getElem?_eq_getElem hk]
  rfl
theorem OkLog.mem {den : Int} {t : List (Int × Int)} (h : OkLog den t.length (pOf t) (cOf t)) : ∀ e ∈ t, TermOk e.1 e.2 := fun e he => by
  obtain ⟨i, hi, rfl⟩ := List.getElem_of_mem he
  have := (h.2.2.1 i hi).2
  simp only [pOf, cOf, List.getD_eq_getElem?_getD] at this
  rw [List.getElem?_eq_getElem hi] at this
  exact this
theorem OkLog.rising {den : Int} {t : List (Int × Int)} (h : OkLog den t.length (pOf t) (cOf t)) : Rising t := by
  have hs : ∀ j i, i < j → j < t.length → pOf t i < pOf t j := by
    intro j
    induction j with
    | zero => intro i h1; omega
    | succ j ih =>
      intro i h1 h2
      have h3 : pOf t j < pOf t (j + 1) := (h.2.2.1 (j + 1) h2).1
      rcases Nat.lt_or_ge i j with h4 | h4
      · have := ih i h4 (by omega); omega
      · obtain rfl : i = j := by omega
        exact h3
  refine List.pairwise_iff_getElem.2 fun i j hi hj hij => ?_
  have := hs j i hij hj
  simp only [pOf, List.getD_eq_getElem?_getD] at this
  rw [List.getElem?_eq_getElem hi, List.getElem?_eq_getElem hj] at this
  exact this


/-- The greatest common divisor of a number and a list. -/
def gList : Nat → List Int → Nat
  | g, [] => g
  | g, x :: r => gList (Nat.gcd g x.natAbs) r
theorem gList_append : ∀ (L : List Int) (g : Nat) (x : Int), gList g (L ++ [x]) = Nat.gcd (gList g L) x.natAbs
  | [], _, _ => rfl
  | y :: r, g, x => gList_append r (Nat.gcd g y.natAbs) x
theorem gcdTo_list (den : Int) (t : List (Int × Int)) : ∀ k, k ≤ t.length → gcdTo den (cOf t) k = gList den.natAbs ((t.take k).map Prod.snd)
  | 0, _ => rfl
  | k + 1, h => by
    rw [take_join (by omega), List.map_append, List.map_singleton, gList_append, ← gcdTo_list den t k (by omega)]
    rfl
theorem gList_dvd : ∀ (L : List Int) (g : Nat), gList g L ∣ g ∧ ∀ x ∈ L, gList g L ∣ x.natAbs
  | [], g => ⟨Nat.dvd_refl _, fun x hx => by cases hx⟩
  | y :: r, g => by
    obtain ⟨h1, h2⟩ := gList_dvd r (Nat.gcd g y.natAbs)
    refine ⟨Nat.dvd_trans h1 (Nat.gcd_dvd_left _ _), fun x hx => ?_⟩
    rcases List.mem_cons.1 hx with rfl | hx
    · exact Nat.dvd_trans h1 (Nat.gcd_dvd_right _ _)
    · exact h2 x hx
theorem gList_greatest {d m : Nat} : ∀ (L : List Int) (g : Nat), d ∣ m * g → (∀ x ∈ L, d ∣ m * x.natAbs) → d ∣ m * gList g L
  | [], _, h, _ => h
  | y :: r, g, h, hx => gList_greatest r _ (by rw [← Nat.gcd_mul_left]; exact Nat.dvd_gcd h (hx y (List.mem_cons_self ..))) (fun x h' => hx x (List.mem_cons_of_mem _ h'))
theorem gList_zeros : ∀ (L : List Int) (g : Nat), gList g (L.filter fun x => !decide (x = 0)) = gList g L
  | [], _ => rfl
  | y :: r, g => by
    by_cases h : y = 0
    · subst h
      simp only [List.filter_cons, decide_true, Bool.not_true, Bool.false_eq_true, if_false, gList, Int.natAbs_zero, Nat.gcd_zero_right]
      exact gList_zeros r g
    · simp only [List.filter_cons, h, decide_false, Bool.not_false, if_true, gList]
      exact gList_zeros r _
theorem gList_times (G : Nat) : ∀ (L : List Int) (g : Nat), gList (G * g) (L.map fun x => (G : Int) * x) = G * gList g L
  | [], _ => rfl
  | y :: r, g => by
    simp only [List.map_cons, gList]
    rw [Int.natAbs_mul, Int.natAbs_natCast, Nat.gcd_mul_left]
    exact gList_times G r _

/-- In form, but for the bounds. -/
structure Canon (d : Nat) (t : List (Int × Int)) : Prop where
  pos : 0 < d
  rise : Rising t
  nz : ∀ e ∈ t, e.2 ≠ 0
  one : gList d (t.map Prod.snd) = 1
theorem canon_dvd {d d' : Nat} {t t' : List (Int × Int)} (h : Canon d t) (he : ∀ x, atL t x * (d' : Int) = atL t' x * (d : Int)) : d ∣ d' := by
  have := gList_greatest (d := d) (m := d') (t.map Prod.snd) d (Nat.dvd_mul_left d d') (fun x hx => by
    obtain ⟨e, he', rfl⟩ := List.mem_map.1 hx
    have h1 := he e.1
    rw [atL_mem h.rise he'] at h1
    refine ⟨(atL t' e.1).natAbs, ?_⟩
    have h2 := congrArg Int.natAbs h1
    rw [Int.natAbs_mul, Int.natAbs_mul, Int.natAbs_natCast, Int.natAbs_natCast] at h2
    rw [Nat.mul_comm d' e.2.natAbs, h2, Nat.mul_comm])
  rw [h.one, Nat.mul_one] at this
  exact this
/-- One value, one form. -/
theorem canon_uniq {d d' : Nat} {t t' : List (Int × Int)} (h : Canon d t) (h' : Canon d' t') (he : ∀ x, atL t x * (d' : Int) = atL t' x * (d : Int)) : d = d' ∧ t = t' := by
  have hd : d = d' := Nat.dvd_antisymm (canon_dvd h he) (canon_dvd h' (fun x => (he x).symm))
  subst hd
  refine ⟨rfl, rising_ext h.rise h'.rise h.nz h'.nz (fun x => ?_)⟩
  have hp : (d : Int) ≠ 0 := by have := h.pos; omega
  exact Int.eq_of_mul_eq_mul_right hp (he x)
theorem OkLog.canon {d : Nat} {t : List (Int × Int)} (h : OkLog d t.length (pOf t) (cOf t)) : Canon d t := by
  refine ⟨by have := h.1; omega, h.rising, fun e he => (h.mem e he).2.1, ?_⟩
  have := h.2.2.2
  rw [gcdTo_list _ _ _ (Nat.le_refl _), List.take_length, Int.natAbs_natCast] at this
  exact this

theorem over_snd (G : Nat) : ∀ l : List (Int × Int), (overL G l).map Prod.snd = (l.map fun e => e.2.tdiv (G : Int)).filter fun x => !decide (x = 0)
  | [] => rfl
  | e :: r => by
    have ih := over_snd G r
    unfold overL at ih ⊢
    by_cases h : e.2.tdiv (G : Int) = 0
    · simp only [List.map_cons, List.filter_cons, h, decide_true, Bool.not_true, Bool.false_eq_true, if_false]
      exact ih
    · simp only [List.map_cons, List.filter_cons, h, decide_false, Bool.not_false, if_true, List.map_cons]
      rw [ih]
/-- A sum over its common divisor is in form, but for the bounds. -/
theorem over_canon {D G : Nat} {l : List (Int × Int)} (hD : 0 < D) (hr : Rising l) (hG : gcdL (D : Int) (atL l) (l.map Prod.fst) l.length = G) : G ∣ D ∧ 0 < G ∧ (∀ x, atL l x = (G : Int) * atL (overL G l) x) ∧ Canon (D / G) (overL G l) := by
  have h0 : gcdL (D : Int) (atL l) (l.map Prod.fst) l.length = gcdTo (D : Int) (cOf l) l.length := by
    have aux : ∀ k, k ≤ l.length → gcdTo (D : Int) (fun i => atL l ((l.map Prod.fst).getD i 0)) k = gcdTo (D : Int) (cOf l) k := by
      intro k
      induction k with
      | zero => intro _; rfl
      | succ k ih =>
        intro hk
        show Int.gcd (gcdTo (D : Int) (fun i => atL l ((l.map Prod.fst).getD i 0)) k : Int) (atL l ((l.map Prod.fst).getD k 0)) = Int.gcd (gcdTo (D : Int) (cOf l) k : Int) (cOf l k)
        rw [ih (by omega)]
        have : atL l ((l.map Prod.fst).getD k 0) = cOf l k := by rw [getD_fst (by omega)]; exact atL_mem hr (getD_mem (by omega))
        rw [this]
    exact aux _ (Nat.le_refl _)
  rw [h0, gcdTo_list _ _ _ (Nat.le_refl _), List.take_length, Int.natAbs_natCast] at hG
  obtain ⟨g1, g2⟩ := gList_dvd (l.map Prod.snd) D
  rw [hG] at g1 g2
  have hGp : 0 < G := Nat.pos_of_dvd_of_pos g1 hD
  have hex : ∀ e ∈ l, e.2 = (G : Int) * e.2.tdiv (G : Int) := fun e he => by
    have h1 : (G : Int) ∣ e.2 := Int.ofNat_dvd_left.2 (g2 _ (List.mem_map.2 ⟨e, he, rfl⟩))
    exact (Int.mul_tdiv_cancel' h1).symm
  have hval : ∀ x, atL l x = (G : Int) * atL (overL G l) x := fun x => by
    rw [atL_over hr]
    by_cases hx : atL l x = 0
    · rw [hx]; simp
    · exact hex _ (atL_some hx)
  refine ⟨g1, hGp, hval, ⟨Nat.div_pos (Nat.le_of_dvd hD g1) hGp, rising_over hr G, fun e he => over_nz he, ?_⟩⟩
  have h1 : l.map Prod.snd = (l.map fun e => e.2.tdiv (G : Int)).map fun x => (G : Int) * x := by
    rw [List.map_map]
    exact List.map_congr_left fun e he => hex e he
  have h2 := over_snd G l
  rw [h2, gList_zeros]
  have h3 := gList_times G (l.map fun e => e.2.tdiv (G : Int)) (D / G)
  rw [← h1, Nat.mul_div_cancel' g1, hG] at h3
  exact Nat.eq_of_mul_eq_mul_left hGp (by rw [← h3, Nat.mul_one])
end Go.Proofs.YtmdimdoglpiiiaaGreatDoor

/- Fractions over one denominator in their lowest terms; sums by rising lists. -/
namespace Go.Proofs.YtmdimdoglpiiiaaGreatDoor

def lowG (M : Nat) (z : Int) : Nat := Nat.gcd z.natAbs M
def lowN (M : Nat) (z : Int) : Int := z.tdiv (lowG M z : Int)
def lowD (M : Nat) (z : Int) : Nat := M / lowG M z

theorem low_parts {n : Int} {d : Nat} (hd : 0 < d) : 0 < Nat.gcd n.natAbs d ∧ n = ((Nat.gcd n.natAbs d : Nat) : Int) * n.tdiv ((Nat.gcd n.natAbs d : Nat) : Int) ∧ d = Nat.gcd n.natAbs d * (d / Nat.gcd n.natAbs d) ∧ Nat.Coprime (n.tdiv ((Nat.gcd n.natAbs d : Nat) : Int)).natAbs (d / Nat.gcd n.natAbs d) ∧ (n.tdiv ((Nat.gcd n.natAbs d : Nat) : Int)).natAbs = n.natAbs / Nat.gcd n.natAbs d ∧ 0 < d / Nat.gcd n.natAbs d := by
  have hg : 0 < Nat.gcd n.natAbs d := Nat.gcd_pos_of_pos_right _ hd
  have h1 : Nat.gcd n.natAbs d ∣ n.natAbs := Nat.gcd_dvd_left _ _
  have h2 : Nat.gcd n.natAbs d ∣ d := Nat.gcd_dvd_right _ _
  have h3 : (n.tdiv ((Nat.gcd n.natAbs d : Nat) : Int)).natAbs = n.natAbs / Nat.gcd n.natAbs d := by rw [Int.natAbs_tdiv]; rfl
  refine ⟨hg, ?_, (Nat.mul_div_cancel' h2).symm, ?_, h3, Nat.div_pos (Nat.le_of_dvd hd h2) hg⟩
  · rw [Int.mul_tdiv_cancel' (Int.ofNat_dvd_left.2 h1)]
  · rw [h3]
    exact Nat.coprime_div_gcd_div_gcd hg
theorem lowG_pos {M : Nat} (h : 0 < M) (z : Int) : 0 < lowG M z := Nat.gcd_pos_of_pos_right _ h
theorem lowD_pos {M : Nat} (h : 0 < M) (z : Int) : 0 < lowD M z := (low_parts (n := z) h).2.2.2.2.2
theorem lowD_le (M : Nat) (z : Int) : lowD M z ≤ M := Nat.div_le_self _ _
theorem lowN_le {M : Nat} (h : 0 < M) (z : Int) : (lowN M z).natAbs ≤ z.natAbs := by
  have := (low_parts (n := z) h).2.2.2.2.1
  show (z.tdiv ((Nat.gcd z.natAbs M : Nat) : Int)).natAbs ≤ _
  rw [this]
  exact Nat.div_le_self _ _
theorem low_cross {M : Nat} (h : 0 < M) (z : Int) : lowN M z * (M : Int) = z * (lowD M z : Int) := by
  obtain ⟨_, h1, h2, _⟩ := low_parts (n := z) h
  have h2' : (M : Int) = ((Nat.gcd z.natAbs M : Nat) : Int) * ((M / Nat.gcd z.natAbs M : Nat) : Int) := by rw [← Int.natCast_mul, ← h2]
  show z.tdiv ((Nat.gcd z.natAbs M : Nat) : Int) * (M : Int) = z * ((M / Nat.gcd z.natAbs M : Nat) : Int)
  generalize Nat.gcd z.natAbs M = g at *
  generalize M / g = q at *
  generalize z.tdiv (g : Int) = t at *
  rw [h2', h1, ← Int.mul_assoc, Int.mul_comm t]
/-- One fraction has one lowest form. -/
theorem low_same {M d : Nat} {z n : Int} (hM : 0 < M) (hd : 0 < d) (h : n * (M : Int) = z * (d : Int)) : n.tdiv ((Nat.gcd n.natAbs d : Nat) : Int) = lowN M z ∧ d / Nat.gcd n.natAbs d = lowD M z := by
  obtain ⟨g1, g2, g3, g4, _, g6⟩ := low_parts (n := n) hd
  obtain ⟨k1, k2, k3, k4, _, k6⟩ := low_parts (n := z) hM
  show _ = z.tdiv ((Nat.gcd z.natAbs M : Nat) : Int) ∧ _ = M / Nat.gcd z.natAbs M
  generalize Nat.gcd n.natAbs d = g at *
  generalize Nat.gcd z.natAbs M = k at *
  generalize n.tdiv (g : Int) = n' at *
  generalize z.tdiv (k : Int) = z' at *
  generalize d / g = d' at *
  generalize M / k = m' at *
  have h1 : n' * (m' : Int) = z' * (d' : Int) := by
    have h2 : ((g : Int) * (k : Int)) * (n' * (m' : Int)) = ((g : Int) * (k : Int)) * (z' * (d' : Int)) := by
      calc ((g : Int) * (k : Int)) * (n' * (m' : Int)) = ((g : Int) * n') * ((k : Int) * (m' : Int)) := by grind
        _ = n * (M : Int) := by rw [← g2, ← Int.natCast_mul, ← k3]
        _ = z * (d : Int) := h
        _ = ((k : Int) * z') * ((g : Int) * (d' : Int)) := by rw [← k2, ← Int.natCast_mul, ← g3]
        _ = _ := by grind
    refine Int.eq_of_mul_eq_mul_left ?_ h2
    intro h0
    rcases Int.mul_eq_zero.1 h0 with h3 | h3 <;> omega
  have h2 : n'.natAbs * m' = z'.natAbs * d' := by
    have := congrArg Int.natAbs h1
    rwa [Int.natAbs_mul, Int.natAbs_mul, Int.natAbs_natCast, Int.natAbs_natCast] at this
  have h3 : m' ∣ d' := k4.symm.dvd_of_dvd_mul_left ⟨n'.natAbs, by rw [← h2, Nat.mul_comm]⟩
  have h4 : d' ∣ m' := g4.symm.dvd_of_dvd_mul_left ⟨z'.natAbs, by rw [h2, Nat.mul_comm]⟩
  have h5 : d' = m' := Nat.dvd_antisymm h4 h3
  subst h5
  exact ⟨Int.eq_of_mul_eq_mul_right (by omega) h1, rfl⟩
theorem low_plus {M : Nat} (hM : 0 < M) (z1 z2 : Int) : (lowN M z1 * (lowD M z2 : Int) + lowN M z2 * (lowD M z1 : Int)).tdiv ((Nat.gcd (lowN M z1 * (lowD M z2 : Int) + lowN M z2 * (lowD M z1 : Int)).natAbs (lowD M z1 * lowD M z2) : Nat) : Int) = lowN M (z1 + z2) ∧ lowD M z1 * lowD M z2 / Nat.gcd (lowN M z1 * (lowD M z2 : Int) + lowN M z2 * (lowD M z1 : Int)).natAbs (lowD M z1 * lowD M z2) = lowD M (z1 + z2) := by
  refine low_same hM (Nat.mul_pos (lowD_pos hM z1) (lowD_pos hM z2)) ?_
  have h1 := low_cross hM z1
  have h2 := low_cross hM z2
  rw [Int.natCast_mul]
  generalize lowN M z1 = a at *
  generalize lowN M z2 = b at *
  generalize (lowD M z1 : Int) = c at *
  generalize (lowD M z2 : Int) = e at *
  generalize (M : Int) = m at *
  grind
theorem low_one (z : Int) : lowN 1 z = z ∧ lowD 1 z = 1 := by
  unfold lowN lowD lowG
  rw [Nat.gcd_one_right]
  exact ⟨Int.tdiv_one z, rfl⟩

/-- A sum with a prime more. -/
structure Put (l l' : List (Int × Int)) (p z : Int) : Prop where
  rise : Rising l'
  val : ∀ x, atL l' x = atL l x + if x = p then z else 0
  len : l'.length ≤ l.length + 1
  keys : ∀ e ∈ l', e.1 = p ∨ ∃ f ∈ l, f.1 = e.1
theorem atL_two : ∀ (A B : List (Int × Int)) (x : Int), atL (A ++ B) x = if (∃ e ∈ A, e.1 = x) then atL A x else atL B x
  | [], B, x => by simp
  | e :: A, B, x => by
    show (if e.1 = x then e.2 else atL (A ++ B) x) = _
    by_cases h : e.1 = x
    · rw [if_pos h, if_pos ⟨e, List.mem_cons_self .., h⟩]
      show _ = if e.1 = x then e.2 else atL A x
      rw [if_pos h]
    · rw [if_neg h, atL_two A B x]
      show _ = if _ then (if e.1 = x then e.2 else atL A x) else _
      rw [if_neg h]
      have hi : (∃ f ∈ e :: A, f.1 = x) ↔ ∃ f ∈ A, f.1 = x := by
        constructor
        · rintro ⟨f, hf, hx⟩
          rcases List.mem_cons.1 hf with rfl | hf
          · exact absurd hx h
          · exact ⟨f, hf, hx⟩
        · rintro ⟨f, hf, hx⟩
          exact ⟨f, List.mem_cons_of_mem _ hf, hx⟩
      by_cases hA : ∃ f ∈ A, f.1 = x
      · rw [if_pos hA, if_pos (hi.2 hA)]
      · rw [if_neg hA, if_neg (fun h => hA (hi.1 h))]
theorem put_found {A R : List (Int × Int)} {p v z : Int} (h : Rising (A ++ (p, v) :: R)) : Put (A ++ (p, v) :: R) (A ++ (p, v + z) :: R) p z := by
  have h' := List.pairwise_append.1 h
  refine ⟨List.pairwise_append.2 ⟨h'.1, ?_, ?_⟩, fun x => ?_, by simp, fun e he => ?_⟩
  · have := List.pairwise_cons.1 h'.2.1
    exact List.pairwise_cons.2 ⟨fun b hb => this.1 b hb, this.2⟩
  · intro a ha b hb
    rcases List.mem_cons.1 hb with rfl | hb
    · exact h'.2.2 a ha (p, v) (List.mem_cons_self ..)
    · exact h'.2.2 a ha b (List.mem_cons_of_mem _ hb)
  · rw [atL_two, atL_two]
    by_cases hA : ∃ e ∈ A, e.1 = x
    · rw [if_pos hA, if_pos hA]
      obtain ⟨e, he, hx⟩ := hA
      have := h'.2.2 e he (p, v) (List.mem_cons_self ..)
      rw [if_neg (by simp only at this; omega)]
      omega
    · rw [if_neg hA, if_neg hA]
      show (if p = x then v + z else atL R x) = (if p = x then v else atL R x) + _
      by_cases hp : p = x
      · rw [if_pos hp, if_pos hp, if_pos hp.symm]
      · rw [if_neg hp, if_neg hp, if_neg (Ne.symm hp)]; omega
  · rcases List.mem_append.1 he with he | he
    · exact Or.inr ⟨e, List.mem_append_left _ he, rfl⟩
    · rcases List.mem_cons.1 he with rfl | he
      · exact Or.inl rfl
      · exact Or.inr ⟨e, List.mem_append_right _ (List.mem_cons_of_mem _ he), rfl⟩
theorem put_new {A R : List (Int × Int)} {p z : Int} (h : Rising (A ++ R)) (hA : ∀ e ∈ A, e.1 < p) (hR : ∀ e ∈ R, p < e.1) : Put (A ++ R) (A ++ (p, z) :: R) p z := by
  have h' := List.pairwise_append.1 h
  refine ⟨List.pairwise_append.2 ⟨h'.1, List.pairwise_cons.2 ⟨fun b hb => hR b hb, h'.2.1⟩, ?_⟩, fun x => ?_, by simp; omega, fun e he => ?_⟩
  · intro a ha b hb
    rcases List.mem_cons.1 hb with rfl | hb
    · exact hA a ha
    · exact h'.2.2 a ha b hb
  · rw [atL_two, atL_two]
    by_cases hA' : ∃ e ∈ A, e.1 = x
    · rw [if_pos hA', if_pos hA']
      obtain ⟨e, he, hx⟩ := hA'
      have := hA e he
      rw [if_neg (by omega)]
      omega
    · rw [if_neg hA', if_neg hA']
      show (if p = x then z else atL R x) = _
      by_cases hp : p = x
      · rw [if_pos hp, if_pos hp.symm, atL_none (fun e he => by have := hR e he; omega)]; omega
      · rw [if_neg hp, if_neg (Ne.symm hp)]; omega
  · rcases List.mem_append.1 he with he | he
    · exact Or.inr ⟨e, List.mem_append_left _ he, rfl⟩
    · rcases List.mem_cons.1 he with rfl | he
      · exact Or.inl rfl
      · exact Or.inr ⟨e, List.mem_append_right _ he, rfl⟩

/-- The least common multiple, as Told makes it. -/
theorem lcm_part {M a b : Nat} (hM : 0 < M) (ha : a ∣ M) (hb : b ∣ M) : M / a * (M / b / Nat.gcd (M / a) (M / b)) = M / Nat.gcd a b := by
  obtain ⟨a', rfl⟩ := ha
  obtain ⟨b', hb'⟩ := hb
  have pa : 0 < a := Nat.pos_of_mul_pos_right hM
  have pa' : 0 < a' := Nat.pos_of_mul_pos_left hM
  have pb : 0 < b := by rw [hb'] at hM; exact Nat.pos_of_mul_pos_right hM
  rw [Nat.mul_div_cancel_left _ pa]
  have e1 : a * a' / b = b' := by rw [hb', Nat.mul_div_cancel_left _ pb]
  rw [e1]
  have hg : 0 < Nat.gcd a' b' := Nat.gcd_pos_of_pos_left _ pa'
  have hh : 0 < Nat.gcd a b := Nat.gcd_pos_of_pos_left _ pa
  have key : b' * Nat.gcd a b = a * Nat.gcd a' b' := by
    rw [Nat.mul_comm b', ← Nat.gcd_mul_right, ← hb', Nat.gcd_mul_left, Nat.gcd_comm b' a']
  have hc : b' = Nat.gcd a' b' * (b' / Nat.gcd a' b') := (Nat.mul_div_cancel' (Nat.gcd_dvd_right a' b')).symm
  generalize b' / Nat.gcd a' b' = c at *
  generalize Nat.gcd a' b' = g' at *
  generalize Nat.gcd a b = h at *
  have h1 : g' * (c * h) = g' * a := by rw [← Nat.mul_assoc, ← hc, key, Nat.mul_comm]
  have h2 : c * h = a := Nat.eq_of_mul_eq_mul_left hg h1
  rw [← h2, Nat.mul_right_comm, Nat.mul_div_cancel _ hh, Nat.mul_comm]
end Go.Proofs.YtmdimdoglpiiiaaGreatDoor

/- What is carried, in numbers: how great it grows, and what is told of it in the end. -/
namespace Go.Proofs.YtmdimdoglpiiiaaGreatDoor
open Go.RowKit

/-- How great the denominator may be behind t steps. -/
def bdT (t : Nat) : Nat := 2 ^ (14 + 96 * t)
theorem bdT_step (t : Nat) : bdT t * 2 ^ 96 = bdT (t + 1) := by unfold bdT; rw [← Nat.pow_add]; congr 1
theorem bdT_pos (t : Nat) : 0 < bdT t := Nat.pow_pos (by decide)
theorem bdT_le {s t : Nat} (h : s ≤ t) : bdT s ≤ bdT t := by unfold bdT; exact Nat.pow_le_pow_right (by decide) (by omega)
theorem bdT_four : bdT 4 ≤ 2 ^ 199 * 2 ^ 199 := by decide +kernel
theorem bdT_mono {t : Nat} (h : t ≤ 4) : bdT t ≤ 2 ^ 199 * 2 ^ 199 := Nat.le_trans (bdT_le h) bdT_four
theorem pow4 {n : Nat} (h : n ≤ 4) : 4096 ^ n ≤ 2 ^ 48 := by
  calc 4096 ^ n ≤ 4096 ^ 4 := Nat.pow_le_pow_right (by decide) h
    _ = 2 ^ 48 := by decide
theorem prdU_sml {u : Nat → Nat} {n k : Nat} (hn : n ≤ 4) (hk : k ≤ n) (hu : ∀ i, i < n → u i ≤ 4096) : prdU u k ≤ 2 ^ 48 := Nat.le_trans (prdU_le (fun i hi => hu i (by omega))) (pow4 (by omega))
theorem prdX_sml {u : Nat → Nat} {i n k : Nat} (hn : n ≤ 4) (hk : k ≤ n) (hu : ∀ i, i < n → u i ≤ 4096) : prdX u i k ≤ 2 ^ 48 := Nat.le_trans (prdX_le (by decide) (fun i hi => hu i (by omega))) (pow4 (by omega))
theorem car_le {n S : Nat} {w P : Nat → Nat} {D : Nat} (h : Car n S w P D) (hS : 0 < S) (hw : ∀ i, i < n → w i ≤ 4096) {i : Nat} (hi : i < n) : P i ≤ 4096 * D := by
  have h1 := h i hi
  have h2 : P i ≤ P i * S := Nat.le_mul_of_pos_right _ hS
  rw [h1] at h2
  exact Nat.le_trans h2 (Nat.mul_le_mul_right _ (hw i hi))
theorem big_room {x : Nat} (h : x ≤ 2 ^ 250 * 2 ^ 250 * 2 ^ 200) : x < 18446744073709551616 ^ 12 := Nat.lt_of_le_of_lt h (by decide +kernel)
/-- All that a round asks of sizes. -/
theorem round_sml {n S t : Nat} {u v X : Nat → Nat} {E : Nat} {q : Nat → Nat → Nat} {R : Nat → Nat} (hC : Car n S u X E) (hS : 0 < S) (hn : n ≤ 4) (ht : t < 4) (hE : E ≤ bdT t) (hu : ∀ i, i < n → u i ≤ 4096) (hv : ∀ i, i < n → v i ≤ 4096) (hR : ∀ i, i < n → R i ≤ 4096) (hq : ∀ i k, i < n → k < n → q i k ≤ 4096) :
    (∀ i, i < n → ∀ k, k ≤ n → X i * prdX u i k < 18446744073709551616 ^ 12) ∧ (∀ k, k ≤ n → E * prdU u k < 18446744073709551616 ^ 12) ∧ (∀ i, i < n → ∀ k, k ≤ n → X i * prdX u i n * v i * prdX R i k < 18446744073709551616 ^ 12) ∧ (∀ k, k ≤ n → E * prdU u n * prdU R k < 18446744073709551616 ^ 12) ∧ (∀ k, k < n → ∀ i, i ≤ n → smU (fun j => X j * prdX u j n * v j * prdX R j n * q j k) i < 18446744073709551616 ^ 12) ∧ E * prdU u n * prdU R n ≤ bdT (t + 1) := by
  have hE2 : E ≤ (2 ^ 199 * 2 ^ 199) := Nat.le_trans hE (bdT_mono (by omega))
  have hX : ∀ i, i < n → X i ≤ 2 ^ 12 * (2 ^ 199 * 2 ^ 199) := fun i hi => Nat.le_trans (car_le hC hS hu hi) (Nat.mul_le_mul_left _ hE2)
  have a1 : ∀ i, i < n → ∀ k, k ≤ n → X i * prdX u i k ≤ 2 ^ 12 * (2 ^ 199 * 2 ^ 199) * 2 ^ 48 := fun i hi k hk => Nat.mul_le_mul (hX i hi) (prdX_sml hn hk hu)
  have a2 : ∀ k, k ≤ n → E * prdU u k ≤ (2 ^ 199 * 2 ^ 199) * 2 ^ 48 := fun k hk => Nat.mul_le_mul hE2 (prdU_sml hn hk hu)
  have a3 : ∀ i, i < n → ∀ k, k ≤ n → X i * prdX u i n * v i * prdX R i k ≤ 2 ^ 12 * (2 ^ 199 * 2 ^ 199) * 2 ^ 48 * 2 ^ 12 * 2 ^ 48 := fun i hi k hk => Nat.mul_le_mul (Nat.mul_le_mul (a1 i hi n (Nat.le_refl _)) (hv i hi)) (prdX_sml hn hk hR)
  have a4 : ∀ k, k ≤ n → E * prdU u n * prdU R k ≤ (2 ^ 199 * 2 ^ 199) * 2 ^ 48 * 2 ^ 48 := fun k hk => Nat.mul_le_mul (a2 n (Nat.le_refl _)) (prdU_sml hn hk hR)
  have a5 : ∀ k, k < n → ∀ i, i ≤ n → smU (fun j => X j * prdX u j n * v j * prdX R j n * q j k) i ≤ 4 * (2 ^ 12 * (2 ^ 199 * 2 ^ 199) * 2 ^ 48 * 2 ^ 12 * 2 ^ 48 * 2 ^ 12) := fun k hk i hi => by
    refine Nat.le_trans (smU_le (u := fun j => X j * prdX u j n * v j * prdX R j n * q j k) (B := 2 ^ 12 * (2 ^ 199 * 2 ^ 199) * 2 ^ 48 * 2 ^ 12 * 2 ^ 48 * 2 ^ 12) (fun j hj => Nat.mul_le_mul (a3 j (by omega) n (Nat.le_refl _)) (hq j k (by omega) hk))) ?_
    exact Nat.mul_le_mul_right _ (by omega)
  refine ⟨fun i hi k hk => big_room (Nat.le_trans (a1 i hi k hk) (by decide +kernel)), fun k hk => big_room (Nat.le_trans (a2 k hk) (by decide +kernel)), fun i hi k hk => big_room (Nat.le_trans (a3 i hi k hk) (by decide +kernel)), fun k hk => big_room (Nat.le_trans (a4 k hk) (by decide +kernel)), fun k hk i hi => big_room (Nat.le_trans (a5 k hk i hi) (by decide +kernel)), ?_⟩
  rw [← bdT_step]
  have b1 : E * prdU u n * prdU R n ≤ bdT t * 2 ^ 48 * 2 ^ 48 := Nat.mul_le_mul (Nat.mul_le_mul hE (prdU_sml hn (Nat.le_refl _) hu)) (prdU_sml hn (Nat.le_refl _) hR)
  have b2 : bdT t * 2 ^ 48 * 2 ^ 48 = bdT t * 2 ^ 96 := by rw [Nat.mul_assoc, ← Nat.pow_add]
  rw [b2] at b1
  exact b1
theorem end_sml {n S : Nat} {u X : Nat → Nat} {E : Nat} (hC : Car n S u X E) (hS : 0 < S) (hn : n ≤ 4) (hE : E ≤ bdT 4) (hu : ∀ i, i < n → u i ≤ 4096) : E < 18446744073709551616 ^ 12 ∧ (∀ k, k ≤ n → smU X k < 18446744073709551616 ^ 12) ∧ ∀ i, i < n → X i < 18446744073709551616 ^ 12 := by
  have hE2 : E ≤ (2 ^ 199 * 2 ^ 199) := Nat.le_trans hE (bdT_mono (by omega))
  have hX : ∀ i, i < n → X i ≤ 2 ^ 12 * (2 ^ 199 * 2 ^ 199) := fun i hi => Nat.le_trans (car_le hC hS hu hi) (Nat.mul_le_mul_left _ hE2)
  refine ⟨big_room (Nat.le_trans hE2 (by decide +kernel)), fun k hk => big_room ?_, fun i hi => big_room (Nat.le_trans (hX i hi) (by decide +kernel))⟩
  refine Nat.le_trans (smU_le (fun i hi => hX i (by omega))) ?_
  exact Nat.le_trans (Nat.mul_le_mul_right _ (show k ≤ 4 by omega)) (by decide +kernel)
/-- What is told of N over D is what is told of A over B, if they are the same. -/
theorem told_same {a : Nat → Addr} {N D A B : Nat} (hD : 0 < D) (hB : 0 < B) (h : N * B = A * D) : N / Nat.gcd N D = A / Nat.gcd A B ∧ D / Nat.gcd N D = B / Nat.gcd A B ∧ toldV a N D = toldV a A B := by
  have h1 := low_same (M := B) (d := D) (z := (A : Int)) (n := (N : Int)) hB hD (by rw [← Int.natCast_mul, ← Int.natCast_mul, h])
  unfold lowN lowD lowG at h1
  rw [Int.natAbs_natCast, Int.natAbs_natCast] at h1
  have h3 : ((N / Nat.gcd N D : Nat) : Int) = ((A / Nat.gcd A B : Nat) : Int) := h1.1
  have h2 : N / Nat.gcd N D = A / Nat.gcd A B := by omega
  refine ⟨h2, h1.2, ?_⟩
  unfold toldV
  rw [h2, h1.2]
/-- Numbers of a right process. -/
def nU (W : Nat → Nat → Int) (t i : Nat) : Nat := (W t i).toNat
def nQ (P : Nat → Nat → Nat → Int) (t i k : Nat) : Nat := (P t i k).toNat
section
variable {L n : Nat} {ns : Nat → Nat} {W : Nat → Nat → Int} {T : Nat} {R : Nat → Nat} {rn : Nat → Nat → Nat} {P : Nat → Nat → Nat → Int}
theorem OkP.u_cast (h : OkP L n ns W T R rn P) {t i : Nat} (ht : t < L) (hi : i < n) : W t i = ((nU W t i : Nat) : Int) := by have := h.hW t i ht hi; unfold nU; omega
theorem OkP.u_bd (h : OkP L n ns W T R rn P) {t i : Nat} (ht : t < L) (hi : i < n) : 1 ≤ nU W t i ∧ nU W t i ≤ 1000 := by have := h.hW t i ht hi; unfold nU; omega
theorem OkP.q_cast (h : OkP L n ns W T R rn P) {t i k : Nat} (ht : t < T) (hi : i < n) (hk : k < n) : P t i k = ((nQ P t i k : Nat) : Int) := by have := (h.hP t i ht hi).lt hk; unfold nQ; omega
theorem OkP.q_sum (h : OkP L n ns W T R rn P) {t i : Nat} (ht : t < T) (hi : i < n) : sumN (P t i) n = ((smU (nQ P t i) n : Nat) : Int) := sumN_smU fun _ hk => h.q_cast ht hi hk
theorem OkP.r_bd (h : OkP L n ns W T R rn P) {t i : Nat} (ht : t < T) (hi : i < n) : 0 < smU (nQ P t i) n ∧ smU (nQ P t i) n ≤ 4096 := by
  have h1 := h.q_sum ht hi
  have h2 := (h.hP t i ht hi).le
  have h3 := (h.hP t i ht hi).pos
  omega
theorem OkP.q_bd (h : OkP L n ns W T R rn P) {t i k : Nat} (ht : t < T) (hi : i < n) (hk : k < n) : nQ P t i k ≤ 4096 := Nat.le_trans (smU_ge (u := nQ P t i) hk) (h.r_bd ht hi).2
theorem OkP.balN (h : OkP L n ns W T R rn P) {t : Nat} (ht : t < T) : Bal n (nU W (t + 1)) (nQ P t) := fun i k hi hk => by
  have h1 := h.bal t i k ht hi hk
  have hL := h.hL
  rw [h.u_cast (t := t + 1) (by omega) hi, h.u_cast (t := t + 1) (by omega) hk, h.q_cast ht hi hk, h.q_cast ht hk hi, h.q_sum ht hi, h.q_sum ht hk] at h1
  exact_mod_cast h1
theorem OkP.s_bd (h : OkP L n ns W T R rn P) {t : Nat} (ht : t < L) : 0 < smU (nU W t) n ∧ smU (nU W t) n ≤ 4000 := by
  have h1 := smU_ge (u := nU W t) h.n0
  have h2 := (h.u_bd ht h.n0).1
  have h3 := smU_le (u := nU W t) (B := 1000) (n := n) (fun i hi => (h.u_bd ht hi).2)
  have h4 : n * 1000 ≤ 4 * 1000 := Nat.mul_le_mul_right _ h.n4
  omega
end
end Go.Proofs.YtmdimdoglpiiiaaGreatDoor

/- heat.Mean. -/
namespace Go.Proofs.YtmdimdoglpiiiaaGreatDoor
open Go.RowKit

/-- The variable that is carried on. -/
structure NowS (w1 wr : World) (B n S t : Nat) (u : Nat → Nat) (g : Nat) (y : Value) (E : Nat) (F : Nat → Value) (X : Nat → Nat) : Prop where
  below : Below w1.heap.size w1 wr
  hB : w1.heap.size ≤ B
  ne : B ≠ g
  c0 : wr.cell? ⟨B, 0, none⟩ = some (.slice (some ⟨g, 0, none⟩) n n)
  c1 : wr.cell? ⟨B, 1, none⟩ = some y
  f0 : wr.frozen? ⟨B, 0, none⟩ = false
  f1 : wr.frozen? ⟨B, 1, none⟩ = false
  nd : NatAt wr y E
  nts : NtsAt wr g n F X
  car : Car n S u X E
  pos : 0 < E
  bd : E ≤ bdT t
theorem NowS.later {w1 wr wn : World} {B n S t : Nat} {u : Nat → Nat} {g : Nat} {y : Value} {E : Nat} {F : Nat → Value} {X : Nat → Nat} (h : NowS w1 wr B n S t u g y E F X) (hb : Below wr.heap.size wr wn) : NowS w1 wn B n S t u g y E F X :=
  ⟨below_chain h.below hb, h.hB, h.ne, by rw [hb.cell (cell_lt h.c0)]; exact h.c0, by rw [hb.cell (cell_lt h.c1)]; exact h.c1, by rw [hb.frozen (show B < wr.heap.size from cell_lt h.c1)]; exact h.f0, by rw [hb.frozen (show B < wr.heap.size from cell_lt h.c1)]; exact h.f1, h.nd.later hb, h.nts.later hb, h.car, h.pos, h.bd⟩
theorem NowS.put {w1 wr : World} {B n S t : Nat} {u : Nat → Nat} {g : Nat} {y : Value} {E : Nat} {F : Nat → Value} {X : Nat → Nat} (h : NowS w1 wr B n S t u g y E F X) {t' : Nat} {u' : Nat → Nat} {g' : Nat} {y' : Value} {E' : Nat} {F' : Nat → Value} {X' : Nat → Nat} (hne : B ≠ g') (hN : NtsAt wr g' n F' X') (hD : NatAt wr y' E') (hC : Car n S u' X' E') (hp : 0 < E') (hb : E' ≤ bdT t') :
    NowS w1 ((wr.setCell ⟨B, 0, none⟩ (.slice (some ⟨g', 0, none⟩) n n)).setCell ⟨B, 1, none⟩ y') B n S t' u' g' y' E' F' X' := by
  have c0 := h.c0
  obtain ⟨ya, yl, yc, hy⟩ := h.nd.isSlice
  have c1 := h.c1
  rw [hy] at c1
  have e1 : (wr.setCell ⟨B, 0, none⟩ (.slice (some ⟨g', 0, none⟩) n n)).cell? ⟨B, 1, none⟩ = some (.slice ya yl yc) := by rw [cell_put _ c0, if_neg (by simp)]; exact c1
  refine ⟨(h.below.setCell h.hB _).setCell h.hB _, h.hB, hne, ?_, ?_, ?_, ?_, (hD.putS c0).putS e1, (hN.aside c0 hne).aside e1 hne, hC, hp, hb⟩
  · rw [cell_put _ e1, if_neg (by simp), cell_put _ c0, if_pos rfl]
  · rw [cell_put _ e1, if_pos rfl]
  · rw [World.frozen?_setCell, World.frozen?_setCell]; exact h.f0
  · rw [World.frozen?_setCell, World.frozen?_setCell]; exact h.f1

set_option maxRecDepth 100000 in
set_option maxHeartbeats 4000000 in
theorem Mean_bad (a : Nat → Addr) (v : Value) (L : Nat) (vs : Nat → Value) (ns : Nat → Nat) (W : Nat → Nat → Int) (sv : Value) (T : Nat) (tv : Nat → Value) (R : Nat → Nat) (rv : Nat → Nat → Value) (rn : Nat → Nat → Nat) (P : Nat → Nat → Nat → Int) (w : World) (hE : Errs w a) (h : TabAt w v L vs ns W) (hS : StpAt w sv T tv R rv rn P) (hL : L ≤ 1000000) (hns : ∀ i, i < L → ns i ≤ 1000000) (hT : T ≤ 1000000) (hR : ∀ t, t < T → R t ≤ 1000000) (hb : (prF L ns W T R rn P).1 ≠ 0) :
    Calls Tryz.prog 17 #[.agg #[v, sv]] w fun e w' => ∃ x, e = .returned (.tuple #[.agg #[.int .i64 0, .int .i64 0], x]) ∧ ErrPl a w' x (prF L ns W T R rn P) ∧ Below w.heap.size w w' := by
  obtain ⟨ad, cap, rfl⟩ := h.form
  obtain ⟨sa, sc, rfl⟩ := hS.form
  have HBAD := Hid.mk' hb
  clear hb
  obtain ⟨w1, hw1⟩ : ∃ w1, w1 = (w.alloc (.cells #[.slice ad L cap, .slice sa T sc] 65)).alloc (.cells #[.int .i64 0, .int .i64 0] 26) := ⟨_, rfl⟩
  have hb1 : Below w.heap.size w w1 := by rw [hw1]; exact ((Below.refl _ _).alloc (Nat.le_refl _) _).alloc (by simp) _
  have c0 : w1.cell? ⟨w.heap.size, 0, none⟩ = some (.slice ad L cap) := by rw [hw1, World.cell?_alloc_lt _ _ ⟨w.heap.size, 0, none⟩ (by simp), World.cell?_alloc_at _ _ _ _ rfl]; rfl
  have c1 : w1.cell? ⟨w.heap.size, 1, none⟩ = some (.slice sa T sc) := by rw [hw1, World.cell?_alloc_lt _ _ ⟨w.heap.size, 1, none⟩ (by simp), World.cell?_alloc_at _ _ _ _ rfl]; rfl
  have c2 : w1.cell? ⟨w.heap.size + 1, 0, none⟩ = some (.int .i64 0) := by rw [hw1, World.cell?_alloc_at _ _ _ _ (by simp)]; rfl
  have c3 : w1.cell? ⟨w.heap.size + 1, 1, none⟩ = some (.int .i64 0) := by rw [hw1, World.cell?_alloc_at _ _ _ _ (by simp)]; rfl
  have c4 : w1.frozen? ⟨w.heap.size + 1, 0, none⟩ = false := by rw [hw1]; exact frozen_new (by simp)
  have c5 : w1.frozen? ⟨w.heap.size + 1, 1, none⟩ = false := by rw [hw1]; exact frozen_new (by simp)
  have hsz : w.heap.size + 1 < w1.heap.size := by rw [hw1]; simp
  have HSZ := Hid.mk' hsz
  have HC : Hid (∀ W, Below w1.heap.size w1 W → (W.cell? ⟨w.heap.size, 0, none⟩ = some (.slice ad L cap) ∧ W.cell? ⟨w.heap.size, 1, none⟩ = some (.slice sa T sc)) ∧ (W.cell? ⟨w.heap.size + 1, 0, none⟩ = some (.int .i64 0) ∧ W.cell? ⟨w.heap.size + 1, 1, none⟩ = some (.int .i64 0)) ∧ W.frozen? ⟨w.heap.size + 1, 0, none⟩ = false ∧ W.frozen? ⟨w.heap.size + 1, 1, none⟩ = false) := fun W hb => ⟨⟨by rw [hb.cell (cell_lt c0)]; exact c0, by rw [hb.cell (cell_lt c1)]; exact c1⟩, ⟨by rw [hb.cell (cell_lt c2)]; exact c2, by rw [hb.cell (cell_lt c3)]; exact c3⟩, by rw [hb.frozen (show w.heap.size + 1 < w1.heap.size from hsz)]; exact c4, by rw [hb.frozen (show w.heap.size + 1 < w1.heap.size from hsz)]; exact c5⟩
  have HEND : Hid (∀ W, Below w1.heap.size w1 W → Below w.heap.size w W) := fun W hb => hb1.trans (hb.mono hb1.size)
  have HW1 := Hid.mk' hw1
  have HVA := Hid.mk' (heatValid_any a _ L vs ns W _ T tv R rv rn P w1 (hE.below hb1) (h.later hb1) (hS.later hb1) hL hns hT hR)
  clear hE h hS hb1 hw1 hsz hns hL hT hR c2 c3 c4 c5
  go_enter Tryz.func17, Tryz.ntmps17
  go_upto_region 1 with fail
  rw [← HW1.out]
  go_wp2_with fail
  refine HVA.out.mono ?_
  rintro e w2 ⟨x, rfl, hx, hb2⟩
  obtain ⟨xt, xx, rfl⟩ := hx.iface HBAD.out
  have HX := Hid.mk' hx
  have HB2 := Hid.mk' hb2
  clear hx hb2 HVA c0 c1
  obtain ⟨_, ⟨d2, d3⟩, d4, d5⟩ := HC.out _ HB2.out
  have HXX : Hid (ErrPl a ((w2.setCell ⟨w.heap.size + 1, 0, none⟩ (.int .i64 0)).setCell ⟨w.heap.size + 1, 1, none⟩ (.int .i64 0)) (.iface xt xx) (prF L ns W T R rn P)) := by
    have e1 : (w2.setCell ⟨w.heap.size + 1, 0, none⟩ (.int .i64 0)).cell? ⟨w.heap.size + 1, 1, none⟩ = some (.int .i64 0) := by rw [cell_put _ d2, if_neg (by simp)]; exact d3
    have hall : ∀ p, ((w2.setCell ⟨w.heap.size + 1, 0, none⟩ (.int .i64 0)).setCell ⟨w.heap.size + 1, 1, none⟩ (.int .i64 0)).cell? p = w2.cell? p := fun p => by
      rw [cell_put _ e1]
      split
      · rename_i e9; rw [e9]; exact d3.symm
      · rw [cell_put _ d2]
        split
        · rename_i e9; rw [e9]; exact d2.symm
        · rfl
    rcases HX.out with hl | ⟨pb, g1, g2, g3, g4⟩
    · exact Or.inl hl
    · exact Or.inr ⟨pb, g1, by rw [hall]; exact g2, by rw [hall]; exact g3, g4⟩
  have HBE : Hid (Below w.heap.size w ((w2.setCell ⟨w.heap.size + 1, 0, none⟩ (.int .i64 0)).setCell ⟨w.heap.size + 1, 1, none⟩ (.int .i64 0))) := ((HEND.out _ HB2.out).setCell (by simp) _).setCell (by simp) _
  have G0 : ((w2.setCell ⟨w.heap.size + 1, 0, none⟩ (.int .i64 0)).setCell ⟨w.heap.size + 1, 1, none⟩ (.int .i64 0)).cell? ⟨w.heap.size + 1, 0, none⟩ = some (.int .i64 0) := (put_two _ _ d2 d3).2.1
  have G1 : ((w2.setCell ⟨w.heap.size + 1, 0, none⟩ (.int .i64 0)).setCell ⟨w.heap.size + 1, 1, none⟩ (.int .i64 0)).cell? ⟨w.heap.size + 1, 1, none⟩ = some (.int .i64 0) := (put_two _ _ d2 d3).2.2
  have HG : Hid (((w2.setCell ⟨w.heap.size + 1, 0, none⟩ (.int .i64 0)).setCell ⟨w.heap.size + 1, 1, none⟩ (.int .i64 0)).cell? ⟨w.heap.size + 1, 0, none⟩ = some (.int .i64 0) ∧ ((w2.setCell ⟨w.heap.size + 1, 0, none⟩ (.int .i64 0)).setCell ⟨w.heap.size + 1, 1, none⟩ (.int .i64 0)).cell? ⟨w.heap.size + 1, 1, none⟩ = some (.int .i64 0)) := ⟨G0, G1⟩
  clear G0 G1 HC HX HB2
  go_wp2_with fail
  generalize (w2.setCell ⟨w.heap.size + 1, 0, none⟩ (.int .i64 0)).setCell ⟨w.heap.size + 1, 1, none⟩ (.int .i64 0) = W9 at *
  exact bodyPost_ret (v := .tuple #[.agg #[.int .i64 0, .int .i64 0], .iface xt xx]) (by simp [results, Tryz.results17, go_sem, HG.out.1, HG.out.2]) rfl ⟨_, rfl, HXX.out, HBE.out⟩
set_option maxRecDepth 100000 in
set_option maxHeartbeats 16000000 in
theorem Mean_ok (a : Nat → Addr) (v : Value) (L : Nat) (vs : Nat → Value) (ns : Nat → Nat) (W : Nat → Nat → Int) (sv : Value) (T : Nat) (tv : Nat → Value) (R : Nat → Nat) (rv : Nat → Nat → Value) (rn : Nat → Nat → Nat) (P : Nat → Nat → Nat → Int) (w : World) (hE : Errs w a) (h : TabAt w v L vs ns W) (hS : StpAt w sv T tv R rv rn P) (hL : L ≤ 1000000) (hns : ∀ i, i < L → ns i ≤ 1000000) (hT : T ≤ 1000000) (hR : ∀ t, t < T → R t ≤ 1000000) (hz : (prF L ns W T R rn P).1 = 0) :
    Calls Tryz.prog 17 #[.agg #[v, sv]] w fun e w' => e = .returned (.tuple #[.agg #[.int .i64 ((smU (nU W T) (ns 0) / Nat.gcd (smU (nU W T) (ns 0)) (smU (nU W 0) (ns 0)) : Nat) : Int), .int .i64 ((smU (nU W 0) (ns 0) / Nat.gcd (smU (nU W T) (ns 0)) (smU (nU W 0) (ns 0)) : Nat) : Int)], .nilIface]) ∧ Below w.heap.size w w' := by
  have hOK := prF_ok hz
  have hL4 := hOK.hL
  have hT4 := hOK.hT
  obtain ⟨b, o, cap, rfl, hr⟩ := tab_of h (by omega)
  obtain ⟨sa, sc, rfl⟩ := hS.form
  obtain ⟨w1, hw1⟩ : ∃ w1, w1 = (w.alloc (.cells #[.slice (some ⟨b, o, none⟩) L cap, .slice sa T sc] 65)).alloc (.cells #[.int .i64 0, .int .i64 0] 26) := ⟨_, rfl⟩
  have hb1 : Below w.heap.size w w1 := by rw [hw1]; exact ((Below.refl _ _).alloc (Nat.le_refl _) _).alloc (by simp) _
  have c0 : w1.cell? ⟨w.heap.size, 0, none⟩ = some (.slice (some ⟨b, o, none⟩) L cap) := by rw [hw1, World.cell?_alloc_lt _ _ ⟨w.heap.size, 0, none⟩ (by simp), World.cell?_alloc_at _ _ _ _ rfl]; rfl
  have c1 : w1.cell? ⟨w.heap.size, 1, none⟩ = some (.slice sa T sc) := by rw [hw1, World.cell?_alloc_lt _ _ ⟨w.heap.size, 1, none⟩ (by simp), World.cell?_alloc_at _ _ _ _ rfl]; rfl
  have c2 : w1.cell? ⟨w.heap.size + 1, 0, none⟩ = some (.int .i64 0) := by rw [hw1, World.cell?_alloc_at _ _ _ _ (by simp)]; rfl
  have c3 : w1.cell? ⟨w.heap.size + 1, 1, none⟩ = some (.int .i64 0) := by rw [hw1, World.cell?_alloc_at _ _ _ _ (by simp)]; rfl
  have c4 : w1.frozen? ⟨w.heap.size + 1, 0, none⟩ = false := by rw [hw1]; exact frozen_new (by simp)
  have c5 : w1.frozen? ⟨w.heap.size + 1, 1, none⟩ = false := by rw [hw1]; exact frozen_new (by simp)
  have hsz : w.heap.size + 1 < w1.heap.size := by rw [hw1]; simp
  have HSZ := Hid.mk' hsz
  have HC : Hid (∀ W, Below w1.heap.size w1 W → (W.cell? ⟨w.heap.size, 0, none⟩ = some (.slice (some ⟨b, o, none⟩) L cap) ∧ W.cell? ⟨w.heap.size, 1, none⟩ = some (.slice sa T sc)) ∧ (W.cell? ⟨w.heap.size + 1, 0, none⟩ = some (.int .i64 0) ∧ W.cell? ⟨w.heap.size + 1, 1, none⟩ = some (.int .i64 0)) ∧ W.frozen? ⟨w.heap.size + 1, 0, none⟩ = false ∧ W.frozen? ⟨w.heap.size + 1, 1, none⟩ = false) := fun W hb => ⟨⟨by rw [hb.cell (cell_lt c0)]; exact c0, by rw [hb.cell (cell_lt c1)]; exact c1⟩, ⟨by rw [hb.cell (cell_lt c2)]; exact c2, by rw [hb.cell (cell_lt c3)]; exact c3⟩, by rw [hb.frozen (show w.heap.size + 1 < w1.heap.size from hsz)]; exact c4, by rw [hb.frozen (show w.heap.size + 1 < w1.heap.size from hsz)]; exact c5⟩
  have HEND : Hid (∀ W, Below w1.heap.size w1 W → Below w.heap.size w W) := fun W hb => hb1.trans (hb.mono hb1.size)
  have HW1 := Hid.mk' hw1
  have HVA := Hid.mk' (heatValid_any a _ L vs ns W _ T tv R rv rn P w1 (hE.below hb1) (h.later hb1) (hS.later hb1) hL hns hT hR)
  have HWT : Hid (∀ t, t < L → ∃ rb ro rc, ∀ W', Below w1.heap.size w1 W' → W'.cell? ⟨b, o + t, none⟩ = some (.slice (some ⟨rb, ro, none⟩) (ns 0) rc) ∧ RowAt W' rb ro (ns 0) (fun i => ((nU W t i : Nat) : Int))) := fun t ht => by
    obtain ⟨h1, h2⟩ := hr t ht
    rw [hOK.hn t ht] at h2
    obtain ⟨rb, ro, rc, h3, h4⟩ := row_of h2 hOK.n0
    refine ⟨rb, ro, rc, fun W' hb => ⟨by rw [(HEND.out W' hb).cell (cell_lt h1), h1, h3], fun i hi => ?_⟩⟩
    have := h4.later (HEND.out W' hb) i hi
    rw [hOK.u_cast ht hi] at this
    exact this
  have HST : Hid (∀ t, t < T → ∃ sb so tb t0 tc, sa = some ⟨sb, so, none⟩ ∧ ∀ W', Below w1.heap.size w1 W' → W'.cell? ⟨sb, so + t, none⟩ = some (.slice (some ⟨tb, t0, none⟩) (ns 0) tc) ∧ ∀ i, i < ns 0 → ∃ rb ro rc, W'.cell? ⟨tb, t0 + i, none⟩ = some (.slice (some ⟨rb, ro, none⟩) (ns 0) rc) ∧ RowAt W' rb ro (ns 0) (fun k => ((nQ P t i k : Nat) : Int))) := fun t ht => by
    obtain ⟨sb, so, rfl, hst⟩ := hS.at ht
    obtain ⟨h1, h2⟩ := hst t ht
    rw [hOK.hR t ht] at h2
    obtain ⟨tb, t0, tc, h3, h4⟩ := tab_of h2 hOK.n0
    refine ⟨sb, so, tb, t0, tc, rfl, fun W' hb => ⟨by rw [(HEND.out W' hb).cell (cell_lt h1), h1, h3], fun i hi => ?_⟩⟩
    obtain ⟨h5, h6⟩ := h4 i hi
    rw [hOK.hrn t i ht hi] at h6
    obtain ⟨rb, ro, rc, h7, h8⟩ := row_of h6 hOK.n0
    refine ⟨rb, ro, rc, by rw [(HEND.out W' hb).cell (cell_lt h5), h5, h7], fun k hk => ?_⟩
    have := h8.later (HEND.out W' hb) k hk
    rw [hOK.q_cast ht hi hk] at this
    exact this
  have HE : Hid (∀ W', Below w1.heap.size w1 W' → Errs W' a) := fun W' hb => (hE.below hb1).below hb
  have HOK := Hid.mk' hOK
  have hn0 := hOK.n0
  have hn4 := hOK.n4
  have hTI : (T : Int) ≤ 4 := by omega
  have hLI : (L : Int) ≤ 5 := by omega
  have hL0 : (0 : Int) < (L : Int) := by omega
  have HPZ := Hid.mk' hz
  have hLa : T + 1 ≤ L := by omega
  have hLb : L ≤ T + 1 := by omega
  clear hE h hS hb1 hw1 hsz hns hL hT hR c2 c3 c4 c5 hr hOK hz hL4
  generalize ns 0 = n at *
  obtain ⟨S, hSe⟩ : ∃ S, S = smU (nU W 0) n := ⟨_, rfl⟩
  have HSP : Hid (0 < S ∧ S ≤ 4000) := by rw [hSe]; exact HOK.out.s_bd (by omega)
  have HSE := Hid.mk' hSe
  rw [← hSe]
  clear hSe
  obtain ⟨rb, ro, rc, hrow⟩ := HWT.out 0 (by omega)
  have HR0 := Hid.mk' hrow
  clear hrow
  go_enter Tryz.func17, Tryz.ntmps17
  go_upto_region 1 with fail
  rw [← HW1.out]
  go_wp2_with fail
  refine HVA.out.mono ?_
  rintro e w2 ⟨x, rfl, hx, hb2⟩
  obtain rfl := hx.nil0 HPZ.out
  have HB2 := Hid.mk' hb2
  clear hx hb2 HVA c0 c1 HPZ
  obtain ⟨⟨c0, c1⟩, _⟩ := HC.out _ HB2.out
  obtain ⟨d0, d1⟩ := HR0.out _ HB2.out
  rw [Nat.add_zero] at d0
  have HSO := Hid.mk' (start_any n rb ro rc (nU W 0) w2 d1 hn0 hn4 (fun i hi => by have := (HOK.out.u_bd (t := 0) (by omega) hi).2; omega))
  clear d1 HR0
  go_wp2_with fail
  refine HSO.out.mono ?_
  rintro e w3 ⟨g1, y, rfl, ⟨F1, hN1⟩, hy, hge, hb3⟩
  obtain ⟨ya, yl, yc, rfl⟩ := hy.isSlice
  rw [← HSE.out] at hy
  have hgl : g1 < w3.heap.size := cell_lt (hN1.row.row 0 hn0)
  have HB3 := Hid.mk' (below_chain HB2.out hb3)
  have h9 : Below w3.heap.size w3 (w3.alloc (.cells #[.slice (some ⟨g1, 0, none⟩) n n, .slice ya yl yc] 96)) := (Below.refl _ _).alloc (Nat.le_refl _) _
  have HNO : Hid (NowS w1 (w3.alloc (.cells #[.slice (some ⟨g1, 0, none⟩) n n, .slice ya yl yc] 96)) w3.heap.size n S 0 (nU W 0) g1 (.slice ya yl yc) S F1 (nU W 0)) := ⟨below_chain HB3.out h9, HB3.out.size, by omega, by simp, by simp, by simp, by simp, hy.later h9, hN1.later h9, fun i _ => rfl, HSP.out.1, Nat.le_trans HSP.out.2 (by decide)⟩
  obtain ⟨B, hB⟩ : ∃ B, B = w3.heap.size := ⟨_, rfl⟩
  clear hN1 hy hge hb3 hgl h9 HSO c0 c1 d0 HB2
  go_upto_region 5 with fail
  rw [← hB] at HNO ⊢
  clear hB
  generalize w3.alloc (.cells #[.slice (some ⟨g1, 0, none⟩) n n, .slice ya yl yc] 96) = wc at *
  obtain ⟨⟨c0, c1⟩, _⟩ := HC.out _ HNO.out.below
  go_wp2_with fail
  clear c0 c1
  go_loopw [24] (fun t wr => ∃ (t' g1 : Nat) (ya : Option Addr) (yl yc E : Nat) (F1 : Nat → Value) (X : Nat → Nat), t' ≤ T ∧ t = .int .i64 t' ∧ Hid (NowS w1 wr B n S t' (nU W t') g1 (.slice ya yl yc) E F1 X)) (fun t _ => T - (intOf t).toNat)
  case atStart => exact ⟨0, g1, ya, yl, yc, S, F1, nU W 0, Nat.zero_le _, rfl, HNO⟩
  case round =>
    clear HNO
    obtain ⟨t, g1, ya, yl, yc, E, F1, X, ht, rfl, HNO⟩ := hrel
    rcases Nat.lt_or_ge t T with h1 | h1
    · have htI : (t : Int) < (T : Int) := by omega
      have ht0 : (0 : Int) ≤ (t : Int) := by omega
      have htL : (t : Int) < (L : Int) := by omega
      have htL1 : (t : Int) + 1 < (L : Int) := by omega
      have htw : IntKind.i64.wrap ((t : Int) + 1) = (t : Int) + 1 := by rw [IntKind.wrap_i64]; omega
      have htp : (0 : Int) ≤ (t : Int) + 1 := by omega
      have htn : ((t : Int) + 1).toNat = t + 1 := by omega
      obtain ⟨rb, ro, rc, hro⟩ := HWT.out t (by omega)
      obtain ⟨qb, qo, qc, hqo⟩ := HWT.out (t + 1) (by omega)
      obtain ⟨sb, so, tb, t0, tc, rfl, hto⟩ := HST.out t h1
      have HRO := Hid.mk' hro
      have HQO := Hid.mk' hqo
      have HTO := Hid.mk' hto
      clear hro hqo hto
      have HSM := Hid.mk' (round_sml (v := nU W (t + 1)) (q := nQ P t) (R := fun i => smU (nQ P t i) n) HNO.out.car HSP.out.1 hn4 (by omega) HNO.out.bd (fun i hi => by have := (HOK.out.u_bd (t := t) (by omega) hi).2; omega) (fun i hi => by have := (HOK.out.u_bd (t := t + 1) (by omega) hi).2; omega) (fun i hi => (HOK.out.r_bd h1 hi).2) (fun i k hi hk => HOK.out.q_bd h1 hi hk))
      have HBW : Hid (∀ W, Below wr.heap.size wr W → Below w1.heap.size w1 W) := fun W hb => (HNO.out.later hb).below
      have HGA : Hid (∀ W', Below wr.heap.size wr W' → Calls Tryz.prog 37 #[.agg #[.slice (some ⟨g1, 0, none⟩) n n, .slice ya yl yc], .slice (some ⟨rb, ro, none⟩) n rc, .slice (some ⟨qb, qo, none⟩) n qc] W' fun e w' => ∃ g' y, e = .returned (.agg #[.slice (some ⟨g', 0, none⟩) n n, y]) ∧ (∃ F', NtsAt w' g' n F' (fun i => X i * prdX (nU W t) i n * nU W (t + 1) i)) ∧ NatAt w' y (E * prdU (nU W t) n) ∧ W'.heap.size ≤ g' ∧ Below W'.heap.size W' w') := fun W' hb => gain_any n g1 F1 X _ E rb ro rc (nU W t) qb qo qc (nU W (t + 1)) W' (HNO.out.later hb).nts (HNO.out.later hb).nd (HRO.out W' (HBW.out W' hb)).2 (HQO.out W' (HBW.out W' hb)).2 hn0 hn4 (fun i hi => by have := (HOK.out.u_bd (t := t) (by omega) hi).2; omega) (fun i hi => by have := (HOK.out.u_bd (t := t + 1) (by omega) hi).2; omega) HSM.out.1 HSM.out.2.1
      have HSG : Hid (∀ W' g' F' y, Below wr.heap.size wr W' → NtsAt W' g' n F' (fun i => X i * prdX (nU W t) i n * nU W (t + 1) i) → NatAt W' y (E * prdU (nU W t) n) → Calls Tryz.prog 38 #[.agg #[.slice (some ⟨g', 0, none⟩) n n, y], .slice (some ⟨tb, t0, none⟩) n tc] W' fun e w' => ∃ g' y, e = .returned (.agg #[.slice (some ⟨g', 0, none⟩) n n, y]) ∧ (∃ F', NtsAt w' g' n F' (fun k => smU (fun j => X j * prdX (nU W t) j n * nU W (t + 1) j * prdX (fun i => smU (nQ P t i) n) j n * nQ P t j k) n)) ∧ NatAt w' y (E * prdU (nU W t) n * prdU (fun i => smU (nQ P t i) n) n) ∧ W'.heap.size ≤ g' ∧ Below W'.heap.size W' w') := fun W' g' F' y hb hN hD => step_any n g' F' _ y _ tb t0 tc (nQ P t) (fun i => smU (nQ P t i) n) W' hN hD (HTO.out W' (HBW.out W' hb)).2 (fun _ _ => rfl) hn0 hn4 (fun i hi => (HOK.out.r_bd h1 hi).2) HSM.out.2.2.1 HSM.out.2.2.2.1 HSM.out.2.2.2.2.1
      have HKS : Hid (∀ W, Below wr.heap.size wr W → W.cell? ⟨B, 0, none⟩ = some (.slice (some ⟨g1, 0, none⟩) n n) ∧ W.cell? ⟨B, 1, none⟩ = some (.slice ya yl yc) ∧ W.cell? ⟨w.heap.size, 0, none⟩ = some (.slice (some ⟨b, o, none⟩) L cap) ∧ W.cell? ⟨w.heap.size, 1, none⟩ = some (.slice (some ⟨sb, so, none⟩) T sc) ∧ W.cell? ⟨b, o + t, none⟩ = some (.slice (some ⟨rb, ro, none⟩) n rc) ∧ W.cell? ⟨b, o + (t + 1), none⟩ = some (.slice (some ⟨qb, qo, none⟩) n qc) ∧ W.cell? ⟨sb, so + t, none⟩ = some (.slice (some ⟨tb, t0, none⟩) n tc)) := fun W hb => ⟨(HNO.out.later hb).c0, (HNO.out.later hb).c1, (HC.out W (HBW.out W hb)).1.1, (HC.out W (HBW.out W hb)).1.2, (HRO.out W (HBW.out W hb)).1, (HQO.out W (HBW.out W hb)).1, (HTO.out W (HBW.out W hb)).1⟩
      have hcur : Below wr.heap.size wr wr.drew := (Below.refl _ _).drew
      have HCN : Hid (Car n S (nU W (t + 1)) (fun k => smU (fun j => X j * prdX (nU W t) j n * nU W (t + 1) j * prdX (fun i => smU (nQ P t i) n) j n * nQ P t j k) n) (E * prdU (nU W t) n * prdU (fun i => smU (nQ P t i) n) n)) := car_step (car_gain HNO.out.car) (HOK.out.balN h1) (fun k hk => (HOK.out.r_bd h1 hk).1)
      have HPN : Hid (0 < E * prdU (nU W t) n * prdU (fun i => smU (nQ P t i) n) n) := Nat.mul_pos (Nat.mul_pos HNO.out.pos (prdU_pos (fun i hi => (HOK.out.u_bd (t := t) (by omega) hi).1))) (prdU_pos (fun i hi => (HOK.out.r_bd h1 hi).1))
      go_upto_region 8 with fail
      refine region_but_last (n := 19) (S := fun W => W.cell? ⟨B, 0, none⟩ = some (.slice (some ⟨g1, 0, none⟩) n n) ∧ W.cell? ⟨B, 1, none⟩ = some (.slice ya yl yc) ∧ W.cell? ⟨w.heap.size, 0, none⟩ = some (.slice (some ⟨b, o, none⟩) L cap) ∧ W.cell? ⟨w.heap.size, 1, none⟩ = some (.slice (some ⟨sb, so, none⟩) T sc) ∧ W.cell? ⟨b, o + t, none⟩ = some (.slice (some ⟨rb, ro, none⟩) n rc) ∧ W.cell? ⟨b, o + (t + 1), none⟩ = some (.slice (some ⟨qb, qo, none⟩) n qc) ∧ W.cell? ⟨sb, so + t, none⟩ = some (.slice (some ⟨tb, t0, none⟩) n tc)) (by kernel_rfl) (by kernel_rfl) (by kernel_rfl) (HKS.out _ hcur) (fun hHeld => ?_)
      refine wpAnyH_take (i := 0) (v := ?v0c) rfl (by kernel_rfl) (by kernel_rfl) (by kernel_rfl) (fun _ _ _ h => h) (Or.inl ⟨by rfl, ?hy0c⟩) (by assumption) ?rest0c
      case hy0c => (intro w hSw; (try dsimp only at hSw); go_simp <;> (try with_reducible rfl))
      simp only [Act.put]
      refine wpAnyH_take (i := 1) (v := ?v1c) rfl (by kernel_rfl) (by kernel_rfl) (by kernel_rfl) (fun _ _ _ h => h) (Or.inl ⟨by rfl, ?hy1c⟩) (by assumption) ?rest1c
      case hy1c => (intro w hSw; (try dsimp only at hSw); go_simp <;> (try with_reducible rfl))
      simp only [Act.put]
      refine wpAnyH_take (i := 2) (v := ?v2c) rfl (by kernel_rfl) (by kernel_rfl) (by kernel_rfl) (fun _ _ _ h => h) (Or.inl ⟨by rfl, ?hy2c⟩) (by assumption) ?rest2c
      case hy2c => (intro w hSw; (try dsimp only at hSw); go_simp <;> (try with_reducible rfl))
      simp only [Act.put]
      refine wpAnyH_take (i := 3) (v := ?v3c) rfl (by kernel_rfl) (by kernel_rfl) (by kernel_rfl) (fun _ _ _ h => h) (Or.inl ⟨by rfl, ?hy3c⟩) (by assumption) ?rest3c
      case hy3c => (intro w hSw; (try dsimp only at hSw); go_simp <;> (try with_reducible rfl))
      simp only [Act.put]
      refine wpAnyH_take (i := 4) (v := ?v4c) rfl (by kernel_rfl) (by kernel_rfl) (by kernel_rfl) (fun _ _ _ h => h) (Or.inl ⟨by rfl, ?hy4c⟩) (by assumption) ?rest4c
      case hy4c => (intro w hSw; (try dsimp only at hSw); go_simp <;> (try with_reducible rfl))
      simp only [Act.put]
      refine wpAnyH_take (i := 5) (v := ?v5c) rfl (by kernel_rfl) (by kernel_rfl) (by kernel_rfl) (fun _ _ _ h => h) (Or.inl ⟨by rfl, ?hy5c⟩) (by assumption) ?rest5c
      case hy5c => (intro w hSw; (try dsimp only at hSw); go_simp <;> (try with_reducible rfl))
      simp only [Act.put]
      refine wpAnyH_take (i := 6) (v := ?v6c) rfl (by kernel_rfl) (by kernel_rfl) (by kernel_rfl) (fun _ _ _ h => h) (Or.inl ⟨by rfl, ?hy6c⟩) (by assumption) ?rest6c
      case hy6c => (intro w hSw; (try dsimp only at hSw); go_simp <;> (try with_reducible rfl))
      simp only [Act.put]
      refine wpAnyH_take (i := 7) (v := ?v7c) rfl (by kernel_rfl) (by kernel_rfl) (by kernel_rfl) (fun _ _ _ h => h) (Or.inl ⟨by rfl, ?hy7c⟩) (by assumption) ?rest7c
      case hy7c => (intro w hSw; (try dsimp only at hSw); go_simp <;> (try with_reducible rfl))
      simp only [Act.put]
      refine wpAnyH_take (i := 8) (v := ?v8c) rfl (by kernel_rfl) (by kernel_rfl) (by kernel_rfl) (fun _ _ _ h => h) (Or.inl ⟨by rfl, ?hy8c⟩) (by assumption) ?rest8c
      case hy8c => (intro w hSw; (try dsimp only at hSw); go_simp <;> (try with_reducible rfl))
      simp only [Act.put]
      refine wpAnyH_take (i := 9) (v := ?v9c) rfl (by kernel_rfl) (by kernel_rfl) (by kernel_rfl) (fun _ _ _ h => h) (Or.inl ⟨by rfl, ?hy9c⟩) (by assumption) ?rest9c
      case hy9c => (intro w hSw; (try dsimp only at hSw); go_simp <;> (try with_reducible rfl))
      simp only [Act.put]
      refine wpAnyH_take (i := 10) (v := ?v10c) rfl (by kernel_rfl) (by kernel_rfl) (by kernel_rfl) (fun _ _ _ h => h) (Or.inl ⟨by rfl, ?hy10c⟩) (by assumption) ?rest10c
      case hy10c => (intro w hSw; (try dsimp only at hSw); go_simp <;> (try with_reducible rfl))
      simp only [Act.put]
      refine wpAnyH_take (i := 11) (v := ?v11c) rfl (by kernel_rfl) (by kernel_rfl) (by kernel_rfl) (fun _ _ _ h => h) (Or.inl ⟨by rfl, ?hy11c⟩) (by assumption) ?rest11c
      case hy11c => (intro w hSw; (try dsimp only at hSw); go_simp <;> (try with_reducible rfl))
      simp only [Act.put]
      refine wpAnyH_take (i := 13) (v := ?v13c) rfl (by kernel_rfl) (by kernel_rfl) (by kernel_rfl) (fun _ _ _ h => h) (Or.inl ⟨by rfl, ?hy13c⟩) (by assumption) ?rest13c
      case hy13c => (intro w hSw; (try dsimp only at hSw); go_simp <;> (try with_reducible rfl))
      simp only [Act.put]
      refine wpAnyH_take (i := 14) (v := ?v14c) rfl (by kernel_rfl) (by kernel_rfl) (by kernel_rfl) (fun _ _ _ h => h) (Or.inl ⟨by rfl, ?hy14c⟩) (by assumption) ?rest14c
      case hy14c => (intro w hSw; (try dsimp only at hSw); go_simp <;> (try with_reducible rfl))
      simp only [Act.put]
      refine wpAnyH_take (i := 15) (v := ?v15c) rfl (by kernel_rfl) (by kernel_rfl) (by kernel_rfl) (fun _ _ _ h => h) (Or.inl ⟨by rfl, ?hy15c⟩) (by assumption) ?rest15c
      case hy15c => (intro w hSw; (try dsimp only at hSw); go_simp <;> (try with_reducible rfl))
      simp only [Act.put]
      refine wpAnyH_take (i := 16) (v := ?v16c) rfl (by kernel_rfl) (by kernel_rfl) (by kernel_rfl) (fun _ _ _ h => h) (Or.inl ⟨by rfl, ?hy16c⟩) (by assumption) ?rest16c
      case hy16c => (intro w hSw; (try dsimp only at hSw); go_simp <;> (try with_reducible rfl))
      simp only [Act.put]
      refine wpAnyH_take (i := 17) (v := ?v17c) rfl (by kernel_rfl) (by kernel_rfl) (by kernel_rfl) (fun _ _ _ h => h) (Or.inl ⟨by rfl, ?hy17c⟩) (by assumption) ?rest17c
      case hy17c => (intro w hSw; (try dsimp only at hSw); go_simp <;> (try with_reducible rfl))
      simp only [Act.put]
      refine wpAnyH_ready (rs := [12]) (by kernel_rfl) (by simp) ?_
      refine AllReadyH.cons rfl (fun K hK => ?_) AllReadyH.nil
      go_simp
      refine (HGA.out _ hcur).mono ?_
      rintro e w5 ⟨g2, y2, rfl, ⟨F2, hN2⟩, hy2, hge2, hb5⟩
      obtain ⟨za, zl, zc, rfl⟩ := hy2.isSlice
      have hcur := below_chain hcur hb5
      have HN2 := Hid.mk' hN2
      have HY2 := Hid.mk' hy2
      clear hN2 hy2 hge2 hb5
      go_wp2_with fail
      refine hK.out _ _ ?_ (fun hHeld => ?_)
      · exact HKS.out _ hcur
      clear hK K
      refine wpAnyH_ready (rs := [18]) (by kernel_rfl) (by simp) ?_
      refine AllReadyH.cons rfl (fun K hK => ?_) AllReadyH.nil
      go_simp
      refine (HSG.out _ _ _ _ hcur HN2.out HY2.out).mono ?_
      rintro e w6 ⟨g3, y3, rfl, ⟨F3, hN3⟩, hy3, hge3, hb6⟩
      obtain ⟨ua, ul, uc, rfl⟩ := hy3.isSlice
      have hBl : B < w5.heap.size := Nat.lt_of_lt_of_le (cell_lt HNO.out.c0) hcur.size
      have hcur := below_chain hcur hb6
      have HO9 := Hid.mk' ((HNO.out.later hcur).put (t' := t + 1) (u' := nU W (t + 1)) (g' := g3) (by omega) hN3 hy3 HCN.out HPN.out HSM.out.2.2.2.2.2)
      have z0 := (HNO.out.later hcur).c0
      have z1 := (HNO.out.later hcur).c1
      have z2 := (HNO.out.later hcur).f0
      have z3 := (HNO.out.later hcur).f1
      obtain ⟨z4, z5, z6⟩ := put_two (.slice (some ⟨g3, 0, none⟩) n n) (.slice ua ul uc) z0 z1
      clear hN3 hy3 hge3 hb6 hBl
      go_wp2_with fail
      refine hK.out _ _ ?_ (fun hHeld => ?_)
      · exact HKS.out _ hcur
      clear hK K
      refine wpAnyH_done (by kernel_rfl) ?_ _
      refine ahead_last rfl (fun K hK => ?_)
      go_simp
      refine hK _ _ ?_
      clear hK K
      clear HGA HSG HKS z0 z1 z2 z3 z4 z5 z6 hHeld HNO hcur HCN HPN HN2 HY2 HSM HBW
      go_wp2_with fail
      exact ⟨⟨t + 1, g3, ua, ul, uc, _, F3, _, h1, by go_num, HO9⟩, by simp [intOf]; omega⟩
    · obtain rfl : t = T := by omega
      have htI : ¬ ((t : Int) < (t : Int)) := by omega
      have HES := Hid.mk' (end_sml HNO.out.car HSP.out.1 hn4 (Nat.le_trans HNO.out.bd (bdT_le (by omega))) (fun i hi => by have := (HOK.out.u_bd (t := t) (by omega) hi).2; omega))
      have HTS : Hid (toldV a (smU X n) E = toldV a (smU (nU W t) n) S) := (told_same (a := a) HNO.out.pos HSP.out.1 (car_sum HNO.out.car)).2.2
      have HTV : Hid (toldV a (smU (nU W t) n) S = .tuple #[.agg #[.int .i64 ((smU (nU W t) n / Nat.gcd (smU (nU W t) n) S : Nat) : Int), .int .i64 ((S / Nat.gcd (smU (nU W t) n) S : Nat) : Int)], .nilIface]) := by
        have hs1 := (HOK.out.s_bd (t := t) (by omega)).2
        have hs2 := HSP.out.2
        have hs3 := Nat.div_le_self (smU (nU W t) n) (Nat.gcd (smU (nU W t) n) S)
        have hs4 := Nat.div_le_self S (Nat.gcd (smU (nU W t) n) S)
        exact if_pos ⟨by omega, by omega⟩
      obtain ⟨W4, hW4⟩ : ∃ W4, W4 = wr := ⟨_, rfl⟩
      rw [← hW4] at HNO ⊢
      clear hW4
      go_wp2_with fail
      refine (NatOf_zeroH _).mono ?_
      rintro e w9 ⟨rfl, hw9⟩
      rw [hw9]
      clear hw9
      have k0 := HNO.out.c0
      go_wp2_with fail
      clear k0
      go_loopw [7, 51] (fun s i wr => ∃ (k : Nat) (pa : Option Addr) (pl pc : Nat), k ≤ n ∧ s = .slice pa pl pc ∧ i = .int .i64 k ∧ Hid (NatAt wr (.slice pa pl pc) (smU X k)) ∧ Hid (Below W4.heap.size W4 wr)) (fun _ i _ => n - (intOf i).toNat)
      case atStart => exact ⟨0, _, _, _, Nat.zero_le _, rfl, rfl, natAt_nilH _, Below.refl _ _⟩
      case round =>
        obtain ⟨k, pa, pl, pc, hk, rfl, rfl, HS, HB⟩ := hrel
        rcases Nat.lt_or_ge k n with h2 | h2
        · have hkI : (k : Int) < (n : Int) := by omega
          have hk0 : (0 : Int) ≤ (k : Int) := by omega
          have hnI : (n : Int) ≤ 4 := by omega
          have k1 := (HNO.out.later HB.out).nts.row.row k h2
          obtain ⟨fa, fl, fc, hfe⟩ := (HNO.out.nts.nat k h2).isSlice
          have HPL := Hid.mk' (Plus_any (.slice pa pl pc) (F1 k) (smU X k) (X k) 12 wr HS.out ((HNO.out.later HB.out).nts.nat k h2) (HES.out.2.1 k hk) (HES.out.2.2 k h2) (by decide))
          rw [hfe] at k1 HPL
          clear hfe
          go_wp2_with fail
          refine HPL.out.mono ?_
          rintro e w5 ⟨r, rfl, hr5, hb5⟩
          obtain ⟨ra, rl, rc', rfl⟩ := hr5.isSlice
          have HR5 : Hid (NatAt w5 (.slice ra rl rc') (smU X (k + 1))) := hr5
          have HB5 := Hid.mk' (below_chain HB.out hb5)
          clear hr5 hb5 HPL k1
          go_wp2_with fail
          exact ⟨⟨k + 1, ra, rl, rc', h2, rfl, by go_num, HR5, HB5⟩, by simp [intOf]; omega⟩
        · obtain rfl : k = n := by omega
          have hkI : ¬ ((k : Int) < (k : Int)) := by omega
          have HNL := Hid.mk' (HNO.out.later HB.out)
          have k1 := HNL.out.c1
          have HTD := Hid.mk' (Told_any a (.slice pa pl pc) (.slice ya yl yc) (smU X k) E 12 wr (HE.out wr HNL.out.below) HS.out HNL.out.nd HNL.out.pos (HES.out.2.1 k (Nat.le_refl _)) HES.out.1 (by decide))
          rw [HTS.out, HTV.out] at HTD
          obtain ⟨NN, hNN⟩ : ∃ NN : Int, NN = ((smU (nU W t) k / Nat.gcd (smU (nU W t) k) S : Nat) : Int) := ⟨_, rfl⟩
          obtain ⟨DD, hDD⟩ : ∃ DD : Int, DD = ((S / Nat.gcd (smU (nU W t) k) S : Nat) : Int) := ⟨_, rfl⟩
          rw [← hNN, ← hDD] at HTD
          have HNN := Hid.mk' hNN
          have HDD := Hid.mk' hDD
          clear hNN hDD
          go_wp2_with fail
          refine HTD.out.mono ?_
          rintro e w5 ⟨rfl, hb5⟩
          have HB5 := Hid.mk' (below_chain HNL.out.below hb5)
          clear hb5 HTD k1
          obtain ⟨_, ⟨d2, d3⟩, d4, d5⟩ := HC.out _ HB5.out
          have HBE : Hid (Below w.heap.size w ((w5.setCell ⟨w.heap.size + 1, 0, none⟩ (.int .i64 NN)).setCell ⟨w.heap.size + 1, 1, none⟩ (.int .i64 DD))) := ((HEND.out _ HB5.out).setCell (by simp) _).setCell (by simp) _
          have HG := Hid.mk' (put_two (.int .i64 NN) (.int .i64 DD) d2 d3)
          obtain ⟨q0, _, _⟩ := HG.out
          go_wp2_with fail
          generalize (w5.setCell ⟨w.heap.size + 1, 0, none⟩ (.int .i64 NN)).setCell ⟨w.heap.size + 1, 1, none⟩ (.int .i64 DD) = W9 at *
          exact bodyPost_ret (v := .tuple #[.agg #[.int .i64 NN, .int .i64 DD], .nilIface]) (by simp [results, Tryz.results17, go_sem, HG.out.2.1, HG.out.2.2]) rfl ⟨by rw [HNN.out, HDD.out], HBE.out⟩
end Go.Proofs.YtmdimdoglpiiiaaGreatDoor

/- What stands at the head of all Heat laws: still, a closed fact; brief: a process of which something is said. -/
namespace Go.Proofs.YtmdimdoglpiiiaaGreatDoor
open Go.RowKit

theorem still_err : prF 1 (fun _ => 2) (fun _ i => if i = 0 then 1 else 3) 0 (fun _ => 0) (fun _ _ => 0) (fun _ _ _ => 0) = (0, -1) := by decide +kernel
theorem still_sum : smU (nU (fun _ i => if i = 0 then 1 else 3) 0) 2 = 4 := by decide +kernel

set_option maxRecDepth 100000 in
set_option maxHeartbeats 4000000 in
theorem still_any (a : Nat → Addr) (w : World) (hE : Errs w a) :
    Calls Tryz.prog 5 #[] w fun e w' => e = .returned (.bool true) ∧ Below w.heap.size w w' := by
  obtain ⟨W0, hW0⟩ : ∃ W0, W0 = (w.alloc (.cells #[.int .i64 1, .int .i64 3] 3)).alloc (.cells #[.slice (some ⟨w.heap.size, 0, none⟩) 2 2] 32) := ⟨_, rfl⟩
  have hb0 : Below w.heap.size w W0 := by rw [hW0]; exact ((Below.refl _ _).alloc (Nat.le_refl _) _).alloc (by simp) _
  have hT : TabAt W0 (.slice (some ⟨w.heap.size + 1, 0, none⟩) 1 1) 1 (fun _ => .slice (some ⟨w.heap.size, 0, none⟩) 2 2) (fun _ => 2) (fun _ i => if i = 0 then 1 else 3) := by
    refine Or.inr ⟨_, 0, 1, rfl, by decide, fun i hi => ?_⟩
    obtain rfl : i = 0 := by omega
    refine ⟨by rw [hW0]; go_simp, Or.inr ⟨w.heap.size, 0, 2, rfl, by decide, fun k hk => ?_⟩⟩
    rw [hW0]
    have hk2 : k < 2 := hk
    rcases (show k = 0 ∨ k = 1 by omega) with rfl | rfl <;> go_simp
  have HA := Hid.mk' (Mean_ok a _ 1 _ (fun _ => 2) _ (.slice none 0 0) 0 (fun _ => .nilIface) (fun _ => 0) (fun _ _ => .nilIface) (fun _ _ => 0) (fun _ _ _ => 0) W0 (hE.below hb0) hT (Or.inl ⟨none, 0, rfl, rfl⟩) (by decide) (fun _ _ => by decide) (by decide) (fun t ht => by omega) (by rw [still_err]))
  rw [still_sum] at HA
  have HB0 := Hid.mk' hb0
  have HW0 := Hid.mk' hW0
  clear hE hb0 hT hW0
  have e1 : ((4 / Nat.gcd 4 4 : Nat) : Int) = 1 := by decide
  rw [e1] at HA
  clear e1
  go_enter Tryz.func5, Tryz.ntmps5
  go_wp2_with fail
  rw [← HW0.out]
  refine HA.out.mono ?_
  rintro e w2 ⟨rfl, hb2⟩
  have HB2 := Hid.mk' (below_chain HB0.out hb2)
  have hsz := HB2.out.size
  clear hb2 HA HW0 HB0
  go_wp2_with fail
  go_ret
  exact ⟨rfl, by first | exact HB2.out.alloc hsz _ | exact (HB2.out.alloc hsz _).drew⟩

def fwB (L : Nat) (ns : Nat → Nat) : Bool := decide (L ≤ 70) && decide (sumT ns L ≤ 600)
theorem fwB_iff (L : Nat) (ns : Nat → Nat) : fwB L ns = true ↔ L ≤ 70 ∧ sumT ns L ≤ 600 := by simp [fwB]
def brK (L : Nat) (ns : Nat → Nat) (R : Nat → Nat) (rn : Nat → Nat → Nat) : Nat → Bool
  | 0 => fwB L ns
  | k + 1 => brK L ns R rn k && fwB (R k) (rn k)
theorem brK_no {L : Nat} {ns R : Nat → Nat} {rn : Nat → Nat → Nat} {k : Nat} (h : brK L ns R rn k = false) : brK L ns R rn (k + 1) = false := by rw [brK, h]; rfl
theorem brK_all {L : Nat} {ns R : Nat → Nat} {rn : Nat → Nat → Nat} : ∀ {k : Nat}, brK L ns R rn k = true → (L ≤ 70 ∧ sumT ns L ≤ 600) ∧ ∀ t, t < k → R t ≤ 70 ∧ sumT (rn t) (R t) ≤ 600
  | 0, h => ⟨(fwB_iff _ _).1 h, fun t ht => by omega⟩
  | k + 1, h => by
    rw [brK, Bool.and_eq_true] at h
    obtain ⟨h1, h2⟩ := brK_all h.1
    refine ⟨h1, fun t ht => ?_⟩
    rcases Nat.lt_or_ge t k with h3 | h3
    · exact h2 t h3
    · obtain rfl : t = k := by omega
      exact (fwB_iff _ _).1 h.2
/-- Is something said of it? -/
def brB (L : Nat) (ns : Nat → Nat) (T : Nat) (R : Nat → Nat) (rn : Nat → Nat → Nat) : Bool := brK L ns R rn (min T 20) && decide (T ≤ 20)
theorem brB_all {L T : Nat} {ns R : Nat → Nat} {rn : Nat → Nat → Nat} (h : brB L ns T R rn = true) : (L ≤ 70 ∧ sumT ns L ≤ 600) ∧ T ≤ 20 ∧ ∀ t, t < T → R t ≤ 70 ∧ sumT (rn t) (R t) ≤ 600 := by
  unfold brB at h
  rw [Bool.and_eq_true, decide_eq_true_eq] at h
  obtain ⟨h1, h2⟩ := brK_all h.1
  exact ⟨h1, h.2, fun t ht => h2 t (by omega)⟩

end Go.Proofs.YtmdimdoglpiiiaaGreatDoor

/- (sum).putTerms. -/
namespace Go.Proofs.YtmdimdoglpiiiaaGreatDoor
open Go.RowKit Go.Maps

theorem map_no_cell {w : World} {b nn o : Nat} {D : DataW Unit} {k : TypeId} {R : Value → Option (DataW Unit × List MemPlace)} (h : w.ownsMap Tryz.prog k R b nn D) : w.cell? ⟨b, o, none⟩ = none := by
  obtain ⟨es, clock, hm, _⟩ := h
  simp [World.cell?, hm]
theorem atL_join : ∀ (l : List (Int × Int)) (e : Int × Int) (x : Int), (∀ f ∈ l, f.1 ≠ e.1) → atL (l ++ [e]) x = atL l x + if e.1 = x then e.2 else 0
  | [], e, x, _ => by simp [atL]
  | y :: r, e, x, h => by
    have ih := atL_join r e x (fun f hf => h f (List.mem_cons_of_mem _ hf))
    simp only [List.cons_append, atL]
    by_cases hy : y.1 = x
    · rw [if_pos hy, if_pos hy, if_neg (fun he => h y (List.mem_cons_self ..) (hy.trans he.symm))]; omega
    · rw [if_neg hy, if_neg hy]; exact ih
theorem take_before {t : List (Int × Int)} (hr : Rising t) {k : Nat} (hk : k < t.length) : ∀ f ∈ t.take k, f.1 ≠ (t.getD k (0, 0)).1 := fun f hf => by
  have h := hr.sublist (List.take_sublist (k + 1) t)
  rw [take_join hk] at h
  have := (List.pairwise_append.1 h).2.2 f hf (t.getD k (0, 0)) (by simp)
  omega
theorem atL_take {t : List (Int × Int)} (hr : Rising t) {k : Nat} (hk : k < t.length) (x : Int) : atL (t.take (k + 1)) x = atL (t.take k) x + if pOf t k = x then cOf t k else 0 := by
  rw [take_join hk, atL_join _ _ _ (take_before hr hk)]
  rfl
theorem atL_take_none {t : List (Int × Int)} (hr : Rising t) {k : Nat} (hk : k < t.length) : atL (t.take k) (pOf t k) = 0 := atL_none (take_before hr hk)
theorem atL_bound {t : List (Int × Int)} {B : Int} (hB : 0 ≤ B) (h : ∀ e ∈ t, -B ≤ e.2 ∧ e.2 ≤ B) (x : Int) : -B ≤ atL t x ∧ atL t x ≤ B := by
  by_cases h0 : atL t x = 0
  · rw [h0]; omega
  · exact h _ (atL_some h0)

/-- What putTerms keeps: k terms are put. -/
structure InTerms (w wr : World) (b : Nat) (m : Int) (l0 t : List (Int × Int)) (nn0 : Nat) (l : List (Int × Int)) (k : Nat) : Prop where
  own : wr.ownsMap Tryz.prog 3 (plainElem (H := Unit) Tryz.prog 3) b (nn0 + k) (mapOf l)
  rise : Rising l
  val : ∀ x, atL l x = atL l0 x + atL (t.take k) x * m
  keys : ∀ e ∈ l, 2 ≤ e.1 ∧ e.1 ≤ 1000000
  len : l.length ≤ l0.length + k
  grow : w.grownBy wr (some b)
  box : wr.cell? ⟨w.heap.size, 1, none⟩ = some (.map (some b))

theorem InTerms.put {w wr w1 : World} {b : Nat} {m : Int} {l0 t l : List (Int × Int)} {nn0 k : Nat} {X : Obj} (h : InTerms w wr b m l0 t nn0 l k) (hb : b < w.heap.size) (ht : Rising t) (hk : k < t.length) (hp : 2 ≤ pOf t k ∧ pOf t k ≤ 1000000)
    (ho : w1.ownsMap Tryz.prog 3 (plainElem (H := Unit) Tryz.prog 3) b (nn0 + k + 1) ((mapOf l).put (.int .i64 (pOf t k)) (.lit (.int .i64 (atL l (pOf t k) + cOf t k * m))))) (hg : (wr.alloc X).grownBy w1 (some b)) :
    InTerms w w1 b m l0 t nn0 (putL l (pOf t k) (atL l (pOf t k) + cOf t k * m)) (k + 1) := by
  have hgg : w.grownBy (wr.alloc X) (some b) := ⟨h.grow.os, h.grow.tape, h.grow.output, Nat.le_trans h.grow.size (by simp), fun j hj hn => (Below.heap_alloc _ _ j (Nat.lt_of_lt_of_le hj h.grow.size)).trans (h.grow.block j hj hn)⟩
  refine ⟨by rw [put_map] at ho; rw [← Nat.add_assoc]; exact ho, rising_put h.rise _ _, fun x => ?_, fun e he => ?_, ?_, grown_two hgg hg, cell_beside hg (by rw [World.cell?_alloc_lt _ _ ⟨w.heap.size, 1, none⟩ (cell_lt h.box)]; exact h.box) (by omega)⟩
  · rw [atL_put h.rise, atL_take ht hk, Int.add_mul]
    by_cases hx : x = pOf t k
    · rw [if_pos hx, if_pos hx.symm, h.val, hx]; omega
    · rw [if_neg hx, if_neg (fun e => hx e.symm), h.val, Int.zero_mul]; omega
  · rcases mem_put.1 he with rfl | ⟨he, _⟩
    · exact hp
    · exact h.keys e he
  · have h1 := length_put l (pOf t k) (atL l (pOf t k) + cOf t k * m)
    have h2 := h.len
    omega

theorem prod_bd {x m : Int} (hx : -1099511627776 ≤ x ∧ x ≤ 1099511627776) (hm : 0 ≤ m ∧ m ≤ 1000000) : -1099511627776000000 ≤ x * m ∧ x * m ≤ 1099511627776000000 := by
  obtain ⟨a, rfl⟩ := Int.eq_ofNat_of_zero_le hm.1
  have h1 : x * (a : Int) ≤ 1099511627776 * (a : Int) := Int.mul_le_mul_of_nonneg_right hx.2 (by omega)
  have h2 : -1099511627776 * (a : Int) ≤ x * (a : Int) := Int.mul_le_mul_of_nonneg_right hx.1 (by omega)
  omega

end Go.Proofs.YtmdimdoglpiiiaaGreatDoor

/- dist.putEntropy: the entropy of weights put into a sum. -/
namespace Go.Proofs.YtmdimdoglpiiiaaGreatDoor
open Go.RowKit Go.Maps

/-- What the i-th weight puts: its logarithm's part of a prime. -/
def entV (z : Nat → Int) (N : Nat) (x : Int) (i : Nat) : Int := z i * multI x N - z i * multI x (z i).toNat
/-- A function that puts into the sum at b. -/
def putV (den : Int) (b : Nat) : Value := .func (.func 60) #[.agg #[.int .i64 den, .map (some b)]] #[]

theorem multI_small (x : Int) {n : Nat} (h6 : n ≤ 1000000) : 0 ≤ multI x n ∧ multI x n ≤ 19 := by
  refine ⟨multI_nonneg x n, ?_⟩
  rcases Nat.eq_zero_or_pos n with rfl | h
  · simp [multI, mult, multF]
  · exact multI_le x h h6
theorem mul_weight {t m : Int} (ht : -4096 ≤ t ∧ t ≤ 4096) (hm : 0 ≤ m ∧ m ≤ 19) : -77824 ≤ t * m ∧ t * m ≤ 77824 := by
  obtain ⟨k, rfl⟩ := Int.eq_ofNat_of_zero_le hm.1
  have hk : k ≤ 19 := by omega
  rcases k with _ | _ | _ | _ | _ | _ | _ | _ | _ | _ | _ | _ | _ | _ | _ | _ | _ | _ | _ | _ | k <;> omega
theorem entV_le {z : Nat → Int} {N i : Nat} (x : Int) (hz : 0 ≤ z i ∧ z i ≤ 4096) (hN : N ≤ 4096) : -200000 ≤ entV z N x i ∧ entV z N x i ≤ 200000 := by
  unfold entV
  have h1 := mul_weight (t := z i) (by omega) (multI_small x (n := N) (by omega))
  have h2 := mul_weight (t := z i) (by omega) (multI_small x (n := (z i).toNat) (by omega))
  omega
theorem sumN_bound {f : Nat → Int} {B : Int} : ∀ {n : Nat}, (∀ i, i < n → -B ≤ f i ∧ f i ≤ B) → -((n : Int) * B) ≤ sumN f n ∧ sumN f n ≤ (n : Int) * B
  | 0, _ => by simp [sumN]
  | n + 1, h => by
    have ih := sumN_bound (f := f) (B := B) (n := n) (fun i hi => h i (by omega))
    have h1 := h n (by omega)
    simp only [sumN]
    have : ((n + 1 : Nat) : Int) * B = (n : Int) * B + B := by rw [Int.natCast_add, Int.add_mul]; simp
    rw [this]
    omega
/-- A list's cells lie where no map does. -/
theorem RowAt.beside {w w' : World} {b o n mb nn : Nat} {z : Nat → Int} {D : DataW Unit} {k : TypeId} {R : Value → Option (DataW Unit × List MemPlace)} (h : RowAt w b o n z) (hm : w.ownsMap Tryz.prog k R mb nn D) (hg : w.grownBy w' (some mb)) : RowAt w' b o n z := fun i hi => by
  have h1 := h i hi
  refine cell_beside hg h1 ?_
  rintro rfl
  rw [map_no_cell hm] at h1
  cases h1

set_option maxRecDepth 100000 in
set_option maxHeartbeats 2000000 in
theorem putEntropy_some (den : Int) (mb nn0 b o cap n : Nat) (z : Nat → Int) (l0 : List (Int × Int)) (w : World) (hown : w.ownsMap Tryz.prog 3 (plainElem (H := Unit) Tryz.prog 3) mb nn0 (mapOf l0)) (hr : Rising l0) (hk : ∀ e ∈ l0, 2 ≤ e.1 ∧ e.1 ≤ 1000000)
    (hb : ∀ x, -1000000000000 ≤ atL l0 x ∧ atL l0 x ≤ 1000000000000) (hnn : nn0 ≤ 100000) (h : RowAt w b o n z) (hz : ∀ i, i < n → 0 ≤ z i) (hs : sumN z n ≤ 4096) (hn : n ≤ 256) :
    Calls Tryz.prog 31 #[.slice (some ⟨b, o, none⟩) n cap, putV den mb] w fun e w' => e = .returned (.tuple #[]) ∧ ∃ l nn, Puts w w' mb (fun x => sumN (entV z (sumN z n).toNat x) n) (2 * n) l0 nn0 l nn := by
  have hle : ∀ k, k ≤ n → 0 ≤ sumN z k ∧ sumN z k ≤ 4096 := fun k hk => ⟨sumN_nonneg (fun i hi => hz i (by omega)), Int.le_trans (sumN_mono hz hk) hs⟩
  have hzi : ∀ i, i < n → 0 ≤ z i ∧ z i ≤ 4096 := fun i hi => ⟨hz i hi, Int.le_trans (sumN_ge hz hi) hs⟩
  have ht := total_some b o cap n z w h (fun k hk => by have := hle k hk; omega) (fun i hi => by have := hzi i hi; omega) (by omega)
  obtain ⟨N, hN⟩ := Int.eq_ofNat_of_zero_le (hle n (Nat.le_refl _)).1
  have hN6 : N ≤ 4096 := by have := (hle n (Nat.le_refl _)).2; omega
  rw [hN] at ht ⊢
  have HP0 : Hid (Puts w w mb (fun x => sumN (entV z N x) 0) (2 * 0) l0 nn0 l0 nn0) := ⟨hown, hr, fun x => by simp [sumN], hk, by omega, by omega, grown_refl _ _⟩
  have HROW := Hid.mk' (fun (wr : World) (hg : w.grownBy wr (some mb)) => h.beside hown hg)
  have HZI := Hid.mk' hzi
  have HB := Hid.mk' hb
  have HNP : Hid (∀ i, i < n → z i ≠ 0 → 1 ≤ N) := fun i hi h0 => by have h1 := sumN_ge hz hi; have h2 := hz i hi; omega
  simp only [Int.toNat_natCast]
  clear hown hr hk hb h hz hle hzi
  unfold putV
  go_enter Tryz.func31, Tryz.ntmps31
  go_wp2_with fail
  refine ht.mono ?_
  clear ht
  rintro e w1 ⟨rfl, hw1⟩
  rw [hw1]
  clear hw1
  go_wp2_with fail
  go_loopw [11] (fun i wr => ∃ (k nn : Nat) (l : List (Int × Int)), k ≤ n ∧ i = .int .i64 k ∧ Hid (Puts w wr mb (fun x => sumN (entV z N x) k) (2 * k) l0 nn0 l nn)) (fun i _ => n - (intOf i).toNat)
  case atStart => exact ⟨0, nn0, l0, Nat.zero_le _, rfl, HP0⟩
  case round =>
    clear HP0
    obtain ⟨k, nn, l, hk, rfl, HP⟩ := hrel
    rcases Nat.lt_or_ge k n with h1 | h1
    · have hc := HROW.out _ HP.out.grow k h1
      have hkn : (k : Int) < (n : Int) := by omega
      have hzk := HZI.out k h1
      have HV : Hid (∀ x, sumN (entV z N x) (k + 1) = sumN (entV z N x) k + (z k * multI x N + -(z k) * multI x (z k).toNat)) := fun x => by
        show sumN (entV z N x) k + entV z N x k = _
        unfold entV
        rw [Int.neg_mul]; omega
      have HBD : Hid (∀ x, -1000100000000 ≤ atL l x ∧ atL l x ≤ 1000100000000) := fun x => by
        rw [HP.out.val]
        have h2 := HB.out x
        have h3 := sumN_bound (f := entV z N x) (B := 200000) (n := k) (fun i hi => entV_le x (HZI.out i (by omega)) hN6)
        have : (k : Int) * 200000 ≤ 51200000 := by omega
        omega
      have HNK := Hid.mk' (HNP.out k h1)
      obtain ⟨y, hy⟩ := Int.eq_ofNat_of_zero_le hzk.1
      rw [hy] at hc hzk HV HNK
      simp only [Int.toNat_natCast] at HV
      have hy6 : y ≤ 4096 := by have := hzk.2; omega
      have hnn1 : nn ≤ 200000 := by have := HP.out.cnt; omega
      have HP1 := Hid.mk' (Put_by den (y : Int) mb N nn l wr HP.out.own HP.out.rise HP.out.keys (fun x => by have := HBD.out x; omega) (by omega) (fun h => HNK.out h) (by omega) (by omega))
      clear hy hzk
      go_wp2_with fail
      refine HP1.out.mono ?_
      rintro e w2 ⟨rfl, l2, nn2, hp2⟩
      have hnn2 : nn2 ≤ 200020 := by have := hp2.cnt; omega
      have HP2 := Hid.mk' (Put_by den (-(y : Int)) mb y nn2 l2 w2 hp2.own hp2.rise hp2.keys (fun x => by rw [hp2.val]; have h2 := HBD.out x; have h3 := mul_weight (t := (y : Int)) (by omega) (multI_small x (n := N) (by omega)); omega) (by omega) (fun h => by omega) (by omega) (by omega))
      have HQ2 := Hid.mk' hp2
      clear hp2 HP1
      go_wp2_with fail
      refine HP2.out.mono ?_
      rintro e w3 ⟨rfl, l3, nn3, hp3⟩
      have HQ3 := Hid.mk' ((HP.out.trans (HQ2.out.trans hp3)).congr (d := 2 * (k + 1)) (by omega) (g := fun x => sumN (entV z N x) (k + 1)) (fun x => (HV.out x).symm))
      clear hp3 HP2
      go_wp2_with fail
      exact ⟨⟨k + 1, nn3, l3, h1, by go_num, HQ3⟩, by simp [intOf]; omega⟩
    · obtain rfl : k = n := by omega
      go_wp2_with fail
      go_end0
      exact ⟨rfl, l, nn, HP.out⟩
end Go.Proofs.YtmdimdoglpiiiaaGreatDoor
