/- Fields: secret.isModulus, allFrom; the document's IsField, InField. -/
import Derived.Test.YtgklaadkglbclaaDoorSkMath
import Derived.Test.YtgklaadkglbclaaDoorNums
import Derived.Test.YtgklaadkglbclaaDoorSkRow
namespace Go.Proofs.YtgklaadkglbclaaDoor
open Go.RowKit

theorem primB_iff {n : Nat} (hn : n ≤ 997) : primB n = true ↔ Pr n := by
  unfold primB Pr
  simp only [Bool.and_eq_true, decide_eq_true_eq, List.all_eq_true, List.mem_range, Bool.or_eq_true, bne_iff_ne]
  constructor
  · rintro ⟨h2, h⟩
    refine ⟨h2, fun d hd hdd => ?_⟩
    have h32 : d < 32 := by
      rcases Nat.lt_or_ge d 32 with h' | h'
      · exact h'
      · have := Nat.mul_le_mul h' h'; omega
    rcases h d h32 with (h1 | h1) | h1
    · omega
    · omega
    · exact h1
  · rintro ⟨h2, h⟩
    refine ⟨h2, fun d hd => ?_⟩
    by_cases h1 : d < 2
    · exact Or.inl (Or.inl h1)
    · by_cases h3 : n < d * d
      · exact Or.inl (Or.inr h3)
      · exact Or.inr (h d (by omega) (by omega))
/-- Is there a field of so many? -/
def fldB (p : Int) : Bool := decide (p ≤ 997) && (decide (2 ≤ p) && primB p.toNat)
theorem fldB_ok {p : Int} (h : fldB p = true) : 2 ≤ p ∧ p ≤ 997 ∧ primB p.toNat = true := by
  unfold fldB at h
  simp only [Bool.and_eq_true, decide_eq_true_eq] at h
  exact ⟨h.2.1, h.1, h.2.2⟩
theorem fermat_at {p n : Nat} (hp : p ≤ 997) (h : primB p = true) (h0 : 0 < n) (hn : n < p) : n ^ (p - 2) % p * n % p = 1 := by
  have h1 := List.all_eq_true.1 fermat_all p (List.mem_range.2 (by omega))
  rw [h] at h1
  simp only [Bool.not_true, Bool.false_or, List.all_eq_true, List.mem_range, Bool.or_eq_true, beq_iff_eq] at h1
  rcases h1 n hn with h2 | h2
  · omega
  · exact h2
theorem fl_of {p : Nat} (hp : p ≤ 997) (h : primB p = true) : Fl (p : Int) := fun a ha => by
  have h2 : 2 ≤ p := by unfold primB at h; simp at h; exact h.1
  obtain ⟨n, hn⟩ : ∃ n : Nat, a % (p : Int) = (n : Int) := ⟨_, (Int.toNat_of_nonneg (Int.emod_nonneg a (by omega))).symm⟩
  have hlt : n < p := by have := Int.emod_lt_of_pos a (show (0 : Int) < p by omega); omega
  have h0 : 0 < n := by
    rcases Nat.eq_zero_or_pos n with h | h
    · exfalso
      refine ha ((Mo.emod p a).symm.trans (Mo.of ?_))
      rw [hn, h]; rfl
    · exact h
  refine ⟨((n ^ (p - 2) % p : Nat) : Int), ?_⟩
  have h3 := fermat_at hp h h0 hlt
  have h4 : Mo (p : Int) (a * ((n ^ (p - 2) % p : Nat) : Int)) ((n : Int) * ((n ^ (p - 2) % p : Nat) : Int)) := ((Mo.emod p a).symm.trans (Mo.of hn)).mul (Mo.refl _ _)
  refine h4.trans (Mo.of_eq ?_)
  rw [show (n : Int) * ((n ^ (p - 2) % p : Nat) : Int) = ((n ^ (p - 2) % p * n : Nat) : Int) by rw [Int.natCast_mul]; exact Int.mul_comm _ _, ← Int.natCast_emod, h3]
  exact (Int.emod_eq_of_lt (by omega) (by omega)).symm

theorem Prime_low (n : Int) (w : World) (h : n < 2) :
    Calls Tryd.prog 47 #[.int .i64 n] w fun e w' => e = .returned (.bool false) ∧ w' = w := by
  have h4 : n < 4 := by omega
  have e2 : (n == 2) = false := by rw [beq_eq_false_iff_ne]; omega
  have e3 : (n == 3) = false := by rw [beq_eq_false_iff_ne]; omega
  go_enter Tryd.func47, Tryd.ntmps47
  go_wp2
  go_ret
  exact ⟨rfl, rfl⟩
theorem prime_any (p : Int) (w : World) (h : p ≤ 997) :
    Calls Tryd.prog 47 #[.int .i64 p] w fun e w' => e = .returned (.bool (fldB p)) ∧ w' = w := by
  by_cases h2 : p < 2
  · have : fldB p = false := by unfold fldB; rw [decide_eq_false (by omega : ¬ 2 ≤ p)]; simp
    rw [this]
    exact Prime_low p w h2
  · obtain ⟨n, rfl⟩ : ∃ n : Nat, p = (n : Int) := ⟨_, (Int.toNat_of_nonneg (by omega)).symm⟩
    have : fldB (n : Int) = primB n := by unfold fldB; rw [decide_eq_true h, decide_eq_true (by omega : (2 : Int) ≤ n)]; simp
    rw [this]
    exact Prime_in n _ (primB_iff (by omega)) w (by omega) (by omega)
theorem isPrime_any (p : Int) (w : World) (h : p ≤ 997) :
    Calls Tryd.prog 46 #[.int .i64 p] w fun e w' => e = .returned (.bool (fldB p)) ∧ w' = w := by
  by_cases h2 : p < 2
  · have : fldB p = false := by unfold fldB; rw [decide_eq_false (by omega : ¬ 2 ≤ p)]; simp
    rw [this]
    exact IsPrime_out p w (Or.inl h2)
  · obtain ⟨n, rfl⟩ : ∃ n : Nat, p = (n : Int) := ⟨_, (Int.toNat_of_nonneg (by omega)).symm⟩
    have : fldB (n : Int) = primB n := by unfold fldB; rw [decide_eq_true h, decide_eq_true (by omega : (2 : Int) ≤ n)]; simp
    rw [this]
    exact IsPrime_in n _ (primB_iff (by omega)) w (by omega) (by omega)
set_option maxRecDepth 100000 in
theorem isModulus_any (p : Int) (w : World) :
    Calls Tryd.prog 34 #[.int .i64 p] w fun e w' => e = .returned (.bool (fldB p)) ∧ w' = w := by
  by_cases h : p ≤ 997
  · have hP := prime_any p w h
    generalize fldB p = q at *
    go_enter Tryd.func34, Tryd.ntmps34
    go_wp2_with fail
    refine hP.mono ?_
    rintro e w1 ⟨rfl, hw1⟩
    rw [hw1]
    clear hw1 hP
    go_wp2_with fail
    go_ret
    exact ⟨rfl, rfl⟩
  · have HF : Hid (fldB p = false) := by show _ = _; unfold fldB; rw [decide_eq_false h]; rfl
    have hd : decide (p ≤ 997) = false := decide_eq_false h
    go_enter Tryd.func34, Tryd.ntmps34
    go_wp2_with fail
    go_ret
    exact ⟨by rw [HF.out]; rfl, rfl⟩
set_option maxRecDepth 100000 in
theorem IsField_any (p : Int) (w : World) :
    Calls Tryd.prog 32 #[.int .i64 p] w fun e w' => e = .returned (.bool (fldB p)) ∧ w' = w := by
  by_cases h : p ≤ 997
  · have hP := isPrime_any p w h
    generalize fldB p = q at *
    go_enter Tryd.func32, Tryd.ntmps32
    go_wp2_with fail
    refine hP.mono ?_
    rintro e w1 ⟨rfl, hw1⟩
    rw [hw1]
    clear hw1 hP
    go_wp2_with fail
    go_ret
    exact ⟨rfl, rfl⟩
  · have HF : Hid (fldB p = false) := by show _ = _; unfold fldB; rw [decide_eq_false h]; rfl
    have hd : decide (p ≤ 997) = false := decide_eq_false h
    go_enter Tryd.func32, Tryd.ntmps32
    go_wp2_with fail
    go_ret
    exact ⟨by rw [HF.out]; rfl, rfl⟩

/-- Are the first k from lo on and below p? -/
def inFB (z : Nat → Int) (lo p : Int) : Nat → Bool
  | 0 => true
  | k + 1 => inFB z lo p k && decide (lo ≤ z k ∧ z k < p)
theorem inFB_no {z : Nat → Int} {lo p : Int} {k n : Nat} (h : ¬ (lo ≤ z k ∧ z k < p)) (hk : k < n) : inFB z lo p n = false := by
  induction n with
  | zero => omega
  | succ n ih =>
    rcases Nat.lt_or_ge k n with h1 | h1
    · simp [inFB, ih h1]
    · obtain rfl : k = n := by omega
      simp only [inFB, decide_eq_false h, Bool.and_false]
theorem inFB_next {z : Nat → Int} {lo p : Int} {k : Nat} (h : inFB z lo p k = true) (h1 : lo ≤ z k ∧ z k < p) : inFB z lo p (k + 1) = true := by simp [inFB, h, h1]
theorem inFB_all {z : Nat → Int} {lo p : Int} {n : Nat} (h : inFB z lo p n = true) {k : Nat} (hk : k < n) : lo ≤ z k ∧ z k < p := by
  by_cases e : lo ≤ z k ∧ z k < p
  · exact e
  · rw [inFB_no e hk] at h; cases h
set_option maxRecDepth 100000 in
set_option maxHeartbeats 1000000 in
theorem allFrom_any (lo hi : Int) (v : Value) (n : Nat) (z : Nat → Int) (w : World) (h : NumsAt w v n z) (hn : n ≤ 1000000) :
    Calls Tryd.prog 35 #[.int .i64 lo, .int .i64 hi, v] w fun e w' => e = .returned (.bool (inFB z lo (hi + 1) n)) ∧ w' = w := by
  rcases h with ⟨ad, cap, rfl, rfl⟩ | ⟨b, o, cap, rfl, h0, hr⟩
  · go_enter Tryd.func35, Tryd.ntmps35
    go_wp2_with fail
    refine wp_loop_rounds 1 ?_
    rw [rounds_succ]
    go_wp2_with fail
    go_ret
    exact ⟨rfl, rfl⟩
  · have HR := Hid.mk' hr
    clear hr
    go_enter Tryd.func35, Tryd.ntmps35
    go_wp2_with fail
    go_loop [11] (fun t => ∃ k : Nat, k ≤ n ∧ t = .int .i64 k ∧ Hid (inFB z lo (hi + 1) k = true)) (fun t => n - (intOf t).toNat)
    case atStart => exact ⟨0, Nat.zero_le _, rfl, rfl⟩
    case round =>
      obtain ⟨k, hk, rfl, HS⟩ := hrel
      rcases Nat.lt_or_ge k n with h1 | h1
      · have hc := HR.out k h1
        have hkn : (k : Int) < (n : Int) := by omega
        by_cases e : lo ≤ z k ∧ z k < hi + 1
        · have HN := Hid.mk' (inFB_next HS.out e)
          have e1 : decide (z k < lo) = false := decide_eq_false (by omega)
          have e2 : decide (hi < z k) = false := decide_eq_false (by omega)
          generalize z k = x at *
          clear e
          go_wp2_with fail
          exact ⟨⟨k + 1, h1, by go_num, HN⟩, by simp [intOf]; omega⟩
        · have HN := Hid.mk' (inFB_no e h1)
          by_cases e1 : z k < lo
          · generalize z k = x at *
            clear e
            go_wp2_with fail
            go_ret
            exact ⟨by rw [HN.out]; rfl, rfl⟩
          · have e2 : hi < z k := by omega
            have e3 : decide (z k < lo) = false := decide_eq_false e1
            generalize z k = x at *
            clear e e1
            go_wp2_with fail
            go_ret
            exact ⟨by rw [HN.out]; rfl, rfl⟩
      · obtain rfl : k = n := by omega
        go_wp2_with fail
        go_ret
        exact ⟨by rw [HS.out]; rfl, rfl⟩
set_option maxRecDepth 100000 in
set_option maxHeartbeats 1000000 in
theorem InField_any (lo p : Int) (v : Value) (n : Nat) (z : Nat → Int) (w : World) (h : NumsAt w v n z) (hn : n ≤ 1000000) :
    Calls Tryd.prog 33 #[v, .int .i64 p, .int .i64 lo] w fun e w' => e = .returned (.bool (inFB z lo p n)) ∧ w' = w := by
  rcases h with ⟨ad, cap, rfl, rfl⟩ | ⟨b, o, cap, rfl, h0, hr⟩
  · go_enter Tryd.func33, Tryd.ntmps33
    go_wp2_with fail
    refine wp_loop_rounds 1 ?_
    rw [rounds_succ]
    go_wp2_with fail
    go_ret
    exact ⟨rfl, rfl⟩
  · have HR := Hid.mk' hr
    clear hr
    go_enter Tryd.func33, Tryd.ntmps33
    go_wp2_with fail
    go_loop [7] (fun t => ∃ k : Nat, k ≤ n ∧ t = .int .i64 k ∧ Hid (inFB z lo p k = true)) (fun t => n - (intOf t).toNat)
    case atStart => exact ⟨0, Nat.zero_le _, rfl, rfl⟩
    case round =>
      obtain ⟨k, hk, rfl, HS⟩ := hrel
      rcases Nat.lt_or_ge k n with h1 | h1
      · have hc := HR.out k h1
        have hkn : (k : Int) < (n : Int) := by omega
        by_cases e : lo ≤ z k ∧ z k < p
        · have HN := Hid.mk' (inFB_next HS.out e)
          have e1 : decide (z k < lo) = false := decide_eq_false (by omega)
          have e2 : decide (p ≤ z k) = false := decide_eq_false (by omega)
          generalize z k = x at *
          clear e
          go_wp2_with fail
          exact ⟨⟨k + 1, h1, by go_num, HN⟩, by simp [intOf]; omega⟩
        · have HN := Hid.mk' (inFB_no e h1)
          by_cases e1 : z k < lo
          · generalize z k = x at *
            clear e
            go_wp2_with fail
            go_ret
            exact ⟨by rw [HN.out]; rfl, rfl⟩
          · have e2 : p ≤ z k := by omega
            have e3 : decide (z k < lo) = false := decide_eq_false e1
            generalize z k = x at *
            clear e e1
            go_wp2_with fail
            go_ret
            exact ⟨by rw [HN.out]; rfl, rfl⟩
      · obtain rfl : k = n := by omega
        go_wp2_with fail
        go_ret
        exact ⟨by rw [HS.out]; rfl, rfl⟩
end Go.Proofs.YtgklaadkglbclaaDoor
