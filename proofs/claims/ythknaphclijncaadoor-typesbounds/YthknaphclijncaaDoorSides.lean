/- The document's digits, power, Sides, TooGreat and SignOf. -/
import Derived.Test.YthknaphclijncaaDoorBigMul
import Derived.Test.YthknaphclijncaaDoorValidWalk
import Derived.Laws.MathBits
namespace Go.Proofs.YthknaphclijncaaDoor
open Go.RowKit

theorem bitLen_half {n : Nat} (h : 0 < n) : bitLen n = bitLen (n / 2) + 1 := by
  rcases Nat.lt_or_ge n 2 with h1 | h1
  · obtain rfl : n = 1 := by omega
    decide
  · have := bitLen_shift n 1 (by simp; omega)
    simp at this
    omega
theorem bitLen_zero : bitLen 0 = 0 := by simp [bitLen]
theorem bitLen_million {n : Nat} (h : n ≤ 1000000) : bitLen n ≤ 20 := by
  unfold bitLen
  split
  · omega
  · rename_i h0
    have := (Nat.log2_lt h0).2 (show n < 2 ^ 20 by omega)
    omega
theorem bitLen_pos {n : Nat} (h : 0 < n) : 0 < bitLen n := by
  rw [bitLen_half h]; omega

theorem pow_half (n k : Nat) (h : ¬ k % 2 = 1) : n ^ (k / 2) * n ^ (k / 2) = n ^ k := by
  rw [← Nat.pow_add]; congr 1; omega
theorem pow_half_odd (n k : Nat) (h : k % 2 = 1) : n ^ (k / 2) * n ^ (k / 2) * n = n ^ k := by
  rw [← Nat.pow_add, ← Nat.pow_succ]; congr 1; omega

set_option maxRecDepth 10000 in
set_option maxHeartbeats 1000000 in
theorem power_any (n E : Nat) (hn : n ≤ 1000000) (hn1 : 1 ≤ n) (hE : E ≤ 1000000) : ∀ (k : Nat) (w : World), k ≤ 1500000 → n ^ k < 1000000 ^ E →
    Calls Tryd.prog 96 #[.int .i64 n, .int .i64 k] w fun e w' => ∃ v, e = .returned v ∧ BigAt w' v (n ^ k) ∧ Below w.heap.size w w' := by
  intro k
  induction k using Nat.strongRecOn with
  | _ k ih =>
    intro w hk hp
    have HIH := Hid.mk' ih
    clear ih
    rcases Nat.eq_zero_or_pos k with rfl | hpos
    · have hone := BigOf_any 1 w (by omega)
      clear hp
      go_enter Tryd.func96, Tryd.ntmps96
      go_wp2_with fail
      refine hone.mono ?_
      rintro e w1 ⟨v, rfl, hv, hb⟩
      go_wp2_with fail
      go_ret
      exact ⟨v, rfl, by simpa using hv, hb⟩
    · have hle : ∀ j, j ≤ k → n ^ j < 1000000 ^ E := fun j hj => Nat.lt_of_le_of_lt (Nat.pow_le_pow_right hn1 hj) hp
      have hrec := HIH.out (k / 2) (by omega) w (by omega) (hle _ (by omega))
      have hkz : ((k : Int) == 0) = false := by simp; omega
      have HLE := Hid.mk' hle
      clear hle hp HIH
      go_enter Tryd.func96, Tryd.ntmps96
      go_wp2_with fail
      refine hrec.mono ?_
      clear hrec
      rintro e w1 ⟨v, rfl, hv, hb⟩
      have hmul := BigMul_any v v _ _ E w1 hv hv (HLE.out _ (by omega)) (HLE.out _ (by omega)) hE
      have HB := Hid.mk' hb
      clear hv hb
      go_wp2_with fail
      refine hmul.mono ?_
      clear hmul
      rintro e w2 ⟨v2, rfl, hv2, hb2⟩
      have HB2 := Hid.mk' (below_chain HB.out hb2)
      by_cases hodd : k % 2 = 1
      · have ho : ((k : Int) % 2 == 1) = true := by simp; omega
        have hone := BigOf_any n w2 (by omega)
        have HV2 := Hid.mk' hv2
        clear hv2 hb2
        go_wp2_with fail
        refine hone.mono ?_
        clear hone
        rintro e w3 ⟨v3, rfl, hv3, hb3⟩
        have hmul := BigMul_any v2 v3 _ _ E w3 (HV2.out.later hb3) hv3 (by rw [← Nat.pow_add]; exact HLE.out _ (by omega)) (by have := HLE.out 1 (by omega); rw [Nat.pow_one] at this; exact this) hE
        have HB3 := Hid.mk' (below_chain HB2.out hb3)
        clear hv3 hb3
        go_wp2_with fail
        refine hmul.mono ?_
        rintro e w4 ⟨v4, rfl, hv4, hb4⟩
        go_wp2_with fail
        go_ret
        exact ⟨v4, rfl, by rw [← pow_half_odd n k hodd]; exact hv4, below_chain HB3.out hb4⟩
      · have ho : ((k : Int) % 2 == 1) = false := by simp; omega
        go_wp2_with fail
        go_ret
        exact ⟨v2, rfl, by rw [← pow_half n k hodd]; exact hv2, HB2.out⟩

/-- Sizes times bits, of the first k terms. -/
def cost (p c : Nat → Int) : Nat → Nat
  | 0 => 0
  | k + 1 => cost p c k + (c k).natAbs * bitLen (p k).toNat
def Bounded (n : Nat) (p c : Nat → Int) : Prop := ∀ i, i < n → 2 ≤ p i ∧ p i ≤ 1000000 ∧ -1099511627776 ≤ c i ∧ c i ≤ 1099511627776 ∧ c i ≠ 0
theorem OkTo.bounded {n : Nat} {p c : Nat → Int} (h : OkTo p c n) : Bounded n p c := fun i hi => ⟨(h i hi).2.2.2.2.2.1, (h i hi).2.1, (h i hi).2.2.2.1, (h i hi).2.2.2.2.1, (h i hi).2.2.1⟩
theorem LogAt.cellsAt {w : World} {ad : Option Addr} {n cap : Nat} {p c : Nat → Int} (h : LogAt w (.slice ad n cap) n p c) {k : Nat} (hk : k < n) : ∃ b o, ad = some ⟨b, o, none⟩ ∧ w.cell? ⟨b, o + k * 2, none⟩ = some (.int .i64 (p k)) ∧ w.cell? ⟨b, o + k * 2 + 1, none⟩ = some (.int .i64 (c k)) := by
  rcases h with ⟨_, _, _, rfl⟩ | ⟨b, o, _, h1, _, h3⟩
  · omega
  · simp only [Value.slice.injEq] at h1
    exact ⟨b, o, h1.1, h3 k hk⟩
theorem cost_mono (p c : Nat → Int) {j k : Nat} (h : j ≤ k) : cost p c j ≤ cost p c k := by
  induction k with
  | zero => obtain rfl : j = 0 := by omega
            exact Nat.le_refl _
  | succ k ih =>
    rcases Nat.lt_or_ge k j with h' | h'
    · obtain rfl : j = k + 1 := by omega
      exact Nat.le_refl _
    · have := ih h'
      show _ ≤ cost p c k + _
      omega

theorem quo_nat (left b : Nat) (hl : left ≤ 40000) : wrap64 ((left : Int) / (b : Int)) = ((left / b : Nat) : Int) := by
  have h0 : (left : Int) / (b : Int) = ((left / b : Nat) : Int) := by simp
  have h1 : left / b ≤ left := Nat.div_le_self _ _
  rw [h0]
  generalize left / b = q at h1
  rw [w64 _ (by omega)]
theorem too_more {left b m : Nat} {x : Int} (hx : x = (m : Int)) (hb : 0 < b) (hl : left ≤ 40000) (h : left < m * b) : wrap64 ((left : Int) / (b : Int)) < x := by
  rw [quo_nat left b hl, hx]
  have := (Nat.div_lt_iff_lt_mul hb).2 h
  omega
theorem too_less {left b m : Nat} {x : Int} (hx : x = (m : Int)) (hb : 0 < b) (hl : left ≤ 40000) (h : m * b ≤ left) : x ≤ wrap64 ((left : Int) / (b : Int)) := by
  rw [quo_nat left b hl, hx]
  have := (Nat.le_div_iff_mul_le hb).2 h
  omega
theorem too_prod {b m : Nat} {x : Int} (hx : x = (m : Int)) : x * (b : Int) = ((m * b : Nat) : Int) := by rw [hx]; simp

/-- The products of powers. -/
def sideUp (p c : Nat → Int) (t : Nat) : Nat → Nat
  | 0 => 1
  | k + 1 => if 0 < c k then sideUp p c t k * (p k).toNat ^ ((c k).natAbs * t) else sideUp p c t k
def sideDown (p c : Nat → Int) (t : Nat) : Nat → Nat
  | 0 => 1
  | k + 1 => if 0 < c k then sideDown p c t k else sideDown p c t k * (p k).toNat ^ ((c k).natAbs * t)
theorem sideUp_pos {p c : Nat → Int} {t k : Nat} (h : 0 < c k) : sideUp p c t (k + 1) = sideUp p c t k * (p k).toNat ^ ((c k).natAbs * t) := by
  show (if _ then _ else _) = _
  rw [if_pos h]
theorem sideUp_neg {p c : Nat → Int} {t k : Nat} (h : ¬ 0 < c k) : sideUp p c t (k + 1) = sideUp p c t k := by
  show (if _ then _ else _) = _
  rw [if_neg h]
theorem sideDown_pos {p c : Nat → Int} {t k : Nat} (h : 0 < c k) : sideDown p c t (k + 1) = sideDown p c t k := by
  show (if _ then _ else _) = _
  rw [if_pos h]
theorem sideDown_neg {p c : Nat → Int} {t k : Nat} (h : ¬ 0 < c k) : sideDown p c t (k + 1) = sideDown p c t k * (p k).toNat ^ ((c k).natAbs * t) := by
  show (if _ then _ else _) = _
  rw [if_neg h]
theorem pow_bits (q m t : Nat) : q ^ (m * t) ≤ 2 ^ (t * (m * bitLen q)) := by
  have h1 : q ≤ 2 ^ bitLen q := Nat.le_of_lt (bitLen_spec q).1
  have h2 := Nat.pow_le_pow_left h1 (m * t)
  rw [← Nat.pow_mul] at h2
  rw [show t * (m * bitLen q) = bitLen q * (m * t) by grind]
  exact h2
theorem sides_le (p c : Nat → Int) (t : Nat) : ∀ k, sideUp p c t k ≤ 2 ^ (t * cost p c k) ∧ sideDown p c t k ≤ 2 ^ (t * cost p c k)
  | 0 => by simp [sideUp, sideDown, cost]
  | k + 1 => by
    have ih := sides_le p c t k
    have hp := pow_bits (p k).toNat (c k).natAbs t
    have e : 2 ^ (t * cost p c (k + 1)) = 2 ^ (t * cost p c k) * 2 ^ (t * ((c k).natAbs * bitLen (p k).toNat)) := by
      rw [← Nat.pow_add]; congr 1; show t * (cost p c k + _) = _; rw [Nat.mul_add]
    rw [e]
    have h1 : 1 ≤ 2 ^ (t * ((c k).natAbs * bitLen (p k).toNat)) := Nat.one_le_two_pow
    by_cases hc : 0 < c k
    · rw [sideUp_pos hc, sideDown_pos hc]
      exact ⟨Nat.mul_le_mul ih.1 hp, by have := Nat.mul_le_mul ih.2 h1; rwa [Nat.mul_one] at this⟩
    · rw [sideUp_neg hc, sideDown_neg hc]
      exact ⟨by have := Nat.mul_le_mul ih.1 h1; rwa [Nat.mul_one] at this, Nat.mul_le_mul ih.2 hp⟩
theorem cost_lt {p c : Nat → Int} {t k n E : Nat} (hk : k ≤ n) (h : 2 ^ (t * cost p c n) < 1000000 ^ E) : 2 ^ (t * cost p c k) < 1000000 ^ E :=
  Nat.lt_of_le_of_lt (Nat.pow_le_pow_right (by decide) (Nat.mul_le_mul_left _ (cost_mono p c hk))) h
theorem term_lt {p c : Nat → Int} {t k n E : Nat} (hk : k < n) (h : 2 ^ (t * cost p c n) < 1000000 ^ E) : (p k).toNat ^ ((c k).natAbs * t) < 1000000 ^ E := by
  refine Nat.lt_of_le_of_lt (Nat.le_trans (pow_bits _ _ _) ?_) (cost_lt (show k + 1 ≤ n by omega) h)
  refine Nat.pow_le_pow_right (by decide) (Nat.mul_le_mul_left _ ?_)
  show _ ≤ cost p c k + _
  omega
theorem size_le_cost {p c : Nat → Int} {k n : Nat} (hk : k < n) (hb : Bounded n p c) : (c k).natAbs ≤ cost p c n := by
  have h1 := cost_mono p c (show k + 1 ≤ n by omega)
  have h2 : 0 < bitLen (p k).toNat := bitLen_pos (by have := (hb k hk).1; omega)
  have h3 : (c k).natAbs * 1 ≤ (c k).natAbs * bitLen (p k).toNat := Nat.mul_le_mul_left _ h2
  have h4 : cost p c (k + 1) = cost p c k + (c k).natAbs * bitLen (p k).toNat := rfl
  omega

set_option maxRecDepth 10000 in
set_option maxHeartbeats 1000000 in
theorem Sides_one (den : Int) (ad : Option Addr) (n cap E : Nat) (p c : Nat → Int) (w : World) (hl : LogAt w (.slice ad n cap) n p c) (hn : n ≤ 30) (hbd : Bounded n p c) (hcost : 1 * cost p c n ≤ 40000) (hE : E ≤ 1000000) (hEb : 2 ^ (1 * cost p c n) < 1000000 ^ E) :
    Calls Tryd.prog 71 #[.agg #[.int .i64 den, .slice ad n cap], .int .i64 1] w fun e w' => ∃ u v, e = .returned (.tuple #[u, v]) ∧ BigAt w' u (sideUp p c 1 n) ∧ BigAt w' v (sideDown p c 1 n) ∧ Below w.heap.size w w' := by
  have hb0 : Below w.heap.size w (w.alloc (.cells #[.int .i64 den, .slice ad n cap] 32)) := (Below.refl _ _).alloc (Nat.le_refl _) _
  have hc1 : (w.alloc (.cells #[.int .i64 den, .slice ad n cap] 32)).cell? ⟨w.heap.size, 1, none⟩ = some (.slice ad n cap) := by simp
  have HL := Hid.mk' (hl.later hb0)
  have HBD := Hid.mk' hbd
  have HEB := Hid.mk' hEb
  have HC1 := Hid.mk' hc1
  have HB0 := Hid.mk' hb0
  have hsz : ∀ i, i < n → (c i).natAbs ≤ 40000 := fun i hi => by have := size_le_cost hi hbd; omega
  have HSZ := Hid.mk' hsz
  clear hl hbd hEb hsz hc1 hb0
  have hone := BigOf_any 1 (w.alloc (.cells #[.int .i64 den, .slice ad n cap] 32)) (by omega)
  generalize hw0 : w.alloc (.cells #[.int .i64 den, .slice ad n cap] 32) = w0 at HL HC1 HB0 hone
  have HW0 := Hid.mk' hw0
  clear hw0
  go_enter Tryd.func71, Tryd.ntmps71
  go_wp2_with fail
  rw [HW0.out]
  refine hone.mono ?_
  clear hone
  rintro e w1 ⟨v1, rfl, hv1, hb1⟩
  have hone := BigOf_any 1 w1 (by omega)
  have HV1 := Hid.mk' hv1
  have HB1 := Hid.mk' hb1
  clear hv1 hb1
  go_wp2_with fail
  refine hone.mono ?_
  clear hone
  rintro e w2 ⟨v2, rfl, hv2, hb2⟩
  have HB2 := Hid.mk' (below_chain HB1.out hb2)
  have HV2 := Hid.mk' hv2
  have HV1' := Hid.mk' (HV1.out.later hb2)
  clear hv2 hb2 HV1 HB1
  go_wp2_with fail
  go_loopw [6, 7, 8] (fun s t i wr => ∃ k : Nat, k ≤ n ∧ i = .int .i64 k ∧ Hid (BigAt wr s (sideUp p c 1 k)) ∧ Hid (BigAt wr t (sideDown p c 1 k)) ∧ Hid (Below w0.heap.size w0 wr)) (fun _ _ i _ => n - (intOf i).toNat)
  case atStart => exact ⟨0, by omega, rfl, HV1', HV2, HB2⟩
  case round =>
    clear HV1' HV2 HB2
    obtain ⟨k, hk, rfl, HU, HD, HB⟩ := hrel
    have hcl := HB.out.cell (cell_lt HC1.out)
    rw [HC1.out] at hcl
    have hk0 : (0 : Int) ≤ (k : Int) := by omega
    by_cases hlt : k < n
    · obtain ⟨b, o, rfl, hc0, hc1⟩ := (HL.out.later HB.out).cellsAt hlt
      have hkI : (k : Int) < (n : Int) := by omega
      obtain ⟨hp2, hp6, _, _, hcz⟩ := HBD.out k hlt
      have hs := HSZ.out k hlt
      have hcR : -40000 ≤ c k ∧ c k ≤ 40000 := by omega
      obtain ⟨q, hq⟩ := Int.eq_ofNat_of_zero_le (show 0 ≤ p k by omega)
      have hqt : (p k).toNat = q := by omega
      have htl := term_lt hlt HEB.out
      have hsl := sides_le p c 1 k
      have hkl := cost_lt (t := 1) (Nat.le_of_lt hlt) HEB.out
      rw [hqt] at htl
      have hpow := power_any q E (by omega) (by omega) hE ((c k).natAbs * 1) wr (by omega) htl
      have HQT := Hid.mk' hqt
      have HTL := Hid.mk' htl
      have HUL := Hid.mk' (Nat.lt_of_le_of_lt hsl.1 hkl)
      have HDL := Hid.mk' (Nat.lt_of_le_of_lt hsl.2 hkl)
      rw [hq] at hc0
      clear hqt hsl hkl htl hq hp2 hp6 hs
      by_cases hpos : 0 < c k
      · rw [show (((c k).natAbs * 1 : Nat) : Int) = c k by omega] at hpow
        go_wp2_with fail
        refine hpow.mono ?_
        clear hpow
        rintro e w3 ⟨v3, rfl, hv3, hb3⟩
        have hmul := BigMul_any u6 v3 _ _ E w3 (HU.out.later hb3) hv3 HUL.out HTL.out hE
        have HB3 := Hid.mk' (below_chain HB.out hb3)
        have HD3 := Hid.mk' (HD.out.later hb3)
        clear hv3 hb3
        go_wp2_with fail
        refine hmul.mono ?_
        clear hmul
        rintro e w4 ⟨v4, rfl, hv4, hb4⟩
        go_wp2_with fail
        exact ⟨⟨k + 1, by omega, by go_num, by show BigAt _ _ _; rw [sideUp_pos hpos, HQT.out]; exact hv4, by show BigAt _ _ _; rw [sideDown_pos hpos]; exact HD3.out.later hb4, below_chain HB3.out hb4⟩, by simp [intOf]; omega⟩
      · rw [show (((c k).natAbs * 1 : Nat) : Int) = -c k by omega] at hpow
        go_wp2_with fail
        refine hpow.mono ?_
        clear hpow
        rintro e w3 ⟨v3, rfl, hv3, hb3⟩
        have hmul := BigMul_any u7 v3 _ _ E w3 (HD.out.later hb3) hv3 HDL.out HTL.out hE
        have HB3 := Hid.mk' (below_chain HB.out hb3)
        have HU3 := Hid.mk' (HU.out.later hb3)
        clear hv3 hb3
        go_wp2_with fail
        refine hmul.mono ?_
        clear hmul
        rintro e w4 ⟨v4, rfl, hv4, hb4⟩
        go_wp2_with fail
        exact ⟨⟨k + 1, by omega, by go_num, by show BigAt _ _ _; rw [sideUp_neg (Int.not_lt.2 (by omega))]; exact HU3.out.later hb4, by show BigAt _ _ _; rw [sideDown_neg (Int.not_lt.2 (by omega)), HQT.out]; exact hv4, below_chain HB3.out hb4⟩, by simp [intOf]; omega⟩
    · obtain rfl : k = n := by omega
      go_wp2_with fail
      go_ret2
      exact ⟨u6, u7, rfl, HU.out, HD.out, below_chain HB0.out HB.out⟩
end Go.Proofs.YthknaphclijncaaDoor
