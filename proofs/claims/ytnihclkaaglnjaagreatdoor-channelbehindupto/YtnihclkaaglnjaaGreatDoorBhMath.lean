/- Two channels behind each other: the numbers. -/
import Derived.Test.YtnihclkaaglnjaaGreatDoorBhMix
import Derived.Test.YtnihclkaaglnjaaGreatDoorCnTab
namespace Go.Proofs.YtnihclkaaglnjaaGreatDoor
open Go.RowKit

def frcL (X : Nat → Nat) (D C : Nat) : List (Nat × Nat) := (List.range C).map fun k => lowP (X k) D
theorem frcL_length (X : Nat → Nat) (D C : Nat) : (frcL X D C).length = C := by simp [frcL]
theorem frcL_snoc (X : Nat → Nat) (D C : Nat) : frcL X D (C + 1) = frcL X D C ++ [lowP (X C) D] := by simp [frcL, List.range_succ]
theorem frcL_get {X : Nat → Nat} {D C k : Nat} (hk : k < C) : (frcL X D C)[k]? = some (lowP (X k) D) := by simp [frcL, hk]
theorem frcL_mem {X : Nat → Nat} {D C : Nat} {p : Nat × Nat} (h : p ∈ frcL X D C) : ∃ k, k < C ∧ p = lowP (X k) D := by
  simp only [frcL, List.mem_map, List.mem_range] at h
  obtain ⟨k, hk, rfl⟩ := h
  exact ⟨k, hk, rfl⟩
theorem sumP_frc (L : Nat) (X : Nat → Nat) (D C : Nat) : sumP L (frcL X D C) = sumW (fun k => wholeP L (lowP (X k) D)) C := by
  rw [← sumW_map]; simp [sumP, frcL, List.map_map]; rfl
theorem frac_sum {X : Nat → Nat} {D C : Nat} (hD : 0 < D) (hs : sumW X C = D) : sumP (lcmP (frcL X D C)) (frcL X D C) = lcmP (frcL X D C) := by
  have hd : ∀ k, k < C → (lowP (X k) D).2 ∣ lcmP (frcL X D C) := fun k hk => lcmP_dvd _ _ (List.mem_of_getElem? (frcL_get hk))
  generalize lcmP (frcL X D C) = L at *
  rw [sumP_frc]
  refine Nat.eq_of_mul_eq_mul_right hD ?_
  rw [← sumW_mul]
  have h2 : sumW (fun k => wholeP L (lowP (X k) D) * D) C = sumW (fun k => X k * L) C := by
    refine sumW_congr fun k hk => ?_
    obtain ⟨e, he⟩ := hd k hk
    have hp : 0 < (lowP (X k) D).2 := (lowP_low hD).1
    unfold wholeP
    rw [he, Nat.mul_div_cancel_left _ hp, Nat.mul_right_comm, lowP_cross, Nat.mul_assoc]
  rw [h2, sumW_mul, hs, Nat.mul_comm]
theorem frac_gcd {X : Nat → Nat} {D C : Nat} (hD : 0 < D) (hs : sumW X C = D) : gcdP (lcmP (frcL X D C)) (frcL X D C) = 1 := by
  refine gcdP_one _ (fun q hq => ?_) (frac_sum hD hs)
  obtain ⟨k, hk, rfl⟩ := frcL_mem hq
  exact lowP_low hD
theorem sumW_ge {f : Nat → Nat} : ∀ {n k : Nat}, k < n → f k ≤ sumW f n
  | n + 1, k, h => by
    show f k ≤ sumW f n + f n
    rcases Nat.lt_or_ge k n with h1 | h1
    · have := sumW_ge (f := f) h1; omega
    · obtain rfl : k = n := by omega
      omega
theorem frac_whole_le {X : Nat → Nat} {D C : Nat} (hD : 0 < D) (hs : sumW X C = D) {p : Nat × Nat} (hp : p ∈ frcL X D C) : wholeP (lcmP (frcL X D C)) p ≤ lcmP (frcL X D C) := by
  obtain ⟨k, hk, rfl⟩ := frcL_mem hp
  have h1 := frac_sum hD hs
  rw [sumP_frc] at h1
  have h2 := sumW_ge (f := fun k => wholeP (lcmP (frcL X D C)) (lowP (X k) D)) hk
  rw [h1] at h2
  exact h2
theorem frac_lcm_le {X : Nat → Nat} {D C : Nat} (hD : 0 < D) (k : Nat) : lcmP ((frcL X D C).take k) ≤ D := by
  refine Nat.le_of_dvd hD (lcmP_least D _ fun p hp => ?_)
  obtain ⟨j, _, rfl⟩ := frcL_mem (List.mem_of_mem_take hp)
  exact Nat.div_dvd_of_dvd (Nat.gcd_dvd_right _ _)
theorem frac_fit {X : Nat → Nat} {D C : Nat} (hD : 0 < D) (hs : sumW X C = D) (h : lcmP (frcL X D C) ≤ 256) {k : Nat} (hk : k < C) : fitT (X k) D ∧ (lowP (X k) D).2 ≤ 256 ∧ (lowP (X k) D).1 ≤ 256 := by
  have hm := List.mem_of_getElem? (frcL_get (X := X) (D := D) hk)
  have hd : (lowP (X k) D).2 ≤ 256 := Nat.le_trans (Nat.le_of_dvd (lcmP_pos _ fun p hp => by obtain ⟨j, _, rfl⟩ := frcL_mem hp; exact (lowP_low hD).1) (lcmP_dvd _ _ hm)) h
  have hx : X k ≤ D := by rw [← hs]; exact sumW_ge hk
  have hn : (lowP (X k) D).1 ≤ (lowP (X k) D).2 := Nat.div_le_div_right hx
  exact ⟨⟨by show (lowP (X k) D).1 ≤ _; omega, by show (lowP (X k) D).2 ≤ _; omega⟩, hd, by omega⟩
/-- The product of all sums. -/
def prodS (S : Nat → Nat) : Nat → Nat
  | 0 => 1
  | n + 1 => prodS S n * S n
theorem othP_all {S : Nat → Nat} {i : Nat} : ∀ {n : Nat}, n ≤ i → othP S i n = prodS S n
  | 0, _ => rfl
  | n + 1, h => by
    show (if n = i then othP S i n else othP S i n * S n) = prodS S n * S n
    rw [if_neg (by omega), othP_all (by omega)]
theorem othP_mul {S : Nat → Nat} {i : Nat} : ∀ {n : Nat}, i < n → othP S i n * S i = prodS S n
  | n + 1, h => by
    show (if n = i then othP S i n else othP S i n * S n) * S i = prodS S n * S n
    by_cases e : n = i
    · rw [if_pos e, e, othP_all (Nat.le_refl _)]
    · rw [if_neg e, Nat.mul_right_comm, othP_mul (by omega)]
theorem prodS_pos {S : Nat → Nat} : ∀ {n : Nat}, (∀ i, i < n → 0 < S i) → 0 < prodS S n
  | 0, _ => Nat.one_pos
  | n + 1, h => Nat.mul_pos (prodS_pos fun i hi => h i (by omega)) (h n (by omega))
theorem prodS_le {S : Nat → Nat} : ∀ {n : Nat}, (∀ i, i < n → S i ≤ 256) → prodS S n ≤ 256 ^ n
  | 0, _ => Nat.le_refl _
  | n + 1, h => by
    show prodS S n * S n ≤ _
    rw [Nat.pow_succ]
    exact Nat.mul_le_mul (prodS_le fun i hi => h i (by omega)) (h n (by omega))
theorem sumW_addB (f g : Nat → Nat) : ∀ n, sumW (fun k => f k + g k) n = sumW f n + sumW g n
  | 0 => rfl
  | n + 1 => by simp only [sumW, sumW_addB f g n]; omega
theorem sumW_zeroB : ∀ n, sumW (fun _ => 0) n = 0
  | 0 => rfl
  | n + 1 => by simp [sumW, sumW_zeroB n]
theorem mix_sum (V : Nat → Nat → Nat) (z : Nat → Nat) (C : Nat) : ∀ i, sumW (fun k => mixX V z i k) C = mixA V z C i
  | 0 => sumW_zeroB C
  | i + 1 => by
    show sumW (fun k => mixX V z i k + V i k * z i) C = mixA V z C i + sumW (fun k => V i k * z i) C
    rw [sumW_addB, mix_sum V z C i]
theorem mixA_is {b : Nat → Nat → Nat} {S z : Nat → Nat} {R C : Nat} (h : ∀ j, j < R → sumW (b j) C = S j) : mixA (fun j k => othP S j R * b j k) z C R = sumW z R * prodS S R := by
  unfold mixA
  rw [← sumW_mul]
  refine sumW_congr fun j hj => ?_
  have e : sumW (fun k => othP S j R * b j k * z j) C = sumW (fun k => b j k * (othP S j R * z j)) C := sumW_congr fun k _ => by rw [Nat.mul_comm (othP S j R), Nat.mul_assoc]
  rw [e, sumW_mul, h j hj, ← othP_mul hj, ← Nat.mul_assoc, Nat.mul_comm (S j), Nat.mul_comm (z j)]
/-- The numbers of two channels. -/
def bhS (C : Nat) (zs : Nat → Nat → Int) (j : Nat) : Nat := (sumN (zs j) C).toNat
def bhV (R C : Nat) (zs : Nat → Nat → Int) (j k : Nat) : Nat := othP (bhS C zs) j R * (zs j k).toNat
def bhX (R C : Nat) (za zb : Nat → Nat → Int) (i k : Nat) : Nat := mixX (bhV R C zb) (fun j => (za i j).toNat) R k
def bhD (R C : Nat) (za zb : Nat → Nat → Int) (i : Nat) : Nat := mixA (bhV R C zb) (fun j => (za i j).toNat) C R
def bhL (R C : Nat) (za zb : Nat → Nat → Int) (i : Nat) : List (Nat × Nat) := frcL (bhX R C za zb i) (bhD R C za zb i) C
structure BhOk (Q R C : Nat) (za zb : Nat → Nat → Int) : Prop where
  q0 : 0 < Q
  q16 : Q ≤ 16
  r0 : 0 < R
  r16 : R ≤ 16
  c0 : 0 < C
  c16 : C ≤ 16
  oka : ∀ i, i < Q → OkW (za i) R
  okb : ∀ j, j < R → OkW (zb j) C
  lea : ∀ i, i < Q → sumN (za i) R ≤ 256
  leb : ∀ j, j < R → sumN (zb j) C ≤ 256
theorem bhOk_of {Q R : Nat} {na nb : Nat → Nat} {za zb : Nat → Nat → Int} (h1 : chanErr Q na za = 0) (h2 : chanErr R nb zb = 0) (h3 : na 0 = R) : BhOk Q R (nb 0) za zb ∧ (∀ i, i < Q → na i = R) ∧ ∀ j, j < R → nb j = nb 0 := by
  obtain ⟨a1, a2, a3, a4, a5, a6, a7⟩ := chanErr_ok h1
  obtain ⟨b1, b2, b3, b4, b5, b6, b7⟩ := chanErr_ok h2
  subst h3
  exact ⟨⟨a1, a2, b1, b2, b3, b4, a6, b6, a7, b7⟩, a5, b5⟩
theorem BhOk.sums {Q R C : Nat} {za zb : Nat → Nat → Int} (h : BhOk Q R C za zb) {j : Nat} (hj : j < R) : sumW (fun k => (zb j k).toNat) C = bhS C zb j ∧ 0 < bhS C zb j ∧ bhS C zb j ≤ 256 := by
  have h1 := (h.okb j hj).pos
  have h2 := h.leb j hj
  refine ⟨(sumN_toNat fun k hk => ((h.okb j hj).lt hk).1).symm, ?_, ?_⟩
  · unfold bhS; omega
  · unfold bhS; omega
theorem BhOk.suma {Q R C : Nat} {za zb : Nat → Nat → Int} (h : BhOk Q R C za zb) {i : Nat} (hi : i < Q) : sumW (fun j => (za i j).toNat) R = (sumN (za i) R).toNat ∧ 0 < (sumN (za i) R).toNat ∧ (sumN (za i) R).toNat ≤ 256 := by
  have h1 := (h.oka i hi).pos
  have h2 := h.lea i hi
  exact ⟨(sumN_toNat fun k hk => ((h.oka i hi).lt hk).1).symm, by omega, by omega⟩
theorem BhOk.den {Q R C : Nat} {za zb : Nat → Nat → Int} (h : BhOk Q R C za zb) {i : Nat} (hi : i < Q) : bhD R C za zb i = (sumN (za i) R).toNat * prodS (bhS C zb) R ∧ 0 < bhD R C za zb i ∧ bhD R C za zb i ≤ 2 ^ 136 := by
  have e : bhD R C za zb i = (sumN (za i) R).toNat * prodS (bhS C zb) R := by
    rw [← (h.suma hi).1]
    exact mixA_is (b := fun j k => (zb j k).toNat) fun j hj => (h.sums hj).1
  refine ⟨e, ?_, ?_⟩
  · rw [e]; exact Nat.mul_pos (h.suma hi).2.1 (prodS_pos fun j hj => (h.sums hj).2.1)
  · rw [e]
    refine Nat.le_trans (Nat.mul_le_mul (h.suma hi).2.2 (Nat.le_trans (prodS_le fun j hj => (h.sums hj).2.2) (Nat.pow_le_pow_right (by decide) h.r16))) (by decide)
theorem BhOk.sum {Q R C : Nat} {za zb : Nat → Nat → Int} (_ : BhOk Q R C za zb) (i : Nat) : sumW (bhX R C za zb i) C = bhD R C za zb i := mix_sum _ _ _ _
end Go.Proofs.YtnihclkaaglnjaaGreatDoor
