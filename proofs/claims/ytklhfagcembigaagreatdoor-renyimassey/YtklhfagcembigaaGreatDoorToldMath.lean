/- The common denominator of fractions, and what is told over it. -/
import Derived.Test.YtklhfagcembigaaGreatDoorWideMath
namespace Go.Proofs.YtklhfagcembigaaGreatDoor

theorem lcm_quot {M G H : Nat} (hM : 0 < M) (hG : G ∣ M) (hH : H ∣ M) : (M / G) * ((M / H) / Nat.gcd (M / G) (M / H)) = M / Nat.gcd G H := by
  obtain ⟨a, ha⟩ := hG
  obtain ⟨b, hb⟩ := hH
  have hG0 : 0 < G := Nat.pos_of_ne_zero fun h => by rw [h, Nat.zero_mul] at ha; omega
  have hH0 : 0 < H := Nat.pos_of_ne_zero fun h => by rw [h, Nat.zero_mul] at hb; omega
  have ha0 : 0 < a := Nat.pos_of_ne_zero fun h => by rw [h, Nat.mul_zero] at ha; omega
  have e1 : M / G = a := by rw [ha]; exact Nat.mul_div_cancel_left _ hG0
  have e2 : M / H = b := by rw [hb]; exact Nat.mul_div_cancel_left _ hH0
  rw [e1, e2]
  have hk : 0 < Nat.gcd G H := Nat.gcd_pos_of_pos_left _ hG0
  have hc := Nat.coprime_div_gcd_div_gcd hk
  have eG : G = Nat.gcd G H * (G / Nat.gcd G H) := (Nat.mul_div_cancel' (Nat.gcd_dvd_left _ _)).symm
  have eH : H = Nat.gcd G H * (H / Nat.gcd G H) := (Nat.mul_div_cancel' (Nat.gcd_dvd_right _ _)).symm
  generalize Nat.gcd G H = k at *
  generalize G / k = g at *
  generalize H / k = h at *
  have h1 : g * a = h * b := by
    have : k * (g * a) = k * (h * b) := by rw [← Nat.mul_assoc, ← Nat.mul_assoc, ← eG, ← eH, ← ha, ← hb]
    exact Nat.eq_of_mul_eq_mul_left hk this
  obtain ⟨c, rfl⟩ : g ∣ b := hc.dvd_of_dvd_mul_left ⟨a, h1.symm⟩
  have hg0 : 0 < g := Nat.pos_of_ne_zero fun e => by rw [e, Nat.mul_zero] at eG; omega
  have h2 : a = h * c := by
    have : g * a = g * (h * c) := by rw [h1]; grind
    exact Nat.eq_of_mul_eq_mul_left hg0 this
  subst h2
  have hc0 : 0 < c := Nat.pos_of_ne_zero fun e => by rw [e, Nat.mul_zero] at ha0; omega
  have h3 : Nat.gcd (h * c) (g * c) = c := by rw [Nat.gcd_mul_right, hc.symm, Nat.one_mul]
  rw [h3, Nat.mul_div_cancel _ hc0, ha, eG]
  rw [show k * g * (h * c) = k * (h * c * g) by grind, Nat.mul_div_cancel_left _ hk]

theorem den_step {M G : Nat} {z : Int} (hM : 0 < M) (hG : G ∣ M) : (M / G) * (lowD M z / Nat.gcd (M / G) (lowD M z)) = M / Nat.gcd G z.natAbs := by
  unfold lowD
  rw [lcm_quot hM hG (show lowG M z ∣ M from Nat.gcd_dvd_right _ _)]
  congr 1
  unfold lowG
  refine Nat.dvd_antisymm ?_ ?_
  · exact Nat.dvd_gcd (Nat.gcd_dvd_left _ _) (Nat.dvd_trans (Nat.gcd_dvd_right _ _) (Nat.gcd_dvd_left _ _))
  · exact Nat.dvd_gcd (Nat.gcd_dvd_left _ _) (Nat.dvd_gcd (Nat.gcd_dvd_right _ _) (Nat.dvd_trans (Nat.gcd_dvd_left _ _) hG))

/-- A coefficient times the common denominator is whole. -/
theorem coef_whole {M G : Nat} {z : Int} (hM : 0 < M) (hG : G ∣ M) (hz : G ∣ z.natAbs) : (lowN M z * ((M / G : Nat) : Int)).tdiv ((Nat.gcd (lowN M z * ((M / G : Nat) : Int)).natAbs (lowD M z * 1) : Nat) : Int) = z.tdiv (G : Int) ∧ lowD M z * 1 / Nat.gcd (lowN M z * ((M / G : Nat) : Int)).natAbs (lowD M z * 1) = 1 := by
  have hG0 : 0 < G := Nat.pos_of_dvd_of_pos hG hM
  have h1 := low_cross hM z
  have h2 : z = (G : Int) * z.tdiv (G : Int) := (Int.mul_tdiv_cancel' (Int.ofNat_dvd_left.2 hz)).symm
  have h3 : (M : Int) = (G : Int) * ((M / G : Nat) : Int) := by rw [← Int.natCast_mul, Nat.mul_div_cancel' hG]
  have h4 : lowN M z * ((M / G : Nat) : Int) * ((1 : Nat) : Int) = z.tdiv (G : Int) * ((lowD M z * 1 : Nat) : Int) := by
    rw [Nat.mul_one]
    generalize lowN M z = a at *
    generalize (lowD M z : Int) = d at *
    generalize ((M / G : Nat) : Int) = m at *
    have h5 : (G : Int) * (a * m * ((1 : Nat) : Int)) = (G : Int) * (z.tdiv (G : Int) * d) := by
      rw [h3] at h1
      generalize z.tdiv (G : Int) = q at *
      rw [h2] at h1
      have : a * ((G : Int) * m) = (G : Int) * q * d := h1
      grind
    exact Int.eq_of_mul_eq_mul_left (by omega) h5
  have h6 := low_same (M := 1) (z := z.tdiv (G : Int)) (by decide) (Nat.mul_pos (lowD_pos hM z) (by decide)) h4
  rw [(low_one _).1, (low_one _).2] at h6
  exact h6
theorem gList_dvd_base (L : List Int) (g : Nat) : gList g L ∣ g := (gList_dvd L g).1
end Go.Proofs.YtklhfagcembigaaGreatDoor
