/- Fractions over one denominator in their lowest terms; sums by rising lists. -/
namespace Go.Proofs.YtiegobkbinojeaaDoor

def lowG (M : Nat) (z : Int) : Nat := Nat.gcd z.natAbs M
def lowN (M : Nat) (z : Int) : Int := z.tdiv (lowG M z : Int)
def lowD (M : Nat) (z : Int) : Nat := M / lowG M z

theorem low_parts {n : Int} {d : Nat} (hd : 0 < d) : 0 < Nat.gcd n.natAbs d ∧ n = ((Nat.gcd n.natAbs d : Nat) : Int) * n.tdiv ((Nat.gcd n.natAbs d : Nat) : Int) ∧ d = Nat.gcd n.natAbs d * (d / Nat.gcd n.natAbs d) ∧ Nat.Coprime (n.tdiv ((Nat.gcd n.natAbs d : Nat) : Int)).natAbs (d / Nat.gcd n.natAbs d) ∧ (n.tdiv ((Nat.gcd n.natAbs d : Nat) : Int)).natAbs = n.natAbs / Nat.gcd n.natAbs d ∧ 0 < d / Nat.gcd n.natAbs d := by
  have hg : 0 < Nat.gcd n.natAbs d := Nat.gcd_pos_of_pos_right _ hd
  have h1 : Nat.gcd n.natAbs d ∣ n.natAbs := Nat.gcd_dvd_left _ _
  have h2 : Nat.gcd n.natAbs d ∣ d := Nat.gcd_dvd_right _ _
  have h3 : (n.tdiv ((Nat.gcd n.natAbs d : Nat) : Int)).natAbs = n.natAbs / Nat.gcd n.natAbs d := by rw [Int.natAbs_tdiv]; rfl
  refine ⟨hg, ?_, (Nat.mul_div_cancel' h2).symm, ?_, h3, Nat.div_pos (Nat.le_of_dvd hd h2) hg⟩
  · rw [Int.mul_tdiv_cancel' (Int.ofNat_dvd_left.2 h1)]
  · rw [h3]
    exact Nat.coprime_div_gcd_div_gcd hg
theorem lowG_pos {M : Nat} (h : 0 < M) (z : Int) : 0 < lowG M z := Nat.gcd_pos_of_pos_right _ h
theorem lowD_pos {M : Nat} (h : 0 < M) (z : Int) : 0 < lowD M z := (low_parts (n := z) h).2.2.2.2.2
theorem lowD_le (M : Nat) (z : Int) : lowD M z ≤ M := Nat.div_le_self _ _
theorem lowN_le {M : Nat} (h : 0 < M) (z : Int) : (lowN M z).natAbs ≤ z.natAbs := by
  have := (low_parts (n := z) h).2.2.2.2.1
  show (z.tdiv ((Nat.gcd z.natAbs M : Nat) : Int)).natAbs ≤ _
  rw [this]
  exact Nat.div_le_self _ _
theorem low_cross {M : Nat} (h : 0 < M) (z : Int) : lowN M z * (M : Int) = z * (lowD M z : Int) := by
  obtain ⟨_, h1, h2, _⟩ := low_parts (n := z) h
  have h2' : (M : Int) = ((Nat.gcd z.natAbs M : Nat) : Int) * ((M / Nat.gcd z.natAbs M : Nat) : Int) := by rw [← Int.natCast_mul, ← h2]
  show z.tdiv ((Nat.gcd z.natAbs M : Nat) : Int) * (M : Int) = z * ((M / Nat.gcd z.natAbs M : Nat) : Int)
  generalize Nat.gcd z.natAbs M = g at *
  generalize M / g = q at *
  generalize z.tdiv (g : Int) = t at *
  rw [h2', h1, ← Int.mul_assoc, Int.mul_comm t]
/-- One fraction has one lowest form. -/
theorem low_same {M d : Nat} {z n : Int} (hM : 0 < M) (hd : 0 < d) (h : n * (M : Int) = z * (d : Int)) : n.tdiv ((Nat.gcd n.natAbs d : Nat) : Int) = lowN M z ∧ d / Nat.gcd n.natAbs d = lowD M z := by
  obtain ⟨g1, g2, g3, g4, _, g6⟩ := low_parts (n := n) hd
  obtain ⟨k1, k2, k3, k4, _, k6⟩ := low_parts (n := z) hM
  show _ = z.tdiv ((Nat.gcd z.natAbs M : Nat) : Int) ∧ _ = M / Nat.gcd z.natAbs M
  generalize Nat.gcd n.natAbs d = g at *
  generalize Nat.gcd z.natAbs M = k at *
  generalize n.tdiv (g : Int) = n' at *
  generalize z.tdiv (k : Int) = z' at *
  generalize d / g = d' at *
  generalize M / k = m' at *
  have h1 : n' * (m' : Int) = z' * (d' : Int) := by
    have h2 : ((g : Int) * (k : Int)) * (n' * (m' : Int)) = ((g : Int) * (k : Int)) * (z' * (d' : Int)) := by
      calc ((g : Int) * (k : Int)) * (n' * (m' : Int)) = ((g : Int) * n') * ((k : Int) * (m' : Int)) := by grind
        _ = n * (M : Int) := by rw [← g2, ← Int.natCast_mul, ← k3]
        _ = z * (d : Int) := h
        _ = ((k : Int) * z') * ((g : Int) * (d' : Int)) := by rw [← k2, ← Int.natCast_mul, ← g3]
        _ = _ := by grind
    refine Int.eq_of_mul_eq_mul_left ?_ h2
    intro h0
    rcases Int.mul_eq_zero.1 h0 with h3 | h3 <;> omega
  have h2 : n'.natAbs * m' = z'.natAbs * d' := by
    have := congrArg Int.natAbs h1
    rwa [Int.natAbs_mul, Int.natAbs_mul, Int.natAbs_natCast, Int.natAbs_natCast] at this
  have h3 : m' ∣ d' := k4.symm.dvd_of_dvd_mul_left ⟨n'.natAbs, by rw [← h2, Nat.mul_comm]⟩
  have h4 : d' ∣ m' := g4.symm.dvd_of_dvd_mul_left ⟨z'.natAbs, by rw [h2, Nat.mul_comm]⟩
  have h5 : d' = m' := Nat.dvd_antisymm h4 h3
  subst h5
  exact ⟨Int.eq_of_mul_eq_mul_right (by omega) h1, rfl⟩
theorem low_plus {M : Nat} (hM : 0 < M) (z1 z2 : Int) : (lowN M z1 * (lowD M z2 : Int) + lowN M z2 * (lowD M z1 : Int)).tdiv ((Nat.gcd (lowN M z1 * (lowD M z2 : Int) + lowN M z2 * (lowD M z1 : Int)).natAbs (lowD M z1 * lowD M z2) : Nat) : Int) = lowN M (z1 + z2) ∧ lowD M z1 * lowD M z2 / Nat.gcd (lowN M z1 * (lowD M z2 : Int) + lowN M z2 * (lowD M z1 : Int)).natAbs (lowD M z1 * lowD M z2) = lowD M (z1 + z2) := by
  refine low_same hM (Nat.mul_pos (lowD_pos hM z1) (lowD_pos hM z2)) ?_
  have h1 := low_cross hM z1
  have h2 := low_cross hM z2
  rw [Int.natCast_mul]
  generalize lowN M z1 = a at *
  generalize lowN M z2 = b at *
  generalize (lowD M z1 : Int) = c at *
  generalize (lowD M z2 : Int) = e at *
  generalize (M : Int) = m at *
  grind
theorem low_one (z : Int) : lowN 1 z = z ∧ lowD 1 z = 1 := by
  unfold lowN lowD lowG
  rw [Nat.gcd_one_right]
  exact ⟨Int.tdiv_one z, rfl⟩

end Go.Proofs.YtiegobkbinojeaaDoor
