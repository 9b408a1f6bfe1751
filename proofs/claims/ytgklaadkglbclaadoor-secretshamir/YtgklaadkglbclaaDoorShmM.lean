/- SHAMIR: as many shares as coefficients join to the secret; with one of them changed, each secret comes of just one value. Plain functions. -/
import Derived.Test.YtgklaadkglbclaaDoorSkJm
namespace Go.Proofs.YtgklaadkglbclaaDoor

/-- The i-th place, from s on, round X of them. -/
def rotA (X s i : Nat) : Nat := (s + i) % X + 1
theorem rot_places {P X s m : Nat} (hX : 0 < X) (hXP : X + 1 ≤ P) (hm : m ≤ X) : Places P m (rotA X s) := by
  have key : ∀ i j, i < j → j < m → rotA X s i ≠ rotA X s j := fun i j hij hj e => by
    have e1 : (s + j) % X = (s + i) % X := by unfold rotA at e; omega
    have e2 := Nat.sub_mod_eq_zero_of_mod_eq e1
    rw [show s + j - (s + i) = j - i by omega, Nat.mod_eq_of_lt (by omega)] at e2
    omega
  refine ⟨fun i => ?_, fun i _ => ?_, fun i j hi hj hij => ?_⟩
  · have := Nat.mod_lt (s + i) hX; unfold rotA; omega
  · unfold rotA; omega
  · rcases Nat.lt_or_ge i j with h | h
    · exact key i j h hj
    · exact fun e => key j i (by omega) hi e.symm
theorem shamir_joins {P m : Nat} {A c : Nat → Nat} (hF : FldN P) (hPl : Places P m A) (hc : ∀ i, c i < P) (hm : 0 < m) : joN P m A (fun i => valN P c (A i) m) = c 0 := by
  have h := joN_tells (V := fun i => valN P c (A i) m) hPl hF (polZ_pol (P : Int) c m) (fun i _ => (valN_mo P c (A i) m).symm)
  rw [polZ_zero c m hm] at h
  have := h.exact ⟨by omega, by have := joN_lt (m := m) (A := A) (V := fun i => valN P c (A i) m) hF.two; omega⟩ ⟨by omega, by have := hc 0; omega⟩
  omega
/-- The first value changed. -/
def setV (V : Nat → Nat) (v i : Nat) : Nat := if i = 0 then v else V i
theorem joS_set (P m : Nat) (A V : Nat → Nat) (v : Nat) : ∀ k, joS P m A (setV V v) k = joS P m A (setV V 0) k + if 0 < k then v * partN P m A 0 else 0
  | 0 => by simp [joS]
  | k + 1 => by
    have ih := joS_set P m A V v k
    simp only [joS, ih]
    rw [if_pos (Nat.succ_pos k)]
    by_cases h : k = 0
    · subst h; simp [setV, joS]
    · rw [if_pos (by omega)]
      have e : setV V v k = setV V 0 k := by simp [setV, h]
      rw [e]; omega
theorem up_unit {P m : Nat} {A : Nat → Nat} (hF : FldN P) (hPl : Places P m A) (i : Nat) : ∀ k, k ≤ m → ¬ Mo (P : Int) (prodE (fun j => (A j : Int)) i 0 k) 0
  | 0, _ => hF.one
  | k + 1, h => by
    have ih := up_unit hF hPl i k (by omega)
    simp only [prodE]
    by_cases e : k = i
    · rw [if_pos e]; exact ih
    · rw [if_neg e]
      intro hz
      have h1 := hF.fl.euclid ih hz
      rw [Int.sub_zero] at h1
      have h2 := (mo_zero_iff (hPl.lt k)).1 h1
      have h3 := hPl.pos k (by omega)
      omega
theorem part_unit {P m : Nat} {A : Nat → Nat} (hF : FldN P) (hPl : Places P m A) {i : Nat} (hi : i < m) : ∃ r, Mo (P : Int) ((partN P m A i : Int) * r) 1 := by
  refine hF.fl _ fun hz => ?_
  have h1 : Mo (P : Int) (partN P m A i : Int) ((upN P A i m : Int) * (ivN P (dnN P A i m) : Int)) := (mo_cast P _).trans (Mo.of (Int.natCast_mul _ _))
  have hu : ¬ Mo (P : Int) (upN P A i m : Int) 0 := fun h => up_unit hF hPl i m (Nat.le_refl _) ((upN_mo P A i m).symm.trans h)
  have h2 := hF.fl.euclid hu (h1.symm.trans hz)
  have h3 := ivN_pos hF (hPl.down hF hi) (dnN_lt hF.two m)
  have h4 := (mo_zero_iff (ivN_lt hF (dnN P A i m))).1 h2
  omega
/-- Just one value of the first share joins to a guess. -/
theorem one_only {P m : Nat} {A V : Nat → Nat} (hF : FldN P) (hPl : Places P m A) (hm : 0 < m) {G : Nat} (hG : G < P) : ∃ v0, v0 < P ∧ ∀ v, v < P → (joN P m A (setV V v) = G ↔ v = v0) := by
  obtain ⟨r, hr⟩ := part_unit hF hPl hm
  obtain ⟨K, hK⟩ : ∃ K, K = joS P m A (setV V 0) m := ⟨_, rfl⟩
  have hp0 : (0 : Int) < (P : Int) := by have := hF.two; omega
  have hlt := Int.emod_lt_of_pos (((G : Int) - (K : Int)) * r) hp0
  have hge := Int.emod_nonneg (((G : Int) - (K : Int)) * r) (show (P : Int) ≠ 0 by omega)
  obtain ⟨v0, hv0⟩ : ∃ v0 : Nat, (((G : Int) - (K : Int)) * r) % (P : Int) = (v0 : Int) := ⟨_, (Int.toNat_of_nonneg hge).symm⟩
  have hm0 : Mo (P : Int) (v0 : Int) (((G : Int) - (K : Int)) * r) := by rw [← hv0]; exact Mo.emod _ _
  refine ⟨v0, by omega, fun v hv => ?_⟩
  have hj : Mo (P : Int) (joN P m A (setV V v) : Int) ((K : Int) + (v : Int) * (partN P m A 0 : Int)) := by
    refine (mo_cast P _).trans (Mo.of ?_)
    rw [joS_set, if_pos hm, ← hK, Int.natCast_add, Int.natCast_mul]
  constructor
  · intro e
    rw [e] at hj
    have h1 : Mo (P : Int) (v : Int) (((G : Int) - (K : Int)) * r) := by
      obtain ⟨a, ha⟩ := hj
      obtain ⟨b, hb⟩ := hr
      exact ⟨-(a * r) - (v : Int) * b, by grind⟩
    have := (h1.trans hm0.symm).exact ⟨by omega, by omega⟩ ⟨by omega, by omega⟩
    omega
  · rintro rfl
    have h1 : Mo (P : Int) ((K : Int) + (v : Int) * (partN P m A 0 : Int)) (G : Int) := by
      obtain ⟨a, ha⟩ := hm0
      obtain ⟨b, hb⟩ := hr
      exact ⟨a * (partN P m A 0 : Int) + ((G : Int) - (K : Int)) * b, by grind⟩
    have := (hj.trans h1).exact ⟨by omega, by have := joN_lt (m := m) (A := A) (V := setV V v) hF.two; omega⟩ ⟨by omega, by omega⟩
    omega
/-- How many of the first k values join to a guess. -/
def cntV (g : Nat → Nat) (G : Nat) : Nat → Nat
  | 0 => 0
  | k + 1 => cntV g G k + if g k = G then 1 else 0
theorem cntV_one {g : Nat → Nat} {G P v0 : Nat} (h : ∀ v, v < P → (g v = G ↔ v = v0)) : ∀ k, k ≤ P → cntV g G k = if v0 < k then 1 else 0
  | 0, _ => by simp [cntV]
  | k + 1, hk => by
    have ih := cntV_one h k (by omega)
    have h1 := h k (by omega)
    simp only [cntV, ih]
    by_cases e : k = v0
    · rw [if_pos (h1.2 e), if_neg (by omega), if_pos (by omega)]
    · rw [if_neg (fun h2 => e (h1.1 h2))]
      by_cases e2 : v0 < k
      · rw [if_pos e2, if_pos (by omega)]
      · rw [if_neg e2, if_neg (by omega)]
theorem cntV_le (g : Nat → Nat) (G : Nat) : ∀ k, cntV g G k ≤ k
  | 0 => Nat.le_refl _
  | k + 1 => by have := cntV_le g G k; simp only [cntV]; split <;> omega
end Go.Proofs.YtgklaadkglbclaaDoor
