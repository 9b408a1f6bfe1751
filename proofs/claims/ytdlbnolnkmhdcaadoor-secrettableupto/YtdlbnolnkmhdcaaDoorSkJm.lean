/- What shares join to: LAGRANGE's parts at 0 as the program reckons them, NEWTON's differences as the document does. Plain functions. -/
import Derived.Test.YtdlbnolnkmhdcaaDoorSkPol
namespace Go.Proofs.YtdlbnolnkmhdcaaDoor

/-- The inverse. -/
def ivN (p a : Nat) : Nat := a ^ (p - 2) % p
def invK (p n : Nat) : Nat → Nat
  | 0 => 1
  | k + 1 => invK p n k * n % p
theorem invK_pow {p n : Nat} (hp : 2 ≤ p) : ∀ k, invK p n k = n ^ k % p
  | 0 => by simp [invK]; exact (Nat.mod_eq_of_lt (by omega)).symm
  | k + 1 => by rw [invK, invK_pow hp k, Nat.pow_succ]; simp
/-- A field of p. -/
structure FldN (p : Nat) : Prop where
  two : 2 ≤ p
  le : p ≤ 997
  pr : primB p = true
theorem FldN.fl {p : Nat} (h : FldN p) : Fl (p : Int) := fl_of h.le h.pr
theorem FldN.one {p : Nat} (h : FldN p) : ¬ Mo (p : Int) 1 0 := fun hm => by
  have := hm.exact ⟨by omega, by have := h.two; omega⟩ ⟨by omega, by have := h.two; omega⟩
  omega
theorem mo_zero_iff {p a : Nat} (ha : a < p) : Mo (p : Int) (a : Int) 0 ↔ a = 0 := by
  constructor
  · intro h
    have := h.exact ⟨by omega, by omega⟩ ⟨by omega, by omega⟩
    omega
  · rintro rfl; exact Mo.refl _ _
theorem ivN_lt {p : Nat} (h : FldN p) (a : Nat) : ivN p a < p := Nat.mod_lt _ (by have := h.two; omega)
theorem ivN_mul {p a : Nat} (h : FldN p) (h0 : 0 < a) (ha : a < p) : a * ivN p a % p = 1 := by
  have := fermat_at h.le h.pr h0 ha
  rw [Nat.mul_comm]; exact this
theorem ivN_pos {p a : Nat} (h : FldN p) (h0 : 0 < a) (ha : a < p) : 0 < ivN p a := by
  have h1 := ivN_mul h h0 ha
  rcases Nat.eq_zero_or_pos (ivN p a) with e | e
  · rw [e] at h1; simp at h1
  · exact e
theorem mo_mod_one {p a x : Nat} (h2 : 2 ≤ p) (h : a * x % p = 1) : Mo (p : Int) ((a : Int) * (x : Int)) 1 := by
  refine Mo.of_eq ?_
  rw [← Int.natCast_mul, ← Int.natCast_emod, h]
  exact (Int.emod_eq_of_lt (by omega) (by omega)).symm
/-- There is but one inverse. -/
theorem ivN_only {p a x : Nat} (h : FldN p) (h0 : 0 < a) (ha : a < p) (hx : x < p) (h1 : a * x % p = 1) : x = ivN p a := by
  have e1 := mo_mod_one h.two h1
  have e2 := mo_mod_one h.two (ivN_mul h h0 ha)
  have hm : Mo (p : Int) (x : Int) (ivN p a : Int) := by
    obtain ⟨k, hk⟩ := e1
    obtain ⟨l, hl⟩ := e2
    exact ⟨k * (ivN p a : Int) - l * (x : Int), by grind⟩
  have := hm.exact ⟨by omega, by omega⟩ ⟨by omega, by have := ivN_lt h a; omega⟩
  omega

/-- Right places: from 1 on, below p, unlike. -/
structure Places (p m : Nat) (A : Nat → Nat) : Prop where
  lt : ∀ i, A i < p
  pos : ∀ i, i < m → 0 < A i
  ne : ∀ i j, i < m → j < m → i ≠ j → A i ≠ A j
theorem Places.apart {p m : Nat} {A : Nat → Nat} (h : Places p m A) : Apart (p : Int) (fun i => (A i : Int)) m := fun i j hi hj hij hm => by
  have h1 : Mo (p : Int) (A i : Int) (A j : Int) := by
    obtain ⟨k, hk⟩ := hm
    exact ⟨k, by dsimp only at hk; omega⟩
  have := h1.exact ⟨by omega, by have := h.lt i; omega⟩ ⟨by omega, by have := h.lt j; omega⟩
  exact h.ne i j hi hj hij (by omega)

def upN (p : Nat) (A : Nat → Nat) (i : Nat) : Nat → Nat
  | 0 => 1
  | k + 1 => if k = i then upN p A i k else upN p A i k * A k % p
def dnN (p : Nat) (A : Nat → Nat) (i : Nat) : Nat → Nat
  | 0 => 1
  | k + 1 => if k = i then dnN p A i k else dnN p A i k * (A k + p - A i) % p
def partN (p m : Nat) (A : Nat → Nat) (i : Nat) : Nat := upN p A i m * ivN p (dnN p A i m) % p
def joS (p m : Nat) (A V : Nat → Nat) : Nat → Nat
  | 0 => 0
  | k + 1 => joS p m A V k + V k * partN p m A k
def joN (p m : Nat) (A V : Nat → Nat) : Nat := joS p m A V m % p
theorem upN_lt {p : Nat} {A : Nat → Nat} {i : Nat} (hp : 2 ≤ p) : ∀ k, upN p A i k < p
  | 0 => by simp only [upN]; omega
  | k + 1 => by
    simp only [upN]; split
    · exact upN_lt hp k
    · exact Nat.mod_lt _ (by omega)
theorem dnN_lt {p : Nat} {A : Nat → Nat} {i : Nat} (hp : 2 ≤ p) : ∀ k, dnN p A i k < p
  | 0 => by simp only [dnN]; omega
  | k + 1 => by
    simp only [dnN]; split
    · exact dnN_lt hp k
    · exact Nat.mod_lt _ (by omega)
theorem partN_lt {p m : Nat} {A : Nat → Nat} {i : Nat} (hp : 2 ≤ p) : partN p m A i < p := Nat.mod_lt _ (by omega)
theorem joS_le {p m : Nat} {A V : Nat → Nat} (hp : 2 ≤ p) (hV : ∀ i, V i < p) : ∀ k, joS p m A V k ≤ k * (p * p)
  | 0 => by simp [joS]
  | k + 1 => by
    have ih := joS_le (A := A) (m := m) hp hV k
    have h1 : V k * partN p m A k ≤ p * p := Nat.mul_le_mul (Nat.le_of_lt (hV k)) (Nat.le_of_lt (partN_lt hp))
    simp only [joS]
    rw [Nat.succ_mul]
    omega
theorem upN_mo (p : Nat) (A : Nat → Nat) (i : Nat) : ∀ k, Mo (p : Int) (upN p A i k : Int) (prodE (fun j => (A j : Int)) i 0 k)
  | 0 => Mo.of rfl
  | k + 1 => by
    simp only [upN, prodE]
    by_cases h : k = i
    · rw [if_pos h, if_pos h]; exact upN_mo p A i k
    · rw [if_neg h, if_neg h]
      have h1 := (upN_mo p A i k).mul (Mo.refl (p : Int) (A k : Int))
      exact (mo_cast p _).trans (Mo.trans (Mo.of (Int.natCast_mul _ _)) (h1.trans (Mo.of (by rw [Int.sub_zero]))))
theorem dnN_mo {p : Nat} {A : Nat → Nat} {i : Nat} (hA : ∀ i, A i < p) : ∀ k, Mo (p : Int) (dnN p A i k : Int) (prodE (fun j => (A j : Int)) i (A i : Int) k)
  | 0 => Mo.of rfl
  | k + 1 => by
    simp only [dnN, prodE]
    by_cases h : k = i
    · rw [if_pos h, if_pos h]; exact dnN_mo hA k
    · rw [if_neg h, if_neg h]
      have hi := hA i
      have e : ((A k + p - A i : Nat) : Int) = ((A k : Int) - (A i : Int)) + (p : Int) := by omega
      have h1 := (dnN_mo (i := i) hA k).mul (Mo.zero_add_p (p : Int) ((A k : Int) - (A i : Int)))
      exact (mo_cast p _).trans (Mo.trans (Mo.of (by rw [Int.natCast_mul, e])) h1)
theorem Places.down {p m : Nat} {A : Nat → Nat} (h : Places p m A) (hF : FldN p) {i : Nat} (hi : i < m) : 0 < dnN p A i m := by
  rcases Nat.eq_zero_or_pos (dnN p A i m) with e | e
  · exfalso
    refine prodE_unit hF.fl h.apart hi hF.one m (Nat.le_refl _) ?_
    exact (dnN_mo h.lt m).symm.trans (Mo.of (by rw [e]; rfl))
  · exact e
/-- The parts are LAGRANGE's. -/
theorem Places.unit {p m : Nat} {A : Nat → Nat} (h : Places p m A) (hF : FldN p) {i : Nat} (hi : i < m) : Mo (p : Int) ((ivN p (dnN p A i m) : Int) * prodE (fun j => (A j : Int)) i (A i : Int) m) 1 := by
  have h1 := mo_mod_one hF.two (ivN_mul hF (h.down hF hi) (dnN_lt hF.two m))
  have h2 := (Mo.refl (p : Int) (ivN p (dnN p A i m) : Int)).mul (dnN_mo (i := i) h.lt m)
  exact h2.symm.trans ((Mo.of (Int.mul_comm _ _)).trans h1)
theorem joS_mo (p m : Nat) (A V : Nat → Nat) : ∀ k, Mo (p : Int) (joS p m A V k : Int) (lag (fun j => (A j : Int)) (fun j => (V j : Int)) (fun j => (ivN p (dnN p A j m) : Int)) m 0 k)
  | 0 => Mo.of rfl
  | k + 1 => by
    simp only [joS, lag]
    have hu := upN_mo p A k m
    have h1 : Mo (p : Int) (partN p m A k : Int) ((ivN p (dnN p A k m) : Int) * prodE (fun j => (A j : Int)) k 0 m) := by
      refine (mo_cast p _).trans (Mo.trans (Mo.of (Int.natCast_mul _ _)) ?_)
      exact (hu.mul (Mo.refl (p : Int) _)).trans (Mo.of (Int.mul_comm _ _))
    have h2 := (joS_mo p m A V k).add ((Mo.refl (p : Int) (V k : Int)).mul h1)
    exact (Mo.of (by rw [Int.natCast_add, Int.natCast_mul])).trans h2
/-- What has these values is what they join to. -/
theorem joN_tells {p m : Nat} {A V : Nat → Nat} (h : Places p m A) (hF : FldN p) {f : Int → Int} (hf : Pol (p : Int) m f) (hv : ∀ i, i < m → Mo (p : Int) (f (A i : Int)) (V i : Int)) : Mo (p : Int) (joN p m A V : Int) (f 0) := by
  refine (mo_cast p _).trans ((joS_mo p m A V m).trans ?_)
  exact lag_tells (a := fun j => (A j : Int)) (v := fun j => (V j : Int)) (r := fun j => (ivN p (dnN p A j m) : Int)) hF.fl h.apart (fun i hi => h.unit hF hi) hf hv 0
theorem joN_lt {p m : Nat} {A V : Nat → Nat} (hp : 2 ≤ p) : joN p m A V < p := Nat.mod_lt _ (by omega)

/-- NEWTON's differences. -/
def dfN (p : Nat) (A V : Nat → Nat) : Nat → Nat → Nat
  | 0, i => V i
  | k + 1, i => (dfN p A V k i + p - dfN p A V k (i - 1)) % p * ivN p ((A i + p - A (i - (k + 1))) % p) % p
theorem dfN_lt {p : Nat} {A V : Nat → Nat} (hp : 2 ≤ p) (hV : ∀ i, V i < p) : ∀ k i, dfN p A V k i < p
  | 0, i => hV i
  | _ + 1, _ => Nat.mod_lt _ (by omega)
theorem gap_pos {p m : Nat} {A : Nat → Nat} (h : Places p m A) {i j : Nat} (hi : i < m) (hj : j < m) (hij : i ≠ j) : 0 < (A i + p - A j) % p ∧ (A i + p - A j) % p < p := by
  have h1 := h.lt i
  have h2 := h.lt j
  have h3 := h.ne i j hi hj hij
  refine ⟨?_, Nat.mod_lt _ (by omega)⟩
  rcases Nat.lt_or_ge (A i) (A j) with h4 | h4
  · rw [Nat.mod_eq_of_lt (by omega)]; omega
  · rw [show A i + p - A j = (A i - A j) + p by omega, Nat.add_mod_right, Nat.mod_eq_of_lt (by omega)]; omega
theorem gap_mo {p : Nat} {a b : Nat} (hb : b < p) : Mo (p : Int) (((a + p - b) % p : Nat) : Int) ((a : Int) - (b : Int)) := by
  refine (mo_cast p _).trans (Mo.trans (Mo.of ?_) (Mo.zero_add_p (p : Int) ((a : Int) - (b : Int))))
  omega
theorem dfN_diffs {p m : Nat} {A V : Nat → Nat} (h : Places p m A) (hF : FldN p) (hV : ∀ i, V i < p) : Diffs (p : Int) (fun j => (A j : Int)) (fun j => (V j : Int)) m (fun k i => (dfN p A V k i : Int)) := by
  refine ⟨fun i _ => Mo.refl _ _, fun k i hk hi => ?_⟩
  have hg := gap_pos h (i := i) (j := i - (k + 1)) hi (by omega) (by omega)
  have h1 := mo_mod_one hF.two (ivN_mul hF hg.1 hg.2)
  have h2 := gap_mo (a := A i) (h.lt (i - (k + 1)))
  have h3 := gap_mo (a := dfN p A V k i) (dfN_lt (A := A) hF.two hV k (i - 1))
  have h4 : Mo (p : Int) (dfN p A V (k + 1) i : Int) ((((dfN p A V k i + p - dfN p A V k (i - 1)) % p : Nat) : Int) * (ivN p ((A i + p - A (i - (k + 1))) % p) : Int)) := (mo_cast p _).trans (Mo.of (Int.natCast_mul _ _))
  have h5 := h4.mul h2.symm
  refine h5.trans (Mo.trans (Mo.of ?_) ((h3.mul h1).trans (Mo.of (Int.mul_one _))))
  rw [Int.mul_assoc, Int.mul_comm (ivN p ((A i + p - A (i - (k + 1))) % p) : Int)]
/-- The value at 0, as the document reckons it. -/
def hoN (p m : Nat) (A V : Nat → Nat) : Nat → Nat
  | 0 => 0
  | t + 1 => (hoN p m A V t * (p - A (m - 1 - t)) + dfN p A V (m - 1 - t) (m - 1 - t)) % p
theorem hoN_lt {p m : Nat} {A V : Nat → Nat} (hp : 2 ≤ p) : ∀ t, hoN p m A V t < p
  | 0 => by simp only [hoN]; omega
  | _ + 1 => Nat.mod_lt _ (by omega)
theorem hoN_mo {p m : Nat} {A V : Nat → Nat} (hA : ∀ i, A i < p) : ∀ t, Mo (p : Int) (hoN p m A V t : Int) (horn (fun j => (A j : Int)) (fun k i => (dfN p A V k i : Int)) m 0 t)
  | 0 => Mo.of rfl
  | t + 1 => by
    have hi := hA (m - 1 - t)
    simp only [hoN, horn]
    have e : ((p - A (m - 1 - t) : Nat) : Int) = (0 - (A (m - 1 - t) : Int)) + (p : Int) := by omega
    have h1 := ((hoN_mo (m := m) (V := V) hA t).mul (Mo.zero_add_p (p : Int) (0 - (A (m - 1 - t) : Int)))).add (Mo.refl (p : Int) (dfN p A V (m - 1 - t) (m - 1 - t) : Int))
    exact (mo_cast p _).trans (Mo.trans (Mo.of (by rw [Int.natCast_add, Int.natCast_mul, e])) h1)
/-- LAGRANGE and NEWTON say the same. -/
theorem join_same {p m : Nat} {A V : Nat → Nat} (h : Places p m A) (hF : FldN p) (hV : ∀ i, V i < p) : joN p m A V = hoN p m A V m := by
  have hD := dfN_diffs h hF hV
  have h1 := joN_tells (V := V) h hF (newt_pol (fun j => (A j : Int)) (fun k i => (dfN p A V k i : Int)) m) (fun i hi => newt_at hF.fl hD h.apart m (Nat.le_refl _) i hi)
  have h2 := hoN_mo (m := m) (V := V) h.lt m
  rw [horn_all] at h2
  have := (h1.trans h2.symm).exact ⟨by omega, by have := joN_lt (m := m) (A := A) (V := V) hF.two; omega⟩ ⟨by omega, by have := hoN_lt (m := m) (A := A) (V := V) hF.two m; omega⟩
  omega
end Go.Proofs.YtdlbnolnkmhdcaaDoor
