/- KRAMERS and WANNIER: each grid and its faces, looked through by the kernel: even sets as one number, states by the expansion. -/
import Derived.Test.YtoghnbcjkgookabDoorIsVdw
import Derived.Test.YtoghnbcjkgookabDoorIsTr
import Derived.Test.YtoghnbcjkgookabDoorIsFac2
namespace Go.Proofs.YtoghnbcjkgookabDoor

/-- All bits of a list. -/
def orA : List Nat → Nat
  | [] => 0
  | e :: l => e ||| orA l
def cov : List Nat → List (Nat × Nat)
  | [] => []
  | e :: l => (e, e ||| orA l) :: cov l
/-- Even sets as one number, what cannot become even left out at once. -/
def evP (B : Nat) : List (Nat × Nat) → Nat → Nat
  | [], o => if o = 0 then 1 else 0
  | (e, r) :: l, o => if o ||| r = r then evP B l o + B * evP B l (o ^^^ e) else 0
theorem psi_bits (S D : Int) : ∀ (l : List Nat) (o : Nat), psi S D l o ≠ 0 → ∀ i, o.testBit i = true → (orA l).testBit i = true
  | [], o, h, i, hi => by
    rw [psi] at h
    by_cases h0 : o = 0
    · subst h0; simp at hi
    · rw [if_neg h0] at h; exact absurd rfl h
  | e :: l, o, h, i, hi => by
    rw [orA, Nat.testBit_or]
    rw [psi] at h
    by_cases h1 : psi S D l o = 0
    · by_cases h2 : psi S D l (o ^^^ e) = 0
      · rw [h1, h2] at h; simp at h
      · cases he : e.testBit i with
        | true => rfl
        | false =>
          have := psi_bits S D l (o ^^^ e) h2 i (by rw [Nat.testBit_xor, hi, he]; rfl)
          rw [this]; rfl
    · rw [psi_bits S D l o h1 i hi, Bool.or_true]
theorem evP_psi (B : Nat) : ∀ (l : List Nat) (o : Nat), ((evP B (cov l) o : Nat) : Int) = psi 1 (B : Int) l o
  | [], o => by
    show (((if o = 0 then 1 else 0 : Nat)) : Int) = if o = 0 then 1 else 0
    split <;> rfl
  | e :: l, o => by
    show (((if o ||| (e ||| orA l) = e ||| orA l then evP B (cov l) o + B * evP B (cov l) (o ^^^ e) else 0 : Nat)) : Int) = _
    by_cases h : o ||| (e ||| orA l) = e ||| orA l
    · rw [if_pos h, psi, Int.natCast_add, Int.natCast_mul, evP_psi B l o, evP_psi B l (o ^^^ e), Int.one_mul]
    · rw [if_neg h]
      by_cases h2 : psi 1 (B : Int) (e :: l) o = 0
      · rw [h2]; rfl
      · exfalso
        apply h
        apply Nat.eq_of_testBit_eq
        intro i
        rw [Nat.testBit_or]
        cases hi : o.testBit i with
        | false => rfl
        | true =>
          have := psi_bits 1 (B : Int) (e :: l) o h2 i hi
          rw [orA] at this
          rw [this]
          rfl
/-- The number of a list of counts, and back. -/
theorem dig_at {B : Nat} : ∀ (m : Nat) (c : Nat → Nat), (∀ k, k < m → c k < B) → ∀ k, k < m → suF (fun k => c k * B ^ k) m / B ^ k % B = c k
  | 0, c, _, k, hk => by omega
  | m + 1, c, h, k, hk => by
    have hB : 0 < B := by have := h 0 (by omega); omega
    have e1 : suF (fun k => c k * B ^ k) (m + 1) = c 0 + B * suF (fun k => c (k + 1) * B ^ k) m := by
      have h9 : ∀ j, suF (fun k => c k * B ^ k) (j + 1) = c 0 + B * suF (fun k => c (k + 1) * B ^ k) j := fun j => by
        induction j with
        | zero => simp [suF]
        | succ j ih =>
          show suF _ (j + 1) + c (j + 1) * B ^ (j + 1) = c 0 + B * (suF _ j + c (j + 1) * B ^ j)
          rw [ih, Nat.mul_add, Nat.pow_succ]
          have : c (j + 1) * (B ^ j * B) = B * (c (j + 1) * B ^ j) := by rw [← Nat.mul_assoc, Nat.mul_comm]
          omega
      exact h9 m
    rw [e1]
    have h0 := h 0 (by omega)
    cases k with
    | zero => rw [Nat.pow_zero, Nat.div_one, Nat.add_mul_mod_self_left, Nat.mod_eq_of_lt h0]
    | succ k =>
      have e2 : (c 0 + B * suF (fun k => c (k + 1) * B ^ k) m) / B ^ (k + 1) = suF (fun k => c (k + 1) * B ^ k) m / B ^ k := by
        rw [Nat.pow_succ, Nat.mul_comm (B ^ k) B, ← Nat.div_div_eq_div_mul, Nat.add_mul_div_left _ _ hB, Nat.div_eq_of_lt h0, Nat.zero_add]
      rw [e2]
      exact dig_at m (fun k => c (k + 1)) (fun j hj => h (j + 1) (by omega)) k (by omega)
theorem suF_sI (f : Nat → Nat) : ∀ n, ((suF f n : Nat) : Int) = sI (fun k => (f k : Int)) n
  | 0 => rfl
  | n + 1 => by show ((suF f n + f n : Nat) : Int) = _; rw [Int.natCast_add, suF_sI f n]; rfl

def bB : Nat := 4294967296
def enM (E : List (Nat × Nat)) : List Nat := E.map fun e => 2 ^ e.1 ||| 2 ^ e.2
def fsN (E : List (Nat × Nat)) (i : Nat) : Nat := (E.getD i (0, 0)).1
def snN (E : List (Nat × Nat)) (i : Nat) : Nat := (E.getD i (0, 0)).2
theorem endL_map (E : List (Nat × Nat)) : ∀ m, m ≤ E.length → endL (fsN E) (snN E) m = enM (E.take m)
  | 0, _ => rfl
  | m + 1, h => by
    have hm : m < E.length := by omega
    rw [List.take_add_one, List.getElem?_eq_getElem hm]
    show endL _ _ m ++ [2 ^ (E.getD m (0, 0)).1 ||| 2 ^ (E.getD m (0, 0)).2] = enM (E.take m ++ [E[m]])
    rw [endL_map E m (by omega), List.getD_eq_getElem?_getD, List.getElem?_eq_getElem hm]
    unfold enM
    rw [List.map_append]
    rfl
/-- Even sets of a list of bonds, by how many. -/
def evN (E : List (Nat × Nat)) : Nat := evP bB (cov (enM E)) 0
theorem evN_sum (E : List (Nat × Nat)) : evN E = suF (fun k => evC (fsN E) (snN E) E.length k 0 * bB ^ k) (E.length + 1) := by
  have h1 := evP_psi bB (enM E) 0
  have hl : (enM E).length = E.length := by simp [enM]
  have he : endL (fsN E) (snN E) E.length = enM E := by have := endL_map E E.length (Nat.le_refl _); rwa [List.take_length] at this
  have h2 := psi_sum 1 (bB : Int) (enM E) 0
  rw [hl] at h2
  have h3 : ((evN E : Nat) : Int) = ((suF (fun k => evC (fsN E) (snN E) E.length k 0 * bB ^ k) (E.length + 1) : Nat) : Int) := by
    rw [suF_sI]
    show ((evP bB (cov (enM E)) 0 : Nat) : Int) = _
    rw [h1, h2]
    refine sI_congr fun k _ => ?_
    rw [Int.one_pow, Int.mul_one, Int.natCast_mul, Int.natCast_pow]
    show ((subN (enM E) 0 k : Nat) : Int) * _ = ((subN (endL (fsN E) (snN E) E.length) 0 k : Nat) : Int) * _
    rw [he]
  exact Int.natCast_inj.1 h3
def dgN (P k : Nat) : Nat := P / bB ^ k % bB
theorem evC_dig (E : List (Nat × Nat)) (hE : E.length ≤ 30) (k : Nat) (hk : k < E.length + 1) : evC (fsN E) (snN E) E.length k 0 = dgN (evN E) k := by
  have h1 := dig_at (B := bB) (E.length + 1) (fun k => evC (fsN E) (snN E) E.length k 0) (fun k _ => Nat.lt_of_le_of_lt (evC_le _ _ _ _ _) (Nat.lt_of_le_of_lt (Nat.pow_le_pow_right (n := 2) (by decide) hE) (by decide))) k hk
  rw [← evN_sum] at h1
  exact h1.symm
/-- The expansion's right side, at the number bB. -/
def exI (P m : Nat) : Int := sI (fun k => (dgN P k : Int) * (1 - (bB : Int)) ^ k * ((bB : Int) + 1) ^ (m - k)) (m + 1)
def okE (n : Nat) (E : List (Nat × Nat)) : Bool := E.all fun e => decide (e.1 < n) && decide (e.2 < n) && !(e.1 == e.2)
theorem okE_at {n : Nat} {E : List (Nat × Nat)} (h : okE n E = true) (i : Nat) (hi : i < E.length) : fsN E i < n ∧ snN E i < n ∧ fsN E i ≠ snN E i := by
  rw [okE, List.all_eq_true] at h
  have h1 := h (E.getD i (0, 0)) (by rw [List.getD_eq_getElem?_getD, List.getElem?_eq_getElem hi]; exact List.getElem_mem hi)
  simp only [Bool.and_eq_true, decide_eq_true_eq, Bool.not_eq_true', beq_eq_false_iff_ne] at h1
  exact ⟨h1.1.1, h1.1.2, h1.2⟩
/-- What states of one system are, by even sets of another one. -/
theorem dual_one {n : Nat} {E F : List (Nat × Nat)} (hE : okE n E = true) (hn : n ≤ 14) (hlE : E.length ≤ 30) (hlF : F.length = E.length) (hf : ∀ k, evC (fsN F) (snN F) F.length k 0 ≤ 2 ^ 30) (hx : 2 ^ n * exI (evN E) E.length = 2 ^ E.length * (2 * (evN F : Int))) (k : Nat) (hk : k < E.length + 1) :
    stK (fsN E) (snN E) n E.length k = 2 * evC (fsN F) (snN F) F.length k 0 := by
  have h1 := vdw (okE_at hE) (bB : Int) 1
  have e1 : sI (fun k => (evC (fsN E) (snN E) E.length k 0 : Int) * (1 - (bB : Int)) ^ k * ((bB : Int) + 1) ^ (E.length - k)) (E.length + 1) = exI (evN E) E.length := sI_congr fun k hk => by rw [evC_dig E hlE k hk]
  have e2 : sI (fun k => (stK (fsN E) (snN E) n E.length k : Int) * ((bB : Int) ^ k * 1 ^ (E.length - k))) (E.length + 1) = ((suF (fun k => stK (fsN E) (snN E) n E.length k * bB ^ k) (E.length + 1) : Nat) : Int) := by
    rw [suF_sI]
    exact sI_congr fun k _ => by rw [Int.one_pow, Int.mul_one, Int.natCast_mul, Int.natCast_pow]
  rw [e1, e2, hx] at h1
  have hp : (2 : Int) ^ E.length ≠ 0 := by
    have : (2 : Int) ^ E.length = ((2 ^ E.length : Nat) : Int) := by simp
    rw [this]
    have := Nat.two_pow_pos E.length
    omega
  have h2 := Int.eq_of_mul_eq_mul_left hp h1
  have h3 : suF (fun k => stK (fsN E) (snN E) n E.length k * bB ^ k) (E.length + 1) = suF (fun k => (2 * evC (fsN F) (snN F) F.length k 0) * bB ^ k) (E.length + 1) := by
    have e3 : ((suF (fun k => (2 * evC (fsN F) (snN F) F.length k 0) * bB ^ k) (E.length + 1) : Nat) : Int) = 2 * (evN F : Int) := by
      rw [evN_sum F, hlF, suF_sI, suF_sI, ← sI_mul]
      exact sI_congr fun k _ => by rw [Int.natCast_mul, Int.natCast_mul, Int.natCast_mul]; grind
    exact Int.natCast_inj.1 (h2.trans e3.symm)
  have d1 := dig_at (B := bB) (E.length + 1) (fun k => stK (fsN E) (snN E) n E.length k) (fun k _ => Nat.lt_of_le_of_lt (stK_le _ _ _ _ _) (Nat.lt_of_le_of_lt (Nat.pow_le_pow_right (n := 2) (by decide) hn) (by decide))) k hk
  have d2 := dig_at (B := bB) (E.length + 1) (fun k => 2 * evC (fsN F) (snN F) F.length k 0) (fun k _ => by have := hf k; show _ < 4294967296; omega) k hk
  rw [h3] at d1
  exact d1.symm.trans d2
def chkD (h l : Nat) : Bool :=
  (grE' h l).length == (faB h l l).length && decide ((grE' h l).length ≤ 30) && okE (h * l) (grE' h l) && okE ((h - 1) * (l - 1) + 1) (faB h l l) && decide (2 ^ ((h - 1) * (l - 1) + 1) * exI (evN (faB h l l)) (faB h l l).length = 2 ^ (faB h l l).length * (2 * (evN (grE' h l) : Int))) && decide (2 ^ (h * l) * exI (evN (grE' h l)) (grE' h l).length = 2 ^ (grE' h l).length * (2 * (evN (faB h l l) : Int)))
def allD : List (Nat × Nat) := [(2, 2), (2, 3), (2, 4), (2, 5), (2, 6), (2, 7), (3, 2), (3, 3), (3, 4), (4, 2), (4, 3)]
theorem lookedD : ∀ x, x ∈ allD → chkD x.1 x.2 = true := by decide +kernel
end Go.Proofs.YtoghnbcjkgookabDoor
