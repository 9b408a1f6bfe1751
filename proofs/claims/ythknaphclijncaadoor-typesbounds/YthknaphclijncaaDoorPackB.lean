/- The program's Floor, FloorLog and Grains. -/
import Derived.Test.YthknaphclijncaaDoorPackA
import Derived.Test.YthknaphclijncaaDoorAddOk
import Derived.Test.YthknaphclijncaaDoorSame
import Derived.Test.YthknaphclijncaaDoorInts
import Derived.Test.YthknaphclijncaaDoorValidWalk
import Derived.OwnWalk
import Derived.Test.YthknaphclijncaaDoorValidLog
namespace Go.Proofs.YthknaphclijncaaDoor
open Go.RowKit

theorem floor_less {a b : Int} (hb : 0 < b) (h : a.tmod b < 0) : a.tdiv b - 1 = a / b := by
  have h1 := Int.mul_tdiv_add_tmod a b
  have h2 : -b < a.tmod b := by have := tmod_small a b (by omega); omega
  have h3 := (Int.ediv_emod_unique (a := a) (b := b) (r := a.tmod b + b) (q := a.tdiv b - 1) hb).2 ⟨by rw [Int.mul_sub]; omega, by omega, by omega⟩
  exact h3.1.symm
theorem floor_same {a b : Int} (hb : 0 < b) (h : ¬ a.tmod b < 0) : a.tdiv b = a / b := by
  have h1 := Int.mul_tdiv_add_tmod a b
  have h2 := Int.tmod_lt_of_pos a hb
  exact ((Int.ediv_emod_unique (a := a) (b := b) (r := a.tmod b) (q := a.tdiv b) hb).2 ⟨by omega, by omega, by omega⟩).1.symm
theorem tdiv_bound {a b : Int} (h0 : -1000000 ≤ a) (h1 : a ≤ 1000000) : -1000000 ≤ a.tdiv b ∧ a.tdiv b ≤ 1000000 := by
  have := Int.natAbs_tdiv_le_natAbs a b
  omega

theorem isGr_of {z den : Int} {U D : Nat} (h : IsLog z U D) (h0 : -50001 ≤ z) (h1 : z ≤ 50001) (hd : 0 < den) (hd6 : den ≤ 1000000) : le2 (z / den * den) U D ∧ ¬ le2 ((z / den + 1) * den) U D ∧ -50001 ≤ z / den ∧ z / den ≤ 50001 ∧ -1050001 ≤ z / den * den ∧ z / den * den ≤ 1050001 ∧ -1050001 ≤ (z / den + 1) * den ∧ (z / den + 1) * den ≤ 1050001 := by
  obtain ⟨h2, h3⟩ := isLog_floor hd h rfl
  have h4 : z / den * den ≤ z := Int.ediv_mul_le z (by omega)
  have h5 : z < (z / den + 1) * den := Int.lt_ediv_add_one_mul_self z hd
  have h6 : (z / den + 1) * den = z / den * den + den := by rw [Int.add_mul, Int.one_mul]
  have h7 : -50001 ≤ z / den := by
    rw [Int.le_ediv_iff_mul_le hd]
    have : den * 50001 ≥ 1 * 50001 := Int.mul_le_mul_of_nonneg_right (by omega) (by omega)
    omega
  have h8 : z / den ≤ 50001 := by
    have : z / den < 50002 := by
      rw [Int.ediv_lt_iff_lt_mul hd]
      have : den * 50002 ≥ 1 * 50002 := Int.mul_le_mul_of_nonneg_right (by omega) (by omega)
      omega
    omega
  exact ⟨h2, h3, h7, h8, by omega, by omega, by omega, by omega⟩
theorem side_pos {p c : Nat → Int} {t n : Nat} (hb : Bounded n p c) : ∀ k, k ≤ n → 0 < sideUp p c t k ∧ 0 < sideDown p c t k
  | 0, _ => ⟨Nat.one_pos, Nat.one_pos⟩
  | k + 1, h => by
    have ih := side_pos (t := t) hb k (by omega)
    have hp : 0 < (p k).toNat ^ ((c k).natAbs * t) := Nat.pow_pos (by have := (hb k (by omega)).1; omega)
    by_cases hc : 0 < c k
    · rw [sideUp_pos hc, sideDown_pos hc]; exact ⟨Nat.mul_pos ih.1 hp, ih.2⟩
    · rw [sideUp_neg hc, sideDown_neg hc]; exact ⟨ih.1, Nat.mul_pos ih.2 hp⟩
theorem side_bits {p c : Nat → Int} {t n : Nat} (h : t * cost p c n ≤ 40000) : bitLen (sideUp p c t n) ≤ 50000 ∧ bitLen (sideDown p c t n) ≤ 50000 := by
  have h1 := sides_le p c t n
  have h2 : 2 ^ (t * cost p c n) < 2 ^ (t * cost p c n + 1) := Nat.pow_lt_pow_right (by decide) (by omega)
  have h3 := bitLen_le_of_lt (Nat.lt_of_le_of_lt h1.1 h2)
  have h4 := bitLen_le_of_lt (Nat.lt_of_le_of_lt h1.2 h2)
  omega

end Go.Proofs.YthknaphclijncaaDoor

/- demonlaw1.LogsProducts walked. -/
namespace Go.Proofs.YthknaphclijncaaDoor
open Go.RowKit Go.Maps

/-- A variable that holds a logarithm over 1. -/
structure LB (W : World) (B : Nat) (v : Value) (t : List (Int × Int)) : Prop where
  c0 : W.cell? ⟨B, 0, none⟩ = some (.int .i64 1)
  c1 : W.cell? ⟨B, 1, none⟩ = some v
  list : ListAt W v t
theorem LB.later {W W' : World} {B : Nat} {v : Value} {t : List (Int × Int)} (h : LB W B v t) (hb : Below W.heap.size W W') : LB W' B v t :=
  ⟨(cell_past h.c0 hb).2, (cell_past h.c1 hb).2, h.list.later hb⟩
theorem LB.new {w : World} {v : Value} {t : List (Int × Int)} (h : ListAt w v t) : LB (w.alloc (.cells #[.int .i64 1, v] 32)) w.heap.size v t :=
  ⟨by rw [World.cell?_alloc_at _ _ _ _ rfl]; rfl, by rw [World.cell?_alloc_at _ _ _ _ rfl]; rfl, h.later ((Below.refl _ _).alloc (Nat.le_refl _) _)⟩
theorem LB.more {w : World} {B : Nat} {v : Value} {t : List (Int × Int)} (h : LB w B v t) (X : Obj) : LB (w.alloc X) B v t := h.later ((Below.refl _ _).alloc (Nat.le_refl _) _)

/-- Two logarithms over 1 with small coefficients added. -/
theorem Add_one (v1 v2 : Value) (t1 t2 : List (Int × Int)) (a : Nat → Addr) (w : World) (h : Errs w a) (hl1 : ListAt w v1 t1) (hl2 : ListAt w v2 t2) (hok1 : OkLog 1 t1.length (pOf t1) (cOf t1)) (hok2 : OkLog 1 t2.length (pOf t2) (cOf t2))
    (hb1 : ∀ e ∈ t1, -19 ≤ e.2 ∧ e.2 ≤ 19) (hb2 : ∀ e ∈ t2, -19 ≤ e.2 ∧ e.2 ≤ 19) (hn : t1.length + t2.length ≤ 100) :
    Calls Tryd.prog 14 #[.agg #[.int .i64 1, v1], .agg #[.int .i64 1, v2]] w fun e w' => ∃ v t, e = .returned (.tuple #[.agg #[.int .i64 1, v], .nilIface]) ∧ ListAt w' v t ∧ Rising t ∧ (∀ e ∈ t, e.2 ≠ 0) ∧ (∀ x, atL t x = atL t1 x + atL t2 x) ∧ t.length ≤ t1.length + t2.length ∧ Below w.heap.size w w' := by
  obtain ⟨ad1, cap1, rfl, hg1⟩ := log_of_own hl1
  obtain ⟨ad2, cap2, rfl, hg2⟩ := log_of_own hl2
  refine (Add_ok 1 1 ad1 ad2 cap1 cap2 t1 t2 a w h hg1 hg2 hok1 hok2 (by omega) 1 rfl (fun l hr hv => ⟨1, gcdTo_one _ _, by decide, fun e he => ?_⟩)).mono ?_
  · have h1 := atL_mem hr he
    rw [hv] at h1
    have h2 := atL_bound (B := 19) (by omega) hb1 e.1
    have h3 := atL_bound (B := 19) (by omega) hb2 e.1
    simp at h1 ⊢
    omega
  · rintro e w' ⟨v, l, G, hr, hv, hG, rfl, hl, hln, hb⟩
    have hG1 : G = 1 := by rw [← hG]; exact gcdTo_one _ _
    subst hG1
    exact ⟨v, overL 1 l, rfl, hl, rising_over hr 1, fun e he => over_nz he, fun x => by rw [atL_over hr, hv]; simp, Nat.le_trans (length_over l 1) hln, hb⟩

/-- The sum of the coefficients of a prime, term by term. -/
def sumTo (p c : Nat → Int) (x : Int) : Nat → Int
  | 0 => 0
  | k + 1 => sumTo p c x k + if p k = x then c k else 0
theorem sumTo_list {t : List (Int × Int)} (hr : Rising t) (x : Int) : ∀ k, k ≤ t.length → sumTo (pOf t) (cOf t) x k = atL (t.take k) x
  | 0, _ => rfl
  | k + 1, h => by
    rw [atL_take hr (by omega)]
    show sumTo _ _ _ k + _ = _
    rw [sumTo_list hr x k (by omega)]
theorem mult_sides {n : Nat} {p c : Nat → Int} (hp : ∀ i, i < n → Pr (p i).toNat ∧ 2 ≤ p i) {x : Nat} (hx : Pr x) : ∀ k, k ≤ n → (mult x (sideUp p c 1 k) : Int) - (mult x (sideDown p c 1 k) : Int) = sumTo p c (x : Int) k ∧ 0 < sideUp p c 1 k ∧ 0 < sideDown p c 1 k
  | 0, _ => ⟨by simp [sideUp, sideDown, sumTo], Nat.one_pos, Nat.one_pos⟩
  | k + 1, h => by
    obtain ⟨ih, h1, h2⟩ := mult_sides hp hx k (by omega)
    obtain ⟨hpk, hp2⟩ := hp k (by omega)
    have hpp : 0 < (p k).toNat ^ ((c k).natAbs * 1) := Nat.pow_pos (by omega)
    have hm := mult_pow hx hpk ((c k).natAbs * 1)
    have hiff : (x = (p k).toNat) ↔ (p k = (x : Int)) := by omega
    have hs : sumTo p c (x : Int) (k + 1) = sumTo p c (x : Int) k + if p k = (x : Int) then c k else 0 := rfl
    by_cases hc : 0 < c k
    · rw [sideUp_pos hc, sideDown_pos hc, mult_mul hx _ _ h1 hpp, hm, hs, ← ih]
      refine ⟨?_, Nat.mul_pos h1 hpp, h2⟩
      by_cases he : x = (p k).toNat
      · rw [if_pos he, if_pos (hiff.1 he)]; omega
      · rw [if_neg he, if_neg (fun e => he (hiff.2 e))]; omega
    · rw [sideUp_neg hc, sideDown_neg hc, mult_mul hx _ _ h2 hpp, hm, hs, ← ih]
      refine ⟨?_, h1, Nat.mul_pos h2 hpp⟩
      by_cases he : x = (p k).toNat
      · rw [if_pos he, if_pos (hiff.1 he)]; omega
      · rw [if_neg he, if_neg (fun e => he (hiff.2 e))]; omega
/-- The sides of the logarithm of a over b are as a to b. -/
theorem IsOf.sides {a b : Nat} {t : List (Int × Int)} (h : IsOf a b t) (ha : 0 < a) (ha6 : a ≤ 1000000) (hb : 0 < b) (hb6 : b ≤ 1000000) : sideUp (pOf t) (cOf t) 1 t.length * b = sideDown (pOf t) (cOf t) 1 t.length * a ∧ 0 < sideUp (pOf t) (cOf t) 1 t.length ∧ 0 < sideDown (pOf t) (cOf t) 1 t.length := by
  have hp : ∀ i, i < t.length → Pr (pOf t i).toNat ∧ 2 ≤ pOf t i := fun i hi => by
    have := (h.terms ha ha6 hb hb6 _ (getD_mem hi)).1
    exact ⟨this.2.2.2.2.2, this.2.2.2.2.1⟩
  have h2 : Pr 2 := ⟨by omega, fun d hd hdd => by have := Nat.mul_le_mul hd hd; omega⟩
  have hpos := (mult_sides (c := cOf t) hp h2 t.length (Nat.le_refl _)).2
  refine ⟨eq_of_mult _ _ (Nat.mul_pos hpos.1 hb) (Nat.mul_pos hpos.2 ha) (fun q hq => ?_), hpos⟩
  have h1 := (mult_sides (c := cOf t) hp hq t.length (Nat.le_refl _)).1
  rw [sumTo_list h.rise _ _ (Nat.le_refl _), List.take_length, h.val, multI_pr (x := (q : Int)) (by simpa using hq), multI_pr (x := (q : Int)) (by simpa using hq)] at h1
  rw [mult_mul hq _ _ hpos.1 hb, mult_mul hq _ _ hpos.2 ha]
  simp only [Int.toNat_natCast] at h1
  omega
theorem sides_order {U D a b : Nat} (h : U * b = D * a) (hU : 0 < U) (hD : 0 < D) : (a < b → U < D) ∧ (b < a → D < U) ∧ (a = b → 0 < a → U = D) := by
  refine ⟨fun hl => ?_, fun hl => ?_, fun he ha => ?_⟩
  · rcases Nat.lt_or_ge U D with h' | h'
    · exact h'
    · have h1 := Nat.mul_le_mul_right a h'
      have h2 := Nat.mul_lt_mul_of_pos_left hl hU
      omega
  · rcases Nat.lt_or_ge D U with h' | h'
    · exact h'
    · have h1 := Nat.mul_le_mul_right b h'
      have h2 := Nat.mul_lt_mul_of_pos_left hl hD
      omega
  · subst he
    exact Nat.eq_of_mul_eq_mul_right ha h
theorem cost_small {n : Nat} {p c : Nat → Int} (hp : ∀ i, i < n → 2 ≤ p i ∧ p i ≤ 1000000 ∧ -19 ≤ c i ∧ c i ≤ 19) : ∀ k, k ≤ n → cost p c k ≤ k * 380
  | 0, _ => by simp [cost]
  | k + 1, h => by
    have ih := cost_small hp k (by omega)
    obtain ⟨h1, h2, h3, h4⟩ := hp k (by omega)
    have hm := Nat.mul_le_mul (show (c k).natAbs ≤ 19 by omega) (bitLen_million (n := (p k).toNat) (by omega))
    have e : cost p c (k + 1) = cost p c k + (c k).natAbs * bitLen (p k).toNat := rfl
    omega
end Go.Proofs.YthknaphclijncaaDoor

/- Grains of a sum; the sign of an opposite. -/
namespace Go.Proofs.YthknaphclijncaaDoor

theorem le2_pow {k : Int} {a b : Nat} (h : le2 k a b) (m : Nat) : le2 (k * (m : Int)) (a ^ m) (b ^ m) := by
  unfold le2 at h
  have h1 := Nat.pow_le_pow_left h m
  rw [Nat.mul_pow, Nat.mul_pow, ← Nat.pow_mul, ← Nat.pow_mul] at h1
  refine (le2_iff (x := k.toNat * m) (y := (-k).toNat * m) ?_).2 h1
  rw [Int.natCast_mul, Int.natCast_mul, ← Int.sub_mul]
  congr 1
  omega
theorem not_le2_pow {k : Int} {a b : Nat} (h : ¬ le2 k a b) {m : Nat} (hm : 0 < m) : ¬ le2 (k * (m : Int)) (a ^ m) (b ^ m) := by
  unfold le2 at h
  have h1 := Nat.pow_lt_pow_left (Nat.lt_of_not_le h) (by omega : m ≠ 0)
  rw [Nat.mul_pow, Nat.mul_pow, ← Nat.pow_mul, ← Nat.pow_mul] at h1
  intro h2
  have h3 := (le2_iff (x := k.toNat * m) (y := (-k).toNat * m) (by
    rw [Int.natCast_mul, Int.natCast_mul, ← Int.sub_mul]
    congr 1
    omega)).1 h2
  omega
theorem le2_mul {k j : Int} {a b c d : Nat} (h : le2 k a b) (h' : le2 j c d) : le2 (k + j) (a * c) (b * d) := by
  unfold le2 at h h'
  have h1 := Nat.mul_le_mul h h'
  rw [Nat.mul_mul_mul_comm, Nat.mul_mul_mul_comm a, ← Nat.pow_add, ← Nat.pow_add] at h1
  exact (le2_iff (x := k.toNat + j.toNat) (y := (-k).toNat + (-j).toNat) (by omega)).2 h1
theorem not_le2_mul {k j : Int} {a b c d : Nat} (h : ¬ le2 k a b) (h' : ¬ le2 j c d) : ¬ le2 (k + j) (a * c) (b * d) := by
  unfold le2 at h h'
  have h1 := Nat.mul_lt_mul'' (Nat.lt_of_not_le h) (Nat.lt_of_not_le h')
  rw [Nat.mul_mul_mul_comm, Nat.mul_mul_mul_comm b, ← Nat.pow_add, ← Nat.pow_add] at h1
  intro h2
  have h3 := (le2_iff (x := k.toNat + j.toNat) (y := (-k).toNat + (-j).toNat) (by omega)).1 h2
  omega
theorem le2_same {k : Int} {a b c d : Nat} (hb : 0 < b) (hd : 0 < d) (h : a * d = c * b) : le2 k a b ↔ le2 k c d := by
  unfold le2
  generalize 2 ^ k.toNat = X
  generalize 2 ^ (-k).toNat = Y
  constructor
  · intro h1
    have h2 := Nat.mul_le_mul_right d h1
    have h3 : a * Y * d = c * Y * b := by rw [Nat.mul_right_comm, h, Nat.mul_right_comm]
    rw [h3] at h2
    exact Nat.le_of_mul_le_mul_right (by rw [Nat.mul_right_comm d X b, Nat.mul_comm d b, Nat.mul_right_comm b d X]; exact h2) hb
  · intro h1
    have h2 := Nat.mul_le_mul_right b h1
    have h3 : c * Y * b = a * Y * d := by rw [Nat.mul_right_comm, ← h, Nat.mul_right_comm]
    rw [h3] at h2
    exact Nat.le_of_mul_le_mul_right (by rw [Nat.mul_right_comm b X d, Nat.mul_comm b d, Nat.mul_right_comm d b X]; exact h2) hd
/-- The sides' multiplicities, so many times. -/
theorem mult_sides_times {n t : Nat} {p c : Nat → Int} (hp : ∀ i, i < n → Pr (p i).toNat ∧ 2 ≤ p i) {x : Nat} (hx : Pr x) : ∀ k, k ≤ n → (mult x (sideUp p c t k) : Int) - (mult x (sideDown p c t k) : Int) = sumTo p c (x : Int) k * (t : Int) ∧ 0 < sideUp p c t k ∧ 0 < sideDown p c t k
  | 0, _ => ⟨by simp [sideUp, sideDown, sumTo], Nat.one_pos, Nat.one_pos⟩
  | k + 1, h => by
    obtain ⟨ih, h1, h2⟩ := mult_sides_times (t := t) (c := c) hp hx k (by omega)
    obtain ⟨hpk, hp2⟩ := hp k (by omega)
    have hpp : 0 < (p k).toNat ^ ((c k).natAbs * t) := Nat.pow_pos (by omega)
    have hm := mult_pow hx hpk ((c k).natAbs * t)
    have hiff : (x = (p k).toNat) ↔ (p k = (x : Int)) := by omega
    have hs : sumTo p c (x : Int) (k + 1) = sumTo p c (x : Int) k + if p k = (x : Int) then c k else 0 := rfl
    by_cases hc : 0 < c k
    · have ha : (((c k).natAbs * t : Nat) : Int) = c k * (t : Int) := by rw [Int.natCast_mul, show ((c k).natAbs : Int) = c k by omega]
      rw [sideUp_pos hc, sideDown_pos hc, mult_mul hx _ _ h1 hpp, hm, hs, Int.add_mul, ← ih]
      refine ⟨?_, Nat.mul_pos h1 hpp, h2⟩
      by_cases he : x = (p k).toNat
      · rw [if_pos he, if_pos (hiff.1 he), ← ha]; omega
      · rw [if_neg he, if_neg (fun e => he (hiff.2 e)), Int.zero_mul]; omega
    · have ha : (((c k).natAbs * t : Nat) : Int) = -(c k * (t : Int)) := by rw [Int.natCast_mul, show ((c k).natAbs : Int) = -c k by omega, Int.neg_mul]
      rw [sideUp_neg hc, sideDown_neg hc, mult_mul hx _ _ h2 hpp, hm, hs, Int.add_mul, ← ih]
      refine ⟨?_, h1, Nat.mul_pos h2 hpp⟩
      by_cases he : x = (p k).toNat
      · rw [if_pos he, if_pos (hiff.1 he)]; omega
      · rw [if_neg he, if_neg (fun e => he (hiff.2 e)), Int.zero_mul]; omega
theorem mult_power {p n : Nat} (hp : Pr p) (hn : 0 < n) : ∀ m, mult p (n ^ m) = m * mult p n
  | 0 => by rw [Nat.pow_zero, mult_one hp.1, Nat.zero_mul]
  | m + 1 => by rw [Nat.pow_succ, mult_mul hp _ _ (Nat.pow_pos hn) hn, mult_power hp hn m, Nat.succ_mul]
theorem OkLog.side {d : Int} {t : List (Int × Int)} (h : OkLog d t.length (pOf t) (cOf t)) (m : Nat) {x : Nat} (hx : Pr x) : (mult x (sideUp (pOf t) (cOf t) m t.length) : Int) - (mult x (sideDown (pOf t) (cOf t) m t.length) : Int) = atL t (x : Int) * (m : Int) ∧ 0 < sideUp (pOf t) (cOf t) m t.length ∧ 0 < sideDown (pOf t) (cOf t) m t.length := by
  have hp : ∀ i, i < t.length → Pr (pOf t i).toNat ∧ 2 ≤ pOf t i := fun i hi => ⟨(h.2.2.1 i hi).2.2.2.2.2.2, (h.2.2.1 i hi).2.2.2.2.2.1⟩
  have h1 := mult_sides_times (t := m) (c := cOf t) hp hx t.length (Nat.le_refl _)
  rw [sumTo_list h.rising _ _ (Nat.le_refl _), List.take_length] at h1
  exact h1
/-- The sides of a sum. -/
theorem sides_sum {da db dx : Nat} {ta tb tx : List (Int × Int)} (ha : OkLog da ta.length (pOf ta) (cOf ta)) (hb : OkLog db tb.length (pOf tb) (cOf tb)) (hx : OkLog dx tx.length (pOf tx) (cOf tx)) (he : ∀ x, atL tx x * ((da : Int) * (db : Int)) = (atL ta x * (db : Int) + atL tb x * (da : Int)) * (dx : Int)) (m : Nat) :
    (sideUp (pOf ta) (cOf ta) m ta.length ^ (db * dx) * sideUp (pOf tb) (cOf tb) m tb.length ^ (da * dx)) * sideDown (pOf tx) (cOf tx) m tx.length ^ (da * db) = sideUp (pOf tx) (cOf tx) m tx.length ^ (da * db) * (sideDown (pOf ta) (cOf ta) m ta.length ^ (db * dx) * sideDown (pOf tb) (cOf tb) m tb.length ^ (da * dx)) := by
  have h2 : Pr 2 := ⟨by omega, fun d hd hdd => by have := Nat.mul_le_mul hd hd; omega⟩
  obtain ⟨_, a1, a2⟩ := ha.side m h2
  obtain ⟨_, b1, b2⟩ := hb.side m h2
  obtain ⟨_, x1, x2⟩ := hx.side m h2
  refine eq_of_mult _ _ (Nat.mul_pos (Nat.mul_pos (Nat.pow_pos a1) (Nat.pow_pos b1)) (Nat.pow_pos x2)) (Nat.mul_pos (Nat.pow_pos x1) (Nat.mul_pos (Nat.pow_pos a2) (Nat.pow_pos b2))) (fun q hq => ?_)
  have ea := (ha.side m hq).1
  have eb := (hb.side m hq).1
  have ex := (hx.side m hq).1
  have e := he (q : Int)
  rw [mult_mul hq _ _ (Nat.mul_pos (Nat.pow_pos a1) (Nat.pow_pos b1)) (Nat.pow_pos x2), mult_mul hq _ _ (Nat.pow_pos a1) (Nat.pow_pos b1), mult_mul hq _ _ (Nat.pow_pos x1) (Nat.mul_pos (Nat.pow_pos a2) (Nat.pow_pos b2)), mult_mul hq _ _ (Nat.pow_pos a2) (Nat.pow_pos b2), mult_power hq a1, mult_power hq b1, mult_power hq x2, mult_power hq x1, mult_power hq a2, mult_power hq b2]
  generalize mult q (sideUp (pOf ta) (cOf ta) m ta.length) = Ua at *
  generalize mult q (sideDown (pOf ta) (cOf ta) m ta.length) = Da at *
  generalize mult q (sideUp (pOf tb) (cOf tb) m tb.length) = Ub at *
  generalize mult q (sideDown (pOf tb) (cOf tb) m tb.length) = Db at *
  generalize mult q (sideUp (pOf tx) (cOf tx) m tx.length) = Ux at *
  generalize mult q (sideDown (pOf tx) (cOf tx) m tx.length) = Dx at *
  generalize atL ta (q : Int) = A at *
  generalize atL tb (q : Int) = B at *
  generalize atL tx (q : Int) = X at *
  apply Int.ofNat_inj.1
  simp only [Int.natCast_add, Int.natCast_mul]
  have hUa : (Ua : Int) = Da + A * m := by omega
  have hUb : (Ub : Int) = Db + B * m := by omega
  have hUx : (Ux : Int) = Dx + X * m := by omega
  rw [hUa, hUb, hUx]
  grind
/-- Grains of a sum are those of both, or one more. -/
theorem grains_sum {da db dx : Nat} {ta tb tx : List (Int × Int)} (ha : OkLog da ta.length (pOf ta) (cOf ta)) (hb : OkLog db tb.length (pOf tb) (cOf tb)) (hx : OkLog dx tx.length (pOf tx) (cOf tx)) (he : ∀ x, atL tx x * ((da : Int) * (db : Int)) = (atL ta x * (db : Int) + atL tb x * (da : Int)) * (dx : Int)) {za zb zx : Int}
    (la : IsLog za (sideUp (pOf ta) (cOf ta) 32 ta.length) (sideDown (pOf ta) (cOf ta) 32 ta.length)) (lb : IsLog zb (sideUp (pOf tb) (cOf tb) 32 tb.length) (sideDown (pOf tb) (cOf tb) 32 tb.length)) (lx : IsLog zx (sideUp (pOf tx) (cOf tx) 32 tx.length) (sideDown (pOf tx) (cOf tx) 32 tx.length)) :
    zx / (dx : Int) = za / (da : Int) + zb / (db : Int) ∨ zx / (dx : Int) = za / (da : Int) + zb / (db : Int) + 1 := by
  have h2 : Pr 2 := ⟨by omega, fun d hd hdd => by have := Nat.mul_le_mul hd hd; omega⟩
  obtain ⟨_, _, a2⟩ := ha.side 32 h2
  obtain ⟨_, _, b2⟩ := hb.side 32 h2
  obtain ⟨_, _, x2⟩ := hx.side 32 h2
  have hid := sides_sum ha hb hx he 32
  have pa : 0 < da := by have := ha.1; omega
  have pb : 0 < db := by have := hb.1; omega
  have px : 0 < dx := by have := hx.1; omega
  obtain ⟨a3, a4⟩ := isLog_floor (d := (da : Int)) (by omega) la rfl
  obtain ⟨b3, b4⟩ := isLog_floor (d := (db : Int)) (by omega) lb rfl
  obtain ⟨x3, x4⟩ := isLog_floor (d := (dx : Int)) (by omega) lx rfl
  generalize za / (da : Int) = i at *
  generalize zb / (db : Int) = j at *
  generalize zx / (dx : Int) = k at *
  have hsame := fun q => le2_same (k := q) (Nat.mul_pos (Nat.pow_pos (n := db * dx) a2) (Nat.pow_pos (n := da * dx) b2)) (Nat.pow_pos (n := da * db) x2) hid
  have l1 := (hsame _).1 (le2_mul (le2_pow a3 (db * dx)) (le2_pow b3 (da * dx)))
  have l2 := fun h => not_le2_mul (not_le2_pow a4 (Nat.mul_pos pb px)) (not_le2_pow b4 (Nat.mul_pos pa px)) ((hsame _).2 h)
  have l3 := le2_pow x3 (da * db)
  have l4 := not_le2_pow x4 (Nat.mul_pos pa pb)
  have hM : (0 : Int) < (da : Int) * (db : Int) * (dx : Int) := Int.mul_pos (Int.mul_pos (by omega) (by omega)) (by omega)
  have q1 : i * (da : Int) * ((db * dx : Nat) : Int) + j * (db : Int) * ((da * dx : Nat) : Int) = (i + j) * ((da : Int) * (db : Int) * (dx : Int)) := by rw [Int.natCast_mul, Int.natCast_mul]; grind
  have q2 : (i + 1) * (da : Int) * ((db * dx : Nat) : Int) + (j + 1) * (db : Int) * ((da * dx : Nat) : Int) = (i + j + 2) * ((da : Int) * (db : Int) * (dx : Int)) := by rw [Int.natCast_mul, Int.natCast_mul]; grind
  have q3 : k * (dx : Int) * ((da * db : Nat) : Int) = k * ((da : Int) * (db : Int) * (dx : Int)) := by rw [Int.natCast_mul]; grind
  have q4 : (k + 1) * (dx : Int) * ((da * db : Nat) : Int) = (k + 1) * ((da : Int) * (db : Int) * (dx : Int)) := by rw [Int.natCast_mul]; grind
  rw [q1] at l1
  rw [q2] at l2
  rw [q3] at l3
  rw [q4] at l4
  generalize (da : Int) * (db : Int) * (dx : Int) = M at *
  have c1 : i + j < k + 1 := by
    rcases Int.lt_or_le (i + j) (k + 1) with h | h
    · exact h
    · exact absurd (le2_anti l1 (Int.mul_le_mul_of_nonneg_right h (by omega))) l4
  have c2 : k < i + j + 2 := by
    rcases Int.lt_or_le k (i + j + 2) with h | h
    · exact h
    · exact absurd (le2_anti l3 (Int.mul_le_mul_of_nonneg_right h (by omega))) l2
  omega
/-- An opposite's sides. -/
theorem sides_back {n t : Nat} {p c : Nat → Int} (hn : ∀ i, i < n → c i ≠ 0) : ∀ k, k ≤ n → sideUp p (fun i => -c i) t k = sideDown p c t k ∧ sideDown p (fun i => -c i) t k = sideUp p c t k
  | 0, _ => ⟨rfl, rfl⟩
  | k + 1, h => by
    obtain ⟨h1, h2⟩ := sides_back (t := t) (p := p) hn k (by omega)
    have h0 := hn k (by omega)
    by_cases hc : 0 < c k
    · have hc' : ¬ 0 < (fun i => -c i) k := by show ¬ 0 < -c k; omega
      rw [sideUp_neg (p := p) (c := fun i => -c i) (t := t) (k := k) hc', sideDown_neg (p := p) (c := fun i => -c i) (t := t) (k := k) hc', sideUp_pos hc, sideDown_pos hc, h1, h2]
      exact ⟨rfl, by show _ * _ ^ ((-c k).natAbs * t) = _; rw [Int.natAbs_neg]⟩
    · have hc' : 0 < (fun i => -c i) k := by show 0 < -c k; omega
      rw [sideUp_pos (p := p) (c := fun i => -c i) (t := t) (k := k) hc', sideDown_pos (p := p) (c := fun i => -c i) (t := t) (k := k) hc', sideUp_neg hc, sideDown_neg hc, h1, h2]
      exact ⟨by show _ * _ ^ ((-c k).natAbs * t) = _; rw [Int.natAbs_neg], rfl⟩
theorem cost_back (p c : Nat → Int) : ∀ k, cost p (fun i => -c i) k = cost p c k
  | 0 => rfl
  | k + 1 => by show cost p (fun i => -c i) k + (-c k).natAbs * _ = cost p c k + _; rw [cost_back p c k, Int.natAbs_neg]
end Go.Proofs.YthknaphclijncaaDoor

/- GIBBS' inequality of whole numbers: products of powers, where the sums are given. -/
namespace Go.Proofs.YthknaphclijncaaDoor
def sumA (f : Nat → Nat) : Nat → Nat
  | 0 => 0
  | n + 1 => sumA f n + f n
def prodA (f : Nat → Nat) : Nat → Nat
  | 0 => 1
  | n + 1 => prodA f n * f n
theorem sq_ge (x y : Int) : 0 ≤ (x - y) * (x - y) := by
  rcases Int.le_total x y with h | h
  · have := Int.mul_nonneg (Int.sub_nonneg.2 h) (Int.sub_nonneg.2 h)
    grind
  · exact Int.mul_nonneg (Int.sub_nonneg.2 h) (Int.sub_nonneg.2 h)
theorem sq_gt {x y : Int} (hne : x ≠ y) : 0 < (x - y) * (x - y) := by
  rcases Int.lt_or_gt_of_ne hne with h | h
  · have := Int.mul_pos (Int.sub_pos.2 h) (Int.sub_pos.2 h)
    grind
  · exact Int.mul_pos (Int.sub_pos.2 h) (Int.sub_pos.2 h)
/-- BERNOULLI's inequality of two numbers. -/
theorem bern {u v : Int} (hu : 0 ≤ u) (hv : 0 ≤ v) : ∀ n : Nat, ((n : Int) + 1) * u ^ n * v ≤ v ^ (n + 1) + n * u ^ (n + 1)
  | 0 => by simp [Int.pow_succ]
  | n + 1 => by
    have h := Int.mul_le_mul_of_nonneg_right (bern hu hv n) hv
    have hp := Int.mul_nonneg (Int.pow_nonneg hu : 0 ≤ u ^ n) (Int.mul_nonneg (by omega : 0 ≤ (n : Int) + 1) (sq_ge v u))
    have e1 : u ^ (n + 1 + 1) = u ^ n * u * u := by rw [Int.pow_succ, Int.pow_succ]
    have e2 : v ^ (n + 1 + 1) = v ^ (n + 1) * v := by rw [Int.pow_succ]
    have e3 : u ^ (n + 1) = u ^ n * u := by rw [Int.pow_succ]
    rw [e1, e2, e3]
    rw [e3] at h
    generalize u ^ n = U at *
    generalize v ^ (n + 1) = V at *
    push_cast
    grind
theorem bern_lt {u v : Int} (hu : 0 < u) (hv : 0 ≤ v) (hne : u ≠ v) (n : Nat) : ((n : Int) + 1 + 1) * u ^ (n + 1) * v < v ^ (n + 1 + 1) + (n + 1) * u ^ (n + 1 + 1) := by
  have h := Int.mul_le_mul_of_nonneg_right (bern (Int.le_of_lt hu) hv n) hv
  have hp := Int.mul_pos (Int.pow_pos hu : 0 < u ^ n) (Int.mul_pos (by omega : 0 < (n : Int) + 1) (sq_gt (Ne.symm hne)))
  have e1 : u ^ (n + 1 + 1) = u ^ n * u * u := by rw [Int.pow_succ, Int.pow_succ]
  have e2 : v ^ (n + 1 + 1) = v ^ (n + 1) * v := by rw [Int.pow_succ]
  have e3 : u ^ (n + 1) = u ^ n * u := by rw [Int.pow_succ]
  rw [e1, e2, e3]
  rw [e3] at h
  generalize u ^ n = U at *
  generalize v ^ (n + 1) = V at *
  grind

/-- A number more: the power of the mean. -/
theorem step_le (n S Y : Nat) (hn : 0 < n) : S ^ n * (n + 1) ^ (n + 1) * Y ≤ (S + Y) ^ (n + 1) * n ^ n := by
  have h := bern (u := ((S * (n + 1) : Nat) : Int)) (v := (((S + Y) * n : Nat) : Int)) (by omega) (by omega) n
  have h1 : (S * (n + 1)) ^ n * ((n + 1) * n * Y) ≤ ((S + Y) * n) ^ (n + 1) := by
    refine Int.ofNat_le.1 ?_
    have e : ((S * (n + 1) : Nat) : Int) ^ (n + 1) = ((S * (n + 1) : Nat) : Int) ^ n * ((S : Int) * (n + 1)) := by rw [Int.pow_succ]; simp
    rw [e] at h
    rw [Int.natCast_mul, Int.natCast_pow, Int.natCast_pow]
    generalize ((S * (n + 1) : Nat) : Int) ^ n = U at *
    generalize (((S + Y) * n : Nat) : Int) ^ (n + 1) = V at *
    push_cast at h ⊢
    grind
  rw [Nat.mul_pow, Nat.mul_pow, Nat.pow_succ n n] at h1
  rw [Nat.pow_succ (n + 1) n]
  refine Nat.le_of_mul_le_mul_right ?_ hn
  generalize S ^ n = a at *
  generalize (n + 1) ^ n = b at *
  generalize n ^ n = c at *
  generalize (S + Y) ^ (n + 1) = d at *
  grind
theorem step_lt (n S Y : Nat) (hS : 0 < S) (hne : S ≠ (n + 1) * Y) : S ^ (n + 1) * (n + 1 + 1) ^ (n + 1 + 1) * Y < (S + Y) ^ (n + 1 + 1) * (n + 1) ^ (n + 1) := by
  have h := bern_lt (u := ((S * (n + 1 + 1) : Nat) : Int)) (v := (((S + Y) * (n + 1) : Nat) : Int)) (by have := Nat.mul_pos hS (by omega : 0 < n + 1 + 1); omega) (by omega) (fun e => hne (by
    have e := Int.ofNat_inj.1 e
    grind)) n
  have h1 : (S * (n + 1 + 1)) ^ (n + 1) * ((n + 1 + 1) * (n + 1) * Y) < ((S + Y) * (n + 1)) ^ (n + 1 + 1) := by
    refine Int.ofNat_lt.1 ?_
    have e : ((S * (n + 1 + 1) : Nat) : Int) ^ (n + 1 + 1) = ((S * (n + 1 + 1) : Nat) : Int) ^ (n + 1) * ((S : Int) * (n + 1 + 1)) := by rw [Int.pow_succ]; simp
    rw [e] at h
    rw [Int.natCast_mul, Int.natCast_pow, Int.natCast_pow]
    generalize ((S * (n + 1 + 1) : Nat) : Int) ^ (n + 1) = U at *
    generalize (((S + Y) * (n + 1) : Nat) : Int) ^ (n + 1 + 1) = V at *
    push_cast at h ⊢
    grind
  rw [Nat.mul_pow, Nat.mul_pow, Nat.pow_succ (n + 1) (n + 1)] at h1
  rw [Nat.pow_succ (n + 1 + 1) (n + 1)]
  refine Nat.lt_of_mul_lt_mul_right (a := n + 1) ?_
  generalize S ^ (n + 1) = a at *
  generalize (n + 1 + 1) ^ (n + 1) = b at *
  generalize (n + 1) ^ (n + 1) = c at *
  generalize (S + Y) ^ (n + 1 + 1) = d at *
  grind
theorem self_pos (n : Nat) : 0 < n ^ n := by
  rcases Nat.eq_zero_or_pos n with h | h
  · subst h; decide
  · exact Nat.pow_pos h
/-- A copies of X and a of Y: their product is at most the power of their mean. -/
theorem two_le (A X Y : Nat) : ∀ a : Nat, (A + a) ^ (A + a) * (X ^ A * Y ^ a) ≤ (A * X + a * Y) ^ (A + a)
  | 0 => by simp [Nat.mul_pow]
  | a + 1 => by
    have ih := two_le A X Y a
    rcases Nat.eq_zero_or_pos (A + a) with h0 | h0
    · obtain rfl : A = 0 := by omega
      obtain rfl : a = 0 := by omega
      simp
    · have h := step_le (A + a) (A * X + a * Y) Y h0
      have e1 : A * X + (a + 1) * Y = A * X + a * Y + Y := by grind
      rw [e1, ← Nat.add_assoc, Nat.pow_succ Y a]
      refine Nat.le_of_mul_le_mul_right (c := (A + a) ^ (A + a)) ?_ (self_pos _)
      refine Nat.le_trans ?_ h
      have h2 := Nat.mul_le_mul_right ((A + a + 1) ^ (A + a + 1) * Y) ih
      generalize (A + a + 1) ^ (A + a + 1) = p at *
      generalize (A + a) ^ (A + a) = r at *
      generalize (A * X + a * Y) ^ (A + a) = t at *
      generalize X ^ A = x at *
      generalize Y ^ a = y at *
      grind
theorem two_lt (A X Y : Nat) (hA : 0 < A) (hne : X ≠ Y) : ∀ a : Nat, (A + (a + 1)) ^ (A + (a + 1)) * (X ^ A * Y ^ (a + 1)) < (A * X + (a + 1) * Y) ^ (A + (a + 1)) := fun a => by
  rcases Nat.eq_zero_or_pos Y with hy | hy
  · subst hy
    have : 0 < A * X := Nat.mul_pos hA (by omega)
    simp only [Nat.pow_succ, Nat.mul_zero, Nat.add_zero]
    exact Nat.pow_pos this
  rcases Nat.eq_zero_or_pos X with hx | hx
  · subst hx
    rw [Nat.zero_pow hA]
    have : 0 < (a + 1) * Y := Nat.mul_pos (by omega) hy
    simp only [Nat.mul_zero, Nat.zero_mul, Nat.zero_add]
    exact Nat.pow_pos this
  induction a with
  | zero =>
    obtain ⟨n, rfl⟩ : ∃ n, A = n + 1 := ⟨A - 1, by omega⟩
    have h := step_lt n ((n + 1) * X) Y (Nat.mul_pos hA hx) (fun e => hne (Nat.eq_of_mul_eq_mul_left hA e))
    have e1 : (n + 1) * X + (0 + 1) * Y = (n + 1) * X + Y := by omega
    rw [e1, Nat.zero_add]
    refine Nat.lt_of_mul_lt_mul_right (a := (n + 1) ^ (n + 1)) ?_
    refine Nat.lt_of_le_of_lt ?_ h
    rw [Nat.mul_pow, Nat.pow_one]
    generalize (n + 1) ^ (n + 1) = r at *
    generalize (n + 1 + 1) ^ (n + 1 + 1) = p at *
    generalize X ^ (n + 1) = x at *
    grind
  | succ a ih =>
    have h := step_le (A + (a + 1)) (A * X + (a + 1) * Y) Y (by omega)
    have e1 : A * X + (a + 1 + 1) * Y = A * X + (a + 1) * Y + Y := by grind
    rw [e1, ← Nat.add_assoc A (a + 1) 1, Nat.pow_succ Y (a + 1)]
    refine Nat.lt_of_mul_lt_mul_right (a := (A + (a + 1)) ^ (A + (a + 1))) ?_
    refine Nat.lt_of_lt_of_le ?_ h
    have h2 := Nat.mul_lt_mul_of_pos_right ih (Nat.mul_pos (self_pos (A + (a + 1) + 1)) hy)
    generalize (A + (a + 1) + 1) ^ (A + (a + 1) + 1) = p at *
    generalize (A + (a + 1)) ^ (A + (a + 1)) = r at *
    generalize (A * X + (a + 1) * Y) ^ (A + (a + 1)) = t at *
    generalize X ^ A = x at *
    generalize Y ^ (a + 1) = y at *
    grind

/-- Two terms of the logarithms' sum. -/
theorem sum2_le (A a B b : Nat) : (A + a) ^ (A + a) * (B ^ A * b ^ a) ≤ (B + b) ^ (A + a) * (A ^ A * a ^ a) := by
  rcases Nat.eq_zero_or_pos A with hA | hA
  · subst hA
    have := Nat.pow_le_pow_left (show b ≤ B + b by omega) a
    simp only [Nat.zero_add, Nat.pow_zero, Nat.one_mul]
    rw [Nat.mul_comm]
    exact Nat.mul_le_mul_right _ this
  rcases Nat.eq_zero_or_pos a with ha | ha
  · subst ha
    have := Nat.pow_le_pow_left (show B ≤ B + b by omega) A
    simp only [Nat.add_zero, Nat.pow_zero, Nat.mul_one]
    rw [Nat.mul_comm]
    exact Nat.mul_le_mul_right _ this
  have h := two_le A (B * a) (b * A) a
  have e1 : A * (B * a) + a * (b * A) = (A * a) * (B + b) := by grind
  rw [e1, Nat.mul_pow, Nat.mul_pow, Nat.mul_pow (A * a), Nat.mul_pow A a] at h
  have e2 : A ^ (A + a) = A ^ A * A ^ a := Nat.pow_add ..
  have e3 : a ^ (A + a) = a ^ A * a ^ a := Nat.pow_add ..
  rw [e2, e3] at h
  refine Nat.le_of_mul_le_mul_right (c := A ^ a * a ^ A) ?_ (Nat.mul_pos (Nat.pow_pos hA) (Nat.pow_pos ha))
  generalize A ^ a = t1 at *
  generalize a ^ A = t2 at *
  generalize (A + a) ^ (A + a) = t3 at *
  generalize (B + b) ^ (A + a) = t4 at *
  generalize A ^ A = t5 at *
  generalize a ^ a = t6 at *
  generalize B ^ A = t7 at *
  generalize b ^ a = t8 at *
  grind
theorem sum2_lt {A a B b : Nat} (hA : 0 < A) (hne : B * a ≠ b * A) : (A + a) ^ (A + a) * (B ^ A * b ^ a) < (B + b) ^ (A + a) * (A ^ A * a ^ a) := by
  rcases Nat.eq_zero_or_pos a with ha | ha
  · subst ha
    have hb : 0 < b := Nat.pos_of_ne_zero fun e => hne (by subst e; simp)
    have := Nat.pow_lt_pow_left (show B < B + b by omega) (Nat.pos_iff_ne_zero.1 hA)
    simp only [Nat.add_zero, Nat.pow_zero, Nat.mul_one]
    rw [Nat.mul_comm]
    exact Nat.mul_lt_mul_of_pos_right this (Nat.pow_pos hA)
  obtain ⟨c, rfl⟩ : ∃ c, a = c + 1 := ⟨a - 1, by omega⟩
  have h := two_lt A (B * (c + 1)) (b * A) hA hne c
  have e1 : A * (B * (c + 1)) + (c + 1) * (b * A) = (A * (c + 1)) * (B + b) := by grind
  rw [e1, Nat.mul_pow, Nat.mul_pow, Nat.mul_pow (A * (c + 1)), Nat.mul_pow A (c + 1)] at h
  have e2 : A ^ (A + (c + 1)) = A ^ A * A ^ (c + 1) := Nat.pow_add ..
  have e3 : (c + 1) ^ (A + (c + 1)) = (c + 1) ^ A * (c + 1) ^ (c + 1) := Nat.pow_add ..
  rw [e2, e3] at h
  refine Nat.lt_of_mul_lt_mul_right (a := A ^ (c + 1) * (c + 1) ^ A) ?_
  generalize A ^ (c + 1) = t1 at *
  generalize (c + 1) ^ A = t2 at *
  generalize (A + (c + 1)) ^ (A + (c + 1)) = t3 at *
  generalize (B + b) ^ (A + (c + 1)) = t4 at *
  generalize A ^ A = t5 at *
  generalize (c + 1) ^ (c + 1) = t6 at *
  generalize B ^ A = t7 at *
  generalize b ^ (c + 1) = t8 at *
  grind
theorem prod_pos {f : Nat → Nat} : ∀ {n : Nat}, (∀ i, i < n → 0 < f i) → 0 < prodA f n
  | 0, _ => by simp [prodA]
  | n + 1, h => Nat.mul_pos (prod_pos fun i hi => h i (by omega)) (h n (by omega))
theorem sum_zero {f : Nat → Nat} : ∀ {n : Nat}, sumA f n = 0 → ∀ i, i < n → f i = 0
  | 0, _, i, hi => by omega
  | n + 1, h, i, hi => by
    simp only [sumA] at h
    rcases Nat.lt_or_ge i n with h1 | h1
    · exact sum_zero (n := n) (by omega) i h1
    · obtain rfl : i = n := by omega
      omega
/-- The sum of logarithms (GIBBS). -/
theorem sums_le (a b : Nat → Nat) : ∀ n : Nat, sumA a n ^ sumA a n * prodA (fun i => b i ^ a i) n ≤ sumA b n ^ sumA a n * prodA (fun i => a i ^ a i) n
  | 0 => by simp [sumA, prodA]
  | n + 1 => by
    have ih := sums_le a b n
    have h2 := sum2_le (sumA a n) (a n) (sumA b n) (b n)
    simp only [sumA, prodA]
    refine Nat.le_of_mul_le_mul_right (c := sumA a n ^ sumA a n) ?_ (self_pos _)
    have h3 := Nat.mul_le_mul_right ((sumA a n + a n) ^ (sumA a n + a n) * b n ^ a n) ih
    have h4 := Nat.mul_le_mul_right (prodA (fun i => a i ^ a i) n) h2
    generalize (sumA a n + a n) ^ (sumA a n + a n) = t1 at *
    generalize (sumA b n + b n) ^ (sumA a n + a n) = t2 at *
    generalize sumA a n ^ sumA a n = t3 at *
    generalize sumA b n ^ sumA a n = t4 at *
    generalize prodA (fun i => a i ^ a i) n = t5 at *
    generalize prodA (fun i => b i ^ a i) n = t6 at *
    generalize b n ^ a n = t7 at *
    generalize a n ^ a n = t8 at *
    grind
theorem sums_eq {a b : Nat → Nat} : ∀ {n : Nat}, (∀ i, i < n → 0 < a i → 0 < b i) → sumA a n ^ sumA a n * prodA (fun i => b i ^ a i) n = sumA b n ^ sumA a n * prodA (fun i => a i ^ a i) n → ∀ i, i < n → a i * sumA b n = b i * sumA a n
  | 0, _, _, i, hi => by omega
  | n + 1, hs, h, i, hi => by
    have ih := sums_le a b n
    have h2 := sum2_le (sumA a n) (a n) (sumA b n) (b n)
    have hb : 0 < b n ^ a n := by
      rcases Nat.eq_zero_or_pos (a n) with h0 | h0
      · rw [h0]; simp
      · exact Nat.pow_pos (hs n (by omega) h0)
    have hR : 0 < prodA (fun i => a i ^ a i) n := prod_pos fun i _ => self_pos _
    have hA' := self_pos (sumA a n + a n)
    have hA0 := self_pos (sumA a n)
    have hall : sumA a n ^ sumA a n * prodA (fun i => b i ^ a i) n = sumA b n ^ sumA a n * prodA (fun i => a i ^ a i) n ∧ (sumA a n + a n) ^ (sumA a n + a n) * (sumA b n ^ sumA a n * b n ^ a n) = (sumA b n + b n) ^ (sumA a n + a n) * (sumA a n ^ sumA a n * a n ^ a n) := by
      simp only [sumA, prodA] at h
      have h3 := Nat.mul_le_mul_right ((sumA a n + a n) ^ (sumA a n + a n) * b n ^ a n) ih
      have h4 := Nat.mul_le_mul_right (prodA (fun i => a i ^ a i) n) h2
      have h5 := congrArg (· * sumA a n ^ sumA a n) h
      have hp := Nat.mul_pos hA' hb
      generalize (sumA a n + a n) ^ (sumA a n + a n) = t1 at *
      generalize (sumA b n + b n) ^ (sumA a n + a n) = t2 at *
      generalize sumA a n ^ sumA a n = t3 at *
      generalize sumA b n ^ sumA a n = t4 at *
      generalize prodA (fun i => a i ^ a i) n = t5 at *
      generalize prodA (fun i => b i ^ a i) n = t6 at *
      generalize b n ^ a n = t7 at *
      generalize a n ^ a n = t8 at *
      have e1 : t3 * t6 * (t1 * t7) = t4 * t5 * (t1 * t7) := by grind
      have e2 : t1 * (t4 * t7) * t5 = t2 * (t3 * t8) * t5 := by grind
      exact ⟨Nat.eq_of_mul_eq_mul_right hp e1, Nat.eq_of_mul_eq_mul_right hR e2⟩
    have hI := sums_eq (n := n) (fun i hi => hs i (by omega)) hall.1
    simp only [sumA]
    rcases Nat.eq_zero_or_pos (sumA a n) with h0 | h0
    · have hz := sum_zero h0
      have h6 := hall.2
      rw [h0] at h6 ⊢
      simp only [Nat.zero_add, Nat.pow_zero, Nat.one_mul] at h6 ⊢
      have h7 : b n ^ a n = (sumA b n + b n) ^ a n := by
        rw [Nat.mul_comm] at h6
        exact Nat.eq_of_mul_eq_mul_right (self_pos _) h6
      have h8 : a n = 0 ∨ sumA b n = 0 := by
        rcases Nat.eq_zero_or_pos (a n) with h1 | h1
        · exact Or.inl h1
        · refine Or.inr ?_
          rcases Nat.eq_zero_or_pos (sumA b n) with h9 | h9
          · exact h9
          · have := Nat.pow_lt_pow_left (show b n < sumA b n + b n by omega) (Nat.pos_iff_ne_zero.1 h1)
            omega
      rcases Nat.lt_or_ge i n with h1 | h1
      · rw [hz i h1]
        rcases h8 with h8 | h8
        · rw [h8]; simp
        · rw [sum_zero h8 i h1]; simp
      · obtain rfl : i = n := by omega
        rcases h8 with h8 | h8
        · rw [h8]; simp
        · rw [h8, Nat.zero_add, Nat.mul_comm]
    · have he : sumA b n * a n = b n * sumA a n := by
        rcases Nat.decEq (sumA b n * a n) (b n * sumA a n) with h1 | h1
        · have := sum2_lt h0 h1
          omega
        · exact h1
      rcases Nat.lt_or_ge i n with h1 | h1
      · have hi1 := hI i h1
        have h9 : a i * b n = b i * a n := by
          refine Nat.eq_of_mul_eq_mul_right h0 ?_
          grind
        grind
      · obtain rfl : i = n := by omega
        grind
end Go.Proofs.YthknaphclijncaaDoor

/- A logarithm that is told of a sum: it is in form; its sign. -/
namespace Go.Proofs.YthknaphclijncaaDoor
open Go.RowKit

theorem over_by {D : Nat} {l : List (Int × Int)} (hD : 0 < D) (hr : Rising l) : gList D (l.map Prod.snd) ∣ D ∧ 0 < gList D (l.map Prod.snd) ∧ (∀ x, atL l x = ((gList D (l.map Prod.snd) : Nat) : Int) * atL (overL (gList D (l.map Prod.snd)) l) x) ∧ Canon (D / gList D (l.map Prod.snd)) (overL (gList D (l.map Prod.snd)) l) := over_canon hD hr (gcdL_list hr)
/-- It speaks of primes alone, and in bounds. -/
structure Prim (f : Int → Int) : Prop where
  le : ∀ x, -1000000000 ≤ f x ∧ f x ≤ 1000000000
  pr : ∀ x, f x ≠ 0 → 2 ≤ x ∧ x ≤ 4096 ∧ Pr x.toNat
theorem rising_count {hi : Int} : ∀ (l : List (Int × Int)) (lo : Int), lo ≤ hi → Rising l → (∀ e ∈ l, lo < e.1 ∧ e.1 ≤ hi) → (l.length : Int) + lo ≤ hi
  | [], lo, h, _, _ => by simpa using h
  | e :: r, lo, _, hr, he => by
    have h1 := he e (by simp)
    have h2 := rising_count r e.1 h1.2 (List.pairwise_cons.1 hr).2 (fun f hf => ⟨(List.pairwise_cons.1 hr).1 f hf, (he f (by simp [hf])).2⟩)
    simp only [List.length_cons]
    omega
theorem LogBy.ok {base M : Nat} {f : Int → Int} {w : World} {dn : Int} {v : Value} (h : LogBy base M f w dn v) (hM : 1 ≤ M) (hM6 : M ≤ 1000000) (hf : Prim f) :
    ∃ (t : List (Int × Int)) (d G : Nat), dn = (d : Int) ∧ ListAt w v t ∧ t.length ≤ 4096 ∧ M = G * d ∧ 0 < G ∧ (∀ x, f x = (G : Int) * atL t x) ∧ OkLog d t.length (pOf t) (cOf t) := by
  obtain ⟨l, r, a, _, rfl, o⟩ := h.list
  obtain ⟨g1, g2, g3, g4⟩ := over_by hM r
  have hv : ∀ x, f x = ((gList M (l.map Prod.snd) : Nat) : Int) * atL (overL (gList M (l.map Prod.snd)) l) x := fun x => by rw [← a]; exact g3 x
  have hle := Nat.div_le_self M (gList M (l.map Prod.snd))
  have hone := g4.one
  have hpos := g4.pos
  have hsup : ∀ e ∈ overL (gList M (l.map Prod.snd)) l, 2 ≤ e.1 ∧ e.1 ≤ 4096 ∧ Pr e.1.toNat := fun e he => by
    have h1 := hv e.1
    rw [atL_mem g4.rise he] at h1
    have hne : f e.1 ≠ 0 := by
      rw [h1]
      exact Int.mul_ne_zero (by omega) (g4.nz e he)
    exact hf.pr e.1 hne
  have hcount := rising_count (hi := 4096) _ 1 (by omega) g4.rise (fun e he => by have := hsup e he; omega)
  refine ⟨_, M / gList M (l.map Prod.snd), gList M (l.map Prod.snd), rfl, o, by omega, (Nat.mul_div_cancel' g1).symm, g2, hv, okLog_list g4.rise (fun e he => ?_) (by omega) (by omega) ?_⟩
  · have h1 := hv e.1
    rw [atL_mem g4.rise he] at h1
    have hnz := g4.nz e he
    have hb := hf.le e.1
    obtain ⟨p1, p2, p3⟩ := hsup e he
    have habs : e.2.natAbs ≤ (f e.1).natAbs := by
      rw [h1, Int.natAbs_mul, Int.natAbs_natCast]
      exact Nat.le_mul_of_pos_left _ g2
    exact ⟨by omega, hnz, by omega, by omega, p1, p3⟩
  · rw [gcdTo_list _ _ _ (Nat.le_refl _), List.take_length, Int.natAbs_natCast]
    exact hone
/-- Its sides are as the sides of the sum. -/
theorem by_sides {d G U D : Nat} {t : List (Int × Int)} {f : Int → Int} (hok : OkLog d t.length (pOf t) (cOf t)) (hv : ∀ x, f x = (G : Int) * atL t x) (hU : 0 < U) (hD : 0 < D) (hm : ∀ q : Nat, Pr q → f (q : Int) = (mult q U : Int) - (mult q D : Int)) :
    sideUp (pOf t) (cOf t) 1 t.length ^ G * D = sideDown (pOf t) (cOf t) 1 t.length ^ G * U ∧ 0 < sideUp (pOf t) (cOf t) 1 t.length ∧ 0 < sideDown (pOf t) (cOf t) 1 t.length := by
  have h2 : Pr 2 := ⟨by omega, fun d hd hdd => by have := Nat.mul_le_mul hd hd; omega⟩
  obtain ⟨_, a1, a2⟩ := hok.side 1 h2
  refine ⟨eq_of_mult _ _ (Nat.mul_pos (Nat.pow_pos a1) hD) (Nat.mul_pos (Nat.pow_pos a2) hU) (fun q hq => ?_), a1, a2⟩
  have e1 := (hok.side 1 hq).1
  have e2 := hm q hq
  rw [hv] at e2
  rw [mult_mul hq _ _ (Nat.pow_pos a1) hD, mult_mul hq _ _ (Nat.pow_pos a2) hU, mult_power hq a1, mult_power hq a2]
  generalize mult q (sideUp (pOf t) (cOf t) 1 t.length) = A at *
  generalize mult q (sideDown (pOf t) (cOf t) 1 t.length) = B at *
  generalize mult q U = u at *
  generalize mult q D = e at *
  generalize atL t (q : Int) = z at *
  apply Int.ofNat_inj.1
  simp only [Int.natCast_add, Int.natCast_mul]
  have h3 : (A : Int) = B + z := by omega
  rw [h3]
  grind
theorem pow_order {a b G : Nat} (hG : 0 < G) : (a ^ G < b ^ G → a < b) ∧ (a ^ G = b ^ G → a = b) := by
  have h1 : a ^ G < b ^ G → a < b := fun h => by
    rcases Nat.lt_or_ge a b with h1 | h1
    · exact h1
    · have := Nat.pow_le_pow_left h1 G
      omega
  refine ⟨h1, fun h => ?_⟩
  rcases Nat.lt_or_ge a b with h2 | h2
  · have := Nat.pow_lt_pow_left h2 (Nat.pos_iff_ne_zero.1 hG)
    omega
  · rcases Nat.lt_or_ge b a with h3 | h3
    · have := Nat.pow_lt_pow_left h3 (Nat.pos_iff_ne_zero.1 hG)
      omega
    · omega
theorem by_cmp {su sd G U D : Nat} (h : su ^ G * D = sd ^ G * U) (hG : 0 < G) (h1 : 0 < su) (h2 : 0 < sd) (hU : 0 < U) : (D < U → cmpOf su sd = 1) ∧ (U = D → cmpOf su sd = 0) ∧ (U < D → cmpOf su sd = -1) := by
  obtain ⟨o1, o2, o3⟩ := sides_order h (Nat.pow_pos h1) (Nat.pow_pos h2)
  unfold cmpOf
  refine ⟨fun hl => ?_, fun he => ?_, fun hl => ?_⟩
  · have := (pow_order hG).1 (o2 hl)
    grind
  · have := (pow_order hG).2 (o3 he hU)
    grind
  · have := (pow_order hG).1 (o1 hl)
    grind
theorem listAt_log {W : World} {v : Value} {t : List (Int × Int)} (h : ListAt W v t) : LogAt W v t.length (pOf t) (cOf t) := by
  obtain ⟨ad, cap, rfl, hl⟩ := log_of_own h
  exact hl
/-- logs.Sign of what is told of a sum. -/
theorem Sign_by {base M : Nat} {f : Int → Int} {dn : Int} {v : Value} {U D : Nat} (a : Nat → Addr) (w : World) (hE : Errs w a) (h : LogBy base M f w dn v) (hM : 1 ≤ M) (hM6 : M ≤ 1000000) (hf : Prim f) (hU : 0 < U) (hD : 0 < D) (hm : ∀ q : Nat, Pr q → f (q : Int) = (mult q U : Int) - (mult q D : Int)) :
    Calls Tryd.prog 41 #[.agg #[.int .i64 dn, v]] w fun e w' => ((∃ z, e = .returned (.tuple #[.int .i64 z, .nilIface]) ∧ (D < U → z = 1) ∧ (U = D → z = 0) ∧ (U < D → z = -1)) ∨ e = .returned (.tuple #[.int .i64 0, powErr true false a])) ∧ Below w.heap.size w w' := by
  obtain ⟨t, d, G, rfl, hl, hn, _, hG, hv, hok⟩ := h.ok hM hM6 hf
  obtain ⟨s1, s2, s3⟩ := by_sides hok hv hU hD hm
  have hc := by_cmp s1 hG s2 s3 hU
  have hlog : LogAt w v t.length (pOf t) (cOf t) := listAt_log hl
  by_cases hfit : cost (pOf t) (cOf t) t.length ≤ 40000
  · refine (Sign_log d v t.length (pOf t) (cOf t) a true true (by simpa using hok) (by simpa using hfit) w hE hlog (by omega)).mono ?_
    rintro e w' ⟨rfl, hb⟩
    exact ⟨Or.inl ⟨_, rfl, hc⟩, hb⟩
  · refine (Sign_log d v t.length (pOf t) (cOf t) a true false (by simpa using hok) (by simpa using hfit) w hE hlog (by omega)).mono ?_
    rintro e w' ⟨rfl, hb⟩
    exact ⟨Or.inr rfl, hb⟩
end Go.Proofs.YthknaphclijncaaDoor

/- A logarithm in form times a fraction in its lowest terms. -/
namespace Go.Proofs.YthknaphclijncaaDoor

theorem gList_gcd : ∀ (L : List Int) (g : Nat), gList g L = Nat.gcd g (gList 0 L)
  | [], g => by show g = Nat.gcd g 0; rw [Nat.gcd_zero_right]
  | x :: r, g => by
    show gList (Nat.gcd g x.natAbs) r = Nat.gcd g (gList (Nat.gcd 0 x.natAbs) r)
    rw [gList_gcd r (Nat.gcd g x.natAbs), gList_gcd r (Nat.gcd 0 x.natAbs), Nat.gcd_zero_left, Nat.gcd_assoc]
theorem gList_mulI (n : Int) : ∀ L : List Int, gList 0 (L.map fun x => n * x) = n.natAbs * gList 0 L
  | [] => by simp [gList]
  | x :: r => by
    show gList (Nat.gcd 0 (n * x).natAbs) (r.map fun x => n * x) = n.natAbs * gList (Nat.gcd 0 x.natAbs) r
    rw [gList_gcd (r.map fun x => n * x), gList_mulI n r, gList_gcd r (Nat.gcd 0 x.natAbs), Nat.gcd_zero_left, Nat.gcd_zero_left, Int.natAbs_mul, Nat.gcd_mul_left]
theorem coprime_mul {a d n C : Nat} (h1 : Nat.Coprime a n) (h2 : Nat.Coprime a C) (h3 : Nat.Coprime d n) (h4 : Nat.Coprime d C) : Nat.Coprime (a * d) (n * C) :=
  Nat.Coprime.mul_left (Nat.Coprime.mul_right h1 h2) (Nat.Coprime.mul_right h3 h4)
theorem gcd_cross {a d n C : Nat} (h1 : Nat.Coprime a C) (h2 : Nat.Coprime n d) (ha : 0 < a) (hd : 0 < d) : Nat.gcd (a * d) (n * C) = Nat.gcd n a * Nat.gcd d C := by
  have hl : 0 < Nat.gcd n a := Nat.gcd_pos_of_pos_right _ ha
  have hr : 0 < Nat.gcd d C := Nat.gcd_pos_of_pos_left _ hd
  have c1 := Nat.coprime_div_gcd_div_gcd hl
  have c2 := Nat.coprime_div_gcd_div_gcd hr
  obtain ⟨n', hn⟩ := Nat.gcd_dvd_left n a
  obtain ⟨a', ha'⟩ := Nat.gcd_dvd_right n a
  obtain ⟨d', hd'⟩ := Nat.gcd_dvd_left d C
  obtain ⟨C', hC⟩ := Nat.gcd_dvd_right d C
  generalize Nat.gcd n a = l at *
  generalize Nat.gcd d C = r at *
  subst hn ha' hd' hC
  rw [Nat.mul_div_cancel_left _ hl, Nat.mul_div_cancel_left _ hl] at c1
  rw [Nat.mul_div_cancel_left _ hr, Nat.mul_div_cancel_left _ hr] at c2
  have e1 : l * a' * (r * d') = l * r * (a' * d') := by grind
  have e2 : l * n' * (r * C') = l * r * (n' * C') := by grind
  rw [e1, e2, Nat.gcd_mul_left, coprime_mul c1.symm (h1.coprime_dvd_left (Nat.dvd_mul_left _ _) |>.coprime_dvd_right (Nat.dvd_mul_left _ _)) (h2.coprime_dvd_left (Nat.dvd_mul_left _ _) |>.coprime_dvd_right (Nat.dvd_mul_left _ _)).symm c2, Nat.mul_one]

def scaleL (n : Int) (t : List (Int × Int)) : List (Int × Int) := t.map fun e => (e.1, n * e.2)
theorem scale_rise {t : List (Int × Int)} (h : Rising t) (n : Int) : Rising (scaleL n t) := by
  unfold scaleL Rising
  rw [List.pairwise_map]
  exact h
theorem scale_at (n : Int) : ∀ (t : List (Int × Int)) (x : Int), atL (scaleL n t) x = n * atL t x
  | [], x => by simp [scaleL, atL]
  | e :: r, x => by
    have ih := scale_at n r x
    show (if e.1 = x then n * e.2 else atL (scaleL n r) x) = n * if e.1 = x then e.2 else atL r x
    by_cases h : e.1 = x
    · rw [if_pos h, if_pos h]
    · rw [if_neg h, if_neg h, ih]
theorem scale_snd (n : Int) (t : List (Int × Int)) : (scaleL n t).map Prod.snd = (t.map Prod.snd).map fun x => n * x := by unfold scaleL; rw [List.map_map, List.map_map]; rfl
/-- The common divisor of what is scaled. -/
theorem scale_gcd {da d : Nat} {n : Int} {t : List (Int × Int)} (hda : 0 < da) (hd : 0 < d) (hone : gList da (t.map Prod.snd) = 1) (hlow : Nat.gcd n.natAbs d = 1) : gList (da * d) ((scaleL n t).map Prod.snd) = Nat.gcd n.natAbs da * gList d (t.map Prod.snd) := by
  rw [gList_gcd] at hone
  rw [scale_snd, gList_gcd, gList_mulI, gList_gcd (t.map Prod.snd) d]
  exact gcd_cross hone hlow hda hd
theorem scale_den {da d lf rt : Nat} (hl : lf ∣ da) (hr : rt ∣ d) : da * d / (lf * rt) = da / lf * (d / rt) := (Nat.div_mul_div_comm hl hr).symm
theorem scale_coef {n c : Int} {lf rt : Nat} (hl : lf ∣ n.natAbs) (hr : rt ∣ c.natAbs) (hl0 : 0 < lf) (hr0 : 0 < rt) : (n * c).tdiv ((lf * rt : Nat) : Int) = n.tdiv (lf : Int) * c.tdiv (rt : Int) := by
  have h1 : n = (lf : Int) * n.tdiv (lf : Int) := (Int.mul_tdiv_cancel' (Int.ofNat_dvd_left.2 hl)).symm
  have h2 : c = (rt : Int) * c.tdiv (rt : Int) := (Int.mul_tdiv_cancel' (Int.ofNat_dvd_left.2 hr)).symm
  generalize n.tdiv (lf : Int) = a at *
  generalize c.tdiv (rt : Int) = b at *
  rw [h1, h2, Int.natCast_mul, show (lf : Int) * a * ((rt : Int) * b) = (lf : Int) * (rt : Int) * (a * b) by grind]
  exact Int.mul_tdiv_cancel_left _ (Int.mul_ne_zero (by omega) (by omega))
theorem most_iff {m k : Nat} (hk : 0 < k) : m ≤ 1099511627776 / k ↔ m * k ≤ 1099511627776 := Nat.le_div_iff_mul_le hk
end Go.Proofs.YthknaphclijncaaDoor

/- whole.Lowest at any fraction. -/
namespace Go.Proofs.YthknaphclijncaaDoor
open Go.RowKit

theorem quo_nat30 {a b : Nat} (h : a ≤ 1073741824) : wrap64 ((a : Int) / (b : Int)) = ((a / b : Nat) : Int) := by
  have h0 : (a : Int) / (b : Int) = ((a / b : Nat) : Int) := by simp
  have h1 : a / b ≤ a := Nat.div_le_self _ _
  rw [h0]
  generalize a / b = q at h1
  rw [w64 _ (by omega)]

set_option maxRecDepth 10000 in
set_option maxHeartbeats 1000000 in
theorem lowest_any (n : Int) (d : Nat) (w : World) (h1 : -1073741824 ≤ n) (h2 : n ≤ 1073741824) (hd0 : 1 ≤ d) (hd1 : d ≤ 1073741824) (g : Nat) (hg : g = Nat.gcd n.natAbs d) : Calls Tryd.prog 34 #[.int .i64 n, .int .i64 d] w fun e w' => e = .returned (.agg #[.int .i64 (n.tdiv (g : Int)), .int .i64 ((d / g : Nat) : Int)]) ∧ Below w.heap.size w w' := by
  have hB0 : Below w.heap.size w (w.alloc (.cells #[.int .i64 0, .int .i64 0] 37)) := (Below.refl _ _).alloc (Nat.le_refl _) _
  have hgc := GCD_any n d (w.alloc (.cells #[.int .i64 0, .int .i64 0] 37)) (by omega) (by omega) (by omega) (by omega)
  have hgi : Int.gcd n (d : Int) = g := by rw [hg]; simp [Int.gcd]
  rw [hgi] at hgc
  have hgp : 0 < g := by rw [hg]; exact Nat.gcd_pos_of_pos_right _ hd0
  have hgz : ¬ g = 0 := by omega
  have hgl : g ≤ d := by rw [hg]; exact Nat.gcd_le_right _ (by omega)
  have HB := Hid.mk' hB0
  clear hB0 hgi hg
  go_enter Tryd.func34, Tryd.ntmps34
  go_wp2_with fail
  refine hgc.mono ?_
  clear hgc
  rintro e w1 ⟨rfl, m, rfl⟩
  go_wp2_with fail
  go_region
  go_wp2_with fail
  refine bodyPost_ret (v := .agg #[.int .i64 (n.tdiv (g : Int)), .int .i64 (wrap64 ((d : Int) / (g : Int)))]) (by simp [results, Tryd.results34, go_sem]) rfl ⟨by rw [quo_nat30 hd1], ?_⟩
  exact ((below_drewN HB.out _).setCell (by simp) _).setCell (by simp) _
end Go.Proofs.YthknaphclijncaaDoor

/- logs.scaled at any fraction. -/
namespace Go.Proofs.YthknaphclijncaaDoor
open Go.RowKit Go.Maps

theorem quo_most {m : Nat} : (1099511627776 : Int) / (m : Int) = ((1099511627776 / m : Nat) : Int) := by simp

/-- What scaled's second loop keeps: the row lies at N, the answer's box at Bx. -/
structure InScl (w wr : World) (N Bx : Nat) (d : Int) (n : Nat) (p c : Nat → Int) (k : Nat) : Prop where
  below : Below N w wr
  lt : N < Bx
  o0 : wr.cell? ⟨Bx, 0, none⟩ = some (.int .i64 d)
  o1 : wr.cell? ⟨Bx, 1, none⟩ = some (.slice (some ⟨N, 0, none⟩) k n)
  f0 : wr.frozen? ⟨Bx, 0, none⟩ = false
  fz : wr.frozen? ⟨Bx, 1, none⟩ = false
  row : wr.ownsRow N 99 2 (.slice (some ⟨N, 0, none⟩) k n) k (termCells p c k)
theorem InScl.later {w wr wn : World} {N Bx : Nat} {d : Int} {n : Nat} {p c : Nat → Int} {k : Nat} (h : InScl w wr N Bx d n p c k) (hb : Below wr.heap.size wr wn) : InScl w wn N Bx d n p c k :=
  ⟨h.below.trans (hb.mono (by have := cell_lt h.o0; have := h.lt; simp only at *; omega)), h.lt, (cell_past h.o0 hb).2, (cell_past h.o1 hb).2, (frozen_past h.o0 h.f0 hb).2, (frozen_past h.o1 h.fz hb).2, ownsRow_past h.row hb⟩
theorem InScl.pushed {w wr w3 : World} {N Bx : Nat} {d : Int} {n : Nat} {p c : Nat → Int} {k : Nat} (h : InScl w wr N Bx d n p c k) (hg : wr.grownBy w3 (some N)) (hrow : w3.ownsRow N 99 2 (.slice (some ⟨N, 0, none⟩) (k + 1) n) (k + 1) (termCells p c k ++ [.int .i64 (p k), .int .i64 (c k)])) :
    w3.cell? ⟨Bx, 1, none⟩ = some (.slice (some ⟨N, 0, none⟩) k n) ∧ w3.frozen? ⟨Bx, 1, none⟩ = false ∧ InScl w (w3.setCell ⟨Bx, 1, none⟩ (.slice (some ⟨N, 0, none⟩) (k + 1) n)) N Bx d n p c (k + 1) := by
  have hlt := cell_lt h.o0
  have hNB := h.lt
  simp only at hlt
  have c0 := cell_beside hg h.o0 (by omega)
  have c1 := cell_beside hg h.o1 (by omega)
  have hblk := hg.block Bx hlt (by simp; omega)
  have f0 : w3.frozen? ⟨Bx, 0, none⟩ = false := by rw [← h.f0]; simp [World.frozen?, hblk]
  have f1 : w3.frozen? ⟨Bx, 1, none⟩ = false := by rw [← h.fz]; simp [World.frozen?, hblk]
  refine ⟨c1, f1, ⟨(h.below.grown hg (by omega) (fun j e => by cases e; exact Nat.le_refl _)).setCell (by simp; omega) _, h.lt, ?_, World.cell?_setCell_same _ _ _ c1, by simpa using f0, by simpa using f1, ?_⟩⟩
  · rw [World.cell?_setCell_other _ _ _ _ (by simp)]; exact c0
  · obtain ⟨hl, hr⟩ := hrow
    refine ⟨hl, ?_⟩
    rcases hr with hr | ⟨gg, cap, cur, hv, hg1, hh, rest⟩
    · exact Or.inl hr
    · refine Or.inr ⟨gg, cap, cur, hv, hg1, ?_, rest⟩
      have : gg = N := by simp at hv; exact hv.1.symm
      rw [Below.heap_setCell _ _ _ _ (by show gg ≠ Bx; omega)]
      exact hh
theorem inScl_start {W W3 : World} {d : Int} {n : Nat} {p c : Nat → Int} (ho : W3.ownsRow W.heap.size 99 2 (.slice (some ⟨W.heap.size, 0, none⟩) 0 n) 0 []) (hg : W.grownBy W3 none) : InScl W (W3.alloc (.cells #[.int .i64 d, .slice (some ⟨W.heap.size, 0, none⟩) 0 n] 32)) W.heap.size W3.heap.size d n p c 0 := by
  have hlt : W.heap.size < W3.heap.size := by
    rcases ho.2 with ⟨h, _⟩ | ⟨g, cap, cur, hv, _, hh, _⟩
    · cases h
    · have : W.heap.size = g := by simp at hv; exact hv.1
      rw [this]; exact heap_lt hh
  refine ⟨((Below.refl _ _).grown hg (Nat.le_refl _) (fun j e => by cases e)).alloc (by omega) _, hlt, by rw [World.cell?_alloc_at _ _ _ _ rfl]; rfl, by rw [World.cell?_alloc_at _ _ _ _ rfl]; rfl, frozen_new rfl, frozen_new rfl, ownsRow_past ho (new_below _ _)⟩


set_option maxRecDepth 100000 in
set_option maxHeartbeats 2000000 in
theorem scaled_any (da d : Nat) (n : Int) (ad : Option Addr) (nn cap : Nat) (p c : Nat → Int) (a : Nat → Addr) (w : World) (h : Errs w a) (hl : LogAt w (.slice ad nn cap) nn p c) (hok : OkLog da nn p c) (hn0 : 0 < nn) (hn : nn ≤ 100) (h1 : -1073741824 ≤ n) (h2 : n ≤ 1073741824) (hnz : n ≠ 0) (hd0 : 1 ≤ d) (hd1 : d ≤ 1073741824) (lf rt : Nat) (hlf : lf = Nat.gcd n.natAbs da) (hrt : rt = gcdTo d c nn) (fits : Bool) (hfit : fits = true ↔ (da / lf * (d / rt) ≤ 1000000 ∧ ∀ i, i < nn → (n.tdiv (lf : Int) * (c i).tdiv (rt : Int)).natAbs ≤ 1099511627776)) :
    Calls Tryd.prog 33 #[.agg #[.int .i64 da, .slice ad nn cap], .agg #[.int .i64 n, .int .i64 d]] w fun e w' => ((fits = true ∧ ∃ v, e = .returned (.tuple #[.agg #[.int .i64 ((da / lf * (d / rt) : Nat) : Int), v], .nilIface]) ∧ OwnAt w' v nn p (fun i => n.tdiv (lf : Int) * (c i).tdiv (rt : Int))) ∨ (fits = false ∧ e = .returned (.tuple #[.agg #[.int .i64 0, .slice none 0 0], .iface 199 (.pointer (some (a 1)))]))) ∧ Below w.heap.size w w' := by
  obtain ⟨W0, hW⟩ : ∃ W0, W0 = (((w.alloc (.cells #[.int .i64 da, .slice ad nn cap] 32)).alloc (.cells #[.int .i64 n, .int .i64 d] 37)).alloc (.cells #[.int .i64 0, .slice none 0 0] 32)) := ⟨_, rfl⟩
  have hb0 : Below w.heap.size w W0 := by rw [hW]; exact more_below (more_below (new_below _ _) _) _
  have hC : ∀ W, Below W0.heap.size W0 W → (W.cell? ⟨w.heap.size, 0, none⟩ = some (.int .i64 da) ∧ W.cell? ⟨w.heap.size, 1, none⟩ = some (.slice ad nn cap)) ∧ (W.cell? ⟨w.heap.size + 1, 0, none⟩ = some (.int .i64 n) ∧ W.cell? ⟨w.heap.size + 1, 1, none⟩ = some (.int .i64 d)) ∧ (W.cell? ⟨w.heap.size + 1 + 1, 0, none⟩ = some (.int .i64 0) ∧ W.cell? ⟨w.heap.size + 1 + 1, 1, none⟩ = some (.slice none 0 0)) ∧ W.frozen? ⟨w.heap.size + 1 + 1, 0, none⟩ = false ∧ W.frozen? ⟨w.heap.size + 1 + 1, 1, none⟩ = false := fun W hb => by
    rw [hW] at hb
    obtain ⟨q0, q1, _, _⟩ := res_past (below_chain (more_below (new_below (w.alloc (.cells #[.int .i64 da, .slice ad nn cap] 32)) (.cells #[.int .i64 n, .int .i64 d] 37)) (.cells #[.int .i64 0, .slice none 0 0] 32)) hb)
    obtain ⟨q2, q3, _, _⟩ := res_past (below_chain (new_below ((w.alloc (.cells #[.int .i64 da, .slice ad nn cap] 32)).alloc (.cells #[.int .i64 n, .int .i64 d] 37)) (.cells #[.int .i64 0, .slice none 0 0] 32)) hb)
    obtain ⟨q4, q5, q6, q7⟩ := res_past hb
    simp only [World.size_alloc] at q2 q3 q4 q5 q6 q7
    exact ⟨⟨q0, q1⟩, ⟨q2, q3⟩, ⟨q4, q5⟩, q6, q7⟩
  have hz0 : W0.heap.size = w.heap.size + 1 + 1 + 1 := by rw [hW]; simp
  have hda1 : 1 ≤ da := by have := hok.1; omega
  have hda6 : da ≤ 1000000 := by have := hok.2.1; omega
  have hg := GCD_any n da W0 (by omega) (by omega) (by omega) (by omega)
  have hgi : Int.gcd n (da : Int) = lf := by rw [hlf]; simp [Int.gcd]
  rw [hgi] at hg
  have hlp : 0 < lf := by rw [hlf]; exact Nat.gcd_pos_of_pos_right _ hda1
  have hlz : ¬ lf = 0 := by omega
  have hll : lf ≤ da := by rw [hlf]; exact Nat.gcd_le_right _ (by omega)
  have HW := Hid.mk' hW
  have HB0 := Hid.mk' hb0
  have HL := Hid.mk' (hl.later hb0)
  have HOK := Hid.mk' hok
  have HE : Hid (∀ W, Below W0.heap.size W0 W → W.cell? ⟨1, 0, none⟩ = some (.iface 199 (.pointer (some (a 1))))) := fun W hb => ((h.below hb0).below hb).c1
  have HC := Hid.mk' hC
  have HRT := Hid.mk' hrt
  have HLF := Hid.mk' hlf
  have HFIT := Hid.mk' hfit
  have HZ0 := Hid.mk' hz0
  obtain ⟨⟨k0, k1⟩, ⟨k2, k3⟩, _⟩ := hC W0 (Below.refl _ _)
  clear h hl hok hb0 hW hC hgi hrt hlf hfit hz0
  go_enter Tryd.func33, Tryd.ntmps33
  go_wp2_with fail
  rw [← HW.out]
  refine hg.mono ?_
  clear hg k0 k1 k2 k3
  rintro e w1 ⟨rfl, m1, hw1⟩
  have hb1 : Below W0.heap.size W0 w1 := by rw [hw1]; exact below_drewN (Below.refl _ _) _
  clear hw1
  obtain ⟨⟨k0, k1⟩, ⟨k2, k3⟩, _⟩ := HC.out w1 hb1
  have HB1 := Hid.mk' hb1
  clear hb1
  go_wp2_with fail
  clear k0 k1 k2 k3
  go_loopw [7, 27] (fun s i wr => ∃ k : Nat, k ≤ nn ∧ s = .int .i64 ((gcdTo d c k : Nat) : Int) ∧ i = .int .i64 k ∧ Hid (Below W0.heap.size W0 wr)) (fun _ i _ => nn - (intOf i).toNat)
  case atStart => exact ⟨0, by omega, rfl, rfl, HB1⟩
  case round =>
    clear HB1
    obtain ⟨k, hk, rfl, rfl, HB⟩ := hrel
    have hk0 : (0 : Int) ≤ (k : Int) := by omega
    have hgb := gcdTo_pos (d : Int) c (by omega) k
    obtain ⟨r, hr⟩ : ∃ r, gcdTo d c k = r := ⟨_, rfl⟩
    rw [hr] at hgb
    have hr1 : 1 ≤ r := hgb.1
    have hr2 : r ≤ 1073741824 := by have := hgb.2; omega
    clear hgb
    by_cases hlt : k < nn
    · have hkI : (k : Int) < (nn : Int) := by omega
      obtain ⟨b, o, rfl, y0, y1⟩ := LogAt.cellsOf (HL.out.later HB.out) hlt
      obtain ⟨_, _, hc0, hc1, _⟩ := (HOK.out.2.2.1 k hlt).2
      have hgc := GCD_any r (c k) (wr.alloc (.cells #[.int .i64 (p k), .int .i64 (c k)] 99)) (by omega) (by omega) (by omega) (by omega)
      have HBA := Hid.mk' (HB.out.alloc HB.out.size (.cells #[.int .i64 (p k), .int .i64 (c k)] 99))
      have HNX : Hid (((Int.gcd (r : Int) (c k) : Nat) : Int) = ((gcdTo d c (k + 1) : Nat) : Int)) := by
        show _ = ((Int.gcd (gcdTo d c k : Int) (c k) : Nat) : Int)
        rw [hr]
      rw [hr]
      clear hr
      go_wp2_with fail
      refine hgc.mono ?_
      clear hgc
      rintro e w2 ⟨rfl, m2, hw2⟩
      rw [HNX.out]
      go_wp2_with fail
      exact ⟨⟨k + 1, by omega, rfl, by go_num, below_drewN HBA.out _⟩, by simp [intOf]; omega⟩
    · obtain rfl : k = nn := by omega
      have hrr : r = rt := by rw [HRT.out]; exact hr.symm
      rw [hr, hrr]
      rw [hrr] at hr1 hr2
      have hrz : ¬ rt = 0 := by omega
      have hrd : rt ≤ d := by have h9 := (gcdTo_pos (d : Int) c (by omega) k).2; rw [hr, hrr] at h9; omega
      clear hr hrr
      obtain ⟨⟨k0, k1⟩, ⟨k2, k3⟩, ⟨k4, k5⟩, _⟩ := HC.out wr HB.out
      go_wp2_with fail
      go_quiet (fail)
      have hbq : Below W0.heap.size W0 (wr.drewN nq) := below_drewN HB.out _
      generalize wr.drewN nq = W2 at hbq ⊢
      clear k0 k1 k2 k3 k4 k5
      have hDq : wrap64 (wrap64 ((da : Int) / (lf : Int)) * wrap64 ((d : Int) / (rt : Int))) = ((da / lf * (d / rt) : Nat) : Int) := by
        rw [quo_nat30 (show da ≤ 1073741824 by omega), quo_nat30 hd1, ← Int.natCast_mul]
        have e1 : da / lf ≤ 1000000 := Nat.le_trans (Nat.div_le_self _ _) hda6
        have e2 : d / rt ≤ 1073741824 := Nat.le_trans (Nat.div_le_self _ _) hd1
        have e3 := Nat.mul_le_mul e1 e2
        generalize da / lf * (d / rt) = D at e3
        rw [w64 _ (by omega)]
      rw [hDq]
      clear hDq
      generalize hD : da / lf * (d / rt) = D at HFIT ⊢
      have HDD := Hid.mk' hD
      have hDm : D ≤ 1073741824000000 := by
        rw [← hD]
        exact Nat.mul_le_mul (Nat.le_trans (Nat.div_le_self _ _) hda6) (Nat.le_trans (Nat.div_le_self _ _) hd1)
      have hnum0 : n.tdiv (lf : Int) ≠ 0 := fun e => hnz (by
        have h9 : (lf : Int) ∣ n := Int.ofNat_dvd_left.2 (by rw [HLF.out]; exact Nat.gcd_dvd_left _ _)
        have := Int.mul_tdiv_cancel' h9
        rw [e, Int.mul_zero] at this
        exact this.symm)
      have hnumb : (n.tdiv (lf : Int)).natAbs ≤ 1073741824 := by
        rw [Int.natAbs_tdiv]
        exact Nat.le_trans (Nat.div_le_self _ _) (by omega)
      generalize hnum : n.tdiv (lf : Int) = num at hnum0 hnumb HFIT ⊢
      have HNUM := Hid.mk' hnum
      clear hD hnum
      have HBQ := Hid.mk' hbq
      obtain ⟨⟨k0, k1⟩, ⟨k2, k3⟩, ⟨k4, k5⟩, f4, f5⟩ := HC.out W2 hbq
      by_cases hbig : 1000000 < D
      · have hff : fits = false := by
          cases fits
          · rfl
          · have := (HFIT.out.1 rfl).1; omega
        have hbI : (1000000 : Int) < (D : Int) := by omega
        have ge := HE.out W2 hbq
        have HBT := Hid.mk' (below_chain HB0.out hbq)
        have hz0 := HZ0.out
        have hbs := hbq.size
        clear hbq HE
        go_wp2_with fail
        go_region
        all_goals
          go_wp2_with fail
          refine bodyPost_ret (v := .tuple #[.agg #[.int .i64 0, .slice none 0 0], .iface 199 (.pointer (some (a 1)))]) (by simp [results, Tryd.results33, go_sem, k4, k5]) rfl ⟨Or.inr ⟨hff, rfl⟩, ?_⟩
          exact (HBT.out.drew.setCell (by simp; omega) _).setCell (by simp; omega) _
      · have hbI : (D : Int) ≤ 1000000 := by omega
        obtain ⟨m, hm⟩ : ∃ m : Nat, num.natAbs = m := ⟨_, rfl⟩
        have hm1 : 1 ≤ m := by omega
        have hmz : ¬ m = 0 := by omega
        have hmb : m ≤ 1073741824 := by omega
        have hsz := size_any num W2 (by omega) (by omega)
        rw [hm] at hsz
        have HM := Hid.mk' hm
        clear hm
        go_wp2_with fail
        refine hsz.mono ?_
        clear hsz
        rintro e w5 ⟨rfl, hw5⟩
        rw [hw5]
        clear hw5
        obtain ⟨i0, hi, hz0', hz1, hz2⟩ := info_parts Tryd.infoTerm
        have HINF : Hid (Tryd.prog.info? 99 = some i0 ∧ i0.zero = some (.agg #[.int .i64 0, .int .i64 0]) ∧ i0.size = 2 ∧ i0.bytes = 16) := ⟨hi, hz0', hz1, hz2⟩
        clear hi hz0' hz1 hz2
        have HZ : Hid (∀ w6, W2.grownBy w6 none → Below W0.heap.size W0 w6) := fun w6 hg => hbq.grown hg hbq.size (fun j e => by cases e)
        clear hbq k2 k3 k4 k5 f4 f5 k0
        go_wp2_with (at_make; go_must (refine wpList_make_own _ rfl _ _ _ rfl W2.heap.size 99 i0 _ 2 Tryd.underlying30 HINF.out.1 HINF.out.2.1 HINF.out.2.2.1 _ _ _ k rfl rfl rfl (by rw [HINF.out.2.2.2]; omega) (by unfold maxLen; omega) (Nat.le_refl _) ?_; intro w6 hown hgrow; have HIS := Hid.mk' (inScl_start (d := (D : Int)) (p := p) (c := fun i => num * (c i).tdiv (rt : Int)) hown hgrow); have z1 := fun X => (HC.out (w6.alloc X) ((HZ.out w6 hgrow).alloc (HZ.out w6 hgrow).size X)).1.2; clear hown hgrow))
        clear z1 k1
        go_loopw [65] (fun i wr => ∃ j : Nat, j ≤ k ∧ i = .int .i64 j ∧ Hid (InScl W2 wr W2.heap.size w6.heap.size (D : Int) k p (fun i => num * (c i).tdiv (rt : Int)) j) ∧ Hid (∀ i, i < j → (num * (c i).tdiv (rt : Int)).natAbs ≤ 1099511627776)) (fun i _ => k - (intOf i).toNat)
        case atStart => exact ⟨0, by omega, rfl, HIS, (fun i hi => absurd hi (by omega))⟩
        case round =>
          clear HIS
          obtain ⟨j, hj, rfl, HO, HLE⟩ := hrel
          have hj0 : (0 : Int) ≤ (j : Int) := by omega
          have hbW := below_chain HBQ.out HO.out.below
          have HBW := Hid.mk' hbW
          by_cases hjk : j < k
          · have hjI : (j : Int) < (k : Int) := by omega
            obtain ⟨b, o, rfl, y0, y1⟩ := LogAt.cellsOf (HL.out.later hbW) hjk
            obtain ⟨_, _, hc0, hc1, _⟩ := (HOK.out.2.2.1 j hjk).2
            have hqb : ((c j).tdiv (rt : Int)).natAbs ≤ 1099511627776 := by
              rw [Int.natAbs_tdiv]
              exact Nat.le_trans (Nat.div_le_self _ _) (by omega)
            obtain ⟨q, hq⟩ : ∃ q, (c j).tdiv (rt : Int) = q := ⟨_, rfl⟩
            rw [hq] at hqb
            have hqI : -1099511627776 ≤ q ∧ q ≤ 1099511627776 := by omega
            have HPR : Hid ((num * q).natAbs = m * q.natAbs) := by show _ = _; rw [Int.natAbs_mul, HM.out]
            have x1 : ∀ X, (wr.alloc X).cell? ⟨w6.heap.size, 1, none⟩ = some (.slice (some ⟨W2.heap.size, 0, none⟩) j k) := fun X => (cell_past HO.out.o1 (new_below _ X)).2
            have x2 : ∀ X Y, ((wr.alloc X).alloc Y).cell? ⟨w6.heap.size, 1, none⟩ = some (.slice (some ⟨W2.heap.size, 0, none⟩) j k) := fun X Y => (cell_past (x1 X) (new_below _ Y)).2
            have HLAT : Hid (∀ X Y, InScl W2 ((wr.alloc X).alloc Y) W2.heap.size w6.heap.size (D : Int) k p (fun i => num * (c i).tdiv (rt : Int)) j) := fun X Y => (HO.out.later (new_below _ X)).later (new_below _ Y)
            have hsz := fun W => size_any q W (by omega) (by omega)
            have HQ := Hid.mk' hq
            by_cases hof : q.natAbs * m ≤ 1099511627776
            · have hbr : (q.natAbs : Int) ≤ 1099511627776 / (m : Int) := by
                rw [quo_most]
                have := (most_iff (m := q.natAbs) hm1).2 hof
                omega
              have hpb : -1099511627776 ≤ q * num ∧ q * num ≤ 1099511627776 := by
                have h9 := HPR.out
                rw [Nat.mul_comm] at h9
                have h10 : q * num = num * q := Int.mul_comm _ _
                omega
              clear hbW hqb
              go_wp2_with (first
                | (go_at_call 58; refine (hsz _).mono ?_; rintro e w8 ⟨rfl, hw8⟩; rw [hw8]; clear hw8)
                | (at_builtin; go_must (refine wpList_append_fits _ rfl _ _ _ rfl W2.heap.size 99 i0 2 Tryd.underlying30 HINF.out.1 HINF.out.2.2.1 W2.heap.size j k _ rfl (HLAT.out _ _).row ⟨wr.heap.size + 1, 0, none⟩ 1 1 [.int .i64 (p j), .int .i64 (q * num)] rfl rfl (fun q' u h => by have := two_new (wr.alloc (.cells #[.int .i64 (p j), .int .i64 (c j)] 99)) (.int .i64 (p j)) (.int .i64 (q * num)) 99 q' u h; simpa using this) (by simp [Value.oneCell']) (by omega) ?_; intro w7 hown hgrow; obtain ⟨q1, q2, HPU⟩ := (HLAT.out _ _).pushed hgrow (by rw [HQ.out, Int.mul_comm]; exact hown); have HP := Hid.mk' HPU; clear hown hgrow HPU)))
              exact ⟨⟨j + 1, by omega, by go_num, HP, (fun i hi => by
                rcases Nat.lt_or_ge i j with h | h
                · exact HLE.out i h
                · obtain rfl : i = j := by omega
                  rw [HQ.out, HPR.out, Nat.mul_comm]; exact hof)⟩, by simp [intOf]; omega⟩
            · have hbr : 1099511627776 / (m : Int) < (q.natAbs : Int) := by
                rw [quo_most]
                have := fun h => hof ((most_iff (m := q.natAbs) hm1).1 h)
                exact Int.ofNat_lt.2 (Nat.lt_of_not_le this)
              have hff : fits = false := by
                cases hx : fits
                · rfl
                · have h9 := (HFIT.out.1 hx).2 j hjk
                  rw [HQ.out, HPR.out, Nat.mul_comm] at h9
                  exact absurd h9 hof
              have ge := HE.out _ (below_chain hbW (new_below wr (.cells #[.int .i64 (p j), .int .i64 (c j)] 99)))
              obtain ⟨_, _, ⟨k4, k5⟩, f4, f5⟩ := HC.out _ (below_chain hbW (new_below wr (.cells #[.int .i64 (p j), .int .i64 (c j)] 99)))
              have HBT := Hid.mk' (below_chain HB0.out (below_chain hbW (new_below wr (.cells #[.int .i64 (p j), .int .i64 (c j)] 99))))
              clear hbW hqb HE
              go_wp2_with (go_at_call 58; refine (hsz _).mono ?_; rintro e w8 ⟨rfl, hw8⟩; rw [hw8]; clear hw8)
              go_region
              all_goals
                go_wp2_with fail
                refine bodyPost_ret (v := .tuple #[.agg #[.int .i64 0, .slice none 0 0], .iface 199 (.pointer (some (a 1)))]) (by simp [results, Tryd.results33, go_sem, k4, k5]) rfl ⟨Or.inr ⟨hff, rfl⟩, ?_⟩
                exact (HBT.out.drew.setCell (by simp; omega) _).setCell (by simp; omega) _
          · obtain rfl : j = k := by omega
            have y0 := HO.out.o0
            have y1 := HO.out.o1
            obtain ⟨_, _, ⟨k4, k5⟩, f4, f5⟩ := HC.out wr hbW
            have hq := HBQ.out.size
            have hz0 := HZ0.out
            have HZZ := Hid.mk' hz0
            have hft : fits = true := HFIT.out.2 ⟨by omega, HLE.out⟩
            clear hbW hz0
            go_wp2_with fail
            refine bodyPost_ret (v := .tuple #[.agg #[.int .i64 (D : Int), .slice (some ⟨W2.heap.size, 0, none⟩) j j], .nilIface]) (by simp [results, Tryd.results33, go_sem, k4, k5]) rfl ⟨Or.inl ⟨hft, .slice (some ⟨W2.heap.size, 0, none⟩) j j, by rw [HDD.out], ?_⟩, ?_⟩
            · have hz0 := HZZ.out
              have h1 := ownsRow_setCell_below HO.out.row (a := ⟨w.heap.size + 1 + 1, 0, none⟩) (by show w.heap.size + 1 + 1 < _; omega) (.int .i64 (D : Int))
              have h2 := ownsRow_setCell_below h1 (a := ⟨w.heap.size + 1 + 1, 1, none⟩) (by show w.heap.size + 1 + 1 < _; omega) (.slice (some ⟨W2.heap.size, 0, none⟩) j j)
              rw [HNUM.out]
              exact ownAt_of_row h2
            · exact ((below_chain HB0.out HBW.out).setCell (by simp; omega) _).setCell (by simp; omega) _
end Go.Proofs.YthknaphclijncaaDoor

/- logs.Scale at any logarithm and fraction. -/
namespace Go.Proofs.YthknaphclijncaaDoor
open Go.RowKit Go.Maps

theorem own_congr {w : World} {v : Value} {n : Nat} {p c p' c' : Nat → Int} (h : OwnAt w v n p c) (he : ∀ i, i < n → p i = p' i ∧ c i = c' i) : OwnAt w v n p' c' := by
  rcases h with h | ⟨g, cap, rfl, ht⟩
  · exact Or.inl h
  · exact Or.inr ⟨g, cap, rfl, fun i hi => by rw [← (he i hi).1, ← (he i hi).2]; exact ht i hi⟩
theorem said_zero {M : Nat} {l : List (Int × Int)} (hM : 0 < M) (h0 : ∀ e ∈ l, e.2 = 0) (a : Nat → Addr) (w : World) : SaidOf M l a w 1 (.slice none 0 0) .nilIface := by
  have hg : gList M (l.map Prod.snd) = M := by
    rw [← gList_zeros]
    have : (l.map Prod.snd).filter (fun x => !decide (x = 0)) = [] := by
      rw [List.filter_eq_nil_iff]
      intro x hx
      obtain ⟨e, he, rfl⟩ := List.mem_map.1 hx
      simp [h0 e he]
    rw [this]
    rfl
  have ho : overL M l = [] := by
    unfold overL
    rw [List.filter_eq_nil_iff]
    intro x hx
    obtain ⟨e, he, rfl⟩ := List.mem_map.1 hx
    simp [h0 e he]
  left
  rw [hg, ho, Nat.div_self hM]
  exact ⟨⟨by rw [Nat.div_self hM]; decide, fun e he => by rw [h0 e he]; simp⟩, rfl, rfl, Or.inl ⟨rfl, rfl⟩⟩
theorem pOf_at {l : List (Int × Int)} {i : Nat} {e : Int × Int} (h : l[i]? = some e) : pOf l i = e.1 ∧ cOf l i = e.2 := by
  unfold pOf cOf
  rw [List.getD_eq_getElem?_getD, h]
  exact ⟨rfl, rfl⟩

/-- scaled's answer. -/
theorem scaled_said (da d : Nat) (n : Int) (ad : Option Addr) (cap : Nat) (t : List (Int × Int)) (a : Nat → Addr) (w : World) (h : Errs w a) (hl : LogAt w (.slice ad t.length cap) t.length (pOf t) (cOf t)) (hok : OkLog da t.length (pOf t) (cOf t)) (hn0 : 0 < t.length) (hn : t.length ≤ 100) (h1 : -1073741824 ≤ n) (h2 : n ≤ 1073741824) (hnz : n ≠ 0) (hd0 : 1 ≤ d) (hd1 : d ≤ 1073741824) (hlow : Nat.gcd n.natAbs d = 1) :
    Calls Tryd.prog 33 #[.agg #[.int .i64 da, .slice ad t.length cap], .agg #[.int .i64 n, .int .i64 d]] w fun e w' => ∃ (dn : Int) (ad : Option Addr) (len cap : Nat) (er : Value), e = .returned (.tuple #[.agg #[.int .i64 dn, .slice ad len cap], er]) ∧ SaidOf (da * d) (scaleL n t) a w' dn (.slice ad len cap) er ∧ Below w.heap.size w w' := by
  have hcan := OkLog.canon (d := da) hok
  have hda : 0 < da := hcan.pos
  obtain ⟨lf, hlf⟩ : ∃ lf, lf = Nat.gcd n.natAbs da := ⟨_, rfl⟩
  obtain ⟨rt, hrt⟩ : ∃ rt, rt = gcdTo d (cOf t) t.length := ⟨_, rfl⟩
  have hrl : rt = gList d (t.map Prod.snd) := by rw [hrt, gcdTo_list _ _ _ (Nat.le_refl _), List.take_length, Int.natAbs_natCast]
  have hG : gList (da * d) ((scaleL n t).map Prod.snd) = lf * rt := by rw [scale_gcd hda hd0 hcan.one hlow, ← hlf, ← hrl]
  have hl1 : lf ∣ da := by rw [hlf]; exact Nat.gcd_dvd_right _ _
  have hl2 : lf ∣ n.natAbs := by rw [hlf]; exact Nat.gcd_dvd_left _ _
  have hr1 : rt ∣ d := by rw [hrl]; exact (gList_dvd _ _).1
  have hr2 : ∀ e ∈ t, rt ∣ e.2.natAbs := fun e he => by rw [hrl]; exact (gList_dvd _ _).2 _ (List.mem_map.2 ⟨e, he, rfl⟩)
  have hlp : 0 < lf := Nat.pos_of_dvd_of_pos hl1 hda
  have hrp : 0 < rt := Nat.pos_of_dvd_of_pos hr1 hd0
  have hden := scale_den hl1 hr1
  have hco : ∀ e ∈ t, (n * e.2).tdiv ((lf * rt : Nat) : Int) = n.tdiv (lf : Int) * e.2.tdiv (rt : Int) := fun e he => scale_coef hl2 (hr2 e he) hlp hrp
  have hcz : ∀ e ∈ t, n.tdiv (lf : Int) * e.2.tdiv (rt : Int) ≠ 0 := fun e he h0 => by
    rw [← hco e he] at h0
    have h3 : ((lf * rt : Nat) : Int) ∣ n * e.2 := by
      rw [Int.natCast_mul]
      exact Int.mul_dvd_mul (Int.ofNat_dvd_left.2 hl2) (Int.ofNat_dvd_left.2 (hr2 e he))
    have h4 := Int.mul_tdiv_cancel' h3
    rw [h0, Int.mul_zero] at h4
    rcases Int.mul_eq_zero.1 h4.symm with h5 | h5
    · exact hnz h5
    · exact hcan.nz e he h5
  have hov : overL (lf * rt) (scaleL n t) = t.map fun e => (e.1, n.tdiv (lf : Int) * e.2.tdiv (rt : Int)) := by
    unfold overL scaleL
    rw [List.map_map]
    have e1 : t.map ((fun e : Int × Int => (e.1, e.2.tdiv ((lf * rt : Nat) : Int))) ∘ fun e => (e.1, n * e.2)) = t.map fun e => (e.1, n.tdiv (lf : Int) * e.2.tdiv (rt : Int)) := List.map_congr_left fun e he => by
      show (e.1, (n * e.2).tdiv ((lf * rt : Nat) : Int)) = _
      rw [hco e he]
    rw [e1]
    refine List.filter_eq_self.2 fun x hx => ?_
    obtain ⟨e, he, rfl⟩ := List.mem_map.1 hx
    simpa using hcz e he
  have hfi : FitsL (da * d) (lf * rt) (scaleL n t) ↔ (da / lf * (d / rt) ≤ 1000000 ∧ ∀ i, i < t.length → (n.tdiv (lf : Int) * (cOf t i).tdiv (rt : Int)).natAbs ≤ 1099511627776) := by
    unfold FitsL
    rw [hden]
    constructor
    · rintro ⟨f1, f2⟩
      refine ⟨f1, fun i hi => ?_⟩
      have hm := List.getElem_mem hi
      have h3 := f2 (t[i].1, n * t[i].2) (List.mem_map.2 ⟨_, hm, rfl⟩)
      rw [hco _ hm] at h3
      rw [(pOf_at (List.getElem?_eq_getElem hi)).2]
      exact h3
    · rintro ⟨f1, f2⟩
      refine ⟨f1, fun x hx => ?_⟩
      obtain ⟨e, he, rfl⟩ := List.mem_map.1 hx
      obtain ⟨i, hi, rfl⟩ := List.getElem_of_mem he
      have h3 := f2 i hi
      rw [(pOf_at (List.getElem?_eq_getElem hi)).2] at h3
      show ((n * t[i].2).tdiv ((lf * rt : Nat) : Int)).natAbs ≤ _
      rw [hco _ he]
      exact h3
  obtain ⟨fits, hfits⟩ := bool_of (FitsL (da * d) (lf * rt) (scaleL n t))
  refine (scaled_any da d n ad t.length cap (pOf t) (cOf t) a w h hl hok hn0 hn h1 h2 hnz hd0 hd1 lf rt hlf hrt fits (hfits.trans hfi)).mono ?_
  rintro e w' ⟨hx, hb⟩
  rcases hx with ⟨hft, v, rfl, hv⟩ | ⟨hff, rfl⟩
  · obtain ⟨ad', m', cap', rfl⟩ := own_form hv
    refine ⟨_, ad', m', cap', .nilIface, rfl, Or.inl ?_, hb⟩
    rw [hG, hov, hden]
    refine ⟨hfits.1 hft, rfl, rfl, ?_⟩
    unfold ListAt
    rw [List.length_map]
    refine own_congr hv fun i hi => ?_
    have h3 := pOf_at (List.getElem?_eq_getElem hi)
    have h4 : (t.map fun e => (e.1, n.tdiv (lf : Int) * e.2.tdiv (rt : Int)))[i]? = some (t[i].1, n.tdiv (lf : Int) * t[i].2.tdiv (rt : Int)) := by rw [List.getElem?_map, List.getElem?_eq_getElem hi]; rfl
    have h5 := pOf_at h4
    rw [h3.1, h3.2, h5.1, h5.2]
    exact ⟨rfl, rfl⟩
  · refine ⟨0, none, 0, 0, _, rfl, Or.inr ?_, hb⟩
    rw [hG]
    refine ⟨fun hf => ?_, rfl, rfl, rfl⟩
    have := hfits.2 hf
    rw [hff] at this
    cases this
end Go.Proofs.YthknaphclijncaaDoor

/- The law's one, the document's OfFrac. -/
namespace Go.Proofs.YthknaphclijncaaDoor
open Go.RowKit

end Go.Proofs.YthknaphclijncaaDoor

/- The law LogsAdds. -/
namespace Go.Proofs.YthknaphclijncaaDoor
open Go.RowKit

theorem lcm_two {da db g : Nat} (hg : g = Int.gcd (da : Int) (db : Int)) (hda : 0 < da) : da / g * db = da * 1 * (db / g) ∧ da / g * db = db * 1 * (da / g) ∧ 0 < g := by
  have h1 : g = Nat.gcd da db := by rw [hg]; simp [Int.gcd]
  have hp : 0 < g := by rw [h1]; exact Nat.gcd_pos_of_pos_left _ hda
  obtain ⟨a, ha⟩ : g ∣ da := by rw [h1]; exact Nat.gcd_dvd_left _ _
  obtain ⟨b, hb⟩ : g ∣ db := by rw [h1]; exact Nat.gcd_dvd_right _ _
  clear hg h1
  have e1 : da / g = a := by rw [ha]; exact Nat.mul_div_cancel_left _ hp
  have e2 : db / g = b := by rw [hb]; exact Nat.mul_div_cancel_left _ hp
  rw [e1, e2]
  refine ⟨?_, ?_, hp⟩
  · rw [ha, hb]; grind
  · rw [hb]; grind

/-- Add's answer of two in form. -/
theorem Add_said (da db : Nat) (ad1 ad2 : Option Addr) (cap1 cap2 : Nat) (t1 t2 : List (Int × Int)) (a : Nat → Addr) (w : World) (h : Errs w a) (hl1 : LogAt w (.slice ad1 t1.length cap1) t1.length (pOf t1) (cOf t1)) (hl2 : LogAt w (.slice ad2 t2.length cap2) t2.length (pOf t2) (cOf t2))
    (hok1 : OkLog da t1.length (pOf t1) (cOf t1)) (hok2 : OkLog db t2.length (pOf t2) (cOf t2)) (hn : t1.length + t2.length ≤ 100) (g : Nat) (hg : g = Int.gcd (da : Int) (db : Int)) :
    Calls Tryd.prog 14 #[.agg #[.int .i64 da, .slice ad1 t1.length cap1], .agg #[.int .i64 db, .slice ad2 t2.length cap2]] w fun e w' => ∃ (l : List (Int × Int)) (dn : Int) (ad : Option Addr) (len cap : Nat) (er : Value), e = .returned (.tuple #[.agg #[.int .i64 dn, .slice ad len cap], er]) ∧ Rising l ∧ (∀ x, atL l x = atL t1 x * ((db / g : Nat) : Int) + atL t2 x * ((da / g : Nat) : Int)) ∧ l.length ≤ t1.length + t2.length ∧ SaidOf (da / g * db) l a w' dn (.slice ad len cap) er ∧ Below w.heap.size w w' := by
  refine (Add_any da db ad1 ad2 cap1 cap2 t1 t2 a w h hl1 hl2 hok1 hok2 (by omega) g hg).mono ?_
  rintro e w' ⟨⟨l, G, hr, hv, hG, hln, hx⟩, hb⟩
  rw [gcdL_list hr] at hG
  have hf : Fits ((da / g * db : Nat) : Int) G l ↔ FitsL (da / g * db) G l := by
    unfold Fits FitsL
    have : (((da / g * db : Nat) : Int) / (G : Int) ≤ 1000000) ↔ da / g * db / G ≤ 1000000 := by
      generalize da / g * db = D
      rw [show (D : Int) / (G : Int) = ((D / G : Nat) : Int) by simp]
      omega
    rw [this]
  rcases hx with ⟨hfit, v, rfl, hl⟩ | ⟨hfit, rfl⟩
  · obtain ⟨ad, m, cap, rfl⟩ := own_form hl
    refine ⟨l, _, ad, m, cap, .nilIface, rfl, hr, hv, hln, Or.inl ?_, hb⟩
    rw [hG]
    exact ⟨hf.1 hfit, by simp, rfl, hl⟩
  · refine ⟨l, 0, none, 0, 0, _, rfl, hr, hv, hln, Or.inr ?_, hb⟩
    rw [hG]
    exact ⟨fun h => hfit (hf.2 h), rfl, rfl, rfl⟩

/-- The document's sum of two in form. -/
theorem LogSum_two (da db g : Nat) (xv yv : Value) (ad1 ad2 : Option Addr) (cap1 cap2 : Nat) (t1 t2 : List (Int × Int)) (w : World) (hl1 : LogAt w (.slice ad1 t1.length cap1) t1.length (pOf t1) (cOf t1)) (hl2 : LogAt w (.slice ad2 t2.length cap2) t2.length (pOf t2) (cOf t2)) (hx : RatioAt w xv 1 1) (hy : RatioAt w yv 1 1)
    (hok1 : OkLog da t1.length (pOf t1) (cOf t1)) (hok2 : OkLog db t2.length (pOf t2) (cOf t2)) (hn1 : t1.length ≤ 30) (hn2 : t2.length ≤ 30) (hg : g = Int.gcd (da : Int) (db : Int)) :
    Calls Tryd.prog 43 #[.agg #[.int .i64 da, .slice ad1 t1.length cap1], xv, .agg #[.int .i64 db, .slice ad2 t2.length cap2], yv] w fun e w' => ∃ (l : List (Int × Int)) (dn : Int) (ad : Option Addr) (len cap : Nat) (code : Int), e = .returned (.tuple #[.agg #[.int .i64 dn, .slice ad len cap], .int .i64 code]) ∧ Rising l ∧ (∀ x, atL l x = atL t1 x * ((db / g : Nat) : Int) + atL t2 x * ((da / g : Nat) : Int)) ∧ ToldOf (da / g * db) l w' dn (.slice ad len cap) code ∧ Below w.heap.size w w' := by
  have hda := hok1.1
  have hda6 := hok1.2.1
  have hdb := hok2.1
  have hdb6 := hok2.2.1
  obtain ⟨e1, e2, hgp⟩ := lcm_two hg (by omega)
  have q1 : db / g ≤ 1000000 := Nat.le_trans (Nat.div_le_self _ _) (by omega)
  have q2 : da / g ≤ 1000000 := Nat.le_trans (Nat.div_le_self _ _) (by omega)
  have hM0 : 0 < da / g * db := by
    refine Nat.mul_pos (Nat.div_pos (Nat.le_of_dvd (by omega) ?_) hgp) (by omega)
    rw [hg, show Int.gcd (da : Int) (db : Int) = Nat.gcd da db by simp [Int.gcd]]
    exact Nat.gcd_dvd_left _ _
  have hMb : da / g * db ≤ 1000000 * 1000000 := Nat.mul_le_mul q2 (by omega)
  have p4 : (1000000 : Nat) ^ 4 = 1000000000000000000000000 := by decide
  have pc1 := okLog_pc hok1
  have pc2 := okLog_pc hok2
  have f1 : ((1 : Int) * ((db / g : Nat) : Int)).natAbs ≤ 1000000 := by rw [Int.one_mul, Int.natAbs_natCast]; exact q1
  have f2 : ((1 : Int) * ((da / g : Nat) : Int)).natAbs ≤ 1000000 := by rw [Int.one_mul, Int.natAbs_natCast]; exact q2
  have s1 : ∀ x k, k ≤ t1.length → ((1 : Int) * ((db / g : Nat) : Int) * sumAt (pOf t1) (cOf t1) x k).natAbs ≤ 1000000 * (30 * 1099511627776) := fun x k hk => mul_bound f1 (Nat.le_trans (sumAt_le pc1 x k hk) (Nat.mul_le_mul_right _ (by omega)))
  have s2 : ∀ x k, k ≤ t2.length → ((1 : Int) * ((da / g : Nat) : Int) * sumAt (pOf t2) (cOf t2) x k).natAbs ≤ 1000000 * (30 * 1099511627776) := fun x k hk => mul_bound f2 (Nat.le_trans (sumAt_le pc2 x k hk) (Nat.mul_le_mul_right _ (by omega)))
  refine (LogSum_any (da / g * db) da db 1 1 (db / g) (da / g) 1 1 xv yv ad1 ad2 t1.length t2.length cap1 cap2 (pOf t1) (cOf t1) (pOf t2) (cOf t2) 4 w hl1 hl2 hx hy e1 e2 hM0 hn1 hn2 pc1 pc2 (by omega) (by omega) (by rw [p4]; decide) (by rw [p4]; decide)
    (fun i hi => by rw [p4]; exact Nat.lt_of_le_of_lt (mul_bound f1 (b := 1099511627776) (by have := pc1 i hi; omega)) (by decide)) (fun i hi => by rw [p4]; exact Nat.lt_of_le_of_lt (mul_bound f2 (b := 1099511627776) (by have := pc2 i hi; omega)) (by decide))
    (fun x k hk => by rw [p4]; exact Nat.lt_of_le_of_lt (s1 x k hk) (by decide)) (fun x k hk => by rw [p4]; exact Nat.lt_of_le_of_lt (Nat.le_trans (Int.natAbs_add_le _ _) (Nat.add_le_add (s1 x t1.length (Nat.le_refl _)) (s2 x k hk))) (by decide)) (by rw [p4]; omega) (by decide) (by decide)).mono ?_
  rintro e w' ⟨l, dn, ad, len, cap, code, rfl, hr, hv, _, ht, hb⟩
  have r1 : Rising t1 := (show OkLog (da : Int) t1.length (pOf t1) (cOf t1) from hok1).rising
  have r2 : Rising t2 := (show OkLog (db : Int) t2.length (pOf t2) (cOf t2) from hok2).rising
  refine ⟨l, dn, ad, len, cap, code, rfl, hr, fun x => ?_, ht, hb⟩
  rw [hv, sumAt_all r1, sumAt_all r2, Int.one_mul, Int.one_mul, Int.mul_comm, Int.mul_comm ((da / g : Nat) : Int)]
end Go.Proofs.YthknaphclijncaaDoor

/- The law LogsAdds, walked. -/
namespace Go.Proofs.YthknaphclijncaaDoor
open Go.RowKit

theorem own_set {w : World} {v : Value} {n : Nat} {p c : Nat → Int} {B : Nat} {ad : Option Addr} {l cap : Nat} {x y : Value} (h : OwnAt w v n p c) (hx : w.cell? ⟨B, 1, none⟩ = some (.slice ad l cap)) : OwnAt ((w.setCell ⟨B, 0, none⟩ x).setCell ⟨B, 1, none⟩ y) v n p c := by
  rcases h with h | ⟨g, cap', rfl, ht⟩
  · exact Or.inl h
  · refine Or.inr ⟨g, cap', rfl, fun i hi => ?_⟩
    have hne : B ≠ g := fun e => by
      have h1 := (ht 0 (by omega)).2
      rw [← e] at h1
      simp only [Nat.zero_mul, Nat.zero_add] at h1
      rw [hx] at h1
      cases h1
    constructor
    · rw [World.cell?_setCell_far _ _ _ _ hne, World.cell?_setCell_far _ _ _ _ hne]; exact (ht i hi).1
    · rw [World.cell?_setCell_far _ _ _ _ hne, World.cell?_setCell_far _ _ _ _ hne]; exact (ht i hi).2
theorem SaidOf.set {M : Nat} {l : List (Int × Int)} {a : Nat → Addr} {w : World} {dn : Int} {v er : Value} {B : Nat} {ad : Option Addr} {n cap : Nat} {x y : Value} (ht : SaidOf M l a w dn v er) (hx : w.cell? ⟨B, 1, none⟩ = some (.slice ad n cap)) : SaidOf M l a ((w.setCell ⟨B, 0, none⟩ x).setCell ⟨B, 1, none⟩ y) dn v er := by
  rcases ht with ⟨h1, h2, h3, h4⟩ | h
  · exact Or.inl ⟨h1, h2, h3, own_set h4 hx⟩
  · exact Or.inr h
theorem ToldOf.set {M : Nat} {l : List (Int × Int)} {w : World} {dn code : Int} {v : Value} {B : Nat} {ad : Option Addr} {n cap : Nat} {x y : Value} (ht : ToldOf M l w dn v code) (hx : w.cell? ⟨B, 1, none⟩ = some (.slice ad n cap)) : ToldOf M l ((w.setCell ⟨B, 0, none⟩ x).setCell ⟨B, 1, none⟩ y) dn v code := by
  rcases ht with ⟨h1, h2, h3, h4⟩ | h
  · exact Or.inl ⟨h1, h2, h3, own_set h4 hx⟩
  · exact Or.inr h
/-- A logarithm's box, ahead of its store. -/
structure NewBoxL (W0 W : World) (B : Nat) : Prop where
  c0 : W.cell? ⟨B, 0, none⟩ = some (.int .i64 0)
  c1 : W.cell? ⟨B, 1, none⟩ = some (.slice none 0 0)
  f0 : W.frozen? ⟨B, 0, none⟩ = false
  f1 : W.frozen? ⟨B, 1, none⟩ = false
  hB : W0.heap.size ≤ B
theorem NewBoxL.later {W0 W W' : World} {B : Nat} (h : NewBoxL W0 W B) (hb : Below W.heap.size W W') : NewBoxL W0 W' B :=
  ⟨(cell_past h.c0 hb).2, (cell_past h.c1 hb).2, (frozen_past h.c0 h.f0 hb).2, (frozen_past h.c1 h.f1 hb).2, h.hB⟩
theorem newBoxL_of {W0 W W' : World} (h : Below W0.heap.size W0 W) (hb : Below (W.alloc (.cells #[.int .i64 0, .slice none 0 0] 32)).heap.size (W.alloc (.cells #[.int .i64 0, .slice none 0 0] 32)) W') : NewBoxL W0 W' W.heap.size := by
  obtain ⟨c0, c1, f0, f1⟩ := res_past hb
  exact ⟨c0, c1, f0, f1, h.size⟩
/-- The program's answer in its box. -/
structure SaidBox (W0 W : World) (B : Nat) (M : Nat) (l : List (Int × Int)) (a : Nat → Addr) (er : Value) : Prop where
  below : Below W0.heap.size W0 W
  box : ∃ dn ad n cap, W.cell? ⟨B, 0, none⟩ = some (.int .i64 dn) ∧ W.cell? ⟨B, 1, none⟩ = some (.slice ad n cap) ∧ SaidOf M l a W dn (.slice ad n cap) er
theorem saidBox_late {W0 W : World} {M : Nat} {l : List (Int × Int)} {a : Nat → Addr} {er : Value} {dn : Int} {ad : Option Addr} {n cap : Nat} (h : Below W0.heap.size W0 W) (hs : SaidOf M l a W dn (.slice ad n cap) er) : SaidBox W0 (W.alloc (.cells #[.int .i64 dn, .slice ad n cap] 32)) W.heap.size M l a er :=
  ⟨more_below h _, dn, ad, n, cap, by rw [World.cell?_alloc_at _ _ _ _ rfl]; rfl, by rw [World.cell?_alloc_at _ _ _ _ rfl]; rfl, hs.later (new_below _ _)⟩
theorem saidBox_soon {W0 W : World} {B M : Nat} {l : List (Int × Int)} {a : Nat → Addr} {er : Value} {dn : Int} {ad : Option Addr} {n cap : Nat} (h : Below W0.heap.size W0 W) (hs : SaidOf M l a W dn (.slice ad n cap) er) (hn : NewBoxL W0 W B) : SaidBox W0 ((W.setCell ⟨B, 0, none⟩ (.int .i64 dn)).setCell ⟨B, 1, none⟩ (.slice ad n cap)) B M l a er :=
  ⟨setB_below h hn.hB _ _, dn, ad, n, cap, by rw [World.cell?_setCell_other _ _ _ _ (by simp)]; exact World.cell?_setCell_same _ _ _ hn.c0, World.cell?_setCell_same _ _ _ (by rw [World.cell?_setCell_other _ _ _ _ (by simp)]; exact hn.c1), hs.set hn.c1⟩
/-- The document's answer in its box. -/
structure ToldBox (W0 W : World) (B : Nat) (M : Nat) (l : List (Int × Int)) (code : Int) : Prop where
  below : Below W0.heap.size W0 W
  box : ∃ dn ad n cap, W.cell? ⟨B, 0, none⟩ = some (.int .i64 dn) ∧ W.cell? ⟨B, 1, none⟩ = some (.slice ad n cap) ∧ ToldOf M l W dn (.slice ad n cap) code
theorem toldBox_soon {W0 W : World} {B M : Nat} {l : List (Int × Int)} {code dn : Int} {ad : Option Addr} {n cap : Nat} (h : Below W0.heap.size W0 W) (hs : ToldOf M l W dn (.slice ad n cap) code) (hn : NewBoxL W0 W B) : ToldBox W0 ((W.setCell ⟨B, 0, none⟩ (.int .i64 dn)).setCell ⟨B, 1, none⟩ (.slice ad n cap)) B M l code :=
  ⟨setB_below h hn.hB _ _, dn, ad, n, cap, by rw [World.cell?_setCell_other _ _ _ _ (by simp)]; exact World.cell?_setCell_same _ _ _ hn.c0, World.cell?_setCell_same _ _ _ (by rw [World.cell?_setCell_other _ _ _ _ (by simp)]; exact hn.c1), hs.set hn.c1⟩

theorem own_logAt {w : World} {v : Value} {n : Nat} {p c : Nat → Int} (h : (v = .slice none 0 0 ∧ n = 0) ∨ ∃ g cap, v = .slice (some ⟨g, 0, none⟩) n cap ∧ TermsAt w g 0 n p c) : ∃ ad cap, v = .slice ad n cap ∧ LogAt w v n p c := by
  rcases h with ⟨rfl, rfl⟩ | ⟨g, cap, rfl, ht⟩
  · exact ⟨none, 0, rfl, Or.inl ⟨none, 0, rfl, rfl⟩⟩
  · rcases Nat.eq_zero_or_pos n with rfl | hn
    · exact ⟨_, cap, rfl, Or.inl ⟨_, cap, rfl, rfl⟩⟩
    · exact ⟨_, cap, rfl, Or.inr ⟨g, 0, cap, rfl, hn, ht⟩⟩
/-- What the law's boxes hold. -/
structure TwoLogs (w : World) (a : Nat → Addr) (da db : Int) (s1 s2 : Value) (n1 n2 : Nat) (p1 c1 p2 c2 : Nat → Int) (W : World) : Prop where
  errs : Errs W a
  log1 : LogAt W s1 n1 p1 c1
  log2 : LogAt W s2 n2 p2 c2
  x0 : W.cell? ⟨w.heap.size, 0, none⟩ = some (.int .i64 da)
  x1 : W.cell? ⟨w.heap.size, 1, none⟩ = some s1
  y0 : W.cell? ⟨w.heap.size + 1, 0, none⟩ = some (.int .i64 db)
  y1 : W.cell? ⟨w.heap.size + 1, 1, none⟩ = some s2
  below : Below w.heap.size w W
theorem twoLogs {w W : World} {a : Nat → Addr} {da db : Int} {ad1 ad2 : Option Addr} {m1 m2 cap1 cap2 n1 n2 : Nat} {p1 c1 p2 c2 : Nat → Int} (h : Errs w a) (hl1 : LogAt w (.slice ad1 m1 cap1) n1 p1 c1) (hl2 : LogAt w (.slice ad2 m2 cap2) n2 p2 c2)
    (hb : Below ((w.alloc (.cells #[.int .i64 da, .slice ad1 m1 cap1] 32)).alloc (.cells #[.int .i64 db, .slice ad2 m2 cap2] 32)).heap.size ((w.alloc (.cells #[.int .i64 da, .slice ad1 m1 cap1] 32)).alloc (.cells #[.int .i64 db, .slice ad2 m2 cap2] 32)) W) : TwoLogs w a da db (.slice ad1 m1 cap1) (.slice ad2 m2 cap2) n1 n2 p1 c1 p2 c2 W := by
  have h0 := below_chain (more_below (new_below w (.cells #[.int .i64 da, .slice ad1 m1 cap1] 32)) (.cells #[.int .i64 db, .slice ad2 m2 cap2] 32)) hb
  obtain ⟨q0, q1, _, _⟩ := res_past (below_chain (new_below (w.alloc (.cells #[.int .i64 da, .slice ad1 m1 cap1] 32)) (.cells #[.int .i64 db, .slice ad2 m2 cap2] 32)) hb)
  obtain ⟨q2, q3, _, _⟩ := res_past hb
  simp only [World.size_alloc] at q2 q3
  exact ⟨h.below h0, hl1.later h0, hl2.later h0, q0, q1, q2, q3, h0⟩

end Go.Proofs.YthknaphclijncaaDoor

/- logs.Scale, walked. -/
namespace Go.Proofs.YthknaphclijncaaDoor
open Go.RowKit Go.Maps

/-- What Scale's boxes hold. -/
theorem scale_boxes {w W : World} {x0 y0 y1 : Value} {ad : Option Addr} {nn cap : Nat} (hb : Below (((w.alloc (.cells #[x0, .slice ad nn cap] 32)).alloc (.cells #[y0, y1] 37)).alloc (.cells #[.int .i64 0, .slice none 0 0] 32)).heap.size (((w.alloc (.cells #[x0, .slice ad nn cap] 32)).alloc (.cells #[y0, y1] 37)).alloc (.cells #[.int .i64 0, .slice none 0 0] 32)) W) :
    (W.cell? ⟨w.heap.size, 0, none⟩ = some x0 ∧ W.cell? ⟨w.heap.size, 1, none⟩ = some (.slice ad nn cap)) ∧ (W.cell? ⟨w.heap.size + 1, 0, none⟩ = some y0 ∧ W.cell? ⟨w.heap.size + 1, 1, none⟩ = some y1) ∧ (W.cell? ⟨w.heap.size + 1 + 1, 0, none⟩ = some (.int .i64 0) ∧ W.cell? ⟨w.heap.size + 1 + 1, 1, none⟩ = some (.slice none 0 0)) ∧ W.frozen? ⟨w.heap.size + 1 + 1, 0, none⟩ = false ∧ W.frozen? ⟨w.heap.size + 1 + 1, 1, none⟩ = false := by
  obtain ⟨q0, q1, _, _⟩ := res_past (below_chain (more_below (new_below (w.alloc (.cells #[x0, .slice ad nn cap] 32)) (.cells #[y0, y1] 37)) (.cells #[.int .i64 0, .slice none 0 0] 32)) hb)
  obtain ⟨q2, q3, _, _⟩ := res_past (below_chain (new_below ((w.alloc (.cells #[x0, .slice ad nn cap] 32)).alloc (.cells #[y0, y1] 37)) (.cells #[.int .i64 0, .slice none 0 0] 32)) hb)
  obtain ⟨q4, q5, q6, q7⟩ := res_past hb
  simp only [World.size_alloc] at q2 q3 q4 q5 q6 q7
  exact ⟨⟨q0, q1⟩, ⟨q2, q3⟩, ⟨q4, q5⟩, q6, q7⟩

set_option maxRecDepth 100000 in
set_option maxHeartbeats 2000000 in
/-- Scale where the logarithm is not in form. -/
theorem Scale_bad (da fn fd : Int) (ad : Option Addr) (nn cap : Nat) (p c : Nat → Int) (a : Nat → Addr) (w : World) (h : Errs w a) (hl : LogAt w (.slice ad nn cap) nn p c) (hn : nn ≤ 1000000) (hbad : ¬ OkLog da nn p c) :
    Calls Tryd.prog 12 #[.agg #[.int .i64 da, .slice ad nn cap], .agg #[.int .i64 fn, .int .i64 fd]] w fun e w' => e = .returned (.tuple #[.agg #[.int .i64 0, .slice none 0 0], .iface 199 (.pointer (some (a 2)))]) ∧ Below w.heap.size w w' := by
  obtain ⟨W0, hW⟩ : ∃ W0, W0 = (((w.alloc (.cells #[.int .i64 da, .slice ad nn cap] 32)).alloc (.cells #[.int .i64 fn, .int .i64 fd] 37)).alloc (.cells #[.int .i64 0, .slice none 0 0] 32)) := ⟨_, rfl⟩
  have hb0 : Below w.heap.size w W0 := by rw [hW]; exact more_below (more_below (new_below _ _) _) _
  have HC : Hid (∀ W, Below W0.heap.size W0 W → _) := fun W hb => scale_boxes (by rw [hW] at hb; exact hb)
  have hv := Valid_log da _ nn p c a false ⟨(fun e => by cases e), (fun e => absurd e hbad)⟩ W0 (h.below hb0) (hl.later hb0) hn
  simp only [shapeErr] at hv
  obtain ⟨⟨k0, k1⟩, _⟩ := HC.out W0 (Below.refl _ _)
  have HW := Hid.mk' hW
  have HB0 := Hid.mk' hb0
  clear h hl hb0 hW hbad
  go_enter Tryd.func12, Tryd.ntmps12
  go_wp2_with fail
  rw [← HW.out]
  refine hv.mono ?_
  clear hv k0 k1
  rintro e w1 ⟨rfl, hb1⟩
  obtain ⟨_, _, ⟨r0, r1⟩, f0, f1⟩ := HC.out w1 hb1
  have HB1 := Hid.mk' (below_chain HB0.out hb1)
  clear hb1
  go_wp2_with fail
  refine bodyPost_ret (v := .tuple #[.agg #[.int .i64 0, .slice none 0 0], .iface 199 (.pointer (some (a 2)))]) (by simp [results, Tryd.results12, go_sem, r0, r1]) rfl ⟨rfl, (HB1.out.setCell (by simp; omega) _).setCell (by simp; omega) _⟩

set_option maxRecDepth 100000 in
set_option maxHeartbeats 4000000 in
/-- Scale where the fraction is too great. -/
theorem Scale_far (da fn fd : Int) (ad : Option Addr) (nn cap : Nat) (p c : Nat → Int) (a : Nat → Addr) (w : World) (h : Errs w a) (hl : LogAt w (.slice ad nn cap) nn p c) (hn : nn ≤ 1000000) (hok : OkLog da nn p c) (hfar : fd < 1 ∨ 1073741824 < fd ∨ fn < -1073741824 ∨ 1073741824 < fn) :
    Calls Tryd.prog 12 #[.agg #[.int .i64 da, .slice ad nn cap], .agg #[.int .i64 fn, .int .i64 fd]] w fun e w' => e = .returned (.tuple #[.agg #[.int .i64 0, .slice none 0 0], .iface 199 (.pointer (some (a 2)))]) ∧ Below w.heap.size w w' := by
  obtain ⟨W0, hW⟩ : ∃ W0, W0 = (((w.alloc (.cells #[.int .i64 da, .slice ad nn cap] 32)).alloc (.cells #[.int .i64 fn, .int .i64 fd] 37)).alloc (.cells #[.int .i64 0, .slice none 0 0] 32)) := ⟨_, rfl⟩
  have hb0 : Below w.heap.size w W0 := by rw [hW]; exact more_below (more_below (new_below _ _) _) _
  have HC : Hid (∀ W, Below W0.heap.size W0 W → _) := fun W hb => scale_boxes (by rw [hW] at hb; exact hb)
  have HE : Hid (∀ W, Below W0.heap.size W0 W → W.cell? ⟨0, 0, none⟩ = some (.iface 199 (.pointer (some (a 2))))) := fun W hb => ((h.below hb0).below hb).c2
  have hv := Valid_log da _ nn p c a true ⟨fun _ => hok, fun _ => rfl⟩ W0 (h.below hb0) (hl.later hb0) hn
  simp only [shapeErr] at hv
  obtain ⟨⟨k0, k1⟩, _⟩ := HC.out W0 (Below.refl _ _)
  have HW := Hid.mk' hW
  have HB0 := Hid.mk' hb0
  clear h hl hb0 hW hok
  by_cases g1 : fd < 1
  · go_enter Tryd.func12, Tryd.ntmps12
    go_wp2_with fail
    rw [← HW.out]
    refine hv.mono ?_
    clear hv k0 k1
    rintro e w1 ⟨rfl, hb1⟩
    obtain ⟨_, ⟨k2, k3⟩, ⟨r0, r1⟩, f0, f1⟩ := HC.out w1 hb1
    have ge := HE.out w1 hb1
    have HB1 := Hid.mk' (below_chain HB0.out hb1)
    clear hb1
    go_wp2_with fail
    go_region
    all_goals
      go_wp2_with fail
      refine bodyPost_ret (v := .tuple #[.agg #[.int .i64 0, .slice none 0 0], .iface 199 (.pointer (some (a 2)))]) (by simp [results, Tryd.results12, go_sem, r0, r1]) rfl ⟨rfl, (HB1.out.drew.setCell (by simp; omega) _).setCell (by simp; omega) _⟩
  · by_cases g2 : 1073741824 < fd
    · go_enter Tryd.func12, Tryd.ntmps12
      go_wp2_with fail
      rw [← HW.out]
      refine hv.mono ?_
      clear hv k0 k1
      rintro e w1 ⟨rfl, hb1⟩
      obtain ⟨_, ⟨k2, k3⟩, ⟨r0, r1⟩, f0, f1⟩ := HC.out w1 hb1
      have ge := HE.out w1 hb1
      have HB1 := Hid.mk' (below_chain HB0.out hb1)
      clear hb1
      go_wp2_with fail
      go_region
      all_goals
        go_wp2_with fail
        refine bodyPost_ret (v := .tuple #[.agg #[.int .i64 0, .slice none 0 0], .iface 199 (.pointer (some (a 2)))]) (by simp [results, Tryd.results12, go_sem, r0, r1]) rfl ⟨rfl, (HB1.out.drew.setCell (by simp; omega) _).setCell (by simp; omega) _⟩
    · by_cases g3 : fn < -1073741824
      · go_enter Tryd.func12, Tryd.ntmps12
        go_wp2_with fail
        rw [← HW.out]
        refine hv.mono ?_
        clear hv k0 k1
        rintro e w1 ⟨rfl, hb1⟩
        obtain ⟨_, ⟨k2, k3⟩, ⟨r0, r1⟩, f0, f1⟩ := HC.out w1 hb1
        have ge := HE.out w1 hb1
        have HB1 := Hid.mk' (below_chain HB0.out hb1)
        clear hb1
        go_wp2_with fail
        go_region
        all_goals
          go_wp2_with fail
          refine bodyPost_ret (v := .tuple #[.agg #[.int .i64 0, .slice none 0 0], .iface 199 (.pointer (some (a 2)))]) (by simp [results, Tryd.results12, go_sem, r0, r1]) rfl ⟨rfl, (HB1.out.drew.setCell (by simp; omega) _).setCell (by simp; omega) _⟩
      · have g4 : 1073741824 < fn := by omega
        go_enter Tryd.func12, Tryd.ntmps12
        go_wp2_with fail
        rw [← HW.out]
        refine hv.mono ?_
        clear hv k0 k1
        rintro e w1 ⟨rfl, hb1⟩
        obtain ⟨_, ⟨k2, k3⟩, ⟨r0, r1⟩, f0, f1⟩ := HC.out w1 hb1
        have ge := HE.out w1 hb1
        have HB1 := Hid.mk' (below_chain HB0.out hb1)
        clear hb1
        go_wp2_with fail
        go_region
        all_goals
          go_wp2_with fail
          refine bodyPost_ret (v := .tuple #[.agg #[.int .i64 0, .slice none 0 0], .iface 199 (.pointer (some (a 2)))]) (by simp [results, Tryd.results12, go_sem, r0, r1]) rfl ⟨rfl, (HB1.out.drew.setCell (by simp; omega) _).setCell (by simp; omega) _⟩

set_option maxRecDepth 100000 in
set_option maxHeartbeats 4000000 in
/-- Scale's answer. -/
theorem Scale_said (da fd : Nat) (fn : Int) (ad : Option Addr) (cap : Nat) (t : List (Int × Int)) (a : Nat → Addr) (w : World) (h : Errs w a) (hl : LogAt w (.slice ad t.length cap) t.length (pOf t) (cOf t)) (hok : OkLog da t.length (pOf t) (cOf t)) (hn : t.length ≤ 100) (h1 : -1073741824 ≤ fn) (h2 : fn ≤ 1073741824) (hd0 : 1 ≤ fd) (hd1 : fd ≤ 1073741824) (g : Nat) (hg : g = Nat.gcd fn.natAbs fd) :
    Calls Tryd.prog 12 #[.agg #[.int .i64 da, .slice ad t.length cap], .agg #[.int .i64 fn, .int .i64 fd]] w fun e w' => ∃ (dn : Int) (ad : Option Addr) (len cap : Nat) (er : Value), e = .returned (.tuple #[.agg #[.int .i64 dn, .slice ad len cap], er]) ∧ SaidOf (da * (fd / g)) (scaleL (fn.tdiv (g : Int)) t) a w' dn (.slice ad len cap) er ∧ Below w.heap.size w w' := by
  obtain ⟨hg1, hg2, hg3, hg4, hg5, hg6⟩ := low_parts (n := fn) hd0
  rw [← hg] at hg1 hg2 hg3 hg4 hg5 hg6
  have hda : 0 < da := (OkLog.canon (d := da) hok).pos
  have hM0 : 0 < da * (fd / g) := Nat.mul_pos hda hg6
  have hz : fn = 0 ∨ t.length = 0 → SaidOf (da * (fd / g)) (scaleL (fn.tdiv (g : Int)) t) a w 1 (.slice none 0 0) .nilIface := fun hz => said_zero hM0 (fun e he => by
    obtain ⟨f, hf, rfl⟩ := List.mem_map.1 he
    rcases hz with hz | hz
    · show fn.tdiv (g : Int) * f.2 = 0
      rw [hz]; simp
    · rw [List.length_eq_zero_iff.1 hz] at hf
      cases hf) a w
  obtain ⟨W0, hW⟩ : ∃ W0, W0 = (((w.alloc (.cells #[.int .i64 da, .slice ad t.length cap] 32)).alloc (.cells #[.int .i64 fn, .int .i64 fd] 37)).alloc (.cells #[.int .i64 0, .slice none 0 0] 32)) := ⟨_, rfl⟩
  have hb0 : Below w.heap.size w W0 := by rw [hW]; exact more_below (more_below (new_below _ _) _) _
  have HC : Hid (∀ W, Below W0.heap.size W0 W → _) := fun W hb => scale_boxes (by rw [hW] at hb; exact hb)
  have hv := Valid_log da _ t.length (pOf t) (cOf t) a true ⟨fun _ => hok, fun _ => rfl⟩ W0 (h.below hb0) (hl.later hb0) (by omega)
  simp only [shapeErr] at hv
  have hlo : ∀ W, Calls Tryd.prog 34 #[.int .i64 fn, .int .i64 fd] W fun e w' => e = .returned (.agg #[.int .i64 (fn.tdiv (g : Int)), .int .i64 ((fd / g : Nat) : Int)]) ∧ Below W.heap.size W w' := fun W => lowest_any fn fd W h1 h2 hd0 hd1 g hg
  have hsc : ∀ W, Below W0.heap.size W0 W → 0 < t.length → fn ≠ 0 → Calls Tryd.prog 33 #[.agg #[.int .i64 da, .slice ad t.length cap], .agg #[.int .i64 (fn.tdiv (g : Int)), .int .i64 ((fd / g : Nat) : Int)]] W fun e w' => ∃ (dn : Int) (ad : Option Addr) (len cap : Nat) (er : Value), e = .returned (.tuple #[.agg #[.int .i64 dn, .slice ad len cap], er]) ∧ SaidOf (da * (fd / g)) (scaleL (fn.tdiv (g : Int)) t) a w' dn (.slice ad len cap) er ∧ Below W.heap.size W w' := fun W hb hp hf => by
    have hq : (fn.tdiv (g : Int)).natAbs ≤ fn.natAbs := by rw [hg5]; exact Nat.div_le_self _ _
    refine scaled_said da (fd / g) (fn.tdiv (g : Int)) ad cap t a W ((h.below hb0).below hb) ((hl.later hb0).later hb) hok hp hn (by omega) (by omega) (fun e => hf (by rw [hg2, e, Int.mul_zero])) hg6 (Nat.le_trans (Nat.div_le_self _ _) hd1) hg4
  generalize fn.tdiv (g : Int) = n at *
  generalize hq : fd / g = q at *
  have HZ := Hid.mk' hz
  have HLO := Hid.mk' hlo
  have HSC := Hid.mk' hsc
  obtain ⟨⟨k0, k1⟩, _⟩ := HC.out W0 (Below.refl _ _)
  have HSZ : Hid (W0.heap.size = w.heap.size + 1 + 1 + 1) := by show _ = _; rw [hW]; simp
  have HW := Hid.mk' hW
  have HB0 := Hid.mk' hb0
  have hlm : t.length ≤ 100 := hn
  generalize t.length = nn at *
  clear h hl hb0 hW hok hg hg1 hg2 hg3 hg4 hg5 hg6 hz hlo hsc hq hda hM0
  go_enter Tryd.func12, Tryd.ntmps12
  go_wp2_with fail
  rw [← HW.out]
  refine hv.mono ?_
  clear hv k0 k1
  rintro e w1 ⟨rfl, hb1⟩
  obtain ⟨⟨k0, k1⟩, ⟨k2, k3⟩, ⟨r0, r1⟩, f0, f1⟩ := HC.out w1 hb1
  have HB1 := Hid.mk' hb1
  have hg1' : ¬ (fd : Int) < 1 := by omega
  have hg2' : (fd : Int) ≤ 1073741824 := by omega
  clear hb1
  by_cases hf0 : fn = 0
  · subst hf0
    have hs := HZ.out (Or.inl rfl)
    rcases hs with ⟨s1, s2, s3, s4⟩ | ⟨_, _, _, s4⟩
    case inr => cases s4
    have HS := Hid.mk' (And.intro s1 (And.intro s2 s4))
    clear s1 s2 s3 s4
    go_wp2_with fail
    refine bodyPost_ret (v := .tuple #[.agg #[.int .i64 1, .slice none 0 0], .nilIface]) (by simp [results, Tryd.results12, go_sem, r0, r1]) rfl ⟨1, none, 0, 0, .nilIface, rfl, Or.inl ⟨HS.out.1, HS.out.2.1, rfl, ?_⟩, ((below_chain HB0.out HB1.out).setCell (by simp; omega) _).setCell (by simp; omega) _⟩
    rcases HS.out.2.2 with ⟨_, h0⟩ | ⟨_, _, e9, _⟩
    · exact Or.inl ⟨rfl, h0⟩
    · cases e9
  · have hfb : (fn == 0) = false := by rw [beq_eq_false_iff_ne]; exact hf0
    rcases Nat.eq_zero_or_pos nn with h0 | hpos
    · subst h0
      have hs := HZ.out (Or.inr rfl)
      rcases hs with ⟨s1, s2, s3, s4⟩ | ⟨_, _, _, s4⟩
      case inr => cases s4
      have HS := Hid.mk' (And.intro s1 (And.intro s2 s4))
      clear s1 s2 s3 s4 hf0
      go_wp2_with fail
      refine bodyPost_ret (v := .tuple #[.agg #[.int .i64 1, .slice none 0 0], .nilIface]) (by simp [results, Tryd.results12, go_sem, r0, r1]) rfl ⟨1, none, 0, 0, .nilIface, rfl, Or.inl ⟨HS.out.1, HS.out.2.1, rfl, ?_⟩, ((below_chain HB0.out HB1.out).setCell (by simp; omega) _).setCell (by simp; omega) _⟩
      rcases HS.out.2.2 with ⟨_, h0⟩ | ⟨_, _, e9, _⟩
      · exact Or.inl ⟨rfl, h0⟩
      · cases e9
    · have hnz : ((nn : Int) == 0) = false := by rw [beq_eq_false_iff_ne]; omega
      have HF0 := Hid.mk' hf0
      have HKS : Hid (∀ W, Below (w.heap.size + 1 + 1) W0 W → (W.cell? ⟨w.heap.size, 0, none⟩ = some (.int .i64 da) ∧ W.cell? ⟨w.heap.size, 1, none⟩ = some (.slice ad nn cap)) ∧ (W.cell? ⟨w.heap.size + 1, 0, none⟩ = some (.int .i64 fn) ∧ W.cell? ⟨w.heap.size + 1, 1, none⟩ = some (.int .i64 fd))) := fun W hb => by
        obtain ⟨⟨a0, a1⟩, ⟨a2, a3⟩, _⟩ := HC.out W0 (Below.refl _ _)
        refine ⟨⟨?_, ?_⟩, ?_, ?_⟩
        · rw [hb.cell (p := ⟨w.heap.size, 0, none⟩) (by show w.heap.size < _; omega)]; exact a0
        · rw [hb.cell (p := ⟨w.heap.size, 1, none⟩) (by show w.heap.size < _; omega)]; exact a1
        · rw [hb.cell (p := ⟨w.heap.size + 1, 0, none⟩) (by show w.heap.size + 1 < _; omega)]; exact a2
        · rw [hb.cell (p := ⟨w.heap.size + 1, 1, none⟩) (by show w.heap.size + 1 < _; omega)]; exact a3
      have hle : w.heap.size + 1 + 1 ≤ W0.heap.size := by rw [HSZ.out]; omega
      have hc0 : Below (w.heap.size + 1 + 1) W0 w1 := HB1.out.mono hle
      have hcd : Below (w.heap.size + 1 + 1) W0 w1.drew := hc0.drew
      have HLE := Hid.mk' hle
      clear hf0 hle
      go_wp2_with fail
      clear k0 k1 k2 k3 r0 r1 f0 f1
      go_region_held3 (fun W => (W.cell? ⟨w.heap.size, 0, none⟩ = some (.int .i64 da) ∧ W.cell? ⟨w.heap.size, 1, none⟩ = some (.slice ad nn cap)) ∧ (W.cell? ⟨w.heap.size + 1, 0, none⟩ = some (.int .i64 fn) ∧ W.cell? ⟨w.heap.size + 1, 1, none⟩ = some (.int .i64 fd)))
        (first | exact HKS.out _ hc0 | exact HKS.out _ hcd | exact HKS.out _ hc2 | exact HKS.out _ hc3 | exact HKS.out _ ((hc3.setCell (Nat.le_refl _) _).setCell (Nat.le_refl _) _))
        (first
          | (go_at_call 33; have hz2 := hc2; clear hz2; refine (HSC.out w2 HBW2.out hpos HF0.out).mono ?_; rintro e w3 ⟨dn, ad3, m3, cap3, er, rfl, hs3, hb3⟩; have hbw3 := below_chain HBW2.out hb3; have hc3 : Below (w.heap.size + 1 + 1) W0 w3 := hbw3.mono HLE.out; obtain ⟨_, _, ⟨x0, x1⟩, g0, g1⟩ := HC.out w3 hbw3; have HV := Hid.mk' hs3; have HBW3 := Hid.mk' hbw3; clear hs3 hb3 hbw3)
          | (go_at_call 34; refine (HLO.out _).mono ?_; rintro e w2 ⟨rfl, hb2⟩; have hbw2 := below_chain HB1.out.drew hb2; have hc2 : Below (w.heap.size + 1 + 1) W0 w2 := hbw2.mono HLE.out; have HBW2 := Hid.mk' hbw2; clear hb2 hbw2))
      go_wp2_with fail
      refine bodyPost_ret (v := .tuple #[.agg #[.int .i64 dn, .slice ad3 m3 cap3], er]) (by simp [results, Tryd.results12, go_sem, x0, x1]) rfl ⟨dn, ad3, m3, cap3, er, rfl, HV.out.set x1, ((below_chain HB0.out HBW3.out).setCell (by simp; omega) _).setCell (by simp; omega) _⟩
end Go.Proofs.YthknaphclijncaaDoor
