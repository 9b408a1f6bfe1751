/- The sum of two in its canonical form. -/
import Derived.Test.YtmdimdoglpiiiaaGreatDoorPackE
import Derived.Test.YtmdimdoglpiiiaaGreatDoorPackC
import Derived.Test.YtmdimdoglpiiiaaGreatDoorShift
import Derived.Test.YtmdimdoglpiiiaaGreatDoorPowers
import Derived.Test.YtmdimdoglpiiiaaGreatDoorSame
import Derived.Test.YtmdimdoglpiiiaaGreatDoorInts
import Derived.Test.YtmdimdoglpiiiaaGreatDoorPackB
import Derived.Test.YtmdimdoglpiiiaaGreatDoorPackD
import Derived.Test.YtmdimdoglpiiiaaGreatDoorFills
import Derived.OwnWalk
namespace Go.Proofs.YtmdimdoglpiiiaaGreatDoor

/-- The value of a sum: over the product of the denominators. -/
theorem sum_value {da db g G : Nat} {l t1 t2 : List (Int × Int)} (hg : g = Int.gcd (da : Int) (db : Int)) (hda : 0 < da) (hdb : 0 < db) (hr : Rising l) (hv : ∀ x, atL l x = atL t1 x * ((db / g : Nat) : Int) + atL t2 x * ((da / g : Nat) : Int)) (hG : gcdL ((da / g * db : Nat) : Int) (atL l) (l.map Prod.fst) l.length = G) :
    Canon (da / g * db / G) (overL G l) ∧ (((da / g * db : Nat) : Int) / (G : Int) = ((da / g * db / G : Nat) : Int)) ∧ (∀ x, atL (overL G l) x * ((da : Int) * (db : Int)) = (atL t1 x * (db : Int) + atL t2 x * (da : Int)) * ((da / g * db / G : Nat) : Int)) ∧ (Fits ((da / g * db : Nat) : Int) G l ↔ (da / g * db / G ≤ 1000000 ∧ ∀ e ∈ overL G l, e.2.natAbs ≤ 1099511627776)) := by
  have hgn : g = Nat.gcd da db := by rw [hg]; simp [Int.gcd]
  have hgp : 0 < g := by rw [hgn]; exact Nat.gcd_pos_of_pos_left _ hda
  obtain ⟨a', ha'⟩ : g ∣ da := by rw [hgn]; exact Nat.gcd_dvd_left _ _
  obtain ⟨b', hb'⟩ : g ∣ db := by rw [hgn]; exact Nat.gcd_dvd_right _ _
  have e1 : da / g = a' := by rw [ha', Nat.mul_div_cancel_left _ hgp]
  have e2 : db / g = b' := by rw [hb', Nat.mul_div_cancel_left _ hgp]
  have hD : 0 < da / g * db := Nat.mul_pos (Nat.div_pos (Nat.le_of_dvd hda ⟨a', ha'⟩) hgp) hdb
  obtain ⟨⟨d, hd⟩, hGp, hval, hcan⟩ := over_canon hD hr hG
  have e3 : da / g * db / G = d := by rw [hd, Nat.mul_div_cancel_left _ hGp]
  refine ⟨hcan, by simp, fun x => ?_, ?_⟩
  · have h1 := hv x
    rw [hval x, e1, e2] at h1
    rw [e3]
    rw [e1] at hd
    have h2 : (a' : Int) * (db : Int) = (G : Int) * (d : Int) := by rw [← Int.natCast_mul, hd, Int.natCast_mul]
    have h3 : (da : Int) = (g : Int) * (a' : Int) := by rw [ha', Int.natCast_mul]
    have h4 : (db : Int) = (g : Int) * (b' : Int) := by rw [hb', Int.natCast_mul]
    generalize atL (overL G l) x = T at *
    generalize atL t1 x = A at *
    generalize atL t2 x = B at *
    have h5 : T * ((da : Int) * (db : Int)) = T * ((g : Int) * ((a' : Int) * (db : Int))) := by rw [h3]; grind
    rw [h5, h2]
    have h6 : A * (db : Int) + B * (da : Int) = (g : Int) * ((G : Int) * T) := by rw [h1, h3, h4]; grind
    rw [h6]
    grind
  · unfold Fits
    constructor
    · rintro ⟨h1, h2⟩
      refine ⟨?_, fun e he => ?_⟩
      · have : ((da / g * db : Nat) : Int) / (G : Int) = ((da / g * db / G : Nat) : Int) := by simp
        rw [this] at h1
        omega
      · obtain ⟨f, hf, rfl⟩ := mem_over he
        exact h2 f hf
    · rintro ⟨h1, h2⟩
      refine ⟨?_, fun e he => ?_⟩
      · have : ((da / g * db : Nat) : Int) / (G : Int) = ((da / g * db / G : Nat) : Int) := by simp
        rw [this]
        omega
      · by_cases h0 : e.2.tdiv (G : Int) = 0
        · rw [h0]; decide
        · exact h2 (e.1, e.2.tdiv (G : Int)) (List.mem_filter.2 ⟨List.mem_map.2 ⟨e, he, rfl⟩, by simpa using h0⟩)
end Go.Proofs.YtmdimdoglpiiiaaGreatDoor

/- The program's Floor, FloorLog and Grains. -/
namespace Go.Proofs.YtmdimdoglpiiiaaGreatDoor
open Go.RowKit

theorem floor_less {a b : Int} (hb : 0 < b) (h : a.tmod b < 0) : a.tdiv b - 1 = a / b := by
  have h1 := Int.mul_tdiv_add_tmod a b
  have h2 : -b < a.tmod b := by have := tmod_small a b (by omega); omega
  have h3 := (Int.ediv_emod_unique (a := a) (b := b) (r := a.tmod b + b) (q := a.tdiv b - 1) hb).2 ⟨by rw [Int.mul_sub]; omega, by omega, by omega⟩
  exact h3.1.symm
theorem floor_same {a b : Int} (hb : 0 < b) (h : ¬ a.tmod b < 0) : a.tdiv b = a / b := by
  have h1 := Int.mul_tdiv_add_tmod a b
  have h2 := Int.tmod_lt_of_pos a hb
  exact ((Int.ediv_emod_unique (a := a) (b := b) (r := a.tmod b) (q := a.tdiv b) hb).2 ⟨by omega, by omega, by omega⟩).1.symm
theorem tdiv_bound {a b : Int} (h0 : -1000000 ≤ a) (h1 : a ≤ 1000000) : -1000000 ≤ a.tdiv b ∧ a.tdiv b ≤ 1000000 := by
  have := Int.natAbs_tdiv_le_natAbs a b
  omega

theorem isGr_of {z den : Int} {U D : Nat} (h : IsLog z U D) (h0 : -50001 ≤ z) (h1 : z ≤ 50001) (hd : 0 < den) (hd6 : den ≤ 1000000) : le2 (z / den * den) U D ∧ ¬ le2 ((z / den + 1) * den) U D ∧ -50001 ≤ z / den ∧ z / den ≤ 50001 ∧ -1050001 ≤ z / den * den ∧ z / den * den ≤ 1050001 ∧ -1050001 ≤ (z / den + 1) * den ∧ (z / den + 1) * den ≤ 1050001 := by
  obtain ⟨h2, h3⟩ := isLog_floor hd h rfl
  have h4 : z / den * den ≤ z := Int.ediv_mul_le z (by omega)
  have h5 : z < (z / den + 1) * den := Int.lt_ediv_add_one_mul_self z hd
  have h6 : (z / den + 1) * den = z / den * den + den := by rw [Int.add_mul, Int.one_mul]
  have h7 : -50001 ≤ z / den := by
    rw [Int.le_ediv_iff_mul_le hd]
    have : den * 50001 ≥ 1 * 50001 := Int.mul_le_mul_of_nonneg_right (by omega) (by omega)
    omega
  have h8 : z / den ≤ 50001 := by
    have : z / den < 50002 := by
      rw [Int.ediv_lt_iff_lt_mul hd]
      have : den * 50002 ≥ 1 * 50002 := Int.mul_le_mul_of_nonneg_right (by omega) (by omega)
      omega
    omega
  exact ⟨h2, h3, h7, h8, by omega, by omega, by omega, by omega⟩
theorem side_pos {p c : Nat → Int} {t n : Nat} (hb : Bounded n p c) : ∀ k, k ≤ n → 0 < sideUp p c t k ∧ 0 < sideDown p c t k
  | 0, _ => ⟨Nat.one_pos, Nat.one_pos⟩
  | k + 1, h => by
    have ih := side_pos (t := t) hb k (by omega)
    have hp : 0 < (p k).toNat ^ ((c k).natAbs * t) := Nat.pow_pos (by have := (hb k (by omega)).1; omega)
    by_cases hc : 0 < c k
    · rw [sideUp_pos hc, sideDown_pos hc]; exact ⟨Nat.mul_pos ih.1 hp, ih.2⟩
    · rw [sideUp_neg hc, sideDown_neg hc]; exact ⟨ih.1, Nat.mul_pos ih.2 hp⟩
theorem side_bits {p c : Nat → Int} {t n : Nat} (h : t * cost p c n ≤ 40000) : bitLen (sideUp p c t n) ≤ 50000 ∧ bitLen (sideDown p c t n) ≤ 50000 := by
  have h1 := sides_le p c t n
  have h2 : 2 ^ (t * cost p c n) < 2 ^ (t * cost p c n + 1) := Nat.pow_lt_pow_right (by decide) (by omega)
  have h3 := bitLen_le_of_lt (Nat.lt_of_le_of_lt h1.1 h2)
  have h4 := bitLen_le_of_lt (Nat.lt_of_le_of_lt h1.2 h2)
  omega

end Go.Proofs.YtmdimdoglpiiiaaGreatDoor

/- demonlaw1.LogsProducts walked. -/
namespace Go.Proofs.YtmdimdoglpiiiaaGreatDoor
open Go.RowKit Go.Maps

/-- A variable that holds a logarithm over 1. -/
structure LB (W : World) (B : Nat) (v : Value) (t : List (Int × Int)) : Prop where
  c0 : W.cell? ⟨B, 0, none⟩ = some (.int .i64 1)
  c1 : W.cell? ⟨B, 1, none⟩ = some v
  list : ListAt W v t
theorem LB.later {W W' : World} {B : Nat} {v : Value} {t : List (Int × Int)} (h : LB W B v t) (hb : Below W.heap.size W W') : LB W' B v t :=
  ⟨(cell_past h.c0 hb).2, (cell_past h.c1 hb).2, h.list.later hb⟩
theorem LB.new {w : World} {v : Value} {t : List (Int × Int)} (h : ListAt w v t) : LB (w.alloc (.cells #[.int .i64 1, v] 51)) w.heap.size v t :=
  ⟨by rw [World.cell?_alloc_at _ _ _ _ rfl]; rfl, by rw [World.cell?_alloc_at _ _ _ _ rfl]; rfl, h.later ((Below.refl _ _).alloc (Nat.le_refl _) _)⟩
theorem LB.more {w : World} {B : Nat} {v : Value} {t : List (Int × Int)} (h : LB w B v t) (X : Obj) : LB (w.alloc X) B v t := h.later ((Below.refl _ _).alloc (Nat.le_refl _) _)

theorem SameLog_own (den : Int) (v1 v2 : Value) (n : Nat) (p c : Nat → Int) (w : World) (h1 : OwnAt w v1 n p c) (h2 : OwnAt w v2 n p c) (hn : n ≤ 1000000) :
    Calls Tryz.prog 16 #[.agg #[.int .i64 den, v1], .agg #[.int .i64 den, v2]] w fun e w' => e = .returned (.bool true) ∧ Below w.heap.size w w' := by
  rcases h1 with ⟨rfl, h0⟩ | ⟨g1, c1, rfl, t1⟩
  · rcases h2 with ⟨rfl, _⟩ | ⟨g2, c2, rfl, t2⟩
    · exact SameLog_none den none none 0 0 w
    · subst h0; exact SameLog_none den none _ 0 c2 w
  · rcases h2 with ⟨rfl, h0⟩ | ⟨g2, c2, rfl, t2⟩
    · subst h0; exact SameLog_none den _ none c1 0 w
    · exact SameLog_some den g1 0 c1 g2 0 c2 n p c w t1 t2 hn

/-- The sum of the coefficients of a prime, term by term. -/
def sumTo (p c : Nat → Int) (x : Int) : Nat → Int
  | 0 => 0
  | k + 1 => sumTo p c x k + if p k = x then c k else 0
theorem sumTo_list {t : List (Int × Int)} (hr : Rising t) (x : Int) : ∀ k, k ≤ t.length → sumTo (pOf t) (cOf t) x k = atL (t.take k) x
  | 0, _ => rfl
  | k + 1, h => by
    rw [atL_take hr (by omega)]
    show sumTo _ _ _ k + _ = _
    rw [sumTo_list hr x k (by omega)]
theorem mult_sides {n : Nat} {p c : Nat → Int} (hp : ∀ i, i < n → Pr (p i).toNat ∧ 2 ≤ p i) {x : Nat} (hx : Pr x) : ∀ k, k ≤ n → (mult x (sideUp p c 1 k) : Int) - (mult x (sideDown p c 1 k) : Int) = sumTo p c (x : Int) k ∧ 0 < sideUp p c 1 k ∧ 0 < sideDown p c 1 k
  | 0, _ => ⟨by simp [sideUp, sideDown, sumTo], Nat.one_pos, Nat.one_pos⟩
  | k + 1, h => by
    obtain ⟨ih, h1, h2⟩ := mult_sides hp hx k (by omega)
    obtain ⟨hpk, hp2⟩ := hp k (by omega)
    have hpp : 0 < (p k).toNat ^ ((c k).natAbs * 1) := Nat.pow_pos (by omega)
    have hm := mult_pow hx hpk ((c k).natAbs * 1)
    have hiff : (x = (p k).toNat) ↔ (p k = (x : Int)) := by omega
    have hs : sumTo p c (x : Int) (k + 1) = sumTo p c (x : Int) k + if p k = (x : Int) then c k else 0 := rfl
    by_cases hc : 0 < c k
    · rw [sideUp_pos hc, sideDown_pos hc, mult_mul hx _ _ h1 hpp, hm, hs, ← ih]
      refine ⟨?_, Nat.mul_pos h1 hpp, h2⟩
      by_cases he : x = (p k).toNat
      · rw [if_pos he, if_pos (hiff.1 he)]; omega
      · rw [if_neg he, if_neg (fun e => he (hiff.2 e))]; omega
    · rw [sideUp_neg hc, sideDown_neg hc, mult_mul hx _ _ h2 hpp, hm, hs, ← ih]
      refine ⟨?_, h1, Nat.mul_pos h2 hpp⟩
      by_cases he : x = (p k).toNat
      · rw [if_pos he, if_pos (hiff.1 he)]; omega
      · rw [if_neg he, if_neg (fun e => he (hiff.2 e))]; omega
/-- The sides of the logarithm of a over b are as a to b. -/
theorem IsOf.sides {a b : Nat} {t : List (Int × Int)} (h : IsOf a b t) (ha : 0 < a) (ha6 : a ≤ 1000000) (hb : 0 < b) (hb6 : b ≤ 1000000) : sideUp (pOf t) (cOf t) 1 t.length * b = sideDown (pOf t) (cOf t) 1 t.length * a ∧ 0 < sideUp (pOf t) (cOf t) 1 t.length ∧ 0 < sideDown (pOf t) (cOf t) 1 t.length := by
  have hp : ∀ i, i < t.length → Pr (pOf t i).toNat ∧ 2 ≤ pOf t i := fun i hi => by
    have := (h.terms ha ha6 hb hb6 _ (getD_mem hi)).1
    exact ⟨this.2.2.2.2.2, this.2.2.2.2.1⟩
  have h2 : Pr 2 := ⟨by omega, fun d hd hdd => by have := Nat.mul_le_mul hd hd; omega⟩
  have hpos := (mult_sides (c := cOf t) hp h2 t.length (Nat.le_refl _)).2
  refine ⟨eq_of_mult _ _ (Nat.mul_pos hpos.1 hb) (Nat.mul_pos hpos.2 ha) (fun q hq => ?_), hpos⟩
  have h1 := (mult_sides (c := cOf t) hp hq t.length (Nat.le_refl _)).1
  rw [sumTo_list h.rise _ _ (Nat.le_refl _), List.take_length, h.val, multI_pr (x := (q : Int)) (by simpa using hq), multI_pr (x := (q : Int)) (by simpa using hq)] at h1
  rw [mult_mul hq _ _ hpos.1 hb, mult_mul hq _ _ hpos.2 ha]
  simp only [Int.toNat_natCast] at h1
  omega
theorem sides_order {U D a b : Nat} (h : U * b = D * a) (hU : 0 < U) (hD : 0 < D) : (a < b → U < D) ∧ (b < a → D < U) ∧ (a = b → 0 < a → U = D) := by
  refine ⟨fun hl => ?_, fun hl => ?_, fun he ha => ?_⟩
  · rcases Nat.lt_or_ge U D with h' | h'
    · exact h'
    · have h1 := Nat.mul_le_mul_right a h'
      have h2 := Nat.mul_lt_mul_of_pos_left hl hU
      omega
  · rcases Nat.lt_or_ge D U with h' | h'
    · exact h'
    · have h1 := Nat.mul_le_mul_right b h'
      have h2 := Nat.mul_lt_mul_of_pos_left hl hD
      omega
  · subst he
    exact Nat.eq_of_mul_eq_mul_right ha h
theorem cost_small {n : Nat} {p c : Nat → Int} (hp : ∀ i, i < n → 2 ≤ p i ∧ p i ≤ 1000000 ∧ -19 ≤ c i ∧ c i ≤ 19) : ∀ k, k ≤ n → cost p c k ≤ k * 380
  | 0, _ => by simp [cost]
  | k + 1, h => by
    have ih := cost_small hp k (by omega)
    obtain ⟨h1, h2, h3, h4⟩ := hp k (by omega)
    have hm := Nat.mul_le_mul (show (c k).natAbs ≤ 19 by omega) (bitLen_million (n := (p k).toNat) (by omega))
    have e : cost p c (k + 1) = cost p c k + (c k).natAbs * bitLen (p k).toNat := rfl
    omega
end Go.Proofs.YtmdimdoglpiiiaaGreatDoor

/- Grains of a sum; the sign of an opposite. -/
namespace Go.Proofs.YtmdimdoglpiiiaaGreatDoor

theorem le2_pow {k : Int} {a b : Nat} (h : le2 k a b) (m : Nat) : le2 (k * (m : Int)) (a ^ m) (b ^ m) := by
  unfold le2 at h
  have h1 := Nat.pow_le_pow_left h m
  rw [Nat.mul_pow, Nat.mul_pow, ← Nat.pow_mul, ← Nat.pow_mul] at h1
  refine (le2_iff (x := k.toNat * m) (y := (-k).toNat * m) ?_).2 h1
  rw [Int.natCast_mul, Int.natCast_mul, ← Int.sub_mul]
  congr 1
  omega
theorem not_le2_pow {k : Int} {a b : Nat} (h : ¬ le2 k a b) {m : Nat} (hm : 0 < m) : ¬ le2 (k * (m : Int)) (a ^ m) (b ^ m) := by
  unfold le2 at h
  have h1 := Nat.pow_lt_pow_left (Nat.lt_of_not_le h) (by omega : m ≠ 0)
  rw [Nat.mul_pow, Nat.mul_pow, ← Nat.pow_mul, ← Nat.pow_mul] at h1
  intro h2
  have h3 := (le2_iff (x := k.toNat * m) (y := (-k).toNat * m) (by
    rw [Int.natCast_mul, Int.natCast_mul, ← Int.sub_mul]
    congr 1
    omega)).1 h2
  omega
theorem le2_mul {k j : Int} {a b c d : Nat} (h : le2 k a b) (h' : le2 j c d) : le2 (k + j) (a * c) (b * d) := by
  unfold le2 at h h'
  have h1 := Nat.mul_le_mul h h'
  rw [Nat.mul_mul_mul_comm, Nat.mul_mul_mul_comm a, ← Nat.pow_add, ← Nat.pow_add] at h1
  exact (le2_iff (x := k.toNat + j.toNat) (y := (-k).toNat + (-j).toNat) (by omega)).2 h1
theorem not_le2_mul {k j : Int} {a b c d : Nat} (h : ¬ le2 k a b) (h' : ¬ le2 j c d) : ¬ le2 (k + j) (a * c) (b * d) := by
  unfold le2 at h h'
  have h1 := Nat.mul_lt_mul'' (Nat.lt_of_not_le h) (Nat.lt_of_not_le h')
  rw [Nat.mul_mul_mul_comm, Nat.mul_mul_mul_comm b, ← Nat.pow_add, ← Nat.pow_add] at h1
  intro h2
  have h3 := (le2_iff (x := k.toNat + j.toNat) (y := (-k).toNat + (-j).toNat) (by omega)).1 h2
  omega
theorem le2_same {k : Int} {a b c d : Nat} (hb : 0 < b) (hd : 0 < d) (h : a * d = c * b) : le2 k a b ↔ le2 k c d := by
  unfold le2
  generalize 2 ^ k.toNat = X
  generalize 2 ^ (-k).toNat = Y
  constructor
  · intro h1
    have h2 := Nat.mul_le_mul_right d h1
    have h3 : a * Y * d = c * Y * b := by rw [Nat.mul_right_comm, h, Nat.mul_right_comm]
    rw [h3] at h2
    exact Nat.le_of_mul_le_mul_right (by rw [Nat.mul_right_comm d X b, Nat.mul_comm d b, Nat.mul_right_comm b d X]; exact h2) hb
  · intro h1
    have h2 := Nat.mul_le_mul_right b h1
    have h3 : c * Y * b = a * Y * d := by rw [Nat.mul_right_comm, ← h, Nat.mul_right_comm]
    rw [h3] at h2
    exact Nat.le_of_mul_le_mul_right (by rw [Nat.mul_right_comm b X d, Nat.mul_comm b d, Nat.mul_right_comm d b X]; exact h2) hd
/-- The sides' multiplicities, so many times. -/
theorem mult_sides_times {n t : Nat} {p c : Nat → Int} (hp : ∀ i, i < n → Pr (p i).toNat ∧ 2 ≤ p i) {x : Nat} (hx : Pr x) : ∀ k, k ≤ n → (mult x (sideUp p c t k) : Int) - (mult x (sideDown p c t k) : Int) = sumTo p c (x : Int) k * (t : Int) ∧ 0 < sideUp p c t k ∧ 0 < sideDown p c t k
  | 0, _ => ⟨by simp [sideUp, sideDown, sumTo], Nat.one_pos, Nat.one_pos⟩
  | k + 1, h => by
    obtain ⟨ih, h1, h2⟩ := mult_sides_times (t := t) (c := c) hp hx k (by omega)
    obtain ⟨hpk, hp2⟩ := hp k (by omega)
    have hpp : 0 < (p k).toNat ^ ((c k).natAbs * t) := Nat.pow_pos (by omega)
    have hm := mult_pow hx hpk ((c k).natAbs * t)
    have hiff : (x = (p k).toNat) ↔ (p k = (x : Int)) := by omega
    have hs : sumTo p c (x : Int) (k + 1) = sumTo p c (x : Int) k + if p k = (x : Int) then c k else 0 := rfl
    by_cases hc : 0 < c k
    · have ha : (((c k).natAbs * t : Nat) : Int) = c k * (t : Int) := by rw [Int.natCast_mul, show ((c k).natAbs : Int) = c k by omega]
      rw [sideUp_pos hc, sideDown_pos hc, mult_mul hx _ _ h1 hpp, hm, hs, Int.add_mul, ← ih]
      refine ⟨?_, Nat.mul_pos h1 hpp, h2⟩
      by_cases he : x = (p k).toNat
      · rw [if_pos he, if_pos (hiff.1 he), ← ha]; omega
      · rw [if_neg he, if_neg (fun e => he (hiff.2 e)), Int.zero_mul]; omega
    · have ha : (((c k).natAbs * t : Nat) : Int) = -(c k * (t : Int)) := by rw [Int.natCast_mul, show ((c k).natAbs : Int) = -c k by omega, Int.neg_mul]
      rw [sideUp_neg hc, sideDown_neg hc, mult_mul hx _ _ h2 hpp, hm, hs, Int.add_mul, ← ih]
      refine ⟨?_, h1, Nat.mul_pos h2 hpp⟩
      by_cases he : x = (p k).toNat
      · rw [if_pos he, if_pos (hiff.1 he)]; omega
      · rw [if_neg he, if_neg (fun e => he (hiff.2 e)), Int.zero_mul]; omega
theorem mult_power {p n : Nat} (hp : Pr p) (hn : 0 < n) : ∀ m, mult p (n ^ m) = m * mult p n
  | 0 => by rw [Nat.pow_zero, mult_one hp.1, Nat.zero_mul]
  | m + 1 => by rw [Nat.pow_succ, mult_mul hp _ _ (Nat.pow_pos hn) hn, mult_power hp hn m, Nat.succ_mul]
theorem OkLog.side {d : Int} {t : List (Int × Int)} (h : OkLog d t.length (pOf t) (cOf t)) (m : Nat) {x : Nat} (hx : Pr x) : (mult x (sideUp (pOf t) (cOf t) m t.length) : Int) - (mult x (sideDown (pOf t) (cOf t) m t.length) : Int) = atL t (x : Int) * (m : Int) ∧ 0 < sideUp (pOf t) (cOf t) m t.length ∧ 0 < sideDown (pOf t) (cOf t) m t.length := by
  have hp : ∀ i, i < t.length → Pr (pOf t i).toNat ∧ 2 ≤ pOf t i := fun i hi => ⟨(h.2.2.1 i hi).2.2.2.2.2.2, (h.2.2.1 i hi).2.2.2.2.2.1⟩
  have h1 := mult_sides_times (t := m) (c := cOf t) hp hx t.length (Nat.le_refl _)
  rw [sumTo_list h.rising _ _ (Nat.le_refl _), List.take_length] at h1
  exact h1
/-- The sides of a sum. -/
theorem sides_sum {da db dx : Nat} {ta tb tx : List (Int × Int)} (ha : OkLog da ta.length (pOf ta) (cOf ta)) (hb : OkLog db tb.length (pOf tb) (cOf tb)) (hx : OkLog dx tx.length (pOf tx) (cOf tx)) (he : ∀ x, atL tx x * ((da : Int) * (db : Int)) = (atL ta x * (db : Int) + atL tb x * (da : Int)) * (dx : Int)) (m : Nat) :
    (sideUp (pOf ta) (cOf ta) m ta.length ^ (db * dx) * sideUp (pOf tb) (cOf tb) m tb.length ^ (da * dx)) * sideDown (pOf tx) (cOf tx) m tx.length ^ (da * db) = sideUp (pOf tx) (cOf tx) m tx.length ^ (da * db) * (sideDown (pOf ta) (cOf ta) m ta.length ^ (db * dx) * sideDown (pOf tb) (cOf tb) m tb.length ^ (da * dx)) := by
  have h2 : Pr 2 := ⟨by omega, fun d hd hdd => by have := Nat.mul_le_mul hd hd; omega⟩
  obtain ⟨_, a1, a2⟩ := ha.side m h2
  obtain ⟨_, b1, b2⟩ := hb.side m h2
  obtain ⟨_, x1, x2⟩ := hx.side m h2
  refine eq_of_mult _ _ (Nat.mul_pos (Nat.mul_pos (Nat.pow_pos a1) (Nat.pow_pos b1)) (Nat.pow_pos x2)) (Nat.mul_pos (Nat.pow_pos x1) (Nat.mul_pos (Nat.pow_pos a2) (Nat.pow_pos b2))) (fun q hq => ?_)
  have ea := (ha.side m hq).1
  have eb := (hb.side m hq).1
  have ex := (hx.side m hq).1
  have e := he (q : Int)
  rw [mult_mul hq _ _ (Nat.mul_pos (Nat.pow_pos a1) (Nat.pow_pos b1)) (Nat.pow_pos x2), mult_mul hq _ _ (Nat.pow_pos a1) (Nat.pow_pos b1), mult_mul hq _ _ (Nat.pow_pos x1) (Nat.mul_pos (Nat.pow_pos a2) (Nat.pow_pos b2)), mult_mul hq _ _ (Nat.pow_pos a2) (Nat.pow_pos b2), mult_power hq a1, mult_power hq b1, mult_power hq x2, mult_power hq x1, mult_power hq a2, mult_power hq b2]
  generalize mult q (sideUp (pOf ta) (cOf ta) m ta.length) = Ua at *
  generalize mult q (sideDown (pOf ta) (cOf ta) m ta.length) = Da at *
  generalize mult q (sideUp (pOf tb) (cOf tb) m tb.length) = Ub at *
  generalize mult q (sideDown (pOf tb) (cOf tb) m tb.length) = Db at *
  generalize mult q (sideUp (pOf tx) (cOf tx) m tx.length) = Ux at *
  generalize mult q (sideDown (pOf tx) (cOf tx) m tx.length) = Dx at *
  generalize atL ta (q : Int) = A at *
  generalize atL tb (q : Int) = B at *
  generalize atL tx (q : Int) = X at *
  apply Int.ofNat_inj.1
  simp only [Int.natCast_add, Int.natCast_mul]
  have hUa : (Ua : Int) = Da + A * m := by omega
  have hUb : (Ub : Int) = Db + B * m := by omega
  have hUx : (Ux : Int) = Dx + X * m := by omega
  rw [hUa, hUb, hUx]
  grind
/-- Grains of a sum are those of both, or one more. -/
theorem grains_sum {da db dx : Nat} {ta tb tx : List (Int × Int)} (ha : OkLog da ta.length (pOf ta) (cOf ta)) (hb : OkLog db tb.length (pOf tb) (cOf tb)) (hx : OkLog dx tx.length (pOf tx) (cOf tx)) (he : ∀ x, atL tx x * ((da : Int) * (db : Int)) = (atL ta x * (db : Int) + atL tb x * (da : Int)) * (dx : Int)) {za zb zx : Int}
    (la : IsLog za (sideUp (pOf ta) (cOf ta) 32 ta.length) (sideDown (pOf ta) (cOf ta) 32 ta.length)) (lb : IsLog zb (sideUp (pOf tb) (cOf tb) 32 tb.length) (sideDown (pOf tb) (cOf tb) 32 tb.length)) (lx : IsLog zx (sideUp (pOf tx) (cOf tx) 32 tx.length) (sideDown (pOf tx) (cOf tx) 32 tx.length)) :
    zx / (dx : Int) = za / (da : Int) + zb / (db : Int) ∨ zx / (dx : Int) = za / (da : Int) + zb / (db : Int) + 1 := by
  have h2 : Pr 2 := ⟨by omega, fun d hd hdd => by have := Nat.mul_le_mul hd hd; omega⟩
  obtain ⟨_, _, a2⟩ := ha.side 32 h2
  obtain ⟨_, _, b2⟩ := hb.side 32 h2
  obtain ⟨_, _, x2⟩ := hx.side 32 h2
  have hid := sides_sum ha hb hx he 32
  have pa : 0 < da := by have := ha.1; omega
  have pb : 0 < db := by have := hb.1; omega
  have px : 0 < dx := by have := hx.1; omega
  obtain ⟨a3, a4⟩ := isLog_floor (d := (da : Int)) (by omega) la rfl
  obtain ⟨b3, b4⟩ := isLog_floor (d := (db : Int)) (by omega) lb rfl
  obtain ⟨x3, x4⟩ := isLog_floor (d := (dx : Int)) (by omega) lx rfl
  generalize za / (da : Int) = i at *
  generalize zb / (db : Int) = j at *
  generalize zx / (dx : Int) = k at *
  have hsame := fun q => le2_same (k := q) (Nat.mul_pos (Nat.pow_pos (n := db * dx) a2) (Nat.pow_pos (n := da * dx) b2)) (Nat.pow_pos (n := da * db) x2) hid
  have l1 := (hsame _).1 (le2_mul (le2_pow a3 (db * dx)) (le2_pow b3 (da * dx)))
  have l2 := fun h => not_le2_mul (not_le2_pow a4 (Nat.mul_pos pb px)) (not_le2_pow b4 (Nat.mul_pos pa px)) ((hsame _).2 h)
  have l3 := le2_pow x3 (da * db)
  have l4 := not_le2_pow x4 (Nat.mul_pos pa pb)
  have hM : (0 : Int) < (da : Int) * (db : Int) * (dx : Int) := Int.mul_pos (Int.mul_pos (by omega) (by omega)) (by omega)
  have q1 : i * (da : Int) * ((db * dx : Nat) : Int) + j * (db : Int) * ((da * dx : Nat) : Int) = (i + j) * ((da : Int) * (db : Int) * (dx : Int)) := by rw [Int.natCast_mul, Int.natCast_mul]; grind
  have q2 : (i + 1) * (da : Int) * ((db * dx : Nat) : Int) + (j + 1) * (db : Int) * ((da * dx : Nat) : Int) = (i + j + 2) * ((da : Int) * (db : Int) * (dx : Int)) := by rw [Int.natCast_mul, Int.natCast_mul]; grind
  have q3 : k * (dx : Int) * ((da * db : Nat) : Int) = k * ((da : Int) * (db : Int) * (dx : Int)) := by rw [Int.natCast_mul]; grind
  have q4 : (k + 1) * (dx : Int) * ((da * db : Nat) : Int) = (k + 1) * ((da : Int) * (db : Int) * (dx : Int)) := by rw [Int.natCast_mul]; grind
  rw [q1] at l1
  rw [q2] at l2
  rw [q3] at l3
  rw [q4] at l4
  generalize (da : Int) * (db : Int) * (dx : Int) = M at *
  have c1 : i + j < k + 1 := by
    rcases Int.lt_or_le (i + j) (k + 1) with h | h
    · exact h
    · exact absurd (le2_anti l1 (Int.mul_le_mul_of_nonneg_right h (by omega))) l4
  have c2 : k < i + j + 2 := by
    rcases Int.lt_or_le k (i + j + 2) with h | h
    · exact h
    · exact absurd (le2_anti l3 (Int.mul_le_mul_of_nonneg_right h (by omega))) l2
  omega
/-- An opposite's sides. -/
theorem sides_back {n t : Nat} {p c : Nat → Int} (hn : ∀ i, i < n → c i ≠ 0) : ∀ k, k ≤ n → sideUp p (fun i => -c i) t k = sideDown p c t k ∧ sideDown p (fun i => -c i) t k = sideUp p c t k
  | 0, _ => ⟨rfl, rfl⟩
  | k + 1, h => by
    obtain ⟨h1, h2⟩ := sides_back (t := t) (p := p) hn k (by omega)
    have h0 := hn k (by omega)
    by_cases hc : 0 < c k
    · have hc' : ¬ 0 < (fun i => -c i) k := by show ¬ 0 < -c k; omega
      rw [sideUp_neg (p := p) (c := fun i => -c i) (t := t) (k := k) hc', sideDown_neg (p := p) (c := fun i => -c i) (t := t) (k := k) hc', sideUp_pos hc, sideDown_pos hc, h1, h2]
      exact ⟨rfl, by show _ * _ ^ ((-c k).natAbs * t) = _; rw [Int.natAbs_neg]⟩
    · have hc' : 0 < (fun i => -c i) k := by show 0 < -c k; omega
      rw [sideUp_pos (p := p) (c := fun i => -c i) (t := t) (k := k) hc', sideDown_pos (p := p) (c := fun i => -c i) (t := t) (k := k) hc', sideUp_neg hc, sideDown_neg hc, h1, h2]
      exact ⟨by show _ * _ ^ ((-c k).natAbs * t) = _; rw [Int.natAbs_neg], rfl⟩
theorem cost_back (p c : Nat → Int) : ∀ k, cost p (fun i => -c i) k = cost p c k
  | 0 => rfl
  | k + 1 => by show cost p (fun i => -c i) k + (-c k).natAbs * _ = cost p c k + _; rw [cost_back p c k, Int.natAbs_neg]
end Go.Proofs.YtmdimdoglpiiiaaGreatDoor

/- GIBBS' inequality of whole numbers: products of powers, where the sums are given. -/
namespace Go.Proofs.YtmdimdoglpiiiaaGreatDoor
def sumA (f : Nat → Nat) : Nat → Nat
  | 0 => 0
  | n + 1 => sumA f n + f n
def prodA (f : Nat → Nat) : Nat → Nat
  | 0 => 1
  | n + 1 => prodA f n * f n
theorem sq_ge (x y : Int) : 0 ≤ (x - y) * (x - y) := by
  rcases Int.le_total x y with h | h
  · have := Int.mul_nonneg (Int.sub_nonneg.2 h) (Int.sub_nonneg.2 h)
    grind
  · exact Int.mul_nonneg (Int.sub_nonneg.2 h) (Int.sub_nonneg.2 h)
theorem sq_gt {x y : Int} (hne : x ≠ y) : 0 < (x - y) * (x - y) := by
  rcases Int.lt_or_gt_of_ne hne with h | h
  · have := Int.mul_pos (Int.sub_pos.2 h) (Int.sub_pos.2 h)
    grind
  · exact Int.mul_pos (Int.sub_pos.2 h) (Int.sub_pos.2 h)
/-- BERNOULLI's inequality of two numbers. -/
theorem bern {u v : Int} (hu : 0 ≤ u) (hv : 0 ≤ v) : ∀ n : Nat, ((n : Int) + 1) * u ^ n * v ≤ v ^ (n + 1) + n * u ^ (n + 1)
  | 0 => by simp [Int.pow_succ]
  | n + 1 => by
    have h := Int.mul_le_mul_of_nonneg_right (bern hu hv n) hv
    have hp := Int.mul_nonneg (Int.pow_nonneg hu : 0 ≤ u ^ n) (Int.mul_nonneg (by omega : 0 ≤ (n : Int) + 1) (sq_ge v u))
    have e1 : u ^ (n + 1 + 1) = u ^ n * u * u := by rw [Int.pow_succ, Int.pow_succ]
    have e2 : v ^ (n + 1 + 1) = v ^ (n + 1) * v := by rw [Int.pow_succ]
    have e3 : u ^ (n + 1) = u ^ n * u := by rw [Int.pow_succ]
    rw [e1, e2, e3]
    rw [e3] at h
    generalize u ^ n = U at *
    generalize v ^ (n + 1) = V at *
    push_cast
    grind
theorem bern_lt {u v : Int} (hu : 0 < u) (hv : 0 ≤ v) (hne : u ≠ v) (n : Nat) : ((n : Int) + 1 + 1) * u ^ (n + 1) * v < v ^ (n + 1 + 1) + (n + 1) * u ^ (n + 1 + 1) := by
  have h := Int.mul_le_mul_of_nonneg_right (bern (Int.le_of_lt hu) hv n) hv
  have hp := Int.mul_pos (Int.pow_pos hu : 0 < u ^ n) (Int.mul_pos (by omega : 0 < (n : Int) + 1) (sq_gt (Ne.symm hne)))
  have e1 : u ^ (n + 1 + 1) = u ^ n * u * u := by rw [Int.pow_succ, Int.pow_succ]
  have e2 : v ^ (n + 1 + 1) = v ^ (n + 1) * v := by rw [Int.pow_succ]
  have e3 : u ^ (n + 1) = u ^ n * u := by rw [Int.pow_succ]
  rw [e1, e2, e3]
  rw [e3] at h
  generalize u ^ n = U at *
  generalize v ^ (n + 1) = V at *
  grind

/-- A number more: the power of the mean. -/
theorem step_le (n S Y : Nat) (hn : 0 < n) : S ^ n * (n + 1) ^ (n + 1) * Y ≤ (S + Y) ^ (n + 1) * n ^ n := by
  have h := bern (u := ((S * (n + 1) : Nat) : Int)) (v := (((S + Y) * n : Nat) : Int)) (by omega) (by omega) n
  have h1 : (S * (n + 1)) ^ n * ((n + 1) * n * Y) ≤ ((S + Y) * n) ^ (n + 1) := by
    refine Int.ofNat_le.1 ?_
    have e : ((S * (n + 1) : Nat) : Int) ^ (n + 1) = ((S * (n + 1) : Nat) : Int) ^ n * ((S : Int) * (n + 1)) := by rw [Int.pow_succ]; simp
    rw [e] at h
    rw [Int.natCast_mul, Int.natCast_pow, Int.natCast_pow]
    generalize ((S * (n + 1) : Nat) : Int) ^ n = U at *
    generalize (((S + Y) * n : Nat) : Int) ^ (n + 1) = V at *
    push_cast at h ⊢
    grind
  rw [Nat.mul_pow, Nat.mul_pow, Nat.pow_succ n n] at h1
  rw [Nat.pow_succ (n + 1) n]
  refine Nat.le_of_mul_le_mul_right ?_ hn
  generalize S ^ n = a at *
  generalize (n + 1) ^ n = b at *
  generalize n ^ n = c at *
  generalize (S + Y) ^ (n + 1) = d at *
  grind
theorem step_lt (n S Y : Nat) (hS : 0 < S) (hne : S ≠ (n + 1) * Y) : S ^ (n + 1) * (n + 1 + 1) ^ (n + 1 + 1) * Y < (S + Y) ^ (n + 1 + 1) * (n + 1) ^ (n + 1) := by
  have h := bern_lt (u := ((S * (n + 1 + 1) : Nat) : Int)) (v := (((S + Y) * (n + 1) : Nat) : Int)) (by have := Nat.mul_pos hS (by omega : 0 < n + 1 + 1); omega) (by omega) (fun e => hne (by
    have e := Int.ofNat_inj.1 e
    grind)) n
  have h1 : (S * (n + 1 + 1)) ^ (n + 1) * ((n + 1 + 1) * (n + 1) * Y) < ((S + Y) * (n + 1)) ^ (n + 1 + 1) := by
    refine Int.ofNat_lt.1 ?_
    have e : ((S * (n + 1 + 1) : Nat) : Int) ^ (n + 1 + 1) = ((S * (n + 1 + 1) : Nat) : Int) ^ (n + 1) * ((S : Int) * (n + 1 + 1)) := by rw [Int.pow_succ]; simp
    rw [e] at h
    rw [Int.natCast_mul, Int.natCast_pow, Int.natCast_pow]
    generalize ((S * (n + 1 + 1) : Nat) : Int) ^ (n + 1) = U at *
    generalize (((S + Y) * (n + 1) : Nat) : Int) ^ (n + 1 + 1) = V at *
    push_cast at h ⊢
    grind
  rw [Nat.mul_pow, Nat.mul_pow, Nat.pow_succ (n + 1) (n + 1)] at h1
  rw [Nat.pow_succ (n + 1 + 1) (n + 1)]
  refine Nat.lt_of_mul_lt_mul_right (a := n + 1) ?_
  generalize S ^ (n + 1) = a at *
  generalize (n + 1 + 1) ^ (n + 1) = b at *
  generalize (n + 1) ^ (n + 1) = c at *
  generalize (S + Y) ^ (n + 1 + 1) = d at *
  grind
theorem self_pos (n : Nat) : 0 < n ^ n := by
  rcases Nat.eq_zero_or_pos n with h | h
  · subst h; decide
  · exact Nat.pow_pos h
/-- A copies of X and a of Y: their product is at most the power of their mean. -/
theorem two_le (A X Y : Nat) : ∀ a : Nat, (A + a) ^ (A + a) * (X ^ A * Y ^ a) ≤ (A * X + a * Y) ^ (A + a)
  | 0 => by simp [Nat.mul_pow]
  | a + 1 => by
    have ih := two_le A X Y a
    rcases Nat.eq_zero_or_pos (A + a) with h0 | h0
    · obtain rfl : A = 0 := by omega
      obtain rfl : a = 0 := by omega
      simp
    · have h := step_le (A + a) (A * X + a * Y) Y h0
      have e1 : A * X + (a + 1) * Y = A * X + a * Y + Y := by grind
      rw [e1, ← Nat.add_assoc, Nat.pow_succ Y a]
      refine Nat.le_of_mul_le_mul_right (c := (A + a) ^ (A + a)) ?_ (self_pos _)
      refine Nat.le_trans ?_ h
      have h2 := Nat.mul_le_mul_right ((A + a + 1) ^ (A + a + 1) * Y) ih
      generalize (A + a + 1) ^ (A + a + 1) = p at *
      generalize (A + a) ^ (A + a) = r at *
      generalize (A * X + a * Y) ^ (A + a) = t at *
      generalize X ^ A = x at *
      generalize Y ^ a = y at *
      grind
theorem two_lt (A X Y : Nat) (hA : 0 < A) (hne : X ≠ Y) : ∀ a : Nat, (A + (a + 1)) ^ (A + (a + 1)) * (X ^ A * Y ^ (a + 1)) < (A * X + (a + 1) * Y) ^ (A + (a + 1)) := fun a => by
  rcases Nat.eq_zero_or_pos Y with hy | hy
  · subst hy
    have : 0 < A * X := Nat.mul_pos hA (by omega)
    simp only [Nat.pow_succ, Nat.mul_zero, Nat.add_zero]
    exact Nat.pow_pos this
  rcases Nat.eq_zero_or_pos X with hx | hx
  · subst hx
    rw [Nat.zero_pow hA]
    have : 0 < (a + 1) * Y := Nat.mul_pos (by omega) hy
    simp only [Nat.mul_zero, Nat.zero_mul, Nat.zero_add]
    exact Nat.pow_pos this
  induction a with
  | zero =>
    obtain ⟨n, rfl⟩ : ∃ n, A = n + 1 := ⟨A - 1, by omega⟩
    have h := step_lt n ((n + 1) * X) Y (Nat.mul_pos hA hx) (fun e => hne (Nat.eq_of_mul_eq_mul_left hA e))
    have e1 : (n + 1) * X + (0 + 1) * Y = (n + 1) * X + Y := by omega
    rw [e1, Nat.zero_add]
    refine Nat.lt_of_mul_lt_mul_right (a := (n + 1) ^ (n + 1)) ?_
    refine Nat.lt_of_le_of_lt ?_ h
    rw [Nat.mul_pow, Nat.pow_one]
    generalize (n + 1) ^ (n + 1) = r at *
    generalize (n + 1 + 1) ^ (n + 1 + 1) = p at *
    generalize X ^ (n + 1) = x at *
    grind
  | succ a ih =>
    have h := step_le (A + (a + 1)) (A * X + (a + 1) * Y) Y (by omega)
    have e1 : A * X + (a + 1 + 1) * Y = A * X + (a + 1) * Y + Y := by grind
    rw [e1, ← Nat.add_assoc A (a + 1) 1, Nat.pow_succ Y (a + 1)]
    refine Nat.lt_of_mul_lt_mul_right (a := (A + (a + 1)) ^ (A + (a + 1))) ?_
    refine Nat.lt_of_lt_of_le ?_ h
    have h2 := Nat.mul_lt_mul_of_pos_right ih (Nat.mul_pos (self_pos (A + (a + 1) + 1)) hy)
    generalize (A + (a + 1) + 1) ^ (A + (a + 1) + 1) = p at *
    generalize (A + (a + 1)) ^ (A + (a + 1)) = r at *
    generalize (A * X + (a + 1) * Y) ^ (A + (a + 1)) = t at *
    generalize X ^ A = x at *
    generalize Y ^ (a + 1) = y at *
    grind

/-- Two terms of the logarithms' sum. -/
theorem sum2_le (A a B b : Nat) : (A + a) ^ (A + a) * (B ^ A * b ^ a) ≤ (B + b) ^ (A + a) * (A ^ A * a ^ a) := by
  rcases Nat.eq_zero_or_pos A with hA | hA
  · subst hA
    have := Nat.pow_le_pow_left (show b ≤ B + b by omega) a
    simp only [Nat.zero_add, Nat.pow_zero, Nat.one_mul]
    rw [Nat.mul_comm]
    exact Nat.mul_le_mul_right _ this
  rcases Nat.eq_zero_or_pos a with ha | ha
  · subst ha
    have := Nat.pow_le_pow_left (show B ≤ B + b by omega) A
    simp only [Nat.add_zero, Nat.pow_zero, Nat.mul_one]
    rw [Nat.mul_comm]
    exact Nat.mul_le_mul_right _ this
  have h := two_le A (B * a) (b * A) a
  have e1 : A * (B * a) + a * (b * A) = (A * a) * (B + b) := by grind
  rw [e1, Nat.mul_pow, Nat.mul_pow, Nat.mul_pow (A * a), Nat.mul_pow A a] at h
  have e2 : A ^ (A + a) = A ^ A * A ^ a := Nat.pow_add ..
  have e3 : a ^ (A + a) = a ^ A * a ^ a := Nat.pow_add ..
  rw [e2, e3] at h
  refine Nat.le_of_mul_le_mul_right (c := A ^ a * a ^ A) ?_ (Nat.mul_pos (Nat.pow_pos hA) (Nat.pow_pos ha))
  generalize A ^ a = t1 at *
  generalize a ^ A = t2 at *
  generalize (A + a) ^ (A + a) = t3 at *
  generalize (B + b) ^ (A + a) = t4 at *
  generalize A ^ A = t5 at *
  generalize a ^ a = t6 at *
  generalize B ^ A = t7 at *
  generalize b ^ a = t8 at *
  grind
theorem sum2_lt {A a B b : Nat} (hA : 0 < A) (hne : B * a ≠ b * A) : (A + a) ^ (A + a) * (B ^ A * b ^ a) < (B + b) ^ (A + a) * (A ^ A * a ^ a) := by
  rcases Nat.eq_zero_or_pos a with ha | ha
  · subst ha
    have hb : 0 < b := Nat.pos_of_ne_zero fun e => hne (by subst e; simp)
    have := Nat.pow_lt_pow_left (show B < B + b by omega) (Nat.pos_iff_ne_zero.1 hA)
    simp only [Nat.add_zero, Nat.pow_zero, Nat.mul_one]
    rw [Nat.mul_comm]
    exact Nat.mul_lt_mul_of_pos_right this (Nat.pow_pos hA)
  obtain ⟨c, rfl⟩ : ∃ c, a = c + 1 := ⟨a - 1, by omega⟩
  have h := two_lt A (B * (c + 1)) (b * A) hA hne c
  have e1 : A * (B * (c + 1)) + (c + 1) * (b * A) = (A * (c + 1)) * (B + b) := by grind
  rw [e1, Nat.mul_pow, Nat.mul_pow, Nat.mul_pow (A * (c + 1)), Nat.mul_pow A (c + 1)] at h
  have e2 : A ^ (A + (c + 1)) = A ^ A * A ^ (c + 1) := Nat.pow_add ..
  have e3 : (c + 1) ^ (A + (c + 1)) = (c + 1) ^ A * (c + 1) ^ (c + 1) := Nat.pow_add ..
  rw [e2, e3] at h
  refine Nat.lt_of_mul_lt_mul_right (a := A ^ (c + 1) * (c + 1) ^ A) ?_
  generalize A ^ (c + 1) = t1 at *
  generalize (c + 1) ^ A = t2 at *
  generalize (A + (c + 1)) ^ (A + (c + 1)) = t3 at *
  generalize (B + b) ^ (A + (c + 1)) = t4 at *
  generalize A ^ A = t5 at *
  generalize (c + 1) ^ (c + 1) = t6 at *
  generalize B ^ A = t7 at *
  generalize b ^ (c + 1) = t8 at *
  grind
theorem prod_pos {f : Nat → Nat} : ∀ {n : Nat}, (∀ i, i < n → 0 < f i) → 0 < prodA f n
  | 0, _ => by simp [prodA]
  | n + 1, h => Nat.mul_pos (prod_pos fun i hi => h i (by omega)) (h n (by omega))
theorem sum_zero {f : Nat → Nat} : ∀ {n : Nat}, sumA f n = 0 → ∀ i, i < n → f i = 0
  | 0, _, i, hi => by omega
  | n + 1, h, i, hi => by
    simp only [sumA] at h
    rcases Nat.lt_or_ge i n with h1 | h1
    · exact sum_zero (n := n) (by omega) i h1
    · obtain rfl : i = n := by omega
      omega
/-- The sum of logarithms (GIBBS). -/
theorem sums_le (a b : Nat → Nat) : ∀ n : Nat, sumA a n ^ sumA a n * prodA (fun i => b i ^ a i) n ≤ sumA b n ^ sumA a n * prodA (fun i => a i ^ a i) n
  | 0 => by simp [sumA, prodA]
  | n + 1 => by
    have ih := sums_le a b n
    have h2 := sum2_le (sumA a n) (a n) (sumA b n) (b n)
    simp only [sumA, prodA]
    refine Nat.le_of_mul_le_mul_right (c := sumA a n ^ sumA a n) ?_ (self_pos _)
    have h3 := Nat.mul_le_mul_right ((sumA a n + a n) ^ (sumA a n + a n) * b n ^ a n) ih
    have h4 := Nat.mul_le_mul_right (prodA (fun i => a i ^ a i) n) h2
    generalize (sumA a n + a n) ^ (sumA a n + a n) = t1 at *
    generalize (sumA b n + b n) ^ (sumA a n + a n) = t2 at *
    generalize sumA a n ^ sumA a n = t3 at *
    generalize sumA b n ^ sumA a n = t4 at *
    generalize prodA (fun i => a i ^ a i) n = t5 at *
    generalize prodA (fun i => b i ^ a i) n = t6 at *
    generalize b n ^ a n = t7 at *
    generalize a n ^ a n = t8 at *
    grind
theorem sums_eq {a b : Nat → Nat} : ∀ {n : Nat}, (∀ i, i < n → 0 < a i → 0 < b i) → sumA a n ^ sumA a n * prodA (fun i => b i ^ a i) n = sumA b n ^ sumA a n * prodA (fun i => a i ^ a i) n → ∀ i, i < n → a i * sumA b n = b i * sumA a n
  | 0, _, _, i, hi => by omega
  | n + 1, hs, h, i, hi => by
    have ih := sums_le a b n
    have h2 := sum2_le (sumA a n) (a n) (sumA b n) (b n)
    have hb : 0 < b n ^ a n := by
      rcases Nat.eq_zero_or_pos (a n) with h0 | h0
      · rw [h0]; simp
      · exact Nat.pow_pos (hs n (by omega) h0)
    have hR : 0 < prodA (fun i => a i ^ a i) n := prod_pos fun i _ => self_pos _
    have hA' := self_pos (sumA a n + a n)
    have hA0 := self_pos (sumA a n)
    have hall : sumA a n ^ sumA a n * prodA (fun i => b i ^ a i) n = sumA b n ^ sumA a n * prodA (fun i => a i ^ a i) n ∧ (sumA a n + a n) ^ (sumA a n + a n) * (sumA b n ^ sumA a n * b n ^ a n) = (sumA b n + b n) ^ (sumA a n + a n) * (sumA a n ^ sumA a n * a n ^ a n) := by
      simp only [sumA, prodA] at h
      have h3 := Nat.mul_le_mul_right ((sumA a n + a n) ^ (sumA a n + a n) * b n ^ a n) ih
      have h4 := Nat.mul_le_mul_right (prodA (fun i => a i ^ a i) n) h2
      have h5 := congrArg (· * sumA a n ^ sumA a n) h
      have hp := Nat.mul_pos hA' hb
      generalize (sumA a n + a n) ^ (sumA a n + a n) = t1 at *
      generalize (sumA b n + b n) ^ (sumA a n + a n) = t2 at *
      generalize sumA a n ^ sumA a n = t3 at *
      generalize sumA b n ^ sumA a n = t4 at *
      generalize prodA (fun i => a i ^ a i) n = t5 at *
      generalize prodA (fun i => b i ^ a i) n = t6 at *
      generalize b n ^ a n = t7 at *
      generalize a n ^ a n = t8 at *
      have e1 : t3 * t6 * (t1 * t7) = t4 * t5 * (t1 * t7) := by grind
      have e2 : t1 * (t4 * t7) * t5 = t2 * (t3 * t8) * t5 := by grind
      exact ⟨Nat.eq_of_mul_eq_mul_right hp e1, Nat.eq_of_mul_eq_mul_right hR e2⟩
    have hI := sums_eq (n := n) (fun i hi => hs i (by omega)) hall.1
    simp only [sumA]
    rcases Nat.eq_zero_or_pos (sumA a n) with h0 | h0
    · have hz := sum_zero h0
      have h6 := hall.2
      rw [h0] at h6 ⊢
      simp only [Nat.zero_add, Nat.pow_zero, Nat.one_mul] at h6 ⊢
      have h7 : b n ^ a n = (sumA b n + b n) ^ a n := by
        rw [Nat.mul_comm] at h6
        exact Nat.eq_of_mul_eq_mul_right (self_pos _) h6
      have h8 : a n = 0 ∨ sumA b n = 0 := by
        rcases Nat.eq_zero_or_pos (a n) with h1 | h1
        · exact Or.inl h1
        · refine Or.inr ?_
          rcases Nat.eq_zero_or_pos (sumA b n) with h9 | h9
          · exact h9
          · have := Nat.pow_lt_pow_left (show b n < sumA b n + b n by omega) (Nat.pos_iff_ne_zero.1 h1)
            omega
      rcases Nat.lt_or_ge i n with h1 | h1
      · rw [hz i h1]
        rcases h8 with h8 | h8
        · rw [h8]; simp
        · rw [sum_zero h8 i h1]; simp
      · obtain rfl : i = n := by omega
        rcases h8 with h8 | h8
        · rw [h8]; simp
        · rw [h8, Nat.zero_add, Nat.mul_comm]
    · have he : sumA b n * a n = b n * sumA a n := by
        rcases Nat.decEq (sumA b n * a n) (b n * sumA a n) with h1 | h1
        · have := sum2_lt h0 h1
          omega
        · exact h1
      rcases Nat.lt_or_ge i n with h1 | h1
      · have hi1 := hI i h1
        have h9 : a i * b n = b i * a n := by
          refine Nat.eq_of_mul_eq_mul_right h0 ?_
          grind
        grind
      · obtain rfl : i = n := by omega
        grind
end Go.Proofs.YtmdimdoglpiiiaaGreatDoor

/- A logarithm that is told of a sum: it is in form; its sign. -/
namespace Go.Proofs.YtmdimdoglpiiiaaGreatDoor
open Go.RowKit

theorem over_by {D : Nat} {l : List (Int × Int)} (hD : 0 < D) (hr : Rising l) : gList D (l.map Prod.snd) ∣ D ∧ 0 < gList D (l.map Prod.snd) ∧ (∀ x, atL l x = ((gList D (l.map Prod.snd) : Nat) : Int) * atL (overL (gList D (l.map Prod.snd)) l) x) ∧ Canon (D / gList D (l.map Prod.snd)) (overL (gList D (l.map Prod.snd)) l) := over_canon hD hr (gcdL_list hr)
/-- It speaks of primes alone, and in bounds. -/
structure Prim (f : Int → Int) : Prop where
  le : ∀ x, -1000000000 ≤ f x ∧ f x ≤ 1000000000
  pr : ∀ x, f x ≠ 0 → 2 ≤ x ∧ x ≤ 4096 ∧ Pr x.toNat
theorem rising_count {hi : Int} : ∀ (l : List (Int × Int)) (lo : Int), lo ≤ hi → Rising l → (∀ e ∈ l, lo < e.1 ∧ e.1 ≤ hi) → (l.length : Int) + lo ≤ hi
  | [], lo, h, _, _ => by simpa using h
  | e :: r, lo, _, hr, he => by
    have h1 := he e (by simp)
    have h2 := rising_count r e.1 h1.2 (List.pairwise_cons.1 hr).2 (fun f hf => ⟨(List.pairwise_cons.1 hr).1 f hf, (he f (by simp [hf])).2⟩)
    simp only [List.length_cons]
    omega
theorem LogBy.ok {base M : Nat} {f : Int → Int} {w : World} {dn : Int} {v : Value} (h : LogBy base M f w dn v) (hM : 1 ≤ M) (hM6 : M ≤ 1000000) (hf : Prim f) :
    ∃ (t : List (Int × Int)) (d G : Nat), dn = (d : Int) ∧ ListAt w v t ∧ t.length ≤ 4096 ∧ M = G * d ∧ 0 < G ∧ (∀ x, f x = (G : Int) * atL t x) ∧ OkLog d t.length (pOf t) (cOf t) := by
  obtain ⟨l, r, a, _, rfl, o⟩ := h.list
  obtain ⟨g1, g2, g3, g4⟩ := over_by hM r
  have hv : ∀ x, f x = ((gList M (l.map Prod.snd) : Nat) : Int) * atL (overL (gList M (l.map Prod.snd)) l) x := fun x => by rw [← a]; exact g3 x
  have hle := Nat.div_le_self M (gList M (l.map Prod.snd))
  have hone := g4.one
  have hpos := g4.pos
  have hsup : ∀ e ∈ overL (gList M (l.map Prod.snd)) l, 2 ≤ e.1 ∧ e.1 ≤ 4096 ∧ Pr e.1.toNat := fun e he => by
    have h1 := hv e.1
    rw [atL_mem g4.rise he] at h1
    have hne : f e.1 ≠ 0 := by
      rw [h1]
      exact Int.mul_ne_zero (by omega) (g4.nz e he)
    exact hf.pr e.1 hne
  have hcount := rising_count (hi := 4096) _ 1 (by omega) g4.rise (fun e he => by have := hsup e he; omega)
  refine ⟨_, M / gList M (l.map Prod.snd), gList M (l.map Prod.snd), rfl, o, by omega, (Nat.mul_div_cancel' g1).symm, g2, hv, okLog_list g4.rise (fun e he => ?_) (by omega) (by omega) ?_⟩
  · have h1 := hv e.1
    rw [atL_mem g4.rise he] at h1
    have hnz := g4.nz e he
    have hb := hf.le e.1
    obtain ⟨p1, p2, p3⟩ := hsup e he
    have habs : e.2.natAbs ≤ (f e.1).natAbs := by
      rw [h1, Int.natAbs_mul, Int.natAbs_natCast]
      exact Nat.le_mul_of_pos_left _ g2
    exact ⟨by omega, hnz, by omega, by omega, p1, p3⟩
  · rw [gcdTo_list _ _ _ (Nat.le_refl _), List.take_length, Int.natAbs_natCast]
    exact hone
/-- Its sides are as the sides of the sum. -/
theorem by_sides {d G U D : Nat} {t : List (Int × Int)} {f : Int → Int} (hok : OkLog d t.length (pOf t) (cOf t)) (hv : ∀ x, f x = (G : Int) * atL t x) (hU : 0 < U) (hD : 0 < D) (hm : ∀ q : Nat, Pr q → f (q : Int) = (mult q U : Int) - (mult q D : Int)) :
    sideUp (pOf t) (cOf t) 1 t.length ^ G * D = sideDown (pOf t) (cOf t) 1 t.length ^ G * U ∧ 0 < sideUp (pOf t) (cOf t) 1 t.length ∧ 0 < sideDown (pOf t) (cOf t) 1 t.length := by
  have h2 : Pr 2 := ⟨by omega, fun d hd hdd => by have := Nat.mul_le_mul hd hd; omega⟩
  obtain ⟨_, a1, a2⟩ := hok.side 1 h2
  refine ⟨eq_of_mult _ _ (Nat.mul_pos (Nat.pow_pos a1) hD) (Nat.mul_pos (Nat.pow_pos a2) hU) (fun q hq => ?_), a1, a2⟩
  have e1 := (hok.side 1 hq).1
  have e2 := hm q hq
  rw [hv] at e2
  rw [mult_mul hq _ _ (Nat.pow_pos a1) hD, mult_mul hq _ _ (Nat.pow_pos a2) hU, mult_power hq a1, mult_power hq a2]
  generalize mult q (sideUp (pOf t) (cOf t) 1 t.length) = A at *
  generalize mult q (sideDown (pOf t) (cOf t) 1 t.length) = B at *
  generalize mult q U = u at *
  generalize mult q D = e at *
  generalize atL t (q : Int) = z at *
  apply Int.ofNat_inj.1
  simp only [Int.natCast_add, Int.natCast_mul]
  have h3 : (A : Int) = B + z := by omega
  rw [h3]
  grind
theorem pow_order {a b G : Nat} (hG : 0 < G) : (a ^ G < b ^ G → a < b) ∧ (a ^ G = b ^ G → a = b) := by
  have h1 : a ^ G < b ^ G → a < b := fun h => by
    rcases Nat.lt_or_ge a b with h1 | h1
    · exact h1
    · have := Nat.pow_le_pow_left h1 G
      omega
  refine ⟨h1, fun h => ?_⟩
  rcases Nat.lt_or_ge a b with h2 | h2
  · have := Nat.pow_lt_pow_left h2 (Nat.pos_iff_ne_zero.1 hG)
    omega
  · rcases Nat.lt_or_ge b a with h3 | h3
    · have := Nat.pow_lt_pow_left h3 (Nat.pos_iff_ne_zero.1 hG)
      omega
    · omega
theorem by_cmp {su sd G U D : Nat} (h : su ^ G * D = sd ^ G * U) (hG : 0 < G) (h1 : 0 < su) (h2 : 0 < sd) (hU : 0 < U) : (D < U → cmpOf su sd = 1) ∧ (U = D → cmpOf su sd = 0) ∧ (U < D → cmpOf su sd = -1) := by
  obtain ⟨o1, o2, o3⟩ := sides_order h (Nat.pow_pos h1) (Nat.pow_pos h2)
  unfold cmpOf
  refine ⟨fun hl => ?_, fun he => ?_, fun hl => ?_⟩
  · have := (pow_order hG).1 (o2 hl)
    grind
  · have := (pow_order hG).2 (o3 he hU)
    grind
  · have := (pow_order hG).1 (o1 hl)
    grind
theorem listAt_log {W : World} {v : Value} {t : List (Int × Int)} (h : ListAt W v t) : LogAt W v t.length (pOf t) (cOf t) := by
  obtain ⟨ad, cap, rfl, hl⟩ := log_of_own h
  exact hl
end Go.Proofs.YtmdimdoglpiiiaaGreatDoor

/- GIBBS' inequality of tables. -/
namespace Go.Proofs.YtmdimdoglpiiiaaGreatDoor

theorem prod_le {f g : Nat → Nat} : ∀ {n : Nat}, (∀ i, i < n → f i ≤ g i) → prodA f n ≤ prodA g n
  | 0, _ => Nat.le_refl _
  | n + 1, h => Nat.mul_le_mul (prod_le fun i hi => h i (by omega)) (h n (by omega))
theorem prod_mul (f g : Nat → Nat) : ∀ n, prodA (fun i => f i * g i) n = prodA f n * prodA g n
  | 0 => rfl
  | n + 1 => by
    simp only [prodA]
    rw [prod_mul f g n]
    grind
theorem prod_congr {f g : Nat → Nat} : ∀ {n : Nat}, (∀ i, i < n → f i = g i) → prodA f n = prodA g n
  | 0, _ => rfl
  | n + 1, h => by
    simp only [prodA]
    rw [prod_congr (n := n) (fun i hi => h i (by omega)), h n (by omega)]
theorem sumA_congr {f g : Nat → Nat} : ∀ {n : Nat}, (∀ i, i < n → f i = g i) → sumA f n = sumA g n
  | 0, _ => rfl
  | n + 1, h => by
    simp only [sumA]
    rw [sumA_congr (n := n) (fun i hi => h i (by omega)), h n (by omega)]
theorem sumA_ge (f : Nat → Nat) : ∀ {n i : Nat}, i < n → f i ≤ sumA f n
  | 0, _, h => by omega
  | n + 1, i, h => by
    simp only [sumA]
    rcases Nat.lt_or_ge i n with h1 | h1
    · have := sumA_ge f h1
      omega
    · obtain rfl : i = n := by omega
      omega
theorem sumA_mul (k : Nat) (f : Nat → Nat) : ∀ n, sumA (fun i => k * f i) n = k * sumA f n
  | 0 => rfl
  | n + 1 => by
    simp only [sumA]
    rw [sumA_mul k f n]
    grind
theorem sumA_add (f g : Nat → Nat) : ∀ n, sumA (fun i => f i + g i) n = sumA f n + sumA g n
  | 0 => rfl
  | n + 1 => by
    simp only [sumA]
    rw [sumA_add f g n]
    omega
theorem sumA_swap (F : Nat → Nat → Nat) (C : Nat) : ∀ R, sumA (fun i => sumA (fun j => F i j) C) R = sumA (fun j => sumA (fun i => F i j) R) C
  | 0 => by
    simp only [sumA]
    have : ∀ n, sumA (fun _ => 0) n = 0 := by
      intro n
      induction n with
      | zero => rfl
      | succ n ih => simp only [sumA]; omega
    rw [this]
  | R + 1 => by
    simp only [sumA]
    rw [sumA_swap F C R, ← sumA_add]
/-- The sum of logarithms, of tables. -/
theorem sums2_le (a b : Nat → Nat → Nat) (C R : Nat) :
    sumA (fun i => sumA (a i) C) R ^ sumA (fun i => sumA (a i) C) R * prodA (fun i => prodA (fun j => b i j ^ a i j) C) R ≤ sumA (fun i => sumA (b i) C) R ^ sumA (fun i => sumA (a i) C) R * prodA (fun i => prodA (fun j => a i j ^ a i j) C) R := by
  have h1 := prod_le (n := R) (fun i _ => sums_le (a i) (b i) C)
  rw [prod_mul, prod_mul] at h1
  have h2 := sums_le (fun i => sumA (a i) C) (fun i => sumA (b i) C) R
  have hX : 0 < prodA (fun i => sumA (a i) C ^ sumA (a i) C) R := prod_pos fun i _ => self_pos _
  refine Nat.le_of_mul_le_mul_right (c := prodA (fun i => sumA (a i) C ^ sumA (a i) C) R) ?_ hX
  have h3 := Nat.mul_le_mul_left (sumA (fun i => sumA (a i) C) R ^ sumA (fun i => sumA (a i) C) R) h1
  have h4 := Nat.mul_le_mul_right (prodA (fun i => prodA (fun j => a i j ^ a i j) C) R) h2
  generalize sumA (fun i => sumA (a i) C) R ^ sumA (fun i => sumA (a i) C) R = A at *
  generalize sumA (fun i => sumA (b i) C) R ^ sumA (fun i => sumA (a i) C) R = B at *
  generalize prodA (fun i => sumA (a i) C ^ sumA (a i) C) R = X at *
  generalize prodA (fun i => sumA (b i) C ^ sumA (a i) C) R = Y at *
  generalize prodA (fun i => prodA (fun j => b i j ^ a i j) C) R = L at *
  generalize prodA (fun i => prodA (fun j => a i j ^ a i j) C) R = Q at *
  grind
/-- What rows and columns tell of each other is not below 0. -/
theorem told_le (a : Nat → Nat → Nat) (C R N : Nat) (hN : N = sumA (fun i => sumA (a i) C) R) (hN0 : 0 < N) :
    prodA (fun i => prodA (fun j => (sumA (a i) C * sumA (fun k => a k j) R) ^ a i j) C) R ≤ N ^ N * prodA (fun i => prodA (fun j => a i j ^ a i j) C) R := by
  have h := sums2_le a (fun i j => sumA (a i) C * sumA (fun k => a k j) R) C R
  have e1 : sumA (fun j => sumA (fun k => a k j) R) C = N := by rw [hN, sumA_swap]
  have e2 : sumA (fun i => sumA (fun j => sumA (a i) C * sumA (fun k => a k j) R) C) R = N * N := by
    have : sumA (fun i => sumA (fun j => sumA (a i) C * sumA (fun k => a k j) R) C) R = sumA (fun i => N * sumA (a i) C) R := sumA_congr fun i _ => by rw [sumA_mul, e1, Nat.mul_comm]
    rw [this, sumA_mul, ← hN]
  rw [e2, ← hN, Nat.mul_pow] at h
  refine Nat.le_of_mul_le_mul_left (c := N ^ N) ?_ (Nat.pow_pos hN0)
  generalize prodA (fun i => prodA (fun j => (sumA (a i) C * sumA (fun k => a k j) R) ^ a i j) C) R = L at *
  generalize prodA (fun i => prodA (fun j => a i j ^ a i j) C) R = Q at *
  generalize N ^ N = Z at *
  grind
end Go.Proofs.YtmdimdoglpiiiaaGreatDoor

/- dist.cells and dist.Table. -/
namespace Go.Proofs.YtmdimdoglpiiiaaGreatDoor
open Go.RowKit

end Go.Proofs.YtmdimdoglpiiiaaGreatDoor

/- The document's differences. -/
namespace Go.Proofs.YtmdimdoglpiiiaaGreatDoor
open Go.RowKit

/-- What is less than nothing by a part of M. -/
theorem low_minus {M : Nat} (hM : 0 < M) (z : Int) : (0 * (lowD M z : Int) + -lowN M z * (1 : Nat)).tdiv ((Nat.gcd (0 * (lowD M z : Int) + -lowN M z * (1 : Nat)).natAbs (1 * lowD M z) : Nat) : Int) = lowN M (-z) ∧ 1 * lowD M z / Nat.gcd (0 * (lowD M z : Int) + -lowN M z * (1 : Nat)).natAbs (1 * lowD M z) = lowD M (-z) := by
  refine low_same hM (by have := lowD_pos hM z; omega) ?_
  have h1 := low_cross hM z
  rw [Nat.one_mul]
  generalize lowN M z = a at *
  generalize (lowD M z : Int) = c at *
  simp only [Int.zero_mul, Int.zero_add, Int.natCast_one, Int.mul_one]
  rw [Int.neg_mul, h1, Int.neg_mul]
/-- A part of a part: n of M times x of n is x of M. -/
theorem low_times {M n : Nat} (hM : 0 < M) (hn : 0 < n) (x : Int) : (lowN M n * lowN n x).tdiv ((Nat.gcd (lowN M n * lowN n x).natAbs (lowD M n * lowD n x) : Nat) : Int) = lowN M x ∧ lowD M n * lowD n x / Nat.gcd (lowN M n * lowN n x).natAbs (lowD M n * lowD n x) = lowD M x := by
  refine low_same hM (Nat.mul_pos (lowD_pos hM n) (lowD_pos hn x)) ?_
  have h1 := low_cross hM (n : Int)
  have h2 := low_cross hn x
  rw [Int.natCast_mul]
  generalize lowN M n = a at *
  generalize lowN n x = b at *
  generalize (lowD M n : Int) = c at *
  generalize (lowD n x : Int) = e at *
  calc a * b * (M : Int) = (a * (M : Int)) * b := by rw [Int.mul_assoc, Int.mul_comm b, ← Int.mul_assoc]
    _ = (b * (n : Int)) * c := by rw [h1, Int.mul_comm (n : Int) c, Int.mul_assoc, Int.mul_comm c, Int.mul_comm (n : Int) b]
    _ = x * (c * e) := by rw [h2, Int.mul_assoc, Int.mul_comm e c]
theorem low_self {M : Nat} (hM : 0 < M) : lowN M M = 1 ∧ lowD M M = 1 := by
  have h := low_same (M := M) (d := 1) (z := (M : Int)) (n := 1) hM (by decide) (by simp)
  simpa using And.intro h.1.symm h.2.symm
end Go.Proofs.YtmdimdoglpiiiaaGreatDoor

/- The document's Entropy of a Wide, and EntropyOf. -/
namespace Go.Proofs.YtmdimdoglpiiiaaGreatDoor
open Go.RowKit

/-- A Wide to which f came, in at most c calls. -/
structure WPuts (base M B : Nat) (W0 wr : World) (f : Int → Int) (c : Nat) (L0 : List Ent) (vp vc : Value) (L : List Ent) : Prop where
  wide : WideAt base M wr B vp vc L
  rise : Rising (absL L)
  val : ∀ x, atL (absL L) x = atL (absL L0) x + f x
  len : L.length ≤ L0.length + 20 * c
  kept : IntsKept W0 wr
  moved : Moved B W0 wr
  below : Below base W0 wr
theorem WPuts.trans {base M B : Nat} {W0 W1 W2 : World} {f g : Int → Int} {c d : Nat} {L0 L1 L2 : List Ent} {vp vc vp' vc' : Value} (h : WPuts base M B W0 W1 f c L0 vp vc L1) (k : WPuts base M B W1 W2 g d L1 vp' vc' L2) : WPuts base M B W0 W2 (fun x => f x + g x) (c + d) L0 vp' vc' L2 :=
  ⟨k.wide, k.rise, fun x => by rw [k.val, h.val]; omega, by have := h.len; have := k.len; omega, h.kept.trans k.kept, h.moved.trans k.moved, h.below.trans k.below⟩
theorem WPuts.congr {base M B : Nat} {W0 W1 : World} {f g : Int → Int} {c d : Nat} {L0 L1 : List Ent} {vp vc : Value} (h : WPuts base M B W0 W1 f c L0 vp vc L1) (hc : c ≤ d) (he : ∀ x, f x = g x) : WPuts base M B W0 W1 g d L0 vp vc L1 :=
  ⟨h.wide, h.rise, fun x => by rw [h.val, he], by have := h.len; omega, h.kept, h.moved, h.below⟩
theorem WPuts.later {base M B : Nat} {W0 W1 W2 : World} {f : Int → Int} {c : Nat} {L0 L1 : List Ent} {vp vc : Value} (h : WPuts base M B W0 W1 f c L0 vp vc L1) (hb : Below W1.heap.size W1 W2) : WPuts base M B W0 W2 f c L0 vp vc L1 :=
  ⟨h.wide.later hb, h.rise, h.val, h.len, h.kept.trans (IntsKept.of_below hb), h.moved.trans (Moved.of_below hb h.wide.lt), h.below.trans (hb.mono (by have := h.wide.hB; have := h.wide.lt; omega))⟩
theorem WPuts.start {base M B : Nat} {W0 : World} {L : List Ent} {vp vc : Value} (h : WideAt base M W0 B vp vc L) (hr : Rising (absL L)) {f : Int → Int} (hf : ∀ x, f x = 0) (c : Nat) : WPuts base M B W0 W0 f c L vp vc L :=
  ⟨h, hr, fun x => by rw [hf]; omega, by omega, IntsKept.refl _, Moved.refl _ _, Below.refl _ _⟩
/-- A fraction in a box. -/
structure RBox (W0 W : World) (B : Nat) (n : Int) (d : Nat) : Prop where
  below : Below W0.heap.size W0 W
  hB : W0.heap.size ≤ B
  box : ∃ s ad l cap ad' l' cap', W.cell? ⟨B, 0, none⟩ = some (.bool s) ∧ W.cell? ⟨B, 1, none⟩ = some (.slice ad l cap) ∧ W.cell? ⟨B, 2, none⟩ = some (.slice ad' l' cap') ∧ RatioAt W (.agg #[.bool s, .slice ad l cap, .slice ad' l' cap']) n d
theorem rBox_late {W0 W : World} {n : Int} {d : Nat} {s : Bool} {ad ad' : Option Addr} {l cap l' cap' : Nat} (h : Below W0.heap.size W0 W) (hr : RatioAt W (.agg #[.bool s, .slice ad l cap, .slice ad' l' cap']) n d) : RBox W0 (W.alloc (.cells #[.bool s, .slice ad l cap, .slice ad' l' cap'] 37)) W.heap.size n d :=
  ⟨more_below h _, h.size, s, ad, l, cap, ad', l', cap', by simp, by simp, by simp, hr.later (new_below _ _)⟩
theorem rBox_soon {W0 W : World} {B : Nat} {n : Int} {d : Nat} {s : Bool} {ad ad' : Option Addr} {l cap l' cap' : Nat} (h : Below W0.heap.size W0 W) (hr : RatioAt W (.agg #[.bool s, .slice ad l cap, .slice ad' l' cap']) n d) (hn : NewBox3 W0 W B) : RBox W0 (((W.setCell ⟨B, 0, none⟩ (.bool s)).setCell ⟨B, 1, none⟩ (.slice ad l cap)).setCell ⟨B, 2, none⟩ (.slice ad' l' cap')) B n d := by
  refine ⟨below_set3 h hn.hB _ _ _, hn.hB, s, ad, l, cap, ad', l', cap', ?_, ?_, ?_, ?_⟩
  · rw [World.cell?_setCell_other _ _ _ _ (by simp), World.cell?_setCell_other _ _ _ _ (by simp)]; exact World.cell?_setCell_same _ _ _ hn.c0
  · rw [World.cell?_setCell_other _ _ _ _ (by simp)]; exact World.cell?_setCell_same _ _ _ (by rw [World.cell?_setCell_other _ _ _ _ (by simp)]; exact hn.c1)
  · exact World.cell?_setCell_same _ _ _ (by rw [World.cell?_setCell_other _ _ _ _ (by simp), World.cell?_setCell_other _ _ _ _ (by simp)]; exact hn.c2)
  · obtain ⟨u, q, hv, hu, hq⟩ := hr
    have hv' := hv
    simp only [Value.agg.injEq, Array.mk.injEq, List.cons.injEq, and_true] at hv'
    obtain ⟨_, rfl, rfl⟩ := hv'
    exact ⟨_, _, hv, hu.set3 hn.no hn.c0 hn.c1, hq.set3 hn.no hn.c0 hn.c1⟩
theorem RatioOf_low (x : Int) (n : Nat) (w : World) (h0 : -1000000 ≤ x ∧ x ≤ 1000000) (hd : 0 < n) (hd1 : n ≤ 1000000) :
    Calls Tryz.prog 19 #[.int .i64 x, .int .i64 n] w fun e w' => ∃ r, e = .returned r ∧ RatioAt w' r (lowN n x) (lowD n x) ∧ Below w.heap.size w w' := RatioOf_any x n w (by omega) (by omega) hd (by omega)
theorem low_lt {M : Nat} (hM : 0 < M) {z : Int} (hM6 : M ≤ 4096) (hz : -1000000 ≤ z ∧ z ≤ 1000000) : (lowN M z).natAbs < 1000000 ^ 3 ∧ lowD M z < 1000000 ^ 3 := by
  have p3 : (1000000 : Nat) ^ 3 = 1000000000000000000 := by decide
  have h1 := lowN_le hM z
  have h2 := lowD_le M z
  rw [p3]
  omega
end Go.Proofs.YtmdimdoglpiiiaaGreatDoor

/- The document's Entropy of a Wide. -/
namespace Go.Proofs.YtmdimdoglpiiiaaGreatDoor
open Go.RowKit

theorem RowAt.kept {w w' : World} {b o n : Nat} {z : Nat → Int} (h : RowAt w b o n z) (hk : IntsKept w w') : RowAt w' b o n z := fun i hi => hk _ _ (h i hi)

end Go.Proofs.YtmdimdoglpiiiaaGreatDoor

/- The document's Told of a sum that has a form; EntropyOf. -/
namespace Go.Proofs.YtmdimdoglpiiiaaGreatDoor
open Go.RowKit

theorem row_form {w : World} {base : Nat} {t : TypeId} {sz : Nat} {v : Value} {n : Nat} {xs : List Value} (h : w.ownsRow base t sz v n xs) : ∃ ad cap, v = .slice ad n cap := by
  rcases h.2 with ⟨rfl, h0⟩ | ⟨gg, cap', cur', rfl, _⟩
  · exact ⟨none, 0, by rw [h0]⟩
  · exact ⟨_, _, rfl⟩
end Go.Proofs.YtmdimdoglpiiiaaGreatDoor

/- The law's closed fact: of a fair coin the entropy is 1. -/
namespace Go.Proofs.YtmdimdoglpiiiaaGreatDoor
open Go.RowKit Go.Maps

theorem pr_two' : Pr 2 := (isPr_iff 2).1 (by decide)
theorem coin_val (x : Int) : sumN (entV (fun _ => 3) 6 x) 2 = atL [((2 : Int), (6 : Int))] x := by
  have h := multI_step x (n := 6) (d := 2) (by decide) pr_two' (by decide)
  have e : 6 / 2 = 3 := by decide
  rw [e] at h
  show 0 + (3 * multI x 6 - 3 * multI x (3 : Int).toNat) + (3 * multI x 6 - 3 * multI x (3 : Int).toNat) = if (2 : Int) = x then 6 else 0
  have e3 : (3 : Int).toNat = 3 := rfl
  rw [e3, h]
  rw [show ((2 : Nat) : Int) = 2 from rfl]
  by_cases hx : x = 2
  · subst hx; simp; omega
  · rw [if_neg hx, if_neg (fun e => hx e.symm)]; omega
theorem coin_list {base : Nat} {w : World} {dn : Int} {v : Value} (h : LogBy base 6 (fun x => sumN (entV (fun _ => 3) 6 x) 2) w dn v) : dn = 1 ∧ OwnAt w v 1 (fun _ => 2) (fun _ => 1) := by
  obtain ⟨l, hr, hv, _, hd, hl⟩ := h.list
  have he : ∀ x, atL l x = atL [((2 : Int), (6 : Int))] x := fun x => by rw [hv, coin_val]
  have hr' : Rising [((2 : Int), (6 : Int))] := List.pairwise_singleton _ _
  rw [gList_same hr hr' he, over_same hr hr' he] at hl
  rw [gList_same hr hr' he] at hd
  have e1 : overL (gList 6 (List.map Prod.snd [((2 : Int), (6 : Int))])) [((2 : Int), (6 : Int))] = [(2, 1)] := by decide
  rw [e1] at hl
  refine ⟨by rw [hd]; decide, ?_⟩
  rcases hl with ⟨_, h0⟩ | ⟨g, cap, h1, h2⟩
  · cases h0
  · refine Or.inr ⟨g, cap, h1, fun k hk => ?_⟩
    obtain rfl : k = 0 := by omega
    exact h2 0 (by decide)

end Go.Proofs.YtmdimdoglpiiiaaGreatDoor

/- isLog at errors. -/
namespace Go.Proofs.YtmdimdoglpiiiaaGreatDoor
open Go.RowKit

/-- A result's box behind calls. -/
theorem box_past2 {w w1 : World} {x y : Value} {t : TypeId} (hb : Below (w.alloc (.cells #[x, y] t)).heap.size (w.alloc (.cells #[x, y] t)) w1) : w1.cell? ⟨w.heap.size, 0, none⟩ = some x ∧ w1.cell? ⟨w.heap.size, 1, none⟩ = some y ∧ w1.frozen? ⟨w.heap.size, 0, none⟩ = false ∧ w1.frozen? ⟨w.heap.size, 1, none⟩ = false := res_past hb

end Go.Proofs.YtmdimdoglpiiiaaGreatDoor

/- dist.Joint; the law DistJoint. -/
namespace Go.Proofs.YtmdimdoglpiiiaaGreatDoor
open Go.RowKit Go.Maps

theorem tabErr_ok {R : Nat} {ns : Nat → Nat} {zs : Nat → Nat → Int} (h : tabErr R ns zs = 0) : R ≤ 16 ∧ longB ns R = false ∧ unevenB ns R = false ∧ OkW (atF (flatL ns zs R)) (flatL ns zs R).length ∧ (flatL ns zs R).length ≤ 256 := by
  unfold tabErr at h
  by_cases h1 : 16 < R
  · rw [if_pos h1] at h; cases h
  rw [if_neg h1] at h
  cases h2 : longB ns R with
  | true => rw [h2, if_pos rfl] at h; cases h
  | false =>
    rw [h2, if_neg (by simp)] at h
    cases h3 : unevenB ns R with
    | true => rw [h3, if_pos rfl] at h; cases h
    | false =>
      rw [h3, if_neg (by simp)] at h
      exact ⟨by omega, rfl, rfl, listErr_ok h, by rw [flatL_length]; exact sumT_small h1 h2⟩
theorem tabErr_le (R : Nat) (ns : Nat → Nat) (zs : Nat → Nat → Int) : tabErr R ns zs ≤ 3 := by
  unfold tabErr listErr
  repeat (split; omega)
  omega
theorem row_some {w : World} {base : Nat} {v : Value} {n : Nat} {l : List Int} (h : w.ownsRow base 3 1 v n (cellL l)) (hl : l.length = n) (h0 : 0 < n) : ∃ g cap, v = .slice (some ⟨g, 0, none⟩) n cap ∧ RowAt w g 0 n (atF l) := by
  subst hl
  rcases numsAt_row h with ⟨_, _, _, h1⟩ | ⟨b, o, cap, hv, _, hr⟩
  · omega
  · rcases h.2 with ⟨hv', _⟩ | ⟨g, cap', cur, hv', _⟩
    · rw [hv] at hv'; simp at hv'
    · rw [hv] at hv'
      simp only [Value.slice.injEq, Option.some.injEq, Addr.mk.injEq, and_true, true_and] at hv'
      obtain ⟨⟨rfl, rfl⟩, rfl⟩ := hv'
      exact ⟨b, cap, hv, hr⟩

end Go.Proofs.YtmdimdoglpiiiaaGreatDoor

/- Right tables: rows, columns, all. -/
namespace Go.Proofs.YtmdimdoglpiiiaaGreatDoor

def lsum : List Int → Int
  | [] => 0
  | x :: r => x + lsum r
theorem lsum_append : ∀ l r : List Int, lsum (l ++ r) = lsum l + lsum r
  | [], r => by simp [lsum]
  | x :: l, r => by simp only [List.cons_append, lsum, lsum_append l r]; omega
theorem lsum_row (z : Nat → Int) : ∀ n, lsum (rowL z n) = sumN z n
  | 0 => rfl
  | n + 1 => by
    have ih := lsum_row z n
    unfold rowL at ih ⊢
    rw [List.range_succ, List.map_append, lsum_append, ih]
    simp [lsum, sumN]
theorem rowL_atF (l : List Int) : rowL (atF l) l.length = l := by
  refine List.ext_getElem (by simp [rowL]) (fun i h1 h2 => ?_)
  simp [rowL, atF, List.getD, List.getElem?_eq_getElem h2]
theorem sumN_list (l : List Int) : sumN (atF l) l.length = lsum l := by rw [← lsum_row, rowL_atF]
/-- A function's sum over a list, as over its places. -/
theorem sumN_map (g : Int → Int) (l : List Int) : sumN (fun i => g (atF l i)) l.length = lsum (l.map g) := by
  have h : rowL (fun i => g (atF l i)) l.length = l.map g := by
    refine List.ext_getElem (by simp [rowL]) (fun i h1 h2 => ?_)
    have h3 : i < l.length := by simpa using h2
    simp [rowL, atF, List.getD, List.getElem?_eq_getElem h3]
  rw [← lsum_row, h]
theorem lsum_flat (g : Int → Int) (ns : Nat → Nat) (zs : Nat → Nat → Int) : ∀ k, lsum ((flatL ns zs k).map g) = sumN (fun i => sumN (fun j => g (zs i j)) (ns i)) k
  | 0 => rfl
  | k + 1 => by
    show lsum ((flatL ns zs k ++ rowL (zs k) (ns k)).map g) = _
    rw [List.map_append, lsum_append, lsum_flat g ns zs k]
    have : (rowL (zs k) (ns k)).map g = rowL (fun j => g (zs k j)) (ns k) := by simp [rowL]
    rw [this, lsum_row]
    rfl
theorem mem_flat {ns : Nat → Nat} {zs : Nat → Nat → Int} : ∀ {k i j : Nat}, i < k → j < ns i → zs i j ∈ flatL ns zs k
  | k + 1, i, j, hi, hj => by
    show zs i j ∈ flatL ns zs k ++ rowL (zs k) (ns k)
    rw [List.mem_append]
    rcases Nat.lt_or_ge i k with h | h
    · exact Or.inl (mem_flat h hj)
    · obtain rfl : i = k := by omega
      exact Or.inr (List.mem_map.2 ⟨j, List.mem_range.2 hj, rfl⟩)
/-- A right table. -/
structure OkT (R : Nat) (ns : Nat → Nat) (zs : Nat → Nat → Int) (N : Nat) : Prop where
  r0 : 0 < R
  r16 : R ≤ 16
  c0 : 0 < ns 0
  c16 : ns 0 ≤ 16
  even : ∀ i, i < R → ns i = ns 0
  nn : ∀ i, i < R → ∀ j, j < ns i → 0 ≤ zs i j
  tot : sumN (fun i => sumN (zs i) (ns i)) R = N
  n1 : 1 ≤ N
  n6 : N ≤ 4096
theorem not_uneven {ns : Nat → Nat} {n i : Nat} (h : unevenB ns n = false) (hi : i < n) : ns i = ns 0 := by
  by_cases h' : ns i = ns 0
  · exact h'
  · rw [unevenB_mono hi h'] at h; cases h
theorem okT_of {R : Nat} {ns : Nat → Nat} {zs : Nat → Nat → Int} (h1 : R ≤ 16) (h2 : longB ns R = false) (h3 : unevenB ns R = false) (h4 : OkW (atF (flatL ns zs R)) (flatL ns zs R).length) : ∃ N, OkT R ns zs N ∧ sumN (atF (flatL ns zs R)) (flatL ns zs R).length = N := by
  obtain ⟨N, hN⟩ := Int.eq_ofNat_of_zero_le (Int.le_of_lt h4.pos)
  have hp := h4.posN
  rw [flatL_length] at hp
  have hr0 : 0 < R := Nat.pos_of_ne_zero (fun e => by subst e; simp [sumT] at hp)
  have hc0 : 0 < ns 0 := Nat.pos_of_ne_zero (fun e => by
    have := sumT_le (ns := ns) (B := 0) (n := R) (fun i hi => by have := not_uneven h3 hi; omega)
    omega)
  have h5 := h4.pos
  have h6 := h4.le
  have hsum : sumN (atF (flatL ns zs R)) (flatL ns zs R).length = sumN (fun i => sumN (zs i) (ns i)) R := by
    rw [sumN_list]
    have := lsum_flat id ns zs R
    simpa using this
  refine ⟨N, ⟨hr0, h1, hc0, not_long h2 0 hr0, fun i hi => not_uneven h3 hi, fun i hi j hj => ?_, by rw [← hsum]; exact hN, by omega, by omega⟩, hN⟩
  obtain ⟨q, hq⟩ := List.getElem?_of_mem (mem_flat (zs := zs) hi hj)
  have hql : q < (flatL ns zs R).length := by
    rcases Nat.lt_or_ge q (flatL ns zs R).length with h' | h'
    · exact h'
    · rw [List.getElem?_eq_none h'] at hq; cases hq
  have := h4.nn q hql
  unfold atF at this
  rw [List.getD_eq_getElem?_getD, hq] at this
  exact this
theorem OkT.row {R : Nat} {ns : Nat → Nat} {zs : Nat → Nat → Int} {N : Nat} (h : OkT R ns zs N) {i : Nat} (hi : i < R) : 0 ≤ sumN (zs i) (ns i) ∧ sumN (zs i) (ns i) ≤ N := by
  have h1 := sumN_nonneg (h.nn i hi)
  have h2 := sumN_ge (z := fun i => sumN (zs i) (ns i)) (n := R) (fun k hk => sumN_nonneg (h.nn k hk)) hi
  rw [h.tot] at h2
  exact ⟨h1, h2⟩
theorem OkT.cell {R : Nat} {ns : Nat → Nat} {zs : Nat → Nat → Int} {N : Nat} (h : OkT R ns zs N) {i j : Nat} (hi : i < R) (hj : j < ns i) : 0 ≤ zs i j ∧ zs i j ≤ 4096 := by
  have h1 := h.nn i hi j hj
  have h2 := sumN_ge (h.nn i hi) hj
  have h3 := (h.row hi).2
  have h4 := h.n6
  exact ⟨h1, by omega⟩
theorem OkT.part {R : Nat} {ns : Nat → Nat} {zs : Nat → Nat → Int} {N : Nat} (h : OkT R ns zs N) {i k : Nat} (hi : i < R) (hk : k ≤ ns i) : 0 ≤ sumN (zs i) k ∧ sumN (zs i) k ≤ 4096 := by
  have h1 := sumN_nonneg (z := zs i) (n := k) (fun j hj => h.nn i hi j (by omega))
  have h2 := sumN_mono (h.nn i hi) hk
  have h3 := (h.row hi).2
  have h4 := h.n6
  exact ⟨h1, by omega⟩
def colV (zs : Nat → Nat → Int) (k j : Nat) : Int := sumN (fun i => zs i j) k
theorem OkT.col {R : Nat} {ns : Nat → Nat} {zs : Nat → Nat → Int} {N : Nat} (h : OkT R ns zs N) {k j : Nat} (hk : k ≤ R) (hj : j < ns 0) : 0 ≤ colV zs k j ∧ colV zs k j ≤ 4096 := by
  have h1 : 0 ≤ colV zs k j := sumN_nonneg (fun i hi => h.nn i (by omega) j (by rw [h.even i (by omega)]; exact hj))
  have h2 : colV zs k j ≤ sumN (fun i => sumN (zs i) (ns i)) k := sumN_le (fun i hi => sumN_ge (h.nn i (by omega)) (by rw [h.even i (by omega)]; exact hj))
  have h3 := sumN_mono (z := fun i => sumN (zs i) (ns i)) (k := k) (n := R) (fun i hi => sumN_nonneg (h.nn i hi)) hk
  have h4 := h.tot
  have h5 := h.n6
  exact ⟨h1, by omega⟩
end Go.Proofs.YtmdimdoglpiiiaaGreatDoor

/- Rows' and columns' sums: the document's and the program's. -/
namespace Go.Proofs.YtmdimdoglpiiiaaGreatDoor
open Go.RowKit

def rowSum (ns : Nat → Nat) (zs : Nat → Nat → Int) (i : Nat) : Int := sumN (zs i) (ns i)
/-- A right table's rows, as the walk reads them. -/
theorem tab_rows {w : World} {ad : Option Addr} {R cap : Nat} {vs : Nat → Value} {ns : Nat → Nat} {zs : Nat → Nat → Int} {N : Nat} (h : TabAt w (.slice ad R cap) R vs ns zs) (hk : OkT R ns zs N) : ∃ b o, ad = some ⟨b, o, none⟩ ∧ ∀ W, Below w.heap.size w W → ∀ i, i < R → ∃ b1 o1 cap1, W.cell? ⟨b, o + i, none⟩ = some (.slice (some ⟨b1, o1, none⟩) (ns 0) cap1) ∧ RowAt W b1 o1 (ns 0) (zs i) := by
  rcases h with ⟨_, _, _, h0⟩ | ⟨b, o, c, hv, _, hr⟩
  · have := hk.r0; omega
  · simp only [Value.slice.injEq, true_and] at hv
    obtain ⟨rfl, rfl⟩ := hv
    refine ⟨b, o, rfl, fun W hb i hi => ?_⟩
    obtain ⟨h1, h2⟩ := hr i hi
    have he := hk.even i hi
    have hc := hk.c0
    rcases h2.later hb with ⟨_, _, _, h3⟩ | ⟨b1, o1, c1, hv1, _, hr1⟩
    · omega
    · rw [he] at hv1 hr1
      exact ⟨b1, o1, c1, by rw [hb.cell (cell_lt h1), h1, hv1], hr1⟩

end Go.Proofs.YtmdimdoglpiiiaaGreatDoor

/- dist.columnSums, Rows, Columns. -/
namespace Go.Proofs.YtmdimdoglpiiiaaGreatDoor
open Go.RowKit

theorem tabErr_okT {R : Nat} {ns : Nat → Nat} {zs : Nat → Nat → Int} (h : tabErr R ns zs = 0) : ∃ N, OkT R ns zs N ∧ sumN (atF (flatL ns zs R)) (flatL ns zs R).length = N := by
  unfold tabErr at h
  by_cases h1 : 16 < R
  · rw [if_pos h1] at h; cases h
  rw [if_neg h1] at h
  cases h2 : longB ns R with
  | true => rw [h2, if_pos rfl] at h; cases h
  | false =>
    rw [h2, if_neg (by simp)] at h
    cases h3 : unevenB ns R with
    | true => rw [h3, if_pos rfl] at h; cases h
    | false =>
      rw [h3, if_neg (by simp)] at h
      exact okT_of (by omega) h2 h3 (listErr_ok h)

end Go.Proofs.YtmdimdoglpiiiaaGreatDoor

/- Cells beside a map. -/
namespace Go.Proofs.YtmdimdoglpiiiaaGreatDoor
open Go.RowKit Go.Maps

/-- A cell beside a map's block. -/
theorem cell_side {w w' : World} {mb nn B o : Nat} {v : Value} {D : DataW Unit} {k : TypeId} {R : Value → Option (DataW Unit × List MemPlace)} (hm : w.ownsMap Tryz.prog k R mb nn D) (hg : w.grownBy w' (some mb)) (hc : w.cell? ⟨B, o, none⟩ = some v) : w'.cell? ⟨B, o, none⟩ = some v := by
  refine cell_beside hg hc ?_
  rintro rfl
  rw [map_no_cell hm] at hc
  cases hc

end Go.Proofs.YtmdimdoglpiiiaaGreatDoor

/- dist.Mutual: what it puts. -/
namespace Go.Proofs.YtmdimdoglpiiiaaGreatDoor
open Go.RowKit Go.Maps

/-- What a cell puts. -/
def mutV (z : Nat → Int) (r : Int) (cv : Nat → Int) (N : Nat) (x : Int) (j : Nat) : Int := z j * multI x (z j).toNat + z j * multI x N + -(z j) * multI x r.toNat + -(z j) * multI x (cv j).toNat
theorem mutV_le {z cv : Nat → Int} {r : Int} {N j : Nat} (x : Int) (hz : 0 ≤ z j ∧ z j ≤ 4096) (hr : 0 ≤ r ∧ r ≤ 4096) (hc : 0 ≤ cv j ∧ cv j ≤ 4096) (hN : N ≤ 4096) : -400000 ≤ mutV z r cv N x j ∧ mutV z r cv N x j ≤ 400000 := by
  unfold mutV
  have h1 := mul_weight (t := z j) (by omega) (multI_small x (n := (z j).toNat) (by omega))
  have h2 := mul_weight (t := z j) (by omega) (multI_small x (n := N) (by omega))
  have h3 := mul_weight (t := -(z j)) (by omega) (multI_small x (n := r.toNat) (by omega))
  have h4 := mul_weight (t := -(z j)) (by omega) (multI_small x (n := (cv j).toNat) (by omega))
  omega
/-- A table's numbers with what its rows and columns hold together. -/
structure OkM (R C N : Nat) (zs : Nat → Nat → Int) (rv cv : Nat → Int) : Prop where
  r16 : R ≤ 16
  c16 : C ≤ 16
  n1 : 1 ≤ N
  n6 : N ≤ 4096
  z : ∀ i, i < R → ∀ j, j < C → 0 ≤ zs i j ∧ zs i j ≤ 4096
  r : ∀ i, i < R → 0 ≤ rv i ∧ rv i ≤ 4096
  c : ∀ j, j < C → 0 ≤ cv j ∧ cv j ≤ 4096
  zr : ∀ i, i < R → ∀ j, j < C → zs i j ≤ rv i ∧ zs i j ≤ cv j
theorem mutR_le {R C N : Nat} {zs : Nat → Nat → Int} {rv cv : Nat → Int} (h : OkM R C N zs rv cv) (x : Int) {i m : Nat} (hi : i < R) (hm : m ≤ C) : -6400000 ≤ sumN (mutV (zs i) (rv i) cv N x) m ∧ sumN (mutV (zs i) (rv i) cv N x) m ≤ 6400000 := by
  have h3 := sumN_bound (f := mutV (zs i) (rv i) cv N x) (B := 400000) (n := m) (fun j hj => mutV_le x (h.z i hi j (by omega)) (h.r i hi) (h.c j (by omega)) h.n6)
  have h5 := h.c16
  have : (m : Int) * 400000 ≤ 6400000 := by omega
  omega
theorem mutT_le {R C N : Nat} {zs : Nat → Nat → Int} {rv cv : Nat → Int} (h : OkM R C N zs rv cv) (x : Int) {k : Nat} (hk : k ≤ R) : -102400000 ≤ sumN (fun i => sumN (mutV (zs i) (rv i) cv N x) C) k ∧ sumN (fun i => sumN (mutV (zs i) (rv i) cv N x) C) k ≤ 102400000 := by
  have h3 := sumN_bound (f := fun i => sumN (mutV (zs i) (rv i) cv N x) C) (B := 6400000) (n := k) (fun i hi => mutR_le h x (by omega) (Nat.le_refl _))
  have h5 := h.r16
  have : (k : Int) * 6400000 ≤ 102400000 := by omega
  omega

end Go.Proofs.YtmdimdoglpiiiaaGreatDoor

/- dist.Mutual. -/
namespace Go.Proofs.YtmdimdoglpiiiaaGreatDoor
open Go.RowKit Go.Maps

theorem okM_of {R N : Nat} {ns : Nat → Nat} {zs : Nat → Nat → Int} (h : OkT R ns zs N) : OkM R (ns 0) N zs (rowSum ns zs) (colV zs R) :=
  ⟨h.r16, h.c16, h.n1, h.n6, fun i hi j hj => h.cell hi (by rw [h.even i hi]; exact hj), fun i hi => by have h1 := h.row hi; have h2 := h.n6; unfold rowSum; omega, fun j hj => h.col (Nat.le_refl _) hj,
    fun i hi j hj => ⟨sumN_ge (h.nn i hi) (by rw [h.even i hi]; exact hj), sumN_ge (z := fun i => zs i j) (fun i hi => h.nn i hi j (by rw [h.even i hi]; exact hj)) hi⟩⟩
/-- Two rows, and the boxes of their slices. -/
structure TwoRows (W0 W : World) (B1 B2 g1 c1 n1 : Nat) (z1 : Nat → Int) (g2 c2 n2 : Nat) (z2 : Nat → Int) : Prop where
  below : Below W0.heap.size W0 W
  b1 : W.cell? ⟨B1, 0, none⟩ = some (.slice (some ⟨g1, 0, none⟩) n1 c1)
  b2 : W.cell? ⟨B2, 0, none⟩ = some (.slice (some ⟨g2, 0, none⟩) n2 c2)
  r1 : RowAt W g1 0 n1 z1
  r2 : RowAt W g2 0 n2 z2
theorem TwoRows.later {W0 W W' : World} {B1 B2 g1 c1 n1 g2 c2 n2 : Nat} {z1 z2 : Nat → Int} (h : TwoRows W0 W B1 B2 g1 c1 n1 z1 g2 c2 n2 z2) (hb : Below W.heap.size W W') : TwoRows W0 W' B1 B2 g1 c1 n1 z1 g2 c2 n2 z2 :=
  ⟨below_chain h.below hb, (cell_past h.b1 hb).2, (cell_past h.b2 hb).2, h.r1.later hb, h.r2.later hb⟩
/-- A new box with nothing in it. -/
structure NewRow (W0 W : World) (B : Nat) : Prop where
  c0 : W.cell? ⟨B, 0, none⟩ = some (.slice none 0 0)
  f0 : W.frozen? ⟨B, 0, none⟩ = false
  hB : W0.heap.size ≤ B
theorem NewRow.later {W0 W W' : World} {B : Nat} (h : NewRow W0 W B) (hb : Below W.heap.size W W') : NewRow W0 W' B := ⟨(cell_past h.c0 hb).2, (frozen_past h.c0 h.f0 hb).2, h.hB⟩
theorem newRow_new {W0 W : World} (h : Below W0.heap.size W0 W) : NewRow W0 (W.alloc (.cells #[.slice none 0 0] 32)) W.heap.size := ⟨by simp, by simp, h.size⟩

theorem NewRow.al {W0 W : World} {B : Nat} (h : NewRow W0 W B) : (∀ X, (W.alloc X).cell? ⟨B, 0, none⟩ = some (.slice none 0 0)) ∧ ∀ X, (W.alloc X).frozen? ⟨B, 0, none⟩ = false := ⟨fun X => (h.later (new_below _ X)).c0, fun X => (h.later (new_below _ X)).f0⟩
theorem NewRow.ne {W0 W : World} {B : Nat} (h : NewRow W0 W B) : (¬ B = W.heap.size) ∧ ¬ W.heap.size = B := by
  have hz := cell_lt h.c0
  simp only at hz
  exact ⟨by omega, by omega⟩
theorem newRow_of {W0 w w' : World} (h : Below W0.heap.size W0 w) {X : Obj} (hX : X = .cells #[.slice none 0 0] 32) (hb : Below (w.alloc X).heap.size (w.alloc X) w') : NewRow W0 w' w.heap.size := by
  subst hX
  exact (newRow_new h).later hb
theorem newRow_of2 {W0 w w' : World} (h : Below W0.heap.size W0 w) {X Y : Obj} (hX : X = .cells #[.slice none 0 0] 32) (hY : Y = .cells #[.slice none 0 0] 32) (hb : Below ((w.alloc X).alloc Y).heap.size ((w.alloc X).alloc Y) w') : NewRow W0 w' w.heap.size ∧ NewRow W0 w' (w.heap.size + 1) := by
  subst hX
  subst hY
  have h2 := (newRow_new (more_below h (.cells #[.slice none 0 0] 32))).later hb
  rw [World.size_alloc] at h2
  exact ⟨((newRow_new h).later (new_below _ _)).later hb, h2⟩
theorem row_not_box {W0 w : World} {g n B : Nat} {z : Nat → Int} (h : RowAt w g 0 n z) (h0 : 0 < n) (nb : NewRow W0 w B) : g ≠ B := fun e => by
  have h1 := h 0 h0
  rw [e, show (0 : Nat) + 0 = 0 from rfl, nb.c0] at h1
  cases h1
theorem row_set {w : World} {g n B : Nat} {z : Nat → Int} {v : Value} (h : RowAt w g 0 n z) (hne : g ≠ B) : RowAt (w.setCell ⟨B, 0, none⟩ v) g 0 n z := fun i hi => by
  rw [World.cell?_setCell_other _ _ _ _ (by simp <;> omega)]
  exact h i hi
theorem twoRows_a {W0 w : World} {g1 c1 n1 g2 c2 n2 : Nat} {z1 z2 : Nat → Int} (hb : Below W0.heap.size W0 w) (r1 : RowAt w g1 0 n1 z1) (r2 : RowAt w g2 0 n2 z2) : TwoRows W0 ((w.alloc (.cells #[.slice (some ⟨g1, 0, none⟩) n1 c1] 32)).alloc (.cells #[.slice (some ⟨g2, 0, none⟩) n2 c2] 32)) w.heap.size (w.heap.size + 1) g1 c1 n1 z1 g2 c2 n2 z2 :=
  ⟨more_below (more_below hb _) _, new_one (new_below _ _), by rw [World.cell?_alloc_at _ _ _ _ (by simp)]; rfl, (r1.later (new_below _ _)).later (new_below _ _), (r2.later (new_below _ _)).later (new_below _ _)⟩
theorem twoRows_b {W0 w : World} {g1 c1 n1 g2 c2 n2 : Nat} {z1 z2 : Nat → Int} (hb : Below W0.heap.size W0 w) (r1 : RowAt w g1 0 n1 z1) (r2 : RowAt w g2 0 n2 z2) : TwoRows W0 ((w.alloc (.cells #[.slice (some ⟨g2, 0, none⟩) n2 c2] 32)).alloc (.cells #[.slice (some ⟨g1, 0, none⟩) n1 c1] 32)) (w.heap.size + 1) w.heap.size g1 c1 n1 z1 g2 c2 n2 z2 :=
  ⟨more_below (more_below hb _) _, by rw [World.cell?_alloc_at _ _ _ _ (by simp)]; rfl, new_one (new_below _ _), (r1.later (new_below _ _)).later (new_below _ _), (r2.later (new_below _ _)).later (new_below _ _)⟩
theorem twoRows_d {W0 w : World} {B : Nat} {g1 c1 n1 g2 c2 n2 : Nat} {z1 z2 : Nat → Int} (hb : Below W0.heap.size W0 w) (r1 : RowAt w g1 0 n1 z1) (r2 : RowAt w g2 0 n2 z2) (p1 : 0 < n1) (p2 : 0 < n2) (nb : NewRow W0 w B) : TwoRows W0 ((w.alloc (.cells #[.slice (some ⟨g1, 0, none⟩) n1 c1] 32)).setCell ⟨B, 0, none⟩ (.slice (some ⟨g2, 0, none⟩) n2 c2)) w.heap.size B g1 c1 n1 z1 g2 c2 n2 z2 := by
  have hn := nb.later (new_below w (.cells #[.slice (some ⟨g1, 0, none⟩) n1 c1] 32))
  refine ⟨(more_below hb _).setCell hn.hB _, ?_, World.cell?_setCell_same _ _ _ hn.c0, row_set (r1.later (new_below _ _)) (row_not_box r1 p1 nb), row_set (r2.later (new_below _ _)) (row_not_box r2 p2 nb)⟩
  have := nb.ne
  rw [World.cell?_setCell_other _ _ _ _ (by simp <;> omega), World.cell?_alloc_at _ _ _ _ (by simp)]
  rfl
theorem twoRows_e {W0 w : World} {B B' : Nat} {g1 c1 n1 g2 c2 n2 : Nat} {z1 z2 : Nat → Int} (hb : Below W0.heap.size W0 w) (r1 : RowAt w g1 0 n1 z1) (r2 : RowAt w g2 0 n2 z2) (p1 : 0 < n1) (p2 : 0 < n2) (nb : NewRow W0 w B) (nb' : NewRow W0 w B') (hne : B ≠ B') : TwoRows W0 ((w.setCell ⟨B, 0, none⟩ (.slice (some ⟨g1, 0, none⟩) n1 c1)).setCell ⟨B', 0, none⟩ (.slice (some ⟨g2, 0, none⟩) n2 c2)) B B' g1 c1 n1 z1 g2 c2 n2 z2 := by
  have h1 : (w.setCell ⟨B, 0, none⟩ (.slice (some ⟨g1, 0, none⟩) n1 c1)).cell? ⟨B', 0, none⟩ = some (.slice none 0 0) := by rw [World.cell?_setCell_other _ _ _ _ (by simp <;> omega)]; exact nb'.c0
  refine ⟨(hb.setCell nb.hB _).setCell nb'.hB _, ?_, World.cell?_setCell_same _ _ _ h1, row_set (row_set r1 (row_not_box r1 p1 nb)) (row_not_box r1 p1 nb'), row_set (row_set r2 (row_not_box r2 p2 nb)) (row_not_box r2 p2 nb')⟩
  rw [World.cell?_setCell_other _ _ _ _ (by simp <;> omega)]
  exact World.cell?_setCell_same _ _ _ nb.c0
theorem twoRows_c {W0 w : World} {B : Nat} {g1 c1 n1 g2 c2 n2 : Nat} {z1 z2 : Nat → Int} (hb : Below W0.heap.size W0 w) (r1 : RowAt w g1 0 n1 z1) (r2 : RowAt w g2 0 n2 z2) (p1 : 0 < n1) (p2 : 0 < n2) (nb : NewRow W0 w B) : TwoRows W0 (((w.alloc (.cells #[.slice none 0 0] 32)).setCell ⟨B, 0, none⟩ (.slice (some ⟨g1, 0, none⟩) n1 c1)).setCell ⟨w.heap.size, 0, none⟩ (.slice (some ⟨g2, 0, none⟩) n2 c2)) B w.heap.size g1 c1 n1 z1 g2 c2 n2 z2 :=
  twoRows_e (more_below hb _) (r1.later (new_below _ _)) (r2.later (new_below _ _)) p1 p2 (nb.later (new_below _ _)) (newRow_new hb) nb.ne.1

end Go.Proofs.YtmdimdoglpiiiaaGreatDoor

/- dist.Given. -/
namespace Go.Proofs.YtmdimdoglpiiiaaGreatDoor
open Go.RowKit Go.Maps

/-- What a row puts. -/
def givV (ns : Nat → Nat) (zs : Nat → Nat → Int) (x : Int) (i : Nat) : Int := sumN (entV (zs i) (sumN (zs i) (ns i)).toNat x) (ns i)
theorem givV_le {R N : Nat} {ns : Nat → Nat} {zs : Nat → Nat → Int} (h : OkT R ns zs N) (x : Int) {i : Nat} (hi : i < R) : -3200000 ≤ givV ns zs x i ∧ givV ns zs x i ≤ 3200000 := by
  have h1 := h.row hi
  have h2 := h.n6
  have h3 := sumN_bound (f := entV (zs i) (sumN (zs i) (ns i)).toNat x) (B := 200000) (n := ns i) (fun j hj => entV_le x (h.cell hi hj) (by omega))
  have h4 := h.even i hi
  have h5 := h.c16
  have : ((ns i : Nat) : Int) * 200000 ≤ 3200000 := by omega
  unfold givV
  omega

theorem giv_bound {R N : Nat} {ns : Nat → Nat} {zs : Nat → Nat → Int} (h : OkT R ns zs N) (x : Int) : -1000000000 ≤ sumN (givV ns zs x) R ∧ sumN (givV ns zs x) R ≤ 1000000000 := by
  have h3 := sumN_bound (f := givV ns zs x) (B := 3200000) (n := R) (fun i hi => givV_le h x hi)
  have h4 := h.r16
  have : (R : Int) * 3200000 ≤ 51200000 := by omega
  omega

end Go.Proofs.YtmdimdoglpiiiaaGreatDoor

/- The sides of what rows tell of columns; entropies of a table, held against each other. -/
namespace Go.Proofs.YtmdimdoglpiiiaaGreatDoor
open Go.RowKit

/-- It speaks of primes alone. -/
def Supp (f : Int → Int) : Prop := ∀ x, f x ≠ 0 → 2 ≤ x ∧ x ≤ 4096 ∧ Pr x.toNat
theorem supp_term (c : Int) (m : Nat) (h : c ≠ 0 → 0 < m ∧ m ≤ 4096) : Supp fun x => c * multI x m := fun x hx => by
  dsimp only at hx
  have h1 : c ≠ 0 := fun e => hx (by rw [e]; simp)
  have h2 : multI x m ≠ 0 := fun e => hx (by rw [e]; simp)
  obtain ⟨a1, a2, a3⟩ := multI_support (h h1).1 h2
  have := (h h1).2
  exact ⟨a2, by omega, a1⟩
theorem Supp.add {f g : Int → Int} (hf : Supp f) (hg : Supp g) : Supp fun x => f x + g x := fun x hx => by
  by_cases h : f x = 0
  · exact hg x (fun e => hx (by dsimp only; rw [h, e]; rfl))
  · exact hf x h
theorem Supp.sub {f g : Int → Int} (hf : Supp f) (hg : Supp g) : Supp fun x => f x - g x := fun x hx => by
  by_cases h : f x = 0
  · exact hg x (fun e => hx (by dsimp only; rw [h, e]; rfl))
  · exact hf x h
theorem supp_sum {F : Nat → Int → Int} : ∀ {n : Nat}, (∀ i, i < n → Supp (F i)) → Supp fun x => sumN (fun i => F i x) n
  | 0, _ => fun x hx => absurd rfl hx
  | n + 1, h => (supp_sum fun i hi => h i (by omega)).add (h n (by omega))
theorem sumN_zero : ∀ n, sumN (fun _ => 0) n = 0
  | 0 => rfl
  | n + 1 => by simp only [sumN]; rw [sumN_zero n]; rfl
theorem sumN_plus (f g : Nat → Int) : ∀ n, sumN (fun i => f i + g i) n = sumN f n + sumN g n
  | 0 => rfl
  | n + 1 => by simp only [sumN]; rw [sumN_plus f g n]; omega
theorem sumN_less (f g : Nat → Int) : ∀ n, sumN (fun i => f i - g i) n = sumN f n - sumN g n
  | 0 => rfl
  | n + 1 => by simp only [sumN]; rw [sumN_less f g n]; omega
theorem sumN_times (k : Int) (f : Nat → Int) : ∀ n, sumN (fun i => f i * k) n = sumN f n * k
  | 0 => by simp [sumN]
  | n + 1 => by simp only [sumN]; rw [sumN_times k f n, Int.add_mul]
theorem sumN_swap (F : Nat → Nat → Int) (C : Nat) : ∀ R, sumN (fun i => sumN (fun j => F i j) C) R = sumN (fun j => sumN (fun i => F i j) R) C
  | 0 => by simp only [sumN]; rw [sumN_zero]
  | R + 1 => by
    simp only [sumN]
    rw [sumN_swap F C R, ← sumN_plus]
/-- The columns' entropy by places. -/
theorem ent_cols (zs : Nat → Nat → Int) (R C N : Nat) (x : Int) : sumN (entV (colV zs R) N x) C = sumN (fun i => sumN (fun j => zs i j * (multI x N - multI x (colV zs R j).toNat)) C) R := by
  rw [sumN_swap]
  refine sumN_congr fun j _ => ?_
  rw [sumN_times]
  unfold entV
  show colV zs R j * _ - colV zs R j * _ = colV zs R j * _
  rw [Int.mul_sub]
/-- What is known of the columns less what is told if the row is known is what rows tell. -/
theorem less_told {R N : Nat} {ns : Nat → Nat} {zs : Nat → Nat → Int} (h : OkT R ns zs N) (x : Int) : sumN (entV (colV zs R) N x) (ns 0) - sumN (givV ns zs x) R = sumN (fun i => sumN (mutV (zs i) (rowSum ns zs i) (colV zs R) N x) (ns 0)) R := by
  rw [ent_cols, ← sumN_less]
  refine sumN_congr fun i hi => ?_
  unfold givV
  rw [h.even i hi, ← sumN_less]
  refine sumN_congr fun j _ => ?_
  unfold entV mutV rowSum
  rw [h.even i hi]
  grind
theorem mult_prod1 {x : Nat} (hx : Pr x) {a b : Nat → Nat} : ∀ {n : Nat}, (∀ i, i < n → 0 < a i → 0 < b i) → mult x (prodA (fun i => b i ^ a i) n) = sumA (fun i => a i * mult x (b i)) n ∧ 0 < prodA (fun i => b i ^ a i) n
  | 0, _ => ⟨by simp only [prodA, sumA]; exact mult_one hx.1, by simp [prodA]⟩
  | n + 1, h => by
    obtain ⟨h1, h2⟩ := mult_prod1 hx (n := n) (fun i hi => h i (by omega))
    have h3 : mult x (b n ^ a n) = a n * mult x (b n) ∧ 0 < b n ^ a n := by
      rcases Nat.eq_zero_or_pos (a n) with h0 | h0
      · rw [h0, Nat.pow_zero, Nat.zero_mul]
        exact ⟨mult_one hx.1, by omega⟩
      · exact ⟨mult_power hx (h n (by omega) h0) _, Nat.pow_pos (h n (by omega) h0)⟩
    simp only [prodA, sumA]
    exact ⟨by rw [mult_mul hx _ _ h2 h3.2, h1, h3.1], Nat.mul_pos h2 h3.2⟩
theorem mult_prod2 {x : Nat} (hx : Pr x) {a b : Nat → Nat → Nat} {C : Nat} : ∀ {R : Nat}, (∀ i, i < R → ∀ j, j < C → 0 < a i j → 0 < b i j) → mult x (prodA (fun i => prodA (fun j => b i j ^ a i j) C) R) = sumA (fun i => sumA (fun j => a i j * mult x (b i j)) C) R ∧ 0 < prodA (fun i => prodA (fun j => b i j ^ a i j) C) R
  | 0, _ => ⟨by simp only [prodA, sumA]; exact mult_one hx.1, by simp [prodA]⟩
  | R + 1, h => by
    obtain ⟨h1, h2⟩ := mult_prod2 hx (R := R) (fun i hi => h i (by omega))
    obtain ⟨h3, h4⟩ := mult_prod1 hx (fun j hj => h R (by omega) j hj)
    simp only [prodA, sumA]
    exact ⟨by rw [mult_mul hx _ _ h2 h4, h1, h3], Nat.mul_pos h2 h4⟩
theorem sumN_nat2 {z : Nat → Int} {a : Nat → Nat} : ∀ {n : Nat}, (∀ i, i < n → z i = (a i : Int)) → sumN z n = (sumA a n : Int)
  | 0, _ => rfl
  | n + 1, h => by
    simp only [sumN, sumA]
    rw [sumN_nat2 (n := n) (fun i hi => h i (by omega)), h n (by omega)]
    simp
/-- The sides of what rows tell. -/
theorem told_sides {R N : Nat} {ns : Nat → Nat} {zs : Nat → Nat → Int} (h : OkT R ns zs N) :
    ∃ U D : Nat, 0 < U ∧ 0 < D ∧ D ≤ U ∧ ∀ x : Nat, Pr x → sumN (fun i => sumN (mutV (zs i) (rowSum ns zs i) (colV zs R) N (x : Int)) (ns 0)) R = (mult x U : Int) - (mult x D : Int) := by
  obtain ⟨a, ha⟩ : ∃ a : Nat → Nat → Nat, ∀ i, i < R → ∀ j, j < ns 0 → zs i j = (a i j : Int) := ⟨fun i j => (zs i j).toNat, fun i hi j hj => by have := h.nn i hi j (by rw [h.even i hi]; exact hj); dsimp only; omega⟩
  have hr : ∀ i, i < R → rowSum ns zs i = (sumA (a i) (ns 0) : Int) := fun i hi => by
    unfold rowSum
    rw [h.even i hi]
    exact sumN_nat2 (fun j hj => ha i hi j hj)
  have hc : ∀ j, j < ns 0 → colV zs R j = (sumA (fun i => a i j) R : Int) := fun j hj => sumN_nat2 (fun i hi => ha i hi j hj)
  have hN : N = sumA (fun i => sumA (a i) (ns 0)) R := by
    have h1 := h.tot
    have h2 : sumN (fun i => sumN (zs i) (ns i)) R = (sumA (fun i => sumA (a i) (ns 0)) R : Int) := sumN_nat2 (fun i hi => hr i hi)
    omega
  have hN0 : 0 < N := h.n1
  have hle : ∀ i, i < R → ∀ j, j < ns 0 → a i j ≤ sumA (a i) (ns 0) ∧ a i j ≤ sumA (fun k => a k j) R := fun i hi j hj => ⟨sumA_ge (a i) hj, sumA_ge (fun k => a k j) hi⟩
  have h2 : Pr 2 := ⟨by omega, fun d hd hdd => by have := Nat.mul_le_mul hd hd; omega⟩
  have p1 : ∀ i, i < R → ∀ j, j < ns 0 → 0 < a i j → 0 < a i j := fun _ _ _ _ h => h
  have p2 : ∀ i, i < R → ∀ j, j < ns 0 → 0 < a i j → 0 < sumA (a i) (ns 0) * sumA (fun k => a k j) R := fun i hi j hj h0 => by
    have := hle i hi j hj
    exact Nat.mul_pos (by omega) (by omega)
  have u2 := (mult_prod2 h2 (b := a) p1).2
  have d2 := (mult_prod2 h2 (a := a) (b := fun i j => sumA (a i) (ns 0) * sumA (fun k => a k j) R) p2).2
  refine ⟨N ^ N * prodA (fun i => prodA (fun j => a i j ^ a i j) (ns 0)) R, prodA (fun i => prodA (fun j => (sumA (a i) (ns 0) * sumA (fun k => a k j) R) ^ a i j) (ns 0)) R, Nat.mul_pos (Nat.pow_pos hN0) u2, d2, told_le a (ns 0) R N hN hN0, fun x hx => ?_⟩
  rw [mult_mul hx _ _ (Nat.pow_pos hN0) u2, mult_power hx hN0, (mult_prod2 hx (b := a) p1).1, (mult_prod2 hx (a := a) (b := fun i j => sumA (a i) (ns 0) * sumA (fun k => a k j) R) p2).1]
  have e : ∀ m, multI (x : Int) m = (mult x m : Int) := fun m => by rw [multI_pr (by simpa using hx)]; simp
  have key : sumN (fun i => sumN (mutV (zs i) (rowSum ns zs i) (colV zs R) N (x : Int)) (ns 0)) R = sumN (fun i => sumN (fun j => ((a i j * mult x (a i j) : Nat) : Int) + ((a i j : Nat) : Int) * (mult x N : Int) - ((a i j * mult x (sumA (a i) (ns 0) * sumA (fun k => a k j) R) : Nat) : Int)) (ns 0)) R := by
    refine sumN_congr fun i hi => sumN_congr fun j hj => ?_
    unfold mutV
    rw [ha i hi j hj, hr i hi, hc j hj]
    simp only [Int.toNat_natCast, e]
    rcases Nat.eq_zero_or_pos (a i j) with h0 | h0
    · rw [h0]; simp
    · have := hle i hi j hj
      rw [mult_mul hx _ _ (show 0 < sumA (a i) (ns 0) by omega) (show 0 < sumA (fun k => a k j) R by omega)]
      simp only [Int.natCast_mul, Int.natCast_add]
      grind
  rw [key]
  have split3 : ∀ i, sumN (fun j => ((a i j * mult x (a i j) : Nat) : Int) + ((a i j : Nat) : Int) * (mult x N : Int) - ((a i j * mult x (sumA (a i) (ns 0) * sumA (fun k => a k j) R) : Nat) : Int)) (ns 0) = ((sumA (fun j => a i j * mult x (a i j)) (ns 0) : Nat) : Int) + ((sumA (a i) (ns 0) : Nat) : Int) * (mult x N : Int) - ((sumA (fun j => a i j * mult x (sumA (a i) (ns 0) * sumA (fun k => a k j) R)) (ns 0) : Nat) : Int) := fun i => by
    rw [sumN_less, sumN_plus, sumN_times]
    rw [sumN_nat2 (z := fun j => ((a i j * mult x (a i j) : Nat) : Int)) (fun _ _ => rfl), sumN_nat2 (z := fun j => ((a i j : Nat) : Int)) (fun _ _ => rfl), sumN_nat2 (z := fun j => ((a i j * mult x (sumA (a i) (ns 0) * sumA (fun k => a k j) R) : Nat) : Int)) (fun _ _ => rfl)]
  rw [sumN_congr (fun i _ => split3 i), sumN_less, sumN_plus, sumN_times]
  rw [sumN_nat2 (z := fun i => ((sumA (fun j => a i j * mult x (a i j)) (ns 0) : Nat) : Int)) (fun _ _ => rfl), sumN_nat2 (z := fun i => ((sumA (a i) (ns 0) : Nat) : Int)) (fun _ _ => rfl), sumN_nat2 (z := fun i => ((sumA (fun j => a i j * mult x (sumA (a i) (ns 0) * sumA (fun k => a k j) R)) (ns 0) : Nat) : Int)) (fun _ _ => rfl), ← hN]
  simp only [Int.natCast_add, Int.natCast_mul]
  omega
theorem OkT.pos {R N : Nat} {ns : Nat → Nat} {zs : Nat → Nat → Int} (h : OkT R ns zs N) {i j : Nat} (hi : i < R) (hj : j < ns 0) : zs i j ≠ 0 → (0 < (zs i j).toNat ∧ (zs i j).toNat ≤ 4096) ∧ (0 < (rowSum ns zs i).toNat ∧ (rowSum ns zs i).toNat ≤ 4096) ∧ (0 < (colV zs R j).toNat ∧ (colV zs R j).toNat ≤ 4096) := fun h0 => by
  have h1 := h.cell hi (by rw [h.even i hi]; exact hj)
  have h2 := h.row hi
  have h3 := h.col (Nat.le_refl R) hj
  have h4 := sumN_ge (z := zs i) (n := ns i) (i := j) (fun k hk => h.nn i hi k hk) (by rw [h.even i hi]; exact hj)
  have h5 := sumN_ge (z := fun k => zs k j) (n := R) (i := i) (fun k hk => h.nn k hk j (by rw [h.even k hk]; exact hj)) hi
  have h6 := h.n6
  unfold rowSum
  have h7 : zs i j ≤ colV zs R j := h5
  omega
theorem ent_prim {R N : Nat} {ns : Nat → Nat} {zs : Nat → Nat → Int} (h : OkT R ns zs N) : Prim fun x => sumN (entV (colV zs R) N x) (ns 0) := by
  refine ⟨fun x => ent_bound (fun j hj => h.col (Nat.le_refl R) hj) h.n6 (by have := h.c16; omega) x, ?_⟩
  refine supp_sum (F := fun j x => entV (colV zs R) N x j) fun j hj => ?_
  have hc := h.col (Nat.le_refl R) hj
  exact (supp_term _ N (fun _ => ⟨h.n1, h.n6⟩)).sub (supp_term _ _ (fun h0 => by omega))
theorem giv_prim {R N : Nat} {ns : Nat → Nat} {zs : Nat → Nat → Int} (h : OkT R ns zs N) : Prim fun x => sumN (givV ns zs x) R := by
  refine ⟨fun x => giv_bound h x, ?_⟩
  refine supp_sum (F := fun i x => givV ns zs x i) fun i hi => ?_
  refine supp_sum (F := fun j x => entV (zs i) (sumN (zs i) (ns i)).toNat x j) fun j hj => ?_
  have hp := h.pos hi (j := j) (by rw [← h.even i hi]; exact hj)
  exact (supp_term _ _ (fun h0 => (hp h0).2.1)).sub (supp_term _ _ (fun h0 => (hp h0).1))
theorem mut_prim {R N : Nat} {ns : Nat → Nat} {zs : Nat → Nat → Int} (h : OkT R ns zs N) : Prim fun x => sumN (fun i => sumN (mutV (zs i) (rowSum ns zs i) (colV zs R) N x) (ns 0)) R := by
  refine ⟨fun x => ?_, ?_⟩
  · have h1 := sumN_bound (f := fun i => sumN (mutV (zs i) (rowSum ns zs i) (colV zs R) N x) (ns 0)) (B := 6400000) (n := R) (fun i hi => by
      have h2 := sumN_bound (f := mutV (zs i) (rowSum ns zs i) (colV zs R) N x) (B := 400000) (n := ns 0) (fun j hj => mutV_le x (h.cell hi (by rw [h.even i hi]; exact hj)) (by have := h.row hi; have := h.n6; unfold rowSum; omega) (h.col (Nat.le_refl R) hj) h.n6)
      have : (ns 0 : Int) * 400000 ≤ 6400000 := by have := h.c16; omega
      omega)
    have : (R : Int) * 6400000 ≤ 102400000 := by have := h.r16; omega
    omega
  · refine supp_sum (F := fun i x => sumN (mutV (zs i) (rowSum ns zs i) (colV zs R) N x) (ns 0)) fun i hi => ?_
    refine supp_sum (F := fun j x => mutV (zs i) (rowSum ns zs i) (colV zs R) N x j) fun j hj => ?_
    have hp := h.pos hi hj
    refine (((supp_term _ _ (fun h0 => (hp h0).1)).add (supp_term _ N (fun _ => ⟨h.n1, h.n6⟩))).add (supp_term _ _ (fun h0 => ?_))).add (supp_term _ _ (fun h0 => ?_))
    · exact (hp (by omega)).2.1
    · exact (hp (by omega)).2.2
end Go.Proofs.YtmdimdoglpiiiaaGreatDoor

/- logs.Scale by -1 over 1. -/
namespace Go.Proofs.YtmdimdoglpiiiaaGreatDoor
open Go.RowKit Go.Maps

theorem new_below2 (w : World) (X : Obj) : Below w.heap.size w (w.alloc X) := (Below.refl _ _).alloc (Nat.le_refl _) _
theorem ownsRow_later {w w' : World} {B e size n : Nat} {v : Value} {xs : List Value} (h : w.ownsRow B e size v n xs) (hb : Below w.heap.size w w') : w'.ownsRow B e size v n xs := by
  obtain ⟨hl, hr⟩ := h
  rcases hr with h | ⟨g, cap, cur, hv, hg, hh, r⟩
  · exact ⟨hl, Or.inl h⟩
  · exact ⟨hl, Or.inr ⟨g, cap, cur, hv, hg, by rw [hb.block g (heap_lt hh)]; exact hh, r⟩⟩
/-- What scaled's second loop keeps: the row lies at N, the answer's box at Bx. -/
structure InScale (w wr : World) (N Bx : Nat) (d : Int) (n : Nat) (p c : Nat → Int) (k : Nat) : Prop where
  below : Below N w wr
  lt : N < Bx
  o0 : wr.cell? ⟨Bx, 0, none⟩ = some (.int .i64 d)
  o1 : wr.cell? ⟨Bx, 1, none⟩ = some (.slice (some ⟨N, 0, none⟩) k n)
  f0 : wr.frozen? ⟨Bx, 0, none⟩ = false
  fz : wr.frozen? ⟨Bx, 1, none⟩ = false
  row : wr.ownsRow N 90 2 (.slice (some ⟨N, 0, none⟩) k n) k (termCells p (fun i => -c i) k)
theorem InScale.later {w wr wn : World} {N Bx : Nat} {d : Int} {n : Nat} {p c : Nat → Int} {k : Nat} (h : InScale w wr N Bx d n p c k) (hb : Below wr.heap.size wr wn) : InScale w wn N Bx d n p c k :=
  ⟨h.below.trans (hb.mono (by have := cell_lt h.o0; have := h.lt; simp only at *; omega)), h.lt, (cell_past h.o0 hb).2, (cell_past h.o1 hb).2, (frozen_past h.o0 h.f0 hb).2, (frozen_past h.o1 h.fz hb).2, ownsRow_later h.row hb⟩
theorem InScale.pushed {w wr w3 : World} {N Bx : Nat} {d : Int} {n : Nat} {p c : Nat → Int} {k : Nat} (h : InScale w wr N Bx d n p c k) (hg : wr.grownBy w3 (some N)) (hrow : w3.ownsRow N 90 2 (.slice (some ⟨N, 0, none⟩) (k + 1) n) (k + 1) (termCells p (fun i => -c i) k ++ [.int .i64 (p k), .int .i64 (-c k)])) :
    w3.cell? ⟨Bx, 1, none⟩ = some (.slice (some ⟨N, 0, none⟩) k n) ∧ w3.frozen? ⟨Bx, 1, none⟩ = false ∧ InScale w (w3.setCell ⟨Bx, 1, none⟩ (.slice (some ⟨N, 0, none⟩) (k + 1) n)) N Bx d n p c (k + 1) := by
  have hlt := cell_lt h.o0
  have hNB := h.lt
  simp only at hlt
  have c0 := cell_beside hg h.o0 (by omega)
  have c1 := cell_beside hg h.o1 (by omega)
  have hblk := hg.block Bx hlt (by simp; omega)
  have f0 : w3.frozen? ⟨Bx, 0, none⟩ = false := by rw [← h.f0]; simp [World.frozen?, hblk]
  have f1 : w3.frozen? ⟨Bx, 1, none⟩ = false := by rw [← h.fz]; simp [World.frozen?, hblk]
  refine ⟨c1, f1, ⟨(h.below.grown hg (by omega) (fun j e => by cases e; exact Nat.le_refl _)).setCell (by simp; omega) _, h.lt, ?_, World.cell?_setCell_same _ _ _ c1, by simpa using f0, by simpa using f1, ?_⟩⟩
  · rw [World.cell?_setCell_other _ _ _ _ (by simp)]; exact c0
  · obtain ⟨hl, hr⟩ := hrow
    refine ⟨hl, ?_⟩
    rcases hr with hr | ⟨gg, cap, cur, hv, hg1, hh, rest⟩
    · exact Or.inl hr
    · refine Or.inr ⟨gg, cap, cur, hv, hg1, ?_, rest⟩
      have : gg = N := by simp at hv; exact hv.1.symm
      rw [Below.heap_setCell _ _ _ _ (by show gg ≠ Bx; omega)]
      exact hh
theorem inScale_start {W W3 : World} {d : Int} {n : Nat} {p c : Nat → Int} (ho : W3.ownsRow W.heap.size 90 2 (.slice (some ⟨W.heap.size, 0, none⟩) 0 n) 0 []) (hg : W.grownBy W3 none) : InScale W (W3.alloc (.cells #[.int .i64 d, .slice (some ⟨W.heap.size, 0, none⟩) 0 n] 51)) W.heap.size W3.heap.size d n p c 0 := by
  have hlt : W.heap.size < W3.heap.size := by
    rcases ho.2 with ⟨h, _⟩ | ⟨g, cap, cur, hv, _, hh, _⟩
    · cases h
    · have : W.heap.size = g := by simp at hv; exact hv.1
      rw [this]; exact heap_lt hh
  refine ⟨((Below.refl _ _).grown hg (Nat.le_refl _) (fun j e => by cases e)).alloc (by omega) _, hlt, by rw [World.cell?_alloc_at _ _ _ _ rfl]; rfl, by rw [World.cell?_alloc_at _ _ _ _ rfl]; rfl, frozen_new rfl, frozen_new rfl, ownsRow_later ho (new_below2 _ _)⟩

theorem ownAt_slice {w : World} {v : Value} {n : Nat} {p c : Nat → Int} (h : OwnAt w v n p c) : ∃ ad m cap, v = .slice ad m cap := by
  rcases h with ⟨rfl, _⟩ | ⟨g, cap, rfl, _⟩
  · exact ⟨_, _, _, rfl⟩
  · exact ⟨_, _, _, rfl⟩
theorem OwnAt.set {w : World} {v : Value} {n : Nat} {p c : Nat → Int} {B : Nat} {ad : Option Addr} {l cap : Nat} {x y : Value} (h : OwnAt w v n p c) (hn : 0 < n) (hx : w.cell? ⟨B, 1, none⟩ = some (.slice ad l cap)) : OwnAt ((w.setCell ⟨B, 0, none⟩ x).setCell ⟨B, 1, none⟩ y) v n p c := by
  rcases h with h | ⟨g, cap', rfl, ht⟩
  · exact Or.inl h
  · have hne : B ≠ g := fun e => by
      have h1 := (ht 0 hn).2
      rw [← e] at h1
      simp only [Nat.zero_mul, Nat.zero_add] at h1
      rw [hx] at h1
      cases h1
    refine Or.inr ⟨g, cap', rfl, fun i hi => ⟨?_, ?_⟩⟩
    · rw [World.cell?_setCell_far _ _ _ _ hne, World.cell?_setCell_far _ _ _ _ hne]; exact (ht i hi).1
    · rw [World.cell?_setCell_far _ _ _ _ hne, World.cell?_setCell_far _ _ _ _ hne]; exact (ht i hi).2
theorem gcd_one_any (c : Int) : ((Int.gcd 1 c : Nat) : Int) = 1 := by simp [Int.gcd]
theorem gcd_back_any (c : Int) : ((Int.gcd (-1) c : Nat) : Int) = 1 := by simp [Int.gcd]

end Go.Proofs.YtmdimdoglpiiiaaGreatDoor

/- logs.Add by forms. -/
namespace Go.Proofs.YtmdimdoglpiiiaaGreatDoor
open Go.RowKit Go.Maps

/-- A form of the sum of two. -/
structure SumIs (da db : Nat) (t1 t2 : List (Int × Int)) (d : Nat) (t : List (Int × Int)) : Prop where
  can : Canon d t
  val : ∀ x, atL t x * ((da : Int) * (db : Int)) = (atL t1 x * (db : Int) + atL t2 x * (da : Int)) * (d : Int)
  len : t.length ≤ t1.length + t2.length
/-- The sum of two is in form. -/
def SumOk (da db : Int) (t1 t2 : List (Int × Int)) (d : Nat) (t : List (Int × Int)) : Prop := OkLog da t1.length (pOf t1) (cOf t1) ∧ OkLog db t2.length (pOf t2) (cOf t2) ∧ SumIs da.toNat db.toNat t1 t2 d t ∧ d ≤ 1000000 ∧ ∀ e ∈ t, e.2.natAbs ≤ 1099511627776
theorem SumOk.ok {da db : Int} {t1 t2 : List (Int × Int)} {d : Nat} {t : List (Int × Int)} (h : SumOk da db t1 t2 d t) : OkLog d t.length (pOf t) (cOf t) := by
  obtain ⟨h1, h2, h3, h4, h5⟩ := h
  have hp := h3.can.pos
  refine okLog_list h3.can.rise (fun e he => ?_) (by omega) (by omega) ?_
  · have hv := h3.val e.1
    rw [atL_mem h3.can.rise he] at hv
    have hnz := h3.can.nz e he
    have hb := h5 e he
    have hda : 0 < da.toNat := by have := h1.1; omega
    have hdb : 0 < db.toNat := by have := h2.1; omega
    have hpr : TermOk e.1 e.2 ∨ (atL t1 e.1 = 0 ∧ atL t2 e.1 = 0) := by
      by_cases q1 : atL t1 e.1 = 0
      · by_cases q2 : atL t2 e.1 = 0
        · exact Or.inr ⟨q1, q2⟩
        · have := h2.mem _ (atL_some q2)
          exact Or.inl ⟨this.1, hnz, by omega, by omega, this.2.2.2.2.1, this.2.2.2.2.2⟩
      · have := h1.mem _ (atL_some q1)
        exact Or.inl ⟨this.1, hnz, by omega, by omega, this.2.2.2.2.1, this.2.2.2.2.2⟩
    rcases hpr with h | ⟨q1, q2⟩
    · exact h
    · rw [q1, q2] at hv
      exfalso
      have h6 : e.2 * ((da.toNat : Int) * (db.toNat : Int)) = 0 := by rw [hv]; simp
      rcases Int.mul_eq_zero.1 h6 with h7 | h7
      · exact hnz h7
      · rcases Int.mul_eq_zero.1 h7 with h8 | h8 <;> omega
  · rw [gcdTo_list _ _ _ (Nat.le_refl _), List.take_length, Int.natAbs_natCast]
    exact h3.can.one
theorem SumOk.uniq {da db : Int} {t1 t2 : List (Int × Int)} {d d' : Nat} {t t' : List (Int × Int)} (h : SumOk da db t1 t2 d t) (h' : SumOk da db t1 t2 d' t') : d = d' ∧ t = t' := by
  have hda : 0 < da.toNat := by have := h.1.1; omega
  have hdb : 0 < db.toNat := by have := h.2.1.1; omega
  refine canon_uniq h.2.2.1.can h'.2.2.1.can (fun x => ?_)
  have h1 := h.2.2.1.val x
  have h2 := h'.2.2.1.val x
  have hp : ((da.toNat : Int) * (db.toNat : Int)) ≠ 0 := by
    intro h0
    rcases Int.mul_eq_zero.1 h0 with h3 | h3 <;> omega
  refine Int.eq_of_mul_eq_mul_right hp ?_
  generalize (da.toNat : Int) * (db.toNat : Int) = M at *
  grind
theorem SumOk.comm {da db : Int} {t1 t2 : List (Int × Int)} {d : Nat} {t : List (Int × Int)} (h : SumOk da db t1 t2 d t) : SumOk db da t2 t1 d t :=
  ⟨h.2.1, h.1, ⟨h.2.2.1.can, fun x => by rw [Int.mul_comm (db.toNat : Int), h.2.2.1.val x, Int.add_comm], by have := h.2.2.1.len; omega⟩, h.2.2.2⟩
/-- In any brackets. -/
theorem SumOk.assoc {da db dc : Int} {ta tb tc tx tp tq tr : List (Int × Int)} {dx dp dq dr : Nat} (h1 : SumOk da db ta tb dx tx) (h2 : SumOk dx dc tx tc dp tp) (h3 : SumOk db dc tb tc dq tq) (h4 : SumOk da dq ta tq dr tr) : dp = dr ∧ tp = tr := by
  refine canon_uniq h2.2.2.1.can h4.2.2.1.can (fun x => ?_)
  have e1 := h1.2.2.1.val x
  have e2 := h2.2.2.1.val x
  have e3 := h3.2.2.1.val x
  have e4 := h4.2.2.1.val x
  have pa : (da.toNat : Int) ≠ 0 := by have := h1.1.1; omega
  have pb : (db.toNat : Int) ≠ 0 := by have := h1.2.1.1; omega
  have pc : (dc.toNat : Int) ≠ 0 := by have := h2.2.1.1; omega
  have px : (dx : Int) ≠ 0 := by have := h1.2.2.1.can.pos; omega
  have pq : (dq : Int) ≠ 0 := by have := h3.2.2.1.can.pos; omega
  rw [Int.toNat_natCast] at e2 e4
  generalize (da.toNat : Int) = A at *
  generalize (db.toNat : Int) = B at *
  generalize (dc.toNat : Int) = C at *
  generalize (dx : Int) = X at *
  generalize (dp : Int) = P at *
  generalize (dq : Int) = Q at *
  generalize (dr : Int) = R at *
  generalize atL tx x = x' at *
  generalize atL tp x = p' at *
  generalize atL tq x = q' at *
  generalize atL tr x = r' at *
  generalize atL ta x = a' at *
  generalize atL tb x = b' at *
  generalize atL tc x = c' at *
  have f1 : p' * (A * B * C) * X = (a' * B * C + b' * A * C + c' * A * B) * P * X := by grind
  have f2 : r' * (A * B * C) * Q = (a' * B * C + b' * A * C + c' * A * B) * R * Q := by grind
  have f3 := Int.eq_of_mul_eq_mul_right px f1
  have f4 := Int.eq_of_mul_eq_mul_right pq f2
  have hM : A * B * C ≠ 0 := by
    intro h0
    rcases Int.mul_eq_zero.1 h0 with h5 | h5
    · rcases Int.mul_eq_zero.1 h5 with h6 | h6
      · exact pa h6
      · exact pb h6
    · exact pc h5
  refine Int.eq_of_mul_eq_mul_right hM ?_
  generalize A * B * C = M at *
  generalize a' * B * C + b' * A * C + c' * A * B = S at *
  calc p' * R * M = p' * M * R := by rw [Int.mul_right_comm]
    _ = S * P * R := by rw [f3]
    _ = S * R * P := by rw [Int.mul_right_comm]
    _ = r' * M * P := by rw [f4]
    _ = r' * P * M := by rw [Int.mul_right_comm]

end Go.Proofs.YtmdimdoglpiiiaaGreatDoor
