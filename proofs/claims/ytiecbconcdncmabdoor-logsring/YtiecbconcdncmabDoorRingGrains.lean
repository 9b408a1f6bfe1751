/- Grains of a sum; the sign of an opposite. -/
import Derived.Test.YtiecbconcdncmabDoorRingMath
import Derived.Test.YtiecbconcdncmabDoorGrains
import Derived.Test.YtiecbconcdncmabDoorProductsWalk
namespace Go.Proofs.YtiecbconcdncmabDoor

theorem le2_pow {k : Int} {a b : Nat} (h : le2 k a b) (m : Nat) : le2 (k * (m : Int)) (a ^ m) (b ^ m) := by
  unfold le2 at h
  have h1 := Nat.pow_le_pow_left h m
  rw [Nat.mul_pow, Nat.mul_pow, ← Nat.pow_mul, ← Nat.pow_mul] at h1
  refine (le2_iff (x := k.toNat * m) (y := (-k).toNat * m) ?_).2 h1
  rw [Int.natCast_mul, Int.natCast_mul, ← Int.sub_mul]
  congr 1
  omega
theorem not_le2_pow {k : Int} {a b : Nat} (h : ¬ le2 k a b) {m : Nat} (hm : 0 < m) : ¬ le2 (k * (m : Int)) (a ^ m) (b ^ m) := by
  unfold le2 at h
  have h1 := Nat.pow_lt_pow_left (Nat.lt_of_not_le h) (by omega : m ≠ 0)
  rw [Nat.mul_pow, Nat.mul_pow, ← Nat.pow_mul, ← Nat.pow_mul] at h1
  intro h2
  have h3 := (le2_iff (x := k.toNat * m) (y := (-k).toNat * m) (by
    rw [Int.natCast_mul, Int.natCast_mul, ← Int.sub_mul]
    congr 1
    omega)).1 h2
  omega
theorem le2_mul {k j : Int} {a b c d : Nat} (h : le2 k a b) (h' : le2 j c d) : le2 (k + j) (a * c) (b * d) := by
  unfold le2 at h h'
  have h1 := Nat.mul_le_mul h h'
  rw [Nat.mul_mul_mul_comm, Nat.mul_mul_mul_comm a, ← Nat.pow_add, ← Nat.pow_add] at h1
  exact (le2_iff (x := k.toNat + j.toNat) (y := (-k).toNat + (-j).toNat) (by omega)).2 h1
theorem not_le2_mul {k j : Int} {a b c d : Nat} (h : ¬ le2 k a b) (h' : ¬ le2 j c d) : ¬ le2 (k + j) (a * c) (b * d) := by
  unfold le2 at h h'
  have h1 := Nat.mul_lt_mul'' (Nat.lt_of_not_le h) (Nat.lt_of_not_le h')
  rw [Nat.mul_mul_mul_comm, Nat.mul_mul_mul_comm b, ← Nat.pow_add, ← Nat.pow_add] at h1
  intro h2
  have h3 := (le2_iff (x := k.toNat + j.toNat) (y := (-k).toNat + (-j).toNat) (by omega)).1 h2
  omega
theorem le2_same {k : Int} {a b c d : Nat} (hb : 0 < b) (hd : 0 < d) (h : a * d = c * b) : le2 k a b ↔ le2 k c d := by
  unfold le2
  generalize 2 ^ k.toNat = X
  generalize 2 ^ (-k).toNat = Y
  constructor
  · intro h1
    have h2 := Nat.mul_le_mul_right d h1
    have h3 : a * Y * d = c * Y * b := by rw [Nat.mul_right_comm, h, Nat.mul_right_comm]
    rw [h3] at h2
    exact Nat.le_of_mul_le_mul_right (by rw [Nat.mul_right_comm d X b, Nat.mul_comm d b, Nat.mul_right_comm b d X]; exact h2) hb
  · intro h1
    have h2 := Nat.mul_le_mul_right b h1
    have h3 : c * Y * b = a * Y * d := by rw [Nat.mul_right_comm, ← h, Nat.mul_right_comm]
    rw [h3] at h2
    exact Nat.le_of_mul_le_mul_right (by rw [Nat.mul_right_comm b X d, Nat.mul_comm b d, Nat.mul_right_comm d b X]; exact h2) hd
/-- The sides' multiplicities, so many times. -/
theorem mult_sides_times {n t : Nat} {p c : Nat → Int} (hp : ∀ i, i < n → Pr (p i).toNat ∧ 2 ≤ p i) {x : Nat} (hx : Pr x) : ∀ k, k ≤ n → (mult x (sideUp p c t k) : Int) - (mult x (sideDown p c t k) : Int) = sumTo p c (x : Int) k * (t : Int) ∧ 0 < sideUp p c t k ∧ 0 < sideDown p c t k
  | 0, _ => ⟨by simp [sideUp, sideDown, sumTo], Nat.one_pos, Nat.one_pos⟩
  | k + 1, h => by
    obtain ⟨ih, h1, h2⟩ := mult_sides_times (t := t) (c := c) hp hx k (by omega)
    obtain ⟨hpk, hp2⟩ := hp k (by omega)
    have hpp : 0 < (p k).toNat ^ ((c k).natAbs * t) := Nat.pow_pos (by omega)
    have hm := mult_pow hx hpk ((c k).natAbs * t)
    have hiff : (x = (p k).toNat) ↔ (p k = (x : Int)) := by omega
    have hs : sumTo p c (x : Int) (k + 1) = sumTo p c (x : Int) k + if p k = (x : Int) then c k else 0 := rfl
    by_cases hc : 0 < c k
    · have ha : (((c k).natAbs * t : Nat) : Int) = c k * (t : Int) := by rw [Int.natCast_mul, show ((c k).natAbs : Int) = c k by omega]
      rw [sideUp_pos hc, sideDown_pos hc, mult_mul hx _ _ h1 hpp, hm, hs, Int.add_mul, ← ih]
      refine ⟨?_, Nat.mul_pos h1 hpp, h2⟩
      by_cases he : x = (p k).toNat
      · rw [if_pos he, if_pos (hiff.1 he), ← ha]; omega
      · rw [if_neg he, if_neg (fun e => he (hiff.2 e)), Int.zero_mul]; omega
    · have ha : (((c k).natAbs * t : Nat) : Int) = -(c k * (t : Int)) := by rw [Int.natCast_mul, show ((c k).natAbs : Int) = -c k by omega, Int.neg_mul]
      rw [sideUp_neg hc, sideDown_neg hc, mult_mul hx _ _ h2 hpp, hm, hs, Int.add_mul, ← ih]
      refine ⟨?_, h1, Nat.mul_pos h2 hpp⟩
      by_cases he : x = (p k).toNat
      · rw [if_pos he, if_pos (hiff.1 he)]; omega
      · rw [if_neg he, if_neg (fun e => he (hiff.2 e)), Int.zero_mul]; omega
theorem mult_power {p n : Nat} (hp : Pr p) (hn : 0 < n) : ∀ m, mult p (n ^ m) = m * mult p n
  | 0 => by rw [Nat.pow_zero, mult_one hp.1, Nat.zero_mul]
  | m + 1 => by rw [Nat.pow_succ, mult_mul hp _ _ (Nat.pow_pos hn) hn, mult_power hp hn m, Nat.succ_mul]
theorem OkLog.side {d : Int} {t : List (Int × Int)} (h : OkLog d t.length (pOf t) (cOf t)) (m : Nat) {x : Nat} (hx : Pr x) : (mult x (sideUp (pOf t) (cOf t) m t.length) : Int) - (mult x (sideDown (pOf t) (cOf t) m t.length) : Int) = atL t (x : Int) * (m : Int) ∧ 0 < sideUp (pOf t) (cOf t) m t.length ∧ 0 < sideDown (pOf t) (cOf t) m t.length := by
  have hp : ∀ i, i < t.length → Pr (pOf t i).toNat ∧ 2 ≤ pOf t i := fun i hi => ⟨(h.2.2.1 i hi).2.2.2.2.2.2, (h.2.2.1 i hi).2.2.2.2.2.1⟩
  have h1 := mult_sides_times (t := m) (c := cOf t) hp hx t.length (Nat.le_refl _)
  rw [sumTo_list h.rising _ _ (Nat.le_refl _), List.take_length] at h1
  exact h1
/-- The sides of a sum. -/
theorem sides_sum {da db dx : Nat} {ta tb tx : List (Int × Int)} (ha : OkLog da ta.length (pOf ta) (cOf ta)) (hb : OkLog db tb.length (pOf tb) (cOf tb)) (hx : OkLog dx tx.length (pOf tx) (cOf tx)) (he : ∀ x, atL tx x * ((da : Int) * (db : Int)) = (atL ta x * (db : Int) + atL tb x * (da : Int)) * (dx : Int)) (m : Nat) :
    (sideUp (pOf ta) (cOf ta) m ta.length ^ (db * dx) * sideUp (pOf tb) (cOf tb) m tb.length ^ (da * dx)) * sideDown (pOf tx) (cOf tx) m tx.length ^ (da * db) = sideUp (pOf tx) (cOf tx) m tx.length ^ (da * db) * (sideDown (pOf ta) (cOf ta) m ta.length ^ (db * dx) * sideDown (pOf tb) (cOf tb) m tb.length ^ (da * dx)) := by
  have h2 : Pr 2 := ⟨by omega, fun d hd hdd => by have := Nat.mul_le_mul hd hd; omega⟩
  obtain ⟨_, a1, a2⟩ := ha.side m h2
  obtain ⟨_, b1, b2⟩ := hb.side m h2
  obtain ⟨_, x1, x2⟩ := hx.side m h2
  refine eq_of_mult _ _ (Nat.mul_pos (Nat.mul_pos (Nat.pow_pos a1) (Nat.pow_pos b1)) (Nat.pow_pos x2)) (Nat.mul_pos (Nat.pow_pos x1) (Nat.mul_pos (Nat.pow_pos a2) (Nat.pow_pos b2))) (fun q hq => ?_)
  have ea := (ha.side m hq).1
  have eb := (hb.side m hq).1
  have ex := (hx.side m hq).1
  have e := he (q : Int)
  rw [mult_mul hq _ _ (Nat.mul_pos (Nat.pow_pos a1) (Nat.pow_pos b1)) (Nat.pow_pos x2), mult_mul hq _ _ (Nat.pow_pos a1) (Nat.pow_pos b1), mult_mul hq _ _ (Nat.pow_pos x1) (Nat.mul_pos (Nat.pow_pos a2) (Nat.pow_pos b2)), mult_mul hq _ _ (Nat.pow_pos a2) (Nat.pow_pos b2), mult_power hq a1, mult_power hq b1, mult_power hq x2, mult_power hq x1, mult_power hq a2, mult_power hq b2]
  generalize mult q (sideUp (pOf ta) (cOf ta) m ta.length) = Ua at *
  generalize mult q (sideDown (pOf ta) (cOf ta) m ta.length) = Da at *
  generalize mult q (sideUp (pOf tb) (cOf tb) m tb.length) = Ub at *
  generalize mult q (sideDown (pOf tb) (cOf tb) m tb.length) = Db at *
  generalize mult q (sideUp (pOf tx) (cOf tx) m tx.length) = Ux at *
  generalize mult q (sideDown (pOf tx) (cOf tx) m tx.length) = Dx at *
  generalize atL ta (q : Int) = A at *
  generalize atL tb (q : Int) = B at *
  generalize atL tx (q : Int) = X at *
  apply Int.ofNat_inj.1
  simp only [Int.natCast_add, Int.natCast_mul]
  have hUa : (Ua : Int) = Da + A * m := by omega
  have hUb : (Ub : Int) = Db + B * m := by omega
  have hUx : (Ux : Int) = Dx + X * m := by omega
  rw [hUa, hUb, hUx]
  grind
/-- Grains of a sum are those of both, or one more. -/
theorem grains_sum {da db dx : Nat} {ta tb tx : List (Int × Int)} (ha : OkLog da ta.length (pOf ta) (cOf ta)) (hb : OkLog db tb.length (pOf tb) (cOf tb)) (hx : OkLog dx tx.length (pOf tx) (cOf tx)) (he : ∀ x, atL tx x * ((da : Int) * (db : Int)) = (atL ta x * (db : Int) + atL tb x * (da : Int)) * (dx : Int)) {za zb zx : Int}
    (la : IsLog za (sideUp (pOf ta) (cOf ta) 32 ta.length) (sideDown (pOf ta) (cOf ta) 32 ta.length)) (lb : IsLog zb (sideUp (pOf tb) (cOf tb) 32 tb.length) (sideDown (pOf tb) (cOf tb) 32 tb.length)) (lx : IsLog zx (sideUp (pOf tx) (cOf tx) 32 tx.length) (sideDown (pOf tx) (cOf tx) 32 tx.length)) :
    zx / (dx : Int) = za / (da : Int) + zb / (db : Int) ∨ zx / (dx : Int) = za / (da : Int) + zb / (db : Int) + 1 := by
  have h2 : Pr 2 := ⟨by omega, fun d hd hdd => by have := Nat.mul_le_mul hd hd; omega⟩
  obtain ⟨_, _, a2⟩ := ha.side 32 h2
  obtain ⟨_, _, b2⟩ := hb.side 32 h2
  obtain ⟨_, _, x2⟩ := hx.side 32 h2
  have hid := sides_sum ha hb hx he 32
  have pa : 0 < da := by have := ha.1; omega
  have pb : 0 < db := by have := hb.1; omega
  have px : 0 < dx := by have := hx.1; omega
  obtain ⟨a3, a4⟩ := isLog_floor (d := (da : Int)) (by omega) la rfl
  obtain ⟨b3, b4⟩ := isLog_floor (d := (db : Int)) (by omega) lb rfl
  obtain ⟨x3, x4⟩ := isLog_floor (d := (dx : Int)) (by omega) lx rfl
  generalize za / (da : Int) = i at *
  generalize zb / (db : Int) = j at *
  generalize zx / (dx : Int) = k at *
  have hsame := fun q => le2_same (k := q) (Nat.mul_pos (Nat.pow_pos (n := db * dx) a2) (Nat.pow_pos (n := da * dx) b2)) (Nat.pow_pos (n := da * db) x2) hid
  have l1 := (hsame _).1 (le2_mul (le2_pow a3 (db * dx)) (le2_pow b3 (da * dx)))
  have l2 := fun h => not_le2_mul (not_le2_pow a4 (Nat.mul_pos pb px)) (not_le2_pow b4 (Nat.mul_pos pa px)) ((hsame _).2 h)
  have l3 := le2_pow x3 (da * db)
  have l4 := not_le2_pow x4 (Nat.mul_pos pa pb)
  have hM : (0 : Int) < (da : Int) * (db : Int) * (dx : Int) := Int.mul_pos (Int.mul_pos (by omega) (by omega)) (by omega)
  have q1 : i * (da : Int) * ((db * dx : Nat) : Int) + j * (db : Int) * ((da * dx : Nat) : Int) = (i + j) * ((da : Int) * (db : Int) * (dx : Int)) := by rw [Int.natCast_mul, Int.natCast_mul]; grind
  have q2 : (i + 1) * (da : Int) * ((db * dx : Nat) : Int) + (j + 1) * (db : Int) * ((da * dx : Nat) : Int) = (i + j + 2) * ((da : Int) * (db : Int) * (dx : Int)) := by rw [Int.natCast_mul, Int.natCast_mul]; grind
  have q3 : k * (dx : Int) * ((da * db : Nat) : Int) = k * ((da : Int) * (db : Int) * (dx : Int)) := by rw [Int.natCast_mul]; grind
  have q4 : (k + 1) * (dx : Int) * ((da * db : Nat) : Int) = (k + 1) * ((da : Int) * (db : Int) * (dx : Int)) := by rw [Int.natCast_mul]; grind
  rw [q1] at l1
  rw [q2] at l2
  rw [q3] at l3
  rw [q4] at l4
  generalize (da : Int) * (db : Int) * (dx : Int) = M at *
  have c1 : i + j < k + 1 := by
    rcases Int.lt_or_le (i + j) (k + 1) with h | h
    · exact h
    · exact absurd (le2_anti l1 (Int.mul_le_mul_of_nonneg_right h (by omega))) l4
  have c2 : k < i + j + 2 := by
    rcases Int.lt_or_le k (i + j + 2) with h | h
    · exact h
    · exact absurd (le2_anti l3 (Int.mul_le_mul_of_nonneg_right h (by omega))) l2
  omega
/-- An opposite's sides. -/
theorem sides_back {n t : Nat} {p c : Nat → Int} (hn : ∀ i, i < n → c i ≠ 0) : ∀ k, k ≤ n → sideUp p (fun i => -c i) t k = sideDown p c t k ∧ sideDown p (fun i => -c i) t k = sideUp p c t k
  | 0, _ => ⟨rfl, rfl⟩
  | k + 1, h => by
    obtain ⟨h1, h2⟩ := sides_back (t := t) (p := p) hn k (by omega)
    have h0 := hn k (by omega)
    by_cases hc : 0 < c k
    · have hc' : ¬ 0 < (fun i => -c i) k := by show ¬ 0 < -c k; omega
      rw [sideUp_neg (p := p) (c := fun i => -c i) (t := t) (k := k) hc', sideDown_neg (p := p) (c := fun i => -c i) (t := t) (k := k) hc', sideUp_pos hc, sideDown_pos hc, h1, h2]
      exact ⟨rfl, by show _ * _ ^ ((-c k).natAbs * t) = _; rw [Int.natAbs_neg]⟩
    · have hc' : 0 < (fun i => -c i) k := by show 0 < -c k; omega
      rw [sideUp_pos (p := p) (c := fun i => -c i) (t := t) (k := k) hc', sideDown_pos (p := p) (c := fun i => -c i) (t := t) (k := k) hc', sideUp_neg hc, sideDown_neg hc, h1, h2]
      exact ⟨by show _ * _ ^ ((-c k).natAbs * t) = _; rw [Int.natAbs_neg], rfl⟩
theorem cost_back (p c : Nat → Int) : ∀ k, cost p (fun i => -c i) k = cost p c k
  | 0 => rfl
  | k + 1 => by show cost p (fun i => -c i) k + (-c k).natAbs * _ = cost p c k + _; rw [cost_back p c k, Int.natAbs_neg]
end Go.Proofs.YtiecbconcdncmabDoor
