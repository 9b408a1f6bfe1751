/- demonlaw1.LogsProducts walked. -/
import Derived.Test.YtiecbconcdncmabDoorAddOk
import Derived.Test.YtiecbconcdncmabDoorPowers
import Derived.Test.YtiecbconcdncmabDoorSame
namespace Go.Proofs.YtiecbconcdncmabDoor
open Go.RowKit Go.Maps

/-- A variable that holds a logarithm over 1. -/
structure LB (W : World) (B : Nat) (v : Value) (t : List (Int × Int)) : Prop where
  c0 : W.cell? ⟨B, 0, none⟩ = some (.int .i64 1)
  c1 : W.cell? ⟨B, 1, none⟩ = some v
  list : ListAt W v t
theorem LB.later {W W' : World} {B : Nat} {v : Value} {t : List (Int × Int)} (h : LB W B v t) (hb : Below W.heap.size W W') : LB W' B v t :=
  ⟨(cell_past h.c0 hb).2, (cell_past h.c1 hb).2, h.list.later hb⟩
theorem LB.new {w : World} {v : Value} {t : List (Int × Int)} (h : ListAt w v t) : LB (w.alloc (.cells #[.int .i64 1, v] 25)) w.heap.size v t :=
  ⟨by rw [World.cell?_alloc_at _ _ _ _ rfl]; rfl, by rw [World.cell?_alloc_at _ _ _ _ rfl]; rfl, h.later ((Below.refl _ _).alloc (Nat.le_refl _) _)⟩
theorem LB.more {w : World} {B : Nat} {v : Value} {t : List (Int × Int)} (h : LB w B v t) (X : Obj) : LB (w.alloc X) B v t := h.later ((Below.refl _ _).alloc (Nat.le_refl _) _)

theorem SameLog_own (den : Int) (v1 v2 : Value) (n : Nat) (p c : Nat → Int) (w : World) (h1 : OwnAt w v1 n p c) (h2 : OwnAt w v2 n p c) (hn : n ≤ 1000000) :
    Calls Tryd.prog 9 #[.agg #[.int .i64 den, v1], .agg #[.int .i64 den, v2]] w fun e w' => e = .returned (.bool true) ∧ Below w.heap.size w w' := by
  rcases h1 with ⟨rfl, h0⟩ | ⟨g1, c1, rfl, t1⟩
  · rcases h2 with ⟨rfl, _⟩ | ⟨g2, c2, rfl, t2⟩
    · exact SameLog_none den none none 0 0 w
    · subst h0; exact SameLog_none den none _ 0 c2 w
  · rcases h2 with ⟨rfl, h0⟩ | ⟨g2, c2, rfl, t2⟩
    · subst h0; exact SameLog_none den _ none c1 0 w
    · exact SameLog_some den g1 0 c1 g2 0 c2 n p c w t1 t2 hn

/-- Two logarithms over 1 with small coefficients added. -/
theorem Add_one (v1 v2 : Value) (t1 t2 : List (Int × Int)) (a : Nat → Addr) (w : World) (h : Errs w a) (hl1 : ListAt w v1 t1) (hl2 : ListAt w v2 t2) (hok1 : OkLog 1 t1.length (pOf t1) (cOf t1)) (hok2 : OkLog 1 t2.length (pOf t2) (cOf t2))
    (hb1 : ∀ e ∈ t1, -19 ≤ e.2 ∧ e.2 ≤ 19) (hb2 : ∀ e ∈ t2, -19 ≤ e.2 ∧ e.2 ≤ 19) (hn : t1.length + t2.length ≤ 100) :
    Calls Tryd.prog 7 #[.agg #[.int .i64 1, v1], .agg #[.int .i64 1, v2]] w fun e w' => ∃ v t, e = .returned (.tuple #[.agg #[.int .i64 1, v], .nilIface]) ∧ ListAt w' v t ∧ Rising t ∧ (∀ e ∈ t, e.2 ≠ 0) ∧ (∀ x, atL t x = atL t1 x + atL t2 x) ∧ t.length ≤ t1.length + t2.length ∧ Below w.heap.size w w' := by
  obtain ⟨ad1, cap1, rfl, hg1⟩ := log_of_own hl1
  obtain ⟨ad2, cap2, rfl, hg2⟩ := log_of_own hl2
  refine (Add_ok 1 1 ad1 ad2 cap1 cap2 t1 t2 a w h hg1 hg2 hok1 hok2 hn 1 rfl (fun l hr hv => ⟨1, gcdTo_one _ _, by decide, fun e he => ?_⟩)).mono ?_
  · have h1 := atL_mem hr he
    rw [hv] at h1
    have h2 := atL_bound (B := 19) (by omega) hb1 e.1
    have h3 := atL_bound (B := 19) (by omega) hb2 e.1
    simp at h1 ⊢
    omega
  · rintro e w' ⟨v, l, G, hr, hv, hG, rfl, hl, hln, hb⟩
    have hG1 : G = 1 := by rw [← hG]; exact gcdTo_one _ _
    subst hG1
    exact ⟨v, overL 1 l, rfl, hl, rising_over hr 1, fun e he => over_nz he, fun x => by rw [atL_over hr, hv]; simp, Nat.le_trans (length_over l 1) hln, hb⟩

/-- The sum of the coefficients of a prime, term by term. -/
def sumTo (p c : Nat → Int) (x : Int) : Nat → Int
  | 0 => 0
  | k + 1 => sumTo p c x k + if p k = x then c k else 0
theorem sumTo_list {t : List (Int × Int)} (hr : Rising t) (x : Int) : ∀ k, k ≤ t.length → sumTo (pOf t) (cOf t) x k = atL (t.take k) x
  | 0, _ => rfl
  | k + 1, h => by
    rw [atL_take hr (by omega)]
    show sumTo _ _ _ k + _ = _
    rw [sumTo_list hr x k (by omega)]
theorem mult_sides {n : Nat} {p c : Nat → Int} (hp : ∀ i, i < n → Pr (p i).toNat ∧ 2 ≤ p i) {x : Nat} (hx : Pr x) : ∀ k, k ≤ n → (mult x (sideUp p c 1 k) : Int) - (mult x (sideDown p c 1 k) : Int) = sumTo p c (x : Int) k ∧ 0 < sideUp p c 1 k ∧ 0 < sideDown p c 1 k
  | 0, _ => ⟨by simp [sideUp, sideDown, sumTo], Nat.one_pos, Nat.one_pos⟩
  | k + 1, h => by
    obtain ⟨ih, h1, h2⟩ := mult_sides hp hx k (by omega)
    obtain ⟨hpk, hp2⟩ := hp k (by omega)
    have hpp : 0 < (p k).toNat ^ ((c k).natAbs * 1) := Nat.pow_pos (by omega)
    have hm := mult_pow hx hpk ((c k).natAbs * 1)
    have hiff : (x = (p k).toNat) ↔ (p k = (x : Int)) := by omega
    have hs : sumTo p c (x : Int) (k + 1) = sumTo p c (x : Int) k + if p k = (x : Int) then c k else 0 := rfl
    by_cases hc : 0 < c k
    · rw [sideUp_pos hc, sideDown_pos hc, mult_mul hx _ _ h1 hpp, hm, hs, ← ih]
      refine ⟨?_, Nat.mul_pos h1 hpp, h2⟩
      by_cases he : x = (p k).toNat
      · rw [if_pos he, if_pos (hiff.1 he)]; omega
      · rw [if_neg he, if_neg (fun e => he (hiff.2 e))]; omega
    · rw [sideUp_neg hc, sideDown_neg hc, mult_mul hx _ _ h2 hpp, hm, hs, ← ih]
      refine ⟨?_, h1, Nat.mul_pos h2 hpp⟩
      by_cases he : x = (p k).toNat
      · rw [if_pos he, if_pos (hiff.1 he)]; omega
      · rw [if_neg he, if_neg (fun e => he (hiff.2 e))]; omega
/-- The sides of the logarithm of a over b are as a to b. -/
theorem IsOf.sides {a b : Nat} {t : List (Int × Int)} (h : IsOf a b t) (ha : 0 < a) (ha6 : a ≤ 1000000) (hb : 0 < b) (hb6 : b ≤ 1000000) : sideUp (pOf t) (cOf t) 1 t.length * b = sideDown (pOf t) (cOf t) 1 t.length * a ∧ 0 < sideUp (pOf t) (cOf t) 1 t.length ∧ 0 < sideDown (pOf t) (cOf t) 1 t.length := by
  have hp : ∀ i, i < t.length → Pr (pOf t i).toNat ∧ 2 ≤ pOf t i := fun i hi => by
    have := (h.terms ha ha6 hb hb6 _ (getD_mem hi)).1
    exact ⟨this.2.2.2.2.2, this.2.2.2.2.1⟩
  have h2 : Pr 2 := ⟨by omega, fun d hd hdd => by have := Nat.mul_le_mul hd hd; omega⟩
  have hpos := (mult_sides (c := cOf t) hp h2 t.length (Nat.le_refl _)).2
  refine ⟨eq_of_mult _ _ (Nat.mul_pos hpos.1 hb) (Nat.mul_pos hpos.2 ha) (fun q hq => ?_), hpos⟩
  have h1 := (mult_sides (c := cOf t) hp hq t.length (Nat.le_refl _)).1
  rw [sumTo_list h.rise _ _ (Nat.le_refl _), List.take_length, h.val, multI_pr (x := (q : Int)) (by simpa using hq), multI_pr (x := (q : Int)) (by simpa using hq)] at h1
  rw [mult_mul hq _ _ hpos.1 hb, mult_mul hq _ _ hpos.2 ha]
  simp only [Int.toNat_natCast] at h1
  omega
theorem sides_order {U D a b : Nat} (h : U * b = D * a) (hU : 0 < U) (hD : 0 < D) : (a < b → U < D) ∧ (b < a → D < U) ∧ (a = b → 0 < a → U = D) := by
  refine ⟨fun hl => ?_, fun hl => ?_, fun he ha => ?_⟩
  · rcases Nat.lt_or_ge U D with h' | h'
    · exact h'
    · have h1 := Nat.mul_le_mul_right a h'
      have h2 := Nat.mul_lt_mul_of_pos_left hl hU
      omega
  · rcases Nat.lt_or_ge D U with h' | h'
    · exact h'
    · have h1 := Nat.mul_le_mul_right b h'
      have h2 := Nat.mul_lt_mul_of_pos_left hl hD
      omega
  · subst he
    exact Nat.eq_of_mul_eq_mul_right ha h
theorem cost_small {n : Nat} {p c : Nat → Int} (hp : ∀ i, i < n → 2 ≤ p i ∧ p i ≤ 1000000 ∧ -19 ≤ c i ∧ c i ≤ 19) : ∀ k, k ≤ n → cost p c k ≤ k * 380
  | 0, _ => by simp [cost]
  | k + 1, h => by
    have ih := cost_small hp k (by omega)
    obtain ⟨h1, h2, h3, h4⟩ := hp k (by omega)
    have hm := Nat.mul_le_mul (show (c k).natAbs ≤ 19 by omega) (bitLen_million (n := (p k).toNat) (by omega))
    have e : cost p c (k + 1) = cost p c k + (c k).natAbs * bitLen (p k).toNat := rfl
    omega
end Go.Proofs.YtiecbconcdncmabDoor
