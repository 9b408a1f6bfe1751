/- (*Wide).Prime in general. -/
import Derived.Test.YtdlbnolnkmhdcaaDoorPrime
import Derived.Test.YtdlbnolnkmhdcaaDoorPutF
import Derived.Test.YtdlbnolnkmhdcaaDoorValidWalk
import Derived.Test.YtdlbnolnkmhdcaaDoorWideMath
import Derived.Test.YtdlbnolnkmhdcaaDoorOfAny
import Derived.Deep.CutRange
import Derived.Test.YtdlbnolnkmhdcaaDoorBigMul
import Derived.Laws.MathBits
import Derived.Test.YtdlbnolnkmhdcaaDoorGList
import Derived.Test.YtdlbnolnkmhdcaaDoorWeights
import Derived.Test.YtdlbnolnkmhdcaaDoorMinus
import Derived.Deep.RegionLaw
import Derived.Test.YtdlbnolnkmhdcaaDoorCode
import Derived.Test.YtdlbnolnkmhdcaaDoorTold
import Derived.Test.YtdlbnolnkmhdcaaDoorTabP
import Derived.Test.YtdlbnolnkmhdcaaDoorTabErr
import Derived.Test.YtdlbnolnkmhdcaaDoorFills
namespace Go.Proofs.YtdlbnolnkmhdcaaDoor
open Go.RowKit

end Go.Proofs.YtdlbnolnkmhdcaaDoor

/- (*Wide).Number: the logarithm of a number, so often. -/
namespace Go.Proofs.YtdlbnolnkmhdcaaDoor
open Go.RowKit

theorem absL_length (L : List Ent) : (absL L).length = L.length := by unfold absL; simp
theorem absL_mem {L : List Ent} {e : Ent} (h : e ∈ L) : ((e.p : Int), e.z) ∈ absL L := List.mem_map.2 ⟨e, h, rfl⟩

def numMeas (t r : Nat) : Nat := if t ≤ 1 then 0 else 2000 - r
theorem numMeas_lt {n d m e : Nat} (h : 1 < n) (hd : d ≤ 1001) (h' : m ≤ 1 ∨ d < e) : numMeas m e < numMeas n d := by
  unfold numMeas
  rw [if_neg (show ¬ n ≤ 1 by omega)]
  by_cases hm : m ≤ 1
  · rw [if_pos hm]; omega
  · rw [if_neg hm]; omega

end Go.Proofs.YtdlbnolnkmhdcaaDoor

/- (*Wide).Log: a logarithm, so often. -/
namespace Go.Proofs.YtdlbnolnkmhdcaaDoor
open Go.RowKit

/-- The coefficients of a number among the first k terms. -/
def sumAt (p c : Nat → Int) (x : Int) : Nat → Int
  | 0 => 0
  | k + 1 => sumAt p c x k + if x = p k then c k else 0
theorem LogAt.kept {w w' : World} {sv : Value} {n : Nat} {p c : Nat → Int} (h : LogAt w sv n p c) (hk : IntsKept w w') : LogAt w' sv n p c := by
  rcases h with h | ⟨b, o, cap, h1, h2, h3⟩
  · exact Or.inl h
  · exact Or.inr ⟨b, o, cap, h1, h2, fun k hk' => ⟨hk _ _ (h3 k hk').1, hk _ _ (h3 k hk').2⟩⟩
theorem LogAt.cellsOf {w : World} {ad : Option Addr} {n cap : Nat} {p c : Nat → Int} (h : LogAt w (.slice ad n cap) n p c) {k : Nat} (hk : k < n) : ∃ b o, ad = some ⟨b, o, none⟩ ∧ w.cell? ⟨b, o + k * 2, none⟩ = some (.int .i64 (p k)) ∧ w.cell? ⟨b, o + k * 2 + 1, none⟩ = some (.int .i64 (c k)) := by
  rcases h with ⟨_, _, _, rfl⟩ | ⟨b, o, _, h1, _, h3⟩
  · omega
  · simp only [Value.slice.injEq] at h1
    exact ⟨b, o, h1.1, h3 k hk⟩
/-- A coefficient of a logarithm times a fraction, over M. -/
theorem coef_low {M d xd m : Nat} {xn c : Int} (hM : M = d * xd * m) (hM0 : 0 < M) : (xn * c.tdiv ((Nat.gcd c.natAbs d : Nat) : Int)).tdiv ((Nat.gcd (xn * c.tdiv ((Nat.gcd c.natAbs d : Nat) : Int)).natAbs (xd * (d / Nat.gcd c.natAbs d)) : Nat) : Int) = lowN M (xn * m * c) ∧ xd * (d / Nat.gcd c.natAbs d) / Nat.gcd (xn * c.tdiv ((Nat.gcd c.natAbs d : Nat) : Int)).natAbs (xd * (d / Nat.gcd c.natAbs d)) = lowD M (xn * m * c) := by
  have hd : 0 < d := Nat.pos_of_ne_zero fun h => by rw [h, Nat.zero_mul, Nat.zero_mul] at hM; omega
  have hx : 0 < xd := Nat.pos_of_ne_zero fun h => by rw [h, Nat.mul_zero, Nat.zero_mul] at hM; omega
  obtain ⟨g1, g2, g3, _, _, g6⟩ := low_parts (n := c) hd
  refine low_same hM0 (Nat.mul_pos hx g6) ?_
  have h3 : (d : Int) = ((Nat.gcd c.natAbs d : Nat) : Int) * ((d / Nat.gcd c.natAbs d : Nat) : Int) := by rw [← Int.natCast_mul, ← g3]
  rw [hM, Int.natCast_mul, Int.natCast_mul, Int.natCast_mul]
  generalize Nat.gcd c.natAbs d = g at *
  generalize ((d / g : Nat) : Int) = e at *
  generalize c.tdiv (g : Int) = f at *
  rw [h3]
  conv => rhs; rw [g2]
  grind

end Go.Proofs.YtdlbnolnkmhdcaaDoor

/- The common denominator of fractions, and what is told over it. -/
namespace Go.Proofs.YtdlbnolnkmhdcaaDoor

theorem lcm_quot {M G H : Nat} (hM : 0 < M) (hG : G ∣ M) (hH : H ∣ M) : (M / G) * ((M / H) / Nat.gcd (M / G) (M / H)) = M / Nat.gcd G H := by
  obtain ⟨a, ha⟩ := hG
  obtain ⟨b, hb⟩ := hH
  have hG0 : 0 < G := Nat.pos_of_ne_zero fun h => by rw [h, Nat.zero_mul] at ha; omega
  have hH0 : 0 < H := Nat.pos_of_ne_zero fun h => by rw [h, Nat.zero_mul] at hb; omega
  have ha0 : 0 < a := Nat.pos_of_ne_zero fun h => by rw [h, Nat.mul_zero] at ha; omega
  have e1 : M / G = a := by rw [ha]; exact Nat.mul_div_cancel_left _ hG0
  have e2 : M / H = b := by rw [hb]; exact Nat.mul_div_cancel_left _ hH0
  rw [e1, e2]
  have hk : 0 < Nat.gcd G H := Nat.gcd_pos_of_pos_left _ hG0
  have hc := Nat.coprime_div_gcd_div_gcd hk
  have eG : G = Nat.gcd G H * (G / Nat.gcd G H) := (Nat.mul_div_cancel' (Nat.gcd_dvd_left _ _)).symm
  have eH : H = Nat.gcd G H * (H / Nat.gcd G H) := (Nat.mul_div_cancel' (Nat.gcd_dvd_right _ _)).symm
  generalize Nat.gcd G H = k at *
  generalize G / k = g at *
  generalize H / k = h at *
  have h1 : g * a = h * b := by
    have : k * (g * a) = k * (h * b) := by rw [← Nat.mul_assoc, ← Nat.mul_assoc, ← eG, ← eH, ← ha, ← hb]
    exact Nat.eq_of_mul_eq_mul_left hk this
  obtain ⟨c, rfl⟩ : g ∣ b := hc.dvd_of_dvd_mul_left ⟨a, h1.symm⟩
  have hg0 : 0 < g := Nat.pos_of_ne_zero fun e => by rw [e, Nat.mul_zero] at eG; omega
  have h2 : a = h * c := by
    have : g * a = g * (h * c) := by rw [h1]; grind
    exact Nat.eq_of_mul_eq_mul_left hg0 this
  subst h2
  have hc0 : 0 < c := Nat.pos_of_ne_zero fun e => by rw [e, Nat.mul_zero] at ha0; omega
  have h3 : Nat.gcd (h * c) (g * c) = c := by rw [Nat.gcd_mul_right, hc.symm, Nat.one_mul]
  rw [h3, Nat.mul_div_cancel _ hc0, ha, eG]
  rw [show k * g * (h * c) = k * (h * c * g) by grind, Nat.mul_div_cancel_left _ hk]

theorem den_step {M G : Nat} {z : Int} (hM : 0 < M) (hG : G ∣ M) : (M / G) * (lowD M z / Nat.gcd (M / G) (lowD M z)) = M / Nat.gcd G z.natAbs := by
  unfold lowD
  rw [lcm_quot hM hG (show lowG M z ∣ M from Nat.gcd_dvd_right _ _)]
  congr 1
  unfold lowG
  refine Nat.dvd_antisymm ?_ ?_
  · exact Nat.dvd_gcd (Nat.gcd_dvd_left _ _) (Nat.dvd_trans (Nat.gcd_dvd_right _ _) (Nat.gcd_dvd_left _ _))
  · exact Nat.dvd_gcd (Nat.gcd_dvd_left _ _) (Nat.dvd_gcd (Nat.gcd_dvd_right _ _) (Nat.dvd_trans (Nat.gcd_dvd_left _ _) hG))

/-- A coefficient times the common denominator is whole. -/
theorem coef_whole {M G : Nat} {z : Int} (hM : 0 < M) (hG : G ∣ M) (hz : G ∣ z.natAbs) : (lowN M z * ((M / G : Nat) : Int)).tdiv ((Nat.gcd (lowN M z * ((M / G : Nat) : Int)).natAbs (lowD M z * 1) : Nat) : Int) = z.tdiv (G : Int) ∧ lowD M z * 1 / Nat.gcd (lowN M z * ((M / G : Nat) : Int)).natAbs (lowD M z * 1) = 1 := by
  have hG0 : 0 < G := Nat.pos_of_dvd_of_pos hG hM
  have h1 := low_cross hM z
  have h2 : z = (G : Int) * z.tdiv (G : Int) := (Int.mul_tdiv_cancel' (Int.ofNat_dvd_left.2 hz)).symm
  have h3 : (M : Int) = (G : Int) * ((M / G : Nat) : Int) := by rw [← Int.natCast_mul, Nat.mul_div_cancel' hG]
  have h4 : lowN M z * ((M / G : Nat) : Int) * ((1 : Nat) : Int) = z.tdiv (G : Int) * ((lowD M z * 1 : Nat) : Int) := by
    rw [Nat.mul_one]
    generalize lowN M z = a at *
    generalize (lowD M z : Int) = d at *
    generalize ((M / G : Nat) : Int) = m at *
    have h5 : (G : Int) * (a * m * ((1 : Nat) : Int)) = (G : Int) * (z.tdiv (G : Int) * d) := by
      rw [h3] at h1
      generalize z.tdiv (G : Int) = q at *
      rw [h2] at h1
      have : a * ((G : Int) * m) = (G : Int) * q * d := h1
      grind
    exact Int.eq_of_mul_eq_mul_left (by omega) h5
  have h6 := low_same (M := 1) (z := z.tdiv (G : Int)) (by decide) (Nat.mul_pos (lowD_pos hM z) (by decide)) h4
  rw [(low_one _).1, (low_one _).2] at h6
  exact h6
theorem gList_dvd_base (L : List Int) (g : Nat) : gList g L ∣ g := (gList_dvd L g).1
end Go.Proofs.YtdlbnolnkmhdcaaDoor

/- (*Wide).Told: a sum in form, or the bound's number. -/
namespace Go.Proofs.YtdlbnolnkmhdcaaDoor
open Go.RowKit

theorem InOut.later {w1 wr wn : World} {d : Int} {sv : Value} {n : Nat} {xs : List Value} (h : InOut w1 wr d sv n xs) (hb : Below wr.heap.size wr wn) : InOut w1 wn d sv n xs :=
  ⟨below_chain h.keep hb, (cell_past h.o0 hb).2, (cell_past h.o1 hb).2, (frozen_past h.o1 h.fz hb).2, ownsRow_past h.row hb⟩

theorem InOut.grows {w1 wr w3 : World} {d : Int} {sv : Value} {n : Nat} {xs : List Value} {X : Obj} (h : InOut w1 wr d sv n xs) (hg : (wr.alloc X).grownBy w3 sv.ownBlock) : Below (w1.heap.size + 1) wr w3 := by
  have hB := cell_lt h.o0
  simp only at hB
  exact ((Below.refl _ _).alloc (by omega) _).grown hg (by simp; omega) (fun k e => (h.row.lt k e).1)
/-- A fraction's box, ahead of its store. -/
structure NewBox3 (W0 W : World) (B : Nat) : Prop where
  c0 : W.cell? ⟨B, 0, none⟩ = some (.bool false)
  c1 : W.cell? ⟨B, 1, none⟩ = some (.slice none 0 0)
  c2 : W.cell? ⟨B, 2, none⟩ = some (.slice none 0 0)
  f0 : W.frozen? ⟨B, 0, none⟩ = false
  f1 : W.frozen? ⟨B, 1, none⟩ = false
  f2 : W.frozen? ⟨B, 2, none⟩ = false
  no : NoInts W B
  hB : W0.heap.size ≤ B
theorem NewBox3.later {W0 W W' : World} {B : Nat} (h : NewBox3 W0 W B) (hb : Below W.heap.size W W') : NewBox3 W0 W' B :=
  ⟨(cell_past h.c0 hb).2, (cell_past h.c1 hb).2, (cell_past h.c2 hb).2, (frozen_past h.c0 h.f0 hb).2, (frozen_past h.c1 h.f1 hb).2, (frozen_past h.c2 h.f2 hb).2, h.no.later (cell_lt h.c0) hb, h.hB⟩
/-- A fraction's box: its sign and size. -/
structure RatBox (W0 W : World) (B : Nat) (z : Int) : Prop where
  below : Below W0.heap.size W0 W
  box : ∃ u, W.cell? ⟨B, 0, none⟩ = some (.bool (decide (z < 0))) ∧ W.cell? ⟨B, 1, none⟩ = some u ∧ BigAt W u z.natAbs
theorem ratBox_soon {W0 W : World} {B : Nat} {z : Int} {ad ad' : Option Addr} {l cap l' cap' : Nat} (h : Below W0.heap.size W0 W) (hu : BigAt W (.slice ad l cap) z.natAbs) (hn : NewBox3 W0 W B) : RatBox W0 (((W.setCell ⟨B, 0, none⟩ (.bool (decide (z < 0)))).setCell ⟨B, 1, none⟩ (.slice ad l cap)).setCell ⟨B, 2, none⟩ (.slice ad' l' cap')) B z :=
  ⟨below_set3 h hn.hB _ _ _, ⟨.slice ad l cap, by rw [World.cell?_setCell_other _ _ _ _ (by simp), World.cell?_setCell_other _ _ _ _ (by simp)]; exact World.cell?_setCell_same _ _ _ hn.c0, by rw [World.cell?_setCell_other _ _ _ _ (by simp)]; exact World.cell?_setCell_same _ _ _ (by rw [World.cell?_setCell_other _ _ _ _ (by simp)]; exact hn.c1), hu.set3 hn.no hn.c0 hn.c1⟩⟩

def zsOf (L : List Ent) : List Int := L.map Ent.z
def gT (M : Nat) (L : List Ent) (k : Nat) : Nat := gList M ((zsOf L).take k)
theorem zsOf_length (L : List Ent) : (zsOf L).length = L.length := by unfold zsOf; simp
theorem gT_succ (M : Nat) {L : List Ent} {k : Nat} {f : Ent} (hf : L[k]? = some f) : gT M L (k + 1) = Nat.gcd (gT M L k) f.z.natAbs := by
  have hk : k < L.length := (List.getElem?_eq_some_iff.1 hf).1
  have hz : (zsOf L)[k]? = some f.z := by unfold zsOf; rw [List.getElem?_map, hf]; rfl
  have h1 : (zsOf L).take (k + 1) = (zsOf L).take k ++ [f.z] := by
    rw [List.take_succ_eq_append_getElem (by rw [zsOf_length]; exact hk)]
    rw [List.getElem?_eq_getElem (by rw [zsOf_length]; exact hk)] at hz
    rw [Option.some.inj hz]
  unfold gT
  rw [h1, gList_append]
theorem gT_dvd (M : Nat) (L : List Ent) (k : Nat) : gT M L k ∣ M := gList_dvd_base _ _
theorem gT_all (M : Nat) (L : List Ent) : gT M L L.length = gList M (zsOf L) := by unfold gT; rw [← zsOf_length, List.take_length]
theorem den_lt {M E : Nat} (h : M < E) (L : List Ent) (k : Nat) : M / gT M L k < E := Nat.lt_of_le_of_lt (Nat.div_le_self _ _) h
theorem den_pos {M : Nat} (h : 0 < M) (L : List Ent) (k : Nat) : 0 < M / gT M L k := Nat.div_pos (Nat.le_of_dvd h (gT_dvd M L k)) (Nat.pos_of_dvd_of_pos (gT_dvd M L k) h)
theorem den_next {M : Nat} (h : 0 < M) {L : List Ent} {k : Nat} {f : Ent} (hf : L[k]? = some f) : (M / gT M L k) * (lowD M f.z / Nat.gcd (M / gT M L k) (lowD M f.z)) = M / gT M L (k + 1) := by
  rw [gT_succ M hf]; exact den_step h (gT_dvd M L k)
theorem over_next {G : Nat} {L : List Ent} {k : Nat} {f : Ent} (hf : L[k]? = some f) : overL G (absL (L.take (k + 1))) = overL G (absL (L.take k)) ++ if f.z.tdiv (G : Int) = 0 then [] else [((f.p : Int), f.z.tdiv (G : Int))] := by
  have hk : k < L.length := (List.getElem?_eq_some_iff.1 hf).1
  have h1 : L.take (k + 1) = L.take k ++ [f] := by
    rw [List.take_succ_eq_append_getElem hk]
    rw [List.getElem?_eq_getElem hk] at hf
    rw [Option.some.inj hf]
  rw [h1, absL_join]
  unfold overL
  rw [List.map_append, List.filter_append]
  congr 1
  by_cases h : f.z.tdiv (G : Int) = 0
  · rw [if_pos h]; simp [absL, h]
  · rw [if_neg h]; simp [absL, h]
theorem take_len_le {G : Nat} (L : List Ent) (k : Nat) : (overL G (absL (L.take k))).length ≤ L.length := by
  have h1 := length_over (absL (L.take k)) G
  rw [absL_length, List.length_take] at h1
  omega
def FitsW (M G : Nat) (L : List Ent) : Prop := M / G ≤ 1000000 ∧ ∀ e ∈ L, (e.z.tdiv (G : Int)).natAbs ≤ 1099511627776
end Go.Proofs.YtdlbnolnkmhdcaaDoor

/- The document's digits, power, Sides, TooGreat and SignOf. -/
namespace Go.Proofs.YtdlbnolnkmhdcaaDoor
open Go.RowKit

theorem bitLen_half {n : Nat} (h : 0 < n) : bitLen n = bitLen (n / 2) + 1 := by
  rcases Nat.lt_or_ge n 2 with h1 | h1
  · obtain rfl : n = 1 := by omega
    decide
  · have := bitLen_shift n 1 (by simp; omega)
    simp at this
    omega
theorem bitLen_zero : bitLen 0 = 0 := by simp [bitLen]
theorem bitLen_million {n : Nat} (h : n ≤ 1000000) : bitLen n ≤ 20 := by
  unfold bitLen
  split
  · omega
  · rename_i h0
    have := (Nat.log2_lt h0).2 (show n < 2 ^ 20 by omega)
    omega
theorem bitLen_pos {n : Nat} (h : 0 < n) : 0 < bitLen n := by
  rw [bitLen_half h]; omega

theorem pow_half (n k : Nat) (h : ¬ k % 2 = 1) : n ^ (k / 2) * n ^ (k / 2) = n ^ k := by
  rw [← Nat.pow_add]; congr 1; omega
theorem pow_half_odd (n k : Nat) (h : k % 2 = 1) : n ^ (k / 2) * n ^ (k / 2) * n = n ^ k := by
  rw [← Nat.pow_add, ← Nat.pow_succ]; congr 1; omega

/-- Sizes times bits, of the first k terms. -/
def cost (p c : Nat → Int) : Nat → Nat
  | 0 => 0
  | k + 1 => cost p c k + (c k).natAbs * bitLen (p k).toNat
def Bounded (n : Nat) (p c : Nat → Int) : Prop := ∀ i, i < n → 2 ≤ p i ∧ p i ≤ 1000000 ∧ -1099511627776 ≤ c i ∧ c i ≤ 1099511627776 ∧ c i ≠ 0
theorem OkTo.bounded {n : Nat} {p c : Nat → Int} (h : OkTo p c n) : Bounded n p c := fun i hi => ⟨(h i hi).2.2.2.2.2.1, (h i hi).2.1, (h i hi).2.2.2.1, (h i hi).2.2.2.2.1, (h i hi).2.2.1⟩
theorem LogAt.cellsAt {w : World} {ad : Option Addr} {n cap : Nat} {p c : Nat → Int} (h : LogAt w (.slice ad n cap) n p c) {k : Nat} (hk : k < n) : ∃ b o, ad = some ⟨b, o, none⟩ ∧ w.cell? ⟨b, o + k * 2, none⟩ = some (.int .i64 (p k)) ∧ w.cell? ⟨b, o + k * 2 + 1, none⟩ = some (.int .i64 (c k)) := by
  rcases h with ⟨_, _, _, rfl⟩ | ⟨b, o, _, h1, _, h3⟩
  · omega
  · simp only [Value.slice.injEq] at h1
    exact ⟨b, o, h1.1, h3 k hk⟩
theorem cost_mono (p c : Nat → Int) {j k : Nat} (h : j ≤ k) : cost p c j ≤ cost p c k := by
  induction k with
  | zero => obtain rfl : j = 0 := by omega
            exact Nat.le_refl _
  | succ k ih =>
    rcases Nat.lt_or_ge k j with h' | h'
    · obtain rfl : j = k + 1 := by omega
      exact Nat.le_refl _
    · have := ih h'
      show _ ≤ cost p c k + _
      omega

theorem quo_nat (left b : Nat) (hl : left ≤ 40000) : wrap64 ((left : Int) / (b : Int)) = ((left / b : Nat) : Int) := by
  have h0 : (left : Int) / (b : Int) = ((left / b : Nat) : Int) := by simp
  have h1 : left / b ≤ left := Nat.div_le_self _ _
  rw [h0]
  generalize left / b = q at h1
  rw [w64 _ (by omega)]
theorem too_more {left b m : Nat} {x : Int} (hx : x = (m : Int)) (hb : 0 < b) (hl : left ≤ 40000) (h : left < m * b) : wrap64 ((left : Int) / (b : Int)) < x := by
  rw [quo_nat left b hl, hx]
  have := (Nat.div_lt_iff_lt_mul hb).2 h
  omega
theorem too_less {left b m : Nat} {x : Int} (hx : x = (m : Int)) (hb : 0 < b) (hl : left ≤ 40000) (h : m * b ≤ left) : x ≤ wrap64 ((left : Int) / (b : Int)) := by
  rw [quo_nat left b hl, hx]
  have := (Nat.le_div_iff_mul_le hb).2 h
  omega
theorem too_prod {b m : Nat} {x : Int} (hx : x = (m : Int)) : x * (b : Int) = ((m * b : Nat) : Int) := by rw [hx]; simp

/-- The products of powers. -/
def sideUp (p c : Nat → Int) (t : Nat) : Nat → Nat
  | 0 => 1
  | k + 1 => if 0 < c k then sideUp p c t k * (p k).toNat ^ ((c k).natAbs * t) else sideUp p c t k
def sideDown (p c : Nat → Int) (t : Nat) : Nat → Nat
  | 0 => 1
  | k + 1 => if 0 < c k then sideDown p c t k else sideDown p c t k * (p k).toNat ^ ((c k).natAbs * t)
theorem sideUp_pos {p c : Nat → Int} {t k : Nat} (h : 0 < c k) : sideUp p c t (k + 1) = sideUp p c t k * (p k).toNat ^ ((c k).natAbs * t) := by
  show (if _ then _ else _) = _
  rw [if_pos h]
theorem sideUp_neg {p c : Nat → Int} {t k : Nat} (h : ¬ 0 < c k) : sideUp p c t (k + 1) = sideUp p c t k := by
  show (if _ then _ else _) = _
  rw [if_neg h]
theorem sideDown_pos {p c : Nat → Int} {t k : Nat} (h : 0 < c k) : sideDown p c t (k + 1) = sideDown p c t k := by
  show (if _ then _ else _) = _
  rw [if_pos h]
theorem sideDown_neg {p c : Nat → Int} {t k : Nat} (h : ¬ 0 < c k) : sideDown p c t (k + 1) = sideDown p c t k * (p k).toNat ^ ((c k).natAbs * t) := by
  show (if _ then _ else _) = _
  rw [if_neg h]
theorem pow_bits (q m t : Nat) : q ^ (m * t) ≤ 2 ^ (t * (m * bitLen q)) := by
  have h1 : q ≤ 2 ^ bitLen q := Nat.le_of_lt (bitLen_spec q).1
  have h2 := Nat.pow_le_pow_left h1 (m * t)
  rw [← Nat.pow_mul] at h2
  rw [show t * (m * bitLen q) = bitLen q * (m * t) by grind]
  exact h2
theorem sides_le (p c : Nat → Int) (t : Nat) : ∀ k, sideUp p c t k ≤ 2 ^ (t * cost p c k) ∧ sideDown p c t k ≤ 2 ^ (t * cost p c k)
  | 0 => by simp [sideUp, sideDown, cost]
  | k + 1 => by
    have ih := sides_le p c t k
    have hp := pow_bits (p k).toNat (c k).natAbs t
    have e : 2 ^ (t * cost p c (k + 1)) = 2 ^ (t * cost p c k) * 2 ^ (t * ((c k).natAbs * bitLen (p k).toNat)) := by
      rw [← Nat.pow_add]; congr 1; show t * (cost p c k + _) = _; rw [Nat.mul_add]
    rw [e]
    have h1 : 1 ≤ 2 ^ (t * ((c k).natAbs * bitLen (p k).toNat)) := Nat.one_le_two_pow
    by_cases hc : 0 < c k
    · rw [sideUp_pos hc, sideDown_pos hc]
      exact ⟨Nat.mul_le_mul ih.1 hp, by have := Nat.mul_le_mul ih.2 h1; rwa [Nat.mul_one] at this⟩
    · rw [sideUp_neg hc, sideDown_neg hc]
      exact ⟨by have := Nat.mul_le_mul ih.1 h1; rwa [Nat.mul_one] at this, Nat.mul_le_mul ih.2 hp⟩
theorem cost_lt {p c : Nat → Int} {t k n E : Nat} (hk : k ≤ n) (h : 2 ^ (t * cost p c n) < 1000000 ^ E) : 2 ^ (t * cost p c k) < 1000000 ^ E :=
  Nat.lt_of_le_of_lt (Nat.pow_le_pow_right (by decide) (Nat.mul_le_mul_left _ (cost_mono p c hk))) h
theorem term_lt {p c : Nat → Int} {t k n E : Nat} (hk : k < n) (h : 2 ^ (t * cost p c n) < 1000000 ^ E) : (p k).toNat ^ ((c k).natAbs * t) < 1000000 ^ E := by
  refine Nat.lt_of_le_of_lt (Nat.le_trans (pow_bits _ _ _) ?_) (cost_lt (show k + 1 ≤ n by omega) h)
  refine Nat.pow_le_pow_right (by decide) (Nat.mul_le_mul_left _ ?_)
  show _ ≤ cost p c k + _
  omega
theorem size_le_cost {p c : Nat → Int} {k n : Nat} (hk : k < n) (hb : Bounded n p c) : (c k).natAbs ≤ cost p c n := by
  have h1 := cost_mono p c (show k + 1 ≤ n by omega)
  have h2 : 0 < bitLen (p k).toNat := bitLen_pos (by have := (hb k hk).1; omega)
  have h3 : (c k).natAbs * 1 ≤ (c k).natAbs * bitLen (p k).toNat := Nat.mul_le_mul_left _ h2
  have h4 : cost p c (k + 1) = cost p c k + (c k).natAbs * bitLen (p k).toNat := rfl
  omega

end Go.Proofs.YtdlbnolnkmhdcaaDoor

/- (sum).putTerms. -/
namespace Go.Proofs.YtdlbnolnkmhdcaaDoor
open Go.RowKit Go.Maps

theorem map_no_cell {w : World} {b nn o : Nat} {D : DataW Unit} {k : TypeId} {R : Value → Option (DataW Unit × List MemPlace)} (h : w.ownsMap Tryd.prog k R b nn D) : w.cell? ⟨b, o, none⟩ = none := by
  obtain ⟨es, clock, hm, _⟩ := h
  simp [World.cell?, hm]
theorem atL_join : ∀ (l : List (Int × Int)) (e : Int × Int) (x : Int), (∀ f ∈ l, f.1 ≠ e.1) → atL (l ++ [e]) x = atL l x + if e.1 = x then e.2 else 0
  | [], e, x, _ => by simp [atL]
  | y :: r, e, x, h => by
    have ih := atL_join r e x (fun f hf => h f (List.mem_cons_of_mem _ hf))
    simp only [List.cons_append, atL]
    by_cases hy : y.1 = x
    · rw [if_pos hy, if_pos hy, if_neg (fun he => h y (List.mem_cons_self ..) (hy.trans he.symm))]; omega
    · rw [if_neg hy, if_neg hy]; exact ih
theorem take_before {t : List (Int × Int)} (hr : Rising t) {k : Nat} (hk : k < t.length) : ∀ f ∈ t.take k, f.1 ≠ (t.getD k (0, 0)).1 := fun f hf => by
  have h := hr.sublist (List.take_sublist (k + 1) t)
  rw [take_join hk] at h
  have := (List.pairwise_append.1 h).2.2 f hf (t.getD k (0, 0)) (by simp)
  omega
theorem atL_take {t : List (Int × Int)} (hr : Rising t) {k : Nat} (hk : k < t.length) (x : Int) : atL (t.take (k + 1)) x = atL (t.take k) x + if pOf t k = x then cOf t k else 0 := by
  rw [take_join hk, atL_join _ _ _ (take_before hr hk)]
  rfl
theorem atL_take_none {t : List (Int × Int)} (hr : Rising t) {k : Nat} (hk : k < t.length) : atL (t.take k) (pOf t k) = 0 := atL_none (take_before hr hk)
theorem atL_bound {t : List (Int × Int)} {B : Int} (hB : 0 ≤ B) (h : ∀ e ∈ t, -B ≤ e.2 ∧ e.2 ≤ B) (x : Int) : -B ≤ atL t x ∧ atL t x ≤ B := by
  by_cases h0 : atL t x = 0
  · rw [h0]; omega
  · exact h _ (atL_some h0)

/-- What putTerms keeps: k terms are put. -/
structure InTerms (w wr : World) (b : Nat) (m : Int) (l0 t : List (Int × Int)) (nn0 : Nat) (l : List (Int × Int)) (k : Nat) : Prop where
  own : wr.ownsMap Tryd.prog 3 (plainElem (H := Unit) Tryd.prog 3) b (nn0 + k) (mapOf l)
  rise : Rising l
  val : ∀ x, atL l x = atL l0 x + atL (t.take k) x * m
  keys : ∀ e ∈ l, 2 ≤ e.1 ∧ e.1 ≤ 1000000
  len : l.length ≤ l0.length + k
  grow : w.grownBy wr (some b)
  box : wr.cell? ⟨w.heap.size, 1, none⟩ = some (.map (some b))

theorem InTerms.put {w wr w1 : World} {b : Nat} {m : Int} {l0 t l : List (Int × Int)} {nn0 k : Nat} {X : Obj} (h : InTerms w wr b m l0 t nn0 l k) (hb : b < w.heap.size) (ht : Rising t) (hk : k < t.length) (hp : 2 ≤ pOf t k ∧ pOf t k ≤ 1000000)
    (ho : w1.ownsMap Tryd.prog 3 (plainElem (H := Unit) Tryd.prog 3) b (nn0 + k + 1) ((mapOf l).put (.int .i64 (pOf t k)) (.lit (.int .i64 (atL l (pOf t k) + cOf t k * m))))) (hg : (wr.alloc X).grownBy w1 (some b)) :
    InTerms w w1 b m l0 t nn0 (putL l (pOf t k) (atL l (pOf t k) + cOf t k * m)) (k + 1) := by
  have hgg : w.grownBy (wr.alloc X) (some b) := ⟨h.grow.os, h.grow.tape, h.grow.output, Nat.le_trans h.grow.size (by simp), fun j hj hn => (Below.heap_alloc _ _ j (Nat.lt_of_lt_of_le hj h.grow.size)).trans (h.grow.block j hj hn)⟩
  refine ⟨by rw [put_map] at ho; rw [← Nat.add_assoc]; exact ho, rising_put h.rise _ _, fun x => ?_, fun e he => ?_, ?_, grown_two hgg hg, cell_beside hg (by rw [World.cell?_alloc_lt _ _ ⟨w.heap.size, 1, none⟩ (cell_lt h.box)]; exact h.box) (by omega)⟩
  · rw [atL_put h.rise, atL_take ht hk, Int.add_mul]
    by_cases hx : x = pOf t k
    · rw [if_pos hx, if_pos hx.symm, h.val, hx]; omega
    · rw [if_neg hx, if_neg (fun e => hx e.symm), h.val, Int.zero_mul]; omega
  · rcases mem_put.1 he with rfl | ⟨he, _⟩
    · exact hp
    · exact h.keys e he
  · have h1 := length_put l (pOf t k) (atL l (pOf t k) + cOf t k * m)
    have h2 := h.len
    omega

theorem prod_bd {x m : Int} (hx : -1099511627776 ≤ x ∧ x ≤ 1099511627776) (hm : 0 ≤ m ∧ m ≤ 1000000) : -1099511627776000000 ≤ x * m ∧ x * m ≤ 1099511627776000000 := by
  obtain ⟨a, rfl⟩ := Int.eq_ofNat_of_zero_le hm.1
  have h1 : x * (a : Int) ≤ 1099511627776 * (a : Int) := Int.mul_le_mul_of_nonneg_right hx.2 (by omega)
  have h2 : -1099511627776 * (a : Int) ≤ x * (a : Int) := Int.mul_le_mul_of_nonneg_right hx.1 (by omega)
  omega

end Go.Proofs.YtdlbnolnkmhdcaaDoor

/- dist.putEntropy: the entropy of weights put into a sum. -/
namespace Go.Proofs.YtdlbnolnkmhdcaaDoor
open Go.RowKit Go.Maps

/-- What the i-th weight puts: its logarithm's part of a prime. -/
def entV (z : Nat → Int) (N : Nat) (x : Int) (i : Nat) : Int := z i * multI x N - z i * multI x (z i).toNat
/-- A function that puts into the sum at b. -/
def putV (den : Int) (b : Nat) : Value := .func (.func 42) #[.agg #[.int .i64 den, .map (some b)]] #[]

theorem multI_small (x : Int) {n : Nat} (h6 : n ≤ 1000000) : 0 ≤ multI x n ∧ multI x n ≤ 19 := by
  refine ⟨multI_nonneg x n, ?_⟩
  rcases Nat.eq_zero_or_pos n with rfl | h
  · simp [multI, mult, multF]
  · exact multI_le x h h6
theorem mul_weight {t m : Int} (ht : -4096 ≤ t ∧ t ≤ 4096) (hm : 0 ≤ m ∧ m ≤ 19) : -77824 ≤ t * m ∧ t * m ≤ 77824 := by
  obtain ⟨k, rfl⟩ := Int.eq_ofNat_of_zero_le hm.1
  have hk : k ≤ 19 := by omega
  rcases k with _ | _ | _ | _ | _ | _ | _ | _ | _ | _ | _ | _ | _ | _ | _ | _ | _ | _ | _ | _ | k <;> omega
theorem entV_le {z : Nat → Int} {N i : Nat} (x : Int) (hz : 0 ≤ z i ∧ z i ≤ 4096) (hN : N ≤ 4096) : -200000 ≤ entV z N x i ∧ entV z N x i ≤ 200000 := by
  unfold entV
  have h1 := mul_weight (t := z i) (by omega) (multI_small x (n := N) (by omega))
  have h2 := mul_weight (t := z i) (by omega) (multI_small x (n := (z i).toNat) (by omega))
  omega
theorem sumN_bound {f : Nat → Int} {B : Int} : ∀ {n : Nat}, (∀ i, i < n → -B ≤ f i ∧ f i ≤ B) → -((n : Int) * B) ≤ sumN f n ∧ sumN f n ≤ (n : Int) * B
  | 0, _ => by simp [sumN]
  | n + 1, h => by
    have ih := sumN_bound (f := f) (B := B) (n := n) (fun i hi => h i (by omega))
    have h1 := h n (by omega)
    simp only [sumN]
    have : ((n + 1 : Nat) : Int) * B = (n : Int) * B + B := by rw [Int.natCast_add, Int.add_mul]; simp
    rw [this]
    omega
/-- A list's cells lie where no map does. -/
theorem RowAt.beside {w w' : World} {b o n mb nn : Nat} {z : Nat → Int} {D : DataW Unit} {k : TypeId} {R : Value → Option (DataW Unit × List MemPlace)} (h : RowAt w b o n z) (hm : w.ownsMap Tryd.prog k R mb nn D) (hg : w.grownBy w' (some mb)) : RowAt w' b o n z := fun i hi => by
  have h1 := h i hi
  refine cell_beside hg h1 ?_
  rintro rfl
  rw [map_no_cell hm] at h1
  cases h1

end Go.Proofs.YtdlbnolnkmhdcaaDoor

/- The document's Entropy of a Wide, and EntropyOf. -/
namespace Go.Proofs.YtdlbnolnkmhdcaaDoor
open Go.RowKit

/-- A fraction in a box. -/
structure RBox (W0 W : World) (B : Nat) (n : Int) (d : Nat) : Prop where
  below : Below W0.heap.size W0 W
  hB : W0.heap.size ≤ B
  box : ∃ s ad l cap ad' l' cap', W.cell? ⟨B, 0, none⟩ = some (.bool s) ∧ W.cell? ⟨B, 1, none⟩ = some (.slice ad l cap) ∧ W.cell? ⟨B, 2, none⟩ = some (.slice ad' l' cap') ∧ RatioAt W (.agg #[.bool s, .slice ad l cap, .slice ad' l' cap']) n d
theorem rBox_soon {W0 W : World} {B : Nat} {n : Int} {d : Nat} {s : Bool} {ad ad' : Option Addr} {l cap l' cap' : Nat} (h : Below W0.heap.size W0 W) (hr : RatioAt W (.agg #[.bool s, .slice ad l cap, .slice ad' l' cap']) n d) (hn : NewBox3 W0 W B) : RBox W0 (((W.setCell ⟨B, 0, none⟩ (.bool s)).setCell ⟨B, 1, none⟩ (.slice ad l cap)).setCell ⟨B, 2, none⟩ (.slice ad' l' cap')) B n d := by
  refine ⟨below_set3 h hn.hB _ _ _, hn.hB, s, ad, l, cap, ad', l', cap', ?_, ?_, ?_, ?_⟩
  · rw [World.cell?_setCell_other _ _ _ _ (by simp), World.cell?_setCell_other _ _ _ _ (by simp)]; exact World.cell?_setCell_same _ _ _ hn.c0
  · rw [World.cell?_setCell_other _ _ _ _ (by simp)]; exact World.cell?_setCell_same _ _ _ (by rw [World.cell?_setCell_other _ _ _ _ (by simp)]; exact hn.c1)
  · exact World.cell?_setCell_same _ _ _ (by rw [World.cell?_setCell_other _ _ _ _ (by simp), World.cell?_setCell_other _ _ _ _ (by simp)]; exact hn.c2)
  · obtain ⟨u, q, hv, hu, hq⟩ := hr
    have hv' := hv
    simp only [Value.agg.injEq, Array.mk.injEq, List.cons.injEq, and_true] at hv'
    obtain ⟨_, rfl, rfl⟩ := hv'
    exact ⟨_, _, hv, hu.set3 hn.no hn.c0 hn.c1, hq.set3 hn.no hn.c0 hn.c1⟩
theorem low_lt {M : Nat} (hM : 0 < M) {z : Int} (hM6 : M ≤ 4096) (hz : -1000000 ≤ z ∧ z ≤ 1000000) : (lowN M z).natAbs < 1000000 ^ 3 ∧ lowD M z < 1000000 ^ 3 := by
  have p3 : (1000000 : Nat) ^ 3 = 1000000000000000000 := by decide
  have h1 := lowN_le hM z
  have h2 := lowD_le M z
  rw [p3]
  omega
end Go.Proofs.YtdlbnolnkmhdcaaDoor

/- The document's Entropy of a Wide. -/
namespace Go.Proofs.YtdlbnolnkmhdcaaDoor
open Go.RowKit

theorem RowAt.kept {w w' : World} {b o n : Nat} {z : Nat → Int} (h : RowAt w b o n z) (hk : IntsKept w w') : RowAt w' b o n z := fun i hi => hk _ _ (h i hi)

end Go.Proofs.YtdlbnolnkmhdcaaDoor

/- (*Wide).Told, walked. -/
namespace Go.Proofs.YtdlbnolnkmhdcaaDoor
open Go.RowKit

theorem nat_not_neg (n : Nat) : ¬ ((n : Int) < 0) := by omega

end Go.Proofs.YtdlbnolnkmhdcaaDoor

/- The law's isLog. -/
namespace Go.Proofs.YtdlbnolnkmhdcaaDoor
open Go.RowKit

theorem own_form {w : World} {v : Value} {n : Nat} {p c : Nat → Int} (h : OwnAt w v n p c) : ∃ ad m cap, v = .slice ad m cap := by
  rcases h with ⟨rfl, _⟩ | ⟨g, cap, rfl, _⟩
  · exact ⟨_, _, _, rfl⟩
  · exact ⟨_, _, _, rfl⟩

end Go.Proofs.YtdlbnolnkmhdcaaDoor

/- The document's LogSum. -/
namespace Go.Proofs.YtdlbnolnkmhdcaaDoor
open Go.RowKit

def FitsL (M G : Nat) (l : List (Int × Int)) : Prop := M / G ≤ 1000000 ∧ ∀ e ∈ l, (e.2.tdiv (G : Int)).natAbs ≤ 1099511627776
theorem fits_iff (M G : Nat) (L : List Ent) : FitsW M G L ↔ FitsL M G (absL L) := by
  unfold FitsW FitsL
  constructor
  · rintro ⟨h1, h2⟩
    refine ⟨h1, fun e he => ?_⟩
    obtain ⟨f, hf, rfl⟩ := List.mem_map.1 he
    exact h2 f hf
  · rintro ⟨h1, h2⟩
    exact ⟨h1, fun e he => h2 _ (absL_mem he)⟩
theorem zs_abs (L : List Ent) : zsOf L = (absL L).map Prod.snd := by unfold zsOf absL; rw [List.map_map]; rfl
theorem bool_of (P : Prop) : ∃ b : Bool, b = true ↔ P := by
  by_cases h : P
  · exact ⟨true, ⟨fun _ => h, fun _ => rfl⟩⟩
  · exact ⟨false, ⟨(fun e => by cases e), (fun e => absurd e h)⟩⟩
/-- What is told of a sum l over M: in form, or the bound. -/
def ToldOf (M : Nat) (l : List (Int × Int)) (w : World) (dn : Int) (v : Value) (code : Int) : Prop := (FitsL M (gList M (l.map Prod.snd)) l ∧ dn = ((M / gList M (l.map Prod.snd) : Nat) : Int) ∧ code = 0 ∧ ListAt w v (overL (gList M (l.map Prod.snd)) l)) ∨ (¬ FitsL M (gList M (l.map Prod.snd)) l ∧ dn = 0 ∧ v = .slice none 0 0 ∧ code = 2)

end Go.Proofs.YtdlbnolnkmhdcaaDoor

/- logs.Valid at any logarithm. -/
namespace Go.Proofs.YtdlbnolnkmhdcaaDoor
open Go.RowKit

theorem LogAt.slice {w : World} {sv : Value} {n : Nat} {p c : Nat → Int} (h : LogAt w sv n p c) : ∃ ad cap, sv = .slice ad n cap := by
  rcases h with ⟨ad, cap, rfl, rfl⟩ | ⟨b, o, cap, rfl, _⟩
  · exact ⟨_, _, rfl⟩
  · exact ⟨_, _, rfl⟩
end Go.Proofs.YtdlbnolnkmhdcaaDoor

/- logs.Add where the sum has a form. -/
namespace Go.Proofs.YtdlbnolnkmhdcaaDoor
open Go.RowKit Go.Maps

/-- What the walk of Add keeps from a world on. -/
structure AddKeeps (B : Nat) (da db : Nat) (s1 s2 : Value) (n1 n2 : Nat) (t1 t2 : List (Int × Int)) (W : World) : Prop where
  a0 : W.cell? ⟨B, 0, none⟩ = some (.int .i64 da)
  a1 : W.cell? ⟨B, 1, none⟩ = some s1
  b0 : W.cell? ⟨B + 1, 0, none⟩ = some (.int .i64 db)
  b1 : W.cell? ⟨B + 1, 1, none⟩ = some s2
  r0 : W.cell? ⟨B + 1 + 1, 0, none⟩ = some (.int .i64 0)
  r1 : W.cell? ⟨B + 1 + 1, 1, none⟩ = some (.slice none 0 0)
  f0 : W.frozen? ⟨B + 1 + 1, 0, none⟩ = false
  f1 : W.frozen? ⟨B + 1 + 1, 1, none⟩ = false
  l1 : LogAt W s1 n1 (pOf t1) (cOf t1)
  l2 : LogAt W s2 n2 (pOf t2) (cOf t2)
theorem AddKeeps.later {B da db : Nat} {s1 s2 : Value} {n1 n2 : Nat} {t1 t2 : List (Int × Int)} {W W' : World} (h : AddKeeps B da db s1 s2 n1 n2 t1 t2 W) (hb : Below W.heap.size W W') : AddKeeps B da db s1 s2 n1 n2 t1 t2 W' :=
  ⟨(cell_past h.a0 hb).2, (cell_past h.a1 hb).2, (cell_past h.b0 hb).2, (cell_past h.b1 hb).2, (cell_past h.r0 hb).2, (cell_past h.r1 hb).2, (frozen_past h.r0 h.f0 hb).2, (frozen_past h.r1 h.f1 hb).2, h.l1.later hb, h.l2.later hb⟩

theorem box_past {w3 w4 : World} {x y : Value} {t : TypeId} (hb : Below ((w3.alloc (.cells #[x, y] t)).drew).heap.size ((w3.alloc (.cells #[x, y] t)).drew) w4) : w4.cell? ⟨w3.heap.size, 0, none⟩ = some x ∧ w4.cell? ⟨w3.heap.size, 1, none⟩ = some y ∧ w4.frozen? ⟨w3.heap.size, 0, none⟩ = false ∧ w4.frozen? ⟨w3.heap.size, 1, none⟩ = false := by
  have h : Below (w3.alloc (.cells #[x, y] t)).heap.size (w3.alloc (.cells #[x, y] t)) w4 := below_chain ((Below.refl _ _).drew) hb
  have c0 : (w3.alloc (.cells #[x, y] t)).cell? ⟨w3.heap.size, 0, none⟩ = some x := by rw [World.cell?_alloc_at _ _ _ _ rfl]; rfl
  have c1 : (w3.alloc (.cells #[x, y] t)).cell? ⟨w3.heap.size, 1, none⟩ = some y := by rw [World.cell?_alloc_at _ _ _ _ rfl]; rfl
  exact ⟨(cell_past c0 h).2, (cell_past c1 h).2, (frozen_past c0 (frozen_new rfl) h).2, (frozen_past c1 (frozen_new rfl) h).2⟩
theorem below_set {w3 w4 : World} (hc : Below w3.heap.size w3 w4) (x y : Value) : Below w3.heap.size w3 ((w4.setCell ⟨w3.heap.size, 0, none⟩ x).setCell ⟨w3.heap.size, 1, none⟩ y) := (hc.setCell (Nat.le_refl _) _).setCell (Nat.le_refl _) _
theorem quo_i64 {a b : Nat} (h : a ≤ 1000000) : IntKind.i64.wrap ((a : Int) / (b : Int)) = ((a / b : Nat) : Int) := by
  have h0 : (a : Int) / (b : Int) = ((a / b : Nat) : Int) := by simp
  have h1 : a / b ≤ a := Nat.div_le_self _ _
  rw [h0, IntKind.wrap_i64]
  generalize a / b = q at h1
  omega
theorem below_alloc {w W : World} (h : Below w.heap.size w W) (X : Obj) : Below w.heap.size w (W.alloc X) := h.alloc h.size X

/-- The new sum's box and its map. -/
structure SumBox (w3 wx : World) (Bs mb : Nat) (D : Int) : Prop where
  below : Below w3.heap.size w3 wx
  s0 : wx.cell? ⟨Bs, 0, none⟩ = some (.int .i64 D)
  s1 : wx.cell? ⟨Bs, 1, none⟩ = some (.map (some mb))
  own : wx.ownsMap Tryd.prog 3 (plainElem (H := Unit) Tryd.prog 3) mb 0 (mapOf [])
  hB : w3.heap.size ≤ Bs
  hm : w3.heap.size ≤ mb
theorem sumBox_late {w3 w4 : World} {D : Int} (ho : w4.ownsMap Tryd.prog 3 (plainElem (H := Unit) Tryd.prog 3) (w3.heap.size + 1) 0 (.map [])) (hc : Below w3.heap.size w3 w4) : SumBox w3 (w4.alloc (.cells #[.int .i64 D, .map (some (w3.heap.size + 1))] 75)) w4.heap.size (w3.heap.size + 1) D :=
  ⟨below_alloc hc _, by rw [World.cell?_alloc_at _ _ _ _ rfl]; rfl, by rw [World.cell?_alloc_at _ _ _ _ rfl]; rfl, ownsMap_later ho (Below.heap_alloc _ _ _ ho.lt), hc.size, by omega⟩
theorem sumBox_soon {w3 w4 : World} {D : Int} {u v : Value} (ho : w4.ownsMap Tryd.prog 3 (plainElem (H := Unit) Tryd.prog 3) (w3.heap.size + 1 + 1) 0 (.map [])) (hc : Below w3.heap.size w3 w4) (h0 : w4.cell? ⟨w3.heap.size, 0, none⟩ = some u) (h1 : w4.cell? ⟨w3.heap.size, 1, none⟩ = some v) :
    SumBox w3 ((w4.setCell ⟨w3.heap.size, 0, none⟩ (.int .i64 D)).setCell ⟨w3.heap.size, 1, none⟩ (.map (some (w3.heap.size + 1 + 1)))) w3.heap.size (w3.heap.size + 1 + 1) D := by
  refine ⟨below_set hc _ _, ?_, ?_, ownsMap_later ho ?_, Nat.le_refl _, by omega⟩
  · rw [World.cell?_setCell_other _ _ _ _ (by simp)]; exact World.cell?_setCell_same _ _ _ h0
  · exact World.cell?_setCell_same _ _ _ (by rw [World.cell?_setCell_other _ _ _ _ (by simp)]; exact h1)
  · rw [Below.heap_setCell _ _ _ _ (by show w3.heap.size + 1 + 1 ≠ w3.heap.size; omega), Below.heap_setCell _ _ _ _ (by show w3.heap.size + 1 + 1 ≠ w3.heap.size; omega)]
theorem grown_below {w3 W W' : World} {mb : Nat} (h : Below w3.heap.size w3 W) (hg : W.grownBy W' (some mb)) (hm : w3.heap.size ≤ mb) : Below w3.heap.size w3 W' :=
  h.grown hg h.size (fun k e => by cases e; exact hm)

end Go.Proofs.YtdlbnolnkmhdcaaDoor

/- (sum).told in general: a form, or ErrBound. -/
namespace Go.Proofs.YtdlbnolnkmhdcaaDoor
open Go.RowKit Go.Maps Go.Sort Go.Shelf

theorem all_next {cf : Int → Int} {G : Nat} {ks : List Int} {k : Nat} {p : Int} (ht : ks.take (k + 1) = ks.take k ++ [p]) (h : ∀ x ∈ ks.take k, (quo cf G x).natAbs ≤ 1099511627776) (hp : (quo cf G p).natAbs ≤ 1099511627776) : Hid (∀ x ∈ ks.take (k + 1), (quo cf G x).natAbs ≤ 1099511627776) := fun x hx => by
  rw [ht, List.mem_append] at hx
  rcases hx with hx | hx
  · exact h x hx
  · rw [List.mem_singleton] at hx; rw [hx]; exact hp

set_option maxRecDepth 100000 in
set_option maxHeartbeats 2000000 in
/-- told: a sum that has a form, or ErrBound. -/
theorem told_any (den : Int) (b nn : Nat) (D : DataW Unit) (cf : Int → Int) (ks : List Int) (w : World) (hown : w.ownsMap Tryd.prog 3 (plainElem Tryd.prog 3) b nn D)
    (hat : ∀ x, D.atKey (.int .i64 x) (.lit (.int .i64 0)) = .lit (.int .i64 (cf x))) (hks : ∀ ss : List Int, ss.Perm (intKeys D) → ss.mergeSort (fun x y => decide (x ≤ y)) = ks) (hsz : Maps.size D ≤ 100000) (hlen : ks.length ≤ 100000)
    (hwf : ∀ x ∈ ks, (Lit.int .i64 x).wf = true) (hd1 : 1 ≤ den) (hd2 : den ≤ 1000000000000) (hcf : ∀ x, -2305843009213693952 ≤ cf x ∧ cf x ≤ 2305843009213693952)
    (G : Nat) (hG : gcdL den cf ks ks.length = G) (a : Nat → Addr) (hE : Errs w a) (fit : Bool) (hfit : fit = true ↔ (den / (G : Int) ≤ 1000000 ∧ ∀ x ∈ ks, (quo cf G x).natAbs ≤ 1099511627776)) :
    Calls Tryd.prog 43 #[.agg #[.int .i64 den, .map (some b)]] w fun e w' => ((fit = true ∧ ∃ v, e = .returned (.tuple #[.agg #[.int .i64 (den / (G : Int)), v], .nilIface]) ∧ w'.ownsRow w.heap.size 101 2 v (countOf (quo cf G) ks) (termsOf (quo cf G) ks)) ∨ (fit = false ∧ e = .returned (.tuple #[.agg #[.int .i64 0, .slice none 0 0], .iface 145 (.pointer (some (a 1)))]))) ∧ Below w.heap.size w w' := by
  have hbl := hown.lt
  have HK : Hid (∀ ss : List Int, ss.Perm (intKeys D) → ss.mergeSort (fun x y => decide (x ≤ y)) = ks) := hks
  have HAT : Hid (∀ x, D.atKey (.int .i64 x) (.lit (.int .i64 0)) = .lit (.int .i64 (cf x))) := hat
  have HWF : Hid (∀ x ∈ ks, (Lit.int .i64 x).wf = true) := hwf
  have HCF : Hid (∀ x, -2305843009213693952 ≤ cf x ∧ cf x ≤ 2305843009213693952) := hcf
  have HG : Hid (gcdL den cf ks ks.length = G) := hG
  have HFIT := Hid.mk' hfit
  have HERR := Hid.mk' hE
  clear hks hat hwf hcf hG hfit hE
  have hb3 : Below w.heap.size w (((w.alloc (.cells #[.int .i64 den, .map (some b)] 75)).alloc (.cells #[.int .i64 0, .slice none 0 0] 46)).alloc (.cells #[.map (some b)] 73)) := (((Below.refl _ _).alloc (Nat.le_refl _) _).alloc (by simp) _).alloc (by simp; omega) _
  have hk := maps_keys (some b) ((w.alloc (.cells #[.int .i64 den, .map (some b)] 75)).alloc (.cells #[.int .i64 0, .slice none 0 0] 46))
  have hs := sorted_keys (w.heap.size + 1 + 1) b nn D _ (((w.alloc (.cells #[.int .i64 den, .map (some b)] 75)).alloc (.cells #[.int .i64 0, .slice none 0 0] 46)).alloc (.cells #[.map (some b)] 73)) (by rw [World.cell?_alloc_at _ _ _ _ (by simp)]; rfl) (by simp) (ownsMap_later hown (hb3.block b hbl)) (by unfold maxLen; omega) (by omega)
  go_enter Tryd.func43, Tryd.ntmps43
  go_wp2_with fail
  refine hk.mono ?_
  clear hk
  rintro e w1 ⟨rfl, rfl⟩
  go_wp2_with fail
  refine hs.mono ?_
  clear hs
  rintro e w2 ⟨v, ss, rfl, hperm, hrow, hnil, hb4⟩
  have hms := HK.out ss hperm
  rw [hms] at hrow
  have hsl : ss.length = ks.length := by rw [← hms]; simp
  rw [hsl] at hrow
  rcases hrow.2 with ⟨rfl, hz⟩ | ⟨g, cap, cur, rfl, hbase, hgb, r1, r2, r3, r4⟩
  · obtain rfl : ks = [] := List.eq_nil_of_length_eq_zero hz
    have hs4 := hb4.size
    simp at hs4
    have hbA := hb3.trans (hb4.mono (show w.heap.size ≤ _ by simp; omega))
    have x0 : w2.cell? ⟨w.heap.size, 0, none⟩ = some (.int .i64 den) := by
      rw [hb4.cell (p := ⟨w.heap.size, 0, none⟩) (by simp; omega), World.cell?_alloc_lt _ _ ⟨w.heap.size, 0, none⟩ (by simp; omega), World.cell?_alloc_lt _ _ ⟨w.heap.size, 0, none⟩ (by simp), World.cell?_alloc_at _ _ _ _ rfl]; rfl
    have z0 : w2.cell? ⟨w.heap.size + 1, 0, none⟩ = some (.int .i64 0) := by
      rw [hb4.cell (p := ⟨w.heap.size + 1, 0, none⟩) (by simp), World.cell?_alloc_lt _ _ ⟨w.heap.size + 1, 0, none⟩ (by simp), World.cell?_alloc_at _ _ _ _ (by simp)]; rfl
    have z1 : w2.cell? ⟨w.heap.size + 1, 1, none⟩ = some (.slice none 0 0) := by
      rw [hb4.cell (p := ⟨w.heap.size + 1, 1, none⟩) (by simp), World.cell?_alloc_lt _ _ ⟨w.heap.size + 1, 1, none⟩ (by simp), World.cell?_alloc_at _ _ _ _ (by simp)]; rfl
    have f0 : w2.frozen? ⟨w.heap.size + 1, 0, none⟩ = false := by
      rw [hb4.frozen (p := ⟨w.heap.size + 1, 0, none⟩) (by simp), World.frozen?_alloc_old _ _ ⟨w.heap.size + 1, 0, none⟩ (by simp)]; exact frozen_new (by simp)
    have f1 : w2.frozen? ⟨w.heap.size + 1, 1, none⟩ = false := by
      rw [hb4.frozen (p := ⟨w.heap.size + 1, 1, none⟩) (by simp), World.frozen?_alloc_old _ _ ⟨w.heap.size + 1, 1, none⟩ (by simp)]; exact frozen_new (by simp)
    obtain rfl : den.natAbs = G := HG.out
    have hG1 : (den.natAbs : Int) = den := by omega
    have hdd : den / den = 1 := Int.ediv_self (by omega)
    have HDD : Hid (den / (den.natAbs : Int) = 1) := by show _ = _; rw [hG1, hdd]
    have HBA : Hid (Below w.heap.size w w2) := hbA
    have hft : fit = true := HFIT.out.2 ⟨by rw [hG1, hdd]; omega, fun x hx => by cases hx⟩
    have HFT := Hid.mk' hft
    clear hrow hnil hb4 hb3 hbA HG hG1 hft
    have y0 : ∀ X, (w2.alloc X).cell? ⟨w.heap.size + 1, 0, none⟩ = some (.int .i64 0) := fun X => by rw [World.cell?_alloc_lt _ _ ⟨w.heap.size + 1, 0, none⟩ (by show w.heap.size + 1 < _; omega)]; exact z0
    have y1 : ∀ X, (w2.alloc X).cell? ⟨w.heap.size + 1, 1, none⟩ = some (.slice none 0 0) := fun X => by rw [World.cell?_alloc_lt _ _ ⟨w.heap.size + 1, 1, none⟩ (by show w.heap.size + 1 < _; omega)]; exact z1
    have g0 : ∀ X, (w2.alloc X).frozen? ⟨w.heap.size + 1, 0, none⟩ = false := fun X => by rw [World.frozen?_alloc_old _ _ ⟨w.heap.size + 1, 0, none⟩ (by show w.heap.size + 1 ≠ _; omega)]; exact f0
    have g1 : ∀ X, (w2.alloc X).frozen? ⟨w.heap.size + 1, 1, none⟩ = false := fun X => by rw [World.frozen?_alloc_old _ _ ⟨w.heap.size + 1, 1, none⟩ (by show w.heap.size + 1 ≠ _; omega)]; exact f1
    go_wp2_with fail
    refine wp_loop_rounds 1 ?_
    rw [rounds_succ]
    go_wp2_with fail
    refine wp_loop_rounds 1 ?_
    rw [rounds_succ]
    go_wp2_with fail
    refine bodyPost_ret (v := .tuple #[.agg #[.int .i64 1, .slice none 0 0], .nilIface]) (by simp [results, Tryd.results43, go_sem, y0, y1]) rfl ⟨Or.inl ⟨HFT.out, .slice none 0 0, by rw [HDD.out], ⟨rfl, Or.inl ⟨rfl, rfl⟩⟩⟩, ?_⟩
    exact ((HBA.out.alloc HBA.out.size _).setCell (by simp) _).setCell (by simp) _
  · have hI : InTold w w2 den b nn D g ks := by
      have hs4 := hb4.size
      simp at hs4
      refine ⟨?_, ?_, ?_, ?_, ?_, ?_, ?_, hb3.trans (hb4.mono (by simp; omega)), by omega, ?_⟩
      · rw [hb4.cell (p := ⟨w.heap.size, 0, none⟩) (by simp; omega), World.cell?_alloc_lt _ _ ⟨w.heap.size, 0, none⟩ (by simp; omega), World.cell?_alloc_lt _ _ ⟨w.heap.size, 0, none⟩ (by simp), World.cell?_alloc_at _ _ _ _ rfl]; rfl
      · rw [hb4.cell (p := ⟨w.heap.size, 1, none⟩) (by simp; omega), World.cell?_alloc_lt _ _ ⟨w.heap.size, 1, none⟩ (by simp; omega), World.cell?_alloc_lt _ _ ⟨w.heap.size, 1, none⟩ (by simp), World.cell?_alloc_at _ _ _ _ rfl]; rfl
      · rw [hb4.cell (p := ⟨w.heap.size + 1, 0, none⟩) (by simp), World.cell?_alloc_lt _ _ ⟨w.heap.size + 1, 0, none⟩ (by simp), World.cell?_alloc_at _ _ _ _ (by simp)]; rfl
      · rw [hb4.cell (p := ⟨w.heap.size + 1, 1, none⟩) (by simp), World.cell?_alloc_lt _ _ ⟨w.heap.size + 1, 1, none⟩ (by simp), World.cell?_alloc_at _ _ _ _ (by simp)]; rfl
      · rw [hb4.frozen (p := ⟨w.heap.size + 1, 0, none⟩) (by simp), World.frozen?_alloc_old _ _ ⟨w.heap.size + 1, 0, none⟩ (by simp)]; exact frozen_new (by simp)
      · rw [hb4.frozen (p := ⟨w.heap.size + 1, 1, none⟩) (by simp), World.frozen?_alloc_old _ _ ⟨w.heap.size + 1, 1, none⟩ (by simp)]; exact frozen_new (by simp)
      · exact ownsMap_later hown ((hb4.block b (by simp; omega)).trans (hb3.block b hbl))
      · intro i hi
        have : w2.cell? ⟨g, i, none⟩ = cur[i]? := by simp [World.cell?, hgb]
        have h5 : cur.toList[i]? = (ks.map encZ)[i]? := by rw [← r4, List.getElem?_take_of_lt (by omega)]
        rw [this, ← Array.getElem?_toList, h5]
        simp [encZ, hi]
    have HI : Hid (InTold w w2 den b nn D g ks) := hI
    clear hI hrow hnil hgb r4 r3 hb4 hb3
    have x0 := HI.out.box0
    go_wp2_with fail
    clear x0
    go_loopw [5, 20] (fun t i wr => ∃ k : Nat, k ≤ ks.length ∧ t = .int .i64 (gcdL den cf ks k) ∧ i = .int .i64 k ∧ Hid (InTold w wr den b nn D g ks)) (fun _ i _ => ks.length - (intOf i).toNat)
    case atStart => exact ⟨0, Nat.zero_le _, by show _ = Value.int IntKind.i64 ((den.natAbs : Nat) : Int); congr 1; omega, rfl, HI⟩
    case round =>
      clear HI
      obtain ⟨k, hk, rfl, rfl, HI⟩ := hrel
      have hgp := gcdTo_pos den (fun i => cf (ks.getD i 0)) hd1 k
      have HGP : Hid (1 ≤ gcdL den cf ks k ∧ gcdL den cf ks k ≤ den.natAbs) := hgp
      clear hgp
      have hg1 : 1 ≤ gcdL den cf ks k := HGP.out.1
      have hg2 : (gcdL den cf ks k : Int) ≤ 1000000000000 := by have := HGP.out.2; omega
      have x0 := HI.out.box0
      have x1 := HI.out.box1
      by_cases hlt : k < ks.length
      · have hck := HI.out.keys k hlt
        have hc1 := (HCF.out (ks.getD k 0)).1
        have hc2 := (HCF.out (ks.getD k 0)).2
        have hmem : ks.getD k 0 ∈ ks := by
          rw [List.getD_eq_getElem?_getD, List.getElem?_eq_getElem hlt]; exact List.getElem_mem hlt
        have hkey : keyOf Tryd.prog 3 (.int .i64 (ks.getD k 0)) = some (.int .i64 (ks.getD k 0)) := keyOf_int_mk Tryd.underlying3 (HWF.out _ hmem)
        have HKEY : Hid (keyOf Tryd.prog 3 (.int .i64 (ks.getD k 0)) = some (.int .i64 (ks.getD k 0))) := hkey
        obtain ⟨p, hp⟩ : ∃ p, p = ks.getD k 0 := ⟨_, rfl⟩
        have HP : Hid (p = ks.getD k 0) := hp
        rw [← hp] at hck hc1 hc2 HKEY
        clear hkey hmem hp
        go_wp2_with (first
          | (at_lookup; go_must (refine wpList_lookup_own_int _ rfl _ _ 73 rfl 3 3 .i64 Tryd.lawInt Tryd.underlying73 Tryd.underlying3 (Tryd.zeroInt _) b nn D rfl HI.out.own _ _ rfl HKEY.out ?_; intro c hat hwc; have hcc := coef_of HAT.out hat; clear hat hwc; subst hcc))
          | (go_at_call 54; refine (GCD_any _ _ _ (by omega) (by omega) (by omega) (by omega)).mono ?_; rintro e w' ⟨rfl, mm, rfl⟩))
        exact ⟨⟨k + 1, by omega, by show _ = Value.int IntKind.i64 ((Int.gcd (gcdL den cf ks k : Int) (cf (ks.getD k 0)) : Nat) : Int); rw [← HP.out], by go_num, HI.out.drewN mm⟩, by simp [intOf]; omega⟩
      · obtain rfl : k = ks.length := by omega
        have HG' := HG.out
        rw [HG'] at hg1 hg2 HGP ⊢
        clear HG'
        obtain ⟨i0, hi, hz0, hz1, hz2⟩ := info_parts Tryd.infoTerm
        have HINF : Hid (Tryd.prog.info? 101 = some i0 ∧ i0.zero = some (.agg #[.int .i64 0, .int .i64 0]) ∧ i0.size = 2 ∧ i0.bytes = 16) := ⟨hi, hz0, hz1, hz2⟩
        clear hi hz0 hz1 hz2
        have HS0 : Hid (InOut wr (wr.alloc (.cells #[.int .i64 (den / (G : Int)), .slice none 0 0] 46)) (den / (G : Int)) (.slice none 0 0) 0 []) := InOut.start wr _
        have hdq0 : 0 ≤ den / (G : Int) := Int.ediv_nonneg (by omega) (by omega)
        have HIN : Hid (InTold w wr den b nn D g ks) := HI.out
        clear HI
        by_cases hdq : den / (G : Int) ≤ 1000000
        case neg =>
          have hff : fit = false := not_true_of HFIT.out (fun h => hdq h.1)
          have hdq2 : den / (G : Int) ≤ 1000000000000 := Int.le_trans (Int.ediv_le_self _ (by omega)) hd2
          have hdq3 : 1000000 < den / (G : Int) := by omega
          have hbg := HIN.out.big
          have y0 : ∀ X, (wr.alloc X).cell? ⟨w.heap.size + 1, 0, none⟩ = some (.int .i64 0) := fun X => by rw [World.cell?_alloc_lt _ _ ⟨w.heap.size + 1, 0, none⟩ (cell_lt HIN.out.res0)]; exact HIN.out.res0
          have y1 : ∀ X, (wr.alloc X).cell? ⟨w.heap.size + 1, 1, none⟩ = some (.slice none 0 0) := fun X => by rw [World.cell?_alloc_lt _ _ ⟨w.heap.size + 1, 1, none⟩ (cell_lt HIN.out.res1)]; exact HIN.out.res1
          have g0 : ∀ X, (wr.alloc X).frozen? ⟨w.heap.size + 1, 0, none⟩ = false := fun X => by rw [World.frozen?_alloc_old _ _ ⟨w.heap.size + 1, 0, none⟩ (Nat.ne_of_lt (cell_lt HIN.out.res0))]; exact HIN.out.fr0
          have g1 : ∀ X, (wr.alloc X).frozen? ⟨w.heap.size + 1, 1, none⟩ = false := fun X => by rw [World.frozen?_alloc_old _ _ ⟨w.heap.size + 1, 1, none⟩ (Nat.ne_of_lt (cell_lt HIN.out.res1))]; exact HIN.out.fr1
          have ye : ∀ X, (wr.alloc X).cell? ⟨1, 0, none⟩ = some (.iface 145 (.pointer (some (a 1)))) := fun X => (HERR.out.below (HIN.out.below.alloc HIN.out.below.size X)).c1
          have ys : ∀ X, ((wr.alloc X).setCell ⟨w.heap.size + 1, 0, none⟩ (.int .i64 0)).cell? ⟨1, 0, none⟩ = some (.iface 145 (.pointer (some (a 1)))) := fun X => by rw [World.cell?_setCell_other _ _ _ _ (fun e => by have h : 1 < w.heap.size := cell_lt HERR.out.c1; have e' : w.heap.size + 1 = 1 := congrArg Addr.block e; omega)]; exact ye X
          clear hdq
          go_wp2_with fail
          go_region
          go_wp2_with fail
          refine bodyPost_ret (v := .tuple #[.agg #[.int .i64 0, .slice none 0 0], .iface 145 (.pointer (some (a 1)))]) (by simp [results, Tryd.results43, go_sem, y0, y1]) rfl ⟨Or.inr ⟨hff, rfl⟩, ?_⟩
          exact (((HIN.out.below.alloc HIN.out.below.size _).setCell (by simp) _).setCell (by simp) _).drew
        go_wp2_with fail
        clear x0 x1
        obtain ⟨w1, hw1⟩ : ∃ w1, w1 = wr := ⟨_, rfl⟩
        rw [← hw1] at HS0 HIN ⊢
        clear hw1
        go_loopw [43] (fun i wr => ∃ (k : Nat) (sv : Value), k ≤ ks.length ∧ i = .int .i64 k ∧ Hid (∀ x ∈ ks.take k, (quo cf G x).natAbs ≤ 1099511627776) ∧ Hid (InOut w1 wr (den / (G : Int)) sv (countOf (quo cf G) (ks.take k)) (termsOf (quo cf G) (ks.take k)))) (fun i _ => ks.length - (intOf i).toNat)
        case atStart => exact ⟨0, .slice none 0 0, Nat.zero_le _, rfl, (fun x hx => by simp at hx), HS0.out⟩
        case round =>
          clear HS0
          obtain ⟨k, sv, hk, rfl, HAL, HO⟩ := hrel
          have HI : Hid (InTold w wr den b nn D g ks) := HIN.out.later HO.out.keep
          have x0 := HI.out.box0
          have x1 := HI.out.box1
          have y0 := HO.out.o0
          have y1 := HO.out.o1
          have yf := HO.out.fz
          by_cases hlt : k < ks.length
          · have hck := HI.out.keys k hlt
            have hmem : ks.getD k 0 ∈ ks := by
              rw [List.getD_eq_getElem?_getD, List.getElem?_eq_getElem hlt]; exact List.getElem_mem hlt
            have HKEY : Hid (keyOf Tryd.prog 3 (.int .i64 (ks.getD k 0)) = some (.int .i64 (ks.getD k 0))) := keyOf_int_mk Tryd.underlying3 (HWF.out _ hmem)
            have hc1 := (HCF.out (ks.getD k 0)).1
            have hc2 := (HCF.out (ks.getD k 0)).2
            obtain ⟨p, hp⟩ : ∃ p, p = ks.getD k 0 := ⟨_, rfl⟩
            have HP : Hid (p = ks.getD k 0) := hp
            rw [← hp] at hck HKEY hc1 hc2
            have HMEM : Hid (p ∈ ks) := by rw [← hp] at hmem; exact hmem
            clear hmem hp
            obtain ⟨q, hqq⟩ : ∃ q, q = quo cf G p := ⟨_, rfl⟩
            have HQQ : Hid (q = quo cf G p) := hqq
            have hqe : (cf p).tdiv (G : Int) = q := hqq.symm
            clear hqq
            have htake : Hid (ks.take (k + 1) = ks.take k ++ [p]) := by
              show _ = _
              rw [List.take_succ_eq_append_getElem hlt, HP.out, List.getD_eq_getElem?_getD, List.getElem?_eq_getElem hlt]
              rfl
            by_cases hqb : q.natAbs ≤ 1099511627776
            case neg =>
              have hff : fit = false := not_true_of HFIT.out (fun h => hqb (by have := h.2 p HMEM.out; rwa [← HQQ.out] at this))
              have hqs : q.natAbs ≤ (cf p).natAbs := by rw [← hqe]; exact Int.natAbs_tdiv_le_natAbs _ _
              have hqB : (1099511627776 : Int) < (q.natAbs : Int) := by omega
              have z0 := HI.out.res0
              have z1 := HI.out.res1
              have f0 := HI.out.fr0
              have f1 := HI.out.fr1
              have ye := (HERR.out.below HI.out.below).c1
              have ys : (wr.setCell ⟨w.heap.size + 1, 0, none⟩ (.int .i64 0)).cell? ⟨1, 0, none⟩ = some (.iface 145 (.pointer (some (a 1)))) := by rw [World.cell?_setCell_other _ _ _ _ (fun e => by have h : 1 < w.heap.size := cell_lt HERR.out.c1; have e' : w.heap.size + 1 = 1 := congrArg Addr.block e; omega)]; exact ye
              clear hqb
              go_wp2_with (first
                | (at_lookup; go_must (refine wpList_lookup_own_int _ rfl _ _ 73 rfl 3 3 .i64 Tryd.lawInt Tryd.underlying73 Tryd.underlying3 (Tryd.zeroInt _) b nn D rfl HI.out.own _ _ rfl HKEY.out ?_; intro c hat hwc; have hcc := coef_of HAT.out hat; clear hat hwc; subst hcc))
                | (go_at_call 55; refine (size_any _ _ (by omega) (by omega)).mono ?_; rintro e w' ⟨rfl, hw'⟩; rw [hw']; clear hw'))
              go_region
              go_wp2_with fail
              refine bodyPost_ret (v := .tuple #[.agg #[.int .i64 0, .slice none 0 0], .iface 145 (.pointer (some (a 1)))]) (by simp [results, Tryd.results43, go_sem, z0, z1]) rfl ⟨Or.inr ⟨hff, rfl⟩, ?_⟩
              exact ((HI.out.below.setCell (by simp) _).setCell (by simp) _).drew
            by_cases hq0 : q = 0
            · subst hq0
              go_wp2_with (first
                | (at_lookup; go_must (refine wpList_lookup_own_int _ rfl _ _ 73 rfl 3 3 .i64 Tryd.lawInt Tryd.underlying73 Tryd.underlying3 (Tryd.zeroInt _) b nn D rfl HI.out.own _ _ rfl HKEY.out ?_; intro c hat hwc; have hcc := coef_of HAT.out hat; clear hat hwc; subst hcc))
                | (go_at_call 55; refine (size_any _ _ (by omega) (by omega)).mono ?_; rintro e w' ⟨rfl, hw'⟩; rw [hw']; clear hw'))
              exact ⟨⟨k + 1, sv, by omega, by go_num, all_next htake.out HAL.out (by rw [← HQQ.out]; omega), by
                show InOut _ _ _ _ _ _
                rw [htake.out, termsOf_append, countOf_append]
                have h0 : quo cf G p = 0 := HQQ.out.symm
                simpa [termsOf, countOf, h0] using HO.out⟩, by simp [intOf]; omega⟩
            · have hqn : (q != 0) = true := by simp [hq0]
              have HQ0 : Hid (¬ q = 0) := hq0
              clear hq0
              have hcn := countOf_le (quo cf G) (ks.take k)
              have hcn2 : countOf (quo cf G) (ks.take k) ≤ 100000 := by have := List.length_take_le k ks; omega
              have HSZ : Hid (w1.heap.size < wr.heap.size) := cell_lt HO.out.o0
              have hsz := HSZ.out
              go_wp2_with (first
                | (at_lookup; go_must (refine wpList_lookup_own_int _ rfl _ _ 73 rfl 3 3 .i64 Tryd.lawInt Tryd.underlying73 Tryd.underlying3 (Tryd.zeroInt _) b nn D rfl HI.out.own _ _ rfl HKEY.out ?_; intro c hat hwc; have hcc := coef_of HAT.out hat; clear hat hwc; subst hcc))
                | (go_at_call 55; refine (size_any _ _ (by omega) (by omega)).mono ?_; rintro e w' ⟨rfl, hw'⟩; rw [hw']; clear hw')
                | (at_builtin; go_must (refine wpList_append_lies _ rfl _ _ _ rfl (w1.heap.size + 1) 101 i0 _ 2 16 Tryd.underlying44 HINF.out.1 HINF.out.2.1 HINF.out.2.2.1 HINF.out.2.2.2 rfl (by omega) sv _ _ rfl (HO.out.row.alloc _) ⟨wr.heap.size, 0, none⟩ 1 1 [.int .i64 p, .int .i64 q] rfl rfl (two_new _ _ _ _) (by simp [Value.oneCell']) (by omega) (by unfold maxLen; omega) (by omega) (by simp; omega) _ rfl ?_; intro g' cap' w3 hown3 hgrow3 hat3 hlt3; obtain ⟨z1, z2, HP3⟩ := HO.out.pushed hgrow3 hown3; have HPU := Hid.mk' HP3; clear hown3 hgrow3 hat3 HP3)))
              exact ⟨⟨k + 1, _, by omega, by go_num, all_next htake.out HAL.out (by rw [← HQQ.out]; omega), by
                show InOut _ _ _ _ _ _
                rw [htake.out, termsOf_append, countOf_append]
                have h0 : quo cf G p = q := HQQ.out.symm
                have h1 : ¬ q = 0 := HQ0.out
                simpa [termsOf, countOf, h0, h1] using HPU.out⟩, by simp [intOf]; omega⟩
          · obtain rfl : k = ks.length := by omega
            have z0 := HI.out.res0
            have z1 := HI.out.res1
            have f0 := HI.out.fr0
            have f1 := HI.out.fr1
            have hlt1 : w.heap.size + 1 < w1.heap.size := by have := HIN.out.big; omega
            have hfull : ks.take ks.length = ks := List.take_length
            have HOO : Hid (InOut w1 wr (den / (G : Int)) sv (countOf (quo cf G) ks) (termsOf (quo cf G) ks)) := by have := HO.out; rwa [hfull] at this
            have HFT : Hid (fit = true) := HFIT.out.2 ⟨hdq, by have := HAL.out; rwa [hfull] at this⟩
            clear hfull HO
            obtain ⟨ad, n', c', rfl⟩ : ∃ ad n' c', sv = .slice ad n' c' := by
              rcases HOO.out.row.2 with ⟨rfl, _⟩ | ⟨gg, cap', cur', rfl, _⟩
              · exact ⟨_, _, _, rfl⟩
              · exact ⟨_, _, _, rfl⟩
            go_wp2_with fail
            refine bodyPost_ret (v := .tuple #[.agg #[.int .i64 (den / (G : Int)), .slice ad n' c'], .nilIface]) (by simp [results, Tryd.results43, go_sem, z0, z1]) rfl ⟨Or.inl ⟨HFT.out, .slice ad n' c', rfl, ?_⟩, ?_⟩
            · have h1 := ownsRow_setCell_below HOO.out.row (a := ⟨w.heap.size + 1, 0, none⟩) (by show w.heap.size + 1 < _; omega) (.int .i64 (den / (G : Int)))
              have h2 := ownsRow_setCell_below h1 (a := ⟨w.heap.size + 1, 1, none⟩) (by show w.heap.size + 1 < _; omega) (.slice ad n' c')
              exact row_base h2 (by omega)
            · exact (HI.out.below.setCell (by simp) _).setCell (by simp) _
end Go.Proofs.YtdlbnolnkmhdcaaDoor

/- logs.Add in general: ErrShape, ErrBound, or the sum in form. -/
namespace Go.Proofs.YtdlbnolnkmhdcaaDoor
open Go.RowKit Go.Maps

theorem some_bool (P : Prop) : ∃ b : Bool, b = true ↔ P := by
  by_cases h : P
  · exact ⟨true, ⟨fun _ => h, fun _ => rfl⟩⟩
  · exact ⟨false, ⟨(fun e => by cases e), (fun e => absurd e h)⟩⟩
/-- Has a sum a form? -/
def Fits (den : Int) (G : Nat) (l : List (Int × Int)) : Prop := den / (G : Int) ≤ 1000000 ∧ ∀ e ∈ l, (e.2.tdiv (G : Int)).natAbs ≤ 1099511627776
/-- told by lists, in general. -/
theorem told_list_any (den : Int) (b nn : Nat) (l : List (Int × Int)) (w : World) (hown : w.ownsMap Tryd.prog 3 (plainElem (H := Unit) Tryd.prog 3) b nn (mapOf l)) (hr : Rising l) (hk : ∀ e ∈ l, 2 ≤ e.1 ∧ e.1 ≤ 1000000) (hlen : l.length ≤ 100000)
    (hb : ∀ x, -2305843009213693952 ≤ atL l x ∧ atL l x ≤ 2305843009213693952) (hd1 : 1 ≤ den) (hd2 : den ≤ 1000000000000) (G : Nat) (hG : gcdL den (atL l) (l.map Prod.fst) l.length = G) (a : Nat → Addr) (hE : Errs w a) (fit : Bool) (hfit : fit = true ↔ Fits den G l) :
    Calls Tryd.prog 43 #[.agg #[.int .i64 den, .map (some b)]] w fun e w' => ((fit = true ∧ ∃ v, e = .returned (.tuple #[.agg #[.int .i64 (den / (G : Int)), v], .nilIface]) ∧ w'.ownsRow w.heap.size 101 2 v (overL G l).length (termCells (pOf (overL G l)) (cOf (overL G l)) (overL G l).length)) ∨ (fit = false ∧ e = .returned (.tuple #[.agg #[.int .i64 0, .slice none 0 0], .iface 145 (.pointer (some (a 1)))]))) ∧ Below w.heap.size w w' := by
  have hcf : ∀ e ∈ l, atL l e.1 = e.2 := fun e he => atL_mem hr he
  have ht := terms_flat (atL l) G l hcf
  have hfit' : fit = true ↔ (den / (G : Int) ≤ 1000000 ∧ ∀ x ∈ l.map Prod.fst, (quo (atL l) G x).natAbs ≤ 1099511627776) := hfit.trans ⟨fun h => ⟨h.1, fun x hx => by obtain ⟨e, he, rfl⟩ := List.mem_map.1 hx; unfold quo; rw [hcf e he]; exact h.2 e he⟩, fun h => ⟨h.1, fun e he => by have := h.2 e.1 (List.mem_map.2 ⟨e, he, rfl⟩); unfold quo at this; rw [hcf e he] at this; exact this⟩⟩
  have := told_any den b nn (mapOf l) (atL l) (l.map Prod.fst) w hown (at_map l) (sort_keys hr) (by rw [size_map]; exact hlen) (by rw [List.length_map]; exact hlen)
    (fun x hx => by obtain ⟨e, he, rfl⟩ := List.mem_map.1 hx; have := hk e he; exact wf_int (by omega)) hd1 hd2 hb G (by rw [List.length_map]; exact hG) a hE fit hfit'
  rw [ht.1, ht.2, flat_cells] at this
  exact this

/-- Two boxes and a result. -/
theorem three_cells (w : World) (x0 x1 y0 y1 r0 r1 : Value) (t : TypeId) :
    ((((w.alloc (.cells #[x0, x1] t)).alloc (.cells #[y0, y1] t)).alloc (.cells #[r0, r1] t)).cell? ⟨w.heap.size, 0, none⟩ = some x0 ∧ (((w.alloc (.cells #[x0, x1] t)).alloc (.cells #[y0, y1] t)).alloc (.cells #[r0, r1] t)).cell? ⟨w.heap.size, 1, none⟩ = some x1) ∧ ((((w.alloc (.cells #[x0, x1] t)).alloc (.cells #[y0, y1] t)).alloc (.cells #[r0, r1] t)).cell? ⟨w.heap.size + 1, 0, none⟩ = some y0 ∧ (((w.alloc (.cells #[x0, x1] t)).alloc (.cells #[y0, y1] t)).alloc (.cells #[r0, r1] t)).cell? ⟨w.heap.size + 1, 1, none⟩ = some y1) ∧ ((((w.alloc (.cells #[x0, x1] t)).alloc (.cells #[y0, y1] t)).alloc (.cells #[r0, r1] t)).cell? ⟨w.heap.size + 1 + 1, 0, none⟩ = some r0 ∧ (((w.alloc (.cells #[x0, x1] t)).alloc (.cells #[y0, y1] t)).alloc (.cells #[r0, r1] t)).cell? ⟨w.heap.size + 1 + 1, 1, none⟩ = some r1) ∧ (((w.alloc (.cells #[x0, x1] t)).alloc (.cells #[y0, y1] t)).alloc (.cells #[r0, r1] t)).frozen? ⟨w.heap.size + 1 + 1, 0, none⟩ = false ∧ (((w.alloc (.cells #[x0, x1] t)).alloc (.cells #[y0, y1] t)).alloc (.cells #[r0, r1] t)).frozen? ⟨w.heap.size + 1 + 1, 1, none⟩ = false := by
  refine ⟨⟨?_, ?_⟩, ⟨?_, ?_⟩, ⟨?_, ?_⟩, frozen_new (by simp), frozen_new (by simp)⟩
  · rw [World.cell?_alloc_lt _ _ ⟨w.heap.size, 0, none⟩ (by simp; omega), World.cell?_alloc_lt _ _ ⟨w.heap.size, 0, none⟩ (by simp), World.cell?_alloc_at _ _ _ _ rfl]; rfl
  · rw [World.cell?_alloc_lt _ _ ⟨w.heap.size, 1, none⟩ (by simp; omega), World.cell?_alloc_lt _ _ ⟨w.heap.size, 1, none⟩ (by simp), World.cell?_alloc_at _ _ _ _ rfl]; rfl
  · rw [World.cell?_alloc_lt _ _ ⟨w.heap.size + 1, 0, none⟩ (by simp), World.cell?_alloc_at _ _ _ _ (by simp)]; rfl
  · rw [World.cell?_alloc_lt _ _ ⟨w.heap.size + 1, 1, none⟩ (by simp), World.cell?_alloc_at _ _ _ _ (by simp)]; rfl
  · rw [World.cell?_alloc_at _ _ _ _ (by simp)]; rfl
  · rw [World.cell?_alloc_at _ _ _ _ (by simp)]; rfl

end Go.Proofs.YtdlbnolnkmhdcaaDoor

/- Two lists that tell the same; the document's sum of two in form. -/
namespace Go.Proofs.YtdlbnolnkmhdcaaDoor
open Go.RowKit

def nzL (l : List (Int × Int)) : List (Int × Int) := l.filter fun e => !decide (e.2 = 0)
theorem nz_rise {l : List (Int × Int)} (h : Rising l) : Rising (nzL l) := List.Pairwise.filter _ h
theorem nz_nz {l : List (Int × Int)} : ∀ e ∈ nzL l, e.2 ≠ 0 := fun e he => by
  have := (List.mem_filter.1 he).2
  simpa using this
theorem nz_at {l : List (Int × Int)} (h : Rising l) (x : Int) : atL (nzL l) x = atL l x := by
  by_cases h0 : atL l x = 0
  · rw [h0]
    by_cases h1 : atL (nzL l) x = 0
    · exact h1
    · have h2 := (List.mem_filter.1 (atL_some h1)).1
      have h3 := atL_mem h h2
      simp only at h3
      exact h3.symm.trans h0
  · exact atL_mem (nz_rise h) (List.mem_filter.2 ⟨atL_some h0, by simpa using h0⟩)
theorem nz_same {l l' : List (Int × Int)} (h : Rising l) (h' : Rising l') (he : ∀ x, atL l x = atL l' x) : nzL l = nzL l' := rising_ext (nz_rise h) (nz_rise h') nz_nz nz_nz (fun x => by rw [nz_at h, nz_at h', he])
theorem nz_snd (l : List (Int × Int)) : (nzL l).map Prod.snd = (l.map Prod.snd).filter fun x => !decide (x = 0) := by
  unfold nzL
  rw [List.filter_map]
  rfl
theorem gList_same {l l' : List (Int × Int)} (h : Rising l) (h' : Rising l') (he : ∀ x, atL l x = atL l' x) (g : Nat) : gList g (l.map Prod.snd) = gList g (l'.map Prod.snd) := by
  rw [← gList_zeros, ← gList_zeros (l'.map Prod.snd), ← nz_snd, ← nz_snd, nz_same h h' he]
theorem over_same {l l' : List (Int × Int)} (h : Rising l) (h' : Rising l') (he : ∀ x, atL l x = atL l' x) (G : Nat) : overL G l = overL G l' := rising_ext (rising_over h G) (rising_over h' G) (fun e he => over_nz he) (fun e he => over_nz he) (fun x => by rw [atL_over h, atL_over h', he])
theorem fits_same {l l' : List (Int × Int)} (h' : Rising l') (he : ∀ x, atL l x = atL l' x) {M G : Nat} (hf : FitsL M G l) : FitsL M G l' := by
  refine ⟨hf.1, fun e hm => ?_⟩
  by_cases h0 : e.2 = 0
  · rw [h0]; simp
  · have h1 := atL_mem h' hm
    have h2 := he e.1
    rw [h1] at h2
    have h3 := hf.2 _ (atL_some (l := l) (x := e.1) (by rw [h2]; exact h0))
    simpa [h2] using h3
theorem gcdL_list {D : Nat} {l : List (Int × Int)} (hr : Rising l) : gcdL (D : Int) (atL l) (l.map Prod.fst) l.length = gList D (l.map Prod.snd) := by
  have h0 : gcdL (D : Int) (atL l) (l.map Prod.fst) l.length = gcdTo (D : Int) (cOf l) l.length := by
    have aux : ∀ k, k ≤ l.length → gcdTo (D : Int) (fun i => atL l ((l.map Prod.fst).getD i 0)) k = gcdTo (D : Int) (cOf l) k := by
      intro k
      induction k with
      | zero => intro _; rfl
      | succ k ih =>
        intro hk
        show Int.gcd (gcdTo (D : Int) (fun i => atL l ((l.map Prod.fst).getD i 0)) k : Int) (atL l ((l.map Prod.fst).getD k 0)) = Int.gcd (gcdTo (D : Int) (cOf l) k : Int) (cOf l k)
        rw [ih (by omega)]
        have : atL l ((l.map Prod.fst).getD k 0) = cOf l k := by rw [getD_fst (by omega)]; exact atL_mem hr (getD_mem (by omega))
        rw [this]
    exact aux _ (Nat.le_refl _)
  rw [h0, gcdTo_list _ _ _ (Nat.le_refl _), List.take_length, Int.natAbs_natCast]
theorem sumAt_list {t : List (Int × Int)} (hr : Rising t) (x : Int) : ∀ k, k ≤ t.length → sumAt (pOf t) (cOf t) x k = atL (t.take k) x
  | 0, _ => by simp [sumAt, atL]
  | k + 1, h => by
    rw [atL_take hr (by omega)]
    show sumAt _ _ _ k + _ = _
    rw [sumAt_list hr x k (by omega)]
    by_cases hx : x = pOf t k
    · rw [if_pos hx, if_pos hx.symm]
    · rw [if_neg hx, if_neg (Ne.symm hx)]
theorem sumAt_all {t : List (Int × Int)} (hr : Rising t) (x : Int) : sumAt (pOf t) (cOf t) x t.length = atL t x := by rw [sumAt_list hr x _ (Nat.le_refl _), List.take_length]
theorem sumAt_le {p c : Nat → Int} {n : Nat} (h : ∀ i, i < n → 0 ≤ p i ∧ -1099511627776 ≤ c i ∧ c i ≤ 1099511627776) (x : Int) : ∀ k, k ≤ n → (sumAt p c x k).natAbs ≤ k * 1099511627776
  | 0, _ => by simp [sumAt]
  | k + 1, hk => by
    have ih := sumAt_le h x k (by omega)
    have h1 := h k (by omega)
    show (sumAt p c x k + if x = p k then c k else 0).natAbs ≤ _
    by_cases hx : x = p k
    · rw [if_pos hx]; omega
    · rw [if_neg hx]; omega
theorem mul_bound {F s : Int} {a b : Nat} (hF : F.natAbs ≤ a) (hs : s.natAbs ≤ b) : (F * s).natAbs ≤ a * b := by rw [Int.natAbs_mul]; exact Nat.mul_le_mul hF hs
theorem okLog_pc {d : Int} {n : Nat} {p c : Nat → Int} (h : OkLog d n p c) : ∀ i, i < n → 0 ≤ p i ∧ -1099511627776 ≤ c i ∧ c i ≤ 1099511627776 := fun i hi => by
  have h1 := (h.2.2.1 i hi).2
  exact ⟨by have := h1.2.2.2.2.1; omega, h1.2.2.1, h1.2.2.2.1⟩
theorem LogAt.listed' {w : World} {sv : Value} {n : Nat} {p c : Nat → Int} (h : LogAt w sv n p c) : ∃ t : List (Int × Int), n = t.length ∧ LogAt w sv t.length (pOf t) (cOf t) := by
  refine ⟨(List.range n).map fun i => (p i, c i), by simp, ?_⟩
  rcases h with ⟨ad, cap, h1, h2⟩ | ⟨b, o, cap, h1, h2, h3⟩
  · exact Or.inl ⟨ad, cap, h1, by simp [h2]⟩
  · refine Or.inr ⟨b, o, cap, by simpa using h1, by simpa using h2, fun i hi => ?_⟩
    have hi' : i < n := by simpa using hi
    have e1 : pOf ((List.range n).map fun i => (p i, c i)) i = p i := by simp [pOf, List.getD, hi']
    have e2 : cOf ((List.range n).map fun i => (p i, c i)) i = c i := by simp [cOf, List.getD, hi']
    rw [e1, e2]
    exact h3 i hi'

/-- The answer of a sum: in form and nil, or nothing and ErrBound. -/
def SaidOf (M : Nat) (l : List (Int × Int)) (a : Nat → Addr) (w : World) (dn : Int) (v er : Value) : Prop := (FitsL M (gList M (l.map Prod.snd)) l ∧ dn = ((M / gList M (l.map Prod.snd) : Nat) : Int) ∧ er = .nilIface ∧ ListAt w v (overL (gList M (l.map Prod.snd)) l)) ∨ (¬ FitsL M (gList M (l.map Prod.snd)) l ∧ dn = 0 ∧ v = .slice none 0 0 ∧ er = .iface 145 (.pointer (some (a 1))))
theorem ToldOf.same {M : Nat} {l l' : List (Int × Int)} (h : Rising l) (h' : Rising l') (he : ∀ x, atL l x = atL l' x) {w : World} {dn : Int} {v : Value} {code : Int} (ht : ToldOf M l w dn v code) : ToldOf M l' w dn v code := by
  have hg := gList_same h h' he M
  have ho := over_same h h' he (gList M (l'.map Prod.snd))
  rcases ht with ⟨h1, h2, h3, h4⟩ | ⟨h1, h2, h3, h4⟩
  · rw [hg] at h1 h2 h4
    rw [ho] at h4
    exact Or.inl ⟨fits_same h' he h1, h2, h3, h4⟩
  · rw [hg] at h1
    exact Or.inr ⟨fun hf => h1 (fits_same h (fun x => (he x).symm) hf), h2, h3, h4⟩
theorem ToldOf.later {M : Nat} {l : List (Int × Int)} {w w' : World} {dn : Int} {v : Value} {code : Int} (ht : ToldOf M l w dn v code) (hb : Below w.heap.size w w') : ToldOf M l w' dn v code := by
  rcases ht with ⟨h1, h2, h3, h4⟩ | h
  · exact Or.inl ⟨h1, h2, h3, OwnAt.later h4 hb⟩
  · exact Or.inr h
theorem SaidOf.later {M : Nat} {l : List (Int × Int)} {a : Nat → Addr} {w w' : World} {dn : Int} {v er : Value} (ht : SaidOf M l a w dn v er) (hb : Below w.heap.size w w') : SaidOf M l a w' dn v er := by
  rcases ht with ⟨h1, h2, h3, h4⟩ | h
  · exact Or.inl ⟨h1, h2, h3, OwnAt.later h4 hb⟩
  · exact Or.inr h

end Go.Proofs.YtdlbnolnkmhdcaaDoor

/- dist.sumOver: a sum of all that a function puts. -/
namespace Go.Proofs.YtdlbnolnkmhdcaaDoor
open Go.RowKit Go.Maps

/-- What is told of a sum that has a form: f over M. -/
def LogBy (base M : Nat) (f : Int → Int) (w : World) (dn : Int) (v : Value) : Prop := ∃ l : List (Int × Int), Rising l ∧ (∀ x, atL l x = f x) ∧ l.length ≤ 90000 ∧ dn = ((M / gList M (l.map Prod.snd) : Nat) : Int) ∧ w.ownsRow base 101 2 v (overL (gList M (l.map Prod.snd)) l).length (termCells (pOf (overL (gList M (l.map Prod.snd)) l)) (cOf (overL (gList M (l.map Prod.snd)) l)) (overL (gList M (l.map Prod.snd)) l).length)
theorem LogBy.form {base M : Nat} {f : Int → Int} {w : World} {dn : Int} {v : Value} (h : LogBy base M f w dn v) : ∃ ad n c, v = .slice ad n c := by
  obtain ⟨l, _, _, _, _, hr⟩ := h
  rcases hr.2 with ⟨rfl, _⟩ | ⟨gg, cap', cur', rfl, _⟩
  · exact ⟨_, _, _, rfl⟩
  · exact ⟨_, _, _, rfl⟩
theorem LogBy.later {base M : Nat} {f : Int → Int} {w w' : World} {dn : Int} {v : Value} (h : LogBy base M f w dn v) (hb : Below w.heap.size w w') : LogBy base M f w' dn v := by
  obtain ⟨l, h1, h2, h3, h5, hr⟩ := h
  exact ⟨l, h1, h2, h3, h5, ownsRow_past hr hb⟩
theorem LogBy.lower {base base' M : Nat} {f : Int → Int} {w : World} {dn : Int} {v : Value} (h : LogBy base M f w dn v) (hb : base' ≤ base) : LogBy base' M f w dn v := by
  obtain ⟨l, h1, h2, h3, h5, hr⟩ := h
  exact ⟨l, h1, h2, h3, h5, row_base hr hb⟩
theorem LogBy.set {base M : Nat} {f : Int → Int} {w : World} {dn : Int} {v : Value} (h : LogBy base M f w dn v) {B : Nat} (hB : B < base) (x y : Value) : LogBy base M f ((w.setCell ⟨B, 0, none⟩ x).setCell ⟨B, 1, none⟩ y) dn v := by
  obtain ⟨l, h1, h2, h3, h5, hr⟩ := h
  exact ⟨l, h1, h2, h3, h5, ownsRow_setCell_below (ownsRow_setCell_below hr (a := ⟨B, 0, none⟩) hB x) (a := ⟨B, 1, none⟩) hB y⟩
theorem LogBy.list {base M : Nat} {f : Int → Int} {w : World} {dn : Int} {v : Value} (h : LogBy base M f w dn v) : ∃ l : List (Int × Int), Rising l ∧ (∀ x, atL l x = f x) ∧ l.length ≤ 90000 ∧ dn = ((M / gList M (l.map Prod.snd) : Nat) : Int) ∧ ListAt w v (overL (gList M (l.map Prod.snd)) l) := by
  obtain ⟨l, h1, h2, h3, h5, hr⟩ := h
  exact ⟨l, h1, h2, h3, h5, ownAt_of_row hr⟩

set_option maxRecDepth 100000 in
set_option maxHeartbeats 2000000 in
theorem sumOver_any (K : Nat) (cap : Array Value) (M c : Nat) (f : Int → Int) (w : World) (hent : ∀ (args : Array Value) (w : World), (callFunc K args).run Tryd.prog w = .ok (.enter K args) w) (hM : 1 ≤ M) (hM6 : M ≤ 4096) (hc : c ≤ 4000) (hf : ∀ x, -1000000000 ≤ f x ∧ f x ≤ 1000000000)
    (hp : ∀ (W : World) (mb : Nat), Below w.heap.size w W → W.ownsMap Tryd.prog 3 (plainElem (H := Unit) Tryd.prog 3) mb 0 (mapOf []) → Calls Tryd.prog K (#[putV M mb] ++ cap) W fun e w' => e = .returned (.tuple #[]) ∧ ∃ l nn, Puts W w' mb f c [] 0 l nn) :
    Calls Tryd.prog 33 #[.int .i64 M, .func (.func K) #[] cap] w fun e w' => ∃ dn v, e = .returned (.tuple #[.agg #[.int .i64 dn, v], .nilIface]) ∧ LogBy w.heap.size M f w' dn v ∧ Below w.heap.size w w' := by
  obtain ⟨W0, hW0⟩ : ∃ W0, W0 = w.alloc (.cells #[.int .i64 0, .slice none 0 0] 46) := ⟨_, rfl⟩
  have hb0 : Below w.heap.size w W0 := by rw [hW0]; exact new_below _ _
  have hres : ∀ W, Below W0.heap.size W0 W → W.cell? ⟨w.heap.size, 0, none⟩ = some (.int .i64 0) ∧ W.cell? ⟨w.heap.size, 1, none⟩ = some (.slice none 0 0) ∧ W.frozen? ⟨w.heap.size, 0, none⟩ = false ∧ W.frozen? ⟨w.heap.size, 1, none⟩ = false := fun W hb => by
    rw [hW0] at hb
    obtain ⟨q0, q1, q2, q3⟩ := res_past hb
    exact ⟨q0, q1, q2, q3⟩
  have hsz : W0.heap.size = w.heap.size + 1 := by rw [hW0]; simp
  have hov := newSum_any (M : Int) W0
  have HP := Hid.mk' hp
  have HF := Hid.mk' hf
  have HB0 := Hid.mk' hb0
  have HRES := Hid.mk' hres
  have HW0 := Hid.mk' hW0
  have HSZ := Hid.mk' hsz
  clear hp hf hb0 hres hW0 hsz
  go_enter Tryd.func33, Tryd.ntmps33
  go_wp2_with fail
  rw [← HW0.out]
  refine hov.mono ?_
  clear hov
  rintro e w1 ⟨rfl, hown1, hb1⟩
  have HB1 := Hid.mk' hb1
  have ho1 : (w1.alloc (.cells #[.int .i64 M, .map (some (W0.heap.size + 1))] 75)).ownsMap Tryd.prog 3 (plainElem (H := Unit) Tryd.prog 3) (W0.heap.size + 1) 0 (mapOf []) := ownsMap_later hown1 (Below.heap_alloc _ _ _ hown1.lt)
  have HX1 : Hid (w1.cell? ⟨W0.heap.size + 1, 0, none⟩ = none) := map_no_cell hown1
  have hlt1 := hown1.lt
  obtain ⟨W1, hW1⟩ : ∃ W1, W1 = w1.alloc (.cells #[.int .i64 M, .map (some (W0.heap.size + 1))] 75) := ⟨_, rfl⟩
  have hs0 : W1.cell? ⟨w1.heap.size, 0, none⟩ = some (.int .i64 M) := by rw [hW1]; simp
  have hs1 : W1.cell? ⟨w1.heap.size, 1, none⟩ = some (.map (some (W0.heap.size + 1))) := by rw [hW1]; simp
  have HB2 : Hid (Below W0.heap.size W0 W1) := by rw [hW1]; exact below_chain hb1 (new_below _ _)
  rw [← hW1] at ho1
  have HO1 := Hid.mk' ho1
  have HS := Hid.mk' (And.intro hs0 hs1)
  have HW1 := Hid.mk' hW1
  have HLT := Hid.mk' hlt1
  clear hown1 hb1 ho1 hs0 hs1 hW1 hlt1
  go_upto_region 2 with fail
  rw [← HW1.out]
  obtain ⟨hs0, hs1⟩ := HS.out
  have hcall := HP.out W1 (W0.heap.size + 1) (below_chain HB0.out HB2.out) HO1.out
  unfold putV at hcall
  clear HP
  go_wp2_with fail
  refine hcall.mono ?_
  clear hcall hs0 hs1
  rintro e w2 ⟨rfl, l, nn, hpt⟩
  have hne : w1.heap.size ≠ W0.heap.size + 1 := by have := HLT.out; omega
  have hs0 := cell_beside hpt.grow HS.out.1 hne
  have hs1 := cell_beside hpt.grow HS.out.2 hne
  have hz1 := HB2.out.size
  have hlw : w.heap.size < W0.heap.size := by have := HSZ.out; omega
  have HB3 : Hid (Below W0.heap.size W0 w2) := HB2.out.grown hpt.grow HB2.out.size (fun k e => by cases e; omega)
  have hval : ∀ x, atL l x = f x := fun x => by have := hpt.val x; simpa [atL] using this
  have hlen : l.length ≤ 90000 := by have := hpt.len; simp at this; omega
  have hG := gcdL_list (D := M) hpt.rise
  have hfit : ∀ e ∈ l, (e.2.tdiv (gList M (l.map Prod.snd) : Int)).natAbs ≤ 1099511627776 := fun e he => by
    have h1 := HF.out e.1
    rw [← hval, atL_mem hpt.rise he] at h1
    rw [Int.natAbs_tdiv]
    exact Nat.le_trans (Nat.div_le_self _ _) (by omega)
  have ht := told_list (M : Int) (W0.heap.size + 1) nn l w2 hpt.own hpt.rise hpt.keys (by omega) (fun x => by rw [hval]; have := HF.out x; omega) (by omega) (by omega) _ hG (by rw [← Int.natCast_ediv]; exact Int.le_trans (Int.ofNat_le.2 (Nat.div_le_self _ _)) (by omega)) hfit
  have HLB : Hid (Rising l ∧ (∀ x, atL l x = f x) ∧ l.length ≤ 90000) := ⟨hpt.rise, hval, hlen⟩
  have HLW := Hid.mk' hlw
  clear hpt hval hlen hG hfit HF hz1 hlw HS HO1 HW1
  go_wp2_with fail
  refine ht.mono ?_
  clear ht hs0 hs1
  rintro e w3 ⟨v, rfl, hrow, hb3⟩
  obtain ⟨c0, c1, q0, q1⟩ := HRES.out w3 (below_chain HB3.out hb3)
  have HBW := Hid.mk' (below_chain HB0.out (below_chain HB3.out hb3))
  have HZ : Hid (w.heap.size < w2.heap.size) := by have h1 := HLW.out; have h2 := HB3.out.size; show _ < _; omega
  have HROW := Hid.mk' hrow
  obtain ⟨ad, n', c', rfl⟩ : ∃ ad n' c', v = .slice ad n' c' := by
    rcases hrow.2 with ⟨rfl, _⟩ | ⟨gg, cap', cur', rfl, _⟩
    · exact ⟨_, _, _, rfl⟩
    · exact ⟨_, _, _, rfl⟩
  clear hrow hb3 HRES
  go_wp2_with fail
  refine bodyPost_ret (v := .tuple #[.agg #[.int .i64 ((M : Int) / (gList M (l.map Prod.snd) : Int)), .slice ad n' c'], .nilIface]) (by simp [results, Tryd.results33, go_sem, c0, c1]) rfl ⟨_, .slice ad n' c', rfl, ⟨l, HLB.out.1, HLB.out.2.1, HLB.out.2.2, by simp, ?_⟩, ?_⟩
  · have h1 := ownsRow_setCell_below HROW.out (a := ⟨w.heap.size, 0, none⟩) HZ.out (.int .i64 ((M : Int) / (gList M (l.map Prod.snd) : Int)))
    have h2 := ownsRow_setCell_below h1 (a := ⟨w.heap.size, 1, none⟩) HZ.out (.slice ad n' c')
    exact row_base h2 (Nat.le_of_lt HZ.out)
  · exact (HBW.out.setCell (by simp) _).setCell (by simp) _

end Go.Proofs.YtdlbnolnkmhdcaaDoor

/- dist.Entropy at any weights. -/
namespace Go.Proofs.YtdlbnolnkmhdcaaDoor
open Go.RowKit Go.Maps

theorem new_one {w w1 : World} {x : Value} {t : TypeId} (hb : Below (w.alloc (.cells #[x] t)).heap.size (w.alloc (.cells #[x] t)) w1) : w1.cell? ⟨w.heap.size, 0, none⟩ = some x := by
  have c0 : (w.alloc (.cells #[x] t)).cell? ⟨w.heap.size, 0, none⟩ = some x := by rw [World.cell?_alloc_at _ _ _ _ rfl]; rfl
  exact (cell_past c0 hb).2

theorem ent_bound {z : Nat → Int} {n N : Nat} (hz : ∀ i, i < n → 0 ≤ z i ∧ z i ≤ 4096) (hN : N ≤ 4096) (hn : n ≤ 256) (x : Int) : -1000000000 ≤ sumN (entV z N x) n ∧ sumN (entV z N x) n ≤ 1000000000 := by
  have h3 := sumN_bound (f := entV z N x) (B := 200000) (n := n) (fun i hi => entV_le x (hz i hi) hN)
  have : (n : Int) * 200000 ≤ 51200000 := by omega
  omega

end Go.Proofs.YtdlbnolnkmhdcaaDoor

/- The document's Told of a sum that has a form; EntropyOf. -/
namespace Go.Proofs.YtdlbnolnkmhdcaaDoor
open Go.RowKit

theorem row_form {w : World} {base : Nat} {t : TypeId} {sz : Nat} {v : Value} {n : Nat} {xs : List Value} (h : w.ownsRow base t sz v n xs) : ∃ ad cap, v = .slice ad n cap := by
  rcases h.2 with ⟨rfl, h0⟩ | ⟨gg, cap', cur', rfl, _⟩
  · exact ⟨none, 0, by rw [h0]⟩
  · exact ⟨_, _, rfl⟩
end Go.Proofs.YtdlbnolnkmhdcaaDoor

/- The law's closed fact: of a fair coin the entropy is 1. -/
namespace Go.Proofs.YtdlbnolnkmhdcaaDoor
open Go.RowKit Go.Maps

theorem pr_two' : Pr 2 := (isPr_iff 2).1 (by decide)
theorem coin_val (x : Int) : sumN (entV (fun _ => 3) 6 x) 2 = atL [((2 : Int), (6 : Int))] x := by
  have h := multI_step x (n := 6) (d := 2) (by decide) pr_two' (by decide)
  have e : 6 / 2 = 3 := by decide
  rw [e] at h
  show 0 + (3 * multI x 6 - 3 * multI x (3 : Int).toNat) + (3 * multI x 6 - 3 * multI x (3 : Int).toNat) = if (2 : Int) = x then 6 else 0
  have e3 : (3 : Int).toNat = 3 := rfl
  rw [e3, h]
  rw [show ((2 : Nat) : Int) = 2 from rfl]
  by_cases hx : x = 2
  · subst hx; simp; omega
  · rw [if_neg hx, if_neg (fun e => hx e.symm)]; omega
theorem coin_list {base : Nat} {w : World} {dn : Int} {v : Value} (h : LogBy base 6 (fun x => sumN (entV (fun _ => 3) 6 x) 2) w dn v) : dn = 1 ∧ OwnAt w v 1 (fun _ => 2) (fun _ => 1) := by
  obtain ⟨l, hr, hv, _, hd, hl⟩ := h.list
  have he : ∀ x, atL l x = atL [((2 : Int), (6 : Int))] x := fun x => by rw [hv, coin_val]
  have hr' : Rising [((2 : Int), (6 : Int))] := List.pairwise_singleton _ _
  rw [gList_same hr hr' he, over_same hr hr' he] at hl
  rw [gList_same hr hr' he] at hd
  have e1 : overL (gList 6 (List.map Prod.snd [((2 : Int), (6 : Int))])) [((2 : Int), (6 : Int))] = [(2, 1)] := by decide
  rw [e1] at hl
  refine ⟨by rw [hd]; decide, ?_⟩
  rcases hl with ⟨_, h0⟩ | ⟨g, cap, h1, h2⟩
  · cases h0
  · refine Or.inr ⟨g, cap, h1, fun k hk => ?_⟩
    obtain rfl : k = 0 := by omega
    exact h2 0 (by decide)

end Go.Proofs.YtdlbnolnkmhdcaaDoor

/- isLog at errors. -/
namespace Go.Proofs.YtdlbnolnkmhdcaaDoor
open Go.RowKit

/-- A result's box behind calls. -/
theorem box_past2 {w w1 : World} {x y : Value} {t : TypeId} (hb : Below (w.alloc (.cells #[x, y] t)).heap.size (w.alloc (.cells #[x, y] t)) w1) : w1.cell? ⟨w.heap.size, 0, none⟩ = some x ∧ w1.cell? ⟨w.heap.size, 1, none⟩ = some y ∧ w1.frozen? ⟨w.heap.size, 0, none⟩ = false ∧ w1.frozen? ⟨w.heap.size, 1, none⟩ = false := res_past hb

end Go.Proofs.YtdlbnolnkmhdcaaDoor

/- dist.Joint; the law DistJoint. -/
namespace Go.Proofs.YtdlbnolnkmhdcaaDoor
open Go.RowKit Go.Maps

theorem tabErr_ok {R : Nat} {ns : Nat → Nat} {zs : Nat → Nat → Int} (h : tabErr R ns zs = 0) : R ≤ 16 ∧ longB ns R = false ∧ unevenB ns R = false ∧ OkW (atF (flatL ns zs R)) (flatL ns zs R).length ∧ (flatL ns zs R).length ≤ 256 := by
  unfold tabErr at h
  by_cases h1 : 16 < R
  · rw [if_pos h1] at h; cases h
  rw [if_neg h1] at h
  cases h2 : longB ns R with
  | true => rw [h2, if_pos rfl] at h; cases h
  | false =>
    rw [h2, if_neg (by simp)] at h
    cases h3 : unevenB ns R with
    | true => rw [h3, if_pos rfl] at h; cases h
    | false =>
      rw [h3, if_neg (by simp)] at h
      exact ⟨by omega, rfl, rfl, listErr_ok h, by rw [flatL_length]; exact sumT_small h1 h2⟩
theorem tabErr_le (R : Nat) (ns : Nat → Nat) (zs : Nat → Nat → Int) : tabErr R ns zs ≤ 3 := by
  unfold tabErr listErr
  repeat (split; omega)
  omega
theorem row_some {w : World} {base : Nat} {v : Value} {n : Nat} {l : List Int} (h : w.ownsRow base 3 1 v n (cellL l)) (hl : l.length = n) (h0 : 0 < n) : ∃ g cap, v = .slice (some ⟨g, 0, none⟩) n cap ∧ RowAt w g 0 n (atF l) := by
  subst hl
  rcases numsAt_row h with ⟨_, _, _, h1⟩ | ⟨b, o, cap, hv, _, hr⟩
  · omega
  · rcases h.2 with ⟨hv', _⟩ | ⟨g, cap', cur, hv', _⟩
    · rw [hv] at hv'; simp at hv'
    · rw [hv] at hv'
      simp only [Value.slice.injEq, Option.some.injEq, Addr.mk.injEq, and_true, true_and] at hv'
      obtain ⟨⟨rfl, rfl⟩, rfl⟩ := hv'
      exact ⟨b, cap, hv, hr⟩

end Go.Proofs.YtdlbnolnkmhdcaaDoor

/- Right tables: rows, columns, all. -/
namespace Go.Proofs.YtdlbnolnkmhdcaaDoor

def lsum : List Int → Int
  | [] => 0
  | x :: r => x + lsum r
theorem lsum_append : ∀ l r : List Int, lsum (l ++ r) = lsum l + lsum r
  | [], r => by simp [lsum]
  | x :: l, r => by simp only [List.cons_append, lsum, lsum_append l r]; omega
theorem lsum_row (z : Nat → Int) : ∀ n, lsum (rowL z n) = sumN z n
  | 0 => rfl
  | n + 1 => by
    have ih := lsum_row z n
    unfold rowL at ih ⊢
    rw [List.range_succ, List.map_append, lsum_append, ih]
    simp [lsum, sumN]
theorem rowL_atF (l : List Int) : rowL (atF l) l.length = l := by
  refine List.ext_getElem (by simp [rowL]) (fun i h1 h2 => ?_)
  simp [rowL, atF, List.getD, List.getElem?_eq_getElem h2]
theorem sumN_list (l : List Int) : sumN (atF l) l.length = lsum l := by rw [← lsum_row, rowL_atF]
/-- A function's sum over a list, as over its places. -/
theorem sumN_map (g : Int → Int) (l : List Int) : sumN (fun i => g (atF l i)) l.length = lsum (l.map g) := by
  have h : rowL (fun i => g (atF l i)) l.length = l.map g := by
    refine List.ext_getElem (by simp [rowL]) (fun i h1 h2 => ?_)
    have h3 : i < l.length := by simpa using h2
    simp [rowL, atF, List.getD, List.getElem?_eq_getElem h3]
  rw [← lsum_row, h]
theorem lsum_flat (g : Int → Int) (ns : Nat → Nat) (zs : Nat → Nat → Int) : ∀ k, lsum ((flatL ns zs k).map g) = sumN (fun i => sumN (fun j => g (zs i j)) (ns i)) k
  | 0 => rfl
  | k + 1 => by
    show lsum ((flatL ns zs k ++ rowL (zs k) (ns k)).map g) = _
    rw [List.map_append, lsum_append, lsum_flat g ns zs k]
    have : (rowL (zs k) (ns k)).map g = rowL (fun j => g (zs k j)) (ns k) := by simp [rowL]
    rw [this, lsum_row]
    rfl
theorem mem_flat {ns : Nat → Nat} {zs : Nat → Nat → Int} : ∀ {k i j : Nat}, i < k → j < ns i → zs i j ∈ flatL ns zs k
  | k + 1, i, j, hi, hj => by
    show zs i j ∈ flatL ns zs k ++ rowL (zs k) (ns k)
    rw [List.mem_append]
    rcases Nat.lt_or_ge i k with h | h
    · exact Or.inl (mem_flat h hj)
    · obtain rfl : i = k := by omega
      exact Or.inr (List.mem_map.2 ⟨j, List.mem_range.2 hj, rfl⟩)
/-- A right table. -/
structure OkT (R : Nat) (ns : Nat → Nat) (zs : Nat → Nat → Int) (N : Nat) : Prop where
  r0 : 0 < R
  r16 : R ≤ 16
  c0 : 0 < ns 0
  c16 : ns 0 ≤ 16
  even : ∀ i, i < R → ns i = ns 0
  nn : ∀ i, i < R → ∀ j, j < ns i → 0 ≤ zs i j
  tot : sumN (fun i => sumN (zs i) (ns i)) R = N
  n1 : 1 ≤ N
  n6 : N ≤ 4096
theorem not_uneven {ns : Nat → Nat} {n i : Nat} (h : unevenB ns n = false) (hi : i < n) : ns i = ns 0 := by
  by_cases h' : ns i = ns 0
  · exact h'
  · rw [unevenB_mono hi h'] at h; cases h
theorem okT_of {R : Nat} {ns : Nat → Nat} {zs : Nat → Nat → Int} (h1 : R ≤ 16) (h2 : longB ns R = false) (h3 : unevenB ns R = false) (h4 : OkW (atF (flatL ns zs R)) (flatL ns zs R).length) : ∃ N, OkT R ns zs N ∧ sumN (atF (flatL ns zs R)) (flatL ns zs R).length = N := by
  obtain ⟨N, hN⟩ := Int.eq_ofNat_of_zero_le (Int.le_of_lt h4.pos)
  have hp := h4.posN
  rw [flatL_length] at hp
  have hr0 : 0 < R := Nat.pos_of_ne_zero (fun e => by subst e; simp [sumT] at hp)
  have hc0 : 0 < ns 0 := Nat.pos_of_ne_zero (fun e => by
    have := sumT_le (ns := ns) (B := 0) (n := R) (fun i hi => by have := not_uneven h3 hi; omega)
    omega)
  have h5 := h4.pos
  have h6 := h4.le
  have hsum : sumN (atF (flatL ns zs R)) (flatL ns zs R).length = sumN (fun i => sumN (zs i) (ns i)) R := by
    rw [sumN_list]
    have := lsum_flat id ns zs R
    simpa using this
  refine ⟨N, ⟨hr0, h1, hc0, not_long h2 0 hr0, fun i hi => not_uneven h3 hi, fun i hi j hj => ?_, by rw [← hsum]; exact hN, by omega, by omega⟩, hN⟩
  obtain ⟨q, hq⟩ := List.getElem?_of_mem (mem_flat (zs := zs) hi hj)
  have hql : q < (flatL ns zs R).length := by
    rcases Nat.lt_or_ge q (flatL ns zs R).length with h' | h'
    · exact h'
    · rw [List.getElem?_eq_none h'] at hq; cases hq
  have := h4.nn q hql
  unfold atF at this
  rw [List.getD_eq_getElem?_getD, hq] at this
  exact this
theorem OkT.row {R : Nat} {ns : Nat → Nat} {zs : Nat → Nat → Int} {N : Nat} (h : OkT R ns zs N) {i : Nat} (hi : i < R) : 0 ≤ sumN (zs i) (ns i) ∧ sumN (zs i) (ns i) ≤ N := by
  have h1 := sumN_nonneg (h.nn i hi)
  have h2 := sumN_ge (z := fun i => sumN (zs i) (ns i)) (n := R) (fun k hk => sumN_nonneg (h.nn k hk)) hi
  rw [h.tot] at h2
  exact ⟨h1, h2⟩
theorem OkT.cell {R : Nat} {ns : Nat → Nat} {zs : Nat → Nat → Int} {N : Nat} (h : OkT R ns zs N) {i j : Nat} (hi : i < R) (hj : j < ns i) : 0 ≤ zs i j ∧ zs i j ≤ 4096 := by
  have h1 := h.nn i hi j hj
  have h2 := sumN_ge (h.nn i hi) hj
  have h3 := (h.row hi).2
  have h4 := h.n6
  exact ⟨h1, by omega⟩
theorem OkT.part {R : Nat} {ns : Nat → Nat} {zs : Nat → Nat → Int} {N : Nat} (h : OkT R ns zs N) {i k : Nat} (hi : i < R) (hk : k ≤ ns i) : 0 ≤ sumN (zs i) k ∧ sumN (zs i) k ≤ 4096 := by
  have h1 := sumN_nonneg (z := zs i) (n := k) (fun j hj => h.nn i hi j (by omega))
  have h2 := sumN_mono (h.nn i hi) hk
  have h3 := (h.row hi).2
  have h4 := h.n6
  exact ⟨h1, by omega⟩
def colV (zs : Nat → Nat → Int) (k j : Nat) : Int := sumN (fun i => zs i j) k
theorem OkT.col {R : Nat} {ns : Nat → Nat} {zs : Nat → Nat → Int} {N : Nat} (h : OkT R ns zs N) {k j : Nat} (hk : k ≤ R) (hj : j < ns 0) : 0 ≤ colV zs k j ∧ colV zs k j ≤ 4096 := by
  have h1 : 0 ≤ colV zs k j := sumN_nonneg (fun i hi => h.nn i (by omega) j (by rw [h.even i (by omega)]; exact hj))
  have h2 : colV zs k j ≤ sumN (fun i => sumN (zs i) (ns i)) k := sumN_le (fun i hi => sumN_ge (h.nn i (by omega)) (by rw [h.even i (by omega)]; exact hj))
  have h3 := sumN_mono (z := fun i => sumN (zs i) (ns i)) (k := k) (n := R) (fun i hi => sumN_nonneg (h.nn i hi)) hk
  have h4 := h.tot
  have h5 := h.n6
  exact ⟨h1, by omega⟩
end Go.Proofs.YtdlbnolnkmhdcaaDoor

/- Rows' and columns' sums: the document's and the program's. -/
namespace Go.Proofs.YtdlbnolnkmhdcaaDoor
open Go.RowKit

def rowSum (ns : Nat → Nat) (zs : Nat → Nat → Int) (i : Nat) : Int := sumN (zs i) (ns i)
/-- A right table's rows, as the walk reads them. -/
theorem tab_rows {w : World} {ad : Option Addr} {R cap : Nat} {vs : Nat → Value} {ns : Nat → Nat} {zs : Nat → Nat → Int} {N : Nat} (h : TabAt w (.slice ad R cap) R vs ns zs) (hk : OkT R ns zs N) : ∃ b o, ad = some ⟨b, o, none⟩ ∧ ∀ W, Below w.heap.size w W → ∀ i, i < R → ∃ b1 o1 cap1, W.cell? ⟨b, o + i, none⟩ = some (.slice (some ⟨b1, o1, none⟩) (ns 0) cap1) ∧ RowAt W b1 o1 (ns 0) (zs i) := by
  rcases h with ⟨_, _, _, h0⟩ | ⟨b, o, c, hv, _, hr⟩
  · have := hk.r0; omega
  · simp only [Value.slice.injEq, true_and] at hv
    obtain ⟨rfl, rfl⟩ := hv
    refine ⟨b, o, rfl, fun W hb i hi => ?_⟩
    obtain ⟨h1, h2⟩ := hr i hi
    have he := hk.even i hi
    have hc := hk.c0
    rcases h2.later hb with ⟨_, _, _, h3⟩ | ⟨b1, o1, c1, hv1, _, hr1⟩
    · omega
    · rw [he] at hv1 hr1
      exact ⟨b1, o1, c1, by rw [hb.cell (cell_lt h1), h1, hv1], hr1⟩

set_option maxRecDepth 100000 in
set_option maxHeartbeats 2000000 in
theorem rowSums_any (ad : Option Addr) (R cap N : Nat) (vs : Nat → Value) (ns : Nat → Nat) (zs : Nat → Nat → Int) (w : World) (h : TabAt w (.slice ad R cap) R vs ns zs) (hk : OkT R ns zs N) :
    Calls Tryd.prog 30 #[.slice ad R cap] w fun e w' => ∃ g cp, e = .returned (.slice (some ⟨g, 0, none⟩) R cp) ∧ RowAt w' g 0 R (rowSum ns zs) ∧ Below w.heap.size w w' := by
  obtain ⟨b, o, rfl, hr⟩ := tab_rows h hk
  obtain ⟨i0, hi, hz0, hz1, hz2⟩ := info_parts Tryd.infoInt
  have HINF : Hid (Tryd.prog.info? 3 = some i0 ∧ i0.zero = some (.int .i64 0) ∧ i0.size = 1 ∧ i0.bytes = 8) := ⟨hi, hz0, hz1, hz2⟩
  have HR := Hid.mk' hr
  have HK := Hid.mk' hk
  have hR16 := hk.r16
  clear hi hz0 hz1 hz2 hr h hk
  go_enter Tryd.func30, Tryd.ntmps30
  go_wp2_with (at_make; go_must (refine wpList_make_full _ rfl _ _ _ rfl w.heap.size 3 i0 _ 1 Tryd.underlying22 HINF.out.1 HINF.out.2.1 HINF.out.2.2.1 .i64 .i64 _ _ R rfl rfl rfl rfl (by rw [HINF.out.2.2.2]; omega) (by unfold maxLen; omega) (Nat.le_refl _) ?_; intro w2 hown2 hgrow2; have HF2 := Hid.mk' (fills_made hown2 (made_zero R) hgrow2); clear hown2 hgrow2))
  go_loopw [4, 5, 11] (fun _ _ i wr => ∃ k : Nat, k ≤ R ∧ i = .int .i64 k ∧ Hid (Fills w wr w.heap.size R (fun j => if j < k then rowSum ns zs j else 0))) (fun _ _ i _ => R - (intOf i).toNat)
  case atStart => exact ⟨0, Nat.zero_le _, rfl, by simpa using HF2⟩
  case round =>
    obtain ⟨k, hk, rfl, HF⟩ := hrel
    rcases Nat.lt_or_ge k R with h1 | h1
    · obtain ⟨b1, o1, cap1, hc, hr1⟩ := HR.out wr HF.out.below k h1
      have hS := total_some b1 o1 cap1 (ns 0) (zs k) wr hr1 (fun j hj => by have := HK.out.part h1 (k := j) (by rw [HK.out.even k h1]; exact hj); omega) (fun j hj => by have := HK.out.cell h1 (j := j) (by rw [HK.out.even k h1]; exact hj); omega) (by have := HK.out.c16; omega)
      have HV : Hid (sumN (zs k) (ns 0) = rowSum ns zs k) := by show _ = sumN (zs k) (ns k); rw [HK.out.even k h1]
      rw [HV.out] at hS
      have hkn : (k : Int) < (R : Int) := by omega
      have hcF := HF.out.row k h1
      have hfz := HF.out.fz k h1
      rw [Nat.zero_add] at hcF hfz
      have HS := Hid.mk' (HF.out.set h1 (rowSum ns zs k) (f' := fun j => if j < k + 1 then rowSum ns zs j else 0) (fun i hi => by
        by_cases hik : i = k
        · subst hik; rw [if_pos (by omega), if_pos rfl]
        · rw [if_neg hik]
          by_cases hlt : i < k
          · rw [if_pos (by omega), if_pos hlt]
          · rw [if_neg (by omega), if_neg hlt]))
      clear hr1
      go_wp2_with (go_at_call 32; refine hS.mono ?_; rintro e w4 ⟨rfl, hw4⟩; rw [hw4]; clear hw4)
      exact ⟨⟨k + 1, h1, by go_num, HS⟩, by simp [intOf]; omega⟩
    · obtain rfl : k = R := by omega
      go_wp2_with fail
      go_ret
      refine ⟨_, _, rfl, fun i hi => ?_, HF.out.below⟩
      have := HF.out.row i hi
      rw [if_pos hi] at this
      exact this
end Go.Proofs.YtdlbnolnkmhdcaaDoor

/- dist.columnSums, Rows, Columns. -/
namespace Go.Proofs.YtdlbnolnkmhdcaaDoor
open Go.RowKit

theorem tabErr_okT {R : Nat} {ns : Nat → Nat} {zs : Nat → Nat → Int} (h : tabErr R ns zs = 0) : ∃ N, OkT R ns zs N ∧ sumN (atF (flatL ns zs R)) (flatL ns zs R).length = N := by
  unfold tabErr at h
  by_cases h1 : 16 < R
  · rw [if_pos h1] at h; cases h
  rw [if_neg h1] at h
  cases h2 : longB ns R with
  | true => rw [h2, if_pos rfl] at h; cases h
  | false =>
    rw [h2, if_neg (by simp)] at h
    cases h3 : unevenB ns R with
    | true => rw [h3, if_pos rfl] at h; cases h
    | false =>
      rw [h3, if_neg (by simp)] at h
      exact okT_of (by omega) h2 h3 (listErr_ok h)

set_option maxRecDepth 100000 in
set_option maxHeartbeats 4000000 in
theorem columnSums_any (ad : Option Addr) (R cap N : Nat) (vs : Nat → Value) (ns : Nat → Nat) (zs : Nat → Nat → Int) (w : World) (h : TabAt w (.slice ad R cap) R vs ns zs) (hk : OkT R ns zs N) :
    Calls Tryd.prog 31 #[.slice ad R cap] w fun e w' => ∃ g cp, e = .returned (.slice (some ⟨g, 0, none⟩) (ns 0) cp) ∧ RowAt w' g 0 (ns 0) (colV zs R) ∧ Below w.heap.size w w' := by
  obtain ⟨b, o, rfl, hr⟩ := tab_rows h hk
  obtain ⟨i0, hi, hz0, hz1, hz2⟩ := info_parts Tryd.infoInt
  have HINF : Hid (Tryd.prog.info? 3 = some i0 ∧ i0.zero = some (.int .i64 0) ∧ i0.size = 1 ∧ i0.bytes = 8) := ⟨hi, hz0, hz1, hz2⟩
  have HR := Hid.mk' hr
  have HK := Hid.mk' hk
  have hR16 := hk.r16
  have hR0 := hk.r0
  have hc16 := hk.c16
  clear hi hz0 hz1 hz2 hr h hk
  generalize hC : ns 0 = C at *
  obtain ⟨b0, o0, cap0, hc0, _⟩ := HR.out w (Below.refl _ _) 0 hR0
  rw [Nat.add_zero] at hc0
  go_enter Tryd.func31, Tryd.ntmps31
  go_wp2_with (at_make; go_must (refine wpList_make_full _ rfl _ _ _ rfl w.heap.size 3 i0 _ 1 Tryd.underlying22 HINF.out.1 HINF.out.2.1 HINF.out.2.2.1 .i64 .i64 _ _ C rfl rfl rfl rfl (by rw [HINF.out.2.2.2]; omega) (by unfold maxLen; omega) (Nat.le_refl _) ?_; intro w2 hown2 hgrow2; have HF2 := Hid.mk' (fills_made hown2 (made_zero C) hgrow2); clear hown2 hgrow2))
  go_loopw [5, 6, 7, 15] (fun _ _ _ i wr => ∃ k : Nat, k ≤ R ∧ i = .int .i64 k ∧ Hid (Fills w wr w.heap.size C (colV zs k))) (fun _ _ _ i _ => R - (intOf i).toNat)
  case atStart => exact ⟨0, Nat.zero_le _, rfl, HF2⟩
  case round =>
    obtain ⟨k, hk, rfl, HF⟩ := hrel
    rcases Nat.lt_or_ge k R with h1 | h1
    · obtain ⟨b1, o1, cap1, hc, hr1⟩ := HR.out wr HF.out.below k h1
      have HR1 : Hid (∀ W, Below w.heap.size w W → ∃ b2 o2 cap2, W.cell? ⟨b, o + k, none⟩ = some (.slice (some ⟨b2, o2, none⟩) C cap2) ∧ RowAt W b2 o2 C (zs k)) := fun W hb => HR.out W hb k h1
      have hbk : b1 < w.heap.size := by
        obtain ⟨b2, o2, cap2, h2, h3⟩ := HR.out w (Below.refl _ _) k h1
        rw [HF.out.below.cell (cell_lt h2), h2] at hc
        simp only [Option.some.injEq, Value.slice.injEq, Addr.mk.injEq, and_true, true_and] at hc
        obtain ⟨⟨rfl, rfl⟩, rfl⟩ := hc
        have := h3 0 (by have := HK.out.c0; omega)
        exact cell_lt this
      have HR2 := Hid.mk' hr1
      have hkn : (k : Int) < (R : Int) := by omega
      go_wp2_with fail
      obtain ⟨Wr, hWr⟩ : ∃ Wr, Wr = wr := ⟨_, rfl⟩
      rw [← hWr] at HF hc HR2 ⊢
      clear hWr hr1 hc HR1
      go_loopw [6, 7, 21] (fun _ _ i wr => ∃ j : Nat, j ≤ C ∧ i = .int .i64 j ∧ Hid (Fills w wr w.heap.size C (fun c => if c < j then colV zs (k + 1) c else colV zs k c)) ∧ Hid (RowAt wr b1 o1 C (zs k))) (fun _ _ i _ => C - (intOf i).toNat)
      case atStart => exact ⟨0, Nat.zero_le _, rfl, by simpa using HF, HR2⟩
      case round =>
        obtain ⟨j, hj, rfl, HG, HW⟩ := hrel
        rcases Nat.lt_or_ge j C with h2 | h2
        · have hce := HW.out j h2
          have hjC : (j : Int) < (C : Int) := by omega
          have hcF := HG.out.row j h2
          have hfz := HG.out.fz j h2
          rw [Nat.zero_add] at hcF hfz
          rw [if_neg (by omega)] at hcF
          have hb1 := HK.out.col (k := k) (j := j) hk (by rw [hC]; exact h2)
          have hb2 := HK.out.cell h1 (j := j) (by rw [HK.out.even k h1, hC]; exact h2)
          have HV : Hid (colV zs (k + 1) j = colV zs k j + zs k j) := rfl
          have HS := Hid.mk' (HG.out.set h2 (colV zs k j + zs k j) (f' := fun c => if c < j + 1 then colV zs (k + 1) c else colV zs k c) (fun i hi => by
            by_cases hik : i = j
            · subst hik; rw [if_pos (by omega), if_pos rfl, HV.out]
            · rw [if_neg hik]
              by_cases hlt : i < j
              · rw [if_pos (by omega), if_pos hlt]
              · rw [if_neg (by omega), if_neg hlt]))
          have HW1 : Hid (∀ x : Int, RowAt (wr.setCell ⟨w.heap.size, j, none⟩ (.int .i64 x)) b1 o1 C (zs k)) := fun x i hi => by
            rw [World.cell?_setCell_other _ _ _ _ (fun e => by have := congrArg Addr.block e; simp at this; omega)]
            exact HW.out i hi
          generalize colV zs k j = y at *
          generalize zs k j = x at *
          go_wp2_with fail
          exact ⟨⟨j + 1, h2, by go_num, HS, HW1.out _⟩, by simp [intOf]; omega⟩
        · obtain rfl : j = C := by omega
          have HF1 : Hid (Fills w wr w.heap.size j (colV zs (k + 1))) := ⟨fun i hi => by have := HG.out.row i hi; rw [if_pos hi] at this; exact this, HG.out.fz, HG.out.below, HG.out.hg⟩
          go_wp2_with fail
          exact ⟨⟨k + 1, h1, by go_num, HF1⟩, by simp [intOf]; omega⟩
    · obtain rfl : k = R := by omega
      go_wp2_with fail
      go_ret
      exact ⟨_, _, rfl, HF.out.row, HF.out.below⟩
end Go.Proofs.YtdlbnolnkmhdcaaDoor

/- Cells beside a map. -/
namespace Go.Proofs.YtdlbnolnkmhdcaaDoor
open Go.RowKit Go.Maps

/-- A cell beside a map's block. -/
theorem cell_side {w w' : World} {mb nn B o : Nat} {v : Value} {D : DataW Unit} {k : TypeId} {R : Value → Option (DataW Unit × List MemPlace)} (hm : w.ownsMap Tryd.prog k R mb nn D) (hg : w.grownBy w' (some mb)) (hc : w.cell? ⟨B, o, none⟩ = some v) : w'.cell? ⟨B, o, none⟩ = some v := by
  refine cell_beside hg hc ?_
  rintro rfl
  rw [map_no_cell hm] at hc
  cases hc

end Go.Proofs.YtdlbnolnkmhdcaaDoor
