/- Logarithms of whole numbers, and their sums, as package logs tells them. -/
import Derived.Test.YthknaphclijncaaDoorPackB
import Derived.Test.YthknaphclijncaaDoorScaleBack
import Derived.Test.YthknaphclijncaaDoorAddAny
import Derived.WalkKit
import Derived.Test.YthknaphclijncaaDoorPutEnt
import Derived.Test.YthknaphclijncaaDoorPackA
import Derived.Test.YthknaphclijncaaDoorWeights
import Derived.Test.YthknaphclijncaaDoorBig
import Derived.Test.YthknaphclijncaaDoorProg
import Derived.BigQuiet
import Derived.Test.YthknaphclijncaaDoorInts
import Derived.Test.YthknaphclijncaaDoorValidWalk
import Derived.Deep.RegionHeld3
import Derived.Shelf.SlGeneric
import Derived.Shelf.Small.Wraps
import Derived.Shelf.Slices.Turned
import Derived.Shelf.Slices.Clone
import Derived.Ground.NamesProg
import Derived.Ground.Names2Prog
import Derived.Test.YthknaphclijncaaDoorErrs
namespace Go.Proofs.YthknaphclijncaaDoor
open Go.RowKit

/-- A log with whole factors. -/
def IL (W : World) (L : Nat) (v : Value) (F : Int → Int) : Prop := ∃ t : List (Int × Int), ListAt W v t ∧ Rising t ∧ (∀ e ∈ t, TermOk e.1 e.2) ∧ (∀ x, atL t x = F x) ∧ t.length ≤ L
theorem IL.later {W W' : World} {L : Nat} {v : Value} {F : Int → Int} (h : IL W L v F) (hb : Below W.heap.size W W') : IL W' L v F := by
  obtain ⟨t, h1, h2⟩ := h
  exact ⟨t, OwnAt.later h1 hb, h2⟩
theorem IL.slice {W : World} {L : Nat} {v : Value} {F : Int → Int} (h : IL W L v F) : ∃ ad n cap, v = .slice ad n cap := by
  obtain ⟨t, h1, _⟩ := h
  obtain ⟨ad, cap, rfl⟩ := (listAt_log h1).slice
  exact ⟨_, _, _, rfl⟩
theorem il_ok {t : List (Int × Int)} (hr : Rising t) (ht : ∀ e ∈ t, TermOk e.1 e.2) : OkLog ((1 : Nat) : Int) t.length (pOf t) (cOf t) := okLog_list hr ht (by decide) (by decide) (gcdTo_one _ _)
theorem atL_hit : ∀ {l : List (Int × Int)} {x : Int}, atL l x ≠ 0 → ∃ e ∈ l, e.1 = x
  | [], x, h => absurd rfl h
  | e :: r, x, h => by
    by_cases h1 : e.1 = x
    · exact ⟨e, by simp, h1⟩
    · obtain ⟨f, hf, hx⟩ := atL_hit (l := r) (x := x) (fun h2 => h (by show (if e.1 = x then e.2 else atL r x) = 0; rw [if_neg h1]; exact h2))
      exact ⟨f, by simp [hf], hx⟩
theorem IL.supp {W : World} {L : Nat} {v : Value} {F : Int → Int} (h : IL W L v F) (x : Int) (hx : F x ≠ 0) : 2 ≤ x ∧ x ≤ 1000000 ∧ Pr x.toNat := by
  obtain ⟨t, _, _, ht, hv, _⟩ := h
  obtain ⟨e, he, rfl⟩ := atL_hit (l := t) (x := x) (by rw [hv]; exact hx)
  obtain ⟨p1, _, _, _, p2, p3⟩ := ht e he
  exact ⟨p2, p1, p3⟩
theorem IL.mkG {W : World} {L G : Nat} {v : Value} {F : Int → Int} {l : List (Int × Int)} (hl : ListAt W v (overL G l)) (hr : Rising l) (hv : ∀ x, (atL l x).tdiv (G : Int) = F x) (hp : ∀ x, F x ≠ 0 → 2 ≤ x ∧ x ≤ 1000000 ∧ Pr x.toNat) (hF : ∀ x, (F x).natAbs ≤ 1099511627776) (hn : l.length ≤ L) : IL W L v F := by
  have hro := rising_over hr G
  refine ⟨_, hl, hro, fun e he => ?_, fun x => by rw [atL_over hr, hv], Nat.le_trans (length_over l G) hn⟩
  have h1 := atL_mem hro he
  rw [atL_over hr, hv] at h1
  have h2 := over_nz he
  obtain ⟨p1, p2, p3⟩ := hp e.1 (by rw [h1]; exact h2)
  have h3 := hF e.1
  rw [h1] at h3
  exact ⟨p2, h2, by omega, by omega, p1, p3⟩
theorem fits_of {G : Nat} {F : Int → Int} {l : List (Int × Int)} (hr : Rising l) (hv : ∀ x, (atL l x).tdiv (G : Int) = F x) (hF : ∀ x, (F x).natAbs ≤ 1099511627776) : ∀ e ∈ l, (e.2.tdiv (G : Int)).natAbs ≤ 1099511627776 := fun e he => by
  have h1 := hv e.1
  rw [atL_mem hr he] at h1
  rw [h1]
  exact hF e.1
theorem gList_unit (L : List Int) : gList 1 L = 1 := Nat.dvd_one.1 (gList_dvd L 1).1

theorem Of_int (m : Nat) (w : World) (h1 : 1 ≤ m) (h6 : m ≤ 1000000) :
    Calls Tryd.prog 13 #[.agg #[.int .i64 (m : Int), .int .i64 1]] w fun e w' => ∃ v, e = .returned (.tuple #[.agg #[.int .i64 1, v], .nilIface]) ∧ IL w' 40 v (fun x => multI x m) ∧ Below w.heap.size w w' := by
  have h : Calls Tryd.prog 13 #[.agg #[.int .i64 (m : Int), .int .i64 1]] w _ := Of_any m 1 w h1 h6 (Nat.le_refl _) (by decide)
  refine h.mono ?_
  rintro e w' ⟨v, t, rfl, hl, hi, hb⟩
  obtain ⟨k, j, h2, h3, h4⟩ := hi.len
  have k1 := log2_of6 h2 h6
  have j1 := log2_of6 h3 (by decide)
  exact ⟨v, rfl, ⟨t, hl, hi.rise, fun e he => (hi.terms (by omega) h6 (by decide) (by decide) e he).1, fun x => by rw [hi.val, multI_one, Int.sub_zero], by omega⟩, hb⟩
theorem Scale_int (k L : Nat) (v : Value) (F : Int → Int) (a : Nat → Addr) (w : World) (hE : Errs w a) (h : IL w L v F) (hL : L ≤ 100) (hk1 : 1 ≤ k) (hk : k ≤ 20) (hF : ∀ x, ((k : Int) * F x).natAbs ≤ 1099511627776) :
    Calls Tryd.prog 12 #[.agg #[.int .i64 1, v], .agg #[.int .i64 (k : Int), .int .i64 1]] w fun e w' => ∃ v', e = .returned (.tuple #[.agg #[.int .i64 1, v'], .nilIface]) ∧ IL w' L v' (fun x => (k : Int) * F x) ∧ Below w.heap.size w w' := by
  have hsup := h.supp
  obtain ⟨t, hl, hr, ht, hv, hn⟩ := h
  have q := listAt_log hl
  obtain ⟨ad, cap, rfl⟩ := q.slice
  have h : Calls Tryd.prog 12 #[.agg #[.int .i64 1, .slice ad t.length cap], .agg #[.int .i64 (k : Int), .int .i64 1]] w _ := Scale_said 1 1 (k : Int) ad cap t a w hE q (il_ok hr ht) (by omega) (by omega) (by omega) (by decide) (by decide) 1 (by simp)
  refine h.mono ?_
  rintro e w' ⟨dn, ad', len, cap', er, rfl, hs, hb⟩
  have hs : SaidOf 1 (scaleL ((k : Int).tdiv ((1 : Nat) : Int)) t) a w' dn (.slice ad' len cap') er := hs
  rw [show (k : Int).tdiv ((1 : Nat) : Int) = (k : Int) by simp] at hs
  have hr2 := scale_rise hr (k : Int)
  have hv2 : ∀ x, (atL (scaleL (k : Int) t) x).tdiv ((1 : Nat) : Int) = (k : Int) * F x := fun x => by rw [scale_at, hv]; simp
  unfold SaidOf at hs
  rw [gList_unit] at hs
  rcases hs with ⟨_, rfl, rfl, h4⟩ | ⟨h1, _⟩
  · exact ⟨_, rfl, IL.mkG h4 hr2 hv2 (fun x hx => hsup x (fun h0 => hx (by rw [h0]; simp))) hF (by unfold scaleL; rw [List.length_map]; exact hn), hb⟩
  · exact absurd ⟨by decide, fits_of hr2 hv2 hF⟩ h1
theorem Scale_ent {base M : Nat} {f : Int → Int} {dn : Int} {v : Value} (a : Nat → Addr) (w : World) (hE : Errs w a) (h : LogBy base M f w dn v) (hM : 1 ≤ M) (hM6 : M ≤ 20) (hf : Prim f) (hs : ∀ x, f x ≠ 0 → x ≤ 90) :
    Calls Tryd.prog 12 #[.agg #[.int .i64 dn, v], .agg #[.int .i64 (M : Int), .int .i64 1]] w fun e w' => ∃ v', e = .returned (.tuple #[.agg #[.int .i64 1, v'], .nilIface]) ∧ IL w' 100 v' f ∧ Below w.heap.size w w' := by
  obtain ⟨t, d, G, rfl, hl, _, hMG, hG, hv, hok⟩ := h.ok hM (by omega) hf
  have hcan := OkLog.canon (d := d) hok
  have hlen := rising_count (hi := 91) t 1 (by omega) hcan.rise (fun e he => by
    have h1 := hv e.1
    rw [atL_mem hcan.rise he] at h1
    have hne : f e.1 ≠ 0 := by
      rw [h1]
      exact Int.mul_ne_zero (by omega) (hcan.nz e he)
    have h2 := hs e.1 hne
    have h3 := hf.pr e.1 hne
    omega)
  have q := listAt_log hl
  obtain ⟨ad, cap, rfl⟩ := q.slice
  have h : Calls Tryd.prog 12 #[.agg #[.int .i64 (d : Int), .slice ad t.length cap], .agg #[.int .i64 (M : Int), .int .i64 1]] w _ := Scale_said d 1 (M : Int) ad cap t a w hE q hok (by omega) (by omega) (by omega) (by decide) (by decide) 1 (by simp)
  refine h.mono ?_
  rintro e w' ⟨dn', ad', len, cap', er, rfl, hs, hb⟩
  rw [show (M : Int).tdiv ((1 : Nat) : Int) = (M : Int) by simp, Nat.div_self Nat.one_pos, Nat.mul_one] at hs
  have hd := hcan.pos
  have hr2 := scale_rise hcan.rise (M : Int)
  have hg : gList d ((scaleL (M : Int) t).map Prod.snd) = d := by
    refine Nat.dvd_antisymm (gList_dvd _ _).1 ?_
    have := gList_greatest (d := d) (m := 1) ((scaleL (M : Int) t).map Prod.snd) d (by simp) (fun x hx => by
      rw [scale_snd] at hx
      obtain ⟨y, _, rfl⟩ := List.mem_map.1 hx
      rw [Nat.one_mul, Int.natAbs_mul, Int.natAbs_natCast, hMG]
      exact ⟨G * y.natAbs, by rw [Nat.mul_comm G d, Nat.mul_assoc]⟩)
    rw [Nat.one_mul] at this
    exact this
  have hv2 : ∀ x, (atL (scaleL (M : Int) t) x).tdiv (d : Int) = f x := fun x => by
    rw [scale_at, hv x, hMG, Int.natCast_mul, show (G : Int) * (d : Int) * atL t x = ((G : Int) * atL t x) * (d : Int) by rw [Int.mul_assoc, Int.mul_comm (d : Int), ← Int.mul_assoc]]
    exact Int.mul_tdiv_cancel _ (by omega)
  have hF : ∀ x, (f x).natAbs ≤ 1099511627776 := fun x => by have := hf.le x; omega
  unfold SaidOf at hs
  rw [hg, Nat.div_self hd] at hs
  rcases hs with ⟨_, rfl, rfl, h4⟩ | ⟨h1, _⟩
  · exact ⟨_, rfl, IL.mkG h4 hr2 hv2 (fun x hx => by have := hf.pr x hx; exact ⟨this.1, by omega, this.2.2⟩) hF (by unfold scaleL; rw [List.length_map]; omega), hb⟩
  · exact absurd ⟨by rw [Nat.div_self hd]; decide, fits_of hr2 hv2 hF⟩ h1
theorem Add_int (L1 L2 : Nat) (v1 v2 : Value) (F1 F2 : Int → Int) (a : Nat → Addr) (w : World) (hE : Errs w a) (h1 : IL w L1 v1 F1) (h2 : IL w L2 v2 F2) (hL : L1 + L2 ≤ 10000) (hF : ∀ x, (F1 x + F2 x).natAbs ≤ 1099511627776) :
    Calls Tryd.prog 14 #[.agg #[.int .i64 1, v1], .agg #[.int .i64 1, v2]] w fun e w' => ∃ v, e = .returned (.tuple #[.agg #[.int .i64 1, v], .nilIface]) ∧ IL w' (L1 + L2) v (fun x => F1 x + F2 x) ∧ Below w.heap.size w w' := by
  have s1 := h1.supp
  have s2 := h2.supp
  obtain ⟨t1, l1, r1, o1, e1, n1⟩ := h1
  obtain ⟨t2, l2, r2, o2, e2, n2⟩ := h2
  have q1 := listAt_log l1
  have q2 := listAt_log l2
  obtain ⟨ad1, cap1, rfl⟩ := q1.slice
  obtain ⟨ad2, cap2, rfl⟩ := q2.slice
  have h : Calls Tryd.prog 14 #[.agg #[.int .i64 1, .slice ad1 t1.length cap1], .agg #[.int .i64 1, .slice ad2 t2.length cap2]] w _ := Add_any 1 1 ad1 ad2 cap1 cap2 t1 t2 a w hE q1 q2 (il_ok r1 o1) (il_ok r2 o2) (by omega) 1 (by decide)
  refine h.mono ?_
  rintro e w' ⟨⟨l, G, hr, hv, hG, hlen, hres⟩, hb⟩
  have hG1 : G = 1 := by
    rw [← hG, show ((1 / 1 * 1 : Nat) : Int) = ((1 : Nat) : Int) by decide, gcdL_list hr, gList_unit]
  subst hG1
  have hv2 : ∀ x, (atL l x).tdiv ((1 : Nat) : Int) = F1 x + F2 x := fun x => by rw [hv, e1, e2]; simp
  rcases hres with ⟨_, v, rfl, h4⟩ | ⟨h3, _⟩
  · refine ⟨v, rfl, IL.mkG h4 hr hv2 (fun x hx => ?_) hF (by omega), hb⟩
    by_cases hz : F1 x = 0
    · exact s2 x (fun h0 => hx (by rw [hz, h0]; rfl))
    · exact s1 x hz
  · exact absurd ⟨by decide, fits_of hr hv2 hF⟩ h3
theorem Back_int (L : Nat) (v : Value) (F : Int → Int) (a : Nat → Addr) (w : World) (hE : Errs w a) (h : IL w L v F) (hL : L ≤ 10000) :
    Calls Tryd.prog 12 #[.agg #[.int .i64 1, v], .agg #[.int .i64 (-1), .int .i64 1]] w fun e w' => ∃ v', e = .returned (.tuple #[.agg #[.int .i64 1, v'], .nilIface]) ∧ IL w' L v' (fun x => - F x) ∧ Below w.heap.size w w' := by
  obtain ⟨t, hl, hr, ht, hv, hn⟩ := h
  have q := listAt_log hl
  refine (Scale_back 1 v t.length (pOf t) (cOf t) a w hE q (il_ok hr ht) (by omega)).mono ?_
  rintro e w' ⟨v', rfl, ho, hb⟩
  have hlen : (scaleL (-1) t).length = t.length := by unfold scaleL; rw [List.length_map]
  refine ⟨v', rfl, ⟨scaleL (-1) t, ?_, scale_rise hr _, fun e he => ?_, fun x => by rw [scale_at, hv]; show -1 * F x = -F x; omega, by rw [hlen]; exact hn⟩, hb⟩
  · show OwnAt w' v' (scaleL (-1) t).length _ _
    rw [hlen]
    refine own_congr ho (fun i hi => ?_)
    have h1 : t[i]? = some t[i] := List.getElem?_eq_getElem hi
    have h2 : (scaleL (-1) t)[i]? = some (t[i].1, -1 * t[i].2) := by unfold scaleL; rw [List.getElem?_map, h1]; rfl
    have h3 := pOf_at h1
    have h4 := pOf_at h2
    rw [h3.1, h3.2, h4.1, h4.2]
    exact ⟨rfl, by simp⟩
  · unfold scaleL at he
    obtain ⟨f, hf, rfl⟩ := List.mem_map.1 he
    obtain ⟨p1, p2, p3, p4, p5, p6⟩ := ht f hf
    exact ⟨p1, by show -1 * f.2 ≠ 0; omega, by show _ ≤ -1 * f.2; omega, by show -1 * f.2 ≤ _; omega, p5, p6⟩
theorem Sign_int {U D : Nat} (L : Nat) (v : Value) (F : Int → Int) (a : Nat → Addr) (w : World) (hE : Errs w a) (h : IL w L v F) (hL : L ≤ 10000) (hU : 0 < U) (hD : 0 < D) (hm : ∀ q : Nat, Pr q → F (q : Int) = (mult q U : Int) - (mult q D : Int)) :
    Calls Tryd.prog 41 #[.agg #[.int .i64 1, v]] w fun e w' => ((∃ z, e = .returned (.tuple #[.int .i64 z, .nilIface]) ∧ (D < U → z = 1) ∧ (U = D → z = 0) ∧ (U < D → z = -1)) ∨ e = .returned (.tuple #[.int .i64 0, powErr true false a])) ∧ Below w.heap.size w w' := by
  obtain ⟨t, hl, hr, ht, hv, hn⟩ := h
  have hok := il_ok hr ht
  obtain ⟨s1, s2, s3⟩ := by_sides (G := 1) hok (fun x => by rw [hv]; simp) hU hD hm
  have hc := by_cmp s1 Nat.one_pos s2 s3 hU
  have hlog : LogAt w v t.length (pOf t) (cOf t) := listAt_log hl
  by_cases hfit : cost (pOf t) (cOf t) t.length ≤ 40000
  · have h : Calls Tryd.prog 41 #[.agg #[.int .i64 1, v]] w _ := Sign_log 1 v t.length (pOf t) (cOf t) a true true (by simpa using hok) (by simpa using hfit) w hE hlog (by omega)
    refine h.mono ?_
    rintro e w' ⟨rfl, hb⟩
    exact ⟨Or.inl ⟨_, rfl, hc⟩, hb⟩
  · have h : Calls Tryd.prog 41 #[.agg #[.int .i64 1, v]] w _ := Sign_log 1 v t.length (pOf t) (cOf t) a true false (by simpa using hok) (by simpa using hfit) w hE hlog (by omega)
    refine h.mono ?_
    rintro e w' ⟨rfl, hb⟩
    exact ⟨Or.inr rfl, hb⟩
end Go.Proofs.YthknaphclijncaaDoor

/- logs.Add by forms. -/
namespace Go.Proofs.YthknaphclijncaaDoor
open Go.RowKit Go.Maps

/-- A form of the sum of two. -/
structure SumIs (da db : Nat) (t1 t2 : List (Int × Int)) (d : Nat) (t : List (Int × Int)) : Prop where
  can : Canon d t
  val : ∀ x, atL t x * ((da : Int) * (db : Int)) = (atL t1 x * (db : Int) + atL t2 x * (da : Int)) * (d : Int)
  len : t.length ≤ t1.length + t2.length
/-- The sum of two is in form. -/
def SumOk (da db : Int) (t1 t2 : List (Int × Int)) (d : Nat) (t : List (Int × Int)) : Prop := OkLog da t1.length (pOf t1) (cOf t1) ∧ OkLog db t2.length (pOf t2) (cOf t2) ∧ SumIs da.toNat db.toNat t1 t2 d t ∧ d ≤ 1000000 ∧ ∀ e ∈ t, e.2.natAbs ≤ 1099511627776
theorem SumOk.ok {da db : Int} {t1 t2 : List (Int × Int)} {d : Nat} {t : List (Int × Int)} (h : SumOk da db t1 t2 d t) : OkLog d t.length (pOf t) (cOf t) := by
  obtain ⟨h1, h2, h3, h4, h5⟩ := h
  have hp := h3.can.pos
  refine okLog_list h3.can.rise (fun e he => ?_) (by omega) (by omega) ?_
  · have hv := h3.val e.1
    rw [atL_mem h3.can.rise he] at hv
    have hnz := h3.can.nz e he
    have hb := h5 e he
    have hda : 0 < da.toNat := by have := h1.1; omega
    have hdb : 0 < db.toNat := by have := h2.1; omega
    have hpr : TermOk e.1 e.2 ∨ (atL t1 e.1 = 0 ∧ atL t2 e.1 = 0) := by
      by_cases q1 : atL t1 e.1 = 0
      · by_cases q2 : atL t2 e.1 = 0
        · exact Or.inr ⟨q1, q2⟩
        · have := h2.mem _ (atL_some q2)
          exact Or.inl ⟨this.1, hnz, by omega, by omega, this.2.2.2.2.1, this.2.2.2.2.2⟩
      · have := h1.mem _ (atL_some q1)
        exact Or.inl ⟨this.1, hnz, by omega, by omega, this.2.2.2.2.1, this.2.2.2.2.2⟩
    rcases hpr with h | ⟨q1, q2⟩
    · exact h
    · rw [q1, q2] at hv
      exfalso
      have h6 : e.2 * ((da.toNat : Int) * (db.toNat : Int)) = 0 := by rw [hv]; simp
      rcases Int.mul_eq_zero.1 h6 with h7 | h7
      · exact hnz h7
      · rcases Int.mul_eq_zero.1 h7 with h8 | h8 <;> omega
  · rw [gcdTo_list _ _ _ (Nat.le_refl _), List.take_length, Int.natAbs_natCast]
    exact h3.can.one
theorem SumOk.uniq {da db : Int} {t1 t2 : List (Int × Int)} {d d' : Nat} {t t' : List (Int × Int)} (h : SumOk da db t1 t2 d t) (h' : SumOk da db t1 t2 d' t') : d = d' ∧ t = t' := by
  have hda : 0 < da.toNat := by have := h.1.1; omega
  have hdb : 0 < db.toNat := by have := h.2.1.1; omega
  refine canon_uniq h.2.2.1.can h'.2.2.1.can (fun x => ?_)
  have h1 := h.2.2.1.val x
  have h2 := h'.2.2.1.val x
  have hp : ((da.toNat : Int) * (db.toNat : Int)) ≠ 0 := by
    intro h0
    rcases Int.mul_eq_zero.1 h0 with h3 | h3 <;> omega
  refine Int.eq_of_mul_eq_mul_right hp ?_
  generalize (da.toNat : Int) * (db.toNat : Int) = M at *
  grind
theorem SumOk.comm {da db : Int} {t1 t2 : List (Int × Int)} {d : Nat} {t : List (Int × Int)} (h : SumOk da db t1 t2 d t) : SumOk db da t2 t1 d t :=
  ⟨h.2.1, h.1, ⟨h.2.2.1.can, fun x => by rw [Int.mul_comm (db.toNat : Int), h.2.2.1.val x, Int.add_comm], by have := h.2.2.1.len; omega⟩, h.2.2.2⟩
/-- In any brackets. -/
theorem SumOk.assoc {da db dc : Int} {ta tb tc tx tp tq tr : List (Int × Int)} {dx dp dq dr : Nat} (h1 : SumOk da db ta tb dx tx) (h2 : SumOk dx dc tx tc dp tp) (h3 : SumOk db dc tb tc dq tq) (h4 : SumOk da dq ta tq dr tr) : dp = dr ∧ tp = tr := by
  refine canon_uniq h2.2.2.1.can h4.2.2.1.can (fun x => ?_)
  have e1 := h1.2.2.1.val x
  have e2 := h2.2.2.1.val x
  have e3 := h3.2.2.1.val x
  have e4 := h4.2.2.1.val x
  have pa : (da.toNat : Int) ≠ 0 := by have := h1.1.1; omega
  have pb : (db.toNat : Int) ≠ 0 := by have := h1.2.1.1; omega
  have pc : (dc.toNat : Int) ≠ 0 := by have := h2.2.1.1; omega
  have px : (dx : Int) ≠ 0 := by have := h1.2.2.1.can.pos; omega
  have pq : (dq : Int) ≠ 0 := by have := h3.2.2.1.can.pos; omega
  rw [Int.toNat_natCast] at e2 e4
  generalize (da.toNat : Int) = A at *
  generalize (db.toNat : Int) = B at *
  generalize (dc.toNat : Int) = C at *
  generalize (dx : Int) = X at *
  generalize (dp : Int) = P at *
  generalize (dq : Int) = Q at *
  generalize (dr : Int) = R at *
  generalize atL tx x = x' at *
  generalize atL tp x = p' at *
  generalize atL tq x = q' at *
  generalize atL tr x = r' at *
  generalize atL ta x = a' at *
  generalize atL tb x = b' at *
  generalize atL tc x = c' at *
  have f1 : p' * (A * B * C) * X = (a' * B * C + b' * A * C + c' * A * B) * P * X := by grind
  have f2 : r' * (A * B * C) * Q = (a' * B * C + b' * A * C + c' * A * B) * R * Q := by grind
  have f3 := Int.eq_of_mul_eq_mul_right px f1
  have f4 := Int.eq_of_mul_eq_mul_right pq f2
  have hM : A * B * C ≠ 0 := by
    intro h0
    rcases Int.mul_eq_zero.1 h0 with h5 | h5
    · rcases Int.mul_eq_zero.1 h5 with h6 | h6
      · exact pa h6
      · exact pb h6
    · exact pc h5
  refine Int.eq_of_mul_eq_mul_right hM ?_
  generalize A * B * C = M at *
  generalize a' * B * C + b' * A * C + c' * A * B = S at *
  calc p' * R * M = p' * M * R := by rw [Int.mul_right_comm]
    _ = S * P * R := by rw [f3]
    _ = S * R * P := by rw [Int.mul_right_comm]
    _ = r' * M * P := by rw [f4]
    _ = r' * P * M := by rw [Int.mul_right_comm]

/-- Add, by forms. -/
theorem Add_all (da db : Int) (v1 v2 : Value) (t1 t2 : List (Int × Int)) (a : Nat → Addr) (w : World) (h : Errs w a) (hl1 : LogAt w v1 t1.length (pOf t1) (cOf t1)) (hl2 : LogAt w v2 t2.length (pOf t2) (cOf t2)) (hn : t1.length + t2.length ≤ 10000) :
    Calls Tryd.prog 14 #[.agg #[.int .i64 da, v1], .agg #[.int .i64 db, v2]] w fun e w' => ((∃ d t v, SumOk da db t1 t2 d t ∧ e = .returned (.tuple #[.agg #[.int .i64 (d : Nat), v], .nilIface]) ∧ ListAt w' v t) ∨ ((∀ d t, ¬ SumOk da db t1 t2 d t) ∧ ∃ ad, e = .returned (.tuple #[.agg #[.int .i64 0, .slice none 0 0], .iface 199 (.pointer (some ad))]))) ∧ Below w.heap.size w w' := by
  by_cases hok : OkLog da t1.length (pOf t1) (cOf t1) ∧ OkLog db t2.length (pOf t2) (cOf t2)
  · obtain ⟨hok1, hok2⟩ := hok
    obtain ⟨na, rfl⟩ := Int.eq_ofNat_of_zero_le (show 0 ≤ da by have := hok1.1; omega)
    obtain ⟨nb, rfl⟩ := Int.eq_ofNat_of_zero_le (show 0 ≤ db by have := hok2.1; omega)
    have pa : 0 < na := by have := hok1.1; omega
    have pb : 0 < nb := by have := hok2.1; omega
    obtain ⟨ad1, cap1, rfl⟩ := hl1.slice
    obtain ⟨ad2, cap2, rfl⟩ := hl2.slice
    refine (Add_any na nb ad1 ad2 cap1 cap2 t1 t2 a w h hl1 hl2 hok1 hok2 hn _ rfl).mono ?_
    rintro e w' ⟨⟨l, G, hr, hv, hG, hlen, hres⟩, hb⟩
    obtain ⟨s1, s2, s3, s4⟩ := sum_value rfl pa pb hr hv hG
    have hs : SumIs na nb t1 t2 (na / Int.gcd (na : Int) (nb : Int) * nb / G) (overL G l) := ⟨s1, s3, Nat.le_trans (length_over l G) hlen⟩
    refine ⟨?_, hb⟩
    rcases hres with ⟨hf, v, rfl, hlist⟩ | ⟨hf, rfl⟩
    · refine Or.inl ⟨_, _, v, ⟨hok1, hok2, by simpa using hs, s4.1 hf⟩, by rw [s2], hlist⟩
    · refine Or.inr ⟨fun d t hso => hf (s4.2 ?_), a 1, rfl⟩
      have hs' : SumIs (na : Int).toNat (nb : Int).toNat t1 t2 _ _ := hso.2.2.1
      rw [Int.toNat_natCast, Int.toNat_natCast] at hs'
      obtain ⟨u1, u2⟩ := canon_uniq hs.can hs'.can (fun x => by
        have q1 := hs.val x
        have q2 := hs'.val x
        have hp : ((na : Int) * (nb : Int)) ≠ 0 := by
          intro h0
          rcases Int.mul_eq_zero.1 h0 with h3 | h3 <;> omega
        refine Int.eq_of_mul_eq_mul_right hp ?_
        generalize (na : Int) * (nb : Int) = M at *
        grind)
      rw [u1, u2]
      exact hso.2.2.2
  · refine (Add_shape da db v1 v2 _ _ _ _ _ _ a w h hl1 hl2 (by omega) (by omega) hok).mono ?_
    rintro e w' ⟨rfl, hb⟩
    exact ⟨Or.inr ⟨fun d t hso => hok ⟨hso.1, hso.2.1⟩, a 2, rfl⟩, hb⟩
end Go.Proofs.YthknaphclijncaaDoor

/- The law's helper sign, of two that are told of sums. -/
namespace Go.Proofs.YthknaphclijncaaDoor
open Go.RowKit

theorem okTo_neg {p c : Nat → Int} : ∀ k, OkTo p c k → OkTo p (fun i => -c i) k := by
  intro k h i hi
  obtain ⟨h1, h2, h3, h4, h5, h6, h7⟩ := h i hi
  exact ⟨h1, h2, by show -c i ≠ 0; omega, by show _ ≤ -c i; omega, by show -c i ≤ _; omega, h6, h7⟩
theorem gcdTo_neg (d : Int) (c : Nat → Int) : ∀ k, gcdTo d (fun i => -c i) k = gcdTo d c k
  | 0 => rfl
  | k + 1 => by
    show Int.gcd (gcdTo d (fun i => -c i) k : Int) (-c k) = Int.gcd (gcdTo d c k : Int) (c k)
    rw [gcdTo_neg d c k, Int.gcd_neg]
theorem okLog_neg {d : Int} {n : Nat} {p c : Nat → Int} (h : OkLog d n p c) : OkLog d n p (fun i => -c i) :=
  ⟨h.1, h.2.1, okTo_neg n h.2.2.1, by rw [gcdTo_neg]; exact h.2.2.2⟩
def negL (t : List (Int × Int)) : List (Int × Int) := t.map fun e => (e.1, -e.2)
theorem negL_parts (t : List (Int × Int)) : pOf (negL t) = pOf t ∧ cOf (negL t) = (fun i => -cOf t i) ∧ (negL t).length = t.length := by
  refine ⟨?_, ?_, by simp [negL]⟩
  · funext i
    unfold pOf negL
    simp only [List.getD_eq_getElem?_getD, List.getElem?_map]
    cases t[i]? <;> rfl
  · funext i
    unfold cOf negL
    simp only [List.getD_eq_getElem?_getD, List.getElem?_map]
    cases t[i]? <;> rfl
theorem negL_at : ∀ (t : List (Int × Int)) (x : Int), atL (negL t) x = -atL t x
  | [], _ => rfl
  | e :: r, x => by
    have ih := negL_at r x
    unfold negL at ih ⊢
    simp only [List.map_cons, atL]
    rw [ih]
    split <;> simp
theorem ownAt_put {w : World} {v : Value} {n : Nat} {p c : Nat → Int} {B : Nat} {ad : Option Addr} {l cap : Nat} {x y : Value} (h : OwnAt w v n p c) (hx : w.cell? ⟨B, 1, none⟩ = some (.slice ad l cap)) : OwnAt ((w.setCell ⟨B, 0, none⟩ x).setCell ⟨B, 1, none⟩ y) v n p c := by
  rcases Nat.eq_zero_or_pos n with h0 | h0
  · subst h0
    rcases h with h | ⟨g, cap, hv, _⟩
    · exact Or.inl h
    · exact Or.inr ⟨g, cap, hv, fun i hi => by omega⟩
  · exact h.set h0 hx
/-- The sides of a difference. -/
theorem by_sides2 {d M U D : Nat} {t : List (Int × Int)} {F : Int → Int} (hok : OkLog d t.length (pOf t) (cOf t)) (hv : ∀ x, (M : Int) * atL t x = (d : Int) * F x) (hU : 0 < U) (hD : 0 < D) (hm : ∀ q : Nat, Pr q → F (q : Int) = (mult q U : Int) - (mult q D : Int)) :
    sideUp (pOf t) (cOf t) 1 t.length ^ M * D ^ d = sideDown (pOf t) (cOf t) 1 t.length ^ M * U ^ d ∧ 0 < sideUp (pOf t) (cOf t) 1 t.length ∧ 0 < sideDown (pOf t) (cOf t) 1 t.length := by
  have h2 : Pr 2 := ⟨by omega, fun d hd hdd => by have := Nat.mul_le_mul hd hd; omega⟩
  obtain ⟨_, a1, a2⟩ := hok.side 1 h2
  refine ⟨eq_of_mult _ _ (Nat.mul_pos (Nat.pow_pos a1) (Nat.pow_pos hD)) (Nat.mul_pos (Nat.pow_pos a2) (Nat.pow_pos hU)) (fun q hq => ?_), a1, a2⟩
  have e1 := (hok.side 1 hq).1
  have e2 := hv (q : Int)
  rw [hm q hq] at e2
  rw [mult_mul hq _ _ (Nat.pow_pos a1) (Nat.pow_pos hD), mult_mul hq _ _ (Nat.pow_pos a2) (Nat.pow_pos hU), mult_power hq a1, mult_power hq a2, mult_power hq hD, mult_power hq hU]
  generalize mult q (sideUp (pOf t) (cOf t) 1 t.length) = A at *
  generalize mult q (sideDown (pOf t) (cOf t) 1 t.length) = B at *
  generalize mult q U = u at *
  generalize mult q D = e at *
  generalize atL t (q : Int) = z at *
  apply Int.ofNat_inj.1
  simp only [Int.natCast_add, Int.natCast_mul]
  have h3 : (A : Int) = B + z := by omega
  rw [h3]
  grind
theorem cmp_ge {su sd M d U D : Nat} (h : su ^ M * D ^ d = sd ^ M * U ^ d) (hM : 0 < M) (h1 : 0 < su) (h2 : 0 < sd) (hU : 0 < U) (hle : D ≤ U) : 0 ≤ cmpOf su sd := by
  obtain ⟨_, o2, o3⟩ := sides_order h (Nat.pow_pos h1) (Nat.pow_pos h2)
  have hp := Nat.pow_le_pow_left hle d
  rcases Nat.lt_or_ge (D ^ d) (U ^ d) with h3 | h3
  · have := (pow_order hM).1 (o2 h3)
    rw [cmpOf_gt this]
    decide
  · have := (pow_order hM).2 (o3 (by omega) (Nat.pow_pos hU))
    rw [cmpOf_eq this]
    decide
theorem diff_val {M G1 G2 e1 e2 d : Nat} {t1 t2 t : List (Int × Int)} {f1 f2 : Int → Int} (hM1 : M = G1 * e1) (hM2 : M = G2 * e2) (hM : 0 < M) (v1 : ∀ x, f1 x = (G1 : Int) * atL t1 x) (v2 : ∀ x, f2 x = (G2 : Int) * atL t2 x) (hs : ∀ x, atL t x * ((e1 : Int) * (e2 : Int)) = (atL t1 x * (e2 : Int) + atL (negL t2) x * (e1 : Int)) * (d : Int)) : ∀ x, (M : Int) * atL t x = (d : Int) * (f1 x - f2 x) := fun x => by
  have h := hs x
  rw [negL_at] at h
  rw [v1 x, v2 x]
  have m1 : (M : Int) = (G1 : Int) * (e1 : Int) := by rw [hM1]; simp
  have m2 : (M : Int) = (G2 : Int) * (e2 : Int) := by rw [hM2]; simp
  generalize atL t x = T at *
  generalize atL t1 x = A at *
  generalize atL t2 x = B at *
  refine Int.eq_of_mul_eq_mul_left (show (M : Int) ≠ 0 by omega) ?_
  have k1 : (M : Int) * ((M : Int) * T) = (G1 : Int) * (G2 : Int) * (T * ((e1 : Int) * (e2 : Int))) := by
    calc (M : Int) * ((M : Int) * T) = ((G1 : Int) * (e1 : Int)) * (((G2 : Int) * (e2 : Int)) * T) := by rw [← m1, ← m2]
      _ = _ := by grind
  rw [k1, h]
  have k2 : (M : Int) * ((d : Int) * ((G1 : Int) * A - (G2 : Int) * B)) = (d : Int) * ((G1 : Int) * A * (M : Int) - (G2 : Int) * B * (M : Int)) := by grind
  rw [k2]
  have k3 : (G1 : Int) * A * (M : Int) = (G1 : Int) * A * ((G2 : Int) * (e2 : Int)) := by rw [← m2]
  have k4 : (G2 : Int) * B * (M : Int) = (G2 : Int) * B * ((G1 : Int) * (e1 : Int)) := by rw [← m1]
  rw [k3, k4]
  grind

end Go.Proofs.YthknaphclijncaaDoor

/- The law's helper over: the sign of one less another one. -/
namespace Go.Proofs.YthknaphclijncaaDoor
open Go.RowKit

theorem IL.put {w : World} {L : Nat} {v : Value} {F : Int → Int} {B : Nat} {ad : Option Addr} {l cap : Nat} {x y : Value} (h : IL w L v F) (hx : w.cell? ⟨B, 1, none⟩ = some (.slice ad l cap)) : IL ((w.setCell ⟨B, 0, none⟩ x).setCell ⟨B, 1, none⟩ y) L v F := by
  obtain ⟨t, h1, h2⟩ := h
  exact ⟨t, ownAt_put h1 hx, h2⟩
set_option maxRecDepth 100000 in
set_option maxHeartbeats 2000000 in
theorem over_int {U D : Nat} (La Lb : Nat) (va vb : Value) (Fa Fb : Int → Int) (a : Nat → Addr) (w : World) (hE : Errs w a) (h1 : IL w La va Fa) (h2 : IL w Lb vb Fb) (hL : La + Lb ≤ 10000) (hF : ∀ x, (Fa x + -Fb x).natAbs ≤ 1099511627776) (hU : 0 < U) (hD : 0 < D) (hm : ∀ q : Nat, Pr q → Fa (q : Int) + -Fb (q : Int) = (mult q U : Int) - (mult q D : Int)) (hle : D ≤ U) :
    Calls Tryd.prog 15 #[.agg #[.int .i64 1, va], .agg #[.int .i64 1, vb]] w fun e w' => (∃ z : Int, 0 ≤ z ∧ e = .returned (.int .i64 z)) ∧ Below w.heap.size w w' := by
  obtain ⟨ad1, k1, cap1, rfl⟩ := h1.slice
  obtain ⟨ad2, k2, cap2, rfl⟩ := h2.slice
  obtain ⟨W0, hW0⟩ : ∃ W0, W0 = (w.alloc (.cells #[.int .i64 1, .slice ad1 k1 cap1] 32)).alloc (.cells #[.int .i64 1, .slice ad2 k2 cap2] 32) := ⟨_, rfl⟩
  have hb0 : Below w.heap.size w W0 := by rw [hW0]; exact below_chain (new_below _ _) (new_below _ _)
  have HC0 : Hid (∀ W, Below W0.heap.size W0 W → (W.cell? ⟨w.heap.size, 0, none⟩ = some (.int .i64 1) ∧ W.cell? ⟨w.heap.size, 1, none⟩ = some (.slice ad1 k1 cap1)) ∧ (W.cell? ⟨w.heap.size + 1, 0, none⟩ = some (.int .i64 1) ∧ W.cell? ⟨w.heap.size + 1, 1, none⟩ = some (.slice ad2 k2 cap2))) := fun W hb => by
    have hr := hb
    rw [hW0] at hr
    have r2 := res_past hr
    rw [World.size_alloc] at r2
    have r1 := res_past (w := w) (below_chain (new_below _ _) hr)
    exact ⟨⟨r1.1, r1.2.1⟩, r2.1, r2.2.1⟩
  have hsc := Back_int Lb (.slice ad2 k2 cap2) Fb a W0 (hE.below hb0) (h2.later hb0) (by omega)
  have HAD : Hid (∀ (W : World) (v : Value), Below W0.heap.size W0 W → IL W Lb v (fun x => -Fb x) → Calls Tryd.prog 14 #[.agg #[.int .i64 1, .slice ad1 k1 cap1], .agg #[.int .i64 1, v]] W fun e w' => ∃ v', e = .returned (.tuple #[.agg #[.int .i64 1, v'], .nilIface]) ∧ IL w' (La + Lb) v' (fun x => Fa x + -Fb x) ∧ Below W.heap.size W w') := fun W v hb hv => Add_int La Lb _ v Fa (fun x => -Fb x) a W (hE.below (below_chain hb0 hb)) ((h1.later hb0).later hb) hv hL hF
  have HSG : Hid (∀ (W : World) (v : Value), Below W0.heap.size W0 W → IL W (La + Lb) v (fun x => Fa x + -Fb x) → Calls Tryd.prog 41 #[.agg #[.int .i64 1, v]] W fun e w' => ((∃ z : Int, 0 ≤ z ∧ e = .returned (.tuple #[.int .i64 z, .nilIface])) ∨ ∃ ad, e = .returned (.tuple #[.int .i64 0, .iface 199 (.pointer (some ad))])) ∧ Below W.heap.size W w') := fun W v hb hl => by
    refine (Sign_int (U := U) (D := D) (La + Lb) v _ a W (hE.below (below_chain hb0 hb)) hl hL hU hD hm).mono ?_
    rintro e w' ⟨⟨z, rfl, z1, z2, z3⟩ | rfl, hb'⟩
    · refine ⟨Or.inl ⟨z, ?_, rfl⟩, hb'⟩
      rcases Nat.lt_or_ge D U with h | h
      · rw [z1 h]; decide
      · rw [z2 (by omega)]; decide
    · exact ⟨Or.inr ⟨_, rfl⟩, hb'⟩
  have HB0 := Hid.mk' hb0
  have HW0 := Hid.mk' hW0
  have c00 := HC0.out W0 (Below.refl _ _)
  obtain ⟨⟨x0, x1⟩, y0, y1⟩ := c00
  clear hE hb0 hW0 h1 h2 hm hle hF
  go_enter Tryd.func15, Tryd.ntmps15
  go_upto_region 1 with fail
  rw [← HW0.out]
  go_wp2_with fail
  refine hsc.mono ?_
  clear hsc x0 x1 y0 y1
  rintro e w1 ⟨v1, rfl, hv1, hb1⟩
  obtain ⟨ad3, k3, cap3, rfl⟩ := hv1.slice
  obtain ⟨W1, hW1⟩ : ∃ W1, W1 = w1.alloc (.cells #[.int .i64 1, .slice ad3 k3 cap3] 32) := ⟨_, rfl⟩
  have hb01 : Below W0.heap.size W0 W1 := by rw [hW1]; exact below_chain hb1 (new_below _ _)
  have hv1' : IL W1 Lb (.slice ad3 k3 cap3) (fun x => -Fb x) := by rw [hW1]; exact hv1.later (new_below _ _)
  have HC1 : Hid (∀ W, Below W1.heap.size W1 W → W.cell? ⟨w1.heap.size, 0, none⟩ = some (.int .i64 1) ∧ W.cell? ⟨w1.heap.size, 1, none⟩ = some (.slice ad3 k3 cap3) ∧ W.frozen? ⟨w1.heap.size, 0, none⟩ = false ∧ W.frozen? ⟨w1.heap.size, 1, none⟩ = false) := fun W hb => by
    rw [hW1] at hb
    exact res_past hb
  have hB1 : W0.heap.size ≤ w1.heap.size := hb1.size
  have had := HAD.out W1 _ hb01 hv1'
  obtain ⟨⟨x0, x1⟩, _, _⟩ := HC0.out W1 hb01
  obtain ⟨y0, y1, _, _⟩ := HC1.out W1 (Below.refl _ _)
  have HW1 := Hid.mk' hW1
  have HB01 := Hid.mk' hb01
  clear hv1 hb1 hv1' hb01 hW1 HAD
  go_upto_region 2 with fail
  rw [← HW1.out]
  clear HW1
  go_wp2_with fail
  refine had.mono ?_
  clear had x0 x1 y0 y1
  rintro e w2 ⟨v2, rfl, hl2, hb2⟩
  obtain ⟨ad4, k4, cap4, rfl⟩ := hl2.slice
  obtain ⟨z0, z1, f0, f1⟩ := HC1.out w2 hb2
  obtain ⟨W2, hW2⟩ : ∃ W2, W2 = (w2.setCell ⟨w1.heap.size, 0, none⟩ (.int .i64 1)).setCell ⟨w1.heap.size, 1, none⟩ (.slice ad4 k4 cap4) := ⟨_, rfl⟩
  have hb02 : Below W0.heap.size W0 W2 := by rw [hW2]; exact ((below_chain HB01.out hb2).setCell hB1 _).setCell hB1 _
  have hl2' : IL W2 (La + Lb) (.slice ad4 k4 cap4) (fun x => Fa x + -Fb x) := by rw [hW2]; exact hl2.put z1
  have q0 : W2.cell? ⟨w1.heap.size, 0, none⟩ = some (.int .i64 1) := by
    rw [hW2, World.cell?_setCell_other _ _ _ _ (by simp)]
    exact World.cell?_setCell_same _ _ _ z0
  have q1 : W2.cell? ⟨w1.heap.size, 1, none⟩ = some (.slice ad4 k4 cap4) := by
    rw [hW2]
    exact World.cell?_setCell_same _ _ _ (by rw [World.cell?_setCell_other _ _ _ _ (by simp)]; exact z1)
  have hsg := HSG.out W2 _ hb02 hl2'
  have HB2 := Hid.mk' (below_chain HB0.out hb02)
  have HW2 := Hid.mk' hW2
  clear hl2 hb2 hb02 hl2' hW2 HSG HC0
  go_upto_region 5 with fail
  rw [← HW2.out]
  clear HW2 z0 z1 f0 f1
  go_wp2_with fail
  refine hsg.mono ?_
  clear hsg
  rintro e w3 ⟨⟨z, hz, rfl⟩ | ⟨ad, rfl⟩, hb3⟩
  · have HB3 := Hid.mk' (below_chain HB2.out hb3)
    clear hb3
    go_wp2_with fail
    go_ret
    exact ⟨⟨z, hz, rfl⟩, HB3.out⟩
  · have HB3 := Hid.mk' (below_chain HB2.out hb3)
    clear hb3
    go_wp2_with fail
    go_ret
    exact ⟨⟨2, by decide, rfl⟩, HB3.out⟩
end Go.Proofs.YthknaphclijncaaDoor

/- Types: how many there are, all of them in order, and how many rows each one has. -/
namespace Go.Proofs.YthknaphclijncaaDoor

/-- As the program's choose goes: each step's product is divided at once. -/
def chF (n : Nat) : Nat → Nat
  | 0 => 1
  | i + 1 => chF n i * (n - i) / (i + 1)
def facT : Nat → Nat
  | 0 => 1
  | i + 1 => facT i * (i + 1)
theorem facT_pos : ∀ n, 0 < facT n
  | 0 => Nat.one_pos
  | n + 1 => Nat.mul_pos (facT_pos n) (Nat.succ_pos _)
theorem chF_small : ∀ n, n < 26 → ∀ i, i < 26 → chF n i ≤ 10000000 := by decide +kernel
theorem chF_fac : ∀ n, n < 21 → ∀ k, k < n + 1 → chF n k * facT k * facT (n - k) = facT n := by decide +kernel

/-- How many types there are of n symbols out of k + 1. -/
def cntS (f : Nat → Nat) : Nat → Nat
  | 0 => 0
  | i + 1 => cntS f i + f i
def cntT : Nat → Nat → Nat
  | 0, _ => 1
  | k + 1, n => cntS (fun i => cntT k (n - i)) (n + 1)
theorem cntS_congr {f g : Nat → Nat} : ∀ {n : Nat}, (∀ i, i < n → f i = g i) → cntS f n = cntS g n
  | 0, _ => rfl
  | n + 1, h => by
    show cntS f n + f n = cntS g n + g n
    rw [cntS_congr (fun i hi => h i (by omega)), h n (by omega)]
theorem chF_sum : ∀ k, k < 5 → ∀ n, n < 21 → cntS (fun i => chF (n - i + k) k) (n + 1) = chF (n + (k + 1)) (k + 1) := by decide +kernel
theorem cntT_chF : ∀ k, k < 6 → ∀ n, n < 21 → cntT k n = chF (n + k) k
  | 0, _, _, _ => rfl
  | k + 1, hk, n, hn => by
    rw [← chF_sum k (by omega) n hn]
    exact cntS_congr fun i _ => cntT_chF k (by omega) (n - i) (by omega)
theorem cntT_small {k n : Nat} (hk : k < 6) (hn : n < 21) : cntT k n ≤ 10000000 := by
  rw [cntT_chF k hk n hn]; exact chF_small _ (by omega) _ (by omega)
theorem cntS_le (f : Nat → Nat) {i n : Nat} (h : i ≤ n) : cntS f i ≤ cntS f n := by
  induction n with
  | zero => rw [Nat.le_zero.1 h]; exact Nat.le_refl _
  | succ n ih =>
    rcases Nat.lt_or_ge i (n + 1) with h1 | h1
    · exact Nat.le_trans (ih (by omega)) (Nat.le_add_right _ _)
    · rw [show i = n + 1 by omega]; exact Nat.le_refl _

/-- The types of n symbols out of k + 1, in order. -/
def typS (f : Nat → List (List Int)) : Nat → List (List Int)
  | 0 => []
  | i + 1 => typS f i ++ (f i).map fun r => (i : Int) :: r
def typT : Nat → Nat → List (List Int)
  | 0, n => [[(n : Int)]]
  | k + 1, n => typS (fun i => typT k (n - i)) (n + 1)
theorem typS_length (f : Nat → List (List Int)) : ∀ n, (typS f n).length = cntS (fun i => (f i).length) n
  | 0 => rfl
  | n + 1 => by simp [typS, cntS, typS_length f n]
theorem typT_length : ∀ k n, (typT k n).length = cntT k n
  | 0, _ => rfl
  | k + 1, n => by
    show (typS _ (n + 1)).length = cntS _ (n + 1)
    rw [typS_length]
    exact cntS_congr fun i _ => typT_length k (n - i)
theorem typS_mem {f : Nat → List (List Int)} {r : List Int} : ∀ {n : Nat}, r ∈ typS f n → ∃ i s, i < n ∧ s ∈ f i ∧ r = (i : Int) :: s
  | 0, h => by simp [typS] at h
  | n + 1, h => by
    rcases List.mem_append.1 h with h | h
    · obtain ⟨i, s, hi, hs, e⟩ := typS_mem h
      exact ⟨i, s, by omega, hs, e⟩
    · obtain ⟨s, hs, e⟩ := List.mem_map.1 h
      exact ⟨n, s, by omega, hs, e.symm⟩
theorem typT_width : ∀ k n r, r ∈ typT k n → r.length = k + 1
  | 0, n, r, h => by rw [List.mem_singleton.1 h]; rfl
  | k + 1, n, r, h => by
    obtain ⟨i, s, _, hs, rfl⟩ := typS_mem h
    simp [typT_width k _ s hs]

/-- How many rows a type has, as the program reckons. -/
def sumU (t : Nat → Nat) : Nat → Nat
  | 0 => 0
  | i + 1 => sumU t i + t i
def rowU (t : Nat → Nat) : Nat → Nat
  | 0 => 1
  | i + 1 => rowU t i * chF (sumU t (i + 1)) (t i)
def denU (t : Nat → Nat) : Nat → Nat
  | 0 => 1
  | i + 1 => denU t i * facT (t i)
theorem denU_pos (t : Nat → Nat) : ∀ k, 0 < denU t k
  | 0 => Nat.one_pos
  | k + 1 => Nat.mul_pos (denU_pos t k) (facT_pos _)
theorem sumU_le (t : Nat → Nat) {i n : Nat} (h : i ≤ n) : sumU t i ≤ sumU t n := by
  induction n with
  | zero => rw [Nat.le_zero.1 h]; exact Nat.le_refl _
  | succ n ih =>
    rcases Nat.lt_or_ge i (n + 1) with h1 | h1
    · exact Nat.le_trans (ih (by omega)) (Nat.le_add_right _ _)
    · rw [show i = n + 1 by omega]; exact Nat.le_refl _
theorem rowU_fac (t : Nat → Nat) : ∀ k, sumU t k < 21 → rowU t k * denU t k = facT (sumU t k)
  | 0, _ => rfl
  | k + 1, h => by
    have e : sumU t (k + 1) = sumU t k + t k := rfl
    have h1 := rowU_fac t k (by omega)
    have h2 := chF_fac (sumU t (k + 1)) h (t k) (by omega)
    rw [show sumU t (k + 1) - t k = sumU t k by omega] at h2
    show rowU t k * chF (sumU t (k + 1)) (t k) * (denU t k * facT (t k)) = _
    rw [← h2, ← h1]
    generalize chF (sumU t (k + 1)) (t k) = x
    generalize facT (t k) = y
    rw [Nat.mul_assoc, Nat.mul_comm (rowU t k), ← Nat.mul_assoc x, Nat.mul_comm x, Nat.mul_assoc, Nat.mul_assoc, Nat.mul_assoc]
    rw [Nat.mul_comm (denU t k) (x * (y * rowU t k))]
    simp only [Nat.mul_comm, Nat.mul_left_comm]
theorem facT_mono : ∀ {a b : Nat}, a ≤ b → facT a ≤ facT b
  | a, 0, h => by rw [Nat.le_zero.1 h]; exact Nat.le_refl _
  | a, b + 1, h => by
    rcases Nat.lt_or_ge a (b + 1) with h1 | h1
    · exact Nat.le_trans (facT_mono (show a ≤ b by omega)) (Nat.le_mul_of_pos_right _ (Nat.succ_pos _))
    · rw [show a = b + 1 by omega]; exact Nat.le_refl _
theorem facT_20 : facT 20 = 2432902008176640000 := by decide +kernel
theorem rowU_le (t : Nat → Nat) {k : Nat} (h : sumU t k < 21) : rowU t k ≤ 2432902008176640000 := by
  have h1 := rowU_fac t k h
  have h2 := facT_mono (show sumU t k ≤ 20 by omega)
  rw [facT_20, ← h1] at h2
  exact Nat.le_trans (Nat.le_mul_of_pos_right _ (denU_pos t k)) h2
theorem chF_pos : ∀ n, n < 21 → ∀ k, k < n + 1 → 0 < chF n k := by decide +kernel
theorem rowU_pos (t : Nat → Nat) : ∀ k, sumU t k < 21 → 0 < rowU t k
  | 0, _ => Nat.one_pos
  | k + 1, h => by
    have e : sumU t (k + 1) = sumU t k + t k := rfl
    exact Nat.mul_pos (rowU_pos t k (by omega)) (chF_pos _ h _ (by omega))
end Go.Proofs.YthknaphclijncaaDoor

/- The two bounds of a type's class. -/
namespace Go.Proofs.YthknaphclijncaaDoor

/-- A type's own product. -/
def ownU (t : Nat → Nat) : Nat → Nat
  | 0 => 1
  | i + 1 => ownU t i * t i ^ t i
theorem two_below : ∀ n, n < 21 → ∀ a, a < n + 1 → chF n a * (a ^ a * (n - a) ^ (n - a)) ≤ n ^ n := by decide +kernel
theorem two_above : ∀ n, n < 21 → ∀ a, a < n + 1 → n ^ n ≤ (n + 1) * (chF n a * (a ^ a * (n - a) ^ (n - a))) := by decide +kernel
/-- The class of a type is no greater than its entropy says. -/
theorem class_below (t : Nat → Nat) : ∀ k, sumU t k < 21 → rowU t k * ownU t k ≤ sumU t k ^ sumU t k
  | 0, _ => by simp [rowU, ownU, sumU]
  | k + 1, h => by
    have hs : sumU t (k + 1) = sumU t k + t k := rfl
    have h0 : sumU t k < 21 := by omega
    have ih := class_below t k h0
    have h2 := two_below (sumU t (k + 1)) h (t k) (by omega)
    rw [show sumU t (k + 1) - t k = sumU t k by omega] at h2
    have e : rowU t (k + 1) * ownU t (k + 1) = chF (sumU t (k + 1)) (t k) * (t k ^ t k * (rowU t k * ownU t k)) := by
      show (rowU t k * chF (sumU t (k + 1)) (t k)) * (ownU t k * t k ^ t k) = _
      ac_rfl
    rw [e]
    exact Nat.le_trans (Nat.mul_le_mul_left _ (Nat.mul_le_mul_left _ ih)) h2
/-- And no less than it says, over (n + 1) to the power of k. -/
theorem class_above (t : Nat → Nat) : ∀ k, sumU t k < 21 → sumU t k ^ sumU t k ≤ rowU t k * ownU t k * (sumU t k + 1) ^ k
  | 0, _ => by simp [rowU, ownU, sumU]
  | k + 1, h => by
    have hs : sumU t (k + 1) = sumU t k + t k := rfl
    have h0 : sumU t k < 21 := by omega
    have ih := class_above t k h0
    have h2 := two_above (sumU t (k + 1)) h (t k) (by omega)
    rw [show sumU t (k + 1) - t k = sumU t k by omega] at h2
    have hp : (sumU t k + 1) ^ k ≤ (sumU t (k + 1) + 1) ^ k := Nat.pow_le_pow_left (by omega) k
    have ih2 := Nat.le_trans ih (Nat.mul_le_mul_left _ hp)
    have e : rowU t (k + 1) * ownU t (k + 1) * (sumU t (k + 1) + 1) ^ (k + 1) = (sumU t (k + 1) + 1) * (chF (sumU t (k + 1)) (t k) * (t k ^ t k * (rowU t k * ownU t k * (sumU t (k + 1) + 1) ^ k))) := by
      rw [Nat.pow_succ]
      show (rowU t k * chF (sumU t (k + 1)) (t k)) * (ownU t k * t k ^ t k) * _ = _
      ac_rfl
    rw [e]
    exact Nat.le_trans h2 (Nat.mul_le_mul_left _ (Nat.mul_le_mul_left _ (Nat.mul_le_mul_left _ ih2)))
end Go.Proofs.YthknaphclijncaaDoor

/- The sides of the two bounds. -/
namespace Go.Proofs.YthknaphclijncaaDoor

/-- What a sum of entropies says of a prime. -/
theorem ent_mult {q : Nat} (hq : Pr q) {z : Nat → Int} {t : Nat → Nat} {N : Nat} : ∀ {n : Nat}, (∀ i, i < n → z i = (t i : Int)) →
    sumN (entV z N (q : Int)) n = (sumU t n : Int) * (mult q N : Int) - (mult q (ownU t n) : Int) ∧ 0 < ownU t n
  | 0, _ => by simp only [sumN, sumU, ownU]; rw [mult_one hq.1]; exact ⟨by simp, Nat.one_pos⟩
  | n + 1, h => by
    obtain ⟨ih, ip⟩ := ent_mult hq (N := N) (n := n) (fun i hi => h i (by omega))
    have e : ∀ m, multI (q : Int) m = (mult q m : Int) := fun m => by rw [multI_pr (by simpa using hq)]; simp
    have h3 : mult q (t n ^ t n) = t n * mult q (t n) ∧ 0 < t n ^ t n := by
      rcases Nat.eq_zero_or_pos (t n) with h0 | h0
      · rw [h0, Nat.pow_zero, Nat.zero_mul]
        exact ⟨mult_one hq.1, by omega⟩
      · exact ⟨mult_power hq h0 _, Nat.pow_pos h0⟩
    simp only [sumN, sumU, ownU]
    refine ⟨?_, Nat.mul_pos ip h3.2⟩
    rw [ih, mult_mul hq _ _ ip h3.2, h3.1]
    unfold entV
    rw [h n (by omega)]
    simp only [Int.toNat_natCast, e]
    simp only [Int.natCast_add, Int.natCast_mul]
    grind
theorem ent_sides {z : Nat → Int} {t : Nat → Nat} {n : Nat} (h : ∀ i, i < n → z i = (t i : Int)) (hN : 0 < sumU t n) (q : Nat) (hq : Pr q) :
    sumN (entV z (sumU t n) (q : Int)) n = (mult q (sumU t n ^ sumU t n) : Int) - (mult q (ownU t n) : Int) := by
  rw [(ent_mult hq h).1, mult_power hq hN]
  simp
theorem ownU_pos (t : Nat → Nat) : ∀ n, 0 < ownU t n
  | 0 => Nat.one_pos
  | n + 1 => by
    refine Nat.mul_pos (ownU_pos t n) ?_
    rcases Nat.eq_zero_or_pos (t n) with h0 | h0
    · rw [h0]; decide
    · exact Nat.pow_pos h0
/-- The entropy against the class's size. -/
theorem below_sides {z : Nat → Int} {t : Nat → Nat} {n : Nat} (h : ∀ i, i < n → z i = (t i : Int)) (hN : 0 < sumU t n) {m : Nat} (hm : 0 < m) (q : Nat) (hq : Pr q) :
    sumN (entV z (sumU t n) (q : Int)) n + -multI (q : Int) m = (mult q (sumU t n ^ sumU t n) : Int) - (mult q (m * ownU t n) : Int) := by
  rw [ent_sides h hN q hq, mult_mul hq _ _ hm (ownU_pos t n), multI_pr (by simpa using hq)]
  simp only [Int.toNat_natCast, Int.natCast_add]
  omega
/-- The class's size, with what the types' number gives, against the entropy. -/
theorem above_sides {z : Nat → Int} {t : Nat → Nat} {n : Nat} (h : ∀ i, i < n → z i = (t i : Int)) (hN : 0 < sumU t n) {m : Nat} (hm : 0 < m) (q : Nat) (hq : Pr q) :
    (multI (q : Int) m + (n : Int) * multI (q : Int) (sumU t n + 1)) + -sumN (entV z (sumU t n) (q : Int)) n = (mult q (m * ownU t n * (sumU t n + 1) ^ n) : Int) - (mult q (sumU t n ^ sumU t n) : Int) := by
  rw [ent_sides h hN q hq, mult_mul hq _ _ (Nat.mul_pos hm (ownU_pos t n)) (Nat.pow_pos (Nat.succ_pos _)), mult_mul hq _ _ hm (ownU_pos t n), mult_power hq (show 0 < sumU t n + 1 from Nat.succ_pos _), multI_pr (by simpa using hq), multI_pr (by simpa using hq)]
  simp only [Int.toNat_natCast, Int.natCast_add, Int.natCast_mul]
  omega
/-- No prime above the sum is in it. -/
theorem ent_high {z : Nat → Int} {N : Nat} {x : Int} : ∀ {n : Nat}, (∀ i, i < n → 0 ≤ z i ∧ z i ≤ 20) → N ≤ 20 → 0 < N → 20 < x → sumN (entV z N x) n = 0
  | 0, _, _, _, _ => rfl
  | n + 1, h, hN, h0, hx => by
    have ih := ent_high (n := n) (fun i hi => h i (by omega)) hN h0 hx
    have e : ∀ m : Nat, 0 < m → m ≤ 20 → multI x m = 0 := fun m hm h2 => Classical.byContradiction fun hc => by
      have := (multI_support hm hc).2.2
      omega
    have hz := h n (by omega)
    simp only [sumN]
    rw [ih]
    unfold entV
    rw [e N h0 hN]
    rcases Int.lt_or_le 0 (z n) with h1 | h1
    · rw [e (z n).toNat (by omega) (by omega)]; simp
    · rw [show z n = 0 by omega]; simp
end Go.Proofs.YthknaphclijncaaDoor

/- dist.Entropy at any weights. -/
namespace Go.Proofs.YthknaphclijncaaDoor
open Go.RowKit Go.Maps

theorem new_one {w w1 : World} {x : Value} {t : TypeId} (hb : Below (w.alloc (.cells #[x] t)).heap.size (w.alloc (.cells #[x] t)) w1) : w1.cell? ⟨w.heap.size, 0, none⟩ = some x := by
  have c0 : (w.alloc (.cells #[x] t)).cell? ⟨w.heap.size, 0, none⟩ = some x := by rw [World.cell?_alloc_at _ _ _ _ rfl]; rfl
  exact (cell_past c0 hb).2

set_option maxRecDepth 100000 in
theorem Entropy_parts (den : Int) (mb B b o cap n : Nat) (z : Nat → Int) (w : World) (hown : w.ownsMap Tryd.prog 3 (plainElem (H := Unit) Tryd.prog 3) mb 0 (mapOf [])) (hB : w.cell? ⟨B, 0, none⟩ = some (.slice (some ⟨b, o, none⟩) n cap)) (h : RowAt w b o n z) (hz : ∀ i, i < n → 0 ≤ z i) (hs : sumN z n ≤ 4096) (hn : n ≤ 256) :
    Calls Tryd.prog 30 #[putV den mb, .pointer (some ⟨B, 0, none⟩)] w fun e w' => e = .returned (.tuple #[]) ∧ ∃ l nn, Puts w w' mb (fun x => sumN (entV z (sumN z n).toNat x) n) (2 * n) [] 0 l nn := by
  have hp := putEntropy_some den mb 0 b o cap n z [] w hown List.Pairwise.nil (fun e he => by cases he) (fun x => by simp [atL]) (by omega) h hz hs hn
  clear hown h hz hs
  unfold putV at hp ⊢
  go_enter Tryd.func30, Tryd.ntmps30
  go_wp2_with fail
  refine hp.mono ?_
  clear hp
  rintro e w1 ⟨rfl, l, nn, hpt⟩
  have HP := Hid.mk' hpt
  clear hpt
  go_wp2_with fail
  go_end0
  exact ⟨rfl, l, nn, HP.out⟩

theorem ent_bound {z : Nat → Int} {n N : Nat} (hz : ∀ i, i < n → 0 ≤ z i ∧ z i ≤ 4096) (hN : N ≤ 4096) (hn : n ≤ 256) (x : Int) : -1000000000 ≤ sumN (entV z N x) n ∧ sumN (entV z N x) n ≤ 1000000000 := by
  have h3 := sumN_bound (f := entV z N x) (B := 200000) (n := n) (fun i hi => entV_le x (hz i hi) hN)
  have : (n : Int) * 200000 ≤ 51200000 := by omega
  omega

set_option maxRecDepth 100000 in
set_option maxHeartbeats 1000000 in
theorem Entropy_ok (a : Nat → Addr) (b o cap n N : Nat) (z : Nat → Int) (w : World) (hE : Errs w a) (h : RowAt w b o n z) (h0 : weightsErr z n = 0) (hN : sumN z n = N) (hz : ∀ i, i < n → 0 ≤ z i) (hn : n ≤ 16) (hN1 : 1 ≤ N) (hN6 : N ≤ 4096) (h0n : 0 < n) :
    Calls Tryd.prog 11 #[.slice (some ⟨b, o, none⟩) n cap] w fun e w' => ∃ dn v, e = .returned (.tuple #[.agg #[.int .i64 dn, v], .nilIface]) ∧ LogBy w.heap.size N (fun x => sumN (entV z N x) n) w' dn v ∧ Below w.heap.size w w' := by
  have hzi : ∀ i, i < n → 0 ≤ z i ∧ z i ≤ 4096 := fun i hi => ⟨hz i hi, by have := sumN_ge hz hi; omega⟩
  have hle : ∀ k, k ≤ n → 0 ≤ sumN z k ∧ sumN z k ≤ 4096 := fun k hk => ⟨sumN_nonneg (fun i hi => hz i (by omega)), by have := sumN_mono hz hk; omega⟩
  obtain ⟨W0, hW0⟩ : ∃ W0, W0 = (w.alloc (.cells #[.slice (some ⟨b, o, none⟩) n cap] 22)).alloc (.cells #[.int .i64 0, .slice none 0 0] 32) := ⟨_, rfl⟩
  have hb0 : Below w.heap.size w W0 := by rw [hW0]; exact below_chain (new_below _ _) (new_below _ _)
  have hbox : W0.cell? ⟨w.heap.size, 0, none⟩ = some (.slice (some ⟨b, o, none⟩) n cap) := by rw [hW0]; exact new_one (new_below _ _)
  have hres : ∀ W, Below W0.heap.size W0 W → W.cell? ⟨w.heap.size + 1, 0, none⟩ = some (.int .i64 0) ∧ W.cell? ⟨w.heap.size + 1, 1, none⟩ = some (.slice none 0 0) ∧ W.frozen? ⟨w.heap.size + 1, 0, none⟩ = false ∧ W.frozen? ⟨w.heap.size + 1, 1, none⟩ = false := fun W hb => by
    rw [hW0] at hb
    have := res_past hb
    simpa using this
  have hv := Valid_weights a (.slice (some ⟨b, o, none⟩) n cap) n z W0 (hE.below hb0) (Or.inr ⟨b, o, cap, rfl, h0n, h.later hb0⟩) (by omega)
  rw [h0] at hv
  have ht := total_some b o cap n z W0 (h.later hb0) (fun k hk => by have := hle k hk; omega) (fun i hi => by have := hzi i hi; omega) (by omega)
  rw [hN] at ht
  have hso := sumOver_any 30 #[.pointer (some ⟨w.heap.size, 0, none⟩)] N (2 * n) (fun x => sumN (entV z N x) n) W0 (enters_of Tryd.func30 (by kernel_rfl) rfl) hN1 hN6 (by omega) (fun x => ent_bound hzi hN6 (by omega) x)
    (fun W mb hb ho => by
      have := Entropy_parts N mb w.heap.size b o cap n z W ho (cell_past hbox hb).2 ((h.later hb0).later hb) hz (by omega) (by omega)
      rw [hN, Int.toNat_natCast] at this
      exact this)
  have HB0 := Hid.mk' hb0
  have HRES := Hid.mk' hres
  have HW0 := Hid.mk' hW0
  have hlt : w.heap.size + 1 < W0.heap.size := by rw [hW0]; simp
  have HLT := Hid.mk' hlt
  clear hE h hb0 hres hW0 hzi hle hz hN h0 hlt
  go_enter Tryd.func11, Tryd.ntmps11
  go_upto_region 1 with fail
  rw [← HW0.out]
  go_wp2_with fail
  refine hv.mono ?_
  clear hv
  rintro e w1 ⟨rfl, hw1⟩
  rw [hw1]
  clear hw1
  rw [errV_zero]
  go_wp2_with (first
    | (go_at_call 29; refine ht.mono ?_; rintro e w2 ⟨rfl, hw2⟩; rw [hw2]; clear hw2)
    | (go_at_call 28; refine hso.mono ?_; rintro e w3 ⟨dn, v, rfl, hlb, hb3⟩; obtain ⟨c0, c1, q0, q1⟩ := HRES.out w3 hb3; have HBW := Hid.mk' (below_chain HB0.out hb3); have HLB := Hid.mk' hlb; obtain ⟨ad, n', c', rfl⟩ := hlb.form; clear hlb))
  refine bodyPost_ret (v := .tuple #[.agg #[.int .i64 dn, .slice ad n' c'], .nilIface]) (by simp [results, Tryd.results11, go_sem, c0, c1]) rfl ⟨_, .slice ad n' c', rfl, (HLB.out.set HLT.out _ _).lower (by have := HLT.out; omega), ?_⟩
  exact (HBW.out.setCell (by simp) _).setCell (by simp) _

set_option maxRecDepth 100000 in
set_option maxHeartbeats 1000000 in
theorem Entropy_bad (a : Nat → Addr) (v : Value) (n : Nat) (z : Nat → Int) (w : World) (hE : Errs w a) (h : NumsAt w v n z) (hn : n ≤ 400) (h0 : weightsErr z n ≠ 0) :
    Calls Tryd.prog 11 #[v] w fun e w' => e = .returned (.tuple #[.agg #[.int .i64 0, .slice none 0 0], errV a (weightsErr z n)]) ∧ Below w.heap.size w w' := by
  obtain ⟨ad, cap, rfl⟩ := h.form
  obtain ⟨W0, hW0⟩ : ∃ W0, W0 = (w.alloc (.cells #[.slice ad n cap] 22)).alloc (.cells #[.int .i64 0, .slice none 0 0] 32) := ⟨_, rfl⟩
  have hb0 : Below w.heap.size w W0 := by rw [hW0]; exact below_chain (new_below _ _) (new_below _ _)
  have hbox : W0.cell? ⟨w.heap.size, 0, none⟩ = some (.slice ad n cap) := by rw [hW0]; exact new_one (new_below _ _)
  have hres : W0.cell? ⟨w.heap.size + 1, 0, none⟩ = some (.int .i64 0) ∧ W0.cell? ⟨w.heap.size + 1, 1, none⟩ = some (.slice none 0 0) ∧ W0.frozen? ⟨w.heap.size + 1, 0, none⟩ = false ∧ W0.frozen? ⟨w.heap.size + 1, 1, none⟩ = false := by
    rw [hW0]
    simp
  have hv := Valid_weights a (.slice ad n cap) n z W0 (hE.below hb0) (h.later hb0) (by omega)
  rw [errV_pos a h0] at hv ⊢
  generalize a (weightsErr z n - 1) = ea at hv ⊢
  obtain ⟨c0, c1, q0, q1⟩ := hres
  have HB0 := Hid.mk' hb0
  have HW0 := Hid.mk' hW0
  clear hE h hb0 hW0 h0
  go_enter Tryd.func11, Tryd.ntmps11
  go_upto_region 1 with fail
  rw [← HW0.out]
  go_wp2_with (go_at_call 27; refine hv.mono ?_; rintro e w1 ⟨rfl, hw1⟩; rw [hw1]; clear hw1)
  refine bodyPost_ret (v := .tuple #[.agg #[.int .i64 0, .slice none 0 0], .iface 199 (.pointer (some ea))]) (by simp [results, Tryd.results11, go_sem, c0, c1]) rfl ⟨rfl, ?_⟩
  exact (HB0.out.setCell (by simp) _).setCell (by simp) _
end Go.Proofs.YthknaphclijncaaDoor

/- The law's copies of lists. -/
namespace Go.Proofs.YthknaphclijncaaDoor
open Go.RowKit

theorem append_zeroI (w : World) (ty : TypeId) (ad : Option Addr) (cap : Nat) : (Builtin.append_ #[22, 22] ty #[.slice none 0 0, .slice ad 0 cap]).run Tryd.prog w = .ok (.slice none 0 0) w := by
  obtain ⟨i, hi, hi2⟩ := Option.map_eq_some_iff.1 Tryd.infoInt
  refine run_append_nothing w _ _ ty 3 i Tryd.underlying22 hi none 0 0 (Nat.le_refl _) _ ?_
  cases ad with
  | none => exact Src.ofNil w Tryd.underlying22 cap
  | some a => exact Src.ofSlice w Tryd.underlying22 a 0 cap [] (by simp) (fun j u h => by simp at h) (fun u h => by simp at h)
theorem wpList_append_zeroI {w : World} {ops : Array Oper} {rest : List Oper} {o : Oper} {a : Act} {Q : Exit → Act → World → Prop} (hgd : o.guard = none) (s x : Operand)
    (ho : o.op = .call { callee := .builtin .append, args := #[s, x], argTypes := #[22, 22] })
    (ad : Option Addr) (cap : Nat) (hs : a.eval s = .slice none 0 0) (hx : a.eval x = .slice ad 0 cap)
    (h : wpList Tryd.prog ops Q rest (a.put o.dst (.slice none 0 0)) w) : wpList Tryd.prog ops Q (o :: rest) a w := by
  refine wpList_plain hgd fun K hK => ?_
  have hrun := append_zeroI w o.type ad cap
  unfold Oper.wp
  simp [execOp, ho, resolve, invoke, builtin, hs, hx, hrun, Result.andThen]
  exact hK _ _ h

theorem numsAt_own {w : World} {base : Nat} {v : Value} {n : Nat} {z : Nat → Int} (h : w.ownsRow base 3 1 v n (numCells z n)) : NumsAt w v n z := by
  rcases h.2 with ⟨hv, h0⟩ | ⟨g, cap, cur, hv, _⟩
  · exact Or.inl ⟨none, 0, hv, h0⟩
  · rcases Nat.eq_zero_or_pos n with h0 | h0
    · exact Or.inl ⟨_, _, by rw [hv, h0], h0⟩
    · subst hv
      exact Or.inr ⟨g, 0, cap, rfl, h0, rowAt_of_row h⟩
set_option maxRecDepth 100000 in
set_option maxHeartbeats 1000000 in
theorem ints_row (v : Value) (n : Nat) (z : Nat → Int) (w : World) (h : NumsAt w v n z) (hn : n ≤ 100000) :
    Calls Tryd.prog 10 #[v] w fun e w' => ∃ v', e = .returned v' ∧ w'.ownsRow w.heap.size 3 1 v' n (numCells z n) ∧ Below w.heap.size w w' := by
  rcases h with ⟨ad, cap, rfl, rfl⟩ | ⟨b, o, cap, rfl, h0, hr⟩
  · go_enter Tryd.func10, Tryd.ntmps10
    go_wp2_with (at_builtin; go_must (refine wpList_append_zeroI rfl _ _ rfl ad cap rfl rfl ?_))
    go_ret
    exact ⟨_, rfl, ⟨rfl, Or.inl ⟨rfl, rfl⟩⟩, Below.refl _ _⟩
  · obtain ⟨i, hi, hi2⟩ := Option.map_eq_some_iff.1 Tryd.infoInt
    obtain ⟨hz, hsz, hby⟩ : i.zero = some (.int .i64 0) ∧ i.size = 1 ∧ i.bytes = 8 := by simpa using hi2
    have HR := Hid.mk' hr
    have HI : Hid (Tryd.prog.info? 3 = some i) := hi
    have HZ : Hid (i.zero = some (.int .i64 0)) := hz
    have HS : Hid (i.size = 1) := hsz
    have HY : Hid (i.bytes = 8) := hby
    have HC : Hid (∀ u, u ∈ numCells z n → u.oneCell' = true) := fun u hu => by obtain ⟨x, rfl⟩ := numCells_ints z n u hu; rfl
    have HL : Hid ((numCells z n).length = n * 1) := by show _ = _; rw [numCells_length, Nat.mul_one]
    clear hr hi2 hi hz hsz hby
    go_enter Tryd.func10, Tryd.ntmps10
    go_wp2_with (at_builtin; go_must (refine wpList_append_lies _ rfl _ _ _ rfl w.heap.size 3 i _ 1 8 Tryd.underlying22 HI.out HZ.out HS.out HY.out rfl (by omega) (.slice none 0 0) 0 [] rfl ⟨rfl, Or.inl ⟨rfl, rfl⟩⟩ ⟨b, o, none⟩ n cap (numCells z n) rfl HL.out (fun j u hu => numCells_news HR.out j u hu) HC.out h0 (by unfold maxLen; omega) (by omega) (by simp) _ rfl ?_; intro g cap' w1 hown hgrow hat hlt; have HOWN := Hid.mk' hown; have HG := Hid.mk' hgrow; clear hown hgrow hat))
    go_ret
    exact ⟨_, rfl, by simpa using HOWN.out, (Below.refl _ _).grown HG.out (Nat.le_refl _) (fun k hk => by cases hk)⟩
theorem ints_any (v : Value) (n : Nat) (z : Nat → Int) (w : World) (h : NumsAt w v n z) (hn : n ≤ 100000) :
    Calls Tryd.prog 10 #[v] w fun e w' => ∃ v', e = .returned v' ∧ NumsAt w' v' n z ∧ Below w.heap.size w w' := by
  refine (ints_row v n z w h hn).mono ?_
  rintro e w' ⟨v', rfl, h1, h2⟩
  exact ⟨v', rfl, numsAt_own h1, h2⟩
end Go.Proofs.YthknaphclijncaaDoor

/- Nothing of slices.Grow is laid here. -/

/- Tables in memory; all of a table's weights as one list. -/
namespace Go.Proofs.YthknaphclijncaaDoor
open Go.RowKit

def TabAt (w : World) (v : Value) (R : Nat) (vs : Nat → Value) (ns : Nat → Nat) (zs : Nat → Nat → Int) : Prop := (∃ ad cap, v = .slice ad 0 cap ∧ R = 0) ∨ ∃ b o cap, v = .slice (some ⟨b, o, none⟩) R cap ∧ 0 < R ∧ ∀ i, i < R → w.cell? ⟨b, o + i, none⟩ = some (vs i) ∧ NumsAt w (vs i) (ns i) (zs i)
theorem TabAt.later {w w' : World} {v : Value} {R : Nat} {vs : Nat → Value} {ns : Nat → Nat} {zs : Nat → Nat → Int} (h : TabAt w v R vs ns zs) (hb : Below w.heap.size w w') : TabAt w' v R vs ns zs := by
  rcases h with h | ⟨b, o, cap, hv, hn, hr⟩
  · exact Or.inl h
  · exact Or.inr ⟨b, o, cap, hv, hn, fun i hi => ⟨by rw [hb.cell (cell_lt (hr i hi).1)]; exact (hr i hi).1, (hr i hi).2.later hb⟩⟩
theorem TabAt.form {w : World} {v : Value} {R : Nat} {vs : Nat → Value} {ns : Nat → Nat} {zs : Nat → Nat → Int} (h : TabAt w v R vs ns zs) : ∃ ad cap, v = .slice ad R cap := by
  rcases h with ⟨ad, cap, rfl, rfl⟩ | ⟨b, o, cap, rfl, _⟩
  · exact ⟨_, _, rfl⟩
  · exact ⟨_, _, rfl⟩
def rowL (z : Nat → Int) (n : Nat) : List Int := (List.range n).map z
/-- All weights of the first k rows. -/
def flatL (ns : Nat → Nat) (zs : Nat → Nat → Int) : Nat → List Int
  | 0 => []
  | k + 1 => flatL ns zs k ++ rowL (zs k) (ns k)
def cellL (l : List Int) : List Value := l.map fun x => .int .i64 x
theorem cellL_length (l : List Int) : (cellL l).length = l.length := by simp [cellL]
theorem cellL_append (l r : List Int) : cellL (l ++ r) = cellL l ++ cellL r := by simp [cellL]
theorem rowL_length (z : Nat → Int) (n : Nat) : (rowL z n).length = n := by simp [rowL]
theorem cellL_row (z : Nat → Int) : ∀ n, cellL (rowL z n) = numCells z n
  | 0 => rfl
  | n + 1 => by
    have ih := cellL_row z n
    unfold cellL rowL at ih ⊢
    rw [List.range_succ, List.map_append, List.map_append, ih]
    rfl
def sumT (ns : Nat → Nat) : Nat → Nat
  | 0 => 0
  | k + 1 => sumT ns k + ns k
theorem flatL_length (ns : Nat → Nat) (zs : Nat → Nat → Int) : ∀ k, (flatL ns zs k).length = sumT ns k
  | 0 => rfl
  | k + 1 => by
    show (flatL ns zs k ++ rowL (zs k) (ns k)).length = sumT ns k + ns k
    rw [List.length_append, flatL_length ns zs k, rowL_length]
theorem sumT_mono (ns : Nat → Nat) {k n : Nat} (h : k ≤ n) : sumT ns k ≤ sumT ns n := by
  induction n with
  | zero => obtain rfl : k = 0 := by omega
            exact Nat.le_refl _
  | succ n ih =>
    rcases Nat.lt_or_ge k (n + 1) with h' | h'
    · have := ih (by omega); show sumT ns k ≤ sumT ns n + ns n; omega
    · obtain rfl : k = n + 1 := by omega
      exact Nat.le_refl _
/-- A list as a row of numbers. -/
def atF (l : List Int) (i : Nat) : Int := l.getD i 0
theorem numCells_list : ∀ l : List Int, numCells (atF l) l.length = cellL l := fun l => by
  rw [← cellL_row]
  congr 1
  refine List.ext_getElem (by simp [rowL]) (fun i h1 h2 => ?_)
  simp [rowL, atF, List.getD, List.getElem?_eq_getElem h2]
theorem numsAt_row {w : World} {base : Nat} {v : Value} {l : List Int} (h : w.ownsRow base 3 1 v l.length (cellL l)) : NumsAt w v l.length (atF l) := by
  rcases h.2 with ⟨hv, h0⟩ | ⟨g, cap, cur, hv, _⟩
  · exact Or.inl ⟨none, 0, hv, h0⟩
  · rcases Nat.eq_zero_or_pos l.length with h0 | h0
    · exact Or.inl ⟨_, _, by rw [hv, h0], h0⟩
    · refine Or.inr ⟨g, 0, cap, hv, h0, ?_⟩
      subst hv
      rw [← numCells_list] at h
      exact rowAt_of_row h

theorem append_nothing (w : World) (ty : TypeId) (ao : Option Addr) (l c : Nat) (hl : l ≤ c) (ad : Option Addr) (cap : Nat) : (Builtin.append_ #[22, 22] ty #[.slice ao l c, .slice ad 0 cap]).run Tryd.prog w = .ok (.slice ao l c) w := by
  obtain ⟨i, hi, hi2⟩ := Option.map_eq_some_iff.1 Tryd.infoInt
  refine run_append_nothing w _ _ ty 3 i Tryd.underlying22 hi ao l c hl _ ?_
  cases ad with
  | none => exact Src.ofNil w Tryd.underlying22 cap
  | some a => exact Src.ofSlice w Tryd.underlying22 a 0 cap [] (by simp) (fun j u h => by simp at h) (fun u h => by simp at h)
theorem wpList_append_nothing {w : World} {ops : Array Oper} {rest : List Oper} {o : Oper} {a : Act} {Q : Exit → Act → World → Prop} (hgd : o.guard = none) (s x : Operand)
    (ho : o.op = .call { callee := .builtin .append, args := #[s, x], argTypes := #[22, 22] })
    (ao : Option Addr) (l c : Nat) (hl : l ≤ c) (ad : Option Addr) (cap : Nat) (hs : a.eval s = .slice ao l c) (hx : a.eval x = .slice ad 0 cap)
    (h : wpList Tryd.prog ops Q rest (a.put o.dst (.slice ao l c)) w) : wpList Tryd.prog ops Q (o :: rest) a w := by
  refine wpList_plain hgd fun K hK => ?_
  have hrun := append_nothing w o.type ao l c hl ad cap
  unfold Oper.wp
  simp [execOp, ho, resolve, invoke, builtin, hs, hx, hrun, Result.andThen]
  exact hK _ _ h
theorem row_shape {w : World} {base : Nat} {t : TypeId} {v : Value} {n : Nat} {xs : List Value} (h : w.ownsRow base t 1 v n xs) : ∃ ao c, v = .slice ao n c ∧ n ≤ c := by
  rcases h.2 with ⟨rfl, rfl⟩ | ⟨g, cap, cur, rfl, _, _, hc, _⟩
  · exact ⟨none, 0, rfl, Nat.le_refl _⟩
  · exact ⟨_, _, rfl, hc⟩
theorem below_grow {w wr w3 : World} {v : Value} {e : TypeId} {size n : Nat} {xs : List Value} (hB : Below w.heap.size w wr) (hR : wr.ownsRow w.heap.size e size v n xs) (hg : wr.grownBy w3 v.ownBlock) : Below w.heap.size w w3 :=
  hB.grown hg hB.size (fun k e => (hR.lt k e).1)

set_option maxRecDepth 100000 in
set_option maxHeartbeats 2000000 in
theorem Flat_any (v : Value) (R : Nat) (vs : Nat → Value) (ns : Nat → Nat) (zs : Nat → Nat → Int) (w : World) (h : TabAt w v R vs ns zs) (hR : R ≤ 1000) (hs : sumT ns R ≤ 2000000) :
    Calls Tryd.prog 16 #[v] w fun e w' => ∃ v', e = .returned v' ∧ w'.ownsRow w.heap.size 3 1 v' (flatL ns zs R).length (cellL (flatL ns zs R)) ∧ Below w.heap.size w w' := by
  rcases h with ⟨ad, cap, rfl, rfl⟩ | ⟨b, o, cap, rfl, h0, hr⟩
  · go_enter Tryd.func16, Tryd.ntmps16
    go_wp2_with fail
    refine wp_loop_rounds 1 ?_
    rw [rounds_succ]
    go_wp2_with fail
    go_ret
    exact ⟨_, rfl, ⟨rfl, Or.inl ⟨rfl, rfl⟩⟩, Below.refl _ _⟩
  · obtain ⟨i0, hi, hz0, hz1, hz2⟩ := info_parts Tryd.infoInt
    have HINF : Hid (Tryd.prog.info? 3 = some i0 ∧ i0.zero = some (.int .i64 0) ∧ i0.size = 1 ∧ i0.bytes = 8) := ⟨hi, hz0, hz1, hz2⟩
    have HR := Hid.mk' hr
    clear hi hz0 hz1 hz2 hr
    go_enter Tryd.func16, Tryd.ntmps16
    go_wp2_with fail
    go_loopw [3, 4] (fun u i wr => ∃ k : Nat, k ≤ R ∧ i = .int .i64 k ∧ Hid (wr.ownsRow w.heap.size 3 1 u (flatL ns zs k).length (cellL (flatL ns zs k))) ∧ Hid (Below w.heap.size w wr)) (fun _ i _ => R - (intOf i).toNat)
    case atStart => exact ⟨0, Nat.zero_le _, rfl, ⟨rfl, Or.inl ⟨rfl, rfl⟩⟩, Below.refl _ _⟩
    case round =>
      obtain ⟨k, hk, rfl, HO, HB⟩ := hrel
      rcases Nat.lt_or_ge k R with h1 | h1
      · have hc := (HR.out k h1).1
        have hc' : wr.cell? ⟨b, o + k, none⟩ = some (vs k) := by rw [HB.out.cell (cell_lt hc)]; exact hc
        have hkn : (k : Int) < (R : Int) := by omega
        have hm1 := sumT_mono ns (Nat.le_of_lt h1)
        have hm2 : sumT ns k + ns k ≤ sumT ns R := sumT_mono ns h1
        have hfb : (flatL ns zs k).length ≤ 2000000 ∧ (flatL ns zs k).length + ns k ≤ 2000000 := by rw [flatL_length]; omega
        clear hm1 hm2
        rcases (HR.out k h1).2.later HB.out with ⟨ad1, cap1, hv1, hn1⟩ | ⟨b1, o1, cap1, hv1, hn1, hr1⟩
        · rw [hv1] at hc'
          obtain ⟨ao, cc, hu, hlc⟩ := row_shape HO.out
          have HU := Hid.mk' hu
          rw [hu] at HO ⊢
          have HE : Hid (flatL ns zs (k + 1) = flatL ns zs k) := by show flatL ns zs k ++ rowL (zs k) (ns k) = _; rw [hn1]; simp [rowL]
          clear hc hu
          go_wp2_with (at_builtin; go_must (refine wpList_append_nothing rfl _ _ rfl ao _ cc hlc ad1 cap1 rfl rfl ?_))
          exact ⟨⟨k + 1, h1, by go_num, by rw [HE.out]; exact HO, HB⟩, by simp [intOf]; omega⟩
        · rw [hv1] at hc'
          have HR1 := Hid.mk' hr1
          have HC : Hid (∀ u, u ∈ numCells (zs k) (ns k) → u.oneCell' = true) := fun u hu => by obtain ⟨x, rfl⟩ := numCells_ints (zs k) (ns k) u hu; rfl
          have HL : Hid ((numCells (zs k) (ns k)).length = ns k * 1) := by show _ = _; rw [numCells_length, Nat.mul_one]
          have HE : Hid (cellL (flatL ns zs (k + 1)) = cellL (flatL ns zs k) ++ numCells (zs k) (ns k) ∧ (flatL ns zs (k + 1)).length = (flatL ns zs k).length + ns k) := by
            refine ⟨?_, ?_⟩
            · show cellL (flatL ns zs k ++ rowL (zs k) (ns k)) = _
              rw [cellL_append, cellL_row]
            · show (flatL ns zs k ++ rowL (zs k) (ns k)).length = _
              rw [List.length_append, rowL_length]
          have hzB := HB.out.size
          clear hc hr1
          go_wp2_with (at_builtin; go_must (refine wpList_append_lies _ rfl _ _ _ rfl w.heap.size 3 i0 _ 1 8 Tryd.underlying22 HINF.out.1 HINF.out.2.1 HINF.out.2.2.1 HINF.out.2.2.2 rfl (by omega) u3 _ _ rfl HO.out ⟨b1, o1, none⟩ (ns k) cap1 (numCells (zs k) (ns k)) rfl HL.out (fun j u hu => numCells_news HR1.out j u hu) HC.out hn1 (by unfold maxLen; omega) (by omega) (by omega) _ rfl ?_; intro g' cap2 w3 hown3 hgrow3 hat3 hlt3; have HO3 := Hid.mk' hown3; have HG3 := Hid.mk' hgrow3; clear hown3 hgrow3 hat3))
          refine ⟨⟨k + 1, h1, by go_num, ?_, below_grow HB.out HO.out HG3.out⟩, by simp [intOf]; omega⟩
          rw [HE.out.1, HE.out.2]
          exact HO3
      · obtain rfl : k = R := by omega
        go_wp2_with fail
        go_ret
        exact ⟨_, rfl, HO.out, HB.out⟩

/-- Is a row longer than 16? Is one not as long as the first? -/
def longB (ns : Nat → Nat) : Nat → Bool
  | 0 => false
  | k + 1 => longB ns k || decide (16 < ns k)
def unevenB (ns : Nat → Nat) : Nat → Bool
  | 0 => false
  | k + 1 => unevenB ns k || !decide (ns k = ns 0)
theorem longB_mono {ns : Nat → Nat} {k n : Nat} (hk : k < n) (h : 16 < ns k) : longB ns n = true := by
  induction n with
  | zero => omega
  | succ n ih =>
    show (longB ns n || decide (16 < ns n)) = true
    rcases Nat.lt_or_ge k n with h' | h'
    · rw [ih h']; rfl
    · obtain rfl : k = n := by omega
      rw [decide_eq_true h, Bool.or_true]
theorem unevenB_mono {ns : Nat → Nat} {k n : Nat} (hk : k < n) (h : ns k ≠ ns 0) : unevenB ns n = true := by
  induction n with
  | zero => omega
  | succ n ih =>
    show (unevenB ns n || !decide (ns n = ns 0)) = true
    rcases Nat.lt_or_ge k n with h' | h'
    · rw [ih h']; rfl
    · obtain rfl : k = n := by omega
      rw [decide_eq_false h]; simp
/-- The number of a table's error, as the document says it. -/
def tabErr (R : Nat) (ns : Nat → Nat) (zs : Nat → Nat → Int) : Nat := if 16 < R then 2 else if longB ns R = true then 2 else if unevenB ns R = true then 3 else listErr (atF (flatL ns zs R)) (flatL ns zs R).length
end Go.Proofs.YthknaphclijncaaDoor

/- The document's SameInts at equal ones. -/
namespace Go.Proofs.YthknaphclijncaaDoor
open Go.RowKit

set_option maxRecDepth 100000 in
set_option maxHeartbeats 1000000 in
theorem SameInts_any (v u : Value) (n : Nat) (z : Nat → Int) (w : World) (h : NumsAt w v n z) (k : NumsAt w u n z) (hn : n ≤ 1000000) :
    Calls Tryd.prog 54 #[v, u] w fun e w' => e = .returned (.bool true) ∧ Below w.heap.size w w' := by
  rcases h with ⟨ad, cap, rfl, rfl⟩ | ⟨b, o, cap, rfl, h0, hr⟩
  · obtain ⟨ad', cap', rfl⟩ := k.form
    clear k
    go_enter Tryd.func54, Tryd.ntmps54
    go_wp2_with fail
    refine wp_loop_rounds 1 ?_
    rw [rounds_succ]
    go_wp2_with fail
    go_ret
    exact ⟨rfl, Below.refl _ _⟩
  · rcases k with ⟨_, _, _, h1⟩ | ⟨b', o', cap', rfl, _, kr⟩
    · omega
    · have HR := Hid.mk' hr
      have HK := Hid.mk' kr
      clear hr kr
      go_enter Tryd.func54, Tryd.ntmps54
      go_wp2_with fail
      go_loopw [5] (fun i wr => ∃ k : Nat, k ≤ n ∧ i = .int .i64 k ∧ Hid (Below w.heap.size w wr)) (fun i _ => n - (intOf i).toNat)
      case atStart => exact ⟨0, Nat.zero_le _, rfl, Below.refl _ _⟩
      case round =>
        obtain ⟨k, hk, rfl, HB⟩ := hrel
        rcases Nat.lt_or_ge k n with h1 | h1
        · have hc := (HR.out.later HB.out) k h1
          have hd := (HK.out.later HB.out) k h1
          have hkn : (k : Int) < (n : Int) := by omega
          go_wp2_with fail
          go_region
          all_goals
            go_wp2_with fail
            exact ⟨⟨k + 1, h1, by go_num, HB.out.drew⟩, by simp [intOf]; omega⟩
        · obtain rfl : k = n := by omega
          go_wp2_with fail
          go_ret
          exact ⟨rfl, HB.out⟩
end Go.Proofs.YthknaphclijncaaDoor

/- Lists of lists of numbers in memory. -/
namespace Go.Proofs.YthknaphclijncaaDoor
open Go.RowKit

theorem Tryd.infoInts : (Tryd.prog.info? 22).map (fun i => (i.zero, i.size, i.bytes)) = some (some (.slice none 0 0), 1, 24) := by kernel_rfl
theorem own_past {w w' : World} {base : Nat} {t : TypeId} {sz : Nat} {v : Value} {n : Nat} {xs : List Value} (h : w.ownsRow base t sz v n xs) (hb : Below w.heap.size w w') : w'.ownsRow base t sz v n xs := by
  obtain ⟨hl, hr⟩ := h
  refine ⟨hl, ?_⟩
  rcases hr with hr | ⟨g, cap, cur, hv, hb1, hh, rest⟩
  · exact Or.inl hr
  · exact Or.inr ⟨g, cap, cur, hv, hb1, by rw [hb.block g (heap_lt hh)]; exact hh, rest⟩
/-- A row of another kind beside the one that is grown. -/
theorem own_beside {w w' : World} {b1 b2 : Nat} {t1 t2 : TypeId} {v u : Value} {n m s1 s2 : Nat} {xs ys : List Value} (h : w.ownsRow b1 t1 s1 v n xs) (k : w.ownsRow b2 t2 s2 u m ys) (ht : t1 ≠ t2) (hg : w.grownBy w' u.ownBlock) : w'.ownsRow b1 t1 s1 v n xs := by
  obtain ⟨hl, hr⟩ := h
  refine ⟨hl, ?_⟩
  rcases hr with hr | ⟨g, cap, cur, hv, hb1, hh, rest⟩
  · exact Or.inl hr
  · refine Or.inr ⟨g, cap, cur, hv, hb1, ?_, rest⟩
    rw [hg.block g (heap_lt hh) (fun e => ?_)]
    · exact hh
    · rcases k.2 with ⟨rfl, _⟩ | ⟨g', cap', cur', rfl, _, hh', _⟩
      · cases e
      · obtain rfl : g = g' := by simpa [Value.ownBlock] using e
        rw [hh] at hh'
        simp at hh'
        exact ht hh'.2
theorem own_put {w : World} {base : Nat} {t : TypeId} {sz : Nat} {v : Value} {n : Nat} {xs : List Value} (h : w.ownsRow base t sz v n xs) (a : Addr) (x : Value) (hne : v.ownBlock ≠ some a.block) : (w.setCell a x).ownsRow base t sz v n xs := by
  refine ⟨h.1, ?_⟩
  rcases h.2 with hn | ⟨g, cap, cur, hv, hg, hh, rest⟩
  · exact Or.inl hn
  · refine Or.inr ⟨g, cap, cur, hv, hg, ?_, rest⟩
    rw [Below.heap_setCell _ _ _ _ (fun e => hne (by rw [hv, ← e]; rfl))]
    exact hh

/-- A list of lists, to be read. -/
def LolAt (w : World) (v : Value) (L : List (List Int)) : Prop := ∃ ad cap, v = .slice ad L.length cap ∧ ∀ (i : Nat) (r : List Int), L[i]? = some r → ∃ b o u, ad = some ⟨b, o, none⟩ ∧ w.cell? ⟨b, o + i, none⟩ = some u ∧ NumsAt w u r.length (atF r)
theorem LolAt.later {w w' : World} {v : Value} {L : List (List Int)} (h : LolAt w v L) (hb : Below w.heap.size w w') : LolAt w' v L := by
  obtain ⟨ad, cap, rfl, h⟩ := h
  refine ⟨ad, cap, rfl, fun i r hr => ?_⟩
  obtain ⟨b, o, u, h1, h2, h3⟩ := h i r hr
  exact ⟨b, o, u, h1, by rw [hb.cell (cell_lt h2)]; exact h2, h3.later hb⟩
/-- One that is made: the list's own row, and that of each of its lists. -/
def LolOwn (Bo Br : Nat) (w : World) (v : Value) (L : List (List Int)) (vs : List Value) : Prop := w.ownsRow Bo 22 1 v L.length vs ∧ ∀ (i : Nat) (r : List Int), L[i]? = some r → ∃ u, vs[i]? = some u ∧ w.ownsRow Br 3 1 u r.length (cellL r)
theorem LolOwn.nil (Bo Br : Nat) (w : World) : LolOwn Bo Br w (.slice none 0 0) [] [] := ⟨⟨rfl, Or.inl ⟨rfl, rfl⟩⟩, fun i r h => by simp at h⟩
theorem LolOwn.later {Bo Br : Nat} {w w' : World} {v : Value} {L : List (List Int)} {vs : List Value} (h : LolOwn Bo Br w v L vs) (hb : Below w.heap.size w w') : LolOwn Bo Br w' v L vs :=
  ⟨own_past h.1 hb, fun i r hr => by obtain ⟨u, h1, h2⟩ := h.2 i r hr; exact ⟨u, h1, own_past h2 hb⟩⟩
theorem own_keep {w w' : World} {base : Nat} {t : TypeId} {sz : Nat} {v : Value} {n : Nat} {xs : List Value} (h : w.ownsRow base t sz v n xs) (hk : ∀ k, base ≤ k → k < w.heap.size → w'.heap[k]? = w.heap[k]?) : w'.ownsRow base t sz v n xs := by
  obtain ⟨hl, hr⟩ := h
  refine ⟨hl, ?_⟩
  rcases hr with hr | ⟨g, cap, cur, hv, hb1, hh, rest⟩
  · exact Or.inl hr
  · exact Or.inr ⟨g, cap, cur, hv, hb1, by rw [hk g hb1 (heap_lt hh)]; exact hh, rest⟩
theorem LolOwn.keep {B : Nat} {w w' : World} {v : Value} {L : List (List Int)} {vs : List Value} (h : LolOwn B B w v L vs) (hk : ∀ k, B ≤ k → k < w.heap.size → w'.heap[k]? = w.heap[k]?) : LolOwn B B w' v L vs :=
  ⟨own_keep h.1 hk, fun i r hr => by obtain ⟨u, h1, h2⟩ := h.2 i r hr; exact ⟨u, h1, own_keep h2 hk⟩⟩
theorem LolOwn.lol {Bo Br : Nat} {w : World} {v : Value} {L : List (List Int)} {vs : List Value} (h : LolOwn Bo Br w v L vs) : LolAt w v L := by
  obtain ⟨⟨hl, hr⟩, hv⟩ := h
  rcases hr with ⟨hv0, h0⟩ | ⟨g, cap, cur, hv0, _, hh, _, _, hs, ht⟩
  · rw [h0] at hl
    obtain rfl : L = [] := List.length_eq_zero_iff.1 h0
    exact ⟨none, 0, hv0, fun i r hr => by simp at hr⟩
  · refine ⟨_, cap, hv0, fun i r hr => ?_⟩
    obtain ⟨u, h1, h2⟩ := hv i r hr
    refine ⟨g, 0, u, rfl, ?_, numsAt_row h2⟩
    have hi : i < L.length := (List.getElem?_eq_some_iff.1 hr).1
    rw [← h1, ← ht, List.getElem?_take_of_lt (by omega), Nat.zero_add]
    simp [World.cell?, hh]
/-- Behind an append. -/
theorem LolOwn.push {Bo Br : Nat} {w w' : World} {v v' u : Value} {L : List (List Int)} {vs : List Value} {r : List Int} (h : LolOwn Bo Br w v L vs) (hr : w.ownsRow Br 3 1 u r.length (cellL r)) (hg : w.grownBy w' v.ownBlock) (ho : w'.ownsRow Bo 22 1 v' (L.length + 1) (vs ++ [u])) : LolOwn Bo Br w' v' (L ++ [r]) (vs ++ [u]) := by
  have hvl : vs.length = L.length := by have := h.1.1; simpa using this
  refine ⟨by rw [List.length_append]; exact ho, fun i q hq => ?_⟩
  rcases Nat.lt_or_ge i L.length with h1 | h1
  · rw [List.getElem?_append_left h1] at hq
    obtain ⟨x, h2, h3⟩ := h.2 i q hq
    exact ⟨x, by rw [List.getElem?_append_left (by omega)]; exact h2, own_beside h3 h.1 (by decide) hg⟩
  · rw [List.getElem?_append_right h1] at hq
    obtain ⟨rfl, h5⟩ : r = q ∧ i - L.length = 0 := by
      rcases hk : i - L.length with _ | k
      · rw [hk] at hq; exact ⟨by simpa using hq, rfl⟩
      · rw [hk] at hq; simp at hq
    exact ⟨u, by rw [List.getElem?_append_right (by omega), hvl, h5]; rfl, own_beside hr h.1 (by decide) hg⟩
theorem LolOwn.form {Bo Br : Nat} {w : World} {v : Value} {L : List (List Int)} {vs : List Value} (h : LolOwn Bo Br w v L vs) : ∃ ad cap, v = .slice ad L.length cap := by
  rcases h.1.2 with ⟨rfl, h0⟩ | ⟨g, cap, cur, rfl, _⟩
  · exact ⟨none, 0, by rw [h0]⟩
  · exact ⟨_, _, rfl⟩
theorem LolOwn.put {Bo Br : Nat} {w : World} {v : Value} {L : List (List Int)} {vs : List Value} (h : LolOwn Bo Br w v L vs) (a : Addr) (x : Value) (h1 : v.ownBlock ≠ some a.block) (h2 : a.block < Br) : LolOwn Bo Br (w.setCell a x) v L vs := by
  refine ⟨own_put h.1 a x h1, fun i r hr => ?_⟩
  obtain ⟨u, h3, h4⟩ := h.2 i r hr
  refine ⟨u, h3, own_put h4 a x (fun e => ?_)⟩
  rcases h4.2 with ⟨rfl, _⟩ | ⟨g, cap, cur, rfl, hge, _⟩
  · cases e
  · have : g = a.block := by simpa [Value.ownBlock] using e
    omega

theorem own_built {w : World} {base g : Nat} {t : TypeId} {cs : Array Value} (hg : base ≤ g) (hh : w.heap[g]? = some (.cells cs t)) (hc : cs.size ≤ 1000) : w.ownsRow base t 1 (.slice (some ⟨g, 0, none⟩) cs.size cs.size) cs.size cs.toList :=
  ⟨by simp, Or.inr ⟨g, cs.size, cs, rfl, hg, hh, Nat.le_refl _, by unfold maxLen; omega, by simp, by rw [Nat.mul_one, ← Array.length_toList, List.take_length]⟩⟩

set_option maxRecDepth 100000 in
set_option maxHeartbeats 1000000 in
theorem SameLists_any (v u : Value) (L : List (List Int)) (w : World) (h : LolAt w v L) (k : LolAt w u L) (hL : L.length ≤ 1000000) (hr : ∀ r, r ∈ L → r.length ≤ 1000) :
    Calls Tryd.prog 23 #[v, u] w fun e w' => e = .returned (.bool true) ∧ Below w.heap.size w w' := by
  have HA := Hid.mk' (fun (W : World) (hb : Below w.heap.size w W) => h.later hb)
  have HK := Hid.mk' (fun (W : World) (hb : Below w.heap.size w W) => k.later hb)
  have HR := Hid.mk' hr
  obtain ⟨ad, cap, rfl, -⟩ := h
  obtain ⟨ad', cap', rfl, -⟩ := k
  clear hr
  go_enter Tryd.func23, Tryd.ntmps23
  go_wp2_with fail
  go_loopw [5] (fun i wr => ∃ k : Nat, k ≤ L.length ∧ i = .int .i64 k ∧ Hid (Below w.heap.size w wr)) (fun i _ => L.length - (intOf i).toNat)
  case atStart => exact ⟨0, Nat.zero_le _, rfl, Below.refl _ _⟩
  case round =>
    obtain ⟨k, hk, rfl, HB⟩ := hrel
    rcases Nat.lt_or_ge k L.length with h1 | h1
    · have hkn : (k : Int) < (L.length : Int) := by omega
      have hk0 : (0 : Int) ≤ (k : Int) := by omega
      obtain ⟨_, _, e1, g1⟩ := HA.out _ HB.out
      obtain ⟨_, _, e2, g2⟩ := HK.out _ HB.out
      obtain ⟨rfl, rfl⟩ : ad = _ ∧ cap = _ := by simpa using e1
      obtain ⟨rfl, rfl⟩ : ad' = _ ∧ cap' = _ := by simpa using e2
      obtain ⟨b, o, x, rfl, c1, n1⟩ := g1 k _ (List.getElem?_eq_getElem h1)
      obtain ⟨b', o', x', rfl, c2, n2⟩ := g2 k _ (List.getElem?_eq_getElem h1)
      have HS := Hid.mk' (fun (W : World) (hb : Below wr.heap.size wr W) => SameInts_any x x' _ _ W (n1.later hb) (n2.later hb) (by have := HR.out _ (List.getElem_mem h1); omega))
      obtain ⟨a1, q1, hx1⟩ := n1.form
      obtain ⟨a2, q2, hx2⟩ := n2.form
      rw [hx1] at c1 HS
      rw [hx2] at c2 HS
      clear n1 n2 hx1 hx2 g1 g2 e1 e2
      generalize L[k].length = m at *
      have hcur0 : Below wr.heap.size wr wr := Below.refl _ _
      have hcur : Below wr.heap.size wr wr.drew := (Below.refl _ _).drew
      have HX : Hid (∀ W, Below wr.heap.size wr W → (W.cell? ⟨b, o + k, none⟩ = some (.slice a1 m q1) ∧ W.cell? ⟨b', o' + k, none⟩ = some (.slice a2 m q2))) := fun W hb => ⟨by rw [hb.cell (cell_lt c1)]; exact c1, by rw [hb.cell (cell_lt c2)]; exact c2⟩
      go_wp2_with fail
      go_region_held3 (fun W => W.cell? ⟨b, o + k, none⟩ = some (.slice a1 m q1) ∧ W.cell? ⟨b', o' + k, none⟩ = some (.slice a2 m q2))
        (first | exact HX.out _ hcur0 | exact HX.out _ hcur | exact HX.out _ hbw5)
        (first
          | (go_at_call 54; refine (HS.out _ hcur).mono ?_; rintro e w5 ⟨rfl, hb5⟩; have hbw5 := below_chain hcur hb5; clear hb5))
      all_goals
        go_wp2_with fail
        exact ⟨⟨k + 1, h1, by go_num, below_chain HB.out hbw5⟩, by simp [intOf]; omega⟩
    · obtain rfl : k = L.length := by omega
      go_wp2_with fail
      go_ret
      exact ⟨rfl, HB.out⟩
end Go.Proofs.YthknaphclijncaaDoor

/- The library contracts of slices.Clone, Min, Max and cmp.Compare laid at the numbers of this translation. -/
namespace Go.Proofs
open Go.Shelf
def Tryd.cloneA_ren : Go.Shelf.Ren := ⟨fun | 15 => 53 | n => n, fun | 22 => 22 | 3 => 3 | 4 => 4 | n => n, fun | n => n⟩
theorem Tryd.cloneA : Go.Proofs.Lays2.n15 Tryd.prog Tryd.cloneA_ren := {
  mixed := by kernel_rfl
  f15 := Tryd.func53.trans (congrArg some (by kernel_rfl))
  t3 := Tryd.underlying3
  a3 := Tryd.isAgg3
  z3 := Tryd.sizeOf3
  v3 := Tryd.zeroValue3
  t4 := Tryd.underlying4
  a4 := Tryd.isAgg4
  z4 := Tryd.sizeOf4
  v4 := Tryd.zeroValue4
  t22 := Tryd.underlying22
  a22 := Tryd.isAgg22
  z22 := Tryd.sizeOf22
  v22 := Tryd.zeroValue22
  i3 := by kernel_rfl }
def Tryd.maxA_ren : Go.Shelf.Ren := ⟨fun | 113 => 78 | n => n, fun | 28 => 22 | 3 => 3 | 4 => 4 | 9 => 9 | 20 => 20 | 0 => 0 | n => n, fun | n => n⟩
theorem Tryd.maxA : Go.Proofs.Lays.n113 Tryd.prog Tryd.maxA_ren := {
  mixed := by kernel_rfl
  f113 := Tryd.func78.trans (congrArg some (by kernel_rfl))
  t0 := Tryd.underlying0
  a0 := Tryd.isAgg0
  z0 := Tryd.sizeOf0
  v0 := Tryd.zeroValue0
  t3 := Tryd.underlying3
  a3 := Tryd.isAgg3
  z3 := Tryd.sizeOf3
  v3 := Tryd.zeroValue3
  t4 := Tryd.underlying4
  a4 := Tryd.isAgg4
  z4 := Tryd.sizeOf4
  v4 := Tryd.zeroValue4
  t9 := Tryd.underlying9
  a9 := Tryd.isAgg9
  z9 := Tryd.sizeOf9
  v9 := Tryd.zeroValue9
  t20 := Tryd.underlying20
  a20 := Tryd.isAgg20
  z20 := Tryd.sizeOf20
  v20 := Tryd.zeroValue20
  t28 := Tryd.underlying22
  a28 := Tryd.isAgg22
  z28 := Tryd.sizeOf22
  v28 := Tryd.zeroValue22 }
def Tryd.minA_ren : Go.Shelf.Ren := ⟨fun | 114 => 55 | n => n, fun | 28 => 22 | 3 => 3 | 4 => 4 | 9 => 9 | 20 => 20 | 0 => 0 | n => n, fun | n => n⟩
theorem Tryd.minA : Go.Proofs.Lays.n114 Tryd.prog Tryd.minA_ren := {
  mixed := by kernel_rfl
  f114 := Tryd.func55.trans (congrArg some (by kernel_rfl))
  t0 := Tryd.underlying0
  a0 := Tryd.isAgg0
  z0 := Tryd.sizeOf0
  v0 := Tryd.zeroValue0
  t3 := Tryd.underlying3
  a3 := Tryd.isAgg3
  z3 := Tryd.sizeOf3
  v3 := Tryd.zeroValue3
  t4 := Tryd.underlying4
  a4 := Tryd.isAgg4
  z4 := Tryd.sizeOf4
  v4 := Tryd.zeroValue4
  t9 := Tryd.underlying9
  a9 := Tryd.isAgg9
  z9 := Tryd.sizeOf9
  v9 := Tryd.zeroValue9
  t20 := Tryd.underlying20
  a20 := Tryd.isAgg20
  z20 := Tryd.sizeOf20
  v20 := Tryd.zeroValue20
  t28 := Tryd.underlying22
  a28 := Tryd.isAgg22
  z28 := Tryd.sizeOf22
  v28 := Tryd.zeroValue22 }
def Tryd.compareA_ren : Go.Shelf.Ren := ⟨fun | 122 => 85 | 215 => 110 | n => n, fun | 3 => 3 | 4 => 4 | n => n, fun | n => n⟩
theorem Tryd.compareA : Go.Proofs.Lays.n122 Tryd.prog Tryd.compareA_ren := {
  mixed := by kernel_rfl
  f122 := Tryd.func85.trans (congrArg some (by kernel_rfl))
  f215 := Tryd.func110.trans (congrArg some (by kernel_rfl))
  t3 := Tryd.underlying3
  a3 := Tryd.isAgg3
  z3 := Tryd.sizeOf3
  v3 := Tryd.zeroValue3
  t4 := Tryd.underlying4
  a4 := Tryd.isAgg4
  z4 := Tryd.sizeOf4
  v4 := Tryd.zeroValue4 }
end Go.Proofs

/- The program's types: how many, and all of them. -/
namespace Go.Proofs.YthknaphclijncaaDoor
open Go.RowKit

set_option maxRecDepth 100000 in
set_option maxHeartbeats 1000000 in
theorem choose_any (n k : Nat) (w : World) (hn : n < 26) (hk : k ≤ n) : Calls Tryd.prog 26 #[.int .i64 n, .int .i64 k] w fun e w' => e = .returned (.int .i64 (chF n k : Nat)) ∧ w' = w := by
  have HS := Hid.mk' (fun i (hi : i < 26) => chF_small n hn i hi)
  have hnI : (n : Int) < 26 := by omega
  go_enter Tryd.func26, Tryd.ntmps26
  go_wp2_with fail
  go_loop [5, 8] (fun s i => ∃ j : Nat, j ≤ k ∧ i = .int .i64 j ∧ s = .int .i64 (chF n j : Nat)) (fun _ i => k - (intOf i).toNat)
  case atStart => exact ⟨0, Nat.zero_le _, rfl, rfl⟩
  case round =>
    obtain ⟨j, hj, rfl, rfl⟩ := hrel
    have hj0 : (0 : Int) ≤ (j : Int) := by omega
    rcases Nat.lt_or_ge j k with h1 | h1
    · have hjk : (j : Int) < (k : Int) := by omega
      have hkn : (k : Int) ≤ (n : Int) := by omega
      have hs := HS.out j (by omega)
      have HE : Hid (chF n (j + 1) = chF n j * (n - j) / (j + 1)) := rfl
      obtain ⟨x, hx⟩ : ∃ x, x = chF n j := ⟨_, rfl⟩
      rw [← hx] at hs HE ⊢
      clear hx
      obtain ⟨d, hd⟩ : ∃ d, d = n - j := ⟨_, rfl⟩
      have hdI : (n : Int) - (j : Int) = (d : Int) := by omega
      rw [← hd] at HE
      obtain ⟨p, hp⟩ : ∃ p, p = x * d := ⟨_, rfl⟩
      have hpI : (x : Int) * (d : Int) = (p : Int) := by rw [hp]; simp
      have hpb : p ≤ 10000000 * 26 := by rw [hp]; exact Nat.mul_le_mul hs (by omega)
      rw [← hp] at HE
      have hd0 : (d : Int) < 26 := by omega
      have hp0 : (0 : Int) ≤ (p : Int) := by omega
      have hpb2 : (p : Int) ≤ 260000000 := by omega
      have hx0 : (0 : Int) ≤ (x : Int) := by omega
      have hx1 : (x : Int) ≤ 10000000 := by omega
      clear hp hd
      go_wp2_with fail
      refine ⟨⟨j + 1, h1, by go_num, ?_⟩, by simp [intOf]; omega⟩
      rw [HE.out]
      have e1 : ((p / (j + 1) : Nat) : Int) = (p : Int) / ((j : Int) + 1) := by simp
      have e2 : p / (j + 1) ≤ p := Nat.div_le_self _ _
      rw [← e1]
      clear e1
      generalize p / (j + 1) = q at e2 ⊢
      have e3 : wrap64 (q : Int) = (q : Int) := by unfold wrap64; omega
      rw [e3]
    · obtain rfl : j = k := by omega
      have hjk : ¬ ((j : Int) < (j : Int)) := by omega
      go_wp2_with fail
      go_ret
      exact ⟨rfl, rfl⟩
theorem choose_nat (n k : Nat) (N K : Int) (w : World) (hN : N = n) (hK : K = k) (hn : n < 26) (hk : k ≤ n) : Calls Tryd.prog 26 #[.int .i64 N, .int .i64 K] w fun e w' => e = .returned (.int .i64 (chF n k : Nat)) ∧ w' = w := by
  rw [hN, hK]; exact choose_any n k w hn hk
set_option maxRecDepth 100000 in
set_option maxHeartbeats 1000000 in
theorem Count_ok (n k : Nat) (w : World) (hn : n < 21) (hk : k < 6) : Calls Tryd.prog 51 #[.int .i64 n, .int .i64 ((k : Int) + 1)] w fun e w' => e = .returned (.tuple #[.int .i64 (cntT k n : Nat), .nilIface]) ∧ w' = w := by
  obtain ⟨K, hK⟩ : ∃ K : Int, K = (k : Int) + 1 := ⟨_, rfl⟩
  have hc := choose_nat (n + k) k ((n : Int) + K - 1) (K - 1) w (by omega) (by omega) (by omega) (by omega)
  rw [← cntT_chF k hk n hn] at hc
  rw [← hK]
  have hnI : (n : Int) < 21 := by omega
  have hn0 : (0 : Int) ≤ (n : Int) := by omega
  have hK1 : 1 ≤ K := by omega
  have hK6 : K ≤ 6 := by omega
  have HC := Hid.mk' hc
  clear hc hK
  generalize cntT k n = c at *
  go_enter Tryd.func51, Tryd.ntmps51
  go_wp2_with fail
  refine HC.out.mono ?_
  rintro e w1 ⟨rfl, hw1⟩
  rw [hw1]
  clear hw1
  go_wp2_with fail
  go_ret2
  exact ⟨rfl, rfl⟩
set_option maxRecDepth 100000 in
set_option maxHeartbeats 1000000 in
theorem Count_bad (n k : Int) (w : World) {a : Nat → Addr} (he : Errs w a) (h : n < 0 ∨ 20 < n ∨ k < 1 ∨ 6 < k) : Calls Tryd.prog 51 #[.int .i64 n, .int .i64 k] w fun e w' => e = .returned (.tuple #[.int .i64 0, .iface 199 (.pointer (some (a 1)))]) ∧ Below w.heap.size w w' := by
  have c1 := he.c1
  clear he
  go_enter Tryd.func51, Tryd.ntmps51
  by_cases h1 : n < 0
  · clear h
    go_wp2_with fail
    go_region
    all_goals
      go_wp2_with fail
      go_ret2
      exact ⟨rfl, (Below.refl _ _).drew⟩
  · by_cases h2 : 20 < n
    · clear h
      go_wp2_with fail
      go_region
      all_goals
        go_wp2_with fail
        go_ret2
        exact ⟨rfl, (Below.refl _ _).drew⟩
    · by_cases h3 : k < 1
      · clear h
        go_wp2_with fail
        go_region
        all_goals
          go_wp2_with fail
          go_ret2
          exact ⟨rfl, (Below.refl _ _).drew⟩
      · have h4 : 6 < k := by omega
        clear h
        go_wp2_with fail
        go_region
        all_goals
          go_wp2_with fail
          go_ret2
          exact ⟨rfl, (Below.refl _ _).drew⟩
end Go.Proofs.YthknaphclijncaaDoor

/- types.check, Size; the document's TypeError. -/
namespace Go.Proofs.YthknaphclijncaaDoor
open Go.RowKit

/-- The error of a type, by its number. -/
def tyE (n : Nat) (z : Nat → Int) : Nat := if 6 < n then 2 else if n = 0 ∨ negB z n = true then 3 else if 20 < sumN z n then 2 else 0
theorem tyE_le (n : Nat) (z : Nat → Int) : tyE n z ≤ 3 := by unfold tyE; split <;> (try split) <;> (try split) <;> omega
theorem tyE_many {n : Nat} {z : Nat → Int} (h : 6 < n) : tyE n z = 2 := by unfold tyE; rw [if_pos h]
theorem tyE_neg {n k : Nat} {z : Nat → Int} (hn : n ≤ 6) (hk : k < n) (h : z k < 0) : tyE n z = 3 := by
  unfold tyE; rw [if_neg (by omega), if_pos (Or.inr ((negB_iff z n).2 ⟨k, hk, h⟩))]
theorem tyE_great {n : Nat} {z : Nat → Int} (hn : n ≤ 6) (h0 : 0 < n) (hg : negB z n = false) (h : 20 < sumN z n) : tyE n z = 2 := by
  unfold tyE; rw [if_neg (by omega), if_neg (by rw [hg]; simp; omega), if_pos h]
theorem tyE_none {n : Nat} {z : Nat → Int} (hn : n ≤ 6) (h0 : 0 < n) (hg : negB z n = false) (h : ¬ 20 < sumN z n) : tyE n z = 0 := by
  unfold tyE; rw [if_neg (by omega), if_neg (by rw [hg]; simp; omega), if_neg h]
theorem tyE_ok {n : Nat} {z : Nat → Int} (h : tyE n z = 0) : 0 < n ∧ n ≤ 6 ∧ (∀ i, i < n → 0 ≤ z i) ∧ sumN z n ≤ 20 := by
  unfold tyE at h
  by_cases h1 : 6 < n
  · rw [if_pos h1] at h; cases h
  · rw [if_neg h1] at h
    by_cases h2 : n = 0 ∨ negB z n = true
    · rw [if_pos h2] at h; cases h
    · rw [if_neg h2] at h
      by_cases h3 : 20 < sumN z n
      · rw [if_pos h3] at h; cases h
      · have hb : negB z n = false := by cases hb : negB z n <;> simp_all
        exact ⟨by omega, by omega, not_neg hb, by omega⟩
theorem tyE_bad (z : Nat → Int) : tyE 0 z = 3 := rfl

set_option maxRecDepth 100000 in
set_option maxHeartbeats 1000000 in
theorem check_some (a : Nat → Addr) (b o cap n : Nat) (z : Nat → Int) (w : World) (hE : Errs w a) (h : RowAt w b o n z) (h0 : 0 < n) (hn : n ≤ 6) :
    Calls Tryd.prog 25 #[.slice (some ⟨b, o, none⟩) n cap] w fun e w' => e = .returned (errV a (tyE n z)) ∧ w' = w := by
  have hmin := Min_some b o cap n z w h h0 (by omega)
  have HR := Hid.mk' h
  have e1 := hE.c1
  have e2 := hE.c2
  have hmn := minTo_neg z (n - 1)
  rw [Nat.sub_add_cancel h0] at hmn
  obtain ⟨lo, hlo⟩ : ∃ lo, lo = minTo z (n - 1) := ⟨_, rfl⟩
  rw [← hlo] at hmin hmn
  clear hlo h hE
  have hnI : (n : Int) ≤ 6 := by omega
  have hnb : ((n : Int) == 0) = false := by simp; omega
  rcases Int.lt_or_le lo 0 with hl | hl
  · have HL : Hid (tyE n z = 3) := by obtain ⟨i, hi, hz⟩ := (negB_iff z n).1 (hmn.1 hl); exact tyE_neg hn hi hz
    clear hmn
    go_enter Tryd.func25, Tryd.ntmps25
    go_wp2_with (go_at_call 55; refine hmin.mono ?_; rintro e w1 ⟨rfl, hw1⟩; rw [hw1]; clear hw1)
    go_ret
    exact ⟨by rw [HL.out]; rfl, rfl⟩
  · have HN : Hid (negB z n = false) := by cases hh : negB z n with | false => rfl | true => have := hmn.2 hh; omega
    have hlb : decide (lo < 0) = false := decide_eq_false (by omega)
    clear hmn
    go_enter Tryd.func25, Tryd.ntmps25
    go_wp2_with (first
      | (go_at_call 55; refine hmin.mono ?_; rintro e w1 ⟨rfl, hw1⟩; rw [hw1]; clear hw1))
    clear hmin
    go_loopw [3, 21] (fun s i wr => ∃ (k : Nat) (y : Int), k ≤ n ∧ s = .int .i64 (20 - y) ∧ i = .int .i64 k ∧ wr = w ∧ 0 ≤ y ∧ y ≤ 20 ∧ Hid (y = sumN z k)) (fun _ i _ => n - (intOf i).toNat)
    case atStart => exact ⟨0, 0, Nat.zero_le _, rfl, rfl, rfl, by omega, by omega, rfl⟩
    case round =>
      obtain ⟨k, y, hk, rfl, rfl, rfl, hy0, hy1, HY⟩ := hrel
      rcases Nat.lt_or_ge k n with h1 | h1
      · have hc := HR.out k h1
        have hkn : (k : Int) < (n : Int) := by omega
        have hzk := not_neg HN.out k h1
        have HU : Hid (sumN z (k + 1) = y + z k) := by show sumN z k + z k = _; rw [HY.out]
        have HM : Hid (sumN z (k + 1) ≤ sumN z n) := sumN_mono (not_neg HN.out) h1
        obtain ⟨x, hx⟩ : ∃ x, x = z k := ⟨_, rfl⟩
        rw [← hx] at hc hzk HU
        clear hx
        rcases Int.lt_or_le (20 - y) x with hx | hx
        · have HL : Hid (tyE n z = 2) := tyE_great hn h0 HN.out (by have h1 := HM.out; rw [HU.out] at h1; omega)
          go_wp2_with fail
          go_ret
          exact ⟨by rw [HL.out]; rfl, rfl⟩
        · go_wp2_with fail
          exact ⟨⟨k + 1, y + x, h1, by go_num, by go_num, trivial, by omega, by omega, HU.out.symm⟩, by simp [intOf]; omega⟩
      · obtain rfl : k = n := by omega
        go_wp2_with fail
        go_ret
        exact ⟨by rw [tyE_none hn h0 HN.out (by rw [← HY.out]; omega)]; rfl, rfl⟩
set_option maxRecDepth 100000 in
theorem check_any (a : Nat → Addr) (v : Value) (n : Nat) (z : Nat → Int) (w : World) (hE : Errs w a) (h : NumsAt w v n z) (hn : n ≤ 1000000) :
    Calls Tryd.prog 25 #[v] w fun e w' => e = .returned (errV a (tyE n z)) ∧ w' = w := by
  by_cases h6 : 6 < n
  · have h6I : 6 < (n : Int) := by omega
    have HL := Hid.mk' (tyE_many (z := z) h6)
    obtain ⟨ad, cap, rfl⟩ := h.form
    have e1 := hE.c1
    clear hE h
    go_enter Tryd.func25, Tryd.ntmps25
    go_wp2_with fail
    go_ret
    exact ⟨by rw [HL.out]; rfl, rfl⟩
  · rcases h with ⟨ad, cap, rfl, rfl⟩ | ⟨b, o, cap, rfl, h0, hr⟩
    · have e2 := hE.c2
      clear hE
      go_enter Tryd.func25, Tryd.ntmps25
      go_wp2_with fail
      go_ret
      exact ⟨rfl, rfl⟩
    · exact check_some a b o cap n z w hE hr h0 (by omega)

set_option maxRecDepth 100000 in
set_option maxHeartbeats 1000000 in
theorem TypeError_some (b o cap n : Nat) (z : Nat → Int) (w : World) (h : RowAt w b o n z) (h0 : 0 < n) (hn : n ≤ 6) :
    Calls Tryd.prog 6 #[.slice (some ⟨b, o, none⟩) n cap] w fun e w' => e = .returned (.int .i64 (tyE n z : Nat)) ∧ w' = w := by
  have HR := Hid.mk' h
  have hnI : (n : Int) ≤ 6 := by omega
  have hnb : ((n : Int) == 0) = false := by simp; omega
  clear h
  go_enter Tryd.func6, Tryd.ntmps6
  go_wp2_with fail
  go_loopw [3, 4, 5] (fun u g i wr => ∃ (k : Nat) (y : Int) (gb : Bool), k ≤ n ∧ g = .bool gb ∧ u = .int .i64 y ∧ i = .int .i64 k ∧ wr = w ∧ 0 ≤ y ∧ y ≤ (k : Int) * 20 ∧ Hid (negB z k = false ∧ (gb = true → 20 < sumN z k) ∧ (gb = false → y = sumN z k))) (fun _ _ i _ => n - (intOf i).toNat)
  case atStart => exact ⟨0, 0, false, Nat.zero_le _, rfl, rfl, rfl, rfl, by omega, by omega, rfl, (fun e => by cases e), fun _ => rfl⟩
  case round =>
    obtain ⟨k, y, gb, hk, rfl, rfl, rfl, rfl, hy0, hy1, HH⟩ := hrel
    rcases Nat.lt_or_ge k n with h1 | h1
    · have hc := HR.out k h1
      have hkn : (k : Int) < (n : Int) := by omega
      rcases Int.lt_or_le (z k) 0 with hz | hz
      · have HL := Hid.mk' (tyE_neg hn h1 hz)
        obtain ⟨x, hx⟩ : ∃ x, x = z k := ⟨_, rfl⟩
        rw [← hx] at hc hz
        clear hx
        go_wp2_with fail
        go_ret
        exact ⟨by rw [HL.out]; rfl, rfl⟩
      · have HN : Hid (negB z (k + 1) = false) := by
          show (negB z k || decide (z k < 0)) = false
          rw [HH.out.1, Bool.false_or]; exact decide_eq_false (by omega)
        have HU : Hid (sumN z (k + 1) = sumN z k + z k) := rfl
        have HP : Hid (0 ≤ sumN z k) := sumN_nonneg (not_neg HH.out.1)
        obtain ⟨x, hx⟩ : ∃ x, x = z k := ⟨_, rfl⟩
        rw [← hx] at hc hz HU
        clear hx
        cases gb with
        | true =>
          have HG : Hid (20 < sumN z (k + 1)) := by have := HH.out.2.1 rfl; show _ < _; rw [HU.out]; omega
          go_wp2_with fail
          exact ⟨⟨k + 1, y, true, h1, rfl, rfl, by go_num, trivial, hy0, by omega, HN.out, fun _ => HG.out, fun e => by cases e⟩, by simp [intOf]; omega⟩
        | false =>
          rcases Int.lt_or_le 20 x with hx | hx
          · have HG : Hid (20 < sumN z (k + 1)) := by have := HP.out; show _ < _; rw [HU.out]; omega
            go_wp2_with fail
            exact ⟨⟨k + 1, y, true, h1, rfl, rfl, by go_num, trivial, hy0, by omega, HN.out, fun _ => HG.out, fun e => by cases e⟩, by simp [intOf]; omega⟩
          · have hdx : decide (20 < x) = false := decide_eq_false (by omega)
            have HY : Hid (y + x = sumN z (k + 1)) := by show _ = _; rw [HU.out, HH.out.2.2 rfl]
            go_wp2_with fail
            exact ⟨⟨k + 1, y + x, false, h1, rfl, by go_num, by go_num, trivial, by omega, by omega, HN.out, (fun e => by cases e), fun _ => HY.out⟩, by simp [intOf]; omega⟩
    · obtain rfl : k = n := by omega
      cases gb with
      | true =>
        have HL := Hid.mk' (tyE_great hn h0 HH.out.1 (HH.out.2.1 rfl))
        go_wp2_with fail
        go_ret
        exact ⟨by rw [HL.out]; rfl, rfl⟩
      | false =>
        have hy := Hid.mk' (HH.out.2.2 rfl)
        rcases Int.lt_or_le 20 y with hx | hx
        · have HL := Hid.mk' (tyE_great hn h0 HH.out.1 (by rw [← hy.out]; exact hx))
          go_wp2_with fail
          go_ret
          exact ⟨by rw [HL.out]; rfl, rfl⟩
        · have HL := Hid.mk' (tyE_none hn h0 HH.out.1 (by rw [← hy.out]; omega))
          go_wp2_with fail
          go_ret
          exact ⟨by rw [HL.out]; rfl, rfl⟩
set_option maxRecDepth 100000 in
theorem TypeError_any (v : Value) (n : Nat) (z : Nat → Int) (w : World) (h : NumsAt w v n z) (hn : n ≤ 1000000) :
    Calls Tryd.prog 6 #[v] w fun e w' => e = .returned (.int .i64 (tyE n z : Nat)) ∧ w' = w := by
  by_cases h6 : 6 < n
  · have h6I : 6 < (n : Int) := by omega
    have HL := Hid.mk' (tyE_many (z := z) h6)
    obtain ⟨ad, cap, rfl⟩ := h.form
    clear h
    go_enter Tryd.func6, Tryd.ntmps6
    go_wp2_with fail
    go_ret
    exact ⟨by rw [HL.out]; rfl, rfl⟩
  · rcases h with ⟨ad, cap, rfl, rfl⟩ | ⟨b, o, cap, rfl, h0, hr⟩
    · go_enter Tryd.func6, Tryd.ntmps6
      go_wp2_with fail
      refine wp_loop_rounds 1 ?_
      rw [rounds_succ]
      go_wp2_with fail
      go_ret
      exact ⟨rfl, rfl⟩
    · exact TypeError_some b o cap n z w hr h0 (by omega)

theorem sumU_sumN {z : Nat → Int} {t : Nat → Nat} : ∀ {n : Nat}, (∀ i, i < n → z i = (t i : Int)) → sumN z n = (sumU t n : Int)
  | 0, _ => rfl
  | n + 1, h => by
    show sumN z n + z n = ((sumU t n + t n : Nat) : Int)
    rw [sumU_sumN (fun i hi => h i (by omega)), h n (by omega)]
    simp
set_option maxRecDepth 100000 in
set_option maxHeartbeats 1000000 in
theorem Size_ok (a : Nat → Addr) (v : Value) (n : Nat) (z : Nat → Int) (t : Nat → Nat) (w : World) (hE : Errs w a) (h : NumsAt w v n z) (he : tyE n z = 0) (ht : ∀ i, i < n → z i = (t i : Int)) :
    Calls Tryd.prog 9 #[v] w fun e w' => e = .returned (.tuple #[.int .i64 (rowU t n : Nat), .nilIface]) ∧ w' = w := by
  obtain ⟨h0, h6, hz, hs⟩ := tyE_ok he
  rw [sumU_sumN ht] at hs
  have hc := check_any a v n z w hE h (by omega)
  rw [he, errV_zero] at hc
  rcases h with ⟨_, _, _, hx⟩ | ⟨b, o, cap, rfl, _, hr⟩
  · omega
  have HR : Hid (RowAt w b o n (fun i => (t i : Int))) := fun i hi => by rw [hr i hi, ht i hi]
  have HLE := Hid.mk' (fun i (hi : i ≤ n) => sumU_le t hi)
  have hs20 : sumU t n ≤ 20 := by omega
  have hnI : (n : Int) ≤ 6 := by omega
  clear hr hz ht hs he hE
  go_enter Tryd.func9, Tryd.ntmps9
  go_wp2_with (go_at_call 25; refine hc.mono ?_; rintro e w1 ⟨rfl, hw1⟩; rw [hw1]; clear hw1)
  clear hc
  go_loopw [5, 6, 16] (fun r p i wr => ∃ k : Nat, k ≤ n ∧ r = .int .i64 (rowU t k : Nat) ∧ p = .int .i64 (sumU t k : Nat) ∧ i = .int .i64 k ∧ wr = w) (fun _ _ i _ => n - (intOf i).toNat)
  case atStart => exact ⟨0, Nat.zero_le _, rfl, rfl, rfl, rfl⟩
  case round =>
    obtain ⟨k, hk, rfl, rfl, rfl, rfl⟩ := hrel
    rcases Nat.lt_or_ge k n with h1 | h1
    · have hc := HR.out k h1
      have hkn : (k : Int) < (n : Int) := by omega
      have hle := HLE.out (k + 1) h1
      have hsu : sumU t (k + 1) = sumU t k + t k := rfl
      have HCH := Hid.mk' (choose_any (sumU t (k + 1)) (t k) wr (by omega) (by omega))
      have HRW : Hid (rowU t (k + 1) = rowU t k * chF (sumU t (k + 1)) (t k)) := rfl
      have hb := rowU_le t (k := k + 1) (by omega)
      rw [HRW.out] at hb
      have HSU := Hid.mk' hsu
      rw [hsu] at HCH HRW hb hle
      rw [show ((sumU t k + t k : Nat) : Int) = (sumU t k : Int) + (t k : Int) by omega] at HCH
      clear hsu
      obtain ⟨c, hcc⟩ : ∃ c, c = chF (sumU t k + t k) (t k) := ⟨_, rfl⟩
      rw [← hcc] at HCH HRW hb
      obtain ⟨r, hrr⟩ : ∃ r, r = rowU t k := ⟨_, rfl⟩
      rw [← hrr] at HRW hb ⊢
      obtain ⟨s, hss⟩ : ∃ s, s = sumU t k := ⟨_, rfl⟩
      rw [← hss] at HCH HSU hle ⊢
      obtain ⟨x, hxx⟩ : ∃ x, x = t k := ⟨_, rfl⟩
      rw [← hxx] at HCH HSU hle
      simp only [← hxx] at hc
      clear hcc hrr hss hxx
      obtain ⟨p, hp⟩ : ∃ p, p = r * c := ⟨_, rfl⟩
      have hpI : (r : Int) * (c : Int) = (p : Int) := by rw [hp]; simp
      rw [← hp] at HRW hb
      clear hp
      have hpb : (p : Int) ≤ 2432902008176640000 := by omega
      have hp0 : (0 : Int) ≤ (p : Int) := by omega
      have hsx : (s : Int) + (x : Int) ≤ 20 := by omega
      have hs0 : (0 : Int) ≤ (s : Int) := by omega
      have hx0 : (0 : Int) ≤ (x : Int) := by omega
      go_wp2_with fail
      refine HCH.out.mono ?_
      rintro e w1 ⟨rfl, hw1⟩
      rw [hw1]
      clear hw1
      go_wp2_with fail
      refine ⟨⟨k + 1, h1, by rw [HRW.out], by rw [HSU.out]; go_num, by go_num, trivial⟩, by simp [intOf]; omega⟩
    · obtain rfl : k = n := by omega
      go_wp2_with fail
      go_ret2
      exact ⟨rfl, rfl⟩
set_option maxRecDepth 100000 in
theorem Size_bad (a : Nat → Addr) (v : Value) (n : Nat) (z : Nat → Int) (w : World) (hE : Errs w a) (h : NumsAt w v n z) (hn : n ≤ 1000000) (he : tyE n z ≠ 0) :
    Calls Tryd.prog 9 #[v] w fun e w' => e = .returned (.tuple #[.int .i64 0, errV a (tyE n z)]) ∧ w' = w := by
  have hc := check_any a v n z w hE h hn
  obtain ⟨ad, cap, rfl⟩ := h.form
  rw [errV_pos a he] at hc ⊢
  generalize tyE n z - 1 = j at *
  clear h hE
  go_enter Tryd.func9, Tryd.ntmps9
  go_wp2_with (go_at_call 25; refine hc.mono ?_; rintro e w1 ⟨rfl, hw1⟩; rw [hw1]; clear hw1)
  go_ret2
  exact ⟨rfl, rfl⟩
end Go.Proofs.YthknaphclijncaaDoor

/- A row of numbers that is made and filled. -/
namespace Go.Proofs.YthknaphclijncaaDoor
open Go.RowKit

/-- The row that is filled. -/
structure Fills (w wr : World) (g T : Nat) (f : Nat → Int) : Prop where
  row : RowAt wr g 0 T f
  fz : ∀ i, i < T → wr.frozen? ⟨g, 0 + i, none⟩ = false
  below : Below w.heap.size w wr
  hg : w.heap.size ≤ g
theorem Fills.set {w wr : World} {g T : Nat} {f : Nat → Int} (h : Fills w wr g T f) {j : Nat} (hj : j < T) (x : Int) {f' : Nat → Int} (hf : ∀ i, i < T → f' i = if i = j then x else f i) : Fills w (wr.setCell ⟨g, j, none⟩ (.int .i64 x)) g T f' := by
  refine ⟨fun i hi => ?_, fun i hi => ?_, h.below.setCell h.hg _, h.hg⟩
  · rw [hf i hi]
    by_cases hij : i = j
    · subst hij
      rw [if_pos rfl, Nat.zero_add]
      exact World.cell?_setCell_same _ _ _ (by have := h.row i hi; rwa [Nat.zero_add] at this)
    · rw [if_neg hij, World.cell?_setCell_other _ _ _ _ (fun e => hij (by have := congrArg Addr.off e; simp at this; omega))]
      exact h.row i hi
  · rw [World.frozen?_setCell]
    exact h.fz i hi
theorem Fills.drew {w wr : World} {g T : Nat} {f : Nat → Int} (h : Fills w wr g T f) : Fills w wr.drew g T f := ⟨h.row, h.fz, h.below.drew, h.hg⟩
theorem fills_made {w w2 : World} {g n : Nat} {t : TypeId} {xs : List Value} (h : w2.ownsRow w.heap.size t 1 (.slice (some ⟨g, 0, none⟩) n n) n xs) (hx : ∀ i, i < n → xs[i]? = some (.int .i64 0)) (hg : w.grownBy w2 none) : Fills w w2 g n (fun _ => 0) := by
  obtain ⟨hl, hr⟩ := h
  rcases hr with ⟨hx, _⟩ | ⟨g', cap', cur, hv, hb, hh, _, _, hs, ht⟩
  · cases hx
  · obtain ⟨rfl, rfl⟩ : g = g' ∧ n = cap' := by simpa using hv
    refine ⟨fun i hi => ?_, fun i hi => ?_, (Below.refl _ _).grown hg (Nat.le_refl _) (fun k hk => by cases hk), hb⟩
    · rw [← hx i hi, ← ht, List.getElem?_take_of_lt (by omega)]
      simp [World.cell?, hh]
    · simp [World.frozen?, hh]
theorem made_zero (n i : Nat) (hi : i < n) : (madeCells (Value.int IntKind.i64 0).cells (n * 1)).toList[i]? = some (.int .i64 0) := by
  simp [madeCells, hi, Nat.mod_one, Value.cells]
end Go.Proofs.YthknaphclijncaaDoor
