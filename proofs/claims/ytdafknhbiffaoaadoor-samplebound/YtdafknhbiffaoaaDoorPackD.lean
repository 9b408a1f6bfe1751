/- A fraction against a logarithm: the law's compare. -/
import Derived.Test.YtdafknhbiffaoaaDoorPackC
import Derived.WalkKit
import Derived.Test.YtdafknhbiffaoaaDoorWeights
import Derived.Test.YtdafknhbiffaoaaDoorBig
import Derived.Test.YtdafknhbiffaoaaDoorProg
import Derived.BigQuiet
import Derived.Deep.LoopGhost
import Derived.Test.YtdafknhbiffaoaaDoorInts
import Derived.Test.YtdafknhbiffaoaaDoorValidWalk
import Derived.Deep.RegionHeld3
import Derived.Shelf.SlGeneric
import Derived.Shelf.Small.Wraps
import Derived.Shelf.Slices.Turned
import Derived.Shelf.Slices.Clone
import Derived.Ground.NamesProg
import Derived.Ground.Names2Prog
import Derived.Laws.BitsAllLaws
namespace Go.Proofs.YtdafknhbiffaoaaDoor
open Go.RowKit

theorem Scale_back_lv {M L : Nat} {F : Int → Int} {d1 : Int} {v1 : Value} (a : Nat → Addr) (w : World) (hE : Errs w a) (h1 : LV w M F L d1 v1) (hL : L ≤ 10000) :
    Calls Tryd.prog 21 #[.agg #[.int .i64 d1, v1], .agg #[.int .i64 (-1), .int .i64 1]] w fun e w' => ∃ dn v, e = .returned (.tuple #[.agg #[.int .i64 dn, v], .nilIface]) ∧ LV w' M (fun x => -F x) L dn v ∧ Below w.heap.size w w' := by
  obtain ⟨e2, t2, rfl, l2, n2, o2, w2'⟩ := h1
  obtain ⟨np, nc, nl⟩ := negL_parts t2
  refine (Scale_back (e2 : Int) v1 t2.length (pOf t2) (cOf t2) a w hE (listAt_log l2) o2 (by omega)).mono ?_
  rintro e w' ⟨v, rfl, hv, hb⟩
  refine ⟨_, v, rfl, ⟨e2, negL t2, rfl, ?_, by omega, ?_, fun x => ?_⟩, hb⟩
  · unfold ListAt; rw [np, nc, nl]; exact hv
  · rw [np, nc, nl]; exact okLog_neg o2
  · rw [negL_at, Int.mul_neg, w2' x, Int.mul_neg]
/-- What Sign tells, by two products. -/
def SgnIs (U D : Nat) (z : Int) : Prop := (D < U → z = 1) ∧ (U = D → z = 0) ∧ (U < D → z = -1)
theorem Sign_lv1 {M L : Nat} {F : Int → Int} {d1 : Int} {v1 : Value} {U D : Nat} (a : Nat → Addr) (w : World) (hE : Errs w a) (h1 : LV w M F L d1 v1) (hL : L ≤ 10000) (hM : 1 ≤ M) (hU : 0 < U) (hD : 0 < D) (hm : ∀ q : Nat, Pr q → F (q : Int) = (mult q U : Int) - (mult q D : Int)) :
    Calls Tryd.prog 23 #[.agg #[.int .i64 d1, v1]] w fun e w' => ((∃ z, e = .returned (.tuple #[.int .i64 z, .nilIface]) ∧ SgnIs U D z) ∨ ∃ ad, e = .returned (.tuple #[.int .i64 0, .iface 136 (.pointer (some ad))])) ∧ Below w.heap.size w w' := by
  obtain ⟨d, t, rfl, l, n, o, hv⟩ := h1
  obtain ⟨s1, s2, s3⟩ := by_sides2 o hv hU hD hm
  have hc := by_cmp s1 (by omega) s2 s3 (Nat.pow_pos hU)
  have hd := (OkLog.canon (d := d) o).pos
  have hz : SgnIs U D (cmpOf (sideUp (pOf t) (cOf t) 1 t.length) (sideDown (pOf t) (cOf t) 1 t.length)) := ⟨fun h => hc.1 (Nat.pow_lt_pow_left h (by omega)), fun h => hc.2.1 (by rw [h]), fun h => hc.2.2 (Nat.pow_lt_pow_left h (by omega))⟩
  by_cases hfit : cost (pOf t) (cOf t) t.length ≤ 40000
  · refine (Sign_log d v1 t.length (pOf t) (cOf t) a true true (by simpa using o) (by simpa using hfit) w hE (listAt_log l) (by omega)).mono ?_
    rintro e w' ⟨rfl, hb⟩
    exact ⟨Or.inl ⟨_, rfl, hz⟩, hb⟩
  · refine (Sign_log d v1 t.length (pOf t) (cOf t) a true false (by simpa using o) (by simpa using hfit) w hE (listAt_log l) (by omega)).mono ?_
    rintro e w' ⟨rfl, hb⟩
    exact ⟨Or.inr ⟨_, rfl⟩, hb⟩
theorem two_pr : Pr 2 := ⟨by omega, fun d hd hdd => by have := Nat.mul_le_mul hd hd; omega⟩
/-- The logarithm of 2, as it is written in the law. -/
def twF (x : Int) : Int := if x = 2 then 1 else 0
theorem two_lv {w : World} {b : Nat} (h0 : w.cell? ⟨b, 0, none⟩ = some (.int .i64 2)) (h1 : w.cell? ⟨b, 1, none⟩ = some (.int .i64 1)) : LV w 1 twF 1 1 (.slice (some ⟨b, 0, none⟩) 1 1) := by
  refine ⟨1, [(2, 1)], rfl, Or.inr ⟨b, 1, rfl, fun i hi => ?_⟩, Nat.le_refl _, ⟨by decide, by decide, fun i hi => ?_, by simp [gcdTo, cOf]⟩, fun x => ?_⟩
  · obtain rfl : i = 0 := by simpa using hi
    exact ⟨h0, h1⟩
  · obtain rfl : i = 0 := by simpa using hi
    exact ⟨by simp [lastP, pOf], by simp [pOf], by simp [cOf], by simp [cOf], by simp [cOf], by simp [pOf], by simpa [pOf] using two_pr⟩
  · unfold twF
    simp only [atL]
    by_cases hx : x = 2
    · subst hx; simp
    · have : ¬ (2 : Int) = x := fun e => hx e.symm
      simp [hx, this]
/-- What compare answers. -/
def CmpIs (U D : Nat) (z : Int) : Prop := z = 2 ∨ SgnIs U D z
set_option maxRecDepth 100000 in
set_option maxHeartbeats 8000000 in
theorem compare_any {M L g fd : Nat} {fn : Int} {F : Int → Int} {d1 : Int} {v1 : Value} {U D : Nat} (a : Nat → Addr) (w : World) (hE : Errs w a) (h1 : LV w M F L d1 v1) (hL : L ≤ 9000) (hg : g * fd = M) (hM : 1 ≤ M) (q1 : -1073741824 ≤ fn) (q2 : fn ≤ 1073741824) (hd0 : 1 ≤ fd) (hd1 : fd ≤ 1073741824) (hU : 0 < U) (hD : 0 < D) (hm : ∀ q : Nat, Pr q → (g : Int) * (fn * twF (q : Int)) + -F (q : Int) = (mult q U : Int) - (mult q D : Int)) :
    Calls Tryd.prog 9 #[.agg #[.int .i64 fn, .int .i64 (fd : Int)], .agg #[.int .i64 d1, v1]] w fun e w' => ∃ z, e = .returned (.int .i64 z) ∧ CmpIs U D z ∧ Below w.heap.size w w' := by
  obtain ⟨va, vn, vc, rfl⟩ := h1.form
  obtain ⟨W0, hW0⟩ : ∃ W0, W0 = (w.alloc (.cells #[.int .i64 fn, .int .i64 (fd : Int)] 26)).alloc (.cells #[.int .i64 d1, .slice va vn vc] 34) := ⟨_, rfl⟩
  have hb0 : Below w.heap.size w W0 := by rw [hW0]; exact ((Below.refl _ _).alloc (Nat.le_refl _) _).alloc (by simp) _
  have HC0 : Hid (∀ W, Below W0.heap.size W0 W → (W.cell? ⟨w.heap.size, 0, none⟩ = some (.int .i64 fn) ∧ W.cell? ⟨w.heap.size, 1, none⟩ = some (.int .i64 (fd : Int))) ∧ W.cell? ⟨w.heap.size + 1, 0, none⟩ = some (.int .i64 d1) ∧ W.cell? ⟨w.heap.size + 1, 1, none⟩ = some (.slice va vn vc)) := fun W hb => by
    have hr := hb
    rw [hW0] at hr
    have r2 := res_past hr
    rw [World.size_alloc] at r2
    have r1 := res_past (w := w) (below_chain (new_below _ _) hr)
    exact ⟨⟨r1.1, r1.2.1⟩, r2.1, r2.2.1⟩
  have HEND : Hid (∀ W, Below W0.heap.size W0 W → Below w.heap.size w W) := fun W hb => hb0.trans (hb.mono hb0.size)
  have HS1 : Hid (∀ (W : World) (b : Nat), Below W0.heap.size W0 W → W.cell? ⟨b, 0, none⟩ = some (.int .i64 2) → W.cell? ⟨b, 1, none⟩ = some (.int .i64 1) → Calls Tryd.prog 21 #[.agg #[.int .i64 1, .slice (some ⟨b, 0, none⟩) 1 1], .agg #[.int .i64 fn, .int .i64 (fd : Int)]] W fun e w' => ((∃ dn v, e = .returned (.tuple #[.agg #[.int .i64 dn, v], .nilIface]) ∧ LV w' M (fun x => (g : Int) * (fn * twF x)) 1 dn v) ∨ ∃ ad, e = .returned (.tuple #[.agg #[.int .i64 0, .slice none 0 0], .iface 136 (.pointer (some ad))])) ∧ Below W.heap.size W w') := fun W b hb c0 c1 => by
    refine (Scale_lv a W (hE.below (HEND.out W hb)) (two_lv c0 c1) (by decide) q1 q2 hd0 hd1).mono ?_
    rintro e w' ⟨⟨dn, v, rfl, hv⟩ | h, hb'⟩
    · refine ⟨Or.inl ⟨dn, v, rfl, ?_⟩, hb'⟩
      have h9 := hv.wide g
      rw [Nat.one_mul, hg] at h9
      exact h9
    · exact ⟨Or.inr h, hb'⟩
  have HS2 := Hid.mk' (fun (W : World) (hb : Below W0.heap.size W0 W) => Scale_back_lv a W (hE.below (HEND.out W hb)) (h1.later (HEND.out W hb)) (by omega))
  have HAD : Hid (∀ (W : World) (e1 e2 : Int) (u1 u2 : Value), Below W0.heap.size W0 W → LV W M (fun x => (g : Int) * (fn * twF x)) 1 e1 u1 → LV W M (fun x => -F x) L e2 u2 → Calls Tryd.prog 22 #[.agg #[.int .i64 e1, u1], .agg #[.int .i64 e2, u2]] W fun e w' => ((∃ dn v, e = .returned (.tuple #[.agg #[.int .i64 dn, v], .nilIface]) ∧ LV w' M (fun x => (g : Int) * (fn * twF x) + -F x) (1 + L) dn v) ∨ ∃ ad, e = .returned (.tuple #[.agg #[.int .i64 0, .slice none 0 0], .iface 136 (.pointer (some ad))])) ∧ Below W.heap.size W w') := fun W e1 e2 u1 u2 hb k1 k2 => Add_lv a W (hE.below (HEND.out W hb)) k1 k2 (by omega)
  have HSG : Hid (∀ (W : World) (e1 : Int) (u1 : Value), Below W0.heap.size W0 W → LV W M (fun x => (g : Int) * (fn * twF x) + -F x) (1 + L) e1 u1 → Calls Tryd.prog 23 #[.agg #[.int .i64 e1, u1]] W fun e w' => ((∃ z, e = .returned (.tuple #[.int .i64 z, .nilIface]) ∧ SgnIs U D z) ∨ ∃ ad, e = .returned (.tuple #[.int .i64 0, .iface 136 (.pointer (some ad))])) ∧ Below W.heap.size W w') := fun W e1 u1 hb k1 => Sign_lv1 a W (hE.below (HEND.out W hb)) k1 (by omega) hM hU hD hm
  have HW0 := Hid.mk' hW0
  clear hE h1 hb0 hW0 hm hg q1 q2 hd0 hd1
  have hb1 : Below W0.heap.size W0 (W0.alloc (.cells #[.int .i64 2, .int .i64 1] 55)) := new_below _ _
  obtain ⟨⟨j0, j1⟩, _, _⟩ := HC0.out _ hb1
  have HL1 := Hid.mk' (HS1.out (W0.alloc (.cells #[.int .i64 2, .int .i64 1] 55)) W0.heap.size hb1 (by simp) (by simp))
  have HB1 := Hid.mk' hb1
  clear hb1
  go_enter Tryd.func9, Tryd.ntmps9
  go_upto_region 1 with fail
  rw [← HW0.out]
  go_wp2_with fail
  refine HL1.out.mono ?_
  rintro e w2 ⟨hor, hb2⟩
  have HB2 := Hid.mk' (below_chain HB1.out hb2)
  clear hb2 HL1 j0 j1
  rcases hor with ⟨dn, v, rfl, hv⟩ | ⟨ad, rfl⟩
  · obtain ⟨v5, n5, c5, rfl⟩ := hv.form
    have hb3 : Below w2.heap.size w2 (w2.alloc (.cells #[.int .i64 dn, .slice v5 n5 c5] 34)) := new_below _ _
    have HL5 := Hid.mk' (fun (W : World) hb => res_past (x := .int .i64 dn) (y := .slice v5 n5 c5) (w := w2) (t := 34) (w1 := W) hb)
    have HB3 := Hid.mk' (below_chain HB2.out hb3)
    have HV3 := Hid.mk' (hv.later hb3)
    obtain ⟨_, k2, k3⟩ := HC0.out _ HB3.out
    have HS3 := Hid.mk' (HS2.out _ HB3.out)
    obtain ⟨w3, hw3⟩ : ∃ w3, w3 = w2.alloc (.cells #[.int .i64 dn, .slice v5 n5 c5] 34) := ⟨_, rfl⟩
    obtain ⟨B5, hB5⟩ : ∃ B5, B5 = w2.heap.size := ⟨_, rfl⟩
    rw [← hw3] at HB3 HV3 HS3 HL5 k2 k3
    rw [← hB5] at HL5
    clear hv hb3
    go_upto_region 4 with fail
    rw [← hw3, ← hB5]
    clear hw3 hB5
    go_wp2_with fail
    refine HS3.out.mono ?_
    rintro e w4 ⟨dn4, v4, rfl, hv4, hb4⟩
    obtain ⟨v7, n7, c7, rfl⟩ := hv4.form
    have hb5 : Below w4.heap.size w4 (w4.alloc (.cells #[.int .i64 dn4, .slice v7 n7 c7] 34)) := new_below _ _
    have hb35 := below_chain hb4 hb5
    have HL7 := Hid.mk' (fun (W : World) hb => res_past (x := .int .i64 dn4) (y := .slice v7 n7 c7) (w := w4) (t := 34) (w1 := W) hb)
    have HB5 := Hid.mk' (below_chain HB3.out hb35)
    have HV4 := Hid.mk' (hv4.later hb5)
    have HV5 := Hid.mk' (HV3.out.later hb35)
    obtain ⟨p0, p1, _, _⟩ := HL5.out _ hb35
    obtain ⟨r0, r1, _, _⟩ := HL7.out _ (Below.refl _ _)
    have HA5 := Hid.mk' (HAD.out _ _ _ _ _ HB5.out HV5.out HV4.out)
    obtain ⟨w5, hw5⟩ : ∃ w5, w5 = w4.alloc (.cells #[.int .i64 dn4, .slice v7 n7 c7] 34) := ⟨_, rfl⟩
    obtain ⟨B7, hB7⟩ : ∃ B7, B7 = w4.heap.size := ⟨_, rfl⟩
    rw [← hw5] at HB5 HV4 HV5 p0 p1 r0 r1 HA5
    rw [← hB7] at r0 r1
    clear hv4 hb4 hb5 hb35 HL7 HL5 k2 k3 HS3
    go_upto_region 7 with fail
    rw [← hw5, ← hB7]
    clear hw5 hB7
    go_wp2_with fail
    refine HA5.out.mono ?_
    rintro e w6 ⟨hor, hb6⟩
    have HB6 := Hid.mk' (below_chain HB5.out hb6)
    clear hb6 HA5 p0 p1 r0 r1
    rcases hor with ⟨dn6, v6, rfl, hv6⟩ | ⟨ad, rfl⟩
    · obtain ⟨v8, n8, c8, rfl⟩ := hv6.form
      have hb7 : Below w6.heap.size w6 (w6.alloc (.cells #[.int .i64 dn6, .slice v8 n8 c8] 34)) := new_below _ _
      obtain ⟨p0, p1, _, _⟩ := res_past (x := .int .i64 dn6) (y := .slice v8 n8 c8) (w := w6) (t := 34) (Below.refl _ _)
      have HB7 := Hid.mk' (below_chain HB6.out hb7)
      have HG7 := Hid.mk' (HSG.out _ _ _ HB7.out (hv6.later hb7))
      obtain ⟨w7, hw7⟩ : ∃ w7, w7 = w6.alloc (.cells #[.int .i64 dn6, .slice v8 n8 c8] 34) := ⟨_, rfl⟩
      obtain ⟨B8, hB8⟩ : ∃ B8, B8 = w6.heap.size := ⟨_, rfl⟩
      rw [← hw7] at HB7 HG7 p0 p1
      rw [← hB8] at p0 p1
      clear hv6 hb7
      go_upto_region 10 with fail
      rw [← hw7, ← hB8]
      clear hw7 hB8
      go_wp2_with fail
      refine HG7.out.mono ?_
      rintro e w8 ⟨hor, hb8⟩
      have HB8 := Hid.mk' (HEND.out _ (below_chain HB7.out hb8))
      clear hb8 HG7 p0 p1
      rcases hor with ⟨zz, rfl, hz⟩ | ⟨ad, rfl⟩
      · have HZ := Hid.mk' hz
        clear hz
        go_wp2_with fail
        go_ret
        exact ⟨zz, rfl, Or.inr HZ.out, HB8.out⟩
      · go_wp2_with fail
        go_ret
        exact ⟨2, rfl, Or.inl rfl, HB8.out⟩
    · have HBE := Hid.mk' (HEND.out _ (HB6.out.alloc HB6.out.size (.cells #[.int .i64 0, .slice none 0 0] 34)))
      go_wp2_with fail
      go_ret
      exact ⟨2, rfl, Or.inl rfl, HBE.out⟩
  · have HBE := Hid.mk' (HEND.out _ (HB2.out.alloc HB2.out.size (.cells #[.int .i64 0, .slice none 0 0] 34)))
    go_wp2_with fail
    go_ret
    exact ⟨2, rfl, Or.inl rfl, HBE.out⟩
end Go.Proofs.YtdafknhbiffaoaaDoor

/- Trees of leaves (KNUTH and YAO): which outcomes have a leaf at a depth; where bits lead to. -/
namespace Go.Proofs.YtdafknhbiffaoaaDoor

/-- Those of the first m outcomes that have the digit 2 ^ k, in order. -/
def lvs (x : Nat → Nat) (k : Nat) : Nat → List Nat
  | 0 => []
  | i + 1 => lvs x k i ++ (if x i / 2 ^ k % 2 = 1 then [i] else [])
theorem lvs_lt {x : Nat → Nat} {k : Nat} : ∀ {m : Nat}, ∀ i ∈ lvs x k m, i < m ∧ x i / 2 ^ k % 2 = 1
  | 0, i, h => by simp [lvs] at h
  | m + 1, i, h => by
    rw [lvs, List.mem_append] at h
    rcases h with h | h
    · have := lvs_lt i h
      exact ⟨by omega, this.2⟩
    · split at h
      · next hh => simp at h; subst h; exact ⟨by omega, hh⟩
      · simp at h
theorem lvs_length {x : Nat → Nat} {k : Nat} : ∀ m, (lvs x k m).length ≤ m
  | 0 => Nat.le_refl _
  | m + 1 => by
    have := lvs_length (x := x) (k := k) m
    rw [lvs, List.length_append]
    split <;> simp <;> omega
theorem lvs_congr {x y : Nat → Nat} {k : Nat} : ∀ {m : Nat}, (∀ i, i < m → x i = y i) → lvs x k m = lvs y k m
  | 0, _ => rfl
  | m + 1, h => by rw [lvs, lvs, lvs_congr (fun i hi => h i (by omega)), h m (by omega)]
theorem lvs_at {x : Nat → Nat} {k m v : Nat} (h : v < (lvs x k m).length) : (lvs x k m).getD v 0 < m ∧ x ((lvs x k m).getD v 0) / 2 ^ k % 2 = 1 := by
  refine lvs_lt _ ?_
  rw [List.getD_eq_getElem?_getD, List.getElem?_eq_getElem h]
  exact List.getElem_mem h

def sumX (x : Nat → Nat) : Nat → Nat
  | 0 => 0
  | m + 1 => sumX x m + x m
def lowS (x : Nat → Nat) (k : Nat) : Nat → Nat
  | 0 => 0
  | m + 1 => lowS x k m + x m % 2 ^ k
theorem sumX_congr {x y : Nat → Nat} : ∀ {m : Nat}, (∀ i, i < m → x i = y i) → sumX x m = sumX y m
  | 0, _ => rfl
  | m + 1, h => by rw [sumX, sumX, sumX_congr (fun i hi => h i (by omega)), h m (by omega)]
theorem sumX_ge {x : Nat → Nat} : ∀ {m i : Nat}, i < m → x i ≤ sumX x m
  | 0, i, h => by omega
  | m + 1, i, h => by
    rw [sumX]
    rcases Nat.lt_or_ge i m with h' | h'
    · have := sumX_ge (x := x) h'; omega
    · obtain rfl : i = m := by omega
      omega
theorem lowS_succ (x : Nat → Nat) (k : Nat) : ∀ m, lowS x (k + 1) m = (lvs x k m).length * 2 ^ k + lowS x k m
  | 0 => by simp [lowS, lvs]
  | m + 1 => by
    have ih := lowS_succ x k m
    have h1 : x m % 2 ^ (k + 1) = x m % 2 ^ k + 2 ^ k * (x m / 2 ^ k % 2) := Nat.mod_pow_succ
    rw [lowS, lowS, lvs, List.length_append, ih, h1, Nat.add_mul]
    by_cases h : x m / 2 ^ k % 2 = 1
    · rw [if_pos h, h]; simp; omega
    · have h0 : x m / 2 ^ k % 2 = 0 := by omega
      rw [if_neg h, h0]; simp; omega
theorem lowS_rest (x : Nat → Nat) (k : Nat) : ∀ m, ∃ q, sumX x m = lowS x k m + 2 ^ k * q
  | 0 => ⟨0, rfl⟩
  | m + 1 => by
    obtain ⟨q, hq⟩ := lowS_rest x k m
    refine ⟨q + x m / 2 ^ k, ?_⟩
    have := Nat.mod_add_div (x m) (2 ^ k)
    rw [sumX, lowS, hq, Nat.mul_add]
    omega
theorem lowS_all {x : Nat → Nat} {k : Nat} : ∀ {m : Nat}, (∀ i, i < m → x i < 2 ^ k) → lowS x k m = sumX x m
  | 0, _ => rfl
  | m + 1, h => by rw [lowS, sumX, lowS_all (fun i hi => h i (by omega)), Nat.mod_eq_of_lt (h m (by omega))]
theorem lowS_dvd {x : Nat → Nat} {k D m : Nat} (h : sumX x m = 2 ^ D) (hk : k ≤ D) : ∃ q, lowS x k m = 2 ^ k * q := by
  obtain ⟨q, hq⟩ := lowS_rest x k m
  have h2 : 2 ^ k ∣ lowS x k m + 2 ^ k * q := by rw [← hq, h]; exact Nat.pow_dvd_pow 2 hk
  have h3 : 2 ^ k ∣ lowS x k m := (Nat.dvd_add_left (Nat.dvd_mul_right _ _)).1 h2
  exact h3

/-- A place among the nodes of the depth where the digit is 2 ^ k. -/
def inT (x : Nat → Nat) (k m v : Nat) : Prop := v * 2 ^ k < lowS x (k + 1) m
theorem inT_root {x : Nat → Nat} {D m : Nat} (h : sumX x m = 2 ^ D) : inT x D m 0 := by
  have h0 : 0 < 2 ^ D := Nat.two_pow_pos D
  unfold inT
  rw [lowS_all (fun i hi => by have := sumX_ge (x := x) hi; rw [Nat.pow_succ]; omega), h]
  omega
theorem inT_next {x : Nat → Nat} {D k m v b : Nat} (h : sumX x m = 2 ^ D) (hk : k + 1 ≤ D) (hv : inT x (k + 1) m v) (hl : (lvs x (k + 1) m).length ≤ v) (hb : b ≤ 1) : inT x k m (2 * (v - (lvs x (k + 1) m).length) + b) := by
  unfold inT at hv ⊢
  rw [lowS_succ] at hv
  obtain ⟨q, hq⟩ := lowS_dvd h hk
  rw [hq] at hv ⊢
  generalize (lvs x (k + 1) m).length = l at *
  obtain ⟨d, rfl⟩ : ∃ d, v = l + d := ⟨v - l, by omega⟩
  rw [Nat.add_sub_cancel_left]
  have h1 : d * 2 ^ (k + 1) < 2 ^ (k + 1) * q := by rw [Nat.add_mul] at hv; omega
  have h2 : d < q := by
    rw [Nat.mul_comm] at h1
    exact Nat.lt_of_mul_lt_mul_left h1
  have h3 : 2 ^ (k + 1) * (d + 1) ≤ 2 ^ (k + 1) * q := Nat.mul_le_mul_left _ h2
  have h4 : (2 * d + b) * 2 ^ k < 2 ^ (k + 1) * (d + 1) := by
    have h5 : (2 * d + b) * 2 ^ k < (2 * d + 2) * 2 ^ k := Nat.mul_lt_mul_of_pos_right (by omega) (Nat.two_pow_pos k)
    have h6 : (2 * d + 2) * 2 ^ k = 2 ^ (k + 1) * (d + 1) := by
      rw [Nat.pow_succ, show 2 * d + 2 = 2 * (d + 1) by omega, Nat.mul_comm (2 ^ k) 2, Nat.mul_right_comm]
    omega
  omega
theorem inT_end {x : Nat → Nat} {m v : Nat} (hv : inT x 0 m v) : v < (lvs x 0 m).length := by
  unfold inT at hv
  rw [lowS_succ] at hv
  have h1 : lowS x 0 m = 0 := by
    have : ∀ m, lowS x 0 m = 0 := fun m => by
      induction m with
      | zero => rfl
      | succ m ih => rw [lowS, ih]; simp [Nat.mod_one]
    exact this m
  rw [h1] at hv
  simpa using hv
/-- Ahead of the first bit there is a leaf of a whole alone. -/
theorem root_leaf {x : Nat → Nat} {D m v : Nat} (h : sumX x m = 2 ^ D) (hv : v < (lvs x D m).length) : x ((lvs x D m).getD v 0) = 2 ^ D := by
  obtain ⟨h1, h2⟩ := lvs_at hv
  have h3 := sumX_ge (x := x) h1
  rw [h] at h3
  have h0 : 0 < 2 ^ D := Nat.two_pow_pos D
  rcases Nat.lt_or_ge (x ((lvs x D m).getD v 0)) (2 ^ D) with h4 | h4
  · rw [Nat.div_eq_of_lt h4] at h2; omega
  · omega

/-- Bits read from a place of the tree on: an outcome and how many bits, or none; outside: they are not read to an end. -/
def flS (x : Nat → Nat) (n D L : Nat) (s : Nat → Nat) : Nat → Nat → Nat → Nat → Option (Option (Nat × Nat))
  | 0, _, _, _ => none
  | f + 1, d, v, u =>
    if v < (lvs x (D - d) (n + 1)).length then
      if (lvs x (D - d) (n + 1)).getD v 0 < n then some (some ((lvs x (D - d) (n + 1)).getD v 0, u)) else flS x n D L s f 0 0 u
    else if u = L then some none else flS x n D L s f (d + 1) (2 * (v - (lvs x (D - d) (n + 1)).length) + s u) (u + 1)
theorem flS_more {x : Nat → Nat} {n D L : Nat} {s : Nat → Nat} {r : Option (Nat × Nat)} : ∀ {f d v u : Nat}, flS x n D L s f d v u = some r → flS x n D L s (f + 1) d v u = some r
  | 0, d, v, u, h => by cases h
  | f + 1, d, v, u, h => by
    rw [flS] at h ⊢
    split
    · next h1 =>
      rw [if_pos h1] at h
      split
      · next h2 => rw [if_pos h2] at h; exact h
      · next h2 => rw [if_neg h2] at h; exact flS_more h
    · next h1 =>
      rw [if_neg h1] at h
      split
      · next h2 => rw [if_pos h2] at h; exact h
      · next h2 => rw [if_neg h2] at h; exact flS_more h
theorem flS_plus {x : Nat → Nat} {n D L : Nat} {s : Nat → Nat} {r : Option (Nat × Nat)} {f d v u : Nat} (h : flS x n D L s f d v u = some r) : ∀ g, flS x n D L s (f + g) d v u = some r
  | 0 => h
  | g + 1 => flS_more (flS_plus h g)
def Comes (x : Nat → Nat) (n D L : Nat) (s : Nat → Nat) (d v u : Nat) (r : Option (Nat × Nat)) : Prop := ∃ f, flS x n D L s f d v u = some r
theorem Comes.same {x : Nat → Nat} {n D L : Nat} {s : Nat → Nat} {d v u : Nat} {r r' : Option (Nat × Nat)} (h : Comes x n D L s d v u r) (h' : Comes x n D L s d v u r') : r = r' := by
  obtain ⟨f, h⟩ := h
  obtain ⟨g, h'⟩ := h'
  have h1 := flS_plus h g
  have h2 := flS_plus h' f
  rw [Nat.add_comm g f, h1] at h2
  exact Option.some.inj h2
theorem comes_leaf {x : Nat → Nat} {n D L : Nat} {s : Nat → Nat} {d v u : Nat} (h1 : v < (lvs x (D - d) (n + 1)).length) (h2 : (lvs x (D - d) (n + 1)).getD v 0 < n) : Comes x n D L s d v u (some ((lvs x (D - d) (n + 1)).getD v 0, u)) := ⟨1, by rw [flS, if_pos h1, if_pos h2]⟩
theorem comes_again {x : Nat → Nat} {n D L : Nat} {s : Nat → Nat} {d v u : Nat} {r : Option (Nat × Nat)} (h1 : v < (lvs x (D - d) (n + 1)).length) (h2 : ¬ (lvs x (D - d) (n + 1)).getD v 0 < n) (h : Comes x n D L s 0 0 u r) : Comes x n D L s d v u r := by
  obtain ⟨f, h⟩ := h
  exact ⟨f + 1, by rw [flS, if_pos h1, if_neg h2]; exact h⟩
theorem comes_none {x : Nat → Nat} {n D L : Nat} {s : Nat → Nat} {d v : Nat} (h1 : ¬ v < (lvs x (D - d) (n + 1)).length) : Comes x n D L s d v L none := ⟨1, by rw [flS, if_neg h1, if_pos rfl]⟩
theorem comes_step {x : Nat → Nat} {n D L : Nat} {s : Nat → Nat} {d v u : Nat} {r : Option (Nat × Nat)} (h1 : ¬ v < (lvs x (D - d) (n + 1)).length) (h2 : u ≠ L) (h : Comes x n D L s (d + 1) (2 * (v - (lvs x (D - d) (n + 1)).length) + s u) (u + 1) r) : Comes x n D L s d v u r := by
  obtain ⟨f, h⟩ := h
  exact ⟨f + 1, by rw [flS, if_neg h1, if_neg h2]; exact h⟩
end Go.Proofs.YtdafknhbiffaoaaDoor

/- KNUTH and YAO in whole numbers: what all rounds read, against the products of powers that the entropy is. -/
namespace Go.Proofs.YtdafknhbiffaoaaDoor

/-- What a number's digits read: those at the first K depths. -/
def aT (x D : Nat) : Nat → Nat
  | 0 => 0
  | k + 1 => aT x D k + k * (x / 2 ^ (D - k) % 2 * 2 ^ (D - k))
/-- The number's first K digits from the top. -/
def yT (x D : Nat) : Nat → Nat
  | 0 => 0
  | k + 1 => yT x D k + x / 2 ^ (D - k) % 2 * 2 ^ (D - k)
theorem yT_rest {x D : Nat} (hx : x < 2 ^ (D + 1)) : ∀ k, k ≤ D + 1 → yT x D k + x % 2 ^ (D + 1 - k) = x
  | 0, _ => by rw [yT, Nat.sub_zero, Nat.zero_add, Nat.mod_eq_of_lt hx]
  | k + 1, h => by
    have ih := yT_rest hx k (by omega)
    have h1 : x % 2 ^ (D - k + 1) = x % 2 ^ (D - k) + 2 ^ (D - k) * (x / 2 ^ (D - k) % 2) := Nat.mod_pow_succ
    rw [show D + 1 - k = D - k + 1 by omega, h1] at ih
    rw [yT, show D + 1 - (k + 1) = D - k by omega, Nat.mul_comm (x / 2 ^ (D - k) % 2)]
    omega
theorem yT_all {x D : Nat} (hx : x < 2 ^ (D + 1)) : yT x D (D + 1) = x := by
  have := yT_rest hx (D + 1) (Nat.le_refl _)
  rw [Nat.sub_self, Nat.pow_zero, Nat.mod_one, Nat.add_zero] at this
  exact this
/-- A number's share is no less than its chance to the power of itself. -/
theorem share_low (x D : Nat) : ∀ k, k ≤ D + 1 → (2 ^ D) ^ yT x D k ≤ 2 ^ aT x D k * x ^ yT x D k
  | 0, _ => by simp [yT, aT]
  | k + 1, h => by
    have ih := share_low x D k (by omega)
    rcases (show x / 2 ^ (D - k) % 2 = 0 ∨ x / 2 ^ (D - k) % 2 = 1 by omega) with e | e
    · rw [yT, aT, e]; simpa using ih
    · have h1 : 2 ^ (D - k) ≤ x := by
        rcases Nat.lt_or_ge x (2 ^ (D - k)) with h2 | h2
        · rw [Nat.div_eq_of_lt h2] at e; cases e
        · exact h2
      have h2 : 2 ^ D ≤ 2 ^ k * x := by
        have h3 : 2 ^ D = 2 ^ k * 2 ^ (D - k) := by rw [← Nat.pow_add]; congr 1; omega
        rw [h3]; exact Nat.mul_le_mul_left _ h1
      have h3 : (2 ^ D) ^ 2 ^ (D - k) ≤ (2 ^ k * x) ^ 2 ^ (D - k) := Nat.pow_le_pow_left h2 _
      rw [Nat.mul_pow, show (2 ^ k) ^ 2 ^ (D - k) = 2 ^ (k * 2 ^ (D - k)) from (Nat.pow_mul 2 k (2 ^ (D - k))).symm] at h3
      rw [yT, aT, e, Nat.one_mul, Nat.pow_add, Nat.pow_add, Nat.pow_add]
      have h4 := Nat.mul_le_mul ih h3
      refine Nat.le_trans h4 (Nat.le_of_eq ?_)
      simp only [Nat.mul_assoc, Nat.mul_left_comm]
def sumA' (f : Nat → Nat) : Nat → Nat
  | 0 => 0
  | m + 1 => sumA' f m + f m
def prdW (x : Nat → Nat) : Nat → Nat
  | 0 => 1
  | m + 1 => prdW x m * x m ^ x m
theorem prdW_pos (x : Nat → Nat) : ∀ m, 0 < prdW x m
  | 0 => Nat.one_pos
  | m + 1 => by
    refine Nat.mul_pos (prdW_pos x m) ?_
    rcases Nat.eq_zero_or_pos (x m) with e | e
    · rw [e]; decide
    · exact Nat.pow_pos e
theorem prdW_congr {x y : Nat → Nat} : ∀ {m : Nat}, (∀ i, i < m → x i = y i) → prdW x m = prdW y m
  | 0, _ => rfl
  | m + 1, h => by rw [prdW, prdW, prdW_congr (fun i hi => h i (by omega)), h m (by omega)]
/-- What all rounds read at the first K depths, of the first m numbers. -/
def flM (x : Nat → Nat) (D m : Nat) : Nat → Nat
  | 0 => 0
  | k + 1 => flM x D m k + k * ((lvs x (D - k) m).length * 2 ^ (D - k))
theorem lvs_len_succ (x : Nat → Nat) (k m : Nat) : (lvs x k (m + 1)).length = (lvs x k m).length + x m / 2 ^ k % 2 := by
  rw [lvs, List.length_append]
  split
  · next h => rw [h]; rfl
  · next h => have : x m / 2 ^ k % 2 = 0 := by omega
              rw [this]; rfl
theorem flM_succ (x : Nat → Nat) (D m : Nat) : ∀ k, flM x D (m + 1) k = flM x D m k + aT (x m) D k
  | 0 => rfl
  | k + 1 => by
    rw [flM, flM, aT, flM_succ x D m k, lvs_len_succ, Nat.add_mul, Nat.mul_add]
    omega
theorem flM_none (x : Nat → Nat) (D : Nat) : ∀ k, flM x D 0 k = 0
  | 0 => rfl
  | k + 1 => by rw [flM, flM_none x D k]; simp [lvs]
theorem flM_sum (x : Nat → Nat) (D k : Nat) : ∀ m, flM x D m k = sumA' (fun i => aT (x i) D k) m
  | 0 => flM_none x D k
  | m + 1 => by rw [flM_succ, flM_sum x D k m]; rfl
theorem all_low {x : Nat → Nat} {D : Nat} : ∀ {m : Nat}, (∀ i, i < m → x i < 2 ^ (D + 1)) → (2 ^ D) ^ sumX x m ≤ 2 ^ sumA' (fun i => aT (x i) D (D + 1)) m * prdW x m
  | 0, _ => by simp [sumX, sumA', prdW]
  | m + 1, h => by
    have ih := all_low (D := D) (m := m) (fun i hi => h i (by omega))
    have h1 := share_low (x m) D (D + 1) (Nat.le_refl _)
    rw [yT_all (h m (by omega))] at h1
    rw [sumX, sumA', prdW, Nat.pow_add, Nat.pow_add]
    refine Nat.le_trans (Nat.mul_le_mul ih h1) (Nat.le_of_eq ?_)
    simp only [Nat.mul_assoc, Nat.mul_left_comm]
/-- The flips are at least the entropy. -/
theorem ky_low {x : Nat → Nat} {n D S : Nat} (hs : sumX x (n + 1) = 2 ^ D) (hS : sumX x n = S) : S ^ S ≤ 2 ^ flM x D (n + 1) (D + 1) * prdW x n := by
  have hx : ∀ i, i < n + 1 → x i < 2 ^ (D + 1) := fun i hi => by
    have := sumX_ge (x := x) hi
    have h0 := Nat.two_pow_pos D
    rw [Nat.pow_succ]; omega
  have h1 := all_low (D := D) hx
  rw [hs, ← flM_sum, prdW] at h1
  rw [sumX, hS] at hs
  generalize x n = g at *
  have h2 : S ^ S * g ^ g ≤ (2 ^ D) ^ (2 ^ D) := by
    rw [← hs, Nat.pow_add]
    exact Nat.mul_le_mul (Nat.pow_le_pow_left (by omega) _) (Nat.pow_le_pow_left (by omega) _)
  have hg : 0 < g ^ g := by
    rcases Nat.eq_zero_or_pos g with e | e
    · rw [e]; decide
    · exact Nat.pow_pos e
  have h3 := Nat.le_trans h2 h1
  rw [← Nat.mul_assoc] at h3
  exact Nat.le_of_mul_le_mul_right h3 hg

/-- The digits' places, each as often as its power says. -/
def cT (x : Nat) : Nat → Nat
  | 0 => 0
  | j + 1 => cT x j + j * (x / 2 ^ j % 2 * 2 ^ j)
theorem aT_cT {x D : Nat} : ∀ k, k ≤ D + 1 → aT x D k + cT x (D + 1) = D * yT x D k + cT x (D + 1 - k)
  | 0, _ => by simp [aT, yT]
  | k + 1, h => by
    have ih := aT_cT (x := x) (D := D) k (by omega)
    have hc : cT x (D - k + 1) = cT x (D - k) + (D - k) * (x / 2 ^ (D - k) % 2 * 2 ^ (D - k)) := rfl
    rw [show D + 1 - k = D - k + 1 by omega, hc] at ih
    rw [aT, yT, show D + 1 - (k + 1) = D - k by omega, Nat.mul_add]
    generalize x / 2 ^ (D - k) % 2 * 2 ^ (D - k) = b at *
    have h1 : D * b = k * b + (D - k) * b := by rw [← Nat.add_mul]; congr 1; omega
    omega
theorem aT_all {x D : Nat} (hx : x < 2 ^ (D + 1)) : aT x D (D + 1) + cT x (D + 1) = D * x := by
  have := aT_cT (x := x) (D := D) (D + 1) (Nat.le_refl _)
  rw [yT_all hx, Nat.sub_self, cT, Nat.add_zero] at this
  exact this
theorem cT_more {x : Nat} : ∀ {j k : Nat}, x < 2 ^ j → cT x (j + k) = cT x j
  | j, 0, _ => rfl
  | j, k + 1, h => by
    rw [Nat.add_succ, cT, cT_more h, Nat.div_eq_of_lt (Nat.lt_of_lt_of_le h (Nat.pow_le_pow_right (by decide) (by omega)))]
    simp
/-- Looked through by the kernel: numbers up to 4096. -/
def kyB (w : Nat) : Bool := decide (w ^ w < 2 ^ (cT w 13 + 2 * w))
def kyAll : Nat → Bool
  | 0 => true
  | k + 1 => kyB (k + 1) && kyAll k
theorem kyAll_at : ∀ {n k : Nat}, kyAll n = true → k < n → kyB (k + 1) = true
  | 0, k, _, h => by omega
  | n + 1, k, hn, h => by
    rw [kyAll, Bool.and_eq_true] at hn
    rcases Nat.lt_or_ge k n with h1 | h1
    · exact kyAll_at hn.2 h1
    · obtain rfl : k = n := by omega
      exact hn.1
theorem ky_table : kyAll 4096 = true := by decide +kernel
theorem share_high {x D : Nat} (h0 : 0 < x) (hx : x ≤ 2 ^ D) (hD : D ≤ 12) : 2 ^ aT x D (D + 1) * x ^ x < (2 ^ D) ^ x * 4 ^ x := by
  have h4 : x ≤ 4096 := by
    have := Nat.pow_le_pow_right (n := 2) (by decide) hD
    exact Nat.le_trans hx (Nat.le_trans this (by decide))
  obtain ⟨k, rfl⟩ : ∃ k, x = k + 1 := ⟨x - 1, by omega⟩
  have h1 := kyAll_at ky_table (k := k) (by omega)
  rw [kyB, decide_eq_true_eq] at h1
  have hlt : k + 1 < 2 ^ (D + 1) := by have := Nat.two_pow_pos D; rw [Nat.pow_succ]; omega
  have h2 := aT_all hlt
  have h3 : cT (k + 1) 13 = cT (k + 1) (D + 1) := by
    rw [show 13 = (D + 1) + (12 - D) by omega]
    exact cT_more hlt
  rw [h3] at h1
  have h5 : (2 ^ D) ^ (k + 1) = 2 ^ aT (k + 1) D (D + 1) * 2 ^ cT (k + 1) (D + 1) := by rw [← Nat.pow_mul, ← h2, Nat.pow_add]
  have h6 : (4 : Nat) ^ (k + 1) = 2 ^ (2 * (k + 1)) := by rw [Nat.pow_mul]
  rw [h5, h6, Nat.mul_assoc, ← Nat.pow_add]
  exact Nat.mul_lt_mul_of_pos_left h1 (Nat.two_pow_pos _)
theorem all_high {x : Nat → Nat} {D : Nat} (hD : D ≤ 12) : ∀ {m : Nat}, (∀ i, i < m → x i ≤ 2 ^ D) → 2 ^ sumA' (fun i => aT (x i) D (D + 1)) m * prdW x m ≤ (2 ^ D) ^ sumX x m * 4 ^ sumX x m ∧ (0 < sumX x m → 2 ^ sumA' (fun i => aT (x i) D (D + 1)) m * prdW x m < (2 ^ D) ^ sumX x m * 4 ^ sumX x m)
  | 0, _ => by simp [sumX, sumA', prdW]
  | m + 1, h => by
    obtain ⟨ih1, ih2⟩ := all_high hD (m := m) (fun i hi => h i (by omega))
    have e1 : 2 ^ sumA' (fun i => aT (x i) D (D + 1)) (m + 1) * prdW x (m + 1) = (2 ^ sumA' (fun i => aT (x i) D (D + 1)) m * prdW x m) * (2 ^ aT (x m) D (D + 1) * x m ^ x m) := by
      rw [sumA', prdW, Nat.pow_add]; simp only [Nat.mul_assoc, Nat.mul_left_comm]
    have e2 : (2 ^ D) ^ sumX x (m + 1) * 4 ^ sumX x (m + 1) = ((2 ^ D) ^ sumX x m * 4 ^ sumX x m) * ((2 ^ D) ^ x m * 4 ^ x m) := by
      rw [sumX, Nat.pow_add, Nat.pow_add]; simp only [Nat.mul_assoc, Nat.mul_left_comm]
    rw [e1, e2]
    have hp : 0 < (2 ^ D) ^ sumX x m * 4 ^ sumX x m := Nat.mul_pos (Nat.pow_pos (Nat.two_pow_pos D)) (Nat.pow_pos (by decide))
    rcases Nat.eq_zero_or_pos (x m) with e | e
    · have ha : ∀ k, aT 0 D k = 0 := fun k => by
        induction k with
        | zero => rfl
        | succ k ih => rw [aT, ih]; simp
      rw [e, ha, sumX, e]
      simp only [Nat.pow_zero, Nat.mul_one, Nat.add_zero]
      exact ⟨ih1, ih2⟩
    · have h1 := share_high e (h m (by omega)) hD
      have h2 : (2 ^ sumA' (fun i => aT (x i) D (D + 1)) m * prdW x m) * (2 ^ aT (x m) D (D + 1) * x m ^ x m) < ((2 ^ D) ^ sumX x m * 4 ^ sumX x m) * ((2 ^ D) ^ x m * 4 ^ x m) :=
        Nat.lt_of_le_of_lt (Nat.mul_le_mul_right _ ih1) (Nat.mul_lt_mul_of_pos_left h1 hp)
      exact ⟨Nat.le_of_lt h2, fun _ => h2⟩
/-- Where the sum is a power of 2, the flips are less than the entropy and 2. -/
theorem ky_high {x : Nat → Nat} {n D : Nat} (hs : sumX x (n + 1) = 2 ^ D) (hS : sumX x n = 2 ^ D) (hD : D ≤ 12) : 2 ^ flM x D (n + 1) (D + 1) * prdW x n < (2 ^ D) ^ (2 ^ D) * 4 ^ (2 ^ D) := by
  have hx : ∀ i, i < n + 1 → x i ≤ 2 ^ D := fun i hi => by have := sumX_ge (x := x) hi; omega
  have h1 := (all_high hD (m := n + 1) hx).2 (by rw [hs]; exact Nat.two_pow_pos D)
  have h0 : x n = 0 := by rw [sumX, hS] at hs; omega
  rw [hs, ← flM_sum, prdW, h0, Nat.pow_zero, Nat.mul_one] at h1
  exact h1
end Go.Proofs.YtdafknhbiffaoaaDoor

/- The law's copies of lists. -/
namespace Go.Proofs.YtdafknhbiffaoaaDoor
open Go.RowKit

theorem append_zeroI (w : World) (ty : TypeId) (ad : Option Addr) (cap : Nat) : (Builtin.append_ #[22, 22] ty #[.slice none 0 0, .slice ad 0 cap]).run Tryd.prog w = .ok (.slice none 0 0) w := by
  obtain ⟨i, hi, hi2⟩ := Option.map_eq_some_iff.1 Tryd.infoInt
  refine run_append_nothing w _ _ ty 3 i Tryd.underlying22 hi none 0 0 (Nat.le_refl _) _ ?_
  cases ad with
  | none => exact Src.ofNil w Tryd.underlying22 cap
  | some a => exact Src.ofSlice w Tryd.underlying22 a 0 cap [] (by simp) (fun j u h => by simp at h) (fun u h => by simp at h)
theorem wpList_append_zeroI {w : World} {ops : Array Oper} {rest : List Oper} {o : Oper} {a : Act} {Q : Exit → Act → World → Prop} (hgd : o.guard = none) (s x : Operand)
    (ho : o.op = .call { callee := .builtin .append, args := #[s, x], argTypes := #[22, 22] })
    (ad : Option Addr) (cap : Nat) (hs : a.eval s = .slice none 0 0) (hx : a.eval x = .slice ad 0 cap)
    (h : wpList Tryd.prog ops Q rest (a.put o.dst (.slice none 0 0)) w) : wpList Tryd.prog ops Q (o :: rest) a w := by
  refine wpList_plain hgd fun K hK => ?_
  have hrun := append_zeroI w o.type ad cap
  unfold Oper.wp
  simp [execOp, ho, resolve, invoke, builtin, hs, hx, hrun, Result.andThen]
  exact hK _ _ h

theorem numsAt_own {w : World} {base : Nat} {v : Value} {n : Nat} {z : Nat → Int} (h : w.ownsRow base 3 1 v n (numCells z n)) : NumsAt w v n z := by
  rcases h.2 with ⟨hv, h0⟩ | ⟨g, cap, cur, hv, _⟩
  · exact Or.inl ⟨none, 0, hv, h0⟩
  · rcases Nat.eq_zero_or_pos n with h0 | h0
    · exact Or.inl ⟨_, _, by rw [hv, h0], h0⟩
    · subst hv
      exact Or.inr ⟨g, 0, cap, rfl, h0, rowAt_of_row h⟩
set_option maxRecDepth 100000 in
set_option maxHeartbeats 1000000 in
theorem ints_row (v : Value) (n : Nat) (z : Nat → Int) (w : World) (h : NumsAt w v n z) (hn : n ≤ 100000) :
    Calls Tryd.prog 7 #[v] w fun e w' => ∃ v', e = .returned v' ∧ w'.ownsRow w.heap.size 3 1 v' n (numCells z n) ∧ Below w.heap.size w w' := by
  rcases h with ⟨ad, cap, rfl, rfl⟩ | ⟨b, o, cap, rfl, h0, hr⟩
  · go_enter Tryd.func7, Tryd.ntmps7
    go_wp2_with (at_builtin; go_must (refine wpList_append_zeroI rfl _ _ rfl ad cap rfl rfl ?_))
    go_ret
    exact ⟨_, rfl, ⟨rfl, Or.inl ⟨rfl, rfl⟩⟩, Below.refl _ _⟩
  · obtain ⟨i, hi, hi2⟩ := Option.map_eq_some_iff.1 Tryd.infoInt
    obtain ⟨hz, hsz, hby⟩ : i.zero = some (.int .i64 0) ∧ i.size = 1 ∧ i.bytes = 8 := by simpa using hi2
    have HR := Hid.mk' hr
    have HI : Hid (Tryd.prog.info? 3 = some i) := hi
    have HZ : Hid (i.zero = some (.int .i64 0)) := hz
    have HS : Hid (i.size = 1) := hsz
    have HY : Hid (i.bytes = 8) := hby
    have HC : Hid (∀ u, u ∈ numCells z n → u.oneCell' = true) := fun u hu => by obtain ⟨x, rfl⟩ := numCells_ints z n u hu; rfl
    have HL : Hid ((numCells z n).length = n * 1) := by show _ = _; rw [numCells_length, Nat.mul_one]
    clear hr hi2 hi hz hsz hby
    go_enter Tryd.func7, Tryd.ntmps7
    go_wp2_with (at_builtin; go_must (refine wpList_append_lies _ rfl _ _ _ rfl w.heap.size 3 i _ 1 8 Tryd.underlying22 HI.out HZ.out HS.out HY.out rfl (by omega) (.slice none 0 0) 0 [] rfl ⟨rfl, Or.inl ⟨rfl, rfl⟩⟩ ⟨b, o, none⟩ n cap (numCells z n) rfl HL.out (fun j u hu => numCells_news HR.out j u hu) HC.out h0 (by unfold maxLen; omega) (by omega) (by simp) _ rfl ?_; intro g cap' w1 hown hgrow hat hlt; have HOWN := Hid.mk' hown; have HG := Hid.mk' hgrow; clear hown hgrow hat))
    go_ret
    exact ⟨_, rfl, by simpa using HOWN.out, (Below.refl _ _).grown HG.out (Nat.le_refl _) (fun k hk => by cases hk)⟩
theorem ints_any (v : Value) (n : Nat) (z : Nat → Int) (w : World) (h : NumsAt w v n z) (hn : n ≤ 100000) :
    Calls Tryd.prog 7 #[v] w fun e w' => ∃ v', e = .returned v' ∧ NumsAt w' v' n z ∧ Below w.heap.size w w' := by
  refine (ints_row v n z w h hn).mono ?_
  rintro e w' ⟨v', rfl, h1, h2⟩
  exact ⟨v', rfl, numsAt_own h1, h2⟩
end Go.Proofs.YtdafknhbiffaoaaDoor

/- Nothing is laid here. -/

/- Tables in memory; all of a table's weights as one list. -/
namespace Go.Proofs.YtdafknhbiffaoaaDoor
open Go.RowKit

def TabAt (w : World) (v : Value) (R : Nat) (vs : Nat → Value) (ns : Nat → Nat) (zs : Nat → Nat → Int) : Prop := (∃ ad cap, v = .slice ad 0 cap ∧ R = 0) ∨ ∃ b o cap, v = .slice (some ⟨b, o, none⟩) R cap ∧ 0 < R ∧ ∀ i, i < R → w.cell? ⟨b, o + i, none⟩ = some (vs i) ∧ NumsAt w (vs i) (ns i) (zs i)
theorem TabAt.later {w w' : World} {v : Value} {R : Nat} {vs : Nat → Value} {ns : Nat → Nat} {zs : Nat → Nat → Int} (h : TabAt w v R vs ns zs) (hb : Below w.heap.size w w') : TabAt w' v R vs ns zs := by
  rcases h with h | ⟨b, o, cap, hv, hn, hr⟩
  · exact Or.inl h
  · exact Or.inr ⟨b, o, cap, hv, hn, fun i hi => ⟨by rw [hb.cell (cell_lt (hr i hi).1)]; exact (hr i hi).1, (hr i hi).2.later hb⟩⟩
theorem TabAt.form {w : World} {v : Value} {R : Nat} {vs : Nat → Value} {ns : Nat → Nat} {zs : Nat → Nat → Int} (h : TabAt w v R vs ns zs) : ∃ ad cap, v = .slice ad R cap := by
  rcases h with ⟨ad, cap, rfl, rfl⟩ | ⟨b, o, cap, rfl, _⟩
  · exact ⟨_, _, rfl⟩
  · exact ⟨_, _, rfl⟩
def rowL (z : Nat → Int) (n : Nat) : List Int := (List.range n).map z
/-- All weights of the first k rows. -/
def flatL (ns : Nat → Nat) (zs : Nat → Nat → Int) : Nat → List Int
  | 0 => []
  | k + 1 => flatL ns zs k ++ rowL (zs k) (ns k)
def cellL (l : List Int) : List Value := l.map fun x => .int .i64 x
theorem cellL_length (l : List Int) : (cellL l).length = l.length := by simp [cellL]
theorem cellL_append (l r : List Int) : cellL (l ++ r) = cellL l ++ cellL r := by simp [cellL]
theorem rowL_length (z : Nat → Int) (n : Nat) : (rowL z n).length = n := by simp [rowL]
theorem cellL_row (z : Nat → Int) : ∀ n, cellL (rowL z n) = numCells z n
  | 0 => rfl
  | n + 1 => by
    have ih := cellL_row z n
    unfold cellL rowL at ih ⊢
    rw [List.range_succ, List.map_append, List.map_append, ih]
    rfl
def sumT (ns : Nat → Nat) : Nat → Nat
  | 0 => 0
  | k + 1 => sumT ns k + ns k
theorem flatL_length (ns : Nat → Nat) (zs : Nat → Nat → Int) : ∀ k, (flatL ns zs k).length = sumT ns k
  | 0 => rfl
  | k + 1 => by
    show (flatL ns zs k ++ rowL (zs k) (ns k)).length = sumT ns k + ns k
    rw [List.length_append, flatL_length ns zs k, rowL_length]
theorem sumT_mono (ns : Nat → Nat) {k n : Nat} (h : k ≤ n) : sumT ns k ≤ sumT ns n := by
  induction n with
  | zero => obtain rfl : k = 0 := by omega
            exact Nat.le_refl _
  | succ n ih =>
    rcases Nat.lt_or_ge k (n + 1) with h' | h'
    · have := ih (by omega); show sumT ns k ≤ sumT ns n + ns n; omega
    · obtain rfl : k = n + 1 := by omega
      exact Nat.le_refl _
/-- A list as a row of numbers. -/
def atF (l : List Int) (i : Nat) : Int := l.getD i 0
theorem numCells_list : ∀ l : List Int, numCells (atF l) l.length = cellL l := fun l => by
  rw [← cellL_row]
  congr 1
  refine List.ext_getElem (by simp [rowL]) (fun i h1 h2 => ?_)
  simp [rowL, atF, List.getD, List.getElem?_eq_getElem h2]
theorem numsAt_row {w : World} {base : Nat} {v : Value} {l : List Int} (h : w.ownsRow base 3 1 v l.length (cellL l)) : NumsAt w v l.length (atF l) := by
  rcases h.2 with ⟨hv, h0⟩ | ⟨g, cap, cur, hv, _⟩
  · exact Or.inl ⟨none, 0, hv, h0⟩
  · rcases Nat.eq_zero_or_pos l.length with h0 | h0
    · exact Or.inl ⟨_, _, by rw [hv, h0], h0⟩
    · refine Or.inr ⟨g, 0, cap, hv, h0, ?_⟩
      subst hv
      rw [← numCells_list] at h
      exact rowAt_of_row h

theorem append_nothing (w : World) (ty : TypeId) (ao : Option Addr) (l c : Nat) (hl : l ≤ c) (ad : Option Addr) (cap : Nat) : (Builtin.append_ #[22, 22] ty #[.slice ao l c, .slice ad 0 cap]).run Tryd.prog w = .ok (.slice ao l c) w := by
  obtain ⟨i, hi, hi2⟩ := Option.map_eq_some_iff.1 Tryd.infoInt
  refine run_append_nothing w _ _ ty 3 i Tryd.underlying22 hi ao l c hl _ ?_
  cases ad with
  | none => exact Src.ofNil w Tryd.underlying22 cap
  | some a => exact Src.ofSlice w Tryd.underlying22 a 0 cap [] (by simp) (fun j u h => by simp at h) (fun u h => by simp at h)
theorem wpList_append_nothing {w : World} {ops : Array Oper} {rest : List Oper} {o : Oper} {a : Act} {Q : Exit → Act → World → Prop} (hgd : o.guard = none) (s x : Operand)
    (ho : o.op = .call { callee := .builtin .append, args := #[s, x], argTypes := #[22, 22] })
    (ao : Option Addr) (l c : Nat) (hl : l ≤ c) (ad : Option Addr) (cap : Nat) (hs : a.eval s = .slice ao l c) (hx : a.eval x = .slice ad 0 cap)
    (h : wpList Tryd.prog ops Q rest (a.put o.dst (.slice ao l c)) w) : wpList Tryd.prog ops Q (o :: rest) a w := by
  refine wpList_plain hgd fun K hK => ?_
  have hrun := append_nothing w o.type ao l c hl ad cap
  unfold Oper.wp
  simp [execOp, ho, resolve, invoke, builtin, hs, hx, hrun, Result.andThen]
  exact hK _ _ h
theorem row_shape {w : World} {base : Nat} {t : TypeId} {v : Value} {n : Nat} {xs : List Value} (h : w.ownsRow base t 1 v n xs) : ∃ ao c, v = .slice ao n c ∧ n ≤ c := by
  rcases h.2 with ⟨rfl, rfl⟩ | ⟨g, cap, cur, rfl, _, _, hc, _⟩
  · exact ⟨none, 0, rfl, Nat.le_refl _⟩
  · exact ⟨_, _, rfl, hc⟩
theorem below_grow {w wr w3 : World} {v : Value} {e : TypeId} {size n : Nat} {xs : List Value} (hB : Below w.heap.size w wr) (hR : wr.ownsRow w.heap.size e size v n xs) (hg : wr.grownBy w3 v.ownBlock) : Below w.heap.size w w3 :=
  hB.grown hg hB.size (fun k e => (hR.lt k e).1)

/-- Is a row longer than 16? Is one not as long as the first? -/
def longB (ns : Nat → Nat) : Nat → Bool
  | 0 => false
  | k + 1 => longB ns k || decide (16 < ns k)
def unevenB (ns : Nat → Nat) : Nat → Bool
  | 0 => false
  | k + 1 => unevenB ns k || !decide (ns k = ns 0)
theorem longB_mono {ns : Nat → Nat} {k n : Nat} (hk : k < n) (h : 16 < ns k) : longB ns n = true := by
  induction n with
  | zero => omega
  | succ n ih =>
    show (longB ns n || decide (16 < ns n)) = true
    rcases Nat.lt_or_ge k n with h' | h'
    · rw [ih h']; rfl
    · obtain rfl : k = n := by omega
      rw [decide_eq_true h, Bool.or_true]
theorem unevenB_mono {ns : Nat → Nat} {k n : Nat} (hk : k < n) (h : ns k ≠ ns 0) : unevenB ns n = true := by
  induction n with
  | zero => omega
  | succ n ih =>
    show (unevenB ns n || !decide (ns n = ns 0)) = true
    rcases Nat.lt_or_ge k n with h' | h'
    · rw [ih h']; rfl
    · obtain rfl : k = n := by omega
      rw [decide_eq_false h]; simp
/-- The number of a table's error, as the document says it. -/
def tabErr (R : Nat) (ns : Nat → Nat) (zs : Nat → Nat → Int) : Nat := if 16 < R then 2 else if longB ns R = true then 2 else if unevenB ns R = true then 3 else listErr (atF (flatL ns zs R)) (flatL ns zs R).length
end Go.Proofs.YtdafknhbiffaoaaDoor

/- sample.readLeaf: the leaf that bits lead to. -/
namespace Go.Proofs.YtdafknhbiffaoaaDoor
open Go.RowKit

/-- What is left of a text from a place on. -/
def bhT (t : ByteArray) (p : Nat) : ByteArray := t.extract p t.size
theorem bhT_size (t : ByteArray) (p : Nat) : (bhT t p).size = t.size - p := by unfold bhT; rw [ByteArray.size_extract]; omega
theorem bhT_get {t : ByteArray} {p i : Nat} (h : i < (bhT t p).size) (h' : p + i < t.size) : (bhT t p)[i]'h = t[p + i]'h' := by
  exact ByteArray.getElem_extract h
/-- The bits of a text. -/
def bitN (t : ByteArray) (i : Nat) : Nat := if h : i < t.size then (if t[i]'h = 49 then 1 else 0) else 0
theorem bitN_le (t : ByteArray) (i : Nat) : bitN t i ≤ 1 := by unfold bitN; split; split <;> omega; omega
theorem bitN_byte {t : ByteArray} {i : Nat} (h : i < t.size) (hb : (t[i]'h) = 48 ∨ (t[i]'h) = 49) : ((t[i]'h).toNat : Int) = 48 + ((bitN t i : Nat) : Int) := by
  unfold bitN
  rw [dif_pos h]
  rcases hb with e | e <;> rw [e] <;> decide
theorem lowS_le (x : Nat → Nat) (k : Nat) : ∀ m, lowS x k m ≤ sumX x m
  | 0 => Nat.le_refl _
  | m + 1 => by
    have := lowS_le x k m
    have := Nat.mod_le (x m) (2 ^ k)
    rw [lowS, sumX]; omega
theorem inT_lt {x : Nat → Nat} {k m v D : Nat} (h : inT x k m v) (hs : sumX x m = 2 ^ D) : v < 2 ^ D := by
  unfold inT at h
  have h1 := lowS_le x (k + 1) m
  have h2 : v * 1 ≤ v * 2 ^ k := Nat.mul_le_mul_left _ (Nat.two_pow_pos k)
  omega
/-- What readLeaf tells. -/
def LeafR (x : Nat → Nat) (n D L : Nat) (s : Nat → Nat) (p lf rd : Nat) (ok : Bool) : Prop :=
  (ok = false → Comes x n D L s 0 0 p none) ∧ (ok = true → p + rd ≤ L ∧ lf ≤ n ∧ (lf < n → Comes x n D L s 0 0 p (some (lf, p + rd))) ∧ (lf = n → 0 < rd ∧ ∀ r, Comes x n D L s 0 0 (p + rd) r → Comes x n D L s 0 0 p r))
def LeafE (x : Nat → Nat) (n D L : Nat) (s : Nat → Nat) (p : Nat) (e : Ending) : Prop := ∃ (lf rd : Nat) (ok : Bool), e = .returned (.tuple #[.int .i64 (lf : Int), .int .i64 (rd : Int), .bool ok]) ∧ LeafR x n D L s p lf rd ok
/-- A tree in memory. -/
def LvsAt (w : World) (v : Value) (x : Nat → Nat) (n D : Nat) : Prop := ∃ vs, TabAt w v (D + 1) vs (fun d => (lvs x (D - d) (n + 1)).length) (fun d i => (((lvs x (D - d) (n + 1)).getD i 0 : Nat) : Int))
set_option maxRecDepth 100000 in
set_option maxHeartbeats 4000000 in
theorem readLeaf_any (v : Value) (x : Nat → Nat) (n D p : Nat) (t : ByteArray) (w : World) (h : LvsAt w v x n D) (hx : sumX x (n + 1) = 2 ^ D) (hn : x n < 2 ^ D) (hD : D ≤ 12) (hp : p ≤ t.size) (_ : t.size ≤ 4000) (hb : ∀ i (hi : i < t.size), (t[i]'hi) = 48 ∨ (t[i]'hi) = 49) :
    Calls Tryd.prog 25 #[v, .string (bhT t p)] w fun e w' => LeafE x n D t.size (bitN t) p e ∧ w' = w := by
  obtain ⟨vs, h⟩ := h
  obtain ⟨b, o, cap, rfl, hrows⟩ : ∃ b o cap, v = .slice (some ⟨b, o, none⟩) (D + 1) cap ∧ ∀ d, d < D + 1 → w.cell? ⟨b, o + d, none⟩ = some (vs d) ∧ NumsAt w (vs d) (lvs x (D - d) (n + 1)).length (fun i => (((lvs x (D - d) (n + 1)).getD i 0 : Nat) : Int)) := by
    rcases h with ⟨_, _, _, h0⟩ | ⟨b, o, c, h1, _, h2⟩
    · omega
    · exact ⟨b, o, c, h1, h2⟩
  have HR := Hid.mk' hrows
  have HB := Hid.mk' hb
  have HSX := Hid.mk' hx
  have HXN := Hid.mk' hn
  have HPD : Hid (2 ^ D ≤ 4096) := by
    have := Nat.pow_le_pow_right (n := 2) (by decide) hD
    exact Nat.le_trans this (by decide)
  have hsz := bhT_size t p
  have HLL : Hid (∀ k, (lvs x k (n + 1)).length ≤ n + 1) := fun k => lvs_length _
  clear h hrows hb hx hn
  obtain ⟨S, hS⟩ : ∃ S, S = bhT t p := ⟨_, rfl⟩
  have HS := Hid.mk' hS
  rw [← hS] at hsz ⊢
  clear hS
  go_enter Tryd.func25, Tryd.ntmps25
  go_wp2_with fail
  go_loop [7, 12] (fun q i => ∃ d v : Nat, d ≤ D ∧ p + d ≤ t.size ∧ q = .int .i64 v ∧ i = .int .i64 d ∧ Hid (inT x (D - d) (n + 1) v) ∧ Hid (∀ r, Comes x n D t.size (bitN t) d v (p + d) r → Comes x n D t.size (bitN t) 0 0 p r)) (fun _ i => D + 1 - (intOf i).toNat)
  case atStart => exact ⟨0, 0, Nat.zero_le _, by omega, rfl, rfl, inT_root HSX.out, fun r h => h⟩
  case round =>
    obtain ⟨d, v, hd, hpd, rfl, rfl, HI, HC⟩ := hrel
    have hdI : (d : Int) < (D : Int) + 1 := by omega
    have hd0 : (0 : Int) ≤ (d : Int) := by omega
    have hv0 : (0 : Int) ≤ (v : Int) := by omega
    have hvl := inT_lt HI.out HSX.out
    have hv4 : v < 4096 := by have := HPD.out; omega
    obtain ⟨hc, hnum⟩ := HR.out d (by omega)
    obtain ⟨rad, rcap, hre⟩ := hnum.form
    rw [hre] at hc hnum
    clear hvl hre
    rcases Nat.lt_or_ge v (lvs x (D - d) (n + 1)).length with h1 | h1
    · obtain ⟨rb, ro, rfl, hcv⟩ : ∃ rb ro, rad = some ⟨rb, ro, none⟩ ∧ w.cell? ⟨rb, ro + v, none⟩ = some (.int .i64 (((lvs x (D - d) (n + 1)).getD v 0 : Nat) : Int)) := by
        rcases hnum with ⟨_, _, _, h0⟩ | ⟨rb, ro, c, h2, _, h3⟩
        · omega
        · simp only [Value.slice.injEq, true_and] at h2
          exact ⟨rb, ro, h2.1, h3 v h1⟩
      have hle := (lvs_at h1).1
      have HRES : Hid (LeafR x n D t.size (bitN t) p ((lvs x (D - d) (n + 1)).getD v 0) d true) := by
        refine ⟨fun h => by (cases h), fun _ => ⟨hpd, by omega, fun h2 => HC.out _ (comes_leaf h1 h2), fun h2 => ⟨?_, fun r hr => HC.out _ (comes_again h1 (by omega) hr)⟩⟩⟩
        rcases Nat.eq_zero_or_pos d with h0 | h0
        · subst h0
          have h3 := root_leaf HSX.out (D := D) (v := v) h1
          rw [Nat.sub_zero] at h2
          rw [h2] at h3
          have := HXN.out
          omega
        · exact h0
      have hI : (v : Int) < ((lvs x (D - d) (n + 1)).length : Int) := by omega
      clear hnum hle
      generalize (lvs x (D - d) (n + 1)).getD v 0 = lf at *
      generalize (lvs x (D - d) (n + 1)).length = ll at *
      go_wp2_with fail
      go_ret3
      exact ⟨⟨lf, d, true, rfl, HRES.out⟩, rfl⟩
    · have hlt : d < D := by
        rcases Nat.lt_or_ge d D with h2 | h2
        · exact h2
        · obtain rfl : d = D := by omega
          have h3 := HI.out
          rw [Nat.sub_self] at h3 h1
          have := inT_end h3
          omega
      have hI : ¬ (v : Int) < ((lvs x (D - d) (n + 1)).length : Int) := by omega
      have hI2 : decide ((v : Int) < ((lvs x (D - d) (n + 1)).length : Int)) = false := decide_eq_false hI
      have hno : ¬ v < (lvs x (D - d) (n + 1)).length := by omega
      have HL := HLL.out (D - d)
      clear hnum
      by_cases he : p + d = t.size
      · have hse : ((d : Int) == (S.size : Int)) = true := by rw [beq_iff_eq]; omega
        have HRES : Hid (LeafR x n D t.size (bitN t) p 0 0 false) := ⟨fun _ => HC.out _ (by rw [he]; exact comes_none hno), fun h => by (cases h)⟩
        clear hno HI HC he
        generalize (lvs x (D - d) (n + 1)).length = ll at *
        go_wp2_with fail
        go_ret3
        exact ⟨⟨0, 0, false, rfl, HRES.out⟩, rfl⟩
      · have hse : ((d : Int) == (S.size : Int)) = false := by rw [beq_eq_false_iff_ne]; omega
        have h3 : d < S.size := by omega
        have h4 : p + d < t.size := by omega
        have hby : ((S[d]'h3).toNat : Int) = 48 + ((bitN t (p + d) : Nat) : Int) := by
          have h5 := bitN_byte h4 (HB.out _ h4)
          have h6 : S[d]'h3 = t[p + d]'h4 := by
            have hS := HS.out
            subst hS
            exact bhT_get _ h4
          rw [h6]; exact h5
        have hbl := bitN_le t (p + d)
        have HI2 : Hid (inT x (D - (d + 1)) (n + 1) (2 * (v - (lvs x (D - d) (n + 1)).length) + bitN t (p + d))) := by
          have h7 := HI.out
          obtain ⟨k, hk⟩ : ∃ k, D - d = k + 1 := ⟨D - d - 1, by omega⟩
          rw [show D - (d + 1) = k by omega]
          rw [hk] at h7 h1 ⊢
          exact inT_next HSX.out (by omega) h7 h1 hbl
        have HC2 : Hid (∀ r, Comes x n D t.size (bitN t) (d + 1) (2 * (v - (lvs x (D - d) (n + 1)).length) + bitN t (p + d)) (p + (d + 1)) r → Comes x n D t.size (bitN t) 0 0 p r) := fun r hr => HC.out r (comes_step hno he hr)
        have hsI : (d : Int) < (S.size : Int) := by omega
        clear hno HI HC
        generalize bitN t (p + d) = bt at *
        generalize (lvs x (D - d) (n + 1)).length = ll at *
        obtain ⟨y, hy⟩ : ∃ y, v = ll + y := ⟨v - ll, by omega⟩
        rw [show v - ll = y by omega] at HI2 HC2
        have hyI : (v : Int) - (ll : Int) = (y : Int) := by omega
        clear hy
        go_wp2_with fail
        refine ⟨⟨d + 1, 2 * y + bt, by omega, by omega, by go_num, by go_num, HI2, HC2⟩, by simp [intOf]; omega⟩
end Go.Proofs.YtdafknhbiffaoaaDoor

/- A row of numbers that is made and filled. -/
namespace Go.Proofs.YtdafknhbiffaoaaDoor
open Go.RowKit

/-- The row that is filled. -/
structure Fills (w wr : World) (g T : Nat) (f : Nat → Int) : Prop where
  row : RowAt wr g 0 T f
  fz : ∀ i, i < T → wr.frozen? ⟨g, 0 + i, none⟩ = false
  below : Below w.heap.size w wr
  hg : w.heap.size ≤ g
theorem Fills.set {w wr : World} {g T : Nat} {f : Nat → Int} (h : Fills w wr g T f) {j : Nat} (hj : j < T) (x : Int) {f' : Nat → Int} (hf : ∀ i, i < T → f' i = if i = j then x else f i) : Fills w (wr.setCell ⟨g, j, none⟩ (.int .i64 x)) g T f' := by
  refine ⟨fun i hi => ?_, fun i hi => ?_, h.below.setCell h.hg _, h.hg⟩
  · rw [hf i hi]
    by_cases hij : i = j
    · subst hij
      rw [if_pos rfl, Nat.zero_add]
      exact World.cell?_setCell_same _ _ _ (by have := h.row i hi; rwa [Nat.zero_add] at this)
    · rw [if_neg hij, World.cell?_setCell_other _ _ _ _ (fun e => hij (by have := congrArg Addr.off e; simp at this; omega))]
      exact h.row i hi
  · rw [World.frozen?_setCell]
    exact h.fz i hi
theorem Fills.drew {w wr : World} {g T : Nat} {f : Nat → Int} (h : Fills w wr g T f) : Fills w wr.drew g T f := ⟨h.row, h.fz, h.below.drew, h.hg⟩
theorem fills_made {w w2 : World} {g n : Nat} {t : TypeId} {xs : List Value} (h : w2.ownsRow w.heap.size t 1 (.slice (some ⟨g, 0, none⟩) n n) n xs) (hx : ∀ i, i < n → xs[i]? = some (.int .i64 0)) (hg : w.grownBy w2 none) : Fills w w2 g n (fun _ => 0) := by
  obtain ⟨hl, hr⟩ := h
  rcases hr with ⟨hx, _⟩ | ⟨g', cap', cur, hv, hb, hh, _, _, hs, ht⟩
  · cases hx
  · obtain ⟨rfl, rfl⟩ : g = g' ∧ n = cap' := by simpa using hv
    refine ⟨fun i hi => ?_, fun i hi => ?_, (Below.refl _ _).grown hg (Nat.le_refl _) (fun k hk => by cases hk), hb⟩
    · rw [← hx i hi, ← ht, List.getElem?_take_of_lt (by omega)]
      simp [World.cell?, hh]
    · simp [World.frozen?, hh]
theorem made_zero (n i : Nat) (hi : i < n) : (madeCells (Value.int IntKind.i64 0).cells (n * 1)).toList[i]? = some (.int .i64 0) := by
  simp [madeCells, hi, Nat.mod_one, Value.cells]
end Go.Proofs.YtdafknhbiffaoaaDoor

/- Rows of their own that are made one by one and filled. -/
namespace Go.Proofs.YtdafknhbiffaoaaDoor
open Go.RowKit

/-- Cells of a row that is made. -/
structure RowIs (wr : World) (b n : Nat) (f : Nat → Value) : Prop where
  row : ∀ k, k < n → wr.cell? ⟨b, k, none⟩ = some (f k)
  fz : ∀ k, k < n → wr.frozen? ⟨b, k, none⟩ = false
theorem RowIs.later {w w' : World} {b n : Nat} {f : Nat → Value} (h : RowIs w b n f) (hb : Below w.heap.size w w') : RowIs w' b n f :=
  ⟨fun k hk => by rw [hb.cell (cell_lt (h.row k hk))]; exact h.row k hk, fun k hk => by rw [hb.frozen (cell_lt (h.row k hk))]; exact h.fz k hk⟩
theorem rowIs_made {w w2 : World} {g n : Nat} {t : TypeId} {z : Value} {xs : List Value} (h : w2.ownsRow w.heap.size t 1 (.slice (some ⟨g, 0, none⟩) n n) n xs) (hx : ∀ i, i < n → xs[i]? = some z) : RowIs w2 g n (fun _ => z) := by
  obtain ⟨hl, hr⟩ := h
  rcases hr with ⟨hx, _⟩ | ⟨g', cap', cur, hv, hb, hh, _, _, hs, ht⟩
  · cases hx
  · obtain ⟨rfl, rfl⟩ : g = g' ∧ n = cap' := by simpa using hv
    refine ⟨fun i hi => ?_, fun i hi => ?_⟩
    · rw [← hx i hi, ← ht, List.getElem?_take_of_lt (by omega)]
      simp [World.cell?, hh]
    · simp [World.frozen?, hh]
theorem made_one (z : Value) (hz : z.cells = #[z]) (n i : Nat) (hi : i < n) : (madeCells z.cells (n * 1)).toList[i]? = some z := by
  simp [madeCells, hi, Nat.mod_one, hz]
theorem made_below {w w2 : World} (hg : w.grownBy w2 none) : Below w.heap.size w w2 := (Below.refl _ _).grown hg (Nat.le_refl _) (fun k hk => by cases hk)
theorem put_cell {W : World} {p : Addr} {x : Value} (y : Value) (h : W.cell? p = some x) (q : Addr) : (W.setCell p y).cell? q = if q = p then some y else W.cell? q := by
  split
  · rename_i e; subst e; exact World.cell?_setCell_same _ _ _ h
  · rename_i e; exact World.cell?_setCell_other _ _ _ _ (fun e' => e e'.symm)

/-- The first m of n rows are made, of C cells each. -/
structure GridB (w wr : World) (g n C m : Nat) (rb : Nat → Nat) (f : Nat → Nat → Value) : Prop where
  below : Below w.heap.size w wr
  hg : w.heap.size ≤ g
  outer : ∀ i, i < n → ∃ x, wr.cell? ⟨g, i, none⟩ = some x
  made : ∀ i, i < m → wr.cell? ⟨g, i, none⟩ = some (.slice (some ⟨rb i, 0, none⟩) C C)
  ofz : ∀ i, i < n → wr.frozen? ⟨g, i, none⟩ = false
  rge : ∀ i, i < m → w.heap.size ≤ rb i ∧ rb i ≠ g ∧ rb i < wr.heap.size
  inj : ∀ i j, i < m → j < m → rb i = rb j → i = j
  rows : ∀ i, i < m → RowIs wr (rb i) C (f i)
theorem GridB.later {w wr wn : World} {g n C m : Nat} {rb : Nat → Nat} {f : Nat → Nat → Value} (h : GridB w wr g n C m rb f) (hb : Below wr.heap.size wr wn) : GridB w wn g n C m rb f := by
  refine ⟨h.below.trans (hb.mono h.below.size), h.hg, fun i hi => ?_, fun i hi => ?_, fun i hi => ?_, fun i hi => ⟨(h.rge i hi).1, (h.rge i hi).2.1, Nat.lt_of_lt_of_le (h.rge i hi).2.2 hb.size⟩, h.inj, fun i hi => (h.rows i hi).later hb⟩
  · obtain ⟨x, hx⟩ := h.outer i hi
    exact ⟨x, by rw [hb.cell (cell_lt hx)]; exact hx⟩
  · rw [hb.cell (cell_lt (h.made i hi))]; exact h.made i hi
  · obtain ⟨x, hx⟩ := h.outer i hi
    rw [hb.frozen (cell_lt hx)]; exact h.ofz i hi
theorem gridB_start {w w2 : World} {g n C : Nat} {z : Value} (h : RowIs w2 g n (fun _ => z)) (hb : Below w.heap.size w w2) (hg : w.heap.size ≤ g) (rb : Nat → Nat) (f : Nat → Nat → Value) : GridB w w2 g n C 0 rb f :=
  ⟨hb, hg, fun i hi => ⟨z, h.row i hi⟩, fun i hi => by omega, fun i hi => h.fz i hi, fun i hi => by omega, fun i j hi => by omega, fun i hi => by omega⟩
/-- A row more. -/
theorem GridB.push {w wr w2 : World} {g n C m r : Nat} {rb : Nat → Nat} {f : Nat → Nat → Value} {z : Value} (h : GridB w wr g n C m rb f) (hm : m < n) (hb : Below wr.heap.size wr w2) (hr : wr.heap.size ≤ r) (hr2 : r < w2.heap.size) (hz : RowIs w2 r C (fun _ => z)) :
    GridB w (w2.setCell ⟨g, m, none⟩ (.slice (some ⟨r, 0, none⟩) C C)) g n C (m + 1) (fun i => if i = m then r else rb i) (fun i k => if i = m then z else f i k) := by
  have h2 := h.later hb
  obtain ⟨x, hx⟩ := h2.outer m hm
  obtain ⟨x0, hx0⟩ := h.outer m hm
  have hgl : g < wr.heap.size := cell_lt hx0
  have hgr : g ≠ r := by omega
  refine ⟨h2.below.setCell h.hg _, h.hg, fun i hi => ?_, fun i hi => ?_, fun i hi => ?_, fun i hi => ?_, fun i j hi hj e => ?_, fun i hi => ?_⟩
  · rw [put_cell _ hx]
    split
    · exact ⟨_, rfl⟩
    · exact h2.outer i hi
  · rw [put_cell _ hx]
    by_cases him : i = m
    · subst him; rw [if_pos rfl, if_pos rfl]
    · rw [if_neg (fun e => him (by simpa using congrArg Addr.off e)), if_neg him]
      exact h2.made i (by omega)
  · rw [World.frozen?_setCell]; exact h2.ofz i hi
  · by_cases him : i = m
    · subst him
      rw [if_pos rfl]
      have := h.below.size
      exact ⟨by omega, fun e => hgr e.symm, by simpa using hr2⟩
    · rw [if_neg him]; simpa using h2.rge i (by omega)
  · by_cases him : i = m
    · subst him
      by_cases hjm : j = i
      · exact hjm.symm
      · rw [if_pos rfl, if_neg hjm] at e
        have h5 := (h.rge j (by omega)).2.2
        omega
    · by_cases hjm : j = m
      · subst hjm
        rw [if_neg him, if_pos rfl] at e
        have h5 := (h.rge i (by omega)).2.2
        omega
      · rw [if_neg him, if_neg hjm] at e
        exact h.inj i j (by omega) (by omega) e
  · refine ⟨fun k hk => ?_, fun k hk => ?_⟩
    · rw [put_cell _ hx]
      by_cases him : i = m
      · subst him
        rw [if_pos rfl, if_pos rfl, if_neg (fun e => hgr (congrArg Addr.block e).symm)]
        exact hz.row k hk
      · rw [if_neg him, if_neg him, if_neg (fun e => (h.rge i (by omega)).2.1 (congrArg Addr.block e))]
        exact (h2.rows i (by omega)).row k hk
    · rw [World.frozen?_setCell]
      by_cases him : i = m
      · subst him; rw [if_pos rfl]; exact hz.fz k hk
      · rw [if_neg him]; exact (h2.rows i (by omega)).fz k hk
/-- A cell of a row is put. -/
theorem GridB.set {w wr : World} {g n C m : Nat} {rb : Nat → Nat} {f : Nat → Nat → Value} (h : GridB w wr g n C m rb f) {i k : Nat} (hi : i < m) (hk : k < C) (y : Value) {f' : Nat → Nat → Value} (hf : ∀ i' k', i' < m → k' < C → f' i' k' = if i' = i ∧ k' = k then y else f i' k') :
    GridB w (wr.setCell ⟨rb i, k, none⟩ y) g n C m rb f' := by
  have hx := (h.rows i hi).row k hk
  have hne := (h.rge i hi).2.1
  refine ⟨h.below.setCell (h.rge i hi).1 _, h.hg, fun j hj => ?_, fun j hj => ?_, fun j hj => ?_, fun j hj => by simpa using h.rge j hj, h.inj, fun j hj => ⟨fun c hc => ?_, fun c hc => ?_⟩⟩
  · rw [put_cell _ hx, if_neg (fun e => hne (congrArg Addr.block e).symm)]
    exact h.outer j hj
  · rw [put_cell _ hx, if_neg (fun e => hne (congrArg Addr.block e).symm)]
    exact h.made j hj
  · rw [World.frozen?_setCell]; exact h.ofz j hj
  · rw [put_cell _ hx, hf j c hj hc]
    by_cases hjc : j = i ∧ c = k
    · obtain ⟨rfl, rfl⟩ := hjc
      rw [if_pos rfl, if_pos ⟨rfl, rfl⟩]
    · rw [if_neg hjc, if_neg (fun e => hjc ⟨h.inj j i hj hi (congrArg Addr.block e), congrArg Addr.off e⟩)]
      exact (h.rows j hj).row c hc
  · rw [World.frozen?_setCell]; exact (h.rows j hj).fz c hc
theorem GridB.drewN {w wr : World} {g n C m : Nat} {rb : Nat → Nat} {f : Nat → Nat → Value} (h : GridB w wr g n C m rb f) : GridB w wr.drew g n C m rb f := h.later (Below.refl _ _).drew

/-- A table of cells, as one reads it. -/
def GridAt (w : World) (v : Value) (n C : Nat) (f : Nat → Nat → Value) : Prop := ∃ g o cap, v = .slice (some ⟨g, o, none⟩) n cap ∧ ∀ i, i < n → ∃ b o' cap', w.cell? ⟨g, o + i, none⟩ = some (.slice (some ⟨b, o', none⟩) C cap') ∧ ∀ k, k < C → w.cell? ⟨b, o' + k, none⟩ = some (f i k)
theorem GridAt.later {w w' : World} {v : Value} {n C : Nat} {f : Nat → Nat → Value} (h : GridAt w v n C f) (hb : Below w.heap.size w w') : GridAt w' v n C f := by
  obtain ⟨g, o, cap, hv, hr⟩ := h
  refine ⟨g, o, cap, hv, fun i hi => ?_⟩
  obtain ⟨b, o', cap', h1, h2⟩ := hr i hi
  exact ⟨b, o', cap', by rw [hb.cell (cell_lt h1)]; exact h1, fun k hk => by rw [hb.cell (cell_lt (h2 k hk))]; exact h2 k hk⟩
theorem GridAt.rowAt {w : World} {b o n C cap : Nat} {f : Nat → Nat → Value} (h : GridAt w (.slice (some ⟨b, o, none⟩) n cap) n C f) (i : Nat) (hi : i < n) : ∃ b1 o1 cap1, w.cell? ⟨b, o + i, none⟩ = some (.slice (some ⟨b1, o1, none⟩) C cap1) ∧ ∀ k, k < C → w.cell? ⟨b1, o1 + k, none⟩ = some (f i k) := by
  obtain ⟨b', o', cap', hv', hr'⟩ := h
  simp only [Value.slice.injEq, Option.some.injEq, Addr.mk.injEq, and_true, true_and] at hv'
  obtain ⟨⟨rfl, rfl⟩, rfl⟩ := hv'
  exact hr' i hi
theorem GridB.at {w wr : World} {g n C : Nat} {rb : Nat → Nat} {f : Nat → Nat → Value} (h : GridB w wr g n C n rb f) : GridAt wr (.slice (some ⟨g, 0, none⟩) n n) n C f :=
  ⟨g, 0, n, rfl, fun i hi => ⟨rb i, 0, C, by rw [Nat.zero_add]; exact h.made i hi, fun k hk => by rw [Nat.zero_add]; exact (h.rows i hi).row k hk⟩⟩
/-- The rows of a chain. -/
def RowsAt (w : World) (v : Value) (n : Nat) (zs : Nat → Nat → Int) : Prop := GridAt w v n n (fun i k => .int .i64 (zs i k))
theorem rowsAt_of_tab {w : World} {v : Value} {n : Nat} {vs : Nat → Value} {ns : Nat → Nat} {zs : Nat → Nat → Int} (h : TabAt w v n vs ns zs) (h0 : 0 < n) (he : ∀ i, i < n → ns i = n) : RowsAt w v n zs := by
  rcases h with ⟨_, _, _, h'⟩ | ⟨b, o, c, hv, _, hr⟩
  · omega
  · refine ⟨b, o, c, hv, fun i hi => ?_⟩
    obtain ⟨h1, h2⟩ := hr i hi
    rw [he i hi] at h2
    rcases h2 with ⟨_, _, _, h3⟩ | ⟨b1, o1, c1, hv1, _, hr1⟩
    · omega
    · exact ⟨b1, o1, c1, by rw [h1, hv1], hr1⟩
end Go.Proofs.YtdafknhbiffaoaaDoor

/- Who comes tq whom: by WARSHALL's rounds, and by looking on from what is found. Plain functions. -/
namespace Go.Proofs.YtdafknhbiffaoaaDoor

/-- Behind m rounds: a way whose states between are among the first m. -/
def war (e : Nat → Nat → Bool) : Nat → Nat → Nat → Bool
  | 0, i, k => e i k
  | m + 1, i, k => war e m i k || (war e m i m && war e m m k)
/-- A way of a step at least, within the first n states: the least relation that has single steps and is closed under a step ahead. -/
def Way (e : Nat → Nat → Bool) (n i k : Nat) : Prop :=
  ∀ R : Nat → Nat → Prop, (∀ i k, i < n → k < n → e i k = true → R i k) → (∀ i j k, i < n → j < n → e i j = true → R j k → R i k) → R i k
theorem Way.one {e : Nat → Nat → Bool} {n i k : Nat} (hi : i < n) (hk : k < n) (he : e i k = true) : Way e n i k := fun _ h1 _ => h1 i k hi hk he
theorem Way.more {e : Nat → Nat → Bool} {n i j k : Nat} (hi : i < n) (hj : j < n) (he : e i j = true) (h : Way e n j k) : Way e n i k := fun R h1 h2 => h2 i j k hi hj he (h R h1 h2)
/-- To show something of all ways: of one step, and of a step ahead of a way of which it holds. -/
theorem Way.ind {e : Nat → Nat → Bool} {n : Nat} {R : Nat → Nat → Prop} (h1 : ∀ i k, i < n → k < n → e i k = true → R i k) (h2 : ∀ i j k, i < n → j < n → e i j = true → Way e n j k → R j k → R i k) {i k : Nat} (h : Way e n i k) : R i k :=
  (h (fun i k => Way e n i k ∧ R i k) (fun i k hi hk he => ⟨.one hi hk he, h1 i k hi hk he⟩) (fun i j k hi hj he h' => ⟨.more hi hj he h'.1, h2 i j k hi hj he h'.1 h'.2⟩)).2
theorem Way.trans {e : Nat → Nat → Bool} {n i j k : Nat} (h : Way e n i j) (h' : Way e n j k) : Way e n i k :=
  Way.ind (R := fun i j => Way e n j k → Way e n i k) (fun _ _ a b c h' => .more a b c h') (fun _ _ _ a b c _ ih h' => .more a b c (ih h')) h h'
theorem Way.lt {e : Nat → Nat → Bool} {n i k : Nat} (h : Way e n i k) : i < n ∧ k < n :=
  Way.ind (R := fun i k => i < n ∧ k < n) (fun _ _ a b _ => ⟨a, b⟩) (fun _ _ _ a _ _ _ ih => ⟨a, ih.2⟩) h
theorem Way.last {e : Nat → Nat → Bool} {n i j k : Nat} (h : Way e n i j) (hk : k < n) (he : e j k = true) : Way e n i k := h.trans (.one h.lt.2 hk he)
theorem war_way {e : Nat → Nat → Bool} {n : Nat} : ∀ {m i k : Nat}, m ≤ n → i < n → k < n → war e m i k = true → Way e n i k
  | 0, i, k, _, hi, hk, h => .one hi hk h
  | m + 1, i, k, hm, hi, hk, h => by
    simp only [war, Bool.or_eq_true, Bool.and_eq_true] at h
    rcases h with h | ⟨h1, h2⟩
    · exact war_way (by omega) hi hk h
    · exact (war_way (by omega) hi (by omega) h1).trans (war_way (by omega) (by omega) hk h2)
theorem war_edge {e : Nat → Nat → Bool} {i k : Nat} (h : e i k = true) : ∀ m, war e m i k = true
  | 0 => h
  | m + 1 => by simp [war, war_edge h m]
theorem war_trans {e : Nat → Nat → Bool} : ∀ {m i j k : Nat}, j < m → war e m i j = true → war e m j k = true → war e m i k = true
  | 0, _, _, _, h, _, _ => by omega
  | m + 1, i, j, k, hj, h1, h2 => by
    simp only [war, Bool.or_eq_true, Bool.and_eq_true] at h1 h2 ⊢
    rcases Nat.lt_or_ge j m with hj' | hj'
    · rcases h1 with h1 | ⟨h1, h1'⟩
      · rcases h2 with h2 | ⟨h2, h2'⟩
        · exact Or.inl (war_trans hj' h1 h2)
        · exact Or.inr ⟨war_trans hj' h1 h2, h2'⟩
      · rcases h2 with h2 | ⟨h2, h2'⟩
        · exact Or.inr ⟨h1, war_trans hj' h1' h2⟩
        · exact Or.inr ⟨h1, h2'⟩
    · obtain rfl : j = m := by omega
      rcases h1 with h1 | ⟨h1, _⟩
      · rcases h2 with h2 | ⟨_, h2⟩
        · exact Or.inr ⟨h1, h2⟩
        · exact Or.inr ⟨h1, h2⟩
      · rcases h2 with h2 | ⟨_, h2⟩
        · exact Or.inr ⟨h1, h2⟩
        · exact Or.inr ⟨h1, h2⟩
theorem war_iff {e : Nat → Nat → Bool} {n i k : Nat} (hi : i < n) (hk : k < n) : war e n i k = true ↔ Way e n i k := by
  constructor
  · exact war_way (Nat.le_refl n) hi hk
  · exact Way.ind (R := fun i k => war e n i k = true) (fun _ _ _ _ h => war_edge h n) (fun _ _ _ _ hj h _ ih => war_trans hj (war_edge h n) ih)
/-- Within a round what is asked for does not change. -/
theorem war_row (e : Nat → Nat → Bool) (m i : Nat) : war e (m + 1) i m = war e m i m := by
  simp only [war]; cases war e m i m <;> simp
theorem war_col (e : Nat → Nat → Bool) (m k : Nat) : war e (m + 1) m k = war e m m k := by
  simp only [war]; cases war e m m k <;> simp

/-- The least state of a state's class. -/
def leastTo (tq : Nat → Nat → Bool) (i : Nat) : Nat → Nat → Nat
  | 0, d => d
  | k + 1, d => if tq i k = true ∧ tq k i = true then leastTo tq i k k else leastTo tq i k d
def least (tq : Nat → Nat → Bool) (i : Nat) : Nat := leastTo tq i i i
theorem leastTo_spec (tq : Nat → Nat → Bool) (i : Nat) : ∀ k d, (leastTo tq i k d = d ∧ ∀ j, j < k → ¬ (tq i j = true ∧ tq j i = true)) ∨ (leastTo tq i k d < k ∧ tq i (leastTo tq i k d) = true ∧ tq (leastTo tq i k d) i = true ∧ ∀ j, j < leastTo tq i k d → ¬ (tq i j = true ∧ tq j i = true))
  | 0, d => Or.inl ⟨rfl, fun j hj => by omega⟩
  | k + 1, d => by
    by_cases h : tq i k = true ∧ tq k i = true
    · rw [leastTo, if_pos h]
      rcases leastTo_spec tq i k k with ⟨h1, h2⟩ | ⟨h1, h2⟩
      · rw [h1]; exact Or.inr ⟨by omega, h.1, h.2, h2⟩
      · exact Or.inr ⟨by omega, h2⟩
    · rw [leastTo, if_neg h]
      rcases leastTo_spec tq i k d with ⟨h1, h2⟩ | ⟨h1, h2⟩
      · refine Or.inl ⟨h1, fun j hj => ?_⟩
        rcases Nat.lt_or_ge j k with h' | h'
        · exact h2 j h'
        · obtain rfl : j = k := by omega
          exact h
      · exact Or.inr ⟨by omega, h2⟩
theorem least_first {tq : Nat → Nat → Bool} {i k : Nat} (hk : k < i) (h1 : tq i k = true) (h2 : tq k i = true) (h : ∀ j, j < k → ¬ (tq i j = true ∧ tq j i = true)) : least tq i = k := by
  unfold least
  rcases leastTo_spec tq i i i with ⟨_, h'⟩ | ⟨_, h3, h4, h5⟩
  · exact absurd ⟨h1, h2⟩ (h' k hk)
  · rcases Nat.lt_trichotomy (leastTo tq i i i) k with hl | hl | hl
    · exact absurd ⟨h3, h4⟩ (h _ hl)
    · exact hl
    · exact absurd ⟨h1, h2⟩ (h5 k hl)
theorem least_none {tq : Nat → Nat → Bool} {i : Nat} (h : ∀ j, j < i → ¬ (tq i j = true ∧ tq j i = true)) : least tq i = i := by
  unfold least
  rcases leastTo_spec tq i i i with ⟨h1, _⟩ | ⟨h1, h2, h3, _⟩
  · exact h1
  · exact absurd ⟨h2, h3⟩ (h _ h1)
theorem least_le (tq : Nat → Nat → Bool) (i : Nat) : least tq i ≤ i := by
  unfold least
  rcases leastTo_spec tq i i i with ⟨h1, _⟩ | ⟨h1, _⟩ <;> omega
theorem least_own {tq : Nat → Nat → Bool} {i : Nat} (h : least tq i ≠ i) : tq i (least tq i) = true ∧ tq (least tq i) i = true := by
  unfold least at *
  rcases leastTo_spec tq i i i with ⟨h1, _⟩ | ⟨_, h2, h3, _⟩
  · exact absurd h1 h
  · exact ⟨h2, h3⟩
/-- Who can always come back. -/
def staysB (tq : Nat → Nat → Bool) (i : Nat) : Nat → Bool
  | 0 => true
  | k + 1 => staysB tq i k && !(tq i k && !tq k i)
theorem stays_iff (tq : Nat → Nat → Bool) (i : Nat) : ∀ n, staysB tq i n = true ↔ ∀ k, k < n → tq i k = true → tq k i = true
  | 0 => by simp [staysB]
  | n + 1 => by
    simp only [staysB, Bool.and_eq_true, Bool.not_eq_true', Bool.and_eq_false_iff, Bool.not_eq_false', stays_iff tq i n]
    constructor
    · rintro ⟨h1, h2⟩ k hk ht
      rcases Nat.lt_or_ge k n with h' | h'
      · exact h1 k h' ht
      · obtain rfl : k = n := by omega
        rcases h2 with h2 | h2
        · rw [h2] at ht; cases ht
        · exact h2
    · intro h
      refine ⟨fun k hk => h k (by omega), ?_⟩
      cases ht : tq i n
      · exact Or.inl rfl
      · exact Or.inr (h n (by omega) ht)
/-- The least states of closed classes among the first n, of N. -/
def closedL (tq : Nat → Nat → Bool) (N : Nat) : Nat → List Nat
  | 0 => []
  | n + 1 => if least tq n = n ∧ staysB tq n N = true then closedL tq N n ++ [n] else closedL tq N n
/-- States that can be come tq. -/
def classL (tq : Nat → Nat → Bool) (i : Nat) : Nat → List Nat
  | 0 => []
  | n + 1 => if tq i n = true then classL tq i n ++ [n] else classL tq i n
end Go.Proofs.YtdafknhbiffaoaaDoor

/- What is found by looking on from what is found. Plain lists. -/
namespace Go.Proofs.YtdafknhbiffaoaaDoor

theorem nodup_le : ∀ (n : Nat) (l : List Nat), l.Nodup → (∀ x, x ∈ l → x < n) → l.length ≤ n
  | 0, l, _, h => by
    cases l with
    | nil => simp
    | cons a r => exact absurd (h a (by simp)) (by omega)
  | n + 1, l, hn, h => by
    by_cases hm : n ∈ l
    · have h1 := nodup_le n (l.erase n) (hn.erase n) (fun x hx => by
        have := (hn.mem_erase_iff).1 hx
        have := h x this.2
        omega)
      rw [List.length_erase_of_mem hm] at h1
      omega
    · have h1 := nodup_le n l hn (fun x hx => by
        have := h x hx
        have : x ≠ n := fun e => hm (e ▸ hx)
        omega)
      omega

/-- Found from a state, by a step at least, not going on from one of them: the least set that has the first steps and is closed under steps from elsewhere. -/
def Found (e : Nat → Nat → Bool) (n : Nat) (wall : Int) (i k : Nat) : Prop :=
  ∀ R : Nat → Prop, (∀ k, k < n → e i k = true → R k) → (∀ j k, R j → (j : Int) ≠ wall → k < n → e j k = true → R k) → R k
theorem Found.one {e : Nat → Nat → Bool} {n i k : Nat} {wall : Int} (hk : k < n) (he : e i k = true) : Found e n wall i k := fun _ h1 _ => h1 k hk he
theorem Found.more {e : Nat → Nat → Bool} {n i j k : Nat} {wall : Int} (h : Found e n wall i j) (hw : (j : Int) ≠ wall) (hk : k < n) (he : e j k = true) : Found e n wall i k := fun R h1 h2 => h2 j k (h R h1 h2) hw hk he
theorem Found.ind {e : Nat → Nat → Bool} {n i : Nat} {wall : Int} {R : Nat → Prop} (h1 : ∀ k, k < n → e i k = true → R k) (h2 : ∀ j k, Found e n wall i j → R j → (j : Int) ≠ wall → k < n → e j k = true → R k) {k : Nat} (h : Found e n wall i k) : R k :=
  (h (fun k => Found e n wall i k ∧ R k) (fun k hk he => ⟨.one hk he, h1 k hk he⟩) (fun j k h' hw hk he => ⟨.more h'.1 hw hk he, h2 j k h'.1 h'.2 hw hk he⟩)).2
theorem Found.lt {e : Nat → Nat → Bool} {n i k : Nat} {wall : Int} (h : Found e n wall i k) : k < n := Found.ind (R := fun k => k < n) (fun _ hk _ => hk) (fun _ _ _ _ _ hk _ => hk) h
theorem found_way {e : Nat → Nat → Bool} {n i k : Nat} {wall : Int} (hi : i < n) (h : Found e n wall i k) : Way e n i k :=
  Found.ind (R := fun k => Way e n i k) (fun _ hk he => .one hi hk he) (fun _ _ _ ih _ hk he => ih.last hk he) h
theorem way_found {e : Nat → Nat → Bool} {n i j : Nat} (h : Way e n i j) : Found e n (-1) i j := by
  suffices H : ∀ {a b : Nat}, Way e n a b → ∀ i : Nat, (Found e n (-1) i a ∨ i = a) → Found e n (-1) i b from H h i (Or.inr rfl)
  intro a b h
  refine Way.ind (R := fun a b => ∀ i : Nat, (Found e n (-1) i a ∨ i = a) → Found e n (-1) i b) ?_ ?_ h
  · intro a k _ hk he i hi
    rcases hi with hi | rfl
    · exact .more hi (by omega) hk he
    · exact .one hk he
  · intro a j k _ hj he _ ih i hi
    rcases hi with hi | rfl
    · exact ih i (Or.inl (.more hi (by omega) hj he))
    · exact ih i (Or.inl (.one hj he))
theorem found_iff {e : Nat → Nat → Bool} {n i k : Nat} (hi : i < n) : Found e n (-1) i k ↔ Way e n i k := ⟨found_way hi, way_found⟩

/-- The list while one looks on: behind t of them, all steps of those are in it. -/
structure Looks (e : Nat → Nat → Bool) (n : Nat) (wall : Int) (i t : Nat) (l : List Nat) : Prop where
  nd : l.Nodup
  ok : ∀ k, k ∈ l → Found e n wall i k
  first : ∀ k, k < n → e i k = true → k ∈ l
  on : ∀ s, s < t → ∀ h : s < l.length, ((l[s] : Nat) : Int) ≠ wall → ∀ k, k < n → e l[s] k = true → k ∈ l
theorem Looks.len {e : Nat → Nat → Bool} {n i t : Nat} {wall : Int} {l : List Nat} (h : Looks e n wall i t l) : l.length ≤ n := nodup_le n l h.nd (fun x hx => (h.ok x hx).lt)
theorem Looks.done {e : Nat → Nat → Bool} {n i t : Nat} {wall : Int} {l : List Nat} (h : Looks e n wall i t l) (ht : l.length ≤ t) (k : Nat) : k ∈ l ↔ Found e n wall i k := by
  refine ⟨h.ok k, Found.ind (R := fun k => k ∈ l) (fun _ hk he => h.first _ hk he) (fun j k _ ih hw hk he => ?_)⟩
  obtain ⟨s, hs, hse⟩ := List.mem_iff_getElem.1 ih
  exact h.on s (by omega) hs (by rw [hse]; exact hw) _ hk (by rw [hse]; exact he)
/-- One more at the end. -/
theorem Looks.push {e : Nat → Nat → Bool} {n i t k : Nat} {wall : Int} {l : List Nat} (h : Looks e n wall i t l) (ht : t ≤ l.length) (hk : k ∉ l) (hf : Found e n wall i k) : Looks e n wall i t (l ++ [k]) := by
  refine ⟨?_, ?_, fun k' h1 h2 => by simp [h.first k' h1 h2], fun s hs hl hw k' h1 h2 => ?_⟩
  · rw [List.nodup_append]
    exact ⟨h.nd, by simp, by simp; intro a ha e; exact hk (e ▸ ha)⟩
  · intro k' hk'
    simp at hk'
    rcases hk' with hk' | rfl
    · exact h.ok k' hk'
    · exact hf
  · have hsl : s < l.length := by omega
    rw [List.getElem_append_left hsl] at hw h2
    simp [h.on s hs hsl hw k' h1 h2]
/-- The steps of the next one are all in it. -/
theorem Looks.next {e : Nat → Nat → Bool} {n i t : Nat} {wall : Int} {l : List Nat} (h : Looks e n wall i t l) (ht : t < l.length) (ha : ((l[t] : Nat) : Int) ≠ wall → ∀ k, k < n → e l[t] k = true → k ∈ l) : Looks e n wall i (t + 1) l := by
  refine ⟨h.nd, h.ok, h.first, fun s hs hl hw k hk he => ?_⟩
  rcases Nat.lt_or_ge s t with h' | h'
  · exact h.on s h' hl hw k hk he
  · obtain rfl : s = t := by omega
    exact ha hw k hk he
/-- The first ones. -/
def firstL (e : Nat → Nat → Bool) (i : Nat) : Nat → List Nat
  | 0 => []
  | k + 1 => if e i k = true then firstL e i k ++ [k] else firstL e i k
theorem firstL_mem (e : Nat → Nat → Bool) (i : Nat) : ∀ n k, k ∈ firstL e i n ↔ k < n ∧ e i k = true
  | 0, k => by simp [firstL]
  | n + 1, k => by
    rw [firstL]
    split
    · rename_i h
      simp only [List.mem_append, firstL_mem e i n k, List.mem_singleton]
      constructor
      · rintro (⟨h1, h2⟩ | rfl)
        · exact ⟨by omega, h2⟩
        · exact ⟨by omega, h⟩
      · rintro ⟨h1, h2⟩
        rcases Nat.lt_or_ge k n with h' | h'
        · exact Or.inl ⟨h', h2⟩
        · exact Or.inr (by omega)
    · rename_i h
      rw [firstL_mem e i n k]
      constructor
      · rintro ⟨h1, h2⟩; exact ⟨by omega, h2⟩
      · rintro ⟨h1, h2⟩
        rcases Nat.lt_or_ge k n with h' | h'
        · exact ⟨h', h2⟩
        · obtain rfl : k = n := by omega
          exact absurd h2 h
theorem firstL_nodup (e : Nat → Nat → Bool) (i : Nat) : ∀ n, (firstL e i n).Nodup
  | 0 => by simp [firstL]
  | n + 1 => by
    rw [firstL]
    split
    · rw [List.nodup_append]
      exact ⟨firstL_nodup e i n, by simp, by simp; intro a ha e; have := ((firstL_mem _ i n a).1 ha).1; omega⟩
    · exact firstL_nodup e i n
theorem looks_start (e : Nat → Nat → Bool) (n : Nat) (wall : Int) (i : Nat) : Looks e n wall i 0 (firstL e i n) :=
  ⟨firstL_nodup e i n, fun k hk => by have := (firstL_mem e i n k).1 hk; exact .one this.1 this.2, fun k h1 h2 => (firstL_mem e i n k).2 ⟨h1, h2⟩, fun s hs => by omega⟩
end Go.Proofs.YtdafknhbiffaoaaDoor

/- chain.reach. -/
namespace Go.Proofs.YtdafknhbiffaoaaDoor
open Go.RowKit

theorem Tryd.infoBool : (Tryd.prog.info? 4).map (fun i => (i.zero, i.size, i.bytes)) = some (some (.bool false), 1, 1) := by kernel_rfl
/-- Is there a step? -/
def edge (zs : Nat → Nat → Int) (i k : Nat) : Bool := decide (0 < zs i k)
/-- While a round goes on. -/
def during (e : Nat → Nat → Bool) (m i k i' k' : Nat) : Bool := if i' < i ∨ (i' = i ∧ k' < k) then war e (m + 1) i' k' else war e m i' k'
theorem during_own (e : Nat → Nat → Bool) (m i k : Nat) : during e m i k i k = war e m i k := by unfold during; rw [if_neg (by omega)]
theorem during_row (e : Nat → Nat → Bool) (m i k i' : Nat) : during e m i k i' m = war e m i' m := by unfold during; split; exact war_row e m i'; rfl
theorem during_col (e : Nat → Nat → Bool) (m i k k' : Nat) : during e m i k m k' = war e m m k' := by unfold during; split; exact war_col e m k'; rfl
theorem during_next (e : Nat → Nat → Bool) (m i k i' k' : Nat) : during e m i (k + 1) i' k' = if i' = i ∧ k' = k then war e (m + 1) i k else during e m i k i' k' := by
  by_cases h : i' = i ∧ k' = k
  · obtain ⟨rfl, rfl⟩ := h
    rw [if_pos ⟨rfl, rfl⟩]; unfold during; rw [if_pos (by omega)]
  · rw [if_neg h]; unfold during
    by_cases h2 : i' < i ∨ (i' = i ∧ k' < k)
    · rw [if_pos h2, if_pos (by omega)]
    · rw [if_neg h2, if_neg (by omega)]
theorem during_start (e : Nat → Nat → Bool) (m i' k' : Nat) : during e m 0 0 i' k' = war e m i' k' := by unfold during; rw [if_neg (by omega)]
theorem during_line (e : Nat → Nat → Bool) (m n i i' k' : Nat) (hk : k' < n) : during e m i n i' k' = during e m (i + 1) 0 i' k' := by
  unfold during
  by_cases h : i' < i ∨ (i' = i ∧ k' < n)
  · rw [if_pos h, if_pos (by omega)]
  · rw [if_neg h, if_neg (by omega)]
theorem during_end (e : Nat → Nat → Bool) (m n i' k' : Nat) (hi : i' < n) : during e m n 0 i' k' = war e (m + 1) i' k' := by unfold during; rw [if_pos (by omega)]

theorem GridB.congr {w wr : World} {g n C m : Nat} {rb : Nat → Nat} {f f' : Nat → Nat → Value} (h : GridB w wr g n C m rb f) (he : ∀ i k, i < m → k < C → f' i k = f i k) : GridB w wr g n C m rb f' :=
  ⟨h.below, h.hg, h.outer, h.made, h.ofz, h.rge, h.inj, fun i hi => ⟨fun k hk => by rw [he i k hi hk]; exact (h.rows i hi).row k hk, (h.rows i hi).fz⟩⟩

theorem heap_of_row {w : World} {B e s b n cap k : Nat} {xs : List Value} (h : w.ownsRow B e s (.slice (some ⟨b, 0, none⟩) n cap) k xs) : b < w.heap.size := by
  obtain ⟨hl, hr⟩ := h
  rcases hr with ⟨hx, _⟩ | ⟨g', cap', cur, hv, hb, hh, _⟩
  · cases hx
  · obtain ⟨rfl, _⟩ : b = g' ∧ _ := by simpa using hv
    exact heap_lt hh

end Go.Proofs.YtdafknhbiffaoaaDoor

/- chain.stays, leasts, closed, class. -/
namespace Go.Proofs.YtdafknhbiffaoaaDoor
open Go.RowKit

/-- A table of truths. -/
abbrev TruthAt (w : World) (v : Value) (n : Nat) (tq : Nat → Nat → Bool) : Prop := GridAt w v n n (fun i k => .bool (tq i k))
/-- States as a list in memory. -/
def natL (l : List Nat) : List Int := l.map fun x : Nat => (x : Int)
theorem natL_length (l : List Nat) : (natL l).length = l.length := by simp [natL]
theorem natL_push (l : List Nat) (k : Nat) : cellL (natL (l ++ [k])) = cellL (natL l) ++ [.int .i64 (k : Int)] := by simp [natL, cellL]
def StatesAt (w : World) (v : Value) (l : List Nat) : Prop := NumsAt w v l.length (fun i => ((l.getD i 0 : Nat) : Int))
theorem StatesAt.later {w w' : World} {v : Value} {l : List Nat} (h : StatesAt w v l) (hb : Below w.heap.size w w') : StatesAt w' v l := NumsAt.later h hb
theorem statesAt_row {w : World} {base : Nat} {v : Value} {l : List Nat} (h : w.ownsRow base 3 1 v l.length (cellL (natL l))) : StatesAt w v l := by
  have h1 : w.ownsRow base 3 1 v (natL l).length (cellL (natL l)) := by rw [natL_length]; exact h
  have h2 := numsAt_row h1
  rw [natL_length] at h2
  refine h2.congr fun i hi => ?_
  simp [atF, natL, hi]

end Go.Proofs.YtdafknhbiffaoaaDoor

/- The document's SameInts at equal ones. -/
namespace Go.Proofs.YtdafknhbiffaoaaDoor
open Go.RowKit

end Go.Proofs.YtdafknhbiffaoaaDoor

/- Lists of lists of numbers in memory. -/
namespace Go.Proofs.YtdafknhbiffaoaaDoor
open Go.RowKit

theorem Tryd.infoInts : (Tryd.prog.info? 22).map (fun i => (i.zero, i.size, i.bytes)) = some (some (.slice none 0 0), 1, 24) := by kernel_rfl
theorem own_past {w w' : World} {base : Nat} {t : TypeId} {sz : Nat} {v : Value} {n : Nat} {xs : List Value} (h : w.ownsRow base t sz v n xs) (hb : Below w.heap.size w w') : w'.ownsRow base t sz v n xs := by
  obtain ⟨hl, hr⟩ := h
  refine ⟨hl, ?_⟩
  rcases hr with hr | ⟨g, cap, cur, hv, hb1, hh, rest⟩
  · exact Or.inl hr
  · exact Or.inr ⟨g, cap, cur, hv, hb1, by rw [hb.block g (heap_lt hh)]; exact hh, rest⟩
/-- A row of another kind beside the one that is grown. -/
theorem own_beside {w w' : World} {b1 b2 : Nat} {t1 t2 : TypeId} {v u : Value} {n m s1 s2 : Nat} {xs ys : List Value} (h : w.ownsRow b1 t1 s1 v n xs) (k : w.ownsRow b2 t2 s2 u m ys) (ht : t1 ≠ t2) (hg : w.grownBy w' u.ownBlock) : w'.ownsRow b1 t1 s1 v n xs := by
  obtain ⟨hl, hr⟩ := h
  refine ⟨hl, ?_⟩
  rcases hr with hr | ⟨g, cap, cur, hv, hb1, hh, rest⟩
  · exact Or.inl hr
  · refine Or.inr ⟨g, cap, cur, hv, hb1, ?_, rest⟩
    rw [hg.block g (heap_lt hh) (fun e => ?_)]
    · exact hh
    · rcases k.2 with ⟨rfl, _⟩ | ⟨g', cap', cur', rfl, _, hh', _⟩
      · cases e
      · obtain rfl : g = g' := by simpa [Value.ownBlock] using e
        rw [hh] at hh'
        simp at hh'
        exact ht hh'.2
theorem own_put {w : World} {base : Nat} {t : TypeId} {sz : Nat} {v : Value} {n : Nat} {xs : List Value} (h : w.ownsRow base t sz v n xs) (a : Addr) (x : Value) (hne : v.ownBlock ≠ some a.block) : (w.setCell a x).ownsRow base t sz v n xs := by
  refine ⟨h.1, ?_⟩
  rcases h.2 with hn | ⟨g, cap, cur, hv, hg, hh, rest⟩
  · exact Or.inl hn
  · refine Or.inr ⟨g, cap, cur, hv, hg, ?_, rest⟩
    rw [Below.heap_setCell _ _ _ _ (fun e => hne (by rw [hv, ← e]; rfl))]
    exact hh

/-- A list of lists, to be read. -/
def LolAt (w : World) (v : Value) (L : List (List Int)) : Prop := ∃ ad cap, v = .slice ad L.length cap ∧ ∀ (i : Nat) (r : List Int), L[i]? = some r → ∃ b o u, ad = some ⟨b, o, none⟩ ∧ w.cell? ⟨b, o + i, none⟩ = some u ∧ NumsAt w u r.length (atF r)
theorem LolAt.later {w w' : World} {v : Value} {L : List (List Int)} (h : LolAt w v L) (hb : Below w.heap.size w w') : LolAt w' v L := by
  obtain ⟨ad, cap, rfl, h⟩ := h
  refine ⟨ad, cap, rfl, fun i r hr => ?_⟩
  obtain ⟨b, o, u, h1, h2, h3⟩ := h i r hr
  exact ⟨b, o, u, h1, by rw [hb.cell (cell_lt h2)]; exact h2, h3.later hb⟩
/-- One that is made: the list's own row, and that of each of its lists. -/
def LolOwn (Bo Br : Nat) (w : World) (v : Value) (L : List (List Int)) (vs : List Value) : Prop := w.ownsRow Bo 22 1 v L.length vs ∧ ∀ (i : Nat) (r : List Int), L[i]? = some r → ∃ u, vs[i]? = some u ∧ w.ownsRow Br 3 1 u r.length (cellL r)
theorem LolOwn.nil (Bo Br : Nat) (w : World) : LolOwn Bo Br w (.slice none 0 0) [] [] := ⟨⟨rfl, Or.inl ⟨rfl, rfl⟩⟩, fun i r h => by simp at h⟩
theorem LolOwn.later {Bo Br : Nat} {w w' : World} {v : Value} {L : List (List Int)} {vs : List Value} (h : LolOwn Bo Br w v L vs) (hb : Below w.heap.size w w') : LolOwn Bo Br w' v L vs :=
  ⟨own_past h.1 hb, fun i r hr => by obtain ⟨u, h1, h2⟩ := h.2 i r hr; exact ⟨u, h1, own_past h2 hb⟩⟩
theorem own_keep {w w' : World} {base : Nat} {t : TypeId} {sz : Nat} {v : Value} {n : Nat} {xs : List Value} (h : w.ownsRow base t sz v n xs) (hk : ∀ k, base ≤ k → k < w.heap.size → w'.heap[k]? = w.heap[k]?) : w'.ownsRow base t sz v n xs := by
  obtain ⟨hl, hr⟩ := h
  refine ⟨hl, ?_⟩
  rcases hr with hr | ⟨g, cap, cur, hv, hb1, hh, rest⟩
  · exact Or.inl hr
  · exact Or.inr ⟨g, cap, cur, hv, hb1, by rw [hk g hb1 (heap_lt hh)]; exact hh, rest⟩
theorem LolOwn.keep {B : Nat} {w w' : World} {v : Value} {L : List (List Int)} {vs : List Value} (h : LolOwn B B w v L vs) (hk : ∀ k, B ≤ k → k < w.heap.size → w'.heap[k]? = w.heap[k]?) : LolOwn B B w' v L vs :=
  ⟨own_keep h.1 hk, fun i r hr => by obtain ⟨u, h1, h2⟩ := h.2 i r hr; exact ⟨u, h1, own_keep h2 hk⟩⟩
theorem LolOwn.lol {Bo Br : Nat} {w : World} {v : Value} {L : List (List Int)} {vs : List Value} (h : LolOwn Bo Br w v L vs) : LolAt w v L := by
  obtain ⟨⟨hl, hr⟩, hv⟩ := h
  rcases hr with ⟨hv0, h0⟩ | ⟨g, cap, cur, hv0, _, hh, _, _, hs, ht⟩
  · rw [h0] at hl
    obtain rfl : L = [] := List.length_eq_zero_iff.1 h0
    exact ⟨none, 0, hv0, fun i r hr => by simp at hr⟩
  · refine ⟨_, cap, hv0, fun i r hr => ?_⟩
    obtain ⟨u, h1, h2⟩ := hv i r hr
    refine ⟨g, 0, u, rfl, ?_, numsAt_row h2⟩
    have hi : i < L.length := (List.getElem?_eq_some_iff.1 hr).1
    rw [← h1, ← ht, List.getElem?_take_of_lt (by omega), Nat.zero_add]
    simp [World.cell?, hh]
/-- Behind an append. -/
theorem LolOwn.push {Bo Br : Nat} {w w' : World} {v v' u : Value} {L : List (List Int)} {vs : List Value} {r : List Int} (h : LolOwn Bo Br w v L vs) (hr : w.ownsRow Br 3 1 u r.length (cellL r)) (hg : w.grownBy w' v.ownBlock) (ho : w'.ownsRow Bo 22 1 v' (L.length + 1) (vs ++ [u])) : LolOwn Bo Br w' v' (L ++ [r]) (vs ++ [u]) := by
  have hvl : vs.length = L.length := by have := h.1.1; simpa using this
  refine ⟨by rw [List.length_append]; exact ho, fun i q hq => ?_⟩
  rcases Nat.lt_or_ge i L.length with h1 | h1
  · rw [List.getElem?_append_left h1] at hq
    obtain ⟨x, h2, h3⟩ := h.2 i q hq
    exact ⟨x, by rw [List.getElem?_append_left (by omega)]; exact h2, own_beside h3 h.1 (by decide) hg⟩
  · rw [List.getElem?_append_right h1] at hq
    obtain ⟨rfl, h5⟩ : r = q ∧ i - L.length = 0 := by
      rcases hk : i - L.length with _ | k
      · rw [hk] at hq; exact ⟨by simpa using hq, rfl⟩
      · rw [hk] at hq; simp at hq
    exact ⟨u, by rw [List.getElem?_append_right (by omega), hvl, h5]; rfl, own_beside hr h.1 (by decide) hg⟩
theorem LolOwn.form {Bo Br : Nat} {w : World} {v : Value} {L : List (List Int)} {vs : List Value} (h : LolOwn Bo Br w v L vs) : ∃ ad cap, v = .slice ad L.length cap := by
  rcases h.1.2 with ⟨rfl, h0⟩ | ⟨g, cap, cur, rfl, _⟩
  · exact ⟨none, 0, by rw [h0]⟩
  · exact ⟨_, _, rfl⟩
theorem LolOwn.put {Bo Br : Nat} {w : World} {v : Value} {L : List (List Int)} {vs : List Value} (h : LolOwn Bo Br w v L vs) (a : Addr) (x : Value) (h1 : v.ownBlock ≠ some a.block) (h2 : a.block < Br) : LolOwn Bo Br (w.setCell a x) v L vs := by
  refine ⟨own_put h.1 a x h1, fun i r hr => ?_⟩
  obtain ⟨u, h3, h4⟩ := h.2 i r hr
  refine ⟨u, h3, own_put h4 a x (fun e => ?_)⟩
  rcases h4.2 with ⟨rfl, _⟩ | ⟨g, cap, cur, rfl, hge, _⟩
  · cases e
  · have : g = a.block := by simpa [Value.ownBlock] using e
    omega

theorem own_built {w : World} {base g : Nat} {t : TypeId} {cs : Array Value} (hg : base ≤ g) (hh : w.heap[g]? = some (.cells cs t)) (hc : cs.size ≤ 1000) : w.ownsRow base t 1 (.slice (some ⟨g, 0, none⟩) cs.size cs.size) cs.size cs.toList :=
  ⟨by simp, Or.inr ⟨g, cs.size, cs, rfl, hg, hh, Nat.le_refl _, by unfold maxLen; omega, by simp, by rw [Nat.mul_one, ← Array.length_toList, List.take_length]⟩⟩

end Go.Proofs.YtdafknhbiffaoaaDoor

/- A tree's rows in memory, as they grow. -/
namespace Go.Proofs.YtdafknhbiffaoaaDoor
open Go.RowKit

/-- T rows of numbers that grow, each in a block of its own, in a list that is made. -/
structure TreeS (w wr : World) (g B T : Nat) (ls : Nat → List Nat) (vs : Nat → Value) : Prop where
  below : Below w.heap.size w wr
  hg : w.heap.size ≤ g ∧ g < B ∧ B ≤ wr.heap.size
  cell : ∀ d, d < T → wr.cell? ⟨g, d, none⟩ = some (vs d)
  fz : ∀ d, d < T → wr.frozen? ⟨g, d, none⟩ = false
  rows : ∀ d, d < T → wr.ownsRow B 3 1 (vs d) (ls d).length (cellL (natL (ls d)))
  apart : ∀ d e, d < T → e < T → d ≠ e → ∀ b, (vs d).ownBlock = some b → (vs e).ownBlock ≠ some b
theorem TreeS.later {w wr wn : World} {g B T : Nat} {ls : Nat → List Nat} {vs : Nat → Value} (h : TreeS w wr g B T ls vs) (hb : Below wr.heap.size wr wn) : TreeS w wn g B T ls vs := by
  refine ⟨below_chain h.below hb, ⟨h.hg.1, h.hg.2.1, Nat.le_trans h.hg.2.2 hb.size⟩, fun d hd => ?_, fun d hd => ?_, fun d hd => own_past (h.rows d hd) hb, h.apart⟩
  · rw [hb.cell (cell_lt (h.cell d hd))]; exact h.cell d hd
  · rw [hb.frozen (cell_lt (h.cell d hd))]; exact h.fz d hd
theorem TreeS.congr {w wr : World} {g B T : Nat} {ls ls' : Nat → List Nat} {vs : Nat → Value} (h : TreeS w wr g B T ls vs) (he : ∀ d, d < T → ls d = ls' d) : TreeS w wr g B T ls' vs :=
  ⟨h.below, h.hg, h.cell, h.fz, fun d hd => by rw [← he d hd]; exact h.rows d hd, h.apart⟩
theorem own_grown {w w' : World} {b1 : Nat} {t1 : TypeId} {v : Value} {o : Option Nat} {n s1 : Nat} {xs : List Value} (h : w.ownsRow b1 t1 s1 v n xs) (hg : w.grownBy w' o) (hne : ∀ b, v.ownBlock = some b → o ≠ some b) : w'.ownsRow b1 t1 s1 v n xs := by
  obtain ⟨hl, hr⟩ := h
  refine ⟨hl, ?_⟩
  rcases hr with hr | ⟨g, cap, cur, hv, hb1, hh, rest⟩
  · exact Or.inl hr
  · refine Or.inr ⟨g, cap, cur, hv, hb1, ?_, rest⟩
    rw [hg.block g (heap_lt hh) (fun e => hne g (by rw [hv]; rfl) e.symm)]
    exact hh
theorem TreeS.push {w wr w3 : World} {g B T d k : Nat} {ls : Nat → List Nat} {vs : Nat → Value} {v' : Value} (h : TreeS w wr g B T ls vs) (hd : d < T) (hg : wr.grownBy w3 (vs d).ownBlock) (ho : w3.ownsRow B 3 1 v' ((ls d).length + 1) (cellL (natL (ls d)) ++ [.int .i64 (k : Int)])) (hat : ∀ b, v'.ownBlock = some b → (vs d).ownBlock = some b ∨ wr.heap.size ≤ b) :
    TreeS w (w3.setCell ⟨g, d, none⟩ v') g B T (fun e => if e = d then ls d ++ [k] else ls e) (fun e => if e = d then v' else vs e) := by
  obtain ⟨g1, g2, g3⟩ := h.hg
  have hlt := (h.rows d hd).lt
  have hne : (vs d).ownBlock ≠ some g := fun e => by have := (hlt g e).1; omega
  have hgl : g < wr.heap.size := by omega
  have hc : ∀ e, e < T → w3.cell? ⟨g, e, none⟩ = some (vs e) := fun e he => by
    rw [hg.cell_far ⟨g, e, none⟩ hgl (fun q => hne q.symm)]; exact h.cell e he
  have hf : ∀ e, e < T → w3.frozen? ⟨g, e, none⟩ = false := fun e he => by
    rw [hg.frozen_far ⟨g, e, none⟩ hgl (fun q => hne q.symm)]; exact h.fz e he
  have hlv : ∀ b, v'.ownBlock = some b → B ≤ b := fun b e => (ho.lt b e).1
  have hbl : Below w.heap.size w w3 := h.below.grown hg (Nat.le_trans (Nat.le_trans g1 (Nat.le_of_lt g2)) g3) (fun q e => by have := (hlt q e).1; omega)
  refine ⟨hbl.setCell g1 _, ⟨g1, g2, ?_⟩, fun e he => ?_, fun e he => by rw [World.frozen?_setCell]; exact hf e he, fun e he => ?_, fun e e' he he' hn b hb => ?_⟩
  · rw [World.size_setCell]; exact Nat.le_trans g3 hg.size
  · rw [put_cell _ (hc d hd)]
    by_cases hed : e = d
    · subst hed; rw [if_pos rfl, if_pos rfl]
    · rw [if_neg (fun q => hed (by simpa using congrArg Addr.off q)), if_neg hed]
      exact hc e he
  · by_cases hed : e = d
    · subst hed
      rw [if_pos rfl, if_pos rfl, natL_push, List.length_append]
      exact own_put ho _ _ (fun q => by have := hlv _ q; simp at this; omega)
    · rw [if_neg hed, if_neg hed]
      refine own_put (own_grown (h.rows e he) hg (fun b hb q => ?_)) _ _ (fun q => ?_)
      · exact h.apart e d he hd hed b hb q
      · have := ((h.rows e he).lt _ q).1
        simp at this; omega
  · by_cases hed : e = d
    · rw [if_pos hed] at hb
      rw [if_neg (fun q => hn (hed.trans q.symm))]
      intro q
      rcases hat b hb with h1 | h1
      · exact h.apart d e' hd he' (fun q' => hn (hed.trans q')) b h1 q
      · have := ((h.rows e' he').lt b q).2; omega
    · rw [if_neg hed] at hb
      by_cases hed' : e' = d
      · rw [if_pos hed']
        intro q
        rcases hat b q with h1 | h1
        · exact h.apart e d he hd hed b hb h1
        · have := ((h.rows e he).lt b hb).2; omega
      · rw [if_neg hed']; exact h.apart e e' he he' hn b hb
theorem tree_start {w w2 : World} {g T : Nat} (h : RowIs w2 g T (fun _ => .slice none 0 0)) (hb : Below w.heap.size w w2) (hg : w.heap.size ≤ g) (hg2 : g < w2.heap.size) : TreeS w w2 g w2.heap.size T (fun _ => []) (fun _ => .slice none 0 0) :=
  ⟨hb, ⟨hg, hg2, Nat.le_refl _⟩, fun d hd => h.row d hd, fun d hd => h.fz d hd, fun d hd => ⟨rfl, Or.inl ⟨rfl, rfl⟩⟩, fun d e hd he hn b hb => by cases hb⟩
/-- To be read. -/
theorem TreeS.tab {w wr : World} {g B T : Nat} {ls : Nat → List Nat} {vs : Nat → Value} (h : TreeS w wr g B T ls vs) (hT : 0 < T) (cap : Nat) : TabAt wr (.slice (some ⟨g, 0, none⟩) T cap) T vs (fun d => (ls d).length) (fun d i => (((ls d).getD i 0 : Nat) : Int)) :=
  Or.inr ⟨g, 0, cap, rfl, hT, fun d hd => ⟨by rw [Nat.zero_add]; exact h.cell d hd, statesAt_row (h.rows d hd)⟩⟩
end Go.Proofs.YtdafknhbiffaoaaDoor

/- The library contracts of slices.Clone, Min, Max and cmp.Compare laid at the numbers of this translation. -/
namespace Go.Proofs
open Go.Shelf
def Tryd.cloneA_ren : Go.Shelf.Ren := ⟨fun | 15 => 28 | n => n, fun | 22 => 22 | 3 => 3 | 4 => 4 | n => n, fun | n => n⟩
theorem Tryd.cloneA : Go.Proofs.Lays2.n15 Tryd.prog Tryd.cloneA_ren := {
  mixed := by kernel_rfl
  f15 := Tryd.func28.trans (congrArg some (by kernel_rfl))
  t3 := Tryd.underlying3
  a3 := Tryd.isAgg3
  z3 := Tryd.sizeOf3
  v3 := Tryd.zeroValue3
  t4 := Tryd.underlying4
  a4 := Tryd.isAgg4
  z4 := Tryd.sizeOf4
  v4 := Tryd.zeroValue4
  t22 := Tryd.underlying22
  a22 := Tryd.isAgg22
  z22 := Tryd.sizeOf22
  v22 := Tryd.zeroValue22
  i3 := by kernel_rfl }
def Tryd.maxA_ren : Go.Shelf.Ren := ⟨fun | 113 => 41 | n => n, fun | 28 => 22 | 3 => 3 | 4 => 4 | 9 => 9 | 20 => 20 | 0 => 0 | n => n, fun | n => n⟩
theorem Tryd.maxA : Go.Proofs.Lays.n113 Tryd.prog Tryd.maxA_ren := {
  mixed := by kernel_rfl
  f113 := Tryd.func41.trans (congrArg some (by kernel_rfl))
  t0 := Tryd.underlying0
  a0 := Tryd.isAgg0
  z0 := Tryd.sizeOf0
  v0 := Tryd.zeroValue0
  t3 := Tryd.underlying3
  a3 := Tryd.isAgg3
  z3 := Tryd.sizeOf3
  v3 := Tryd.zeroValue3
  t4 := Tryd.underlying4
  a4 := Tryd.isAgg4
  z4 := Tryd.sizeOf4
  v4 := Tryd.zeroValue4
  t9 := Tryd.underlying9
  a9 := Tryd.isAgg9
  z9 := Tryd.sizeOf9
  v9 := Tryd.zeroValue9
  t20 := Tryd.underlying20
  a20 := Tryd.isAgg20
  z20 := Tryd.sizeOf20
  v20 := Tryd.zeroValue20
  t28 := Tryd.underlying22
  a28 := Tryd.isAgg22
  z28 := Tryd.sizeOf22
  v28 := Tryd.zeroValue22 }
def Tryd.minA_ren : Go.Shelf.Ren := ⟨fun | 114 => 40 | n => n, fun | 28 => 22 | 3 => 3 | 4 => 4 | 9 => 9 | 20 => 20 | 0 => 0 | n => n, fun | n => n⟩
theorem Tryd.minA : Go.Proofs.Lays.n114 Tryd.prog Tryd.minA_ren := {
  mixed := by kernel_rfl
  f114 := Tryd.func40.trans (congrArg some (by kernel_rfl))
  t0 := Tryd.underlying0
  a0 := Tryd.isAgg0
  z0 := Tryd.sizeOf0
  v0 := Tryd.zeroValue0
  t3 := Tryd.underlying3
  a3 := Tryd.isAgg3
  z3 := Tryd.sizeOf3
  v3 := Tryd.zeroValue3
  t4 := Tryd.underlying4
  a4 := Tryd.isAgg4
  z4 := Tryd.sizeOf4
  v4 := Tryd.zeroValue4
  t9 := Tryd.underlying9
  a9 := Tryd.isAgg9
  z9 := Tryd.sizeOf9
  v9 := Tryd.zeroValue9
  t20 := Tryd.underlying20
  a20 := Tryd.isAgg20
  z20 := Tryd.sizeOf20
  v20 := Tryd.zeroValue20
  t28 := Tryd.underlying22
  a28 := Tryd.isAgg22
  z28 := Tryd.sizeOf22
  v28 := Tryd.zeroValue22 }
def Tryd.compareA_ren : Go.Shelf.Ren := ⟨fun | 122 => 50 | 215 => 65 | n => n, fun | 3 => 3 | 4 => 4 | n => n, fun | n => n⟩
theorem Tryd.compareA : Go.Proofs.Lays.n122 Tryd.prog Tryd.compareA_ren := {
  mixed := by kernel_rfl
  f122 := Tryd.func50.trans (congrArg some (by kernel_rfl))
  f215 := Tryd.func65.trans (congrArg some (by kernel_rfl))
  t3 := Tryd.underlying3
  a3 := Tryd.isAgg3
  z3 := Tryd.sizeOf3
  v3 := Tryd.zeroValue3
  t4 := Tryd.underlying4
  a4 := Tryd.isAgg4
  z4 := Tryd.sizeOf4
  v4 := Tryd.zeroValue4 }
end Go.Proofs

/- Bits of numbers that are not below 0, of the kind int. -/
namespace Go.Proofs.YtdafknhbiffaoaaDoor

theorem i64_low (z : Nat) (h : z < 2 ^ 63) : IntKind.i64.wrap (z : Int) = z := by
  simp [IntKind.wrap, IntKind.bits, IntKind.signed]
  omega
theorem i64_xorN (a b : Nat) (ha : a < 2 ^ 63) (hb : b < 2 ^ 63) : bits .xor .i64 (a : Int) (b : Int) = ((a ^^^ b : Nat) : Int) := by
  show IntKind.i64.wrap ((BitVec.ofInt 64 (a : Int) ^^^ BitVec.ofInt 64 (b : Int)).toNat : Int) = _
  rw [BitVec.toNat_xor, ofInt_u64 a (by omega), ofInt_u64 b (by omega)]
  exact i64_low _ (Nat.xor_lt_two_pow ha hb)
theorem i64_orN (a b : Nat) (ha : a < 2 ^ 63) (hb : b < 2 ^ 63) : bits .or .i64 (a : Int) (b : Int) = ((a ||| b : Nat) : Int) := by
  show IntKind.i64.wrap ((BitVec.ofInt 64 (a : Int) ||| BitVec.ofInt 64 (b : Int)).toNat : Int) = _
  rw [BitVec.toNat_or, ofInt_u64 a (by omega), ofInt_u64 b (by omega)]
  exact i64_low _ (Nat.or_lt_two_pow ha hb)
theorem i64_andN (a b : Nat) (ha : a < 2 ^ 63) (hb : b < 2 ^ 63) : bits .and .i64 (a : Int) (b : Int) = ((a &&& b : Nat) : Int) := by
  show IntKind.i64.wrap ((BitVec.ofInt 64 (a : Int) &&& BitVec.ofInt 64 (b : Int)).toNat : Int) = _
  rw [BitVec.toNat_and, ofInt_u64 a (by omega), ofInt_u64 b (by omega)]
  exact i64_low _ (Nat.and_lt_two_pow a hb)
theorem shr_nat (s a : Nat) : (s : Int) / 2 ^ a = ((s >>> a : Nat) : Int) := by
  rw [Nat.shiftRight_eq_div_pow]
  simp
theorem shr_le (s a : Nat) : s >>> a ≤ s := by
  rw [Nat.shiftRight_eq_div_pow]
  exact Nat.div_le_self _ _
theorem shl_wrap (a : Nat) (h : a < 63) : IntKind.i64.wrap (2 ^ a : Int) = (2 ^ a : Int) := by
  have h1 : (2 ^ a : Int) = ((2 ^ a : Nat) : Int) := by simp
  rw [h1]
  exact i64_low _ (Nat.pow_lt_pow_right (by decide) h)
end Go.Proofs.YtdafknhbiffaoaaDoor
