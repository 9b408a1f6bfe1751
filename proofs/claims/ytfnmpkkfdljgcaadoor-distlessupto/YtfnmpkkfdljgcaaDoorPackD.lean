/- The law's helper sign, of two that are told of sums. -/
import Derived.Test.YtfnmpkkfdljgcaaDoorPackB
import Derived.Test.YtfnmpkkfdljgcaaDoorPackC
import Derived.Test.YtfnmpkkfdljgcaaDoorRows
import Derived.Test.YtfnmpkkfdljgcaaDoorErrs
import Derived.ChangeSame
import Derived.ChangeVars
import Derived.JoinedOf
import Derived.LaidLaws
import Derived.LaidHandle
import Derived.LaidMore
import Derived.Stop.Joined
import Derived.Test.YtfnmpkkfdljgcaaDoorInts
import Derived.Test.YtfnmpkkfdljgcaaDoorCards
import Derived.Test.YtfnmpkkfdljgcaaDoorTie
import Derived.SevenTiedAt
import Derived.ProofKit
import Derived.OpenShut
import Derived.ChangeOld
import Derived.Lib.SmallJoins
import Derived.Deep.Matrix
import Derived.Deep.DeepHandedRow
import Derived.Deep.DeepWitnessRowRef
namespace Go.Proofs.YtfnmpkkfdljgcaaDoor
open Go.RowKit

theorem okTo_neg {p c : Nat → Int} : ∀ k, OkTo p c k → OkTo p (fun i => -c i) k := by
  intro k h i hi
  obtain ⟨h1, h2, h3, h4, h5, h6, h7⟩ := h i hi
  exact ⟨h1, h2, by show -c i ≠ 0; omega, by show _ ≤ -c i; omega, by show -c i ≤ _; omega, h6, h7⟩
theorem gcdTo_neg (d : Int) (c : Nat → Int) : ∀ k, gcdTo d (fun i => -c i) k = gcdTo d c k
  | 0 => rfl
  | k + 1 => by
    show Int.gcd (gcdTo d (fun i => -c i) k : Int) (-c k) = Int.gcd (gcdTo d c k : Int) (c k)
    rw [gcdTo_neg d c k, Int.gcd_neg]
theorem okLog_neg {d : Int} {n : Nat} {p c : Nat → Int} (h : OkLog d n p c) : OkLog d n p (fun i => -c i) :=
  ⟨h.1, h.2.1, okTo_neg n h.2.2.1, by rw [gcdTo_neg]; exact h.2.2.2⟩
def negL (t : List (Int × Int)) : List (Int × Int) := t.map fun e => (e.1, -e.2)
theorem negL_parts (t : List (Int × Int)) : pOf (negL t) = pOf t ∧ cOf (negL t) = (fun i => -cOf t i) ∧ (negL t).length = t.length := by
  refine ⟨?_, ?_, by simp [negL]⟩
  · funext i
    unfold pOf negL
    simp only [List.getD_eq_getElem?_getD, List.getElem?_map]
    cases t[i]? <;> rfl
  · funext i
    unfold cOf negL
    simp only [List.getD_eq_getElem?_getD, List.getElem?_map]
    cases t[i]? <;> rfl
theorem negL_at : ∀ (t : List (Int × Int)) (x : Int), atL (negL t) x = -atL t x
  | [], _ => rfl
  | e :: r, x => by
    have ih := negL_at r x
    unfold negL at ih ⊢
    simp only [List.map_cons, atL]
    rw [ih]
    split <;> simp
theorem ownAt_put {w : World} {v : Value} {n : Nat} {p c : Nat → Int} {B : Nat} {ad : Option Addr} {l cap : Nat} {x y : Value} (h : OwnAt w v n p c) (hx : w.cell? ⟨B, 1, none⟩ = some (.slice ad l cap)) : OwnAt ((w.setCell ⟨B, 0, none⟩ x).setCell ⟨B, 1, none⟩ y) v n p c := by
  rcases Nat.eq_zero_or_pos n with h0 | h0
  · subst h0
    rcases h with h | ⟨g, cap, hv, _⟩
    · exact Or.inl h
    · exact Or.inr ⟨g, cap, hv, fun i hi => by omega⟩
  · exact h.set h0 hx
/-- The sides of a difference. -/
theorem by_sides2 {d M U D : Nat} {t : List (Int × Int)} {F : Int → Int} (hok : OkLog d t.length (pOf t) (cOf t)) (hv : ∀ x, (M : Int) * atL t x = (d : Int) * F x) (hU : 0 < U) (hD : 0 < D) (hm : ∀ q : Nat, Pr q → F (q : Int) = (mult q U : Int) - (mult q D : Int)) :
    sideUp (pOf t) (cOf t) 1 t.length ^ M * D ^ d = sideDown (pOf t) (cOf t) 1 t.length ^ M * U ^ d ∧ 0 < sideUp (pOf t) (cOf t) 1 t.length ∧ 0 < sideDown (pOf t) (cOf t) 1 t.length := by
  have h2 : Pr 2 := ⟨by omega, fun d hd hdd => by have := Nat.mul_le_mul hd hd; omega⟩
  obtain ⟨_, a1, a2⟩ := hok.side 1 h2
  refine ⟨eq_of_mult _ _ (Nat.mul_pos (Nat.pow_pos a1) (Nat.pow_pos hD)) (Nat.mul_pos (Nat.pow_pos a2) (Nat.pow_pos hU)) (fun q hq => ?_), a1, a2⟩
  have e1 := (hok.side 1 hq).1
  have e2 := hv (q : Int)
  rw [hm q hq] at e2
  rw [mult_mul hq _ _ (Nat.pow_pos a1) (Nat.pow_pos hD), mult_mul hq _ _ (Nat.pow_pos a2) (Nat.pow_pos hU), mult_power hq a1, mult_power hq a2, mult_power hq hD, mult_power hq hU]
  generalize mult q (sideUp (pOf t) (cOf t) 1 t.length) = A at *
  generalize mult q (sideDown (pOf t) (cOf t) 1 t.length) = B at *
  generalize mult q U = u at *
  generalize mult q D = e at *
  generalize atL t (q : Int) = z at *
  apply Int.ofNat_inj.1
  simp only [Int.natCast_add, Int.natCast_mul]
  have h3 : (A : Int) = B + z := by omega
  rw [h3]
  grind
theorem cmp_ge {su sd M d U D : Nat} (h : su ^ M * D ^ d = sd ^ M * U ^ d) (hM : 0 < M) (h1 : 0 < su) (h2 : 0 < sd) (hU : 0 < U) (hle : D ≤ U) : 0 ≤ cmpOf su sd := by
  obtain ⟨_, o2, o3⟩ := sides_order h (Nat.pow_pos h1) (Nat.pow_pos h2)
  have hp := Nat.pow_le_pow_left hle d
  rcases Nat.lt_or_ge (D ^ d) (U ^ d) with h3 | h3
  · have := (pow_order hM).1 (o2 h3)
    rw [cmpOf_gt this]
    decide
  · have := (pow_order hM).2 (o3 (by omega) (Nat.pow_pos hU))
    rw [cmpOf_eq this]
    decide
theorem diff_val {M G1 G2 e1 e2 d : Nat} {t1 t2 t : List (Int × Int)} {f1 f2 : Int → Int} (hM1 : M = G1 * e1) (hM2 : M = G2 * e2) (hM : 0 < M) (v1 : ∀ x, f1 x = (G1 : Int) * atL t1 x) (v2 : ∀ x, f2 x = (G2 : Int) * atL t2 x) (hs : ∀ x, atL t x * ((e1 : Int) * (e2 : Int)) = (atL t1 x * (e2 : Int) + atL (negL t2) x * (e1 : Int)) * (d : Int)) : ∀ x, (M : Int) * atL t x = (d : Int) * (f1 x - f2 x) := fun x => by
  have h := hs x
  rw [negL_at] at h
  rw [v1 x, v2 x]
  have m1 : (M : Int) = (G1 : Int) * (e1 : Int) := by rw [hM1]; simp
  have m2 : (M : Int) = (G2 : Int) * (e2 : Int) := by rw [hM2]; simp
  generalize atL t x = T at *
  generalize atL t1 x = A at *
  generalize atL t2 x = B at *
  refine Int.eq_of_mul_eq_mul_left (show (M : Int) ≠ 0 by omega) ?_
  have k1 : (M : Int) * ((M : Int) * T) = (G1 : Int) * (G2 : Int) * (T * ((e1 : Int) * (e2 : Int))) := by
    calc (M : Int) * ((M : Int) * T) = ((G1 : Int) * (e1 : Int)) * (((G2 : Int) * (e2 : Int)) * T) := by rw [← m1, ← m2]
      _ = _ := by grind
  rw [k1, h]
  have k2 : (M : Int) * ((d : Int) * ((G1 : Int) * A - (G2 : Int) * B)) = (d : Int) * ((G1 : Int) * A * (M : Int) - (G2 : Int) * B * (M : Int)) := by grind
  rw [k2]
  have k3 : (G1 : Int) * A * (M : Int) = (G1 : Int) * A * ((G2 : Int) * (e2 : Int)) := by rw [← m2]
  have k4 : (G2 : Int) * B * (M : Int) = (G2 : Int) * B * ((G1 : Int) * (e1 : Int)) := by rw [← m1]
  rw [k3, k4]
  grind

set_option maxRecDepth 100000 in
set_option maxHeartbeats 2000000 in
theorem sign_by {M b1 b2 : Nat} {f1 f2 : Int → Int} {d1 d2 : Int} {v1 v2 : Value} {U D : Nat} (a : Nat → Addr) (w : World) (hE : Errs w a) (h1 : LogBy b1 M f1 w d1 v1) (h2 : LogBy b2 M f2 w d2 v2) (hM : 1 ≤ M) (hM6 : M ≤ 1000000) (p1 : Prim f1) (p2 : Prim f2) (hU : 0 < U) (hD : 0 < D) (hm : ∀ q : Nat, Pr q → f1 (q : Int) - f2 (q : Int) = (mult q U : Int) - (mult q D : Int)) (hle : D ≤ U) :
    Calls Tryd.prog 22 #[.agg #[.int .i64 d1, v1], .agg #[.int .i64 d2, v2]] w fun e w' => (∃ z : Int, 0 ≤ z ∧ e = .returned (.int .i64 z)) ∧ Below w.heap.size w w' := by
  obtain ⟨t1, e1, G1, rfl, l1, n1, m1, g1, w1', o1⟩ := h1.ok hM hM6 p1
  obtain ⟨t2, e2, G2, rfl, l2, n2, m2, g2, w2', o2⟩ := h2.ok hM hM6 p2
  obtain ⟨ad1, k1, cap1, rfl⟩ := h1.form
  obtain ⟨ad2, k2, cap2, rfl⟩ := h2.form
  clear h1 h2
  obtain ⟨W0, hW0⟩ : ∃ W0, W0 = (w.alloc (.cells #[.int .i64 (e1 : Int), .slice ad1 k1 cap1] 37)).alloc (.cells #[.int .i64 (e2 : Int), .slice ad2 k2 cap2] 37) := ⟨_, rfl⟩
  have hb0 : Below w.heap.size w W0 := by rw [hW0]; exact below_chain (new_below _ _) (new_below _ _)
  have HC0 : Hid (∀ W, Below W0.heap.size W0 W → (W.cell? ⟨w.heap.size, 0, none⟩ = some (.int .i64 (e1 : Int)) ∧ W.cell? ⟨w.heap.size, 1, none⟩ = some (.slice ad1 k1 cap1)) ∧ (W.cell? ⟨w.heap.size + 1, 0, none⟩ = some (.int .i64 (e2 : Int)) ∧ W.cell? ⟨w.heap.size + 1, 1, none⟩ = some (.slice ad2 k2 cap2))) := fun W hb => by
    have hr := hb
    rw [hW0] at hr
    have r2 := res_past hr
    rw [World.size_alloc] at r2
    have r1 := res_past (w := w) (below_chain (new_below _ _) hr)
    exact ⟨⟨r1.1, r1.2.1⟩, r2.1, r2.2.1⟩
  have hsc := Scale_back (e2 : Int) (.slice ad2 k2 cap2) t2.length (pOf t2) (cOf t2) a W0 (hE.below hb0) (listAt_log (l2.later hb0)) o2 (by omega)
  obtain ⟨np, nc, nl⟩ := negL_parts t2
  have o2' : OkLog e2 (negL t2).length (pOf (negL t2)) (cOf (negL t2)) := by rw [np, nc, nl]; exact okLog_neg o2
  have HAD : Hid (∀ (W : World) (v : Value), Below W0.heap.size W0 W → OwnAt W v t2.length (pOf t2) (fun i => -cOf t2 i) → Calls Tryd.prog 20 #[.agg #[.int .i64 (e1 : Int), .slice ad1 k1 cap1], .agg #[.int .i64 (e2 : Int), v]] W fun e w' => ((∃ d t v, SumOk e1 e2 t1 (negL t2) d t ∧ e = .returned (.tuple #[.agg #[.int .i64 (d : Nat), v], .nilIface]) ∧ ListAt w' v t) ∨ ∃ ad, e = .returned (.tuple #[.agg #[.int .i64 0, .slice none 0 0], .iface 156 (.pointer (some ad))])) ∧ Below W.heap.size W w') := fun W v hb hv => by
    have hv' : ListAt W v (negL t2) := by unfold ListAt; rw [np, nc, nl]; exact hv
    refine (Add_all e1 e2 _ v t1 (negL t2) a W (hE.below (below_chain hb0 hb)) (listAt_log ((l1.later hb0).later hb)) (listAt_log hv') (by omega)).mono ?_
    rintro e w' ⟨h | ⟨_, h⟩, hb'⟩
    · exact ⟨Or.inl h, hb'⟩
    · exact ⟨Or.inr h, hb'⟩
  have HSG : Hid (∀ (W : World) (d : Nat) (t : List (Int × Int)) (v : Value), Below W0.heap.size W0 W → SumOk e1 e2 t1 (negL t2) d t → ListAt W v t → Calls Tryd.prog 23 #[.agg #[.int .i64 (d : Int), v]] W fun e w' => ((∃ z : Int, 0 ≤ z ∧ e = .returned (.tuple #[.int .i64 z, .nilIface])) ∨ ∃ ad, e = .returned (.tuple #[.int .i64 0, .iface 156 (.pointer (some ad))])) ∧ Below W.heap.size W w') := fun W d t v hb hs hl => by
    have hok := hs.ok
    have hval := hs.2.2.1.val
    have hlen := hs.2.2.1.len
    simp only [Int.toNat_natCast] at hval
    have hd := diff_val m1 m2 hM w1' w2' hval
    obtain ⟨s1, s2, s3⟩ := by_sides2 hok hd hU hD hm
    have hc := cmp_ge s1 hM s2 s3 hU hle
    by_cases hfit : cost (pOf t) (cOf t) t.length ≤ 40000
    · refine (Sign_log d v t.length (pOf t) (cOf t) a true true (by simpa using hok) (by simpa using hfit) W (hE.below (below_chain hb0 hb)) (listAt_log hl) (by omega)).mono ?_
      rintro e w' ⟨rfl, hb'⟩
      exact ⟨Or.inl ⟨_, hc, rfl⟩, hb'⟩
    · refine (Sign_log d v t.length (pOf t) (cOf t) a true false (by simpa using hok) (by simpa using hfit) W (hE.below (below_chain hb0 hb)) (listAt_log hl) (by omega)).mono ?_
      rintro e w' ⟨rfl, hb'⟩
      exact ⟨Or.inr ⟨_, rfl⟩, hb'⟩
  have HB0 := Hid.mk' hb0
  have HW0 := Hid.mk' hW0
  have c00 := HC0.out W0 (Below.refl _ _)
  obtain ⟨⟨x0, x1⟩, y0, y1⟩ := c00
  clear hE hb0 hW0 o1 o2 o2' l1 l2 w1' w2' hm hle np nc nl
  go_enter Tryd.func22, Tryd.ntmps22
  go_upto_region 1 with fail
  rw [← HW0.out]
  go_wp2_with fail
  refine hsc.mono ?_
  clear hsc x0 x1 y0 y1
  rintro e w1 ⟨v1, rfl, hv1, hb1⟩
  obtain ⟨ad3, k3, cap3, rfl⟩ := ownAt_slice hv1
  obtain ⟨W1, hW1⟩ : ∃ W1, W1 = w1.alloc (.cells #[.int .i64 (e2 : Int), .slice ad3 k3 cap3] 37) := ⟨_, rfl⟩
  have hb01 : Below W0.heap.size W0 W1 := by rw [hW1]; exact below_chain hb1 (new_below _ _)
  have hv1' : OwnAt W1 (.slice ad3 k3 cap3) t2.length (pOf t2) (fun i => -cOf t2 i) := by rw [hW1]; exact hv1.later (new_below _ _)
  have HC1 : Hid (∀ W, Below W1.heap.size W1 W → W.cell? ⟨w1.heap.size, 0, none⟩ = some (.int .i64 (e2 : Int)) ∧ W.cell? ⟨w1.heap.size, 1, none⟩ = some (.slice ad3 k3 cap3) ∧ W.frozen? ⟨w1.heap.size, 0, none⟩ = false ∧ W.frozen? ⟨w1.heap.size, 1, none⟩ = false) := fun W hb => by
    rw [hW1] at hb
    exact res_past hb
  have hB1 : W0.heap.size ≤ w1.heap.size := hb1.size
  have had := HAD.out W1 _ hb01 hv1'
  obtain ⟨⟨x0, x1⟩, _, _⟩ := HC0.out W1 hb01
  obtain ⟨y0, y1, _, _⟩ := HC1.out W1 (Below.refl _ _)
  have HW1 := Hid.mk' hW1
  have HB01 := Hid.mk' hb01
  clear hv1 hb1 hv1' hb01 hW1 HAD
  go_upto_region 2 with fail
  rw [← HW1.out]
  clear HW1
  go_wp2_with fail
  refine had.mono ?_
  clear had x0 x1 y0 y1
  rintro e w2 ⟨⟨d, t, v2, hs, rfl, hl2⟩ | ⟨ad, rfl⟩, hb2⟩
  · obtain ⟨ad4, k4, cap4, rfl⟩ := ownAt_slice hl2
    obtain ⟨z0, z1, f0, f1⟩ := HC1.out w2 hb2
    obtain ⟨W2, hW2⟩ : ∃ W2, W2 = (w2.setCell ⟨w1.heap.size, 0, none⟩ (.int .i64 (d : Int))).setCell ⟨w1.heap.size, 1, none⟩ (.slice ad4 k4 cap4) := ⟨_, rfl⟩
    have hb02 : Below W0.heap.size W0 W2 := by rw [hW2]; exact ((below_chain HB01.out hb2).setCell hB1 _).setCell hB1 _
    have hl2' : ListAt W2 (.slice ad4 k4 cap4) t := by rw [hW2]; exact ownAt_put hl2 z1
    have q0 : W2.cell? ⟨w1.heap.size, 0, none⟩ = some (.int .i64 (d : Int)) := by
      rw [hW2, World.cell?_setCell_other _ _ _ _ (by simp)]
      exact World.cell?_setCell_same _ _ _ z0
    have q1 : W2.cell? ⟨w1.heap.size, 1, none⟩ = some (.slice ad4 k4 cap4) := by
      rw [hW2]
      exact World.cell?_setCell_same _ _ _ (by rw [World.cell?_setCell_other _ _ _ _ (by simp)]; exact z1)
    have hsg := HSG.out W2 d t _ hb02 hs hl2'
    have HB2 := Hid.mk' (below_chain HB0.out hb02)
    have HW2 := Hid.mk' hW2
    clear hs hl2 hb2 hb02 hl2' hW2 HSG HC0
    go_upto_region 5 with fail
    rw [← HW2.out]
    clear HW2 z0 z1 f0 f1
    go_wp2_with fail
    refine hsg.mono ?_
    clear hsg
    rintro e w3 ⟨⟨z, hz, rfl⟩ | ⟨ad, rfl⟩, hb3⟩
    · have HB3 := Hid.mk' (below_chain HB2.out hb3)
      clear hb3
      go_wp2_with fail
      go_ret
      exact ⟨⟨z, hz, rfl⟩, HB3.out⟩
    · have HB3 := Hid.mk' (below_chain HB2.out hb3)
      clear hb3
      go_wp2_with fail
      go_ret
      exact ⟨⟨2, by omega, rfl⟩, HB3.out⟩
  · obtain ⟨z0, z1, f0, f1⟩ := HC1.out w2 hb2
    have HB2 := Hid.mk' (below_chain (below_chain HB0.out HB01.out) hb2)
    have hB1' : w.heap.size ≤ w1.heap.size := by have := HB0.out.size; omega
    clear hb2 HSG HC0
    go_wp2_with fail
    go_ret
    exact ⟨⟨2, by omega, rfl⟩, (HB2.out.setCell hB1' _).setCell hB1' _⟩
end Go.Proofs.YtfnmpkkfdljgcaaDoor

/- dist.Rows and dist.Columns. -/
namespace Go.Proofs.YtfnmpkkfdljgcaaDoor
open Go.RowKit

set_option maxRecDepth 100000 in
set_option maxHeartbeats 1000000 in
theorem Rows_ok (a : Nat → Addr) (ad : Option Addr) (R cap N : Nat) (vs : Nat → Value) (ns : Nat → Nat) (zs : Nat → Nat → Int) (w : World) (hE : Errs w a) (h : TabAt w (.slice ad R cap) R vs ns zs) (hR : R ≤ 40) (hs : sumT ns R ≤ 400) (h0 : tabErr R ns zs = 0) (hk : OkT R ns zs N) :
    Calls Tryd.prog 9 #[.slice ad R cap] w fun e w' => ∃ g cp, e = .returned (.tuple #[.slice (some ⟨g, 0, none⟩) R cp, .nilIface]) ∧ RowAt w' g 0 R (rowSum ns zs) ∧ Below w.heap.size w w' := by
  have ht := Table_any a _ R vs ns zs w hE h hR hs
  rw [h0, errV_zero] at ht
  have HI : Hid (∀ W, Below w.heap.size w W → Calls Tryd.prog 27 #[.slice ad R cap] W fun e w' => ∃ g cp, e = .returned (.slice (some ⟨g, 0, none⟩) R cp) ∧ RowAt w' g 0 R (rowSum ns zs) ∧ Below W.heap.size W w') := fun W hb => rowSums_any ad R cap N vs ns zs W (h.later hb) hk
  clear hE h h0
  go_enter Tryd.func9, Tryd.ntmps9
  go_wp2_with (first
    | (go_at_call 26; refine ht.mono ?_; rintro e w1 ⟨rfl, hb1⟩; have HB1 := Hid.mk' hb1; clear hb1)
    | (go_at_call 27; refine (HI.out w1 HB1.out).mono ?_; rintro e w2 ⟨g, cp, rfl, hr2, hb2⟩; have HR2 := Hid.mk' hr2; have HB2 := Hid.mk' (HB1.out.trans (hb2.mono HB1.out.size)); clear hr2 hb2))
  go_ret2
  exact ⟨g, cp, rfl, HR2.out, HB2.out⟩
set_option maxRecDepth 100000 in
set_option maxHeartbeats 1000000 in
theorem Rows_bad (a : Nat → Addr) (v : Value) (R : Nat) (vs : Nat → Value) (ns : Nat → Nat) (zs : Nat → Nat → Int) (w : World) (hE : Errs w a) (h : TabAt w v R vs ns zs) (hR : R ≤ 40) (hs : sumT ns R ≤ 400) (h0 : tabErr R ns zs ≠ 0) :
    Calls Tryd.prog 9 #[v] w fun e w' => e = .returned (.tuple #[.slice none 0 0, errV a (tabErr R ns zs)]) ∧ Below w.heap.size w w' := by
  obtain ⟨ad, cap, rfl⟩ := h.form
  have ht := Table_any a _ R vs ns zs w hE h hR hs
  rw [errV_pos a h0] at ht ⊢
  clear hE h h0
  go_enter Tryd.func9, Tryd.ntmps9
  go_wp2_with (go_at_call 26; refine ht.mono ?_; rintro e w1 ⟨rfl, hb1⟩; have HB1 := Hid.mk' hb1; clear hb1)
  go_ret2
  exact ⟨rfl, HB1.out⟩

set_option maxRecDepth 100000 in
set_option maxHeartbeats 1000000 in
theorem Columns_ok (a : Nat → Addr) (ad : Option Addr) (R cap N : Nat) (vs : Nat → Value) (ns : Nat → Nat) (zs : Nat → Nat → Int) (w : World) (hE : Errs w a) (h : TabAt w (.slice ad R cap) R vs ns zs) (hR : R ≤ 40) (hs : sumT ns R ≤ 400) (h0 : tabErr R ns zs = 0) (hk : OkT R ns zs N) :
    Calls Tryd.prog 11 #[.slice ad R cap] w fun e w' => ∃ g cp, e = .returned (.tuple #[.slice (some ⟨g, 0, none⟩) (ns 0) cp, .nilIface]) ∧ RowAt w' g 0 (ns 0) (colV zs R) ∧ Below w.heap.size w w' := by
  have ht := Table_any a _ R vs ns zs w hE h hR hs
  rw [h0, errV_zero] at ht
  have HI : Hid (∀ W, Below w.heap.size w W → Calls Tryd.prog 29 #[.slice ad R cap] W fun e w' => ∃ g cp, e = .returned (.slice (some ⟨g, 0, none⟩) (ns 0) cp) ∧ RowAt w' g 0 (ns 0) (colV zs R) ∧ Below W.heap.size W w') := fun W hb => columnSums_any ad R cap N vs ns zs W (h.later hb) hk
  clear hE h h0
  go_enter Tryd.func11, Tryd.ntmps11
  go_wp2_with (first
    | (go_at_call 26; refine ht.mono ?_; rintro e w1 ⟨rfl, hb1⟩; have HB1 := Hid.mk' hb1; clear hb1)
    | (go_at_call 29; refine (HI.out w1 HB1.out).mono ?_; rintro e w2 ⟨g, cp, rfl, hr2, hb2⟩; have HR2 := Hid.mk' hr2; have HB2 := Hid.mk' (HB1.out.trans (hb2.mono HB1.out.size)); clear hr2 hb2))
  go_ret2
  exact ⟨g, cp, rfl, HR2.out, HB2.out⟩
set_option maxRecDepth 100000 in
set_option maxHeartbeats 1000000 in
theorem Columns_bad (a : Nat → Addr) (v : Value) (R : Nat) (vs : Nat → Value) (ns : Nat → Nat) (zs : Nat → Nat → Int) (w : World) (hE : Errs w a) (h : TabAt w v R vs ns zs) (hR : R ≤ 40) (hs : sumT ns R ≤ 400) (h0 : tabErr R ns zs ≠ 0) :
    Calls Tryd.prog 11 #[v] w fun e w' => e = .returned (.tuple #[.slice none 0 0, errV a (tabErr R ns zs)]) ∧ Below w.heap.size w w' := by
  obtain ⟨ad, cap, rfl⟩ := h.form
  have ht := Table_any a _ R vs ns zs w hE h hR hs
  rw [errV_pos a h0] at ht ⊢
  clear hE h h0
  go_enter Tryd.func11, Tryd.ntmps11
  go_wp2_with (go_at_call 26; refine ht.mono ?_; rintro e w1 ⟨rfl, hb1⟩; have HB1 := Hid.mk' hb1; clear hb1)
  go_ret2
  exact ⟨rfl, HB1.out⟩

end Go.Proofs.YtfnmpkkfdljgcaaDoor

/- The law DistLess. -/
namespace Go.Proofs.YtfnmpkkfdljgcaaDoor
open Go.RowKit

theorem weightsErr_of {z : Nat → Int} {n : Nat} (hn : n ≤ 16) (h : OkW z n) : weightsErr z n = 0 := by
  unfold weightsErr listErr
  rw [if_neg (by omega)]
  have h1 : ¬ (negB z n = true ∨ someB z n = false) := by
    rintro (h1 | h1)
    · obtain ⟨i, hi, hz⟩ := (negB_iff z n).1 h1
      have := h.nn i hi
      omega
    · have h2 : ∀ i, i < n → z i = 0 := fun i hi => by
        have := h.nn i hi
        rcases Int.lt_or_le 0 (z i) with h3 | h3
        · have := (someB_iff z n).2 ⟨i, hi, h3⟩
          rw [h1] at this
          cases this
        · omega
      have h3 : sumN z n = 0 := by
        rw [sumN_congr h2]
        exact sumN_zero n
      have := h.pos
      omega
  rw [if_neg h1, if_neg (by have := h.le; omega)]
theorem cols_ok {R N : Nat} {ns : Nat → Nat} {zs : Nat → Nat → Int} (h : OkT R ns zs N) : OkW (colV zs R) (ns 0) ∧ sumN (colV zs R) (ns 0) = N := by
  have h1 : sumN (colV zs R) (ns 0) = N := by
    have h2 := h.tot
    have h3 : sumN (fun i => sumN (zs i) (ns i)) R = sumN (fun i => sumN (fun j => zs i j) (ns 0)) R := sumN_congr fun i hi => by rw [h.even i hi]
    rw [h3, sumN_swap] at h2
    exact h2
  have := h.n1
  have := h.n6
  exact ⟨⟨fun j hj => (h.col (Nat.le_refl R) hj).1, by omega, by omega⟩, h1⟩

set_option maxRecDepth 100000 in
set_option maxHeartbeats 4000000 in
theorem DistLess_ok (a : Nat → Addr) (ad : Option Addr) (R cap : Nat) (vs : Nat → Value) (ns : Nat → Nat) (zs : Nat → Nat → Int) (w : World) (hE : Errs w a) (k : TabAt w (.slice ad R cap) R vs ns zs) (hm : R ≤ maxLen) (hs : sumT ns R ≤ 2000000) (hf1 : R ≤ 40) (hf2 : sumT ns R ≤ 400) (h0 : tabErr R ns zs = 0) :
    Calls Tryd.prog 5 #[.slice ad R cap] w fun e w' => e = .returned (.bool true) ∧ Below w.heap.size w w' := by
  have hC := coin_any a w hE
  have HFW : Hid (∀ W, Below w.heap.size w W → Calls Tryd.prog 7 #[.slice ad R cap] W fun e w' => e = .returned (.bool true) ∧ Below W.heap.size W w') := fun W hb => few_any _ R vs ns zs W (k.later hb) hm hs true ⟨fun _ => ⟨hf1, hf2⟩, fun _ => rfl⟩
  obtain ⟨hR16, _, _, hok, hn256⟩ := tabErr_ok h0
  obtain ⟨N, hkT, hNN⟩ := tabErr_okT h0
  have HTE : Hid (∀ W, Below w.heap.size w W → Calls Tryd.prog 8 #[.slice ad R cap] W fun e w' => e = .returned (.int .i64 0) ∧ Below W.heap.size W w') := fun W hb => by
    have := TableError_any _ R vs ns zs W (k.later hb) hf1 hf2
    rw [h0] at this
    exact this
  have HLI : Hid (∀ W, Below w.heap.size w W → Calls Tryd.prog 10 #[.slice ad R cap] W fun e w' => ∃ ad' cap' us, e = .returned (.slice ad' R cap') ∧ TabAt w' (.slice ad' R cap') R us ns zs ∧ Below W.heap.size W w') := fun W hb => by
    refine (lists_any _ R vs ns zs W (k.later hb) hf1 hf2).mono ?_
    rintro e w' ⟨v, us, rfl, hv, hb'⟩
    obtain ⟨ad', cap', rfl⟩ := hv.form
    exact ⟨ad', cap', us, rfl, hv, hb'⟩
  have HCO : Hid (∀ (W : World) (ad' : Option Addr) (cap' : Nat) (us : Nat → Value), Below w.heap.size w W → TabAt W (.slice ad' R cap') R us ns zs → Calls Tryd.prog 11 #[.slice ad' R cap'] W fun e w' => ∃ g cp, e = .returned (.tuple #[.slice (some ⟨g, 0, none⟩) (ns 0) cp, .nilIface]) ∧ RowAt w' g 0 (ns 0) (colV zs R) ∧ Below W.heap.size W w') := fun W ad' cap' us hb hv => Columns_ok a ad' R cap' N us ns zs W (hE.below hb) hv hf1 hf2 h0 hkT
  have HEN : Hid (∀ (W : World) (g cp : Nat), Below w.heap.size w W → RowAt W g 0 (ns 0) (colV zs R) → Calls Tryd.prog 16 #[.slice (some ⟨g, 0, none⟩) (ns 0) cp] W fun e w' => ∃ dn v, e = .returned (.tuple #[.agg #[.int .i64 dn, v], .nilIface]) ∧ LogBy W.heap.size N (fun x => sumN (entV (colV zs R) N x) (ns 0)) w' dn v ∧ Below W.heap.size W w') := fun W g cp hb hr => Entropy_ok a g 0 cp (ns 0) N (colV zs R) W (hE.below hb) hr (weightsErr_of hkT.c16 (cols_ok hkT).1) (cols_ok hkT).2 (cols_ok hkT).1.nn hkT.c16 hkT.n1 hkT.n6 hkT.c0
  have HGI : Hid (∀ (W : World) (ad' : Option Addr) (cap' : Nat) (us : Nat → Value), Below w.heap.size w W → TabAt W (.slice ad' R cap') R us ns zs → Calls Tryd.prog 18 #[.slice ad' R cap'] W fun e w' => ∃ dn v, e = .returned (.tuple #[.agg #[.int .i64 dn, v], .nilIface]) ∧ LogBy W.heap.size N (fun x => sumN (givV ns zs x) R) w' dn v ∧ Below W.heap.size W w') := fun W ad' cap' us hb hv => Given_ok a ad' R cap' N _ us ns zs _ W (hE.below hb) hv hf1 hf2 h0 hkT rfl rfl hNN
  have HMU : Hid (∀ (W : World) (ad' : Option Addr) (cap' : Nat) (us : Nat → Value), Below w.heap.size w W → TabAt W (.slice ad' R cap') R us ns zs → Calls Tryd.prog 19 #[.slice ad' R cap'] W fun e w' => ∃ dn v, e = .returned (.tuple #[.agg #[.int .i64 dn, v], .nilIface]) ∧ LogBy W.heap.size N (fun x => sumN (fun i => sumN (mutV (zs i) (rowSum ns zs i) (colV zs R) N x) (ns 0)) R) w' dn v ∧ Below W.heap.size W w') := fun W ad' cap' us hb hv => Mutual_ok a ad' R cap' N us ns zs W (hE.below hb) hv hf1 hf2 h0 hkT
  obtain ⟨U, D, hU, hD, hle, hmu⟩ := told_sides hkT
  have hN6 : N ≤ 1000000 := by have := hkT.n6; omega
  have HSI : Hid (∀ (W : World) (b1 b2 : Nat) (d1 d2 : Int) (v1 v2 : Value), Below w.heap.size w W → LogBy b1 N (fun x => sumN (entV (colV zs R) N x) (ns 0)) W d1 v1 → LogBy b2 N (fun x => sumN (givV ns zs x) R) W d2 v2 → Calls Tryd.prog 22 #[.agg #[.int .i64 d1, v1], .agg #[.int .i64 d2, v2]] W fun e w' => (∃ z : Int, 0 ≤ z ∧ e = .returned (.int .i64 z)) ∧ Below W.heap.size W w') := fun W b1 b2 d1 d2 v1 v2 hb l1 l2 => sign_by a W (hE.below hb) l1 l2 hkT.n1 hN6 (ent_prim hkT) (giv_prim hkT) hU hD (fun q hq => by rw [less_told hkT]; exact hmu q hq) hle
  have HSG : Hid (∀ (W : World) (b : Nat) (d : Int) (v : Value), Below w.heap.size w W → LogBy b N (fun x => sumN (fun i => sumN (mutV (zs i) (rowSum ns zs i) (colV zs R) N x) (ns 0)) R) W d v → Calls Tryd.prog 23 #[.agg #[.int .i64 d, v]] W fun e w' => ((∃ z : Int, 0 ≤ z ∧ e = .returned (.tuple #[.int .i64 z, .nilIface])) ∨ ∃ ad, e = .returned (.tuple #[.int .i64 0, .iface 156 (.pointer (some ad))])) ∧ Below W.heap.size W w') := fun W b d v hb hl => by
    refine (Sign_by a W (hE.below hb) hl hkT.n1 hN6 (mut_prim hkT) hU hD hmu).mono ?_
    rintro e w' ⟨⟨z, rfl, k1, k2, k3⟩ | rfl, hb'⟩
    · refine ⟨Or.inl ⟨z, ?_, rfl⟩, hb'⟩
      rcases Nat.lt_or_ge D U with h1 | h1
      · rw [k1 h1]; decide
      · rw [k2 (by omega)]; decide
    · exact ⟨Or.inr ⟨_, rfl⟩, hb'⟩
  clear hE k h0 hok hn256 hNN hkT hU hD hle hmu hN6
  go_enter Tryd.func5, Tryd.ntmps5
  go_wp2_with (first
    | (go_at_call 6; refine hC.mono ?_; rintro e w1 ⟨rfl, hb1⟩; have HB1 := Hid.mk' hb1; clear hb1)
    | (go_at_call 7; refine (HFW.out w1 HB1.out).mono ?_; rintro e w2 ⟨rfl, hb2⟩; have HB2 := Hid.mk' (below_chain HB1.out hb2); clear hb2)
    | (go_at_call 8; refine (HTE.out w2 HB2.out).mono ?_; rintro e w3 ⟨rfl, hb3⟩; have HB3 := Hid.mk' (below_chain HB2.out hb3); clear hb3))
  refine (HLI.out w3 HB3.out).mono ?_
  clear hC HFW HTE
  rintro e w4 ⟨ad4, cap4, us4, rfl, ht4, hb4⟩
  have HB4 := Hid.mk' (below_chain HB3.out hb4)
  have hco := HCO.out w4 _ _ us4 HB4.out ht4
  clear ht4 hb4 HCO
  go_wp2_with fail
  refine hco.mono ?_
  clear hco
  rintro e w5 ⟨g5, cp5, rfl, hr5, hb5⟩
  have HB5 := Hid.mk' (below_chain HB4.out hb5)
  have hen := HEN.out w5 g5 cp5 HB5.out hr5
  clear hr5 hb5 HEN
  go_wp2_with fail
  refine hen.mono ?_
  clear hen
  rintro e w6 ⟨dn6, v6, rfl, hl6, hb6⟩
  obtain ⟨ad6, n6, cap6, rfl⟩ := hl6.form
  obtain ⟨W6, hW6⟩ : ∃ W6, W6 = w6.alloc (.cells #[.int .i64 dn6, .slice ad6 n6 cap6] 37) := ⟨_, rfl⟩
  have HL6 : Hid (∀ W, Below W6.heap.size W6 W → LogBy w5.heap.size N (fun x => sumN (entV (colV zs R) N x) (ns 0)) W dn6 (.slice ad6 n6 cap6)) := fun W hb => by rw [hW6] at hb; exact (hl6.later (new_below _ _)).later hb
  have HC6 : Hid (∀ W, Below W6.heap.size W6 W → W.cell? ⟨w6.heap.size, 0, none⟩ = some (.int .i64 dn6) ∧ W.cell? ⟨w6.heap.size, 1, none⟩ = some (.slice ad6 n6 cap6)) := fun W hb => by
    rw [hW6] at hb
    have := res_past hb
    exact ⟨this.1, this.2.1⟩
  have HB6 : Hid (Below w.heap.size w W6) := by rw [hW6]; exact more_below (below_chain HB5.out hb6) _
  have HW6 := Hid.mk' hW6
  clear hl6 hb6 hW6
  go_upto_region 6 with fail
  rw [← HW6.out]
  clear HW6
  go_wp2_with fail
  refine (HLI.out W6 HB6.out).mono ?_
  rintro e w7 ⟨ad7, cap7, us7, rfl, ht7, hb7⟩
  have HB67 := Hid.mk' hb7
  have hgi := HGI.out w7 _ _ us7 (below_chain HB6.out hb7) ht7
  clear ht7 hb7 HGI
  go_wp2_with fail
  refine hgi.mono ?_
  clear hgi
  rintro e w8 ⟨dn8, v8, rfl, hl8, hb8⟩
  obtain ⟨ad8, n8, cap8, rfl⟩ := hl8.form
  obtain ⟨W8, hW8⟩ : ∃ W8, W8 = w8.alloc (.cells #[.int .i64 dn8, .slice ad8 n8 cap8] 37) := ⟨_, rfl⟩
  have HL8 : Hid (∀ W, Below W8.heap.size W8 W → LogBy w7.heap.size N (fun x => sumN (givV ns zs x) R) W dn8 (.slice ad8 n8 cap8)) := fun W hb => by rw [hW8] at hb; exact (hl8.later (new_below _ _)).later hb
  have HC8 : Hid (∀ W, Below W8.heap.size W8 W → W.cell? ⟨w8.heap.size, 0, none⟩ = some (.int .i64 dn8) ∧ W.cell? ⟨w8.heap.size, 1, none⟩ = some (.slice ad8 n8 cap8)) := fun W hb => by
    rw [hW8] at hb
    have := res_past hb
    exact ⟨this.1, this.2.1⟩
  have HB68 : Hid (Below W6.heap.size W6 W8) := by rw [hW8]; exact more_below (below_chain HB67.out hb8) _
  have HB8 := Hid.mk' (below_chain HB6.out HB68.out)
  have HW8 := Hid.mk' hW8
  clear hl8 hb8 hW8
  go_upto_region 7 with fail
  rw [← HW8.out]
  clear HW8
  go_wp2_with fail
  refine (HLI.out W8 HB8.out).mono ?_
  rintro e w9 ⟨ad9, cap9, us9, rfl, ht9, hb9⟩
  have HB89 := Hid.mk' hb9
  have hmu := HMU.out w9 _ _ us9 (below_chain HB8.out hb9) ht9
  clear ht9 hb9 HMU HLI
  go_wp2_with fail
  refine hmu.mono ?_
  clear hmu
  rintro e w10 ⟨dn10, v10, rfl, hl10, hb10⟩
  obtain ⟨ad10, n10, cap10, rfl⟩ := hl10.form
  obtain ⟨W10, hW10⟩ : ∃ W10, W10 = w10.alloc (.cells #[.int .i64 dn10, .slice ad10 n10 cap10] 37) := ⟨_, rfl⟩
  have HL10 : Hid (∀ W, Below W10.heap.size W10 W → LogBy w9.heap.size N (fun x => sumN (fun i => sumN (mutV (zs i) (rowSum ns zs i) (colV zs R) N x) (ns 0)) R) W dn10 (.slice ad10 n10 cap10)) := fun W hb => by rw [hW10] at hb; exact (hl10.later (new_below _ _)).later hb
  have HC10 : Hid (∀ W, Below W10.heap.size W10 W → W.cell? ⟨w10.heap.size, 0, none⟩ = some (.int .i64 dn10) ∧ W.cell? ⟨w10.heap.size, 1, none⟩ = some (.slice ad10 n10 cap10)) := fun W hb => by
    rw [hW10] at hb
    have := res_past hb
    exact ⟨this.1, this.2.1⟩
  have HB810 : Hid (Below W8.heap.size W8 W10) := by rw [hW10]; exact more_below (below_chain HB89.out hb10) _
  have HB10 := Hid.mk' (below_chain HB8.out HB810.out)
  have HW10 := Hid.mk' hW10
  clear hl10 hb10 hW10
  have hsi := HSI.out W10 _ _ dn6 dn8 _ _ HB10.out (HL6.out W10 (below_chain HB68.out HB810.out)) (HL8.out W10 HB810.out)
  obtain ⟨x0, x1⟩ := HC6.out W10 (below_chain HB68.out HB810.out)
  obtain ⟨y0, y1⟩ := HC8.out W10 HB810.out
  clear HC6 HC8 HL6 HL8
  go_upto_region 8 with fail
  rw [← HW10.out]
  clear HW10
  go_wp2_with fail
  refine hsi.mono ?_
  clear hsi x0 x1 y0 y1
  rintro e w11 ⟨⟨z, hz, rfl⟩, hb11⟩
  obtain ⟨x0, x1⟩ := HC10.out w11 hb11
  have HB11 := Hid.mk' (below_chain HB10.out hb11)
  have hsg := HSG.out w11 _ dn10 _ HB11.out (HL10.out w11 hb11)
  clear hb11
  go_wp2_with fail
  refine hsg.mono ?_
  clear hsg x0 x1
  rintro e w12 ⟨⟨z', hz', rfl⟩ | ⟨ad', rfl⟩, hb12⟩
  · have HB12 := Hid.mk' (below_chain HB11.out hb12)
    clear hb12
    go_wp2_with fail
    go_ret
    exact ⟨rfl, HB12.out⟩
  · have HB12 := Hid.mk' (below_chain HB11.out hb12)
    clear hb12
    go_wp2_with fail
    go_ret
    exact ⟨rfl, HB12.out⟩

set_option maxRecDepth 100000 in
set_option maxHeartbeats 2000000 in
theorem DistLess_all (a : Nat → Addr) (ad : Option Addr) (R cap : Nat) (vs : Nat → Value) (ns : Nat → Nat) (zs : Nat → Nat → Int) (w : World) (hE : Errs w a) (k : TabAt w (.slice ad R cap) R vs ns zs) (hm : R ≤ maxLen) (hs : sumT ns R ≤ 2000000) :
    Calls Tryd.prog 5 #[.slice ad R cap] w fun e w' => e = .returned (.bool true) ∧ Below w.heap.size w w' := by
  by_cases hf : R ≤ 40 ∧ sumT ns R ≤ 400
  · by_cases h0 : tabErr R ns zs = 0
    · exact DistLess_ok a ad R cap vs ns zs w hE k hm hs hf.1 hf.2 h0
    · have hC := coin_any a w hE
      have HFW : Hid (∀ W, Below w.heap.size w W → Calls Tryd.prog 7 #[.slice ad R cap] W fun e w' => e = .returned (.bool true) ∧ Below W.heap.size W w') := fun W hb => few_any _ R vs ns zs W (k.later hb) hm hs true ⟨fun _ => hf, fun _ => rfl⟩
      have HTE : Hid (∀ W, Below w.heap.size w W → Calls Tryd.prog 8 #[.slice ad R cap] W fun e w' => e = .returned (.int .i64 (tabErr R ns zs : Int)) ∧ Below W.heap.size W w') := fun W hb => TableError_any _ R vs ns zs W (k.later hb) hf.1 hf.2
      generalize tabErr R ns zs = c at *
      clear hE k
      have hcb : (0 : Int) < (c : Int) := by omega
      go_enter Tryd.func5, Tryd.ntmps5
      go_wp2_with (first
        | (go_at_call 6; refine hC.mono ?_; rintro e w1 ⟨rfl, hb1⟩; have HB1 := Hid.mk' hb1; clear hb1)
        | (go_at_call 7; refine (HFW.out w1 HB1.out).mono ?_; rintro e w2 ⟨rfl, hb2⟩; have HB2 := Hid.mk' (below_chain HB1.out hb2); clear hb2)
        | (go_at_call 8; refine (HTE.out w2 HB2.out).mono ?_; rintro e w3 ⟨rfl, hb3⟩; have HB3 := Hid.mk' (below_chain HB2.out hb3); clear hb3))
      go_ret
      exact ⟨rfl, HB3.out⟩
  · have hC := coin_any a w hE
    have HFW : Hid (∀ W, Below w.heap.size w W → Calls Tryd.prog 7 #[.slice ad R cap] W fun e w' => e = .returned (.bool false) ∧ Below W.heap.size W w') := fun W hb => few_any _ R vs ns zs W (k.later hb) hm hs false ⟨(fun e => by cases e), (fun e => absurd e hf)⟩
    clear hE k hf
    go_enter Tryd.func5, Tryd.ntmps5
    go_wp2_with (first
      | (go_at_call 6; refine hC.mono ?_; rintro e w1 ⟨rfl, hb1⟩; have HB1 := Hid.mk' hb1; clear hb1)
      | (go_at_call 7; refine (HFW.out w1 HB1.out).mono ?_; rintro e w2 ⟨rfl, hb2⟩; have HB2 := Hid.mk' (below_chain HB1.out hb2); clear hb2))
    go_ret
    exact ⟨rfl, HB2.out⟩
end Go.Proofs.YtfnmpkkfdljgcaaDoor

/- What the rows' condition on package variables gives a walk: two sentinels. -/
namespace Go.Proofs.YtfnmpkkfdljgcaaDoor
open Go.ChangeShapes Go.WideShapes Go.RowKit

theorem Tryd.own : ownKnob Tryd.prog.godebug = none := by kernel_rfl
theorem Tryd.star : ("*" ++ "errors.errorString" : String) = "*errors.errorString" := by decide
theorem Tryd.rowE (u : TypeId) (h : Tryd.prog.typeName? 3 u = some "*errors.errorString") : u = 156 :=
  typeName_ptr_named (nm := "errors.errorString") (by rw [Tryd.star]; kernel_rfl) (by kernel_rfl) (by decide) u (by rw [Tryd.star]; exact h)
theorem Tryd.cellsE : Tryd.prog.cellsOf 177 = 1 := by kernel_rfl
theorem Tryd.cellsS : Tryd.prog.cellsOf 9 = 1 := by kernel_rfl
theorem Tryd.g1 : Tryd.prog.globalNamed "demon/api.ErrBound" = some 0 := by kernel_rfl
theorem Tryd.g2 : Tryd.prog.globalNamed "demon/api.ErrShape" = some 1 := by kernel_rfl

/-- Any number of listed sentinels of one type: each one's pointer, text and row; no two are one. -/
theorem laid_list {P : Program} {W : World} {nm : String} {ti tp te ts : TypeId} {ms : Array (String × TypeId)} {f : Field}
    (hi : P.underlying ti = some (.interface ms)) (hrow : ∀ u, P.typeName? 3 u = some nm → u = tp)
    (hp : P.underlying tp = some (.pointer te)) (he : P.underlying te = some (.struct #[f])) (hft : f.type = ts) (hfo : f.offset = 0) (hs : P.underlying ts = some .string) (hc : P.cellsOf te = 1) (hcs : P.cellsOf ts = 1) :
    ∀ (L : List (String × List UInt8)) (ps : List MemPlace), (∀ x, x ∈ L → ∃ g, P.globalNamed x.1 = some g ∧ (P.globals[g]?).map (·.type) = some ti) →
      DataW.LaidVars P W (L.map fun x => (x.1, .iface nm (.ptr (.agg [.lit (.string x.2)])))) ps → ps.Nodup →
      (∀ b off, MemPlace.cell b off ∈ ps → (∃ c t, W.heap[b]? = some (.cells c t (0, 0))) ∧ ∀ u v, W.cell? ⟨b, off, none⟩ = some (.iface u v) → Value.okWide P W .any 0 u v) →
      ∃ a : Nat → Addr, (∀ i x, L[i]? = some x → W.var? P x.1 = some #[.iface tp (.pointer (some (a i)))] ∧ (∃ s, W.cell? (a i) = some (.string s) ∧ s.data.toList = x.2) ∧
          (∃ c t, W.heap[(a i).block]? = some (.cells c t (0, 0))) ∧ MemPlace.cell (a i).block (a i).off ∈ ps) ∧
        ∀ i j, i < L.length → j < L.length → i ≠ j → a i ≠ a j := by
  intro L
  induction L with
  | nil => intro ps _ _ _ _; exact ⟨fun _ => default, fun i x h => by simp at h, fun i j h => by simp at h⟩
  | cons x r ih =>
    intro ps hgs hv hnd hrows
    obtain ⟨n, text⟩ := x
    obtain ⟨g0, t0, cs0, f0, p0, q0, hg0, ht0, hv0, hd0, hvr, e0⟩ := hv
    obtain ⟨g, hg, ht⟩ := hgs (n, text) (List.mem_cons_self ..)
    obtain rfl := Option.some.inj (hg.symm.trans hg0)
    obtain rfl := Option.some.inj (ht.symm.trans ht0)
    subst e0
    obtain ⟨l0⟩ := cs0
    have ok0 : ∀ u v, l0 = [.iface u v] → Value.okWide P W .any 0 u v := fun u v e => by
      subst e
      exact (hrows g 0 (by simp [MemPlace.row])).2 u v (by simpa using World.var?_cell hg0 hv0 0)
    obtain ⟨a0, s0, rfl, hc0, hs0, hz0, rfl⟩ := errorString_of_trod hi hrow hp he hft hfo hs hc hcs hd0 ok0
    obtain ⟨c0, tt0, hb0⟩ := (hrows a0.block a0.off (by simp [MemPlace.row])).1
    have hnq : q0.Nodup := List.Nodup.sublist (List.sublist_append_right _ _) hnd
    obtain ⟨a', ha', hne'⟩ := ih q0 (fun x hx => hgs x (List.mem_cons_of_mem _ hx)) hvr hnq (fun b off hm => hrows b off (List.mem_append_right _ hm))
    have hnot : MemPlace.cell a0.block a0.off ∉ q0 := by
      intro hm
      have := (List.nodup_append.1 hnd).2.2
      exact this (.cell a0.block a0.off) (by simp [MemPlace.row]) (.cell a0.block a0.off) hm rfl
    refine ⟨fun i => match i with | 0 => a0 | k + 1 => a' k, ?_, ?_⟩
    · intro i x hx
      cases i with
      | zero =>
        simp only [List.getElem?_cons_zero, Option.some.injEq] at hx
        subst hx
        exact ⟨hv0, ⟨s0, hc0, hs0⟩, ⟨c0, tt0, hb0⟩, by simp [MemPlace.row]⟩
      | succ k =>
        simp only [List.getElem?_cons_succ] at hx
        obtain ⟨h1, h2, h3, h4⟩ := ha' k x hx
        exact ⟨h1, h2, h3, List.mem_append_right _ h4⟩
    · have far : ∀ k, k < r.length → a0 ≠ a' k := fun k hk e => by
        obtain ⟨_, _, _, h4⟩ := ha' k r[k] (by simp [hk])
        rw [← e] at h4
        exact hnot h4
      intro i j hi' hj' hij
      cases i with
      | zero =>
        cases j with
        | zero => exact absurd rfl hij
        | succ k => exact far k (by simpa using hj')
      | succ m =>
        cases j with
        | zero => exact (far m (by simpa using hi')).symm
        | succ k => exact hne' m k (by simpa using hi') (by simpa using hj') (by omega)

/-- The names and texts, in the rows' order. -/
def twoNames : List (String × List UInt8) := [("demon/api.ErrBound", [100, 101, 109, 111, 110, 58, 32, 98, 111, 117, 110, 100]), ("demon/api.ErrShape", [100, 101, 109, 111, 110, 58, 32, 115, 104, 97, 112, 101])]
def laidAll : List (String × DataW Unit) := [("demon/api.ErrBound", Rows.laid_demon_api_ErrBound), ("demon/api.ErrShape", Rows.laid_demon_api_ErrShape)]
theorem laidAll_parts (W : World) : laidMetH Tryd.prog laidAll W = laidMet Tryd.prog (twoNames.map fun x => (x.1, .iface "*errors.errorString" (.ptr (.agg [.lit (.string x.2)])))) W := by kernel_rfl

theorem var_at {W : World} {n : String} {g : Nat} {v : Value} (hg : Tryd.prog.globalNamed n = some g) (h : W.var? Tryd.prog n = some #[v]) : W.cell? ⟨g, 0, none⟩ = some v := by
  simpa using World.var?_cell hg h 0

theorem errs_of_laid {W : World} (h : laidMetH Tryd.prog laidAll W) : ∃ a : Nat → Addr, Errs W a := by
  rw [laidAll_parts] at h
  obtain ⟨ps, hv, hnd, hrows⟩ := h
  obtain ⟨a, ha, hne⟩ := laid_list Tryd.underlying28 Tryd.rowE Tryd.underlying156 Tryd.underlying177 rfl rfl Tryd.underlying9 Tryd.cellsE Tryd.cellsS twoNames ps
    (fun x hx => by
      simp only [twoNames, List.mem_cons, List.not_mem_nil, or_false] at hx
      rcases hx with rfl | rfl
      · exact ⟨_, Tryd.g1, by kernel_rfl⟩
      · exact ⟨_, Tryd.g2, by kernel_rfl⟩) hv hnd hrows
  exact ⟨fun i => a (i - 1), ⟨var_at Tryd.g1 (ha 0 _ rfl).1, var_at Tryd.g2 (ha 1 _ rfl).1⟩⟩

/-- The door's own heap meets the condition. -/
theorem door_met (os : Os) (args : Array Value) : laidMetH Tryd.prog laidAll ((World.doorLaid Tryd.prog 168 os).forCall (fun _ _ => 0) ⟨#[], args, []⟩).memory := by
  rw [laidAll_parts]
  exact laidMet_of_run' 8 (by kernel_rfl) (by kernel_rfl)
end Go.Proofs.YtfnmpkkfdljgcaaDoor

/- A parameter of type []int opened. -/
namespace Go.Proofs.YtfnmpkkfdljgcaaDoor
open Go.ChangeShapes Go.WideShapes Go.ChangeAt Go.RowKit Go.Joins Go.Deep

theorem Tryd.laidOut : laidOutB Tryd.prog = true := by kernel_rfl
theorem Tryd.cellsInt : Tryd.prog.cellsOf 3 = 1 := by kernel_rfl
theorem Tryd.cellsInts : Tryd.prog.cellsOf 26 = 1 := by kernel_rfl

set_option maxRecDepth 100000 in
/-- What a parameter of type []int gives: its slice, its numbers. -/
theorem open_nums {H : Type} {enc : TypeId × Value → H} {W : World} {base : Nat} {v : Value} {d : DataW H} {p : List MemPlace} (hv : Value.okWide Tryd.prog W .any base 26 v)
    (h : DataW.Trod enc Tryd.prog W 0 (fun _ => true) true 26 v d p) :
    ∃ (ad : Option Addr) (n cap : Nat) (z : Nat → Int), v = .slice ad n cap ∧ n ≤ maxLen ∧ NumsAt W (.slice ad n cap) n z := by
  obtain ⟨ad, n, cap, rfl⟩ := okWide_slice Tryd.underlying26 hv
  obtain ⟨fuel, hf⟩ := h
  rcases open_ints Tryd.underlying26 Tryd.underlying3 Tryd.cellsInt hf with ⟨hc, _⟩ | ⟨a, len, cap', zs, hc, _, hl, hm, hz, _, hcell, _⟩
  · simp [Value.cells] at hc
    obtain ⟨rfl, rfl, rfl⟩ := hc
    exact ⟨none, 0, 0, fun _ => 0, rfl, Nat.zero_le _, Or.inl ⟨none, 0, rfl, rfl⟩⟩
  · simp [Value.cells] at hc
    obtain ⟨rfl, rfl, rfl⟩ := hc
    simp only [if_true] at hz
    rcases Nat.eq_zero_or_pos n with rfl | hpos
    · exact ⟨some a, 0, cap, fun _ => 0, rfl, Nat.zero_le _, Or.inl ⟨some a, cap, rfl, rfl⟩⟩
    · obtain ⟨b, o, spot⟩ := a
      have hspot : spot = none := by simpa [Addr.add] using World.cell?_spot (hcell 0 (by omega))
      subst hspot
      refine ⟨_, n, cap, fun i => zs.getD i 0, rfl, by omega, Or.inr ⟨b, o, cap, rfl, hpos, fun i hi => ?_⟩⟩
      have := hcell i (by omega)
      rw [Go.Proofs.YtfnmpkkfdljgcaaDoor.add_plain] at this
      exact this
end Go.Proofs.YtfnmpkkfdljgcaaDoor

/- A parameter of type [][]int opened; how many numbers it holds at the most. -/
namespace Go.Proofs.YtfnmpkkfdljgcaaDoor
open Go.ChangeShapes Go.WideShapes Go.ChangeAt Go.RowKit Go.Joins Go.Deep

theorem bulk_one {H : Type} (d : DataW H) : 1 ≤ Rows.uptoBulk d := by
  cases d with
  | lit l => cases l <;> simp [Rows.uptoBulk]
  | _ => simp [Rows.uptoBulk]
theorem bulk_len {H : Type} : ∀ l : List (DataW H), l.length ≤ Rows.uptoBulkAll l
  | [] => by simp [Rows.uptoBulkAll]
  | x :: r => by
    have h1 := bulk_one x
    have h2 := bulk_len r
    simp only [Rows.uptoBulkAll, List.length_cons]
    omega
theorem bulk_mem {H : Type} {d : DataW H} : ∀ {l : List (DataW H)}, d ∈ l → Rows.uptoBulk d ≤ Rows.uptoBulkAll l
  | x :: r, h => by
    simp only [Rows.uptoBulkAll]
    rcases List.mem_cons.1 h with rfl | h'
    · omega
    · have := bulk_mem h'; omega
theorem bulk_append {H : Type} : ∀ l r : List (DataW H), Rows.uptoBulkAll (l ++ r) = Rows.uptoBulkAll l + Rows.uptoBulkAll r
  | [], r => by simp [Rows.uptoBulkAll]
  | x :: l, r => by simp only [List.cons_append, Rows.uptoBulkAll, bulk_append l r]; omega
theorem bulk_sum {H : Type} (f : Nat → DataW H) (L : Nat → Nat) : ∀ n, (∀ r, r < n → L r ≤ Rows.uptoBulk (f r)) → sumT L n ≤ Rows.uptoBulkAll ((List.range n).map f)
  | 0, _ => Nat.zero_le _
  | n + 1, h => by
    have h1 := bulk_sum f L n (fun r hr => h r (by omega))
    have h2 := h n (by omega)
    show sumT L n + L n ≤ _
    rw [List.range_succ, List.map_append, bulk_append]
    simp only [List.map_cons, List.map_nil, Rows.uptoBulkAll]
    omega

set_option maxRecDepth 100000 in
theorem open_table {H : Type} {enc : TypeId × Value → H} {W : World} {base : Nat} {v : Value} {d : DataW H} {p : List MemPlace} (hv : Value.okWide Tryd.prog W .any base 22 v)
    (h : DataW.Trod enc Tryd.prog W 0 (fun _ => true) true 22 v d p) :
    ∃ (ad : Option Addr) (R cap : Nat) (vs : Nat → Value) (ns : Nat → Nat) (zs : Nat → Nat → Int), v = .slice ad R cap ∧ R ≤ maxLen ∧ TabAt W (.slice ad R cap) R vs ns zs ∧ sumT ns R ≤ Rows.uptoBulk d := by
  obtain ⟨ad, R, cap, rfl⟩ := okWide_slice Tryd.underlying22 hv
  obtain ⟨fuel, hf⟩ := h
  rcases open_int_rows Tryd.underlying22 Tryd.underlying26 Tryd.underlying3 Tryd.cellsInts Tryd.cellsInt hf with ⟨hc, _⟩ | ⟨a, len, cap', A, L, C, Z, hc, _, hl, hm, hx, hr⟩
  · simp [Value.cells] at hc
    obtain ⟨rfl, rfl, rfl⟩ := hc
    exact ⟨none, 0, 0, fun _ => .slice none 0 0, fun _ => 0, fun _ _ => 0, rfl, Nat.zero_le _, Or.inl ⟨none, 0, rfl, rfl⟩, Nat.zero_le _⟩
  · simp [Value.cells] at hc
    obtain ⟨rfl, rfl, rfl⟩ := hc
    simp only [Prod.mk.injEq] at hx
    obtain ⟨rfl, _⟩ := hx
    have hbulk : sumT L R ≤ Rows.uptoBulk (DataW.slice ((List.range R).map fun r => intRow .i64 (A r) (L r) (Z r)) ((List.range (cap - R)).map fun j => intRow .i64 (A (R + j)) (L (R + j)) (Z (R + j))) : DataW H) := by
      have h1 := bulk_sum (H := H) (fun r => intRow .i64 (A r) (L r) (Z r)) L R (fun r hr' => by
        obtain ⟨_, h2, _, h4, _, h6, _⟩ := hr r (by omega)
        cases hA : A r with
        | none => have := h6 hA; omega
        | some a' =>
          have h7 := bulk_len (H := H) (lits .i64 ((Z r).take (L r)))
          have h8 : (lits (H := H) .i64 ((Z r).take (L r))).length = L r := by simp [lits]; omega
          simp only [intRow, Rows.uptoBulk]
          omega)
      simp only [Rows.uptoBulk]
      omega
    rcases Nat.eq_zero_or_pos R with rfl | hpos
    · exact ⟨some a, 0, cap, fun _ => .slice none 0 0, L, fun _ _ => 0, rfl, Nat.zero_le _, Or.inl ⟨some a, cap, rfl, rfl⟩, hbulk⟩
    · obtain ⟨b, o, spot⟩ := a
      have hspot : spot = none := by simpa [Addr.add] using World.cell?_spot (hr 0 (by omega)).1
      subst hspot
      refine ⟨_, R, cap, fun r => .slice (A r) (L r) (C r), L, fun r i => (Z r).getD i 0, rfl, by omega, Or.inr ⟨b, o, cap, rfl, hpos, fun i hi => ?_⟩, hbulk⟩
      obtain ⟨h1, h2, _, h4, _, h6, h7⟩ := hr i (by omega)
      rw [Go.Proofs.YtfnmpkkfdljgcaaDoor.add_plain] at h1
      refine ⟨h1, ?_⟩
      rcases Nat.eq_zero_or_pos (L i) with h0 | h0
      · exact Or.inl ⟨A i, C i, by dsimp only; rw [h0], h0⟩
      · cases hA : A i with
        | none => have := h6 hA; omega
        | some a' =>
          obtain ⟨_, h8⟩ := h7 a' hA
          obtain ⟨b', o', spot'⟩ := a'
          have hs' : spot' = none := by simpa [Addr.add] using World.cell?_spot (h8 0 (by omega))
          subst hs'
          refine Or.inr ⟨b', o', C i, by dsimp only; rw [hA], h0, fun j hj => ?_⟩
          have := h8 j (by omega)
          rw [Go.Proofs.YtfnmpkkfdljgcaaDoor.add_plain] at this
          exact this
theorem bulk_bound {H : Type} {l : List (DataW H)} (hk : Rows.uptoSmall H l = true) : Rows.uptoBulkAll l ≤ 1048576 := of_decide_eq_true hk
end Go.Proofs.YtfnmpkkfdljgcaaDoor
