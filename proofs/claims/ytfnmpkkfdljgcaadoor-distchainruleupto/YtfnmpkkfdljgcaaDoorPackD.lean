/- Sums of what is told of a table: the chain rule; logs.Add and SameLog of what is told of sums. -/
import Derived.Test.YtfnmpkkfdljgcaaDoorPackC
import Derived.Test.YtfnmpkkfdljgcaaDoorPackB
import Derived.Test.YtfnmpkkfdljgcaaDoorRows
import Derived.Test.YtfnmpkkfdljgcaaDoorErrs
import Derived.ChangeSame
import Derived.ChangeVars
import Derived.JoinedOf
import Derived.LaidLaws
import Derived.LaidHandle
import Derived.LaidMore
import Derived.Stop.Joined
import Derived.Test.YtfnmpkkfdljgcaaDoorInts
import Derived.Test.YtfnmpkkfdljgcaaDoorCards
import Derived.Test.YtfnmpkkfdljgcaaDoorTie
import Derived.SevenTiedAt
import Derived.ProofKit
import Derived.OpenShut
import Derived.ChangeOld
import Derived.Lib.SmallJoins
import Derived.Deep.Matrix
import Derived.Deep.DeepHandedRow
import Derived.Deep.DeepWitnessRowRef
namespace Go.Proofs.YtfnmpkkfdljgcaaDoor
open Go.RowKit

theorem ent_primW {z : Nat → Int} {n N : Nat} (h : OkW z n) (hn : n ≤ 256) (hN : 1 ≤ N ∧ N ≤ 4096) : Prim fun x => sumN (entV z N x) n := by
  refine ⟨fun x => ent_bound (fun i hi => h.lt hi) hN.2 hn x, ?_⟩
  refine supp_sum (F := fun i x => entV z N x i) fun i hi => ?_
  have hc := h.lt hi
  exact (supp_term _ N (fun _ => hN)).sub (supp_term _ _ (fun h0 => by omega))
theorem ent_rows {R N : Nat} {ns : Nat → Nat} {zs : Nat → Nat → Int} (h : OkT R ns zs N) (x : Int) : sumN (entV (rowSum ns zs) N x) R = sumN (fun i => sumN (fun j => zs i j * (multI x N - multI x (rowSum ns zs i).toNat)) (ns 0)) R := by
  refine sumN_congr fun i hi => ?_
  rw [sumN_times]
  unfold entV
  have e : sumN (fun j => zs i j) (ns 0) = rowSum ns zs i := by unfold rowSum; rw [h.even i hi]
  rw [e, Int.mul_sub]
theorem ent_flat {R N n : Nat} {ns : Nat → Nat} {zs : Nat → Nat → Int} {L : List Int} (h : OkT R ns zs N) (hL : L = flatL ns zs R) (hn : L.length = n) (x : Int) : sumN (entV (atF L) N x) n = sumN (fun i => sumN (fun j => zs i j * multI x N - zs i j * multI x (zs i j).toNat) (ns 0)) R := by
  have h1 := sumN_map (fun z => z * multI x N - z * multI x z.toNat) L
  rw [hL, lsum_flat, ← hL, hn] at h1
  show sumN (fun i => atF L i * multI x N - atF L i * multI x (atF L i).toNat) n = _
  rw [h1]
  exact sumN_congr fun i hi => by rw [h.even i hi]
/-- The chain rule, by places. -/
theorem chain_one {R N n : Nat} {ns : Nat → Nat} {zs : Nat → Nat → Int} {L : List Int} (h : OkT R ns zs N) (hL : L = flatL ns zs R) (hn : L.length = n) (x : Int) : sumN (entV (rowSum ns zs) N x) R + sumN (givV ns zs x) R = sumN (entV (atF L) N x) n := by
  rw [ent_flat h hL hn, ent_rows h, ← sumN_plus]
  refine sumN_congr fun i hi => ?_
  unfold givV
  rw [h.even i hi, ← sumN_plus]
  refine sumN_congr fun j _ => ?_
  unfold entV rowSum
  rw [h.even i hi]
  grind
theorem chain_two {R N n : Nat} {ns : Nat → Nat} {zs : Nat → Nat → Int} {L : List Int} (h : OkT R ns zs N) (hL : L = flatL ns zs R) (hn : L.length = n) (x : Int) : sumN (entV (rowSum ns zs) N x) R + sumN (entV (colV zs R) N x) (ns 0) = sumN (fun i => sumN (mutV (zs i) (rowSum ns zs i) (colV zs R) N x) (ns 0)) R + sumN (entV (atF L) N x) n := by
  rw [ent_flat h hL hn, ent_rows h, ent_cols, ← sumN_plus, ← sumN_plus]
  refine sumN_congr fun i _ => ?_
  rw [← sumN_plus, ← sumN_plus]
  refine sumN_congr fun j _ => ?_
  unfold mutV
  grind
theorem chain_turned {R N : Nat} {ns : Nat → Nat} {zs : Nat → Nat → Int} (h : OkT R ns zs N) (x : Int) : sumN (fun i => sumN (mutV (zs i) (rowSum ns zs i) (colV zs R) N x) (ns 0)) R = sumN (fun j => sumN (mutV (fun i => zs i j) (rowSum (fun _ => R) (fun j i => zs i j) j) (colV (fun j i => zs i j) (ns 0)) N x) R) (ns 0) := by
  rw [sumN_swap]
  refine sumN_congr fun j _ => sumN_congr fun i hi => ?_
  have e1 : colV (fun j i => zs i j) (ns 0) i = rowSum ns zs i := by unfold colV rowSum; rw [h.even i hi]
  have e2 : rowSum (fun _ => R) (fun j i => zs i j) j = colV zs R j := rfl
  unfold mutV
  rw [e1, e2]
  grind
/-- The table turned over is right, too. -/
theorem okT_turned {R N : Nat} {ns : Nat → Nat} {zs : Nat → Nat → Int} (h : OkT R ns zs N) : OkT (ns 0) (fun _ => R) (fun j i => zs i j) N := by
  refine ⟨h.c0, h.c16, h.r0, h.r16, fun _ _ => rfl, fun j hj i hi => h.nn i hi j (by rw [h.even i hi]; exact hj), ?_, h.n1, h.n6⟩
  have h2 := h.tot
  have h3 : sumN (fun i => sumN (zs i) (ns i)) R = sumN (fun i => sumN (fun j => zs i j) (ns 0)) R := sumN_congr fun i hi => by rw [h.even i hi]
  rw [h3, sumN_swap] at h2
  exact h2
/-- A logarithm in its form, of a sum over M. -/
def FormBy (W : World) (M : Nat) (F : Int → Int) (d : Int) (v : Value) : Prop := ∃ (t : List (Int × Int)) (n : Nat), d = (n : Int) ∧ ListAt W v t ∧ Canon n t ∧ (∀ x, (M : Int) * atL t x = (n : Int) * F x) ∧ t.length ≤ 10000
theorem FormBy.later {W W' : World} {M : Nat} {F : Int → Int} {d : Int} {v : Value} (h : FormBy W M F d v) (hb : Below W.heap.size W W') : FormBy W' M F d v := by
  obtain ⟨t, n, h1, h2, h3⟩ := h
  exact ⟨t, n, h1, h2.later hb, h3⟩
theorem FormBy.slice {W : World} {M : Nat} {F : Int → Int} {d : Int} {v : Value} (h : FormBy W M F d v) : ∃ ad n cap, v = .slice ad n cap := by
  obtain ⟨t, n, _, h2, _⟩ := h
  exact ownAt_slice h2
theorem LogBy.formed {base M : Nat} {f : Int → Int} {w : World} {dn : Int} {v : Value} (h : LogBy base M f w dn v) (hM : 1 ≤ M) (hM6 : M ≤ 1000000) (hf : Prim f) : FormBy w M f dn v := by
  obtain ⟨t, d, G, rfl, hl, hn, hMG, hG, hv, hok⟩ := h.ok hM hM6 hf
  refine ⟨t, d, rfl, hl, hok.canon, fun x => ?_, by omega⟩
  rw [hv x, hMG]
  simp only [Int.natCast_mul]
  grind
theorem form_same {W : World} {M : Nat} {F F' : Int → Int} {d d' : Int} {v v' : Value} (h : FormBy W M F d v) (h' : FormBy W M F' d' v') (hM : 0 < M) (he : ∀ x, F x = F' x) :
    Calls Tryd.prog 21 #[.agg #[.int .i64 d, v], .agg #[.int .i64 d', v']] W fun e w' => e = .returned (.bool true) ∧ Below W.heap.size W w' := by
  obtain ⟨t, n, rfl, l1, c1, v1, n1⟩ := h
  obtain ⟨t', n', rfl, l2, c2, v2, n2⟩ := h'
  obtain ⟨rfl, rfl⟩ := canon_uniq c1 c2 (fun x => by
    have a1 := v1 x
    have a2 := v2 x
    rw [← he x] at a2
    refine Int.eq_of_mul_eq_mul_left (show (M : Int) ≠ 0 by omega) ?_
    generalize atL t x = A at *
    generalize atL t' x = B at *
    generalize F x = Z at *
    have e1 : (M : Int) * (A * (n' : Int)) = (M : Int) * A * (n' : Int) := by grind
    have e2 : (M : Int) * (B * (n : Int)) = (M : Int) * B * (n : Int) := by grind
    rw [e1, e2, a1, a2]
    grind)
  exact SameLog_own _ v v' t.length (pOf t) (cOf t) W l1 l2 (by omega)
theorem atL_over_any (F : Int → Int) : ∀ (t : List (Int × Int)) (x : Int), (∀ e ∈ t, e.1 ≠ x) ∧ atL (t.map fun e => (e.1, F e.1)) x = 0 ∨ atL (t.map fun e => (e.1, F e.1)) x = F x
  | [], x => Or.inl ⟨(fun e he => by cases he), rfl⟩
  | e :: r, x => by
    simp only [List.map_cons, atL]
    by_cases h : e.1 = x
    · refine Or.inr ?_
      simp [h]
    · rcases atL_over_any F r x with ⟨h1, h2⟩ | h1
      · refine Or.inl ⟨fun f hf => ?_, by simp [h, h2]⟩
        rcases List.mem_cons.1 hf with rfl | hf
        · exact h
        · exact h1 f hf
      · refine Or.inr ?_
        simp [h, h1]
/-- logs.Add of two that are told of sums over one number: it is in form. -/
theorem Add_by {M b1 b2 : Nat} {f1 f2 : Int → Int} {d1 d2 : Int} {v1 v2 : Value} (a : Nat → Addr) (w : World) (hE : Errs w a) (h1 : LogBy b1 M f1 w d1 v1) (h2 : LogBy b2 M f2 w d2 v2) (hM : 1 ≤ M) (hM6 : M ≤ 1000000) (p1 : Prim f1) (p2 : Prim f2) :
    Calls Tryd.prog 20 #[.agg #[.int .i64 d1, v1], .agg #[.int .i64 d2, v2]] w fun e w' => ∃ d v, e = .returned (.tuple #[.agg #[.int .i64 d, v], .nilIface]) ∧ FormBy w' M (fun x => f1 x + f2 x) d v ∧ Below w.heap.size w w' := by
  obtain ⟨t1, e1, G1, rfl, l1, n1, m1, g1, w1', o1⟩ := h1.ok hM hM6 p1
  obtain ⟨t2, e2, G2, rfl, l2, n2, m2, g2, w2', o2⟩ := h2.ok hM hM6 p2
  have q1 := listAt_log l1
  have q2 := listAt_log l2
  obtain ⟨ad1, cap1, rfl⟩ := q1.slice
  obtain ⟨ad2, cap2, rfl⟩ := q2.slice
  have pa : 0 < e1 := by have := o1.1; omega
  have pb : 0 < e2 := by have := o2.1; omega
  refine (Add_any e1 e2 ad1 ad2 cap1 cap2 t1 t2 a w hE q1 q2 o1 o2 (by omega) _ rfl).mono ?_
  rintro e w' ⟨⟨l, G, hr, hv, hG, hlen, hres⟩, hb⟩
  obtain ⟨s1, s2, s3, s4⟩ := sum_value rfl pa pb hr hv hG
  obtain ⟨t, ht⟩ : ∃ t, t = overL G l := ⟨_, rfl⟩
  obtain ⟨d, hd⟩ : ∃ d, d = e1 / Int.gcd (e1 : Int) (e2 : Int) * e2 / G := ⟨_, rfl⟩
  have hlt := length_over l G
  rw [← hd] at s1 s2 s3 s4
  rw [← ht] at s1 s3 s4 hlt
  have hval : ∀ x, (M : Int) * atL t x = (d : Int) * (f1 x + f2 x) := fun x => by
    have hx := s3 x
    rw [w1' x, w2' x]
    have k1 : (M : Int) = (G1 : Int) * (e1 : Int) := by rw [m1]; simp
    have k2 : (M : Int) = (G2 : Int) * (e2 : Int) := by rw [m2]; simp
    generalize atL t x = T at *
    generalize atL t1 x = A at *
    generalize atL t2 x = B at *
    refine Int.eq_of_mul_eq_mul_left (show (M : Int) ≠ 0 by omega) ?_
    have c1 : (M : Int) * ((M : Int) * T) = (G1 : Int) * (G2 : Int) * (T * ((e1 : Int) * (e2 : Int))) := by
      calc (M : Int) * ((M : Int) * T) = ((G1 : Int) * (e1 : Int)) * (((G2 : Int) * (e2 : Int)) * T) := by rw [← k1, ← k2]
        _ = _ := by grind
    rw [c1, hx]
    have c2 : (M : Int) * ((d : Int) * ((G1 : Int) * A + (G2 : Int) * B)) = (d : Int) * ((G1 : Int) * A * (M : Int) + (G2 : Int) * B * (M : Int)) := by grind
    rw [c2]
    have c3 : (G1 : Int) * A * (M : Int) = (G1 : Int) * A * ((G2 : Int) * (e2 : Int)) := by rw [← k2]
    have c4 : (G2 : Int) * B * (M : Int) = (G2 : Int) * B * ((G1 : Int) * (e1 : Int)) := by rw [← k1]
    rw [c3, c4]
    grind
  have hd0 : 0 < d := s1.pos
  have hdM : d ∣ M := canon_dvd (t' := t.map fun e => (e.1, f1 e.1 + f2 e.1)) s1 (fun x => by
    have hx := hval x
    rcases atL_over_any (fun y => f1 y + f2 y) t x with ⟨h3, h4⟩ | h4
    · rw [h4, atL_none h3]; simp
    · rw [h4]
      grind)
  obtain ⟨c, hc⟩ := hdM
  have hfit : d ≤ 1000000 ∧ ∀ e ∈ t, e.2.natAbs ≤ 1099511627776 := by
    refine ⟨Nat.le_trans (Nat.le_of_dvd hM ⟨c, hc⟩) hM6, fun e he => ?_⟩
    have hx := hval e.1
    rw [atL_mem s1.rise he] at hx
    have b1 := p1.le e.1
    have b2 := p2.le e.1
    have hc0 : 0 < c := by
      rcases Nat.eq_zero_or_pos c with h0 | h0
      · rw [h0] at hc; omega
      · exact h0
    have h5 : (c : Int) * e.2 = f1 e.1 + f2 e.1 := by
      refine Int.eq_of_mul_eq_mul_left (show (d : Int) ≠ 0 by omega) ?_
      rw [← hx, hc]
      simp only [Int.natCast_mul]
      grind
    have h6 : e.2.natAbs ≤ (f1 e.1 + f2 e.1).natAbs := by
      rw [← h5, Int.natAbs_mul, Int.natAbs_natCast]
      exact Nat.le_mul_of_pos_left _ hc0
    omega
  rcases hres with ⟨_, v, rfl, hlist⟩ | ⟨hf, _⟩
  · rw [← ht] at hlist
    exact ⟨_, v, by rw [s2], ⟨t, d, rfl, hlist, s1, hval, by omega⟩, hb⟩
  · exact absurd (s4.2 hfit) hf
end Go.Proofs.YtfnmpkkfdljgcaaDoor

/- dist.Rows and dist.Columns. -/
namespace Go.Proofs.YtfnmpkkfdljgcaaDoor
open Go.RowKit

set_option maxRecDepth 100000 in
set_option maxHeartbeats 1000000 in
theorem Rows_ok (a : Nat → Addr) (ad : Option Addr) (R cap N : Nat) (vs : Nat → Value) (ns : Nat → Nat) (zs : Nat → Nat → Int) (w : World) (hE : Errs w a) (h : TabAt w (.slice ad R cap) R vs ns zs) (hR : R ≤ 40) (hs : sumT ns R ≤ 400) (h0 : tabErr R ns zs = 0) (hk : OkT R ns zs N) :
    Calls Tryd.prog 9 #[.slice ad R cap] w fun e w' => ∃ g cp, e = .returned (.tuple #[.slice (some ⟨g, 0, none⟩) R cp, .nilIface]) ∧ RowAt w' g 0 R (rowSum ns zs) ∧ Below w.heap.size w w' := by
  have ht := Table_any a _ R vs ns zs w hE h hR hs
  rw [h0, errV_zero] at ht
  have HI : Hid (∀ W, Below w.heap.size w W → Calls Tryd.prog 27 #[.slice ad R cap] W fun e w' => ∃ g cp, e = .returned (.slice (some ⟨g, 0, none⟩) R cp) ∧ RowAt w' g 0 R (rowSum ns zs) ∧ Below W.heap.size W w') := fun W hb => rowSums_any ad R cap N vs ns zs W (h.later hb) hk
  clear hE h h0
  go_enter Tryd.func9, Tryd.ntmps9
  go_wp2_with (first
    | (go_at_call 26; refine ht.mono ?_; rintro e w1 ⟨rfl, hb1⟩; have HB1 := Hid.mk' hb1; clear hb1)
    | (go_at_call 27; refine (HI.out w1 HB1.out).mono ?_; rintro e w2 ⟨g, cp, rfl, hr2, hb2⟩; have HR2 := Hid.mk' hr2; have HB2 := Hid.mk' (HB1.out.trans (hb2.mono HB1.out.size)); clear hr2 hb2))
  go_ret2
  exact ⟨g, cp, rfl, HR2.out, HB2.out⟩
set_option maxRecDepth 100000 in
set_option maxHeartbeats 1000000 in
theorem Rows_bad (a : Nat → Addr) (v : Value) (R : Nat) (vs : Nat → Value) (ns : Nat → Nat) (zs : Nat → Nat → Int) (w : World) (hE : Errs w a) (h : TabAt w v R vs ns zs) (hR : R ≤ 40) (hs : sumT ns R ≤ 400) (h0 : tabErr R ns zs ≠ 0) :
    Calls Tryd.prog 9 #[v] w fun e w' => e = .returned (.tuple #[.slice none 0 0, errV a (tabErr R ns zs)]) ∧ Below w.heap.size w w' := by
  obtain ⟨ad, cap, rfl⟩ := h.form
  have ht := Table_any a _ R vs ns zs w hE h hR hs
  rw [errV_pos a h0] at ht ⊢
  clear hE h h0
  go_enter Tryd.func9, Tryd.ntmps9
  go_wp2_with (go_at_call 26; refine ht.mono ?_; rintro e w1 ⟨rfl, hb1⟩; have HB1 := Hid.mk' hb1; clear hb1)
  go_ret2
  exact ⟨rfl, HB1.out⟩

set_option maxRecDepth 100000 in
set_option maxHeartbeats 1000000 in
theorem Columns_ok (a : Nat → Addr) (ad : Option Addr) (R cap N : Nat) (vs : Nat → Value) (ns : Nat → Nat) (zs : Nat → Nat → Int) (w : World) (hE : Errs w a) (h : TabAt w (.slice ad R cap) R vs ns zs) (hR : R ≤ 40) (hs : sumT ns R ≤ 400) (h0 : tabErr R ns zs = 0) (hk : OkT R ns zs N) :
    Calls Tryd.prog 11 #[.slice ad R cap] w fun e w' => ∃ g cp, e = .returned (.tuple #[.slice (some ⟨g, 0, none⟩) (ns 0) cp, .nilIface]) ∧ RowAt w' g 0 (ns 0) (colV zs R) ∧ Below w.heap.size w w' := by
  have ht := Table_any a _ R vs ns zs w hE h hR hs
  rw [h0, errV_zero] at ht
  have HI : Hid (∀ W, Below w.heap.size w W → Calls Tryd.prog 29 #[.slice ad R cap] W fun e w' => ∃ g cp, e = .returned (.slice (some ⟨g, 0, none⟩) (ns 0) cp) ∧ RowAt w' g 0 (ns 0) (colV zs R) ∧ Below W.heap.size W w') := fun W hb => columnSums_any ad R cap N vs ns zs W (h.later hb) hk
  clear hE h h0
  go_enter Tryd.func11, Tryd.ntmps11
  go_wp2_with (first
    | (go_at_call 26; refine ht.mono ?_; rintro e w1 ⟨rfl, hb1⟩; have HB1 := Hid.mk' hb1; clear hb1)
    | (go_at_call 29; refine (HI.out w1 HB1.out).mono ?_; rintro e w2 ⟨g, cp, rfl, hr2, hb2⟩; have HR2 := Hid.mk' hr2; have HB2 := Hid.mk' (HB1.out.trans (hb2.mono HB1.out.size)); clear hr2 hb2))
  go_ret2
  exact ⟨g, cp, rfl, HR2.out, HB2.out⟩
set_option maxRecDepth 100000 in
set_option maxHeartbeats 1000000 in
theorem Columns_bad (a : Nat → Addr) (v : Value) (R : Nat) (vs : Nat → Value) (ns : Nat → Nat) (zs : Nat → Nat → Int) (w : World) (hE : Errs w a) (h : TabAt w v R vs ns zs) (hR : R ≤ 40) (hs : sumT ns R ≤ 400) (h0 : tabErr R ns zs ≠ 0) :
    Calls Tryd.prog 11 #[v] w fun e w' => e = .returned (.tuple #[.slice none 0 0, errV a (tabErr R ns zs)]) ∧ Below w.heap.size w w' := by
  obtain ⟨ad, cap, rfl⟩ := h.form
  have ht := Table_any a _ R vs ns zs w hE h hR hs
  rw [errV_pos a h0] at ht ⊢
  clear hE h h0
  go_enter Tryd.func11, Tryd.ntmps11
  go_wp2_with (go_at_call 26; refine ht.mono ?_; rintro e w1 ⟨rfl, hb1⟩; have HB1 := Hid.mk' hb1; clear hb1)
  go_ret2
  exact ⟨rfl, HB1.out⟩

end Go.Proofs.YtfnmpkkfdljgcaaDoor

/- The law DistChainRule. -/
namespace Go.Proofs.YtfnmpkkfdljgcaaDoor
open Go.RowKit

theorem wErr_of {z : Nat → Int} {n : Nat} (hn : n ≤ 16) (h : OkW z n) : weightsErr z n = 0 := by
  unfold weightsErr listErr
  rw [if_neg (by omega)]
  have h1 : ¬ (negB z n = true ∨ someB z n = false) := by
    rintro (h1 | h1)
    · obtain ⟨i, hi, hz⟩ := (negB_iff z n).1 h1
      have := h.nn i hi
      omega
    · have h2 : ∀ i, i < n → z i = 0 := fun i hi => by
        have := h.nn i hi
        rcases Int.lt_or_le 0 (z i) with h3 | h3
        · have := (someB_iff z n).2 ⟨i, hi, h3⟩
          rw [h1] at this
          cases this
        · omega
      have h3 : sumN z n = 0 := by
        rw [sumN_congr h2]
        exact sumN_zero n
      have := h.pos
      omega
  rw [if_neg h1, if_neg (by have := h.le; omega)]
theorem colW {R N : Nat} {ns : Nat → Nat} {zs : Nat → Nat → Int} (h : OkT R ns zs N) : OkW (colV zs R) (ns 0) ∧ sumN (colV zs R) (ns 0) = N := by
  have h1 : sumN (colV zs R) (ns 0) = N := (okT_turned h).tot
  have := h.n1
  have := h.n6
  exact ⟨⟨fun j hj => (h.col (Nat.le_refl R) hj).1, by omega, by omega⟩, h1⟩
theorem rowW {R N : Nat} {ns : Nat → Nat} {zs : Nat → Nat → Int} (h : OkT R ns zs N) : OkW (rowSum ns zs) R ∧ sumN (rowSum ns zs) R = N := by
  have h1 : sumN (rowSum ns zs) R = N := h.tot
  have := h.n1
  have := h.n6
  exact ⟨⟨fun i hi => (h.row hi).1, by omega, by omega⟩, h1⟩
theorem longB_some {ns : Nat → Nat} : ∀ {n : Nat}, longB ns n = true → ∃ i, i < n ∧ 16 < ns i
  | 0, h => by cases h
  | n + 1, h => by
    unfold longB at h
    rcases Bool.or_eq_true _ _ ▸ h with h1 | h1
    · obtain ⟨i, hi, h2⟩ := longB_some h1
      exact ⟨i, by omega, h2⟩
    · exact ⟨n, by omega, by simpa using h1⟩
theorem unevenB_some {ns : Nat → Nat} : ∀ {n : Nat}, unevenB ns n = true → ∃ i, i < n ∧ ns i ≠ ns 0
  | 0, h => by cases h
  | n + 1, h => by
    unfold unevenB at h
    rcases Bool.or_eq_true _ _ ▸ h with h1 | h1
    · obtain ⟨i, hi, h2⟩ := unevenB_some h1
      exact ⟨i, by omega, h2⟩
    · exact ⟨n, by omega, by simpa using h1⟩
theorem flat_nonneg {ns : Nat → Nat} {zs : Nat → Nat → Int} : ∀ {R : Nat}, (∀ i, i < R → ∀ j, j < ns i → 0 ≤ zs i j) → ∀ x ∈ flatL ns zs R, 0 ≤ x
  | 0, _, x, hx => by simp [flatL] at hx
  | R + 1, h, x, hx => by
    simp only [flatL, List.mem_append] at hx
    rcases hx with hx | hx
    · exact flat_nonneg (fun i hi => h i (by omega)) x hx
    · simp only [rowL, List.mem_map, List.mem_range] at hx
      obtain ⟨j, hj, rfl⟩ := hx
      exact h R (by omega) j hj
theorem sumT_const (R : Nat) : ∀ C, sumT (fun _ => R) C = C * R
  | 0 => by simp [sumT]
  | C + 1 => by
    simp only [sumT]
    rw [sumT_const R C, Nat.succ_mul]
theorem tabErr_turned {R N : Nat} {ns : Nat → Nat} {zs : Nat → Nat → Int} (h : OkT R ns zs N) : tabErr R ns zs = 0 := by
  have hL : OkW (atF (flatL ns zs R)) (flatL ns zs R).length := by
    have h1 := sumN_map (fun z => z) (flatL ns zs R)
    rw [lsum_flat] at h1
    have h2 : sumN (atF (flatL ns zs R)) (flatL ns zs R).length = N := by
      have h3 := h.tot
      rw [← h3]
      exact h1
    have := h.n1
    have := h.n6
    refine ⟨fun i hi => ?_, by omega, by omega⟩
    have hm : atF (flatL ns zs R) i ∈ flatL ns zs R := by
      unfold atF
      rw [List.getD_eq_getElem?_getD, List.getElem?_eq_getElem hi]
      exact List.getElem_mem hi
    exact flat_nonneg (fun i hi j hj => h.nn i hi j hj) _ hm
  unfold tabErr
  rw [if_neg (by have := h.r16; omega)]
  have hl : ¬ longB ns R = true := fun e => by
    obtain ⟨i, hi, h1⟩ := longB_some e
    have := h.even i hi
    have := h.c16
    omega
  have hu : ¬ unevenB ns R = true := fun e => by
    obtain ⟨i, hi, h1⟩ := unevenB_some e
    exact h1 (h.even i hi)
  rw [if_neg hl, if_neg hu]
  have h3 := hL
  unfold listErr
  have h4 : ¬ (negB (atF (flatL ns zs R)) (flatL ns zs R).length = true ∨ someB (atF (flatL ns zs R)) (flatL ns zs R).length = false) := by
    rintro (h1 | h1)
    · obtain ⟨i, hi, hz⟩ := (negB_iff _ _).1 h1
      have := h3.nn i hi
      omega
    · have h2 : ∀ i, i < (flatL ns zs R).length → atF (flatL ns zs R) i = 0 := fun i hi => by
        have := h3.nn i hi
        rcases Int.lt_or_le 0 (atF (flatL ns zs R) i) with h5 | h5
        · have := (someB_iff _ _).2 ⟨i, hi, h5⟩
          rw [h1] at this
          cases this
        · omega
      have h5 : sumN (atF (flatL ns zs R)) (flatL ns zs R).length = 0 := by
        rw [sumN_congr h2]
        exact sumN_zero _
      have := h3.pos
      omega
  rw [if_neg h4, if_neg (by have := h3.le; omega)]
/-- A variable that holds what is told of a sum. -/
structure CBox (W : World) (B : Nat) (d : Int) (ad : Option Addr) (n cap base N : Nat) (f : Int → Int) : Prop where
  c0 : W.cell? ⟨B, 0, none⟩ = some (.int .i64 d)
  c1 : W.cell? ⟨B, 1, none⟩ = some (.slice ad n cap)
  log : LogBy base N f W d (.slice ad n cap)
theorem CBox.later {W W' : World} {B : Nat} {d : Int} {ad : Option Addr} {n cap base N : Nat} {f : Int → Int} (h : CBox W B d ad n cap base N f) (hb : Below W.heap.size W W') : CBox W' B d ad n cap base N f :=
  ⟨(cell_past h.c0 hb).2, (cell_past h.c1 hb).2, h.log.later hb⟩
theorem cBox_new {w : World} {d : Int} {ad : Option Addr} {n cap base N : Nat} {f : Int → Int} (h : LogBy base N f w d (.slice ad n cap)) : CBox (w.alloc (.cells #[.int .i64 d, .slice ad n cap] 37)) w.heap.size d ad n cap base N f :=
  ⟨by simp, by simp, h.later (new_below _ _)⟩
structure GBox (W : World) (B : Nat) (d : Int) (ad : Option Addr) (n cap N : Nat) (f : Int → Int) : Prop where
  c0 : W.cell? ⟨B, 0, none⟩ = some (.int .i64 d)
  c1 : W.cell? ⟨B, 1, none⟩ = some (.slice ad n cap)
  form : FormBy W N f d (.slice ad n cap)
theorem GBox.later {W W' : World} {B : Nat} {d : Int} {ad : Option Addr} {n cap N : Nat} {f : Int → Int} (h : GBox W B d ad n cap N f) (hb : Below W.heap.size W W') : GBox W' B d ad n cap N f :=
  ⟨(cell_past h.c0 hb).2, (cell_past h.c1 hb).2, h.form.later hb⟩
theorem gBox_new {w : World} {d : Int} {ad : Option Addr} {n cap N : Nat} {f : Int → Int} (h : FormBy w N f d (.slice ad n cap)) : GBox (w.alloc (.cells #[.int .i64 d, .slice ad n cap] 37)) w.heap.size d ad n cap N f :=
  ⟨by simp, by simp, h.later (new_below _ _)⟩

set_option maxRecDepth 100000 in
set_option maxHeartbeats 8000000 in
theorem DistChainRule_ok (a : Nat → Addr) (ad : Option Addr) (R cap : Nat) (vs : Nat → Value) (ns : Nat → Nat) (zs : Nat → Nat → Int) (w : World) (hE : Errs w a) (k : TabAt w (.slice ad R cap) R vs ns zs) (hm : R ≤ maxLen) (hs : sumT ns R ≤ 2000000) (hf1 : R ≤ 40) (hf2 : sumT ns R ≤ 400) (h0 : tabErr R ns zs = 0) :
    Calls Tryd.prog 4 #[.slice ad R cap] w fun e w' => e = .returned (.bool true) ∧ Below w.heap.size w w' := by
  have hC := coin_any a w hE
  have HFW : Hid (∀ W, Below w.heap.size w W → Calls Tryd.prog 7 #[.slice ad R cap] W fun e w' => e = .returned (.bool true) ∧ Below W.heap.size W w') := fun W hb => few_any _ R vs ns zs W (k.later hb) hm hs true ⟨fun _ => ⟨hf1, hf2⟩, fun _ => rfl⟩
  obtain ⟨hR16, _, _, hok, hn256⟩ := tabErr_ok h0
  obtain ⟨N, hkT, hNN⟩ := tabErr_okT h0
  obtain ⟨L, hL⟩ : ∃ L, L = flatL ns zs R := ⟨_, rfl⟩
  obtain ⟨n, hn⟩ : ∃ n, L.length = n := ⟨_, rfl⟩
  rw [← hL, hn] at hok hn256 hNN
  have hkU := okT_turned hkT
  have hN6 : N ≤ 1000000 := by have := hkT.n6; omega
  have hN1 := hkT.n1
  have HTE : Hid (∀ W, Below w.heap.size w W → Calls Tryd.prog 8 #[.slice ad R cap] W fun e w' => e = .returned (.int .i64 0) ∧ Below W.heap.size W w') := fun W hb => by
    have := TableError_any _ R vs ns zs W (k.later hb) hf1 hf2
    rw [h0] at this
    exact this
  have HLI : Hid (∀ W, Below w.heap.size w W → Calls Tryd.prog 10 #[.slice ad R cap] W fun e w' => ∃ ad' cap' us, e = .returned (.slice ad' R cap') ∧ TabAt w' (.slice ad' R cap') R us ns zs ∧ Below W.heap.size W w') := fun W hb => by
    refine (lists_any _ R vs ns zs W (k.later hb) hf1 hf2).mono ?_
    rintro e w' ⟨v, us, rfl, hv, hb'⟩
    obtain ⟨ad', cap', rfl⟩ := hv.form
    exact ⟨ad', cap', us, rfl, hv, hb'⟩
  have HRO : Hid (∀ (W : World) (ad' : Option Addr) (cap' : Nat) (us : Nat → Value), Below w.heap.size w W → TabAt W (.slice ad' R cap') R us ns zs → Calls Tryd.prog 9 #[.slice ad' R cap'] W fun e w' => ∃ g cp, e = .returned (.tuple #[.slice (some ⟨g, 0, none⟩) R cp, .nilIface]) ∧ RowAt w' g 0 R (rowSum ns zs) ∧ Below W.heap.size W w') := fun W ad' cap' us hb hv => Rows_ok a ad' R cap' N us ns zs W (hE.below hb) hv hf1 hf2 h0 hkT
  have HCO : Hid (∀ (W : World) (ad' : Option Addr) (cap' : Nat) (us : Nat → Value), Below w.heap.size w W → TabAt W (.slice ad' R cap') R us ns zs → Calls Tryd.prog 11 #[.slice ad' R cap'] W fun e w' => ∃ g cp, e = .returned (.tuple #[.slice (some ⟨g, 0, none⟩) (ns 0) cp, .nilIface]) ∧ RowAt w' g 0 (ns 0) (colV zs R) ∧ Below W.heap.size W w') := fun W ad' cap' us hb hv => Columns_ok a ad' R cap' N us ns zs W (hE.below hb) hv hf1 hf2 h0 hkT
  have HEA : Hid (∀ (W : World) (g cp : Nat), Below w.heap.size w W → RowAt W g 0 R (rowSum ns zs) → Calls Tryd.prog 16 #[.slice (some ⟨g, 0, none⟩) R cp] W fun e w' => ∃ dn v, e = .returned (.tuple #[.agg #[.int .i64 dn, v], .nilIface]) ∧ LogBy W.heap.size N (fun x => sumN (entV (rowSum ns zs) N x) R) w' dn v ∧ Below W.heap.size W w') := fun W g cp hb hr => Entropy_ok a g 0 cp R N (rowSum ns zs) W (hE.below hb) hr (wErr_of hkT.r16 (rowW hkT).1) (rowW hkT).2 (rowW hkT).1.nn hkT.r16 hkT.n1 hkT.n6 hkT.r0
  have HEB : Hid (∀ (W : World) (g cp : Nat), Below w.heap.size w W → RowAt W g 0 (ns 0) (colV zs R) → Calls Tryd.prog 16 #[.slice (some ⟨g, 0, none⟩) (ns 0) cp] W fun e w' => ∃ dn v, e = .returned (.tuple #[.agg #[.int .i64 dn, v], .nilIface]) ∧ LogBy W.heap.size N (fun x => sumN (entV (colV zs R) N x) (ns 0)) w' dn v ∧ Below W.heap.size W w') := fun W g cp hb hr => Entropy_ok a g 0 cp (ns 0) N (colV zs R) W (hE.below hb) hr (wErr_of hkT.c16 (colW hkT).1) (colW hkT).2 (colW hkT).1.nn hkT.c16 hkT.n1 hkT.n6 hkT.c0
  have HJO : Hid (∀ (W : World) (ad' : Option Addr) (cap' : Nat) (us : Nat → Value), Below w.heap.size w W → TabAt W (.slice ad' R cap') R us ns zs → Calls Tryd.prog 17 #[.slice ad' R cap'] W fun e w' => ∃ dn v, e = .returned (.tuple #[.agg #[.int .i64 dn, v], .nilIface]) ∧ LogBy W.heap.size N (fun x => sumN (entV (atF L) N x) n) w' dn v ∧ Below W.heap.size W w') := fun W ad' cap' us hb hv => Joint_ok a _ R n N us ns zs L W (hE.below hb) hv hf1 hf2 h0 hL hn hNN
  have HGI : Hid (∀ (W : World) (ad' : Option Addr) (cap' : Nat) (us : Nat → Value), Below w.heap.size w W → TabAt W (.slice ad' R cap') R us ns zs → Calls Tryd.prog 18 #[.slice ad' R cap'] W fun e w' => ∃ dn v, e = .returned (.tuple #[.agg #[.int .i64 dn, v], .nilIface]) ∧ LogBy W.heap.size N (fun x => sumN (givV ns zs x) R) w' dn v ∧ Below W.heap.size W w') := fun W ad' cap' us hb hv => Given_ok a ad' R cap' N n us ns zs L W (hE.below hb) hv hf1 hf2 h0 hkT hL hn hNN
  have HMU : Hid (∀ (W : World) (ad' : Option Addr) (cap' : Nat) (us : Nat → Value), Below w.heap.size w W → TabAt W (.slice ad' R cap') R us ns zs → Calls Tryd.prog 19 #[.slice ad' R cap'] W fun e w' => ∃ dn v, e = .returned (.tuple #[.agg #[.int .i64 dn, v], .nilIface]) ∧ LogBy W.heap.size N (fun x => sumN (fun i => sumN (mutV (zs i) (rowSum ns zs i) (colV zs R) N x) (ns 0)) R) w' dn v ∧ Below W.heap.size W w') := fun W ad' cap' us hb hv => Mutual_ok a ad' R cap' N us ns zs W (hE.below hb) hv hf1 hf2 h0 hkT
  have HMT : Hid (∀ (W : World) (ad' : Option Addr) (cap' : Nat) (us : Nat → Value), Below w.heap.size w W → TabAt W (.slice ad' (ns 0) cap') (ns 0) us (fun _ => R) (fun j i => zs i j) → Calls Tryd.prog 19 #[.slice ad' (ns 0) cap'] W fun e w' => ∃ dn v, e = .returned (.tuple #[.agg #[.int .i64 dn, v], .nilIface]) ∧ LogBy W.heap.size N (fun x => sumN (fun j => sumN (mutV (fun i => zs i j) (rowSum (fun _ => R) (fun j i => zs i j) j) (colV (fun j i => zs i j) (ns 0)) N x) R) (ns 0)) w' dn v ∧ Below W.heap.size W w') := fun W ad' cap' us hb hv => Mutual_ok a ad' (ns 0) cap' N us (fun _ => R) (fun j i => zs i j) W (hE.below hb) hv (by have := hkT.c16; omega) (by rw [sumT_const]; have h1 := hkT.c16; have h2 := Nat.mul_le_mul h1 hR16; omega) (tabErr_turned hkU) hkU
  have pA := ent_primW (N := N) (rowW hkT).1 (by omega) ⟨hkT.n1, hkT.n6⟩
  have pB := ent_prim hkT
  have pJ := ent_primW (N := N) hok hn256 ⟨hkT.n1, hkT.n6⟩
  have pG := giv_prim hkT
  have pM := mut_prim hkT
  have pT := mut_prim hkU
  have HAD : Hid (∀ (W : World) (f1 f2 : Int → Int) (b1 b2 : Nat) (d1 d2 : Int) (v1 v2 : Value), Below w.heap.size w W → Prim f1 → Prim f2 → LogBy b1 N f1 W d1 v1 → LogBy b2 N f2 W d2 v2 → Calls Tryd.prog 20 #[.agg #[.int .i64 d1, v1], .agg #[.int .i64 d2, v2]] W fun e w' => ∃ d ad n cap, e = .returned (.tuple #[.agg #[.int .i64 d, .slice ad n cap], .nilIface]) ∧ FormBy w' N (fun x => f1 x + f2 x) d (.slice ad n cap) ∧ Below W.heap.size W w') := fun W f1 f2 b1 b2 d1 d2 v1 v2 hb q1 q2 l1 l2 => by
    refine (Add_by a W (hE.below hb) l1 l2 hN1 hN6 q1 q2).mono ?_
    rintro e w' ⟨d, v, rfl, hf, hb'⟩
    obtain ⟨ad, n, cap, rfl⟩ := hf.slice
    exact ⟨d, ad, n, cap, rfl, hf, hb'⟩
  have HE1 := Hid.mk' (chain_one hkT hL hn)
  have HE2 := Hid.mk' (chain_two hkT hL hn)
  have HE3 := Hid.mk' (chain_turned hkT)
  have HPA := Hid.mk' pA
  have HPB := Hid.mk' pB
  have HPJ := Hid.mk' pJ
  have HPG := Hid.mk' pG
  have HPM := Hid.mk' pM
  have HPT := Hid.mk' pT
  obtain ⟨b, o, rfl, hr⟩ := tab_rows k hkT
  have HR := Hid.mk' hr
  obtain ⟨i0, hi, hz0, hz1, hz2⟩ := info_parts Tryd.infoInt
  have HINF : Hid (Tryd.prog.info? 3 = some i0 ∧ i0.zero = some (.int .i64 0) ∧ i0.size = 1 ∧ i0.bytes = 8) := ⟨hi, hz0, hz1, hz2⟩
  obtain ⟨j0, hj, hy0, hy1, hy2⟩ := info_parts Tryd.infoInts
  have HINS : Hid (Tryd.prog.info? 26 = some j0 ∧ j0.zero = some (.slice none 0 0) ∧ j0.size = 1 ∧ j0.bytes = 24) := ⟨hj, hy0, hy1, hy2⟩
  obtain ⟨C, hCn⟩ : ∃ C, C = ns 0 := ⟨_, rfl⟩
  have hC16 : C ≤ 16 := by have := hkT.c16; omega
  have hR0 := hkT.r0
  have HZE : Hid (0 < N) := hN1
  have HN6 := Hid.mk' hN6
  rw [← hCn] at HEB HCO HMU HMT HR HE2 HE3 HPB HPM HPT
  clear hE k h0 hok hn256 hNN hkT hkU hN6 hN1 hi hz0 hz1 hz2 hj hy0 hy1 hy2 hr pA pB pJ pG pM pT hL hn hCn
  go_enter Tryd.func4, Tryd.ntmps4
  go_wp2_with (first
    | (go_at_call 6; refine hC.mono ?_; rintro e w1 ⟨rfl, hb1⟩; have HB1 := Hid.mk' hb1; clear hb1)
    | (go_at_call 7; refine (HFW.out w1 HB1.out).mono ?_; rintro e w2 ⟨rfl, hb2⟩; have HB2 := Hid.mk' (below_chain HB1.out hb2); clear hb2)
    | (go_at_call 8; refine (HTE.out w2 HB2.out).mono ?_; rintro e w3 ⟨rfl, hb3⟩; have HB3 := Hid.mk' (below_chain HB2.out hb3); clear hb3))
  clear hC HFW HTE
  go_loopw [4, 5, 6, 7] (fun u i _ _ wr => ∃ (k : Nat) (us : Nat → Value), k ≤ C ∧ i = .int .i64 k ∧ Hid (wr.ownsRow w3.heap.size 26 1 u k (rowV us k)) ∧ Hid (∀ j, j < k → wr.ownsRow w3.heap.size 3 1 (us j) R (numCells (fun i => zs i j) R)) ∧ Hid (Below w3.heap.size w3 wr)) (fun _ i _ _ _ => C - (intOf i).toNat)
  case atStart => exact ⟨0, vs, Nat.zero_le _, rfl, ⟨rfl, Or.inl ⟨rfl, rfl⟩⟩, (fun i hi => by omega), Below.refl _ _⟩
  case round =>
    obtain ⟨k, us, hk, rfl, HO, HNA, HB⟩ := hrel
    obtain ⟨b0, o0, cap0, hc0, _⟩ := HR.out wr (below_chain HB3.out HB.out) 0 hR0
    rw [Nat.add_zero] at hc0
    have hRI : (0 : Int) < (R : Int) := by omega
    rcases Nat.lt_or_ge k C with h1 | h1
    · have hkC : (k : Int) < (C : Int) := by omega
      go_wp2_with fail
      clear hc0
      obtain ⟨Wk, hWk⟩ : ∃ Wk, Wk = wr := ⟨_, rfl⟩
      rw [← hWk] at HO HNA HB ⊢
      clear hWk
      go_loopw [6, 7] (fun u i wn => ∃ m : Nat, m ≤ R ∧ i = .int .i64 m ∧ Hid (wn.ownsRow Wk.heap.size 3 1 u m (numCells (fun i => zs i k) m)) ∧ Hid (Below Wk.heap.size Wk wn)) (fun _ i _ => R - (intOf i).toNat)
      case atStart => exact ⟨0, Nat.zero_le _, rfl, ⟨rfl, Or.inl ⟨rfl, rfl⟩⟩, Below.refl _ _⟩
      case round =>
        obtain ⟨m, hm', rfl, HP, HBN⟩ := hrel
        have hzn := HBN.out.size
        rcases Nat.lt_or_ge m R with h2 | h2
        · obtain ⟨b1, o1, cap1, hc1, hr1⟩ := HR.out wr (below_chain (below_chain HB3.out HB.out) HBN.out) m h2
          have hc2 := hr1 k h1
          have hmR : (m : Int) < (R : Int) := by omega
          have hk0 : (0 : Int) ≤ (k : Int) := by omega
          clear hr1
          go_wp2_with (at_builtin; go_must (refine wpList_append_lies _ rfl _ _ _ rfl Wk.heap.size 3 i0 _ 1 8 Tryd.underlying26 HINF.out.1 HINF.out.2.1 HINF.out.2.2.1 HINF.out.2.2.2 rfl (by omega) u6 _ _ rfl (HP.out.alloc _) ⟨wr.heap.size, 0, none⟩ 1 1 [.int .i64 (zs m k)] rfl rfl (one_new _ _ _) (by simp [Value.oneCell']) (by omega) (by unfold maxLen; omega) (by omega) (by simp; omega) _ rfl ?_; intro g' cap2 w5 hown5 hgrow5 hat5 hlt5; have HO5 := Hid.mk' hown5; have HG5 := Hid.mk' hgrow5; clear hown5 hgrow5 hat5))
          exact ⟨⟨m + 1, h2, by go_num, HO5, below_push HBN.out HP.out HG5.out⟩, by simp [intOf]; omega⟩
        · have e : R = m := by omega
          subst e
          have HO4 := Hid.mk' (own_past HO.out HBN.out)
          have HB4 := Hid.mk' (below_chain HB.out HBN.out)
          have HA4 : Hid (∀ j, j < k → wr.ownsRow w3.heap.size 3 1 (us j) R (numCells (fun i => zs i j) R)) := fun j hj => own_past (HNA.out j hj) HBN.out
          have HV4 : Hid (wr.ownsRow w3.heap.size 3 1 u6 R (numCells (fun i => zs i k) R)) := HP.out.mono HB.out.size
          obtain ⟨ad4, cap4, rfl, _⟩ := row_shape HP.out
          have hz4 := HB4.out.size
          clear HO HNA HB HP HBN
          go_wp2_with (at_builtin; go_must (refine wpList_append_lies _ rfl _ _ _ rfl w3.heap.size 26 j0 _ 1 24 Tryd.underlying22 HINS.out.1 HINS.out.2.1 HINS.out.2.2.1 HINS.out.2.2.2 rfl (by omega) u4 _ _ rfl (HO4.out.alloc _) ⟨wr.heap.size, 0, none⟩ 1 1 [.slice ad4 R cap4] rfl rfl (one_new _ _ _) (by simp [Value.oneCell']) (by omega) (by unfold maxLen; omega) (by omega) (by simp; omega) _ rfl ?_; intro g' cap2 w5 hown5 hgrow5 hat5 hlt5; have HO5 := Hid.mk' hown5; have HG5 := Hid.mk' hgrow5; clear hown5 hgrow5 hat5))
          refine ⟨⟨k + 1, fun i => if i = k then .slice ad4 R cap4 else us i, h1, by go_num, ?_, fun i hi => ?_, below_push HB4.out HO4.out HG5.out⟩, by simp [intOf]; omega⟩
          · rw [← rowV_push]
            exact HO5
          · show World.ownsRow _ _ _ _ _ _ _
            dsimp only
            by_cases hik : i = k
            · subst hik
              rw [if_pos rfl]
              exact own_beside (own_past HV4.out ((Below.refl _ _).alloc (Nat.le_refl _) _)) (HO4.out.alloc _) (by decide) HG5.out
            · rw [if_neg hik]
              exact own_beside (own_past (HA4.out i (by omega)) ((Below.refl _ _).alloc (Nat.le_refl _) _)) (HO4.out.alloc _) (by decide) HG5.out
    · have e : C = k := by omega
      subst e
      have hT := tabAt_of_row HO.out (fun j hj => numsAt_own (HNA.out j hj))
      obtain ⟨adT, capT, rfl⟩ := hT.form
      have HBS := Hid.mk' (below_chain HB3.out HB.out)
      have HTT : Hid (∀ W, Below wr.heap.size wr W → TabAt W (.slice adT C capT) C us (fun _ => R) (fun j i => zs i j)) := fun W hb => hT.later hb
      clear hT HO HNA HB HR HINF HINS
      go_wp2_with fail
      clear hc0
      refine (HLI.out wr HBS.out).mono ?_
      rintro e w4 ⟨ad4, cap4, us4, rfl, ht4, hb4⟩
      have HB4 := Hid.mk' (below_chain HBS.out hb4)
      have HS4 := Hid.mk' hb4
      have hro := HRO.out w4 _ _ us4 HB4.out ht4
      clear ht4 hb4 HRO
      go_wp2_with fail
      refine hro.mono ?_
      clear hro
      rintro e w5 ⟨g5, cp5, rfl, hr5, hb5⟩
      have HB5 := Hid.mk' (below_chain HB4.out hb5)
      have HS5 := Hid.mk' (below_chain HS4.out hb5)
      have HR5 : Hid (∀ W, Below w5.heap.size w5 W → RowAt W g5 0 R (rowSum ns zs)) := fun W hb => hr5.later hb
      clear hr5 hb5
      go_wp2_with fail
      refine (HLI.out w5 HB5.out).mono ?_
      rintro e w6 ⟨ad6, cap6, us6, rfl, ht6, hb6⟩
      have HS6 := Hid.mk' hb6
      have hco := HCO.out w6 _ _ us6 (below_chain HB5.out hb6) ht6
      clear ht6 hb6 HCO
      go_wp2_with fail
      refine hco.mono ?_
      clear hco
      rintro e w7 ⟨g7, cp7, rfl, hr7, hb7⟩
      have HS7 := Hid.mk' (below_chain HS6.out hb7)
      have HB7 := Hid.mk' (below_chain HB5.out HS7.out)
      have HST := Hid.mk' (below_chain HS5.out HS7.out)
      have HR7 : Hid (∀ W, Below w7.heap.size w7 W → RowAt W g7 0 C (colV zs R)) := fun W hb => hr7.later hb
      have hea := HEA.out w7 g5 cp5 HB7.out (HR5.out w7 HS7.out)
      clear hr7 hb7 HEA
      go_wp2_with fail
      refine hea.mono ?_
      clear hea
      rintro e w8 ⟨dA, vA, rfl, hlA, hb8⟩
      obtain ⟨adA, nA, capA, rfl⟩ := hlA.form
      obtain ⟨WA, hWA⟩ : ∃ WA, WA = w8.alloc (.cells #[.int .i64 dA, .slice adA nA capA] 37) := ⟨_, rfl⟩
      have KA : Hid (CBox WA w8.heap.size dA adA nA capA w7.heap.size N (fun x => sumN (entV (rowSum ns zs) N x) R)) := by rw [hWA]; exact cBox_new hlA
      have S7A : Hid (Below w7.heap.size w7 WA) := by rw [hWA]; exact more_below hb8 _
      have BA := Hid.mk' (below_chain HB7.out S7A.out)
      have heb := HEB.out WA g7 cp7 BA.out (HR7.out WA S7A.out)
      have HWA := Hid.mk' hWA
      clear hlA hb8 hWA HEB
      go_upto_region 17 with fail
      rw [← HWA.out]
      clear HWA
      go_wp2_with fail
      refine heb.mono ?_
      clear heb
      rintro e w9 ⟨dB, vB, rfl, hlB, hb9⟩
      obtain ⟨adB, nB, capB, rfl⟩ := hlB.form
      obtain ⟨WB, hWB⟩ : ∃ WB, WB = w9.alloc (.cells #[.int .i64 dB, .slice adB nB capB] 37) := ⟨_, rfl⟩
      have KB : Hid (CBox WB w9.heap.size dB adB nB capB WA.heap.size N (fun x => sumN (entV (colV zs R) N x) C)) := by rw [hWB]; exact cBox_new hlB
      have SAB : Hid (Below WA.heap.size WA WB) := by rw [hWB]; exact more_below hb9 _
      have BB := Hid.mk' (below_chain BA.out SAB.out)
      have HWB := Hid.mk' hWB
      clear hlB hb9 hWB
      go_upto_region 18 with fail
      rw [← HWB.out]
      clear HWB
      go_wp2_with fail
      refine (HLI.out WB BB.out).mono ?_
      rintro e w10 ⟨ad10, cap10, us10, rfl, ht10, hb10⟩
      have S10 := Hid.mk' hb10
      have hca := HJO.out w10 _ _ us10 (below_chain BB.out hb10) ht10
      clear ht10 hb10 HJO
      go_wp2_with fail
      refine hca.mono ?_
      clear hca
      rintro e w11 ⟨dJ, vJ, rfl, hlJ, hb11⟩
      obtain ⟨adJ, nJ, capJ, rfl⟩ := hlJ.form
      obtain ⟨WJ, hWJ⟩ : ∃ WJ, WJ = w11.alloc (.cells #[.int .i64 dJ, .slice adJ nJ capJ] 37) := ⟨_, rfl⟩
      obtain ⟨LJ, hLJ⟩ : ∃ l, l = w11.heap.size := ⟨_, rfl⟩
      obtain ⟨ZJ, hZJ⟩ : ∃ z, z = w10.heap.size := ⟨_, rfl⟩
      have KJ : Hid (CBox WJ LJ dJ adJ nJ capJ ZJ N (fun x => sumN (entV (atF L) N x) n)) := by rw [hWJ, hLJ, hZJ]; exact cBox_new hlJ
      have SBJ : Hid (Below WB.heap.size WB WJ) := by rw [hWJ]; exact more_below (below_chain S10.out hb11) _
      have BJ := Hid.mk' (below_chain BB.out SBJ.out)
      have HWJ := Hid.mk' hWJ
      clear hlJ hb11 hWJ hZJ
      go_upto_region 19 with fail
      rw [← HWJ.out, ← hLJ]
      clear HWJ hLJ S10
      go_wp2_with fail
      refine (HLI.out WJ BJ.out).mono ?_
      rintro e w10 ⟨ad10, cap10, us10, rfl, ht10, hb10⟩
      have S10 := Hid.mk' hb10
      have hca := HGI.out w10 _ _ us10 (below_chain BJ.out hb10) ht10
      clear ht10 hb10 HGI
      go_wp2_with fail
      refine hca.mono ?_
      clear hca
      rintro e w11 ⟨dG, vG, rfl, hlG, hb11⟩
      obtain ⟨adG, nG, capG, rfl⟩ := hlG.form
      obtain ⟨WG, hWG⟩ : ∃ WG, WG = w11.alloc (.cells #[.int .i64 dG, .slice adG nG capG] 37) := ⟨_, rfl⟩
      obtain ⟨LG, hLG⟩ : ∃ l, l = w11.heap.size := ⟨_, rfl⟩
      obtain ⟨ZG, hZG⟩ : ∃ z, z = w10.heap.size := ⟨_, rfl⟩
      have KG : Hid (CBox WG LG dG adG nG capG ZG N (fun x => sumN (givV ns zs x) R)) := by rw [hWG, hLG, hZG]; exact cBox_new hlG
      have SJG : Hid (Below WJ.heap.size WJ WG) := by rw [hWG]; exact more_below (below_chain S10.out hb11) _
      have BG := Hid.mk' (below_chain BJ.out SJG.out)
      have HWG := Hid.mk' hWG
      clear hlG hb11 hWG hZG
      go_upto_region 20 with fail
      rw [← HWG.out, ← hLG]
      clear HWG hLG S10
      go_wp2_with fail
      refine (HLI.out WG BG.out).mono ?_
      rintro e w10 ⟨ad10, cap10, us10, rfl, ht10, hb10⟩
      have S10 := Hid.mk' hb10
      have hca := HMU.out w10 _ _ us10 (below_chain BG.out hb10) ht10
      clear ht10 hb10 HMU
      go_wp2_with fail
      refine hca.mono ?_
      clear hca
      rintro e w11 ⟨dM, vM, rfl, hlM, hb11⟩
      obtain ⟨adM, nM, capM, rfl⟩ := hlM.form
      obtain ⟨WM, hWM⟩ : ∃ WM, WM = w11.alloc (.cells #[.int .i64 dM, .slice adM nM capM] 37) := ⟨_, rfl⟩
      obtain ⟨LM, hLM⟩ : ∃ l, l = w11.heap.size := ⟨_, rfl⟩
      obtain ⟨ZM, hZM⟩ : ∃ z, z = w10.heap.size := ⟨_, rfl⟩
      have KM : Hid (CBox WM LM dM adM nM capM ZM N (fun x => sumN (fun i => sumN (mutV (zs i) (rowSum ns zs i) (colV zs R) N x) C) R)) := by rw [hWM, hLM, hZM]; exact cBox_new hlM
      have SGM : Hid (Below WG.heap.size WG WM) := by rw [hWM]; exact more_below (below_chain S10.out hb11) _
      have BM := Hid.mk' (below_chain BG.out SGM.out)
      have HWM := Hid.mk' hWM
      clear hlM hb11 hWM hZM
      go_upto_region 21 with fail
      rw [← HWM.out, ← hLM]
      clear HWM hLM S10
      have hca := HMT.out WM _ _ us BM.out (HTT.out WM (below_chain (below_chain (below_chain (below_chain (below_chain HST.out S7A.out) SAB.out) SBJ.out) SJG.out) SGM.out))
      clear HMT HTT
      go_wp2_with fail
      refine hca.mono ?_
      clear hca
      rintro e w11 ⟨dT, vT, rfl, hlT, hb11⟩
      obtain ⟨adT, nT, capT, rfl⟩ := hlT.form
      obtain ⟨WT, hWT⟩ : ∃ WT, WT = w11.alloc (.cells #[.int .i64 dT, .slice adT nT capT] 37) := ⟨_, rfl⟩
      obtain ⟨LT, hLT⟩ : ∃ l, l = w11.heap.size := ⟨_, rfl⟩
      obtain ⟨ZT, hZT⟩ : ∃ z, z = WM.heap.size := ⟨_, rfl⟩
      have KT : Hid (CBox WT LT dT adT nT capT ZT N (fun x => sumN (fun j => sumN (mutV (fun i => zs i j) (rowSum (fun _ => R) (fun j i => zs i j) j) (colV (fun j i => zs i j) C) N x) R) C)) := by rw [hWT, hLT, hZT]; exact cBox_new hlT
      have SMT : Hid (Below WM.heap.size WM WT) := by rw [hWT]; exact more_below hb11 _
      have BT := Hid.mk' (below_chain BM.out SMT.out)
      have HWT := Hid.mk' hWT
      clear hlT hb11 hWT hZT
      go_upto_region 22 with fail
      rw [← HWT.out, ← hLT]
      clear HWT hLT
      have qA := KA.out.later (below_chain (below_chain (below_chain (below_chain SAB.out SBJ.out) SJG.out) SGM.out) SMT.out)
      have qB := KB.out.later (below_chain (below_chain (below_chain SBJ.out SJG.out) SGM.out) SMT.out)
      have qJ := KJ.out.later (below_chain (below_chain SJG.out SGM.out) SMT.out)
      have qG := KG.out.later (below_chain SGM.out SMT.out)
      have qM := KM.out.later SMT.out
      have QA := Hid.mk' qA
      have QB := Hid.mk' qB
      have QJ := Hid.mk' qJ
      have QG := Hid.mk' qG
      have QM := Hid.mk' qM
      clear qA qB qJ qG qM KA KB KJ KG KM
      have a0 := QA.out.c0
      have a1 := QA.out.c1
      have b0 := QG.out.c0
      have b1 := QG.out.c1
      have had := HAD.out WT _ _ _ _ _ _ _ _ BT.out HPA.out HPG.out QA.out.log QG.out.log
      go_wp2_with fail
      refine had.mono ?_
      clear had a0 a1 b0 b1
      rintro e w12 ⟨dX, adX, nX, capX, rfl, hfX, hb12⟩
      obtain ⟨WX, hWX⟩ : ∃ WX, WX = w12.alloc (.cells #[.int .i64 dX, .slice adX nX capX] 37) := ⟨_, rfl⟩
      have KX : Hid (GBox WX w12.heap.size dX adX nX capX N (fun x => sumN (entV (rowSum ns zs) N x) R + sumN (givV ns zs x) R)) := by rw [hWX]; exact gBox_new hfX
      have STX : Hid (Below WT.heap.size WT WX) := by rw [hWX]; exact more_below hb12 _
      have BX := Hid.mk' (below_chain BT.out STX.out)
      have HWX := Hid.mk' hWX
      have a0 := (QA.out.later STX.out).c0
      have a1 := (QA.out.later STX.out).c1
      have b0 := (QB.out.later STX.out).c0
      have b1 := (QB.out.later STX.out).c1
      have had := HAD.out WX _ _ _ _ _ _ _ _ BX.out HPA.out HPB.out (QA.out.later STX.out).log (QB.out.later STX.out).log
      clear hfX hb12 hWX
      go_upto_region 25 with fail
      rw [← HWX.out]
      clear HWX
      go_wp2_with fail
      refine had.mono ?_
      clear had a0 a1 b0 b1
      rintro e w13 ⟨dY, adY, nY, capY, rfl, hfY, hb13⟩
      obtain ⟨WY, hWY⟩ : ∃ WY, WY = w13.alloc (.cells #[.int .i64 dY, .slice adY nY capY] 37) := ⟨_, rfl⟩
      have KY : Hid (GBox WY w13.heap.size dY adY nY capY N (fun x => sumN (entV (rowSum ns zs) N x) R + sumN (entV (colV zs R) N x) C)) := by rw [hWY]; exact gBox_new hfY
      have SXY : Hid (Below WX.heap.size WX WY) := by rw [hWY]; exact more_below hb13 _
      have BY := Hid.mk' (below_chain BX.out SXY.out)
      have STY := Hid.mk' (below_chain STX.out SXY.out)
      have HWY := Hid.mk' hWY
      have a0 := (QM.out.later STY.out).c0
      have a1 := (QM.out.later STY.out).c1
      have b0 := (QJ.out.later STY.out).c0
      have b1 := (QJ.out.later STY.out).c1
      have had := HAD.out WY _ _ _ _ _ _ _ _ BY.out HPM.out HPJ.out (QM.out.later STY.out).log (QJ.out.later STY.out).log
      clear hfY hb13 hWY
      go_upto_region 26 with fail
      rw [← HWY.out]
      clear HWY
      go_wp2_with fail
      refine had.mono ?_
      clear had a0 a1 b0 b1
      rintro e w14 ⟨dZ, adZ, nZ, capZ, rfl, hfZ, hb14⟩
      obtain ⟨WZ, hWZ⟩ : ∃ WZ, WZ = w14.alloc (.cells #[.int .i64 dZ, .slice adZ nZ capZ] 37) := ⟨_, rfl⟩
      have KZ : Hid (GBox WZ w14.heap.size dZ adZ nZ capZ N (fun x => sumN (fun i => sumN (mutV (zs i) (rowSum ns zs i) (colV zs R) N x) C) R + sumN (entV (atF L) N x) n)) := by rw [hWZ]; exact gBox_new hfZ
      have SYZ : Hid (Below WY.heap.size WY WZ) := by rw [hWZ]; exact more_below hb14 _
      have BZ := Hid.mk' (below_chain BY.out SYZ.out)
      have STZ := Hid.mk' (below_chain STY.out SYZ.out)
      have HWZ := Hid.mk' hWZ
      have RX := Hid.mk' (KX.out.later (below_chain SXY.out SYZ.out))
      have RY := Hid.mk' (KY.out.later SYZ.out)
      have RJ := Hid.mk' (QJ.out.later STZ.out)
      have RM := Hid.mk' (QM.out.later STZ.out)
      have RT := Hid.mk' (KT.out.later STZ.out)
      clear hfZ hb14 hWZ KX KY QA QB QJ QG QM KT
      have a0 := RX.out.c0
      have a1 := RX.out.c1
      have b0 := RJ.out.c0
      have b1 := RJ.out.c1
      have hsm := form_same RX.out.form (RJ.out.log.formed HZE.out HN6.out HPJ.out) HZE.out HE1.out
      go_upto_region 27 with fail
      rw [← HWZ.out]
      clear HWZ
      go_wp2_with fail
      refine hsm.mono ?_
      clear hsm a0 a1 b0 b1
      rintro e w15 ⟨rfl, hb15⟩
      have a0 := (RY.out.later hb15).c0
      have a1 := (RY.out.later hb15).c1
      have b0 := (KZ.out.later hb15).c0
      have b1 := (KZ.out.later hb15).c1
      have hsm := form_same (RY.out.later hb15).form (KZ.out.later hb15).form HZE.out HE2.out
      have SZ15 := Hid.mk' hb15
      clear hb15
      go_wp2_with fail
      refine hsm.mono ?_
      clear hsm a0 a1 b0 b1
      rintro e w16 ⟨rfl, hb16⟩
      have SZ16 := Hid.mk' (below_chain SZ15.out hb16)
      clear hb16
      have a0 := (RM.out.later SZ16.out).c0
      have a1 := (RM.out.later SZ16.out).c1
      have b0 := (RT.out.later SZ16.out).c0
      have b1 := (RT.out.later SZ16.out).c1
      have hsm := form_same ((RM.out.later SZ16.out).log.formed HZE.out HN6.out HPM.out) ((RT.out.later SZ16.out).log.formed HZE.out HN6.out HPT.out) HZE.out HE3.out
      go_wp2_with fail
      refine hsm.mono ?_
      clear hsm a0 a1 b0 b1
      rintro e w17 ⟨rfl, hb17⟩
      have HB17 := Hid.mk' (below_chain (below_chain BZ.out SZ16.out) hb17)
      clear hb17
      go_wp2_with fail
      go_ret
      exact ⟨rfl, HB17.out⟩

set_option maxRecDepth 100000 in
set_option maxHeartbeats 2000000 in
theorem DistChainRule_all (a : Nat → Addr) (ad : Option Addr) (R cap : Nat) (vs : Nat → Value) (ns : Nat → Nat) (zs : Nat → Nat → Int) (w : World) (hE : Errs w a) (k : TabAt w (.slice ad R cap) R vs ns zs) (hm : R ≤ maxLen) (hs : sumT ns R ≤ 2000000) :
    Calls Tryd.prog 4 #[.slice ad R cap] w fun e w' => e = .returned (.bool true) ∧ Below w.heap.size w w' := by
  by_cases hf : R ≤ 40 ∧ sumT ns R ≤ 400
  · by_cases h0 : tabErr R ns zs = 0
    · exact DistChainRule_ok a ad R cap vs ns zs w hE k hm hs hf.1 hf.2 h0
    · have hC := coin_any a w hE
      have HFW : Hid (∀ W, Below w.heap.size w W → Calls Tryd.prog 7 #[.slice ad R cap] W fun e w' => e = .returned (.bool true) ∧ Below W.heap.size W w') := fun W hb => few_any _ R vs ns zs W (k.later hb) hm hs true ⟨fun _ => hf, fun _ => rfl⟩
      have HTE : Hid (∀ W, Below w.heap.size w W → Calls Tryd.prog 8 #[.slice ad R cap] W fun e w' => e = .returned (.int .i64 (tabErr R ns zs : Int)) ∧ Below W.heap.size W w') := fun W hb => TableError_any _ R vs ns zs W (k.later hb) hf.1 hf.2
      generalize tabErr R ns zs = c at *
      clear hE k
      have hcb : (0 : Int) < (c : Int) := by omega
      go_enter Tryd.func4, Tryd.ntmps4
      go_wp2_with (first
        | (go_at_call 6; refine hC.mono ?_; rintro e w1 ⟨rfl, hb1⟩; have HB1 := Hid.mk' hb1; clear hb1)
        | (go_at_call 7; refine (HFW.out w1 HB1.out).mono ?_; rintro e w2 ⟨rfl, hb2⟩; have HB2 := Hid.mk' (below_chain HB1.out hb2); clear hb2)
        | (go_at_call 8; refine (HTE.out w2 HB2.out).mono ?_; rintro e w3 ⟨rfl, hb3⟩; have HB3 := Hid.mk' (below_chain HB2.out hb3); clear hb3))
      go_ret
      exact ⟨rfl, HB3.out⟩
  · have hC := coin_any a w hE
    have HFW : Hid (∀ W, Below w.heap.size w W → Calls Tryd.prog 7 #[.slice ad R cap] W fun e w' => e = .returned (.bool false) ∧ Below W.heap.size W w') := fun W hb => few_any _ R vs ns zs W (k.later hb) hm hs false ⟨(fun e => by cases e), (fun e => absurd e hf)⟩
    clear hE k hf
    go_enter Tryd.func4, Tryd.ntmps4
    go_wp2_with (first
      | (go_at_call 6; refine hC.mono ?_; rintro e w1 ⟨rfl, hb1⟩; have HB1 := Hid.mk' hb1; clear hb1)
      | (go_at_call 7; refine (HFW.out w1 HB1.out).mono ?_; rintro e w2 ⟨rfl, hb2⟩; have HB2 := Hid.mk' (below_chain HB1.out hb2); clear hb2))
    go_ret
    exact ⟨rfl, HB2.out⟩
end Go.Proofs.YtfnmpkkfdljgcaaDoor

/- What the rows' condition on package variables gives a walk: two sentinels. -/
namespace Go.Proofs.YtfnmpkkfdljgcaaDoor
open Go.ChangeShapes Go.WideShapes Go.RowKit

theorem Tryd.own : ownKnob Tryd.prog.godebug = none := by kernel_rfl
theorem Tryd.star : ("*" ++ "errors.errorString" : String) = "*errors.errorString" := by decide
theorem Tryd.rowE (u : TypeId) (h : Tryd.prog.typeName? 3 u = some "*errors.errorString") : u = 156 :=
  typeName_ptr_named (nm := "errors.errorString") (by rw [Tryd.star]; kernel_rfl) (by kernel_rfl) (by decide) u (by rw [Tryd.star]; exact h)
theorem Tryd.cellsE : Tryd.prog.cellsOf 177 = 1 := by kernel_rfl
theorem Tryd.cellsS : Tryd.prog.cellsOf 9 = 1 := by kernel_rfl
theorem Tryd.g1 : Tryd.prog.globalNamed "demon/api.ErrBound" = some 0 := by kernel_rfl
theorem Tryd.g2 : Tryd.prog.globalNamed "demon/api.ErrShape" = some 1 := by kernel_rfl

/-- Any number of listed sentinels of one type: each one's pointer, text and row; no two are one. -/
theorem laid_list {P : Program} {W : World} {nm : String} {ti tp te ts : TypeId} {ms : Array (String × TypeId)} {f : Field}
    (hi : P.underlying ti = some (.interface ms)) (hrow : ∀ u, P.typeName? 3 u = some nm → u = tp)
    (hp : P.underlying tp = some (.pointer te)) (he : P.underlying te = some (.struct #[f])) (hft : f.type = ts) (hfo : f.offset = 0) (hs : P.underlying ts = some .string) (hc : P.cellsOf te = 1) (hcs : P.cellsOf ts = 1) :
    ∀ (L : List (String × List UInt8)) (ps : List MemPlace), (∀ x, x ∈ L → ∃ g, P.globalNamed x.1 = some g ∧ (P.globals[g]?).map (·.type) = some ti) →
      DataW.LaidVars P W (L.map fun x => (x.1, .iface nm (.ptr (.agg [.lit (.string x.2)])))) ps → ps.Nodup →
      (∀ b off, MemPlace.cell b off ∈ ps → (∃ c t, W.heap[b]? = some (.cells c t (0, 0))) ∧ ∀ u v, W.cell? ⟨b, off, none⟩ = some (.iface u v) → Value.okWide P W .any 0 u v) →
      ∃ a : Nat → Addr, (∀ i x, L[i]? = some x → W.var? P x.1 = some #[.iface tp (.pointer (some (a i)))] ∧ (∃ s, W.cell? (a i) = some (.string s) ∧ s.data.toList = x.2) ∧
          (∃ c t, W.heap[(a i).block]? = some (.cells c t (0, 0))) ∧ MemPlace.cell (a i).block (a i).off ∈ ps) ∧
        ∀ i j, i < L.length → j < L.length → i ≠ j → a i ≠ a j := by
  intro L
  induction L with
  | nil => intro ps _ _ _ _; exact ⟨fun _ => default, fun i x h => by simp at h, fun i j h => by simp at h⟩
  | cons x r ih =>
    intro ps hgs hv hnd hrows
    obtain ⟨n, text⟩ := x
    obtain ⟨g0, t0, cs0, f0, p0, q0, hg0, ht0, hv0, hd0, hvr, e0⟩ := hv
    obtain ⟨g, hg, ht⟩ := hgs (n, text) (List.mem_cons_self ..)
    obtain rfl := Option.some.inj (hg.symm.trans hg0)
    obtain rfl := Option.some.inj (ht.symm.trans ht0)
    subst e0
    obtain ⟨l0⟩ := cs0
    have ok0 : ∀ u v, l0 = [.iface u v] → Value.okWide P W .any 0 u v := fun u v e => by
      subst e
      exact (hrows g 0 (by simp [MemPlace.row])).2 u v (by simpa using World.var?_cell hg0 hv0 0)
    obtain ⟨a0, s0, rfl, hc0, hs0, hz0, rfl⟩ := errorString_of_trod hi hrow hp he hft hfo hs hc hcs hd0 ok0
    obtain ⟨c0, tt0, hb0⟩ := (hrows a0.block a0.off (by simp [MemPlace.row])).1
    have hnq : q0.Nodup := List.Nodup.sublist (List.sublist_append_right _ _) hnd
    obtain ⟨a', ha', hne'⟩ := ih q0 (fun x hx => hgs x (List.mem_cons_of_mem _ hx)) hvr hnq (fun b off hm => hrows b off (List.mem_append_right _ hm))
    have hnot : MemPlace.cell a0.block a0.off ∉ q0 := by
      intro hm
      have := (List.nodup_append.1 hnd).2.2
      exact this (.cell a0.block a0.off) (by simp [MemPlace.row]) (.cell a0.block a0.off) hm rfl
    refine ⟨fun i => match i with | 0 => a0 | k + 1 => a' k, ?_, ?_⟩
    · intro i x hx
      cases i with
      | zero =>
        simp only [List.getElem?_cons_zero, Option.some.injEq] at hx
        subst hx
        exact ⟨hv0, ⟨s0, hc0, hs0⟩, ⟨c0, tt0, hb0⟩, by simp [MemPlace.row]⟩
      | succ k =>
        simp only [List.getElem?_cons_succ] at hx
        obtain ⟨h1, h2, h3, h4⟩ := ha' k x hx
        exact ⟨h1, h2, h3, List.mem_append_right _ h4⟩
    · have far : ∀ k, k < r.length → a0 ≠ a' k := fun k hk e => by
        obtain ⟨_, _, _, h4⟩ := ha' k r[k] (by simp [hk])
        rw [← e] at h4
        exact hnot h4
      intro i j hi' hj' hij
      cases i with
      | zero =>
        cases j with
        | zero => exact absurd rfl hij
        | succ k => exact far k (by simpa using hj')
      | succ m =>
        cases j with
        | zero => exact (far m (by simpa using hi')).symm
        | succ k => exact hne' m k (by simpa using hi') (by simpa using hj') (by omega)

/-- The names and texts, in the rows' order. -/
def twoNames : List (String × List UInt8) := [("demon/api.ErrBound", [100, 101, 109, 111, 110, 58, 32, 98, 111, 117, 110, 100]), ("demon/api.ErrShape", [100, 101, 109, 111, 110, 58, 32, 115, 104, 97, 112, 101])]
def laidAll : List (String × DataW Unit) := [("demon/api.ErrBound", Rows.laid_demon_api_ErrBound), ("demon/api.ErrShape", Rows.laid_demon_api_ErrShape)]
theorem laidAll_parts (W : World) : laidMetH Tryd.prog laidAll W = laidMet Tryd.prog (twoNames.map fun x => (x.1, .iface "*errors.errorString" (.ptr (.agg [.lit (.string x.2)])))) W := by kernel_rfl

theorem var_at {W : World} {n : String} {g : Nat} {v : Value} (hg : Tryd.prog.globalNamed n = some g) (h : W.var? Tryd.prog n = some #[v]) : W.cell? ⟨g, 0, none⟩ = some v := by
  simpa using World.var?_cell hg h 0

theorem errs_of_laid {W : World} (h : laidMetH Tryd.prog laidAll W) : ∃ a : Nat → Addr, Errs W a := by
  rw [laidAll_parts] at h
  obtain ⟨ps, hv, hnd, hrows⟩ := h
  obtain ⟨a, ha, hne⟩ := laid_list Tryd.underlying28 Tryd.rowE Tryd.underlying156 Tryd.underlying177 rfl rfl Tryd.underlying9 Tryd.cellsE Tryd.cellsS twoNames ps
    (fun x hx => by
      simp only [twoNames, List.mem_cons, List.not_mem_nil, or_false] at hx
      rcases hx with rfl | rfl
      · exact ⟨_, Tryd.g1, by kernel_rfl⟩
      · exact ⟨_, Tryd.g2, by kernel_rfl⟩) hv hnd hrows
  exact ⟨fun i => a (i - 1), ⟨var_at Tryd.g1 (ha 0 _ rfl).1, var_at Tryd.g2 (ha 1 _ rfl).1⟩⟩

/-- The door's own heap meets the condition. -/
theorem door_met (os : Os) (args : Array Value) : laidMetH Tryd.prog laidAll ((World.doorLaid Tryd.prog 168 os).forCall (fun _ _ => 0) ⟨#[], args, []⟩).memory := by
  rw [laidAll_parts]
  exact laidMet_of_run' 8 (by kernel_rfl) (by kernel_rfl)
end Go.Proofs.YtfnmpkkfdljgcaaDoor

/- A parameter of type []int opened. -/
namespace Go.Proofs.YtfnmpkkfdljgcaaDoor
open Go.ChangeShapes Go.WideShapes Go.ChangeAt Go.RowKit Go.Joins Go.Deep

theorem Tryd.laidOut : laidOutB Tryd.prog = true := by kernel_rfl
theorem Tryd.cellsInt : Tryd.prog.cellsOf 3 = 1 := by kernel_rfl
theorem Tryd.cellsInts : Tryd.prog.cellsOf 26 = 1 := by kernel_rfl

set_option maxRecDepth 100000 in
/-- What a parameter of type []int gives: its slice, its numbers. -/
theorem open_nums {H : Type} {enc : TypeId × Value → H} {W : World} {base : Nat} {v : Value} {d : DataW H} {p : List MemPlace} (hv : Value.okWide Tryd.prog W .any base 26 v)
    (h : DataW.Trod enc Tryd.prog W 0 (fun _ => true) true 26 v d p) :
    ∃ (ad : Option Addr) (n cap : Nat) (z : Nat → Int), v = .slice ad n cap ∧ n ≤ maxLen ∧ NumsAt W (.slice ad n cap) n z := by
  obtain ⟨ad, n, cap, rfl⟩ := okWide_slice Tryd.underlying26 hv
  obtain ⟨fuel, hf⟩ := h
  rcases open_ints Tryd.underlying26 Tryd.underlying3 Tryd.cellsInt hf with ⟨hc, _⟩ | ⟨a, len, cap', zs, hc, _, hl, hm, hz, _, hcell, _⟩
  · simp [Value.cells] at hc
    obtain ⟨rfl, rfl, rfl⟩ := hc
    exact ⟨none, 0, 0, fun _ => 0, rfl, Nat.zero_le _, Or.inl ⟨none, 0, rfl, rfl⟩⟩
  · simp [Value.cells] at hc
    obtain ⟨rfl, rfl, rfl⟩ := hc
    simp only [if_true] at hz
    rcases Nat.eq_zero_or_pos n with rfl | hpos
    · exact ⟨some a, 0, cap, fun _ => 0, rfl, Nat.zero_le _, Or.inl ⟨some a, cap, rfl, rfl⟩⟩
    · obtain ⟨b, o, spot⟩ := a
      have hspot : spot = none := by simpa [Addr.add] using World.cell?_spot (hcell 0 (by omega))
      subst hspot
      refine ⟨_, n, cap, fun i => zs.getD i 0, rfl, by omega, Or.inr ⟨b, o, cap, rfl, hpos, fun i hi => ?_⟩⟩
      have := hcell i (by omega)
      rw [Go.Proofs.YtfnmpkkfdljgcaaDoor.add_plain] at this
      exact this
end Go.Proofs.YtfnmpkkfdljgcaaDoor

/- A parameter of type [][]int opened; how many numbers it holds at the most. -/
namespace Go.Proofs.YtfnmpkkfdljgcaaDoor
open Go.ChangeShapes Go.WideShapes Go.ChangeAt Go.RowKit Go.Joins Go.Deep

theorem bulk_one {H : Type} (d : DataW H) : 1 ≤ Rows.uptoBulk d := by
  cases d with
  | lit l => cases l <;> simp [Rows.uptoBulk]
  | _ => simp [Rows.uptoBulk]
theorem bulk_len {H : Type} : ∀ l : List (DataW H), l.length ≤ Rows.uptoBulkAll l
  | [] => by simp [Rows.uptoBulkAll]
  | x :: r => by
    have h1 := bulk_one x
    have h2 := bulk_len r
    simp only [Rows.uptoBulkAll, List.length_cons]
    omega
theorem bulk_mem {H : Type} {d : DataW H} : ∀ {l : List (DataW H)}, d ∈ l → Rows.uptoBulk d ≤ Rows.uptoBulkAll l
  | x :: r, h => by
    simp only [Rows.uptoBulkAll]
    rcases List.mem_cons.1 h with rfl | h'
    · omega
    · have := bulk_mem h'; omega
theorem bulk_append {H : Type} : ∀ l r : List (DataW H), Rows.uptoBulkAll (l ++ r) = Rows.uptoBulkAll l + Rows.uptoBulkAll r
  | [], r => by simp [Rows.uptoBulkAll]
  | x :: l, r => by simp only [List.cons_append, Rows.uptoBulkAll, bulk_append l r]; omega
theorem bulk_sum {H : Type} (f : Nat → DataW H) (L : Nat → Nat) : ∀ n, (∀ r, r < n → L r ≤ Rows.uptoBulk (f r)) → sumT L n ≤ Rows.uptoBulkAll ((List.range n).map f)
  | 0, _ => Nat.zero_le _
  | n + 1, h => by
    have h1 := bulk_sum f L n (fun r hr => h r (by omega))
    have h2 := h n (by omega)
    show sumT L n + L n ≤ _
    rw [List.range_succ, List.map_append, bulk_append]
    simp only [List.map_cons, List.map_nil, Rows.uptoBulkAll]
    omega

set_option maxRecDepth 100000 in
theorem open_table {H : Type} {enc : TypeId × Value → H} {W : World} {base : Nat} {v : Value} {d : DataW H} {p : List MemPlace} (hv : Value.okWide Tryd.prog W .any base 22 v)
    (h : DataW.Trod enc Tryd.prog W 0 (fun _ => true) true 22 v d p) :
    ∃ (ad : Option Addr) (R cap : Nat) (vs : Nat → Value) (ns : Nat → Nat) (zs : Nat → Nat → Int), v = .slice ad R cap ∧ R ≤ maxLen ∧ TabAt W (.slice ad R cap) R vs ns zs ∧ sumT ns R ≤ Rows.uptoBulk d := by
  obtain ⟨ad, R, cap, rfl⟩ := okWide_slice Tryd.underlying22 hv
  obtain ⟨fuel, hf⟩ := h
  rcases open_int_rows Tryd.underlying22 Tryd.underlying26 Tryd.underlying3 Tryd.cellsInts Tryd.cellsInt hf with ⟨hc, _⟩ | ⟨a, len, cap', A, L, C, Z, hc, _, hl, hm, hx, hr⟩
  · simp [Value.cells] at hc
    obtain ⟨rfl, rfl, rfl⟩ := hc
    exact ⟨none, 0, 0, fun _ => .slice none 0 0, fun _ => 0, fun _ _ => 0, rfl, Nat.zero_le _, Or.inl ⟨none, 0, rfl, rfl⟩, Nat.zero_le _⟩
  · simp [Value.cells] at hc
    obtain ⟨rfl, rfl, rfl⟩ := hc
    simp only [Prod.mk.injEq] at hx
    obtain ⟨rfl, _⟩ := hx
    have hbulk : sumT L R ≤ Rows.uptoBulk (DataW.slice ((List.range R).map fun r => intRow .i64 (A r) (L r) (Z r)) ((List.range (cap - R)).map fun j => intRow .i64 (A (R + j)) (L (R + j)) (Z (R + j))) : DataW H) := by
      have h1 := bulk_sum (H := H) (fun r => intRow .i64 (A r) (L r) (Z r)) L R (fun r hr' => by
        obtain ⟨_, h2, _, h4, _, h6, _⟩ := hr r (by omega)
        cases hA : A r with
        | none => have := h6 hA; omega
        | some a' =>
          have h7 := bulk_len (H := H) (lits .i64 ((Z r).take (L r)))
          have h8 : (lits (H := H) .i64 ((Z r).take (L r))).length = L r := by simp [lits]; omega
          simp only [intRow, Rows.uptoBulk]
          omega)
      simp only [Rows.uptoBulk]
      omega
    rcases Nat.eq_zero_or_pos R with rfl | hpos
    · exact ⟨some a, 0, cap, fun _ => .slice none 0 0, L, fun _ _ => 0, rfl, Nat.zero_le _, Or.inl ⟨some a, cap, rfl, rfl⟩, hbulk⟩
    · obtain ⟨b, o, spot⟩ := a
      have hspot : spot = none := by simpa [Addr.add] using World.cell?_spot (hr 0 (by omega)).1
      subst hspot
      refine ⟨_, R, cap, fun r => .slice (A r) (L r) (C r), L, fun r i => (Z r).getD i 0, rfl, by omega, Or.inr ⟨b, o, cap, rfl, hpos, fun i hi => ?_⟩, hbulk⟩
      obtain ⟨h1, h2, _, h4, _, h6, h7⟩ := hr i (by omega)
      rw [Go.Proofs.YtfnmpkkfdljgcaaDoor.add_plain] at h1
      refine ⟨h1, ?_⟩
      rcases Nat.eq_zero_or_pos (L i) with h0 | h0
      · exact Or.inl ⟨A i, C i, by dsimp only; rw [h0], h0⟩
      · cases hA : A i with
        | none => have := h6 hA; omega
        | some a' =>
          obtain ⟨_, h8⟩ := h7 a' hA
          obtain ⟨b', o', spot'⟩ := a'
          have hs' : spot' = none := by simpa [Addr.add] using World.cell?_spot (h8 0 (by omega))
          subst hs'
          refine Or.inr ⟨b', o', C i, by dsimp only; rw [hA], h0, fun j hj => ?_⟩
          have := h8 j (by omega)
          rw [Go.Proofs.YtfnmpkkfdljgcaaDoor.add_plain] at this
          exact this
theorem bulk_bound {H : Type} {l : List (DataW H)} (hk : Rows.uptoSmall H l = true) : Rows.uptoBulkAll l ≤ 1048576 := of_decide_eq_true hk
end Go.Proofs.YtfnmpkkfdljgcaaDoor
