/- chain.Stationary, where one class is closed. -/
import Derived.Test.YtlmehmbipbkeiaaDoorToldL
import Derived.Deep.RegionLaw
import Derived.Test.YtlmehmbipbkeiaaDoorRows
import Derived.Test.YtlmehmbipbkeiaaDoorCode
import Derived.ChangeSame
import Derived.ChangeVars
import Derived.JoinedOf
import Derived.LaidLaws
import Derived.LaidHandle
import Derived.LaidMore
import Derived.Stop.Joined
import Derived.Test.YtlmehmbipbkeiaaDoorInts
import Derived.Test.YtlmehmbipbkeiaaDoorCards
import Derived.Test.YtlmehmbipbkeiaaDoorTie
import Derived.SevenTiedAt
import Derived.ProofKit
import Derived.OpenShut
import Derived.ChangeOld
import Derived.Lib.SmallJoins
import Derived.Deep.Matrix
import Derived.Test.YtlmehmbipbkeiaaDoorTab
import Derived.Deep.DeepHandedRow
import Derived.Deep.DeepWitnessRowRef
namespace Go.Proofs.YtlmehmbipbkeiaaDoor
open Go.RowKit

theorem classL_lt (tt : Nat → Nat → Bool) (i : Nat) : ∀ n x, x ∈ classL tt i n → x < n
  | 0, x, h => by simp [classL] at h
  | n + 1, x, h => by
    rw [classL] at h
    split at h
    · simp only [List.mem_append, List.mem_singleton] at h
      rcases h with h | h
      · have := classL_lt tt i n x h; omega
      · omega
    · have := classL_lt tt i n x h; omega
/-- How often one is in each state of a list, times its row's sum. -/
def often (zs : Nat → Nat → Int) (n : Nat) (L : List Nat) (i : Nat) : Nat := vis L.length (downTo L.length (fold0 L zs n L.length) (L.length - 1) 1) L.length i * (sumN (zs (L.getD i 0)) n).toNat
/-- Put at their states' places. -/
def placed (zs : Nat → Nat → Int) (n : Nat) (L : List Nat) : Nat → Nat → Nat
  | 0, _ => 0
  | i + 1, s => if s = L.getD i 0 then often zs n L i else placed zs n L i s

set_option maxRecDepth 100000 in
set_option maxHeartbeats 8000000 in
theorem Stationary_one (a : Nat → Addr) (v : Value) (n e0 k : Nat) (vs : Nat → Value) (ns : Nat → Nat) (zs : Nat → Nat → Int) (w : World) (hE : Errs w a) (h : TabAt w v n vs ns zs) (hok : chainErr n ns zs = 0) (L : List Nat) (hcl : closedL (war (edge zs) n) n n = [e0]) (he0 : e0 < n) (hL : classL (war (edge zs) n) e0 n = L) (hL0 : 0 < L.length)
    (hD : 0 < sumTo (often zs n L) L.length) (hk : k ≤ 100000) (hkV : ∀ i, i ≤ L.length → sumTo (often zs n L) i < 18446744073709551616 ^ k) (hkO : ∀ i, i < L.length → vis L.length (downTo L.length (fold0 L zs n L.length) (L.length - 1) 1) L.length i < 18446744073709551616 ^ k ∧ often zs n L i < 18446744073709551616 ^ k) (hkP : ∀ s, s < n → placed zs n L L.length s < 18446744073709551616 ^ k) (htl : ∀ s, s < n → TellsOk (placed zs n L L.length s) (sumTo (often zs n L) L.length)) :
    Calls Tryd.prog 10 #[v] w fun e w' => ∃ g, e = .returned (.tuple #[.slice (some ⟨g, 0, none⟩) n n, .nilIface]) ∧ RowIs w' g (2 * n) (fracCell (placed zs n L L.length) (sumTo (often zs n L) L.length)) ∧ Below w.heap.size w w' := by
  obtain ⟨hn0, hn8, hev, hrows⟩ := chainErr_ok hok
  have hval := chainValid_any a v n vs ns zs w hE h (by omega)
  rw [hok, errV_zero] at hval
  have hRA := rowsAt_of_tab h hn0 hev
  have hreach := reach_any v n zs w hRA hn8
  obtain ⟨i0, hi, hz0, hz1, hz2⟩ := info_parts Tryd.infoNat
  have HINF : Hid (Tryd.prog.info? 50 = some i0 ∧ i0.zero = some (.slice none 0 0) ∧ i0.size = 1 ∧ i0.bytes = 24) := ⟨hi, hz0, hz1, hz2⟩
  clear hi hz0 hz1 hz2
  obtain ⟨cb, co, cc, hcv, hcr⟩ := hRA
  subst hcv
  have HRA : Hid (RowsAt w (.slice (some ⟨cb, co, none⟩) n cc) n zs) := ⟨cb, co, cc, rfl, hcr⟩
  have HEE := Hid.mk' hE
  have HOK := Hid.mk' hrows
  have HCL := Hid.mk' hcl
  have HLL := Hid.mk' hL
  have hLn : L.length ≤ n := by rw [← hL]; exact classL_le _ _ n
  have HLT : Hid (∀ x, x ∈ L → x < n) := by rw [← hL]; exact classL_lt _ _ n
  have HH := Hid.mk' (And.intro hkV (And.intro hkO (And.intro hkP htl)))
  clear hE h hok hrows hcl hL hkV hkO hkP htl hcr hev
  go_enter Tryd.func10, Tryd.ntmps10
  go_wp2_with fail
  refine hval.mono ?_
  clear hval
  rintro e w1 ⟨rfl, hw1⟩
  rw [hw1]
  clear hw1
  go_wp2_with fail
  refine hreach.mono ?_
  clear hreach
  rintro e w2 ⟨tv, rfl, htr, hb2⟩
  have hclo := closed_any tv n (war (edge zs) n) w2 htr hn8
  rw [HCL.out] at hclo
  have HTR := Hid.mk' htr
  have HB2 := Hid.mk' hb2
  clear htr hb2
  go_wp2_with fail
  refine hclo.mono ?_
  clear hclo
  rintro e w3 ⟨ev, rfl, hev, hb3⟩
  obtain ⟨eb, eo, ec, rfl, hec⟩ : ∃ eb eo ec, ev = .slice (some ⟨eb, eo, none⟩) 1 ec ∧ w3.cell? ⟨eb, eo, none⟩ = some (.int .i64 (e0 : Int)) := by
    rcases hev with ⟨_, _, _, h0⟩ | ⟨b, o, c, h1, _, h2⟩
    · simp at h0
    · exact ⟨b, o, c, h1, by have := h2 0 (by simp); simpa using this⟩
  have hcla := class_any tv n e0 (war (edge zs) n) w3 (HTR.out.later hb3) hn8 he0
  rw [HLL.out] at hcla
  have HB3 := Hid.mk' (below_chain HB2.out hb3)
  clear hb3 hev
  go_wp2_with fail
  refine hcla.mono ?_
  clear hcla hec
  rintro e w4 ⟨sv, rfl, hsv, hb4⟩
  have HSV := Hid.mk' hsv
  have HB4 := Hid.mk' (below_chain HB3.out hb4)
  clear hsv hb4 HTR
  go_upto_region 9 with fail
  go_cut [8, 9] from 31 (fun s t wx => ∃ nb : Nat, s = .slice (some ⟨nb, 0, none⟩) n n ∧ t = .slice none 0 0 ∧ w4.heap.size ≤ nb ∧ Hid (RowIs wx nb n (fun _ => .slice none 0 0)) ∧ Hid (Below w4.heap.size w4 wx))
  case first =>
    obtain ⟨w5, hrun, hown, hgrow⟩ := run_make_full (P := Tryd.prog) w4.drew w4.drew.heap.size 48 50 i0 (.slice none 0 0) 1 Tryd.underlying48 HINF.out.1 HINF.out.2.1 HINF.out.2.2.1 .i64 .i64 n (by rw [HINF.out.2.2.2]; omega) (by unfold maxLen; omega) (Nat.le_refl _)
    have HR5 := Hid.mk' (rowIs_made hown (made_one (.slice none 0 0) rfl n))
    have HB5 : Hid (Below w4.heap.size w4 w5) := below_chain ((Below.refl _ _).drew) (made_below hgrow)
    clear hown hgrow
    go_region_with (first | (go_at_call 20; refine (NatOf_zero _).mono ?_; rintro e wz ⟨rfl, hwz⟩; rw [hwz]; clear hwz))
    all_goals (go_wp2_with fail; go_meet)
    all_goals exact ⟨_, rfl, rfl, Nat.le_refl _, HR5, HB5⟩
  case rest =>
  obtain ⟨nb, rfl, rfl, hnb, HR5, HB5⟩ := hcut
  have hfold := fold_any (.slice (some ⟨cb, co, none⟩) n cc) sv n L.length zs L wc (HRA.out.later (below_chain HB4.out HB5.out)) (HSV.out.later HB5.out) rfl hL0 (by omega) HLT.out hn8 HOK.out
  go_wp2_with fail
  refine hfold.mono ?_
  clear hfold
  rintro e w6 ⟨g, rb, cp, f, rfl, hfo⟩
  have hvis := visits_any wc w6 L.length g rb cp f _ hfo hL0 (by omega) (fun i k hi hk => Nat.lt_trans (downTo_lt (by omega) (fun i k _ hk => fold0_lt (fun j hj => HLT.out _ (by rw [List.getD_eq_getElem?_getD, List.getElem?_eq_getElem hj]; simp)) HOK.out i k hk) (L.length - 1) 1 (by omega) i k hi hk) (bnd_room (by omega)))
  have hbf := hfo.below
  have HB6 := Hid.mk' (below_chain HB5.out hbf)
  have HR6 := Hid.mk' (HR5.out.later hbf)
  clear hfo hbf
  go_wp2_with fail
  refine hvis.mono ?_
  clear hvis
  rintro e w7 ⟨ov, rfl, hov, hb7, hfr7⟩
  obtain ⟨ob, oo, oc, of_, rfl, hoc⟩ := hov
  have HOV : Hid (∀ W, Below w7.heap.size w7 W → ∀ i, i < L.length → W.cell? ⟨ob, oo + i, none⟩ = some (of_ i) ∧ NatAt W (of_ i) (vis L.length (downTo L.length (fold0 L zs n L.length) (L.length - 1) 1) L.length i)) := fun W hb i hi => ⟨by rw [hb.cell (cell_lt (hoc i hi).1)]; exact (hoc i hi).1, (hoc i hi).2.later hb⟩
  have HB7 := Hid.mk' (below_chain HB6.out hb7)
  have HR7 := Hid.mk' (HR6.out.later hb7)
  have hnb7 : nb < w6.heap.size := cell_lt (HR6.out.row 0 hn0)
  have hob : nb ≠ ob := by have := hfr7 ob oo _ oc rfl; omega
  have HO7 : Hid (∀ i, i < L.length → w7.cell? ⟨ob, oo + i, none⟩ = some (of_ i) ∧ NatAt w7 (of_ i) (vis L.length (downTo L.length (fold0 L zs n L.length) (L.length - 1) 1) L.length i)) := hoc
  clear hb7 hoc HR5 HR6 HB5 HB6 HOV hfr7
  obtain ⟨m, hm⟩ : ∃ m, m = L.length := ⟨_, rfl⟩
  rw [← hm]
  have hmn : m ≤ n := by omega
  have HSC : Hid (∀ W, Below w4.heap.size w4 W → ∀ i, i < m → ∃ sb so sc, sv = .slice (some ⟨sb, so, none⟩) m sc ∧ sb < w4.heap.size ∧ W.cell? ⟨sb, so + i, none⟩ = some (.int .i64 ((L.getD i 0 : Nat) : Int))) := fun W hb i hi => by
    rcases HSV.out with ⟨_, _, _, h0⟩ | ⟨b, o, c, h1, _, h2⟩
    · omega
    · have := h2 i (by omega)
      exact ⟨b, o, c, by rw [h1, hm], cell_lt this, by rw [hb.cell (cell_lt this)]; exact this⟩
  obtain ⟨sb, so, sc, hsv, hsb, _⟩ := HSC.out w4 (Below.refl _ _) 0 (by omega)
  subst hsv
  have HS2 : Hid (∀ W, Below w4.heap.size w4 W → ∀ i, i < m → W.cell? ⟨sb, so + i, none⟩ = some (.int .i64 ((L.getD i 0 : Nat) : Int))) := fun W hb i hi => by
    obtain ⟨b, o, c, h1, _, h2⟩ := HSC.out W hb i hi
    simp only [Value.slice.injEq, Option.some.injEq, Addr.mk.injEq, and_true, true_and] at h1
    obtain ⟨⟨rfl, rfl⟩, _⟩ := h1
    exact h2
  have HRW : Hid (∀ W, Below w4.heap.size w4 W → ∀ i, i < n → ∃ b1 o1 cap1, W.cell? ⟨cb, co + i, none⟩ = some (.slice (some ⟨b1, o1, none⟩) n cap1) ∧ RowAt W b1 o1 n (zs i)) := fun W hb i hi => (HRA.out.later (below_chain HB4.out hb)).rowAt i hi
  have HLI : Hid (∀ i, i < m → L.getD i 0 < n) := fun i hi => HLT.out _ (by rw [List.getD_eq_getElem?_getD, List.getElem?_eq_getElem (by omega)]; simp)
  clear HSC HRA
  go_wp2_with fail
  go_loopw [9, 40] (fun u t wr => ∃ (i : Nat) (f : Nat → Value), i ≤ m ∧ t = .int .i64 i ∧ Hid (NatAt wr u (sumTo (often zs n L) i)) ∧ Hid (RowIs wr nb n f ∧ ∀ s, s < n → NatAt wr (f s) (placed zs n L i s)) ∧ Hid (∀ i, i < m → wr.cell? ⟨ob, oo + i, none⟩ = some (of_ i) ∧ NatAt wr (of_ i) (vis L.length (downTo L.length (fold0 L zs n L.length) (L.length - 1) 1) L.length i)) ∧ Hid (Below w4.heap.size w4 wr)) (fun _ t _ => m - (intOf t).toNat)
  case atStart => exact ⟨0, _, Nat.zero_le _, rfl, natAt_none _, ⟨HR7.out, fun s hs => natAt_none _⟩, fun i hi => HO7.out i (by omega), HB7⟩
  case round =>
    clear HR7 HO7 HB7
    obtain ⟨i, f, hi, rfl, HSU, HNU, HO, HB⟩ := hrel
    rcases Nat.lt_or_ge i m with h1 | h1
    · have hiI : (i : Int) < (m : Int) := by omega
      have hi0 : (0 : Int) ≤ (i : Int) := by omega
      have y0 := (HO.out i h1).1
      have HOF := Hid.mk' (HO.out i h1).2
      have y1 := HS2.out wr HB.out i h1
      have hsn := HLI.out i h1
      have HDEF : Hid (often zs n L i = vis L.length (downTo L.length (fold0 L zs n L.length) (L.length - 1) 1) L.length i * (sumN (zs (L.getD i 0)) n).toNat) := rfl
      have HPL : Hid (∀ s, placed zs n L (i + 1) s = if s = L.getD i 0 then often zs n L i else placed zs n L i s) := fun s => rfl
      have HKO := Hid.mk' (HH.out.2.1 i (by omega))
      have HKS := Hid.mk' (HH.out.1 i (by omega))
      have HSM : Hid (sumTo (often zs n L) (i + 1) = sumTo (often zs n L) i + often zs n L i) := rfl
      obtain ⟨st, hst⟩ : ∃ st, st = L.getD i 0 := ⟨_, rfl⟩
      have HST := Hid.mk' hst
      rw [← hst] at y1 hsn HDEF HPL
      clear hst
      have hs0 : (0 : Int) ≤ (st : Int) := by omega
      have hsI : (st : Int) < (n : Int) := by omega
      obtain ⟨b1, o1, cap1, y2, hrow⟩ := HRW.out wr HB.out st hsn
      have hokr := HOK.out st hsn
      have hpos := hokr.pos
      have hle := hokr.le
      obtain ⟨x, hx⟩ : ∃ x : Nat, sumN (zs st) n = (x : Int) := ⟨(sumN (zs st) n).toNat, by omega⟩
      have htot := Total_some b1 o1 cap1 n (zs st) wr hrow (fun k hk => by have := hokr.part hk; omega) (fun k hk => by have := hokr.lt hk; omega) (by omega)
      rw [hx] at htot hpos hle HDEF
      have hxw : IntKind.u64.wrap (x : Int) = (x : Int) := by rw [IntKind.wrap_u64]; omega
      have hx0 : 0 < x := by omega
      have htm := Times_any (of_ i) _ x k wr HOF.out hx0 (by omega) HKO.out.1 (by omega)
      have hof : vis L.length (downTo L.length (fold0 L zs n L.length) (L.length - 1) 1) L.length i * x = often zs n L i := by rw [HDEF.out]; simp
      rw [hof] at htm
      obtain ⟨oa, ol, oz, hoe⟩ := HOF.out.isSlice
      rw [hoe] at y0 htm
      clear hokr hpos hle hrow hx hof HDEF hoe
      go_wp2_with fail
      refine htot.mono ?_
      clear htot
      rintro e w8 ⟨rfl, hw8⟩
      rw [hw8]
      clear hw8
      go_wp2_with fail
      refine htm.mono ?_
      clear htm
      rintro e w9 ⟨nv, rfl, hnv, hb9⟩
      obtain ⟨na, nl, nc, rfl⟩ := hnv.isSlice
      have HNV := Hid.mk' hnv
      have HB9 := Hid.mk' (below_chain HB.out hb9)
      have HSU9 := Hid.mk' (HSU.out.later hb9)
      have HNU9 : Hid (RowIs w9 nb n f ∧ ∀ s, s < n → NatAt w9 (f s) (placed zs n L i s)) := ⟨HNU.out.1.later hb9, fun s hs => (HNU.out.2 s hs).later hb9⟩
      have HO9 : Hid (∀ i, i < m → w9.cell? ⟨ob, oo + i, none⟩ = some (of_ i) ∧ NatAt w9 (of_ i) (vis L.length (downTo L.length (fold0 L zs n L.length) (L.length - 1) 1) L.length i)) := fun j hj => ⟨by rw [hb9.cell (cell_lt (HO.out j hj).1)]; exact (HO.out j hj).1, (HO.out j hj).2.later hb9⟩
      clear hnv hb9 y0 y1 y2
      have q1 := HS2.out w9 HB9.out i h1
      rw [← HST.out] at q1
      go_wp2_with fail
      have HPLU : Hid (∀ W, Below w9.heap.size w9 W → Calls Tryd.prog 25 #[u9, .slice na nl nc] W fun e w' => ∃ r, e = .returned r ∧ NatAt w' r (sumTo (often zs n L) (i + 1)) ∧ Below W.heap.size W w') := fun W hb => by rw [HSM.out]; exact Plus_any u9 _ _ _ k W (HSU9.out.later hb) (HNV.out.later hb) HKS.out HKO.out.2 (by omega)
      have HQ : Hid (∀ W, Below w9.heap.size w9 W → W.cell? ⟨sb, so + i, none⟩ = some (.int .i64 (st : Int))) := fun W hb => by rw [hb.cell (cell_lt q1)]; exact q1
      have HQ2 : Hid (∀ W y, Below w9.heap.size w9 W → (W.setCell ⟨nb, st, none⟩ y).cell? ⟨sb, so + i, none⟩ = some (.int .i64 (st : Int))) := fun W y hb => by
        rw [cell_put _ ((HNU9.out.1.later hb).row st hsn), if_neg (fun e => by have := congrArg Addr.block e; simp at this; omega)]
        exact HQ.out W hb
      have HNF : Hid (∀ W, Below w9.heap.size w9 W → W.cell? ⟨nb, st, none⟩ = some (f st) ∧ W.frozen? ⟨nb, st, none⟩ = false) := fun W hb => ⟨(HNU9.out.1.later hb).row st hsn, (HNU9.out.1.later hb).fz st hsn⟩
      have hcur : Below w9.heap.size w9 w9.drew := (Below.refl _ _).drew
      clear q1
      go_region_held3 (fun W => W.cell? ⟨sb, so + i, none⟩ = some (.int .i64 (st : Int)))
        (first | exact HQ.out _ hcur | exact HQ.out _ hcur1 | exact HQ2.out _ _ hcur1)
        (first | (go_at_call 25; refine (HPLU.out _ hcur).mono ?_; rintro e w10 ⟨rv, rfl, hrv, hb10⟩; have hcur1 := below_chain hcur hb10; obtain ⟨z0, z1⟩ := HNF.out _ hcur1; have HRV := Hid.mk' hrv; clear hrv))
      go_wp2_with fail
      obtain ⟨fa, fl, fc, hfe⟩ := (HNU9.out.2 st hsn).isSlice
      have z2 := z0
      rw [hfe] at z2
      refine ⟨⟨i + 1, fun s => if s = st then .slice na nl nc else f s, h1, by go_num, HRV.out.putS z2, ⟨(HNU9.out.1.later hcur1).set hsn _ (fun _ _ => rfl), fun s hs => ?_⟩, fun j hj => ⟨?_, (((HO9.out j hj).2).later hcur1).putS z2⟩, (below_chain HB9.out hcur1).setCell hnb _⟩, by simp [intOf]; omega⟩
      · show NatAt _ (if s = st then Value.slice na nl nc else f s) _
        rw [HPL.out]
        by_cases hss : s = st
        · rw [if_pos hss, if_pos hss]; exact (HNV.out.later hcur1).putS z2
        · rw [if_neg hss, if_neg hss]; exact ((HNU9.out.2 s hs).later hcur1).putS z2
      · rw [cell_put _ z0, if_neg (fun e => hob (congrArg Addr.block e).symm), hcur1.cell (cell_lt (HO9.out j hj).1)]
        exact (HO9.out j hj).1
    · obtain rfl : m = i := by omega
      have hfin := told_all a (.slice (some ⟨nb, 0, none⟩) n n) u9 n (sumTo (often zs n L) L.length) k (placed zs n L L.length) wr (HEE.out.below (below_chain HB4.out HB.out)) ⟨nb, 0, n, f, rfl, fun s hs => ⟨by rw [Nat.zero_add]; exact HNU.out.1.row s hs, by have := HNU.out.2 s hs; rw [hm] at this; exact this⟩⟩ (by have := HSU.out; rw [hm] at this; exact this) hD hk (HH.out.1 _ (Nat.le_refl _)) HH.out.2.2.1 hn8 HH.out.2.2.2
      go_wp2_with fail
      refine hfin.mono ?_
      clear hfin
      rintro e w11 ⟨g2, rfl, hr11, hb11⟩
      go_wp2_with fail
      go_ret2
      exact ⟨g2, rfl, hr11, below_chain (below_chain HB4.out HB.out) hb11⟩
end Go.Proofs.YtlmehmbipbkeiaaDoor

/- The law's closed fact: two states that change places. -/
namespace Go.Proofs.YtlmehmbipbkeiaaDoor
open Go.RowKit

set_option maxRecDepth 100000 in
set_option maxHeartbeats 1000000 in
theorem SameFracs_same (b1 o1 c1 b2 o2 c2 n : Nat) (p : Nat → Int) (w : World) (hn : n ≤ 1000) (h1 : ∀ j, j < 2 * n → w.cell? ⟨b1, o1 + j, none⟩ = some (.int .i64 (p j))) (h2 : ∀ j, j < 2 * n → w.cell? ⟨b2, o2 + j, none⟩ = some (.int .i64 (p j))) :
    Calls Tryd.prog 11 #[.slice (some ⟨b1, o1, none⟩) n c1, .slice (some ⟨b2, o2, none⟩) n c2] w fun e w' => e = .returned (.bool true) ∧ ∃ m, w' = w.drewN m := by
  have H1 := Hid.mk' h1
  have H2 := Hid.mk' h2
  clear h1 h2
  go_enter Tryd.func11, Tryd.ntmps11
  go_wp2_with fail
  go_loopw [5] (fun t wr => ∃ i m : Nat, i ≤ n ∧ t = .int .i64 i ∧ wr = w.drewN m) (fun t _ => n - (intOf t).toNat)
  case atStart => exact ⟨0, 0, Nat.zero_le _, rfl, rfl⟩
  case round =>
    obtain ⟨i, m, hi, rfl, rfl⟩ := hrel
    rcases Nat.lt_or_ge i n with h1 | h1
    · have hiI : (i : Int) < (n : Int) := by omega
      have hi0 : (0 : Int) ≤ (i : Int) := by omega
      have y0 := H1.out (i * 2) (by omega)
      have y1 := H1.out (i * 2 + 1) (by omega)
      have z0 := H2.out (i * 2) (by omega)
      have z1 := H2.out (i * 2 + 1) (by omega)
      generalize p (i * 2) = x at *
      generalize p (i * 2 + 1) = y at *
      rw [← Nat.add_assoc] at y1 z1
      go_wp2_with fail
      go_quiet (fail)
      go_wp2_with fail
      exact ⟨⟨i + 1, _, h1, by go_num, rfl⟩, by simp [intOf]; omega⟩
    · obtain rfl : n = i := by omega
      go_wp2_with fail
      go_ret
      exact ⟨rfl, m, rfl⟩

/-- The two rows. -/
def swapZ (i k : Nat) : Int := if i = 0 then (if k = 1 then 1 else 0) else (if k = 0 then 5 else 0)
theorem swap_err : chainErr 2 (fun _ => 2) swapZ = 0 := by decide
theorem swap_closed : closedL (war (edge swapZ) 2) 2 2 = [0] := by decide
theorem swap_class : classL (war (edge swapZ) 2) 0 2 = [0, 1] := by decide
theorem swap_often : often swapZ 2 [0, 1] 0 = 5 ∧ often swapZ 2 [0, 1] 1 = 5 := by decide
theorem swap_vis : vis 2 (downTo 2 (fold0 [0, 1] swapZ 2 2) 1 1) 2 0 = 5 ∧ vis 2 (downTo 2 (fold0 [0, 1] swapZ 2 2) 1 1) 2 1 = 1 := by decide
theorem swap_placed : placed swapZ 2 [0, 1] 2 0 = 5 ∧ placed swapZ 2 [0, 1] 2 1 = 5 := by decide
theorem swap_sum : sumTo (often swapZ 2 [0, 1]) 0 = 0 ∧ sumTo (often swapZ 2 [0, 1]) 1 = 5 ∧ sumTo (often swapZ 2 [0, 1]) 2 = 10 := by decide
theorem swap_cell (j : Nat) (hj : j < 4) : fracCell (placed swapZ 2 [0, 1] 2) 10 j = .int .i64 (if j % 2 = 0 then 1 else 2) := by
  rcases (show j = 0 ∨ j = 1 ∨ j = 2 ∨ j = 3 by omega) with rfl | rfl | rfl | rfl <;> (unfold fracCell; simp [swap_placed.1, swap_placed.2])

/-- The table of the two rows, as it is built. -/
theorem swap_table (w : World) (t1 t2 : TypeId) : TabAt (((w.alloc (.cells #[.int .i64 0, .int .i64 1] t1)).alloc (.cells #[.int .i64 5, .int .i64 0] t1)).alloc (.cells #[.slice (some ⟨w.heap.size, 0, none⟩) 2 2, .slice (some ⟨w.heap.size + 1, 0, none⟩) 2 2] t2)) (.slice (some ⟨w.heap.size + 1 + 1, 0, none⟩) 2 2) 2 (fun i => .slice (some ⟨w.heap.size + i, 0, none⟩) 2 2) (fun _ => 2) swapZ := by
  refine Or.inr ⟨_, _, _, rfl, by decide, fun i hi => ⟨?_, Or.inr ⟨_, _, _, rfl, (by show 0 < 2; decide), fun k hk => ?_⟩⟩⟩
  · rcases (show i = 0 ∨ i = 1 by omega) with rfl | rfl
    · exact top_cell _ _ _ _ (by simp)
    · exact top_cell _ _ _ _ (by simp)
  · have hk2 : k < 2 := hk
    rcases (show i = 0 ∨ i = 1 by omega) with rfl | rfl
    · rw [World.cell?_alloc_lt _ _ _ (by simp; omega), World.cell?_alloc_lt _ _ _ (by simp)]
      rcases (show k = 0 ∨ k = 1 by omega) with rfl | rfl
      · exact top_cell _ _ _ _ rfl
      · exact top_cell _ _ _ _ rfl
    · rw [World.cell?_alloc_lt _ _ _ (by simp)]
      rcases (show k = 0 ∨ k = 1 by omega) with rfl | rfl
      · exact top_cell _ _ _ _ (by simp)
      · exact top_cell _ _ _ _ (by simp)

set_option maxRecDepth 100000 in
set_option maxHeartbeats 4000000 in
theorem swap_any (a : Nat → Addr) (w : World) (hE : Errs w a) : Calls Tryd.prog 4 #[] w fun e w' => e = .returned (.bool true) ∧ Below w.heap.size w w' := by
  obtain ⟨W3, hW3⟩ : ∃ W3, W3 = ((w.alloc (.cells #[.int .i64 0, .int .i64 1] 3)).alloc (.cells #[.int .i64 5, .int .i64 0] 3)).alloc (.cells #[.slice (some ⟨w.heap.size, 0, none⟩) 2 2, .slice (some ⟨w.heap.size + 1, 0, none⟩) 2 2] 34) := ⟨_, rfl⟩
  have hb3 : Below w.heap.size w W3 := by rw [hW3]; exact (((Below.refl _ _).alloc (Nat.le_refl _) _).alloc (by simp) _).alloc (by simp; omega) _
  have htab : TabAt W3 (.slice (some ⟨w.heap.size + 1 + 1, 0, none⟩) 2 2) 2 (fun i => .slice (some ⟨w.heap.size + i, 0, none⟩) 2 2) (fun _ => 2) swapZ := by rw [hW3]; exact swap_table w _ _
  have hst := Stationary_one a _ 2 0 1 _ (fun _ => 2) swapZ W3 (hE.below hb3) htab swap_err [0, 1] swap_closed (by decide) swap_class (by decide)
    (by show 0 < sumTo (often swapZ 2 [0, 1]) 2; rw [swap_sum.2.2]; decide) (by decide)
    (fun i hi => by
      have hi' : i ≤ 2 := hi
      rcases (show i = 0 ∨ i = 1 ∨ i = 2 by omega) with rfl | rfl | rfl
      · rw [swap_sum.1]; decide
      · rw [swap_sum.2.1]; decide
      · rw [swap_sum.2.2]; decide)
    (fun i hi => by
      have hi' : i < 2 := hi
      rcases (show i = 0 ∨ i = 1 by omega) with rfl | rfl
      · exact ⟨by show vis 2 (downTo 2 (fold0 [0, 1] swapZ 2 2) 1 1) 2 0 < _; rw [swap_vis.1]; decide, by rw [swap_often.1]; decide⟩
      · exact ⟨by show vis 2 (downTo 2 (fold0 [0, 1] swapZ 2 2) 1 1) 2 1 < _; rw [swap_vis.2]; decide, by rw [swap_often.2]; decide⟩)
    (fun s hs => by
      rcases (show s = 0 ∨ s = 1 by omega) with rfl | rfl
      · show placed swapZ 2 [0, 1] 2 0 < _; rw [swap_placed.1]; decide
      · show placed swapZ 2 [0, 1] 2 1 < _; rw [swap_placed.2]; decide)
    (fun s hs => by
      rcases (show s = 0 ∨ s = 1 by omega) with rfl | rfl
      · show TellsOk (placed swapZ 2 [0, 1] 2 0) (sumTo (often swapZ 2 [0, 1]) 2); rw [swap_placed.1, swap_sum.2.2]; unfold TellsOk; decide
      · show TellsOk (placed swapZ 2 [0, 1] 2 1) (sumTo (often swapZ 2 [0, 1]) 2); rw [swap_placed.2, swap_sum.2.2]; unfold TellsOk; decide)
  have HB3 := Hid.mk' hb3
  clear hb3 htab hE
  go_enter Tryd.func4, Tryd.ntmps4
  go_wp2_with fail
  rw [← hW3]
  clear hW3
  refine hst.mono ?_
  clear hst
  rintro e w4 ⟨g, rfl, hrow, hb4⟩
  have HROW : Hid (∀ W, Below w4.heap.size w4 W → ∀ j, j < 4 → W.cell? ⟨g, 0 + j, none⟩ = some (.int .i64 (if j % 2 = 0 then 1 else 2))) := fun W hb j hj => by
    rw [Nat.zero_add, ← swap_cell j hj]
    have := (hrow.later hb).row j hj
    rw [show sumTo (often swapZ 2 [0, 1]) [0, 1].length = 10 from swap_sum.2.2] at this
    exact this
  have HB4 := Hid.mk' (below_chain HB3.out hb4)
  clear hrow hb4
  go_wp2_with fail
  obtain ⟨W5, hW5⟩ : ∃ W5, W5 = (w4.alloc (.cells #[.int .i64 1, .int .i64 2] 36)).alloc (.cells #[.int .i64 1, .int .i64 2, .int .i64 1, .int .i64 2] 36) := ⟨_, rfl⟩
  have hb5 : Below w4.heap.size w4 W5 := by rw [hW5]; exact ((Below.refl _ _).alloc (Nat.le_refl _) _).alloc (by simp) _
  have hsame := SameFracs_same g 0 2 (w4.heap.size + 1) 0 2 2 (fun j => if j % 2 = 0 then 1 else 2) W5 (by decide) (HROW.out W5 hb5) (fun j hj => by
    rw [Nat.zero_add, hW5, top_cell _ _ _ j (by simp)]
    rcases (show j = 0 ∨ j = 1 ∨ j = 2 ∨ j = 3 by omega) with rfl | rfl | rfl | rfl <;> rfl)
  have HB5 := Hid.mk' (below_chain HB4.out hb5)
  rw [← hW5]
  clear hW5 hb5
  refine hsame.mono ?_
  clear hsame
  rintro e w6 ⟨rfl, m, rfl⟩
  go_wp2_with fail
  go_ret
  exact ⟨rfl, below_drewsN HB5.out m⟩
end Go.Proofs.YtlmehmbipbkeiaaDoor

/- The law ChainValid. -/
namespace Go.Proofs.YtlmehmbipbkeiaaDoor
open Go.RowKit

theorem sumT_at {ns : Nat → Nat} {n i : Nat} (hi : i < n) : ns i ≤ sumT ns n := by
  have h1 : sumT ns (i + 1) ≤ sumT ns n := sumT_mono ns hi
  have h2 : sumT ns (i + 1) = sumT ns i + ns i := rfl
  omega
set_option maxRecDepth 100000 in
set_option maxHeartbeats 4000000 in
theorem ChainValid_all (a : Nat → Addr) (ad : Option Addr) (n cap : Nat) (vs : Nat → Value) (ns : Nat → Nat) (zs : Nat → Nat → Int) (w : World) (hE : Errs w a) (h : TabAt w (.slice ad n cap) n vs ns zs) (hm : n ≤ maxLen) (hs : sumT ns n ≤ 2000000) :
    Calls Tryd.prog 3 #[.slice ad n cap] w fun e w' => e = .returned (.bool true) ∧ Below w.heap.size w w' := by
  have hC := swap_any a w hE
  by_cases hf : n ≤ 40 ∧ sumT ns n ≤ 400
  · have HFW : Hid (∀ W, Below w.heap.size w W → Calls Tryd.prog 5 #[.slice ad n cap] W fun e w' => e = .returned (.bool true) ∧ Below W.heap.size W w') := fun W hb => few_any _ n vs ns zs W (h.later hb) hm hs true ⟨fun _ => hf, fun _ => rfl⟩
    have HK : Hid (∀ W, Below w.heap.size w W → TabAt W (.slice ad n cap) n vs ns zs) := fun W hb => h.later hb
    obtain ⟨hf1, hf2⟩ := hf
    have HT : Hid (∀ (W : World) (v : Value) (vs' : Nat → Value), Below w.heap.size w W → TabAt W v n vs' ns zs → Calls Tryd.prog 7 #[v] W fun e w' => e = .returned (errV a (chainErr n ns zs)) ∧ w' = W) := fun W v vs' hb hv => chainValid_any a v n vs' ns zs W (hE.below hb) hv (by omega)
    have HTE : Hid (∀ W, Below w.heap.size w W → Calls Tryd.prog 9 #[.slice ad n cap] W fun e w' => e = .returned (.int .i64 (chainErr n ns zs : Nat)) ∧ w' = W) := fun W hb => ChainError_any _ n vs ns zs W (h.later hb) (by omega) (fun i hi => by have := sumT_at (ns := ns) hi; omega)
    have HC1 := Hid.mk' (chainErr_le n ns zs)
    generalize chainErr n ns zs = c at *
    have HK1 : Hid (∀ W, Below w.heap.size w W → Calls Tryd.prog 6 #[errV a c, .int .i64 (c : Int)] W fun e w' => e = .returned (.bool true) ∧ Below W.heap.size W w') := fun W hb => coded_errV a c (by have := HC1.out; omega) W (hE.below hb)
    generalize errV a c = ec at *
    clear hE h
    go_enter Tryd.func3, Tryd.ntmps3
    go_wp2_with (first
      | (go_at_call 4; refine hC.mono ?_; rintro e w1 ⟨rfl, hb1⟩; have HB1 := Hid.mk' hb1; clear hb1)
      | (go_at_call 5; refine (HFW.out w1 HB1.out).mono ?_; rintro e w2 ⟨rfl, hb2⟩; have HB2 := Hid.mk' (below_chain HB1.out hb2); clear hb2)
      | (go_at_call 8; refine (lists_any _ n vs ns zs w2 (HK.out _ HB2.out) hf1 hf2).mono ?_; rintro e w3 ⟨v3, vs3, rfl, hv3, hb3⟩; obtain ⟨ad3, cap3, rfl⟩ := hv3.form; have HV3 := Hid.mk' hv3; have HB3 := Hid.mk' (below_chain HB2.out hb3); clear hv3 hb3)
      | (go_at_call 7; refine (HT.out w3 _ vs3 HB3.out HV3.out).mono ?_; rintro e w4 ⟨rfl, hw4⟩; rw [hw4]; clear hw4)
      | (go_at_call 9; refine (HTE.out w3 HB3.out).mono ?_; rintro e w5 ⟨rfl, hw5⟩; rw [hw5]; clear hw5)
      | (go_at_call 6; refine (HK1.out w3 HB3.out).mono ?_; rintro e w6 ⟨rfl, hb6⟩; have HB6 := Hid.mk' (below_chain HB3.out hb6); clear hb6))
    go_ret
    exact ⟨rfl, HB6.out⟩
  · have HFW : Hid (∀ W, Below w.heap.size w W → Calls Tryd.prog 5 #[.slice ad n cap] W fun e w' => e = .returned (.bool false) ∧ Below W.heap.size W w') := fun W hb => few_any _ n vs ns zs W (h.later hb) hm hs false ⟨(fun e => by cases e), (fun e => absurd e hf)⟩
    clear hE h hf
    go_enter Tryd.func3, Tryd.ntmps3
    go_wp2_with (first
      | (go_at_call 4; refine hC.mono ?_; rintro e w1 ⟨rfl, hb1⟩; have HB1 := Hid.mk' hb1; clear hb1)
      | (go_at_call 5; refine (HFW.out w1 HB1.out).mono ?_; rintro e w2 ⟨rfl, hb2⟩; have HB2 := Hid.mk' (below_chain HB1.out hb2); clear hb2))
    go_ret
    exact ⟨rfl, HB2.out⟩
end Go.Proofs.YtlmehmbipbkeiaaDoor

/- What the rows' condition on package variables gives a walk: eight different sentinels with their texts, and the handle of the type error. -/
namespace Go.Proofs.YtlmehmbipbkeiaaDoor
open Go.ChangeShapes Go.WideShapes Go.RowKit

theorem Tryd.own : ownKnob Tryd.prog.godebug = none := by kernel_rfl
theorem Tryd.et : Tryd.prog.globalNamed "errors.errorType" = some 8 := by kernel_rfl
theorem Tryd.rt : (Tryd.prog.cutTypes.find? (·.1 == "internal/reflectlite.rtype")).map (·.2) = some 96 := by kernel_rfl
theorem Tryd.oneRow : ((List.range 151).filter fun t => Tryd.prog.rowNamed t [101, 114, 114, 111, 114]) = [27] := by kernel_rfl
theorem Tryd.size : Tryd.prog.types.size = 151 := by kernel_rfl
theorem Tryd.star : ("*" ++ "errors.errorString" : String) = "*errors.errorString" := by decide
theorem Tryd.rowE (u : TypeId) (h : Tryd.prog.typeName? 3 u = some "*errors.errorString") : u = 118 :=
  typeName_ptr_named (nm := "errors.errorString") (by rw [Tryd.star]; kernel_rfl) (by kernel_rfl) (by decide) u (by rw [Tryd.star]; exact h)
theorem Tryd.cellsE : Tryd.prog.cellsOf 139 = 1 := by kernel_rfl
theorem Tryd.cellsS : Tryd.prog.cellsOf 9 = 1 := by kernel_rfl
theorem Tryd.g0 : Tryd.prog.globalNamed "demon/api.ErrText" = some 3 := by kernel_rfl
theorem Tryd.g1 : Tryd.prog.globalNamed "demon/api.ErrBound" = some 0 := by kernel_rfl
theorem Tryd.g2 : Tryd.prog.globalNamed "demon/api.ErrShape" = some 1 := by kernel_rfl
theorem Tryd.g3 : Tryd.prog.globalNamed "demon/api.ErrZero" = some 4 := by kernel_rfl
theorem Tryd.g4 : Tryd.prog.globalNamed "demon/api.ErrName" = some 5 := by kernel_rfl
theorem Tryd.g5 : Tryd.prog.globalNamed "demon/api.ErrNone" = some 2 := by kernel_rfl
theorem Tryd.g6 : Tryd.prog.globalNamed "demon/api.ErrOrder" = some 6 := by kernel_rfl
theorem Tryd.g7 : Tryd.prog.globalNamed "demon/api.ErrKind" = some 7 := by kernel_rfl

/-- Any number of listed sentinels of one type: each one's pointer, text and row; no two are one. -/
theorem laid_list {P : Program} {W : World} {nm : String} {ti tp te ts : TypeId} {ms : Array (String × TypeId)} {f : Field}
    (hi : P.underlying ti = some (.interface ms)) (hrow : ∀ u, P.typeName? 3 u = some nm → u = tp)
    (hp : P.underlying tp = some (.pointer te)) (he : P.underlying te = some (.struct #[f])) (hft : f.type = ts) (hfo : f.offset = 0) (hs : P.underlying ts = some .string) (hc : P.cellsOf te = 1) (hcs : P.cellsOf ts = 1) :
    ∀ (L : List (String × List UInt8)) (ps : List MemPlace), (∀ x, x ∈ L → ∃ g, P.globalNamed x.1 = some g ∧ (P.globals[g]?).map (·.type) = some ti) →
      DataW.LaidVars P W (L.map fun x => (x.1, .iface nm (.ptr (.agg [.lit (.string x.2)])))) ps → ps.Nodup →
      (∀ b off, MemPlace.cell b off ∈ ps → (∃ c t, W.heap[b]? = some (.cells c t (0, 0))) ∧ ∀ u v, W.cell? ⟨b, off, none⟩ = some (.iface u v) → Value.okWide P W .any 0 u v) →
      ∃ a : Nat → Addr, (∀ i x, L[i]? = some x → W.var? P x.1 = some #[.iface tp (.pointer (some (a i)))] ∧ (∃ s, W.cell? (a i) = some (.string s) ∧ s.data.toList = x.2) ∧
          (∃ c t, W.heap[(a i).block]? = some (.cells c t (0, 0))) ∧ MemPlace.cell (a i).block (a i).off ∈ ps) ∧
        ∀ i j, i < L.length → j < L.length → i ≠ j → a i ≠ a j := by
  intro L
  induction L with
  | nil => intro ps _ _ _ _; exact ⟨fun _ => default, fun i x h => by simp at h, fun i j h => by simp at h⟩
  | cons x r ih =>
    intro ps hgs hv hnd hrows
    obtain ⟨n, text⟩ := x
    obtain ⟨g0, t0, cs0, f0, p0, q0, hg0, ht0, hv0, hd0, hvr, e0⟩ := hv
    obtain ⟨g, hg, ht⟩ := hgs (n, text) (List.mem_cons_self ..)
    obtain rfl := Option.some.inj (hg.symm.trans hg0)
    obtain rfl := Option.some.inj (ht.symm.trans ht0)
    subst e0
    obtain ⟨l0⟩ := cs0
    have ok0 : ∀ u v, l0 = [.iface u v] → Value.okWide P W .any 0 u v := fun u v e => by
      subst e
      exact (hrows g 0 (by simp [MemPlace.row])).2 u v (by simpa using World.var?_cell hg0 hv0 0)
    obtain ⟨a0, s0, rfl, hc0, hs0, hz0, rfl⟩ := errorString_of_trod hi hrow hp he hft hfo hs hc hcs hd0 ok0
    obtain ⟨c0, tt0, hb0⟩ := (hrows a0.block a0.off (by simp [MemPlace.row])).1
    have hnq : q0.Nodup := List.Nodup.sublist (List.sublist_append_right _ _) hnd
    obtain ⟨a', ha', hne'⟩ := ih q0 (fun x hx => hgs x (List.mem_cons_of_mem _ hx)) hvr hnq (fun b off hm => hrows b off (List.mem_append_right _ hm))
    have hnot : MemPlace.cell a0.block a0.off ∉ q0 := by
      intro hm
      have := (List.nodup_append.1 hnd).2.2
      exact this (.cell a0.block a0.off) (by simp [MemPlace.row]) (.cell a0.block a0.off) hm rfl
    refine ⟨fun i => match i with | 0 => a0 | k + 1 => a' k, ?_, ?_⟩
    · intro i x hx
      cases i with
      | zero =>
        simp only [List.getElem?_cons_zero, Option.some.injEq] at hx
        subst hx
        exact ⟨hv0, ⟨s0, hc0, hs0⟩, ⟨c0, tt0, hb0⟩, by simp [MemPlace.row]⟩
      | succ k =>
        simp only [List.getElem?_cons_succ] at hx
        obtain ⟨h1, h2, h3, h4⟩ := ha' k x hx
        exact ⟨h1, h2, h3, List.mem_append_right _ h4⟩
    · have far : ∀ k, k < r.length → a0 ≠ a' k := fun k hk e => by
        obtain ⟨_, _, _, h4⟩ := ha' k r[k] (by simp [hk])
        rw [← e] at h4
        exact hnot h4
      intro i j hi' hj' hij
      cases i with
      | zero =>
        cases j with
        | zero => exact absurd rfl hij
        | succ k => exact far k (by simpa using hj')
      | succ m =>
        cases j with
        | zero => exact (far m (by simpa using hi')).symm
        | succ k => exact hne' m k (by simpa using hi') (by simpa using hj') (by omega)

/-- The names and texts, in the rows' order. -/
def eightNames : List (String × List UInt8) := [("demon/api.ErrText", [100, 101, 109, 111, 110, 58, 32, 116, 101, 120, 116]), ("demon/api.ErrBound", [100, 101, 109, 111, 110, 58, 32, 98, 111, 117, 110, 100]), ("demon/api.ErrShape", [100, 101, 109, 111, 110, 58, 32, 115, 104, 97, 112, 101]), ("demon/api.ErrZero", [100, 101, 109, 111, 110, 58, 32, 122, 101, 114, 111]), ("demon/api.ErrName", [100, 101, 109, 111, 110, 58, 32, 110, 97, 109, 101]), ("demon/api.ErrNone", [100, 101, 109, 111, 110, 58, 32, 110, 111, 110, 101]), ("demon/api.ErrOrder", [100, 101, 109, 111, 110, 58, 32, 111, 114, 100, 101, 114]), ("demon/api.ErrKind", [100, 101, 109, 111, 110, 58, 32, 107, 105, 110, 100])]
def laidAll : List (String × DataW Unit) := [("errors.errorType", Rows.laid_errors_errorType), ("demon/api.ErrText", Rows.laid_demon_api_ErrText), ("demon/api.ErrBound", Rows.laid_demon_api_ErrBound), ("demon/api.ErrShape", Rows.laid_demon_api_ErrShape), ("demon/api.ErrZero", Rows.laid_demon_api_ErrZero), ("demon/api.ErrName", Rows.laid_demon_api_ErrName), ("demon/api.ErrNone", Rows.laid_demon_api_ErrNone), ("demon/api.ErrOrder", Rows.laid_demon_api_ErrOrder), ("demon/api.ErrKind", Rows.laid_demon_api_ErrKind)]
theorem laidAll_parts (W : World) : laidMetH Tryd.prog laidAll W = (laidMet Tryd.prog (eightNames.map fun x => (x.1, .iface "*errors.errorString" (.ptr (.agg [.lit (.string x.2)])))) W ∧ handlesMet Tryd.prog [("errors.errorType", Rows.laid_errors_errorType)] W) := by kernel_rfl

theorem var_at {W : World} {n : String} {g : Nat} {v : Value} (hg : Tryd.prog.globalNamed n = some g) (h : W.var? Tryd.prog n = some #[v]) : W.cell? ⟨g, 0, none⟩ = some v := by
  simpa using World.var?_cell hg h 0

theorem errs_of_laid {W : World} (h : laidMetH Tryd.prog laidAll W) : ∃ a : Nat → Addr, Errs W a ∧ ∀ i x, eightNames[i]? = some x → ∃ s, W.cell? (a i) = some (.string s) ∧ s.data.toList = x.2 := by
  rw [laidAll_parts] at h
  obtain ⟨⟨ps, hv, hnd, hrows⟩, hh⟩ := h
  obtain ⟨name, u, ty, e1, e2, e3, e4, e5⟩ := hh _ (List.mem_singleton.2 rfl)
  have en : name = [101, 114, 114, 111, 114] := (Option.some.inj e1).symm
  subst en
  obtain rfl := Option.some.inj (Tryd.rt.symm.trans e2)
  have hm : ty ∈ (List.range 151).filter fun t => Tryd.prog.rowNamed t [101, 114, 114, 111, 114] := List.mem_filter.2 ⟨List.mem_range.2 (by rw [← Tryd.size]; exact e3), e4⟩
  rw [Tryd.oneRow] at hm
  obtain rfl := List.mem_singleton.1 hm
  have hth : typeHandle Tryd.prog 27 = .pointer (some ⟨9, 27, none⟩) := by kernel_rfl
  rw [hth] at e5
  obtain ⟨a, ha, hne⟩ := laid_list Tryd.underlying27 Tryd.rowE Tryd.underlying118 Tryd.underlying139 rfl rfl Tryd.underlying9 Tryd.cellsE Tryd.cellsS eightNames ps
    (fun x hx => by
      simp only [eightNames, List.mem_cons, List.not_mem_nil, or_false] at hx
      rcases hx with rfl | rfl | rfl | rfl | rfl | rfl | rfl | rfl
      · exact ⟨_, Tryd.g0, by kernel_rfl⟩
      · exact ⟨_, Tryd.g1, by kernel_rfl⟩
      · exact ⟨_, Tryd.g2, by kernel_rfl⟩
      · exact ⟨_, Tryd.g3, by kernel_rfl⟩
      · exact ⟨_, Tryd.g4, by kernel_rfl⟩
      · exact ⟨_, Tryd.g5, by kernel_rfl⟩
      · exact ⟨_, Tryd.g6, by kernel_rfl⟩
      · exact ⟨_, Tryd.g7, by kernel_rfl⟩) hv hnd hrows
  refine ⟨a, ⟨var_at Tryd.g0 (ha 0 _ rfl).1, var_at Tryd.g1 (ha 1 _ rfl).1, var_at Tryd.g2 (ha 2 _ rfl).1, var_at Tryd.g3 (ha 3 _ rfl).1, var_at Tryd.g4 (ha 4 _ rfl).1, var_at Tryd.g5 (ha 5 _ rfl).1, var_at Tryd.g6 (ha 6 _ rfl).1, var_at Tryd.g7 (ha 7 _ rfl).1, var_at Tryd.et e5, ?_, ?_⟩, fun i x hx => (ha i x hx).2.1⟩
  · intro i hi
    have hl : eightNames.length = 8 := rfl
    exact (ha i eightNames[i] (List.getElem?_eq_getElem (by omega))).2.2.1
  · intro i j hi hj hij
    exact hne i j hi hj hij

/-- The door's own heap meets the condition. -/
theorem door_met (os : Os) (args : Array Value) : laidMetH Tryd.prog laidAll ((World.doorLaid Tryd.prog 168 os).forCall (fun _ _ => 0) ⟨#[], args, []⟩).memory :=
  laidMetH_of_parts3 (fuel := 8) (laidMet_of_run' 8 (by kernel_rfl) (by kernel_rfl)) (by kernel_rfl) (by kernel_rfl)
end Go.Proofs.YtlmehmbipbkeiaaDoor

/- A parameter of type []int opened. -/
namespace Go.Proofs.YtlmehmbipbkeiaaDoor
open Go.ChangeShapes Go.WideShapes Go.ChangeAt Go.RowKit Go.Joins Go.Deep

theorem Tryd.laidOut : laidOutB Tryd.prog = true := by kernel_rfl
theorem Tryd.cellsInt : Tryd.prog.cellsOf 3 = 1 := by kernel_rfl
theorem Tryd.cellsInts : Tryd.prog.cellsOf 34 = 1 := by kernel_rfl

set_option maxRecDepth 100000 in
/-- What a parameter of type []int gives: its slice, its numbers. -/
theorem open_nums {H : Type} {enc : TypeId × Value → H} {W : World} {base : Nat} {v : Value} {d : DataW H} {p : List MemPlace} (hv : Value.okWide Tryd.prog W .any base 34 v)
    (h : DataW.Trod enc Tryd.prog W 0 (fun _ => true) true 34 v d p) :
    ∃ (ad : Option Addr) (n cap : Nat) (z : Nat → Int), v = .slice ad n cap ∧ n ≤ maxLen ∧ NumsAt W (.slice ad n cap) n z := by
  obtain ⟨ad, n, cap, rfl⟩ := okWide_slice Tryd.underlying34 hv
  obtain ⟨fuel, hf⟩ := h
  rcases open_ints Tryd.underlying34 Tryd.underlying3 Tryd.cellsInt hf with ⟨hc, _⟩ | ⟨a, len, cap', zs, hc, _, hl, hm, hz, _, hcell, _⟩
  · simp [Value.cells] at hc
    obtain ⟨rfl, rfl, rfl⟩ := hc
    exact ⟨none, 0, 0, fun _ => 0, rfl, Nat.zero_le _, Or.inl ⟨none, 0, rfl, rfl⟩⟩
  · simp [Value.cells] at hc
    obtain ⟨rfl, rfl, rfl⟩ := hc
    simp only [if_true] at hz
    rcases Nat.eq_zero_or_pos n with rfl | hpos
    · exact ⟨some a, 0, cap, fun _ => 0, rfl, Nat.zero_le _, Or.inl ⟨some a, cap, rfl, rfl⟩⟩
    · obtain ⟨b, o, spot⟩ := a
      have hspot : spot = none := by simpa [Addr.add] using World.cell?_spot (hcell 0 (by omega))
      subst hspot
      refine ⟨_, n, cap, fun i => zs.getD i 0, rfl, by omega, Or.inr ⟨b, o, cap, rfl, hpos, fun i hi => ?_⟩⟩
      have := hcell i (by omega)
      rw [Go.Proofs.YtlmehmbipbkeiaaDoor.add_plain] at this
      exact this
end Go.Proofs.YtlmehmbipbkeiaaDoor

/- A parameter of type [][]int opened; how many numbers it holds at the most. -/
namespace Go.Proofs.YtlmehmbipbkeiaaDoor
open Go.ChangeShapes Go.WideShapes Go.ChangeAt Go.RowKit Go.Joins Go.Deep

theorem bulk_one {H : Type} (d : DataW H) : 1 ≤ Rows.uptoBulk d := by
  cases d with
  | lit l => cases l <;> simp [Rows.uptoBulk]
  | _ => simp [Rows.uptoBulk]
theorem bulk_len {H : Type} : ∀ l : List (DataW H), l.length ≤ Rows.uptoBulkAll l
  | [] => by simp [Rows.uptoBulkAll]
  | x :: r => by
    have h1 := bulk_one x
    have h2 := bulk_len r
    simp only [Rows.uptoBulkAll, List.length_cons]
    omega
theorem bulk_mem {H : Type} {d : DataW H} : ∀ {l : List (DataW H)}, d ∈ l → Rows.uptoBulk d ≤ Rows.uptoBulkAll l
  | x :: r, h => by
    simp only [Rows.uptoBulkAll]
    rcases List.mem_cons.1 h with rfl | h'
    · omega
    · have := bulk_mem h'; omega
theorem bulk_append {H : Type} : ∀ l r : List (DataW H), Rows.uptoBulkAll (l ++ r) = Rows.uptoBulkAll l + Rows.uptoBulkAll r
  | [], r => by simp [Rows.uptoBulkAll]
  | x :: l, r => by simp only [List.cons_append, Rows.uptoBulkAll, bulk_append l r]; omega
theorem bulk_sum {H : Type} (f : Nat → DataW H) (L : Nat → Nat) : ∀ n, (∀ r, r < n → L r ≤ Rows.uptoBulk (f r)) → sumT L n ≤ Rows.uptoBulkAll ((List.range n).map f)
  | 0, _ => Nat.zero_le _
  | n + 1, h => by
    have h1 := bulk_sum f L n (fun r hr => h r (by omega))
    have h2 := h n (by omega)
    show sumT L n + L n ≤ _
    rw [List.range_succ, List.map_append, bulk_append]
    simp only [List.map_cons, List.map_nil, Rows.uptoBulkAll]
    omega

set_option maxRecDepth 100000 in
theorem open_table {H : Type} {enc : TypeId × Value → H} {W : World} {base : Nat} {v : Value} {d : DataW H} {p : List MemPlace} (hv : Value.okWide Tryd.prog W .any base 22 v)
    (h : DataW.Trod enc Tryd.prog W 0 (fun _ => true) true 22 v d p) :
    ∃ (ad : Option Addr) (R cap : Nat) (vs : Nat → Value) (ns : Nat → Nat) (zs : Nat → Nat → Int), v = .slice ad R cap ∧ R ≤ maxLen ∧ TabAt W (.slice ad R cap) R vs ns zs ∧ sumT ns R ≤ Rows.uptoBulk d := by
  obtain ⟨ad, R, cap, rfl⟩ := okWide_slice Tryd.underlying22 hv
  obtain ⟨fuel, hf⟩ := h
  rcases open_int_rows Tryd.underlying22 Tryd.underlying34 Tryd.underlying3 Tryd.cellsInts Tryd.cellsInt hf with ⟨hc, _⟩ | ⟨a, len, cap', A, L, C, Z, hc, _, hl, hm, hx, hr⟩
  · simp [Value.cells] at hc
    obtain ⟨rfl, rfl, rfl⟩ := hc
    exact ⟨none, 0, 0, fun _ => .slice none 0 0, fun _ => 0, fun _ _ => 0, rfl, Nat.zero_le _, Or.inl ⟨none, 0, rfl, rfl⟩, Nat.zero_le _⟩
  · simp [Value.cells] at hc
    obtain ⟨rfl, rfl, rfl⟩ := hc
    simp only [Prod.mk.injEq] at hx
    obtain ⟨rfl, _⟩ := hx
    have hbulk : sumT L R ≤ Rows.uptoBulk (DataW.slice ((List.range R).map fun r => intRow .i64 (A r) (L r) (Z r)) ((List.range (cap - R)).map fun j => intRow .i64 (A (R + j)) (L (R + j)) (Z (R + j))) : DataW H) := by
      have h1 := bulk_sum (H := H) (fun r => intRow .i64 (A r) (L r) (Z r)) L R (fun r hr' => by
        obtain ⟨_, h2, _, h4, _, h6, _⟩ := hr r (by omega)
        cases hA : A r with
        | none => have := h6 hA; omega
        | some a' =>
          have h7 := bulk_len (H := H) (lits .i64 ((Z r).take (L r)))
          have h8 : (lits (H := H) .i64 ((Z r).take (L r))).length = L r := by simp [lits]; omega
          simp only [intRow, Rows.uptoBulk]
          omega)
      simp only [Rows.uptoBulk]
      omega
    rcases Nat.eq_zero_or_pos R with rfl | hpos
    · exact ⟨some a, 0, cap, fun _ => .slice none 0 0, L, fun _ _ => 0, rfl, Nat.zero_le _, Or.inl ⟨some a, cap, rfl, rfl⟩, hbulk⟩
    · obtain ⟨b, o, spot⟩ := a
      have hspot : spot = none := by simpa [Addr.add] using World.cell?_spot (hr 0 (by omega)).1
      subst hspot
      refine ⟨_, R, cap, fun r => .slice (A r) (L r) (C r), L, fun r i => (Z r).getD i 0, rfl, by omega, Or.inr ⟨b, o, cap, rfl, hpos, fun i hi => ?_⟩, hbulk⟩
      obtain ⟨h1, h2, _, h4, _, h6, h7⟩ := hr i (by omega)
      rw [Go.Proofs.YtlmehmbipbkeiaaDoor.add_plain] at h1
      refine ⟨h1, ?_⟩
      rcases Nat.eq_zero_or_pos (L i) with h0 | h0
      · exact Or.inl ⟨A i, C i, by dsimp only; rw [h0], h0⟩
      · cases hA : A i with
        | none => have := h6 hA; omega
        | some a' =>
          obtain ⟨_, h8⟩ := h7 a' hA
          obtain ⟨b', o', spot'⟩ := a'
          have hs' : spot' = none := by simpa [Addr.add] using World.cell?_spot (h8 0 (by omega))
          subst hs'
          refine Or.inr ⟨b', o', C i, by dsimp only; rw [hA], h0, fun j hj => ?_⟩
          have := h8 j (by omega)
          rw [Go.Proofs.YtlmehmbipbkeiaaDoor.add_plain] at this
          exact this
theorem bulk_bound {H : Type} {l : List (DataW H)} (hk : Rows.uptoSmall H l = true) : Rows.uptoBulkAll l ≤ 1048576 := of_decide_eq_true hk
end Go.Proofs.YtlmehmbipbkeiaaDoor
