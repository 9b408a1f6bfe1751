/- The program's Moves. -/
import Derived.Test.YtgopohbombnflaaDoorOrMm
import Derived.Test.YtgopohbombnflaaDoorOrMo
import Derived.Test.YtgopohbombnflaaDoorOrAb
namespace Go.Proofs.YtgopohbombnflaaDoor
open Go.RowKit

def mvE (n m : Nat) (p q : Nat → Int) : Nat := if prE n p m q = 0 then (if dipN (surF p q n) n = true then 6 else 0) else prE n p m q
theorem own_lowO {w : World} {base : Nat} {e : TypeId} {s n : Nat} {v y : Value} {xs : List Value} {p : Addr} (h : w.ownsRow base e s v n xs) (hp : p.block < base) : (w.setCell p y).ownsRow base e s v n xs := by
  refine ⟨h.1, ?_⟩
  rcases h.2 with hn | ⟨g, cap, cur, hv, hg, hh, rest⟩
  · exact Or.inl hn
  · refine Or.inr ⟨g, cap, cur, hv, hg, ?_, rest⟩
    rw [Below.heap_setCell _ _ _ _ (fun e => by omega)]
    exact hh
theorem own_formO {w : World} {base : Nat} {t : TypeId} {sz : Nat} {v : Value} {n : Nat} {xs : List Value} (h : w.ownsRow base t sz v n xs) : ∃ ad cap, v = .slice ad n cap := by
  rcases h.2 with ⟨rfl, rfl⟩ | ⟨g, cap, cur, rfl, _⟩
  · exact ⟨_, _, rfl⟩
  · exact ⟨_, _, rfl⟩
/-- The two rows that Moves works on. -/
structure MM (w wr : World) (B g g1 n : Nat) (d : Nat → Int) (D : List Nat) : Prop where
  below : Below w.heap.size w wr
  hB : B ≤ wr.heap.size
  lt : g < B ∧ g1 < B ∧ g ≠ g1 ∧ w.heap.size ≤ g ∧ w.heap.size ≤ B
  row : RowAt wr g 0 n d
  fz : ∀ i, i < n → wr.frozen? ⟨g, 0 + i, none⟩ = false
  plc : RowAt wr g1 0 n (fun j => ((D.getD j 0 : Nat) : Int))
theorem MM.push {w wr w3 : World} {B g g1 n : Nat} {d : Nat → Int} {D : List Nat} (h : MM w wr B g g1 n d D) (hb : Below B wr w3) : MM w w3 B g g1 n d D :=
  ⟨h.below.trans (hb.mono h.lt.2.2.2.2), Nat.le_trans h.hB hb.size, h.lt, fun i hi => by rw [hb.cell h.lt.1]; exact h.row i hi, fun i hi => by rw [hb.frozen h.lt.1]; exact h.fz i hi, fun i hi => by rw [hb.cell h.lt.2.1]; exact h.plc i hi⟩
theorem MM.set {w wr : World} {B g g1 n : Nat} {d : Nat → Int} {D : List Nat} (h : MM w wr B g g1 n d D) {j : Nat} (hj : j < n) (x : Int) : MM w (wr.setCell ⟨g, j, none⟩ (.int .i64 x)) B g g1 n (setF d j x) D := by
  have hF : Fills w wr g n d := ⟨h.row, h.fz, h.below, h.lt.2.2.2.1⟩
  have hS := hF.set hj x (f' := setF d j x) (fun i _ => rfl)
  refine ⟨hS.below, by simpa using h.hB, h.lt, hS.row, hS.fz, fun i hi => ?_⟩
  rw [World.cell?_setCell_other _ _ _ _ (fun e => h.lt.2.2.1 (by have := congrArg Addr.block e; simpa using this))]
  exact h.plc i hi
theorem MM.drew {w wr : World} {B g g1 n : Nat} {d : Nat → Int} {D : List Nat} (h : MM w wr B g g1 n d D) : MM w wr.drew B g g1 n d D := ⟨h.below.drew, h.hB, h.lt, h.row, h.fz, h.plc⟩
/-- How long a list is. -/
def lenV : Value → Nat
  | .slice _ n _ => n
  | _ => 0

set_option maxRecDepth 100000 in
set_option maxHeartbeats 4000000 in
theorem Moves_ok (a : Nat → Addr) (pv qv : Value) (n : Nat) (p q : Nat → Int) (w : World) (hE : Errs w a) (hp : NumsAt w pv n p) (hq : NumsAt w qv n q) (hpe : prE n p n q = 0) (hdip : dipN (surF p q n) n = false) :
    Calls Tryd.prog 14 #[pv, qv] w fun e w' => ∃ v ml, e = .returned (.tuple #[v, .nilIface]) ∧ MvAt w' v ml ∧ MvOk n p q ml ∧ Below w.heap.size w w' := by
  obtain ⟨h16, h0, _, hpr, hqr, hsum⟩ := prE_ok hpe
  have hAb : Calls Tryd.prog 10 #[pv, qv] w fun e w' => e = .returned (.tuple #[.bool true, .nilIface]) ∧ Below w.heap.size w w' := by
    have h := Above_any a pv qv n n p q w hE hp hq (by omega) (by omega)
    rw [hpe, hdip] at h
    exact h
  have HFA := Hid.mk' (fun (W : World) (hb : Below w.heap.size w W) => falling_any pv n p W (hp.later hb) h0 h16)
  have HSU := Hid.mk' (fun (W : World) (hb : Below w.heap.size w W) => surplus_any pv qv n p q W (hp.later hb) (hq.later hb) h0 h16 hpr hqr)
  have HST := Hid.mk' (fun (D : List Nat) (hm : D.map p = fallL p n) => MvJ.start (q := q) h0 hm hpr hqr hsum hdip)
  obtain ⟨i0, hi, hi2⟩ := Option.map_eq_some_iff.1 Tryd.infoMov
  obtain ⟨hz, hsz, hby⟩ : i0.zero = some (.agg #[.int .i64 0, .int .i64 0, .int .i64 0]) ∧ i0.size = 3 ∧ i0.bytes = 24 := by simpa using hi2
  have HINF := Hid.mk' (And.intro hi (And.intro hz (And.intro hsz hby)))
  obtain ⟨pad, pcap, rfl⟩ := hp.form
  obtain ⟨qad, qcap, rfl⟩ := hq.form
  clear hi hi2 hz hsz hby hp hq hpe hdip hpr hqr hsum hE
  go_enter Tryd.func14, Tryd.ntmps14
  go_wp2_with fail
  refine hAb.mono ?_
  clear hAb
  rintro e w1 ⟨rfl, hb1⟩
  have HB1 := Hid.mk' hb1
  clear hb1
  go_wp2_with fail
  refine (HFA.out w1 HB1.out).mono ?_
  clear HFA
  rintro e w2 ⟨g1, D, rfl, hD, hm, hr2, hb2⟩
  have HB2 := Hid.mk' (below_chain HB1.out hb2)
  have HD := Hid.mk' hD
  have HJ0 := Hid.mk' (HST.out D hm)
  have HR2 := Hid.mk' hr2
  clear hD hm hr2 hb2 HST
  go_wp2_with fail
  refine (HSU.out w2 HB2.out).mono ?_
  clear HSU
  rintro e w3 ⟨g, rfl, hf3⟩
  have hg1 : g1 < w2.heap.size := cell_lt (HR2.out 0 h0)
  have hg : g < w3.heap.size := cell_lt (hf3.row 0 h0)
  have hg2 := hf3.hg
  have hs2 := HB2.out.size
  have hs3 := hf3.below.size
  have hMM : MM w w3 w3.heap.size g g1 n (surF p q n) D := ⟨below_chain HB2.out hf3.below, Nat.le_refl _, ⟨hg, by omega, by omega, by omega, by omega⟩, hf3.row, hf3.fz, HR2.out.later hf3.below⟩
  have HMM := Hid.mk' hMM
  clear hMM hf3 hg1 hg hg2 hs2 hs3 HR2
  obtain ⟨B, hB⟩ : ∃ B, B = w3.heap.size := ⟨_, rfl⟩
  rw [← hB] at HMM
  clear hB
  go_wp2_with fail
  go_loopw [10, 11, 33] (fun s f t wr => ∃ (fr to : Nat) (d : Nat → Int) (ml : List MvI), to ≤ n ∧ f = .int .i64 (fr : Int) ∧ t = .int .i64 (to : Int) ∧ Hid (MvJ n p q D fr to d ml) ∧ Hid (wr.ownsRow B 37 3 s ml.length (mvsC ml)) ∧ Hid (MM w wr B g g1 n d D)) (fun _ _ t _ => n - (intOf t).toNat)
  case atStart => exact ⟨0, 0, surF p q n, [], Nat.zero_le _, rfl, rfl, HJ0.out, World.ownsRow_nil _ _ _ _, HMM.out⟩
  case round =>
    clear HMM HJ0
    obtain ⟨fr, to, d, ml, hto, rfl, rfl, HJ, HO, HM⟩ := hrel
    rcases Nat.lt_or_ge to n with h1 | h1
    · have htoI : (to : Int) < (n : Int) := by omega
      have hto0 : (0 : Int) ≤ (to : Int) := by omega
      go_wp2_with fail
      go_loopw [10, 11] (fun s f wr => ∃ (fr : Nat) (d : Nat → Int) (ml : List MvI), f = .int .i64 (fr : Int) ∧ Hid (MvJ n p q D fr to d ml) ∧ Hid (wr.ownsRow B 37 3 s ml.length (mvsC ml)) ∧ Hid (MM w wr B g g1 n d D)) (fun s f _ => (n - (intOf f).toNat) + (n - lenV s))
      case atStart => exact ⟨fr, d, ml, rfl, HJ.out, HO.out, HM.out⟩
      case round =>
        clear HJ HO HM
        obtain ⟨fr, d, ml, rfl, HJ, HO, HM⟩ := hrel
        have hct := HM.out.row to h1
        rw [Nat.zero_add] at hct
        have hbt := HJ.out.bnd to h1
        have HV := Hid.mk' (own_formO HO.out)
        by_cases hd : d to < 0
        · have hlt := HJ.out.lt h1 hd
          have hcf := HM.out.row fr (by omega)
          rw [Nat.zero_add] at hcf
          have hbf := HJ.out.bnd fr (by omega)
          have hfrI : (fr : Int) < (n : Int) := by omega
          have hfr0 : (0 : Int) ≤ (fr : Int) := by omega
          by_cases hf : d fr ≤ 0
          · have HJ2 := Hid.mk' (HJ.out.skip h1 hd hf)
            generalize d to = dt at *
            generalize d fr = df at *
            go_wp2_with fail
            exact ⟨⟨fr + 1, d, ml, by go_num, HJ2.out, HO.out, HM.out⟩, by simp [intOf]; omega⟩
          · have hplf := HM.out.plc fr (by omega)
            have hplt := HM.out.plc to h1
            rw [Nat.zero_add] at hplf hplt
            have hlen := HJ.out.len
            obtain ⟨sz, hsz1, hsz2, hsz3, hszd⟩ : ∃ sz, sz ≤ d fr ∧ sz ≤ - d to ∧ (sz = d fr ∨ sz = - d to) ∧ min (d fr) (- d to) = sz := ⟨min (d fr) (- d to), by omega, by omega, by omega, rfl⟩
            have HJ2 := Hid.mk' (HJ.out.move HD.out h1 hd (by omega) sz hsz1 hsz2 hsz3)
            have hsz0 : 0 < sz := by omega
            have HS1 := Hid.mk' (fun (W : World) (x : Int) (h : MM w W B g g1 n d D) => h.set (show fr < n by omega) x)
            have HS2 := Hid.mk' (fun (W : World) (x : Int) (h : MM w W B g g1 n (setF d fr (d fr - sz)) D) => h.set h1 x)
            have hne : to ≠ fr := by omega
            have HDT : Hid (setF d fr (d fr - sz) to = d to) := setF_other hne
            obtain ⟨df, hdf⟩ : ∃ x, x = d fr := ⟨_, rfl⟩
            obtain ⟨dt, hdt⟩ : ∃ x, x = d to := ⟨_, rfl⟩
            rw [← hdf] at hf hcf hbf hsz1 hsz3 hszd HJ2 HS2 HDT
            rw [← hdt] at hd hct hbt hsz2 hsz3 hszd HJ2 HDT
            have HDF := Hid.mk' hdf
            have HDTT := Hid.mk' hdt
            have HM5 := Hid.mk' HM.out.drew
            have HO5 := Hid.mk' HO.out.drew
            clear hdf hdt HM HO hplf hplt
            obtain ⟨ad, cap, rfl⟩ := HV.out
            clear HV
            go_wp2_with fail
            go_region
            generalize wr.drew = W5 at *
            clear hcf hct
            obtain ⟨pf, hpf⟩ : ∃ x : Nat, x = D.getD fr 0 := ⟨_, rfl⟩
            obtain ⟨pt, hpt⟩ : ∃ x : Nat, x = D.getD to 0 := ⟨_, rfl⟩
            have HJ3 : Hid (MvJ n p q D fr to (setF (setF d fr (df - sz)) to (dt + sz)) (ml ++ [(⟨(pf : Int), (pt : Int), sz⟩ : MvI)])) := by rw [hpf, hpt]; exact HJ2.out
            have HKK : Hid (∀ W, Below B W5 W → W.cell? ⟨g1, fr, none⟩ = some (.int .i64 (pf : Int)) ∧ W.cell? ⟨g1, to, none⟩ = some (.int .i64 (pt : Int))) := fun W hb => by
              have h := (HM5.out.push hb).plc
              have x := h fr (by omega)
              have y := h to h1
              rw [Nat.zero_add] at x y
              rw [hpf, hpt]
              exact ⟨x, y⟩
            clear hpf hpt HJ2
            obtain ⟨x0, x1⟩ := HKK.out W5 (Below.refl _ _)
            have HRR := Hid.mk' (HO5.out.alloc (.cells #[.int .i64 (pf : Int), .int .i64 (pt : Int), .int .i64 sz] 37))
            have hB5 := HM5.out.hB
            have HBB : Hid (Below B W5 (W5.alloc (.cells #[.int .i64 (pf : Int), .int .i64 (pt : Int), .int .i64 sz] 37))) := (Below.refl _ _).alloc hB5 _
            have HPU : Hid (∀ w3, World.grownBy (W5.alloc (.cells #[.int .i64 (pf : Int), .int .i64 (pt : Int), .int .i64 sz] 37)).drew w3 (Value.slice ad ml.length cap).ownBlock → Below B W5 w3) := fun w3 hg => mv_push HBB.out.drew (by show B ≤ (W5.alloc (.cells #[.int .i64 (pf : Int), .int .i64 (pt : Int), .int .i64 sz] 37)).heap.size; simp; omega) (HRR.out.drew) hg
            go_wp2_with fail
            go_region_held3 (fun W => W.cell? ⟨g1, fr, none⟩ = some (.int .i64 (pf : Int)) ∧ W.cell? ⟨g1, to, none⟩ = some (.int .i64 (pt : Int)))
              (first | exact HKK.out _ (HPU.out _ (by assumption)) | go_keep)
              ((refine step_append_lies _ (by rfl) _ _ _ (by rfl) B 37 i0 _ 3 24 Tryd.underlying32 HINF.out.1 HINF.out.2.1 HINF.out.2.2.1 HINF.out.2.2.2 rfl (by omega) (.slice ad ml.length cap) ml.length (mvsC ml) (by rfl) HRR.out ⟨W5.heap.size, 0, none⟩ 1 1 [.int .i64 (pf : Int), .int .i64 (pt : Int), .int .i64 sz] (by rfl) rfl (three_new W5 _ _ _ _) (by simp [Value.oneCell']) (by omega) (by unfold maxLen; omega) (by omega) (by simp; omega) _ rfl ?_; intro g' cap' w3 hown3 hgrow3 hat3 hlt3))
            have HW3 := Hid.mk' hown3
            have hb3 := HPU.out _ hgrow3
            have hM3 := HM5.out.push hb3
            have HM3 := Hid.mk' hM3
            have r1 := hM3.row fr (by omega)
            have f1 := hM3.fz fr (by omega)
            have hM4 := HS1.out _ (df - sz) hM3
            have r2 := hM4.row to h1
            have f2 := hM4.fz to h1
            rw [Nat.zero_add] at r1 f1 r2 f2
            rw [← HDF.out] at r1
            rw [HDT.out] at r2
            have HM6 := Hid.mk' (HS2.out _ (dt + sz) hM4)
            have HO6 : Hid (((w3.setCell ⟨g, fr, none⟩ (.int .i64 (df - sz))).setCell ⟨g, to, none⟩ (.int .i64 (dt + sz))).ownsRow B 37 3 (.slice (some ⟨g', 0, none⟩) (ml.length + 1) cap') (ml ++ [(⟨(pf : Int), (pt : Int), sz⟩ : MvI)]).length (mvsC (ml ++ [(⟨(pf : Int), (pt : Int), sz⟩ : MvI)]))) := by
              show World.ownsRow _ _ _ _ _ _ _
              rw [mvsC_snoc, List.length_append]
              exact own_lowO (own_lowO hown3 hM3.lt.1) hM3.lt.1
            clear hown3 hgrow3 hat3 hb3 hM3 hM4 HS1 HS2 HPU HKK HRR HBB
            go_wp2_with fail
            exact ⟨⟨fr, setF (setF d fr (df - sz)) to (dt + sz), ml ++ [(⟨(pf : Int), (pt : Int), sz⟩ : MvI)], rfl, HJ3.out, HO6.out, HM6.out⟩, by simp [intOf, lenV]; omega⟩
        · have HJ2 := Hid.mk' (HJ.out.next hd)
          generalize d to = dt at *
          go_wp2_with fail
          exact ⟨⟨fr, to + 1, d, ml, by omega, rfl, by go_num, HJ2.out, HO.out, HM.out⟩, by simp [intOf]; omega⟩
    · obtain rfl : to = n := by omega
      have htoI : ¬ (to : Int) < (to : Int) := by omega
      have HK := Hid.mk' (HJ.out.done HD.out)
      have HV := Hid.mk' (mvAt_row HO.out)
      go_wp2_with fail
      go_ret2
      exact ⟨_, rfl, ml, HV.out, HK.out, HM.out.below⟩
end Go.Proofs.YtgopohbombnflaaDoor
