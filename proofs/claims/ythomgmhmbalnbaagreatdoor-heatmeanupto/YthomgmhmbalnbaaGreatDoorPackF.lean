/- HeatMean: the law. -/
import Derived.Test.YthomgmhmbalnbaaGreatDoorPackB
import Derived.Test.YthomgmhmbalnbaaGreatDoorPackD
import Derived.Test.YthomgmhmbalnbaaGreatDoorPackE
import Derived.Test.YthomgmhmbalnbaaGreatDoorRows
import Derived.Test.YthomgmhmbalnbaaGreatDoorCode
import Derived.ChangeSame
import Derived.ChangeVars
import Derived.JoinedOf
import Derived.LaidLaws
import Derived.LaidHandle
import Derived.LaidMore
import Derived.Stop.Joined
import Derived.Test.YthomgmhmbalnbaaGreatDoorInts
import Derived.Test.YthomgmhmbalnbaaGreatDoorCards
import Derived.Test.YthomgmhmbalnbaaGreatDoorTie
import Derived.SevenTiedAt
import Derived.ProofKit
import Derived.OpenShut
import Derived.ChangeOld
import Derived.Lib.SmallJoins
import Derived.Deep.Matrix
import Derived.Test.YthomgmhmbalnbaaGreatDoorTab
import Derived.Deep.DeepHandedRow
import Derived.Deep.DeepWitnessRowRef
import Derived.Test.YthomgmhmbalnbaaGreatDoorPackA
namespace Go.Proofs.YthomgmhmbalnbaaGreatDoor
open Go.RowKit

/-- Two numbers in a variable of their own. -/
structure BxO (w : World) (b : Nat) (p q : Int) : Prop where
  c0 : w.cell? ⟨b, 0, none⟩ = some (.int .i64 p)
  c1 : w.cell? ⟨b, 1, none⟩ = some (.int .i64 q)
  f0 : w.frozen? ⟨b, 0, none⟩ = false
  f1 : w.frozen? ⟨b, 1, none⟩ = false
theorem BxO.later {w w' : World} {b : Nat} {p q : Int} (h : BxO w b p q) (hb : Below w.heap.size w w') : BxO w' b p q :=
  ⟨by rw [hb.cell (cell_lt h.c0)]; exact h.c0, by rw [hb.cell (cell_lt h.c1)]; exact h.c1, by rw [hb.frozen (show b < w.heap.size from cell_lt h.c0)]; exact h.f0, by rw [hb.frozen (show b < w.heap.size from cell_lt h.c0)]; exact h.f1⟩
theorem BxO.fresh (w : World) (p q : Int) (t : TypeId) : BxO (w.alloc (.cells #[.int .i64 p, .int .i64 q] t)) w.heap.size p q := ⟨by simp, by simp, by simp, by simp⟩
theorem BxO.put {w : World} {b : Nat} {p q : Int} (h : BxO w b p q) (x y : Int) : BxO ((w.setCell ⟨b, 0, none⟩ (.int .i64 x)).setCell ⟨b, 1, none⟩ (.int .i64 y)) b x y := by
  have := put_two (.int .i64 x) (.int .i64 y) h.c0 h.c1
  exact ⟨this.2.1, this.2.2, by rw [World.frozen?_setCell, World.frozen?_setCell]; exact h.f0, by rw [World.frozen?_setCell, World.frozen?_setCell]; exact h.f1⟩
theorem BxO.other {w : World} {b g : Nat} {p q : Int} (h : BxO w b p q) (hne : b ≠ g) (x y : Value) : BxO ((w.setCell ⟨g, 0, none⟩ x).setCell ⟨g, 1, none⟩ y) b p q := by
  have e : ∀ i k, (⟨g, i, none⟩ : Addr) ≠ ⟨b, k, none⟩ := fun i k hh => hne (by have := congrArg Addr.block hh; simpa using this.symm)
  refine ⟨?_, ?_, by rw [World.frozen?_setCell, World.frozen?_setCell]; exact h.f0, by rw [World.frozen?_setCell, World.frozen?_setCell]; exact h.f1⟩
  · rw [World.cell?_setCell_other _ _ _ _ (by first | exact e _ _ | exact (e _ _).symm), World.cell?_setCell_other _ _ _ _ (by first | exact e _ _ | exact (e _ _).symm)]; exact h.c0
  · rw [World.cell?_setCell_other _ _ _ _ (by first | exact e _ _ | exact (e _ _).symm), World.cell?_setCell_other _ _ _ _ (by first | exact e _ _ | exact (e _ _).symm)]; exact h.c1

set_option maxRecDepth 100000 in
set_option maxHeartbeats 16000000 in
theorem HeatMean_all (a : Nat → Addr) (v : Value) (L : Nat) (vs : Nat → Value) (ns : Nat → Nat) (W : Nat → Nat → Int) (sv : Value) (T : Nat) (tv : Nat → Value) (R : Nat → Nat) (rv : Nat → Nat → Value) (rn : Nat → Nat → Nat) (P : Nat → Nat → Nat → Int) (w : World) (hE : Errs w a) (h : TabAt w v L vs ns W) (hS : StpAt w sv T tv R rv rn P) (hL : L ≤ maxLen) (hT : T ≤ maxLen) (hR : ∀ t, t < T → R t ≤ maxLen) (hs : sumT ns L ≤ 2000000) (hrs : ∀ t, t < T → sumT (rn t) (R t) ≤ 2000000) :
    Calls Tryz.prog 4 #[.agg #[v, sv]] w fun e w' => e = .returned (.bool true) ∧ Below w.heap.size w w' := by
  obtain ⟨ad, cap, rfl⟩ := h.form
  obtain ⟨sa, sc, rfl⟩ := hS.form
  obtain ⟨w1, hw1⟩ : ∃ w1, w1 = w.alloc (.cells #[.slice ad L cap, .slice sa T sc] 25) := ⟨_, rfl⟩
  have hb1 : Below w.heap.size w w1 := by rw [hw1]; exact (Below.refl _ _).alloc (Nat.le_refl _) _
  have c0 : w1.cell? ⟨w.heap.size, 0, none⟩ = some (.slice ad L cap) := by rw [hw1]; go_simp
  have c1 : w1.cell? ⟨w.heap.size, 1, none⟩ = some (.slice sa T sc) := by rw [hw1]; go_simp
  have HC : Hid (∀ W', Below w1.heap.size w1 W' → W'.cell? ⟨w.heap.size, 0, none⟩ = some (.slice ad L cap) ∧ W'.cell? ⟨w.heap.size, 1, none⟩ = some (.slice sa T sc)) := fun W' hb => ⟨by rw [hb.cell (cell_lt c0)]; exact c0, by rw [hb.cell (cell_lt c1)]; exact c1⟩
  have HEND : Hid (∀ W', Below w1.heap.size w1 W' → Below w.heap.size w W') := fun W' hb => hb1.trans (hb.mono hb1.size)
  have HE : Hid (∀ W', Below w1.heap.size w1 W' → Errs W' a) := fun W' hb => (hE.below hb1).below hb
  have HTA : Hid (∀ W', Below w1.heap.size w1 W' → TabAt W' (.slice ad L cap) L vs ns W) := fun W' hb => h.later (HEND.out W' hb)
  have HST : Hid (∀ W', Below w1.heap.size w1 W' → StpAt W' (.slice sa T sc) T tv R rv rn P) := fun W' hb => hS.later (HEND.out W' hb)
  have HSTL := Hid.mk' (still_any a w1 (HE.out w1 (Below.refl _ _)))
  have HBR : Hid (∀ W', Below w1.heap.size w1 W' → Calls Tryz.prog 7 #[.agg #[.slice ad L cap, .slice sa T sc]] W' fun e w' => e = .returned (.bool (brB L ns T R rn)) ∧ Below W'.heap.size W' w') := fun W' hb => brief_any _ L vs ns W _ T tv R rv rn P W' (HTA.out W' hb) (HST.out W' hb) hL hs hT hR hrs
  have HW1 := Hid.mk' hw1
  clear hE h hS hb1 hw1 hL hT hR hs hrs
  go_enter Tryz.func4, Tryz.ntmps4
  go_upto_region 1 with fail
  rw [← HW1.out]
  go_wp2_with fail
  refine HSTL.out.mono ?_
  rintro e w2 ⟨rfl, hb2⟩
  have HB2 := Hid.mk' hb2
  clear hb2 HSTL c0 c1
  obtain ⟨c0, c1⟩ := HC.out w2 HB2.out
  have HB := Hid.mk' (HBR.out w2 HB2.out)
  cases hbr : brB L ns T R rn with
  | false =>
    rw [hbr] at HB
    clear hbr
    go_wp2_with fail
    refine HB.out.mono ?_
    rintro e w3 ⟨rfl, hb3⟩
    have HB3 := Hid.mk' (below_chain HB2.out hb3)
    clear hb3 HB
    go_wp2_with fail
    go_ret
    exact ⟨rfl, HEND.out _ HB3.out⟩
  | true =>
    rw [hbr] at HB
    obtain ⟨⟨x1, x2⟩, x3, x4⟩ := brB_all hbr
    have hns : ∀ i, i < L → ns i ≤ 1000000 := fun i hi => by have h2 : sumT ns i + ns i ≤ sumT ns L := sumT_mono ns hi; omega
    have hrn : ∀ t i, t < T → i < R t → rn t i ≤ 1000000 := fun t i ht hi => by have h2 : sumT (rn t) i + rn t i ≤ sumT (rn t) (R t) := sumT_mono (rn t) hi; have := (x4 t ht).2; omega
    have HPR : Hid (∀ W', Below w1.heap.size w1 W' → Calls Tryz.prog 10 #[.agg #[.slice ad L cap, .slice sa T sc]] W' fun e w' => ∃ v' sv', e = .returned (.agg #[v', sv']) ∧ (∃ vs', TabAt w' v' L vs' ns W) ∧ (∃ tv' rv', StpAt w' sv' T tv' R rv' rn P) ∧ Below W'.heap.size W' w') := fun W' hb => process_any _ L vs ns W _ T tv R rv rn P W' (HTA.out W' hb) (HST.out W' hb) x1 x2 x3 (fun t ht => (x4 t ht).1) (fun t ht => (x4 t ht).2)
    have HPF : Hid (∀ W', Below w1.heap.size w1 W' → Calls Tryz.prog 11 #[.agg #[.slice ad L cap, .slice sa T sc]] W' fun e w' => e = .returned (.agg #[.int .i64 (((prF L ns W T R rn P).1 : Nat) : Int), .int .i64 (prF L ns W T R rn P).2]) ∧ Below W'.heap.size W' w') := fun W' hb => ProcessFault_any _ L vs ns W _ T tv R rv rn P W' (HTA.out W' hb) (HST.out W' hb) (by omega) hns (by omega) (fun t ht' => by have := (x4 t ht').1; omega) hrn
    have HX4 := Hid.mk' x4
    have HNS := Hid.mk' hns
    have HX1 : Hid (L ≤ 1000000) := by show _ ≤ _; omega
    have HFA0 : Hid (∀ W' x c, Below w1.heap.size w1 W' → ErrPl a W' x c → Calls Tryz.prog 8 #[x, .agg #[.int .i64 ((c.1 : Nat) : Int), .int .i64 c.2]] W' fun e w' => e = .returned (.bool true) ∧ Below W'.heap.size W' w') := fun W' x c hb hx => faulted_pl a x c W' (HE.out W' hb) hx
    clear hbr x1 x2 x4 hns hrn HBR
    go_wp2_with fail
    refine HB.out.mono ?_
    rintro e w3 ⟨rfl, hb3⟩
    have HB3 := Hid.mk' (below_chain HB2.out hb3)
    clear hb3 HB c0 c1 HB2
    obtain ⟨c0, c1⟩ := HC.out w3 HB3.out
    have HPF3 := Hid.mk' (HPF.out w3 HB3.out)
    by_cases hz : (prF L ns W T R rn P).1 = 0
    · have hOK := prF_ok hz
      have HME : Hid (∀ W' v' sv' vs' tv' rv', Below w1.heap.size w1 W' → TabAt W' v' L vs' ns W → StpAt W' sv' T tv' R rv' rn P → Calls Tryz.prog 14 #[.agg #[v', sv']] W' fun e w' => e = .returned (.tuple #[.agg #[.int .i64 ((smU (nU W T) (ns 0) / Nat.gcd (smU (nU W T) (ns 0)) (smU (nU W 0) (ns 0)) : Nat) : Int), .int .i64 ((smU (nU W 0) (ns 0) / Nat.gcd (smU (nU W T) (ns 0)) (smU (nU W 0) (ns 0)) : Nat) : Int)], .nilIface]) ∧ Below W'.heap.size W' w') := fun W' v' sv' vs' tv' rv' hb ht hs' => Mean_ok a v' L vs' ns W sv' T tv' R rv' rn P W' (HE.out W' hb) ht hs' (by have := hOK.hL; have := hOK.hT; omega) HNS.out (by have := hOK.hT; omega) (fun t ht' => by have := (HX4.out t ht').1; omega) hz
      have HMG : Hid (∀ W', Below w1.heap.size w1 W' → Calls Tryz.prog 13 #[.agg #[.slice ad L cap, .slice sa T sc]] W' fun e w' => ∃ r, e = .returned r ∧ LR w' r (smU (nU W 0) (ns 0)) (smU (nU W T) (ns 0) : Int) ∧ Below W'.heap.size W' w') := fun W' hb => MeanGain_to _ L (ns 0) vs ns W _ T tv R rv rn P hOK W' (HTA.out W' hb) (HST.out W' hb)
      have hs1 := hOK.s_bd (t := 0) (by have := hOK.hL; omega)
      have hs2 := hOK.s_bd (t := T) (by have := hOK.hL; omega)
      have HPZ := Hid.mk' hz
      rw [hz] at HPF3
      have HFA : Hid (∀ W' x, Below w1.heap.size w1 W' → ErrPl a W' x (0, -1) → Calls Tryz.prog 8 #[x, .agg #[.int .i64 0, .int .i64 (-1)]] W' fun e w' => e = .returned (.bool true) ∧ Below W'.heap.size W' w') := fun W' x hb hx => HFA0.out W' x (0, -1) hb hx
      clear hOK hz HPZ HNS HX4 HFA0
      generalize (prF L ns W T R rn P).2 = AT at *
      generalize ns 0 = n at *
      generalize smU (nU W T) n = ST at *
      generalize smU (nU W 0) n = S0 at *
      obtain ⟨NN, hNN⟩ : ∃ NN : Int, NN = ((ST / Nat.gcd ST S0 : Nat) : Int) := ⟨_, rfl⟩
      obtain ⟨DD, hDD⟩ : ∃ DD : Int, DD = ((S0 / Nat.gcd ST S0 : Nat) : Int) := ⟨_, rfl⟩
      have HOT : Hid (∀ W' v', LR W' v' S0 (ST : Int) → Calls Tryz.prog 12 #[v'] W' fun e w' => e = .returned (.tuple #[.agg #[.int .i64 NN, .int .i64 DD], .int .i64 0]) ∧ Below W'.heap.size W' w') := fun W' v' hv => by
        rw [hNN, hDD]
        exact OneTold_lr v' ST S0 W' hv (by omega) (by omega)
      rw [← hNN, ← hDD] at HME
      clear hNN hDD hs1 hs2
      obtain ⟨CE, hCE⟩ : ∃ CE : Int, CE = 0 := ⟨_, rfl⟩
      go_wp2_with fail
      refine HPF3.out.mono ?_
      rintro e w4 ⟨rfl, hb4⟩
      have HB4 := Hid.mk' (below_chain HB3.out hb4)
      clear hb4 HPF3 HPF c0 c1
      obtain ⟨wf, hwf⟩ : ∃ wf, wf = w4.alloc (.cells #[.int .i64 0, .int .i64 AT] 35) := ⟨_, rfl⟩
      obtain ⟨B1, hB1⟩ : ∃ B1, B1 = w4.heap.size := ⟨_, rfl⟩
      have hF4 : BxO wf B1 0 AT := by rw [hwf, hB1]; exact BxO.fresh _ _ _ _
      have hbf : Below w1.heap.size w1 wf := by rw [hwf]; exact HB4.out.alloc HB4.out.size _
      have h1f : B1 < wf.heap.size := by rw [hwf, hB1]; simp
      have hB1w : w1.heap.size ≤ B1 := by rw [hB1]; exact HB4.out.size
      have HWF := Hid.mk' hwf
      have HB1 := Hid.mk' hB1
      clear hwf hB1
      go_upto_region 5 with fail
      rw [← HWF.out, ← HB1.out]
      obtain ⟨w5, hw5⟩ : ∃ w5, w5 = wf.alloc (.cells #[.int .i64 0, .int .i64 0] 38) := ⟨_, rfl⟩
      obtain ⟨B2, hB2⟩ : ∃ B2, B2 = wf.heap.size := ⟨_, rfl⟩
      have hgf : Below wf.heap.size wf w5 := by rw [hw5]; exact (Below.refl _ _).alloc (Nat.le_refl _) _
      have HF5 : Hid (BxO w5 B1 0 AT) := hF4.later hgf
      have HT5 : Hid (BxO w5 B2 0 0) := by show BxO _ _ _ _; rw [hw5, hB2]; exact BxO.fresh _ _ _ _
      have HB5 : Hid (Below w1.heap.size w1 w5) := below_chain hbf hgf
      have HNE : Hid (B1 ≠ B2) := by show B1 ≠ B2; omega
      have HB1W := Hid.mk' hB1w
      have HB2W : Hid (w1.heap.size ≤ B2) := by show _ ≤ _; have := hbf.size; omega
      have HW5 := Hid.mk' hw5
      have HB2' := Hid.mk' hB2
      clear hw5 hB2 hF4 hbf h1f hB1w hgf HWF HB1 HB4
      go_upto_region 6 with fail
      rw [← HW5.out, ← HB2'.out]
      clear HW5 HB2'
      have d0 := HF5.out.c0
      have d1 := HF5.out.c1
      clear hCE CE
      obtain ⟨c0, c1⟩ := HC.out w5 HB5.out
      go_wp2_with fail
      refine (HMG.out w5 HB5.out).mono ?_
      rintro e w6 ⟨r, rfl, hr, hb6⟩
      obtain ⟨s6, x6, l6, c6, y6, m6, k6, rfl⟩ := hr.sl
      have HO6 := Hid.mk' (HOT.out w6 _ hr)
      have HB6 := Hid.mk' (below_chain HB5.out hb6)
      have HF6 := Hid.mk' (HF5.out.later hb6)
      have HT6 := Hid.mk' (HT5.out.later hb6)
      clear hr hb6 HMG HOT c0 c1 d0 d1 HF5 HT5 HB5
      go_wp2_with fail
      refine HO6.out.mono ?_
      rintro e w7 ⟨rfl, hb7⟩
      obtain ⟨w8, hw8⟩ : ∃ w8, w8 = w7.alloc (.cells #[.int .i64 NN, .int .i64 DD] 38) := ⟨_, rfl⟩
      obtain ⟨B3, hB3⟩ : ∃ B3, B3 = w7.heap.size := ⟨_, rfl⟩
      have h8 : Below w7.heap.size w7 w8 := by rw [hw8]; exact (Below.refl _ _).alloc (Nat.le_refl _) _
      have hF8 := (HF6.out.later hb7).later h8
      have hT8 := (HT6.out.later hb7).later h8
      have hV8 : BxO w8 B3 NN DD := by rw [hw8, hB3]; exact BxO.fresh _ _ _ _
      have hb8 := below_chain (below_chain HB6.out hb7) h8
      have HF9 : Hid (BxO ((w8.setCell ⟨B2, 0, none⟩ (.int .i64 NN)).setCell ⟨B2, 1, none⟩ (.int .i64 DD)) B1 0 AT) := hF8.other HNE.out _ _
      have HT9 : Hid (BxO ((w8.setCell ⟨B2, 0, none⟩ (.int .i64 NN)).setCell ⟨B2, 1, none⟩ (.int .i64 DD)) B2 NN DD) := hT8.put NN DD
      have HB9 : Hid (Below w1.heap.size w1 ((w8.setCell ⟨B2, 0, none⟩ (.int .i64 NN)).setCell ⟨B2, 1, none⟩ (.int .i64 DD))) := (hb8.setCell HB2W.out _).setCell HB2W.out _
      have v0 := hV8.c0
      have v1 := hV8.c1
      have t0 := hT8.c0
      have t1 := hT8.c1
      have t2 := hT8.f0
      have t3 := hT8.f1
      clear hb7 h8 hF8 hT8 hV8 hb8 HB6 HF6 HT6 HO6
      go_upto_region 8 with fail
      rw [← hw8, ← hB3]
      clear hw8 hB3
      go_upto_region 9 with fail
      obtain ⟨w9, hw9⟩ : ∃ w9, w9 = ((w8.setCell ⟨B2, 0, none⟩ (.int .i64 NN)).setCell ⟨B2, 1, none⟩ (.int .i64 DD)) := ⟨_, rfl⟩
      rw [← hw9] at HF9 HT9 HB9 ⊢
      clear hw9 v0 v1 t0 t1 t2 t3
      have t0 := HF9.out.c0
      have t1 := HF9.out.c1
      have t2 := HF9.out.f0
      have t3 := HF9.out.f1
      have HFx : Hid (BxO ((w9.setCell ⟨B1, 0, none⟩ (.int .i64 0)).setCell ⟨B1, 1, none⟩ (.int .i64 (-1))) B1 0 (-1)) := HF9.out.put 0 (-1)
      have HTx : Hid (BxO ((w9.setCell ⟨B1, 0, none⟩ (.int .i64 0)).setCell ⟨B1, 1, none⟩ (.int .i64 (-1))) B2 NN DD) := HT9.out.other HNE.out.symm _ _
      have HBx : Hid (Below w1.heap.size w1 ((w9.setCell ⟨B1, 0, none⟩ (.int .i64 0)).setCell ⟨B1, 1, none⟩ (.int .i64 (-1)))) := (HB9.out.setCell HB1W.out _).setCell HB1W.out _
      go_upto_region 10 with fail
      obtain ⟨wx, hwx⟩ : ∃ wx, wx = ((w9.setCell ⟨B1, 0, none⟩ (.int .i64 0)).setCell ⟨B1, 1, none⟩ (.int .i64 (-1))) := ⟨_, rfl⟩
      rw [← hwx] at HFx HTx HBx ⊢
      clear hwx t0 t1 t2 t3 HF9 HT9 HB9
      obtain ⟨c0, c1⟩ := HC.out wx HBx.out
      go_wp2_with fail
      refine (HPR.out wx HBx.out).mono ?_
      rintro e wp ⟨pv, psv, rfl, ⟨pvs, hp1⟩, ⟨ptv, prv, hp2⟩, hbp⟩
      obtain ⟨pa, pc, rfl⟩ := hp1.form
      obtain ⟨qa, qc', rfl⟩ := hp2.form
      have HBP := Hid.mk' (below_chain HBx.out hbp)
      have HMC := Hid.mk' (HME.out wp _ _ _ _ _ HBP.out hp1 hp2)
      have HFp := Hid.mk' (HFx.out.later hbp)
      have HTp := Hid.mk' (HTx.out.later hbp)
      clear hp1 hp2 hbp HPR HME c0 c1
      go_wp2_with fail
      refine HMC.out.mono ?_
      rintro e wm ⟨rfl, hbm⟩
      have HEX : Hid (ErrPl a wm .nilIface (0, -1)) := Or.inl ⟨rfl, rfl, by decide⟩
      have HBM := Hid.mk' (below_chain HBP.out hbm)
      have h9 : Below wm.heap.size wm (wm.alloc (.cells #[.int .i64 NN, .int .i64 DD] 38)) := (Below.refl _ _).alloc (Nat.le_refl _) _
      obtain ⟨wz, hwz⟩ : ∃ wz, wz = wm.alloc (.cells #[.int .i64 NN, .int .i64 DD] 38) := ⟨_, rfl⟩
      obtain ⟨B4, hB4⟩ : ∃ B4, B4 = wm.heap.size := ⟨_, rfl⟩
      have HMz : Hid (BxO wz B4 NN DD) := by show BxO _ _ _ _; rw [hwz, hB4]; exact BxO.fresh _ _ _ _
      rw [← hwz] at h9
      have HBZ := Hid.mk' (below_chain HBM.out h9)
      have HFz := Hid.mk' ((HFp.out.later hbm).later h9)
      have HTz := Hid.mk' ((HTp.out.later hbm).later h9)
      have HFLT := Hid.mk' (HFA.out wz _ HBZ.out (HEX.out.later h9))
      clear h9 hbm HMC HBP HFp HTp HFA HEX
      go_upto_region 11 with fail
      rw [← hwz, ← hB4]
      clear hwz hB4 HBM
      have d0 := HFz.out.c0
      have d1 := HFz.out.c1
      go_wp2_with fail
      refine HFLT.out.mono ?_
      rintro e wl ⟨rfl, hbl⟩
      have HBL := Hid.mk' (below_chain HBZ.out hbl)
      have hT := HTz.out.later hbl
      have hM := HMz.out.later hbl
      have t0 := hT.c0
      have t1 := hT.c1
      have m0 := hM.c0
      have m1 := hM.c1
      clear hT hM hbl HFLT d0 d1 HFz HTz HMz HBZ
      go_wp2_with fail
      go_ret
      exact ⟨rfl, HEND.out _ HBL.out⟩
    · have HME : Hid (∀ W' v' sv' vs' tv' rv', Below w1.heap.size w1 W' → TabAt W' v' L vs' ns W → StpAt W' sv' T tv' R rv' rn P → Calls Tryz.prog 14 #[.agg #[v', sv']] W' fun e w' => ∃ x, e = .returned (.tuple #[.agg #[.int .i64 0, .int .i64 0], x]) ∧ ErrPl a w' x (prF L ns W T R rn P) ∧ Below W'.heap.size W' w') := fun W' v' sv' vs' tv' rv' hb ht hs' => Mean_bad a v' L vs' ns W sv' T tv' R rv' rn P W' (HE.out W' hb) ht hs' HX1.out HNS.out (by omega) (fun t ht' => by have := (HX4.out t ht').1; omega) hz
      have HFA : Hid (∀ W' x, Below w1.heap.size w1 W' → ErrPl a W' x (prF L ns W T R rn P) → Calls Tryz.prog 8 #[x, .agg #[.int .i64 (((prF L ns W T R rn P).1 : Nat) : Int), .int .i64 (prF L ns W T R rn P).2]] W' fun e w' => e = .returned (.bool true) ∧ Below W'.heap.size W' w') := fun W' x hb hx => HFA0.out W' x _ hb hx
      have hpos : (0 : Int) < (((prF L ns W T R rn P).1 : Nat) : Int) := by omega
      clear hz HNS HX4 HFA0
      generalize prF L ns W T R rn P = PF at *
      obtain ⟨CE, hCE⟩ : ∃ CE : Int, CE = ((PF.1 : Nat) : Int) := ⟨_, rfl⟩
      obtain ⟨AT, hAT⟩ : ∃ AT : Int, AT = PF.2 := ⟨_, rfl⟩
      rw [← hCE, ← hAT] at HPF3 HFA
      rw [← hCE] at hpos
      clear hCE hAT
      go_wp2_with fail
      refine HPF3.out.mono ?_
      rintro e w4 ⟨rfl, hb4⟩
      have HB4 := Hid.mk' (below_chain HB3.out hb4)
      clear hb4 HPF3 HPF c0 c1
      obtain ⟨wf, hwf⟩ : ∃ wf, wf = w4.alloc (.cells #[.int .i64 CE, .int .i64 AT] 35) := ⟨_, rfl⟩
      obtain ⟨B1, hB1⟩ : ∃ B1, B1 = w4.heap.size := ⟨_, rfl⟩
      have hF4 : BxO wf B1 CE AT := by rw [hwf, hB1]; exact BxO.fresh _ _ _ _
      have hbf : Below w1.heap.size w1 wf := by rw [hwf]; exact HB4.out.alloc HB4.out.size _
      have h1f : B1 < wf.heap.size := by rw [hwf, hB1]; simp
      have hB1w : w1.heap.size ≤ B1 := by rw [hB1]; exact HB4.out.size
      have HWF := Hid.mk' hwf
      have HB1 := Hid.mk' hB1
      clear hwf hB1
      go_upto_region 5 with fail
      rw [← HWF.out, ← HB1.out]
      obtain ⟨w5, hw5⟩ : ∃ w5, w5 = wf.alloc (.cells #[.int .i64 0, .int .i64 0] 38) := ⟨_, rfl⟩
      obtain ⟨B2, hB2⟩ : ∃ B2, B2 = wf.heap.size := ⟨_, rfl⟩
      have hgf : Below wf.heap.size wf w5 := by rw [hw5]; exact (Below.refl _ _).alloc (Nat.le_refl _) _
      have HF5 : Hid (BxO w5 B1 CE AT) := hF4.later hgf
      have HT5 : Hid (BxO w5 B2 0 0) := by show BxO _ _ _ _; rw [hw5, hB2]; exact BxO.fresh _ _ _ _
      have HB5 : Hid (Below w1.heap.size w1 w5) := below_chain hbf hgf
      have HNE : Hid (B1 ≠ B2) := by show B1 ≠ B2; omega
      have HB1W := Hid.mk' hB1w
      have HB2W : Hid (w1.heap.size ≤ B2) := by show _ ≤ _; have := hbf.size; omega
      have HW5 := Hid.mk' hw5
      have HB2' := Hid.mk' hB2
      clear hw5 hB2 hF4 hbf h1f hB1w hgf HWF HB1 HB4
      go_upto_region 6 with fail
      rw [← HW5.out, ← HB2'.out]
      clear HW5 HB2'
      have d0 := HF5.out.c0
      have d1 := HF5.out.c1
      go_upto_region 10 with fail
      clear d0 d1
      obtain ⟨c0, c1⟩ := HC.out w5 HB5.out
      go_wp2_with fail
      refine (HPR.out w5 HB5.out).mono ?_
      rintro e wp ⟨pv, psv, rfl, ⟨pvs, hp1⟩, ⟨ptv, prv, hp2⟩, hbp⟩
      obtain ⟨pa, pc, rfl⟩ := hp1.form
      obtain ⟨qa, qc', rfl⟩ := hp2.form
      have HBP := Hid.mk' (below_chain HB5.out hbp)
      have HMC := Hid.mk' (HME.out wp _ _ _ _ _ HBP.out hp1 hp2)
      have HFp := Hid.mk' (HF5.out.later hbp)
      have HTp := Hid.mk' (HT5.out.later hbp)
      clear hp1 hp2 hbp HPR HME c0 c1
      go_wp2_with fail
      refine HMC.out.mono ?_
      rintro e wm ⟨x, rfl, hx, hbm⟩
      have HEX := Hid.mk' hx
      clear hx
      have HBM := Hid.mk' (below_chain HBP.out hbm)
      have h9 : Below wm.heap.size wm (wm.alloc (.cells #[.int .i64 0, .int .i64 0] 38)) := (Below.refl _ _).alloc (Nat.le_refl _) _
      obtain ⟨wz, hwz⟩ : ∃ wz, wz = wm.alloc (.cells #[.int .i64 0, .int .i64 0] 38) := ⟨_, rfl⟩
      obtain ⟨B4, hB4⟩ : ∃ B4, B4 = wm.heap.size := ⟨_, rfl⟩
      have HMz : Hid (BxO wz B4 0 0) := by show BxO _ _ _ _; rw [hwz, hB4]; exact BxO.fresh _ _ _ _
      rw [← hwz] at h9
      have HBZ := Hid.mk' (below_chain HBM.out h9)
      have HFz := Hid.mk' ((HFp.out.later hbm).later h9)
      have HTz := Hid.mk' ((HTp.out.later hbm).later h9)
      have HFLT := Hid.mk' (HFA.out wz _ HBZ.out (HEX.out.later h9))
      clear h9 hbm HMC HBP HFp HTp HFA HEX
      go_upto_region 11 with fail
      rw [← hwz, ← hB4]
      clear hwz hB4 HBM
      have d0 := HFz.out.c0
      have d1 := HFz.out.c1
      go_wp2_with fail
      refine HFLT.out.mono ?_
      rintro e wl ⟨rfl, hbl⟩
      have HBL := Hid.mk' (below_chain HBZ.out hbl)
      have hT := HTz.out.later hbl
      have hM := HMz.out.later hbl
      have t0 := hT.c0
      have t1 := hT.c1
      have m0 := hM.c0
      have m1 := hM.c1
      clear hT hM hbl HFLT d0 d1 HFz HTz HMz HBZ
      go_wp2_with fail
      go_ret
      exact ⟨rfl, HEND.out _ HBL.out⟩
end Go.Proofs.YthomgmhmbalnbaaGreatDoor

/- What the rows' condition on package variables gives a walk: eight different sentinels with their texts, and the handle of the type error. -/
namespace Go.Proofs.YthomgmhmbalnbaaGreatDoor
open Go.ChangeShapes Go.WideShapes Go.RowKit

theorem Tryz.own : ownKnob Tryz.prog.godebug = none := by kernel_rfl
theorem Tryz.et : Tryz.prog.globalNamed "errors.errorType" = some 8 := by kernel_rfl
theorem Tryz.rt : (Tryz.prog.cutTypes.find? (·.1 == "internal/reflectlite.rtype")).map (·.2) = some 154 := by kernel_rfl
theorem Tryz.oneRow : ((List.range 206).filter fun t => Tryz.prog.rowNamed t [101, 114, 114, 111, 114]) = [30] := by kernel_rfl
theorem Tryz.size : Tryz.prog.types.size = 206 := by kernel_rfl
theorem Tryz.star : ("*" ++ "errors.errorString" : String) = "*errors.errorString" := by decide
theorem Tryz.rowE (u : TypeId) (h : Tryz.prog.typeName? 3 u = some "*errors.errorString") : u = 173 :=
  typeName_ptr_named (nm := "errors.errorString") (by rw [Tryz.star]; kernel_rfl) (by kernel_rfl) (by decide) u (by rw [Tryz.star]; exact h)
theorem Tryz.cellsE : Tryz.prog.cellsOf 194 = 1 := by kernel_rfl
theorem Tryz.cellsS : Tryz.prog.cellsOf 9 = 1 := by kernel_rfl
theorem Tryz.g0 : Tryz.prog.globalNamed "demon/api.ErrText" = some 0 := by kernel_rfl
theorem Tryz.g1 : Tryz.prog.globalNamed "demon/api.ErrBound" = some 1 := by kernel_rfl
theorem Tryz.g2 : Tryz.prog.globalNamed "demon/api.ErrShape" = some 2 := by kernel_rfl
theorem Tryz.g3 : Tryz.prog.globalNamed "demon/api.ErrZero" = some 3 := by kernel_rfl
theorem Tryz.g4 : Tryz.prog.globalNamed "demon/api.ErrName" = some 4 := by kernel_rfl
theorem Tryz.g5 : Tryz.prog.globalNamed "demon/api.ErrNone" = some 5 := by kernel_rfl
theorem Tryz.g6 : Tryz.prog.globalNamed "demon/api.ErrOrder" = some 6 := by kernel_rfl
theorem Tryz.g7 : Tryz.prog.globalNamed "demon/api.ErrKind" = some 7 := by kernel_rfl

/-- Any number of listed sentinels of one type: each one's pointer, text and row; no two are one. -/
theorem laid_list {P : Program} {W : World} {nm : String} {ti tp te ts : TypeId} {ms : Array (String × TypeId)} {f : Field}
    (hi : P.underlying ti = some (.interface ms)) (hrow : ∀ u, P.typeName? 3 u = some nm → u = tp)
    (hp : P.underlying tp = some (.pointer te)) (he : P.underlying te = some (.struct #[f])) (hft : f.type = ts) (hfo : f.offset = 0) (hs : P.underlying ts = some .string) (hc : P.cellsOf te = 1) (hcs : P.cellsOf ts = 1) :
    ∀ (L : List (String × List UInt8)) (ps : List MemPlace), (∀ x, x ∈ L → ∃ g, P.globalNamed x.1 = some g ∧ (P.globals[g]?).map (·.type) = some ti) →
      DataW.LaidVars P W (L.map fun x => (x.1, .iface nm (.ptr (.agg [.lit (.string x.2)])))) ps → ps.Nodup →
      (∀ b off, MemPlace.cell b off ∈ ps → (∃ c t, W.heap[b]? = some (.cells c t (0, 0))) ∧ ∀ u v, W.cell? ⟨b, off, none⟩ = some (.iface u v) → Value.okWide P W .any 0 u v) →
      ∃ a : Nat → Addr, (∀ i x, L[i]? = some x → W.var? P x.1 = some #[.iface tp (.pointer (some (a i)))] ∧ (∃ s, W.cell? (a i) = some (.string s) ∧ s.data.toList = x.2) ∧
          (∃ c t, W.heap[(a i).block]? = some (.cells c t (0, 0))) ∧ MemPlace.cell (a i).block (a i).off ∈ ps) ∧
        ∀ i j, i < L.length → j < L.length → i ≠ j → a i ≠ a j := by
  intro L
  induction L with
  | nil => intro ps _ _ _ _; exact ⟨fun _ => default, fun i x h => by simp at h, fun i j h => by simp at h⟩
  | cons x r ih =>
    intro ps hgs hv hnd hrows
    obtain ⟨n, text⟩ := x
    obtain ⟨g0, t0, cs0, f0, p0, q0, hg0, ht0, hv0, hd0, hvr, e0⟩ := hv
    obtain ⟨g, hg, ht⟩ := hgs (n, text) (List.mem_cons_self ..)
    obtain rfl := Option.some.inj (hg.symm.trans hg0)
    obtain rfl := Option.some.inj (ht.symm.trans ht0)
    subst e0
    obtain ⟨l0⟩ := cs0
    have ok0 : ∀ u v, l0 = [.iface u v] → Value.okWide P W .any 0 u v := fun u v e => by
      subst e
      exact (hrows g 0 (by simp [MemPlace.row])).2 u v (by simpa using World.var?_cell hg0 hv0 0)
    obtain ⟨a0, s0, rfl, hc0, hs0, hz0, rfl⟩ := errorString_of_trod hi hrow hp he hft hfo hs hc hcs hd0 ok0
    obtain ⟨c0, tt0, hb0⟩ := (hrows a0.block a0.off (by simp [MemPlace.row])).1
    have hnq : q0.Nodup := List.Nodup.sublist (List.sublist_append_right _ _) hnd
    obtain ⟨a', ha', hne'⟩ := ih q0 (fun x hx => hgs x (List.mem_cons_of_mem _ hx)) hvr hnq (fun b off hm => hrows b off (List.mem_append_right _ hm))
    have hnot : MemPlace.cell a0.block a0.off ∉ q0 := by
      intro hm
      have := (List.nodup_append.1 hnd).2.2
      exact this (.cell a0.block a0.off) (by simp [MemPlace.row]) (.cell a0.block a0.off) hm rfl
    refine ⟨fun i => match i with | 0 => a0 | k + 1 => a' k, ?_, ?_⟩
    · intro i x hx
      cases i with
      | zero =>
        simp only [List.getElem?_cons_zero, Option.some.injEq] at hx
        subst hx
        exact ⟨hv0, ⟨s0, hc0, hs0⟩, ⟨c0, tt0, hb0⟩, by simp [MemPlace.row]⟩
      | succ k =>
        simp only [List.getElem?_cons_succ] at hx
        obtain ⟨h1, h2, h3, h4⟩ := ha' k x hx
        exact ⟨h1, h2, h3, List.mem_append_right _ h4⟩
    · have far : ∀ k, k < r.length → a0 ≠ a' k := fun k hk e => by
        obtain ⟨_, _, _, h4⟩ := ha' k r[k] (by simp [hk])
        rw [← e] at h4
        exact hnot h4
      intro i j hi' hj' hij
      cases i with
      | zero =>
        cases j with
        | zero => exact absurd rfl hij
        | succ k => exact far k (by simpa using hj')
      | succ m =>
        cases j with
        | zero => exact (far m (by simpa using hi')).symm
        | succ k => exact hne' m k (by simpa using hi') (by simpa using hj') (by omega)

/-- The names and texts, in the rows' order. -/
def eightNames : List (String × List UInt8) := [("demon/api.ErrText", [100, 101, 109, 111, 110, 58, 32, 116, 101, 120, 116]), ("demon/api.ErrBound", [100, 101, 109, 111, 110, 58, 32, 98, 111, 117, 110, 100]), ("demon/api.ErrShape", [100, 101, 109, 111, 110, 58, 32, 115, 104, 97, 112, 101]), ("demon/api.ErrZero", [100, 101, 109, 111, 110, 58, 32, 122, 101, 114, 111]), ("demon/api.ErrName", [100, 101, 109, 111, 110, 58, 32, 110, 97, 109, 101]), ("demon/api.ErrNone", [100, 101, 109, 111, 110, 58, 32, 110, 111, 110, 101]), ("demon/api.ErrOrder", [100, 101, 109, 111, 110, 58, 32, 111, 114, 100, 101, 114]), ("demon/api.ErrKind", [100, 101, 109, 111, 110, 58, 32, 107, 105, 110, 100])]
def laidAll : List (String × DataW Unit) := [("errors.errorType", Rows.laid_errors_errorType), ("demon/api.ErrText", Rows.laid_demon_api_ErrText), ("demon/api.ErrBound", Rows.laid_demon_api_ErrBound), ("demon/api.ErrShape", Rows.laid_demon_api_ErrShape), ("demon/api.ErrZero", Rows.laid_demon_api_ErrZero), ("demon/api.ErrName", Rows.laid_demon_api_ErrName), ("demon/api.ErrNone", Rows.laid_demon_api_ErrNone), ("demon/api.ErrOrder", Rows.laid_demon_api_ErrOrder), ("demon/api.ErrKind", Rows.laid_demon_api_ErrKind)]
theorem laidAll_parts (W : World) : laidMetH Tryz.prog laidAll W = (laidMet Tryz.prog (eightNames.map fun x => (x.1, .iface "*errors.errorString" (.ptr (.agg [.lit (.string x.2)])))) W ∧ handlesMet Tryz.prog [("errors.errorType", Rows.laid_errors_errorType)] W) := by kernel_rfl

theorem var_at {W : World} {n : String} {g : Nat} {v : Value} (hg : Tryz.prog.globalNamed n = some g) (h : W.var? Tryz.prog n = some #[v]) : W.cell? ⟨g, 0, none⟩ = some v := by
  simpa using World.var?_cell hg h 0

theorem errs_of_laid {W : World} (h : laidMetH Tryz.prog laidAll W) : ∃ a : Nat → Addr, Errs W a ∧ ∀ i x, eightNames[i]? = some x → ∃ s, W.cell? (a i) = some (.string s) ∧ s.data.toList = x.2 := by
  rw [laidAll_parts] at h
  obtain ⟨⟨ps, hv, hnd, hrows⟩, hh⟩ := h
  obtain ⟨name, u, ty, e1, e2, e3, e4, e5⟩ := hh _ (List.mem_singleton.2 rfl)
  have en : name = [101, 114, 114, 111, 114] := (Option.some.inj e1).symm
  subst en
  obtain rfl := Option.some.inj (Tryz.rt.symm.trans e2)
  have hm : ty ∈ (List.range 206).filter fun t => Tryz.prog.rowNamed t [101, 114, 114, 111, 114] := List.mem_filter.2 ⟨List.mem_range.2 (by rw [← Tryz.size]; exact e3), e4⟩
  rw [Tryz.oneRow] at hm
  obtain rfl := List.mem_singleton.1 hm
  have hth : typeHandle Tryz.prog 30 = .pointer (some ⟨9, 30, none⟩) := by kernel_rfl
  rw [hth] at e5
  obtain ⟨a, ha, hne⟩ := laid_list Tryz.underlying30 Tryz.rowE Tryz.underlying173 Tryz.underlying194 rfl rfl Tryz.underlying9 Tryz.cellsE Tryz.cellsS eightNames ps
    (fun x hx => by
      simp only [eightNames, List.mem_cons, List.not_mem_nil, or_false] at hx
      rcases hx with rfl | rfl | rfl | rfl | rfl | rfl | rfl | rfl
      · exact ⟨_, Tryz.g0, by kernel_rfl⟩
      · exact ⟨_, Tryz.g1, by kernel_rfl⟩
      · exact ⟨_, Tryz.g2, by kernel_rfl⟩
      · exact ⟨_, Tryz.g3, by kernel_rfl⟩
      · exact ⟨_, Tryz.g4, by kernel_rfl⟩
      · exact ⟨_, Tryz.g5, by kernel_rfl⟩
      · exact ⟨_, Tryz.g6, by kernel_rfl⟩
      · exact ⟨_, Tryz.g7, by kernel_rfl⟩) hv hnd hrows
  refine ⟨a, ⟨var_at Tryz.g0 (ha 0 _ rfl).1, var_at Tryz.g1 (ha 1 _ rfl).1, var_at Tryz.g2 (ha 2 _ rfl).1, var_at Tryz.g3 (ha 3 _ rfl).1, var_at Tryz.g4 (ha 4 _ rfl).1, var_at Tryz.g5 (ha 5 _ rfl).1, var_at Tryz.g6 (ha 6 _ rfl).1, var_at Tryz.g7 (ha 7 _ rfl).1, var_at Tryz.et e5, ?_, ?_⟩, fun i x hx => (ha i x hx).2.1⟩
  · intro i hi
    have hl : eightNames.length = 8 := rfl
    exact (ha i eightNames[i] (List.getElem?_eq_getElem (by omega))).2.2.1
  · intro i j hi hj hij
    exact hne i j hi hj hij

/-- The door's own heap meets the condition. -/
theorem door_met (os : Os) (args : Array Value) : laidMetH Tryz.prog laidAll ((World.doorLaid Tryz.prog 168 os).forCall (fun _ _ => 0) ⟨#[], args, []⟩).memory :=
  laidMetH_of_parts3 (fuel := 8) (laidMet_of_run' 8 (by kernel_rfl) (by kernel_rfl)) (by kernel_rfl) (by kernel_rfl)
end Go.Proofs.YthomgmhmbalnbaaGreatDoor

/- A parameter of type []int opened. -/
namespace Go.Proofs.YthomgmhmbalnbaaGreatDoor
open Go.ChangeShapes Go.WideShapes Go.ChangeAt Go.RowKit Go.Joins Go.Deep

theorem Tryz.laidOut : laidOutB Tryz.prog = true := by kernel_rfl
theorem Tryz.cellsInt : Tryz.prog.cellsOf 3 = 1 := by kernel_rfl
theorem Tryz.cellsInts : Tryz.prog.cellsOf 41 = 1 := by kernel_rfl

set_option maxRecDepth 100000 in
/-- What a parameter of type []int gives: its slice, its numbers. -/
theorem open_nums {H : Type} {enc : TypeId × Value → H} {W : World} {base : Nat} {v : Value} {d : DataW H} {p : List MemPlace} (hv : Value.okWide Tryz.prog W .any base 41 v)
    (h : DataW.Trod enc Tryz.prog W 0 (fun _ => true) true 41 v d p) :
    ∃ (ad : Option Addr) (n cap : Nat) (z : Nat → Int), v = .slice ad n cap ∧ n ≤ maxLen ∧ NumsAt W (.slice ad n cap) n z := by
  obtain ⟨ad, n, cap, rfl⟩ := okWide_slice Tryz.underlying41 hv
  obtain ⟨fuel, hf⟩ := h
  rcases open_ints Tryz.underlying41 Tryz.underlying3 Tryz.cellsInt hf with ⟨hc, _⟩ | ⟨a, len, cap', zs, hc, _, hl, hm, hz, _, hcell, _⟩
  · simp [Value.cells] at hc
    obtain ⟨rfl, rfl, rfl⟩ := hc
    exact ⟨none, 0, 0, fun _ => 0, rfl, Nat.zero_le _, Or.inl ⟨none, 0, rfl, rfl⟩⟩
  · simp [Value.cells] at hc
    obtain ⟨rfl, rfl, rfl⟩ := hc
    simp only [if_true] at hz
    rcases Nat.eq_zero_or_pos n with rfl | hpos
    · exact ⟨some a, 0, cap, fun _ => 0, rfl, Nat.zero_le _, Or.inl ⟨some a, cap, rfl, rfl⟩⟩
    · obtain ⟨b, o, spot⟩ := a
      have hspot : spot = none := by simpa [Addr.add] using World.cell?_spot (hcell 0 (by omega))
      subst hspot
      refine ⟨_, n, cap, fun i => zs.getD i 0, rfl, by omega, Or.inr ⟨b, o, cap, rfl, hpos, fun i hi => ?_⟩⟩
      have := hcell i (by omega)
      rw [Go.Proofs.YthomgmhmbalnbaaGreatDoor.add_plain] at this
      exact this
end Go.Proofs.YthomgmhmbalnbaaGreatDoor

/- A parameter of type [][]int opened; how many numbers it holds at the most. -/
namespace Go.Proofs.YthomgmhmbalnbaaGreatDoor
open Go.ChangeShapes Go.WideShapes Go.ChangeAt Go.RowKit Go.Joins Go.Deep

theorem bulk_one {H : Type} (d : DataW H) : 1 ≤ Rows.uptoBulk d := by
  cases d with
  | lit l => cases l <;> simp [Rows.uptoBulk]
  | _ => simp [Rows.uptoBulk]
theorem bulk_len {H : Type} : ∀ l : List (DataW H), l.length ≤ Rows.uptoBulkAll l
  | [] => by simp [Rows.uptoBulkAll]
  | x :: r => by
    have h1 := bulk_one x
    have h2 := bulk_len r
    simp only [Rows.uptoBulkAll, List.length_cons]
    omega
theorem bulk_mem {H : Type} {d : DataW H} : ∀ {l : List (DataW H)}, d ∈ l → Rows.uptoBulk d ≤ Rows.uptoBulkAll l
  | x :: r, h => by
    simp only [Rows.uptoBulkAll]
    rcases List.mem_cons.1 h with rfl | h'
    · omega
    · have := bulk_mem h'; omega
theorem bulk_append {H : Type} : ∀ l r : List (DataW H), Rows.uptoBulkAll (l ++ r) = Rows.uptoBulkAll l + Rows.uptoBulkAll r
  | [], r => by simp [Rows.uptoBulkAll]
  | x :: l, r => by simp only [List.cons_append, Rows.uptoBulkAll, bulk_append l r]; omega
theorem bulk_sum {H : Type} (f : Nat → DataW H) (L : Nat → Nat) : ∀ n, (∀ r, r < n → L r ≤ Rows.uptoBulk (f r)) → sumT L n ≤ Rows.uptoBulkAll ((List.range n).map f)
  | 0, _ => Nat.zero_le _
  | n + 1, h => by
    have h1 := bulk_sum f L n (fun r hr => h r (by omega))
    have h2 := h n (by omega)
    show sumT L n + L n ≤ _
    rw [List.range_succ, List.map_append, bulk_append]
    simp only [List.map_cons, List.map_nil, Rows.uptoBulkAll]
    omega

set_option maxRecDepth 100000 in
theorem open_table {H : Type} {enc : TypeId × Value → H} {W : World} {base : Nat} {v : Value} {d : DataW H} {p : List MemPlace} (hv : Value.okWide Tryz.prog W .any base 22 v)
    (h : DataW.Trod enc Tryz.prog W 0 (fun _ => true) true 22 v d p) :
    ∃ (ad : Option Addr) (R cap : Nat) (vs : Nat → Value) (ns : Nat → Nat) (zs : Nat → Nat → Int), v = .slice ad R cap ∧ R ≤ maxLen ∧ TabAt W (.slice ad R cap) R vs ns zs ∧ sumT ns R ≤ Rows.uptoBulk d := by
  obtain ⟨ad, R, cap, rfl⟩ := okWide_slice Tryz.underlying22 hv
  obtain ⟨fuel, hf⟩ := h
  rcases open_int_rows Tryz.underlying22 Tryz.underlying41 Tryz.underlying3 Tryz.cellsInts Tryz.cellsInt hf with ⟨hc, _⟩ | ⟨a, len, cap', A, L, C, Z, hc, _, hl, hm, hx, hr⟩
  · simp [Value.cells] at hc
    obtain ⟨rfl, rfl, rfl⟩ := hc
    exact ⟨none, 0, 0, fun _ => .slice none 0 0, fun _ => 0, fun _ _ => 0, rfl, Nat.zero_le _, Or.inl ⟨none, 0, rfl, rfl⟩, Nat.zero_le _⟩
  · simp [Value.cells] at hc
    obtain ⟨rfl, rfl, rfl⟩ := hc
    simp only [Prod.mk.injEq] at hx
    obtain ⟨rfl, _⟩ := hx
    have hbulk : sumT L R ≤ Rows.uptoBulk (DataW.slice ((List.range R).map fun r => intRow .i64 (A r) (L r) (Z r)) ((List.range (cap - R)).map fun j => intRow .i64 (A (R + j)) (L (R + j)) (Z (R + j))) : DataW H) := by
      have h1 := bulk_sum (H := H) (fun r => intRow .i64 (A r) (L r) (Z r)) L R (fun r hr' => by
        obtain ⟨_, h2, _, h4, _, h6, _⟩ := hr r (by omega)
        cases hA : A r with
        | none => have := h6 hA; omega
        | some a' =>
          have h7 := bulk_len (H := H) (lits .i64 ((Z r).take (L r)))
          have h8 : (lits (H := H) .i64 ((Z r).take (L r))).length = L r := by simp [lits]; omega
          simp only [intRow, Rows.uptoBulk]
          omega)
      simp only [Rows.uptoBulk]
      omega
    rcases Nat.eq_zero_or_pos R with rfl | hpos
    · exact ⟨some a, 0, cap, fun _ => .slice none 0 0, L, fun _ _ => 0, rfl, Nat.zero_le _, Or.inl ⟨some a, cap, rfl, rfl⟩, hbulk⟩
    · obtain ⟨b, o, spot⟩ := a
      have hspot : spot = none := by simpa [Addr.add] using World.cell?_spot (hr 0 (by omega)).1
      subst hspot
      refine ⟨_, R, cap, fun r => .slice (A r) (L r) (C r), L, fun r i => (Z r).getD i 0, rfl, by omega, Or.inr ⟨b, o, cap, rfl, hpos, fun i hi => ?_⟩, hbulk⟩
      obtain ⟨h1, h2, _, h4, _, h6, h7⟩ := hr i (by omega)
      rw [Go.Proofs.YthomgmhmbalnbaaGreatDoor.add_plain] at h1
      refine ⟨h1, ?_⟩
      rcases Nat.eq_zero_or_pos (L i) with h0 | h0
      · exact Or.inl ⟨A i, C i, by dsimp only; rw [h0], h0⟩
      · cases hA : A i with
        | none => have := h6 hA; omega
        | some a' =>
          obtain ⟨_, h8⟩ := h7 a' hA
          obtain ⟨b', o', spot'⟩ := a'
          have hs' : spot' = none := by simpa [Addr.add] using World.cell?_spot (h8 0 (by omega))
          subst hs'
          refine Or.inr ⟨b', o', C i, by dsimp only; rw [hA], h0, fun j hj => ?_⟩
          have := h8 j (by omega)
          rw [Go.Proofs.YthomgmhmbalnbaaGreatDoor.add_plain] at this
          exact this
theorem bulk_bound {H : Type} {l : List (DataW H)} (hk : Rows.uptoSmall H l = true) : Rows.uptoBulkAll l ≤ 1048576 := of_decide_eq_true hk
end Go.Proofs.YthomgmhmbalnbaaGreatDoor

/- A parameter of type demonref4.Process opened: its weights, its steps; how many numbers it holds at the most. -/
namespace Go.Proofs.YthomgmhmbalnbaaGreatDoor
open Go.ChangeShapes Go.WideShapes Go.ChangeAt Go.RowKit Go.Joins Go.Deep

theorem Tryz.cellsProc : Tryz.prog.cellsOf 25 = 2 := by kernel_rfl
theorem Tryz.cellsTabs : Tryz.prog.cellsOf 22 = 1 := by kernel_rfl
set_option maxRecDepth 100000 in
theorem open_tab_at {H : Type} {enc : TypeId × Value → H} {W : World} {v : Value} {fuel : Nat} {x : DataW H × List MemPlace} (h : DataW.trod enc Tryz.prog W 0 (fun _ => true) true fuel 22 [v] = some x) :
    ∃ (ad : Option Addr) (R cap : Nat) (vs : Nat → Value) (ns : Nat → Nat) (zs : Nat → Nat → Int), v = .slice ad R cap ∧ R ≤ maxLen ∧ TabAt W (.slice ad R cap) R vs ns zs ∧ sumT ns R ≤ Rows.uptoBulk x.1 := by
  rcases open_int_rows Tryz.underlying22 Tryz.underlying41 Tryz.underlying3 Tryz.cellsInts Tryz.cellsInt h with ⟨hc, _⟩ | ⟨a, R, cap, A, L, C, Z, hc, _, hl, hm, hx, hr⟩
  · simp at hc
    subst hc
    exact ⟨none, 0, 0, fun _ => .slice none 0 0, fun _ => 0, fun _ _ => 0, rfl, Nat.zero_le _, Or.inl ⟨none, 0, rfl, rfl⟩, Nat.zero_le _⟩
  · simp at hc
    subst hc
    obtain ⟨d1, p1⟩ := x
    simp only [Prod.mk.injEq] at hx
    obtain ⟨rfl, _⟩ := hx
    have hbulk : sumT L R ≤ Rows.uptoBulk (DataW.slice ((List.range R).map fun r => intRow .i64 (A r) (L r) (Z r)) ((List.range (cap - R)).map fun j => intRow .i64 (A (R + j)) (L (R + j)) (Z (R + j))) : DataW H) := by
      have h1 := bulk_sum (H := H) (fun r => intRow .i64 (A r) (L r) (Z r)) L R (fun r hr' => by
        obtain ⟨_, h2, _, h4, _, h6, _⟩ := hr r (by omega)
        cases hA : A r with
        | none => have := h6 hA; omega
        | some a' =>
          have h7 := bulk_len (H := H) (lits .i64 ((Z r).take (L r)))
          have h8 : (lits (H := H) .i64 ((Z r).take (L r))).length = L r := by simp [lits]; omega
          simp only [intRow, Rows.uptoBulk]
          omega)
      simp only [Rows.uptoBulk]
      omega
    rcases Nat.eq_zero_or_pos R with rfl | hpos
    · exact ⟨some a, 0, cap, fun _ => .slice none 0 0, L, fun _ _ => 0, rfl, Nat.zero_le _, Or.inl ⟨some a, cap, rfl, rfl⟩, hbulk⟩
    · obtain ⟨b, o, spot⟩ := a
      have hspot : spot = none := by simpa [Addr.add] using World.cell?_spot (hr 0 (by omega)).1
      subst hspot
      refine ⟨_, R, cap, fun r => .slice (A r) (L r) (C r), L, fun r i => (Z r).getD i 0, rfl, by omega, Or.inr ⟨b, o, cap, rfl, hpos, fun i hi => ?_⟩, hbulk⟩
      obtain ⟨h1, h2, _, h4, _, h6, h7⟩ := hr i (by omega)
      rw [Go.Proofs.YthomgmhmbalnbaaGreatDoor.add_plain] at h1
      refine ⟨h1, ?_⟩
      rcases Nat.eq_zero_or_pos (L i) with h0 | h0
      · exact Or.inl ⟨A i, C i, by dsimp only; rw [h0], h0⟩
      · cases hA : A i with
        | none => have := h6 hA; omega
        | some a' =>
          obtain ⟨_, h8⟩ := h7 a' hA
          obtain ⟨b', o', spot'⟩ := a'
          have hs' : spot' = none := by simpa [Addr.add] using World.cell?_spot (h8 0 (by omega))
          subst hs'
          refine Or.inr ⟨b', o', C i, by dsimp only; rw [hA], h0, fun j hj => ?_⟩
          have := h8 j (by omega)
          rw [Go.Proofs.YthomgmhmbalnbaaGreatDoor.add_plain] at this
          exact this
set_option maxRecDepth 100000 in
theorem open_steps {H : Type} {enc : TypeId × Value → H} {W : World} {v : Value} {fuel : Nat} {x : DataW H × List MemPlace} (h : DataW.trod enc Tryz.prog W 0 (fun _ => true) true fuel 23 [v] = some x) :
    ∃ (ad : Option Addr) (T cap : Nat) (tv : Nat → Value) (R : Nat → Nat) (rv : Nat → Nat → Value) (rn : Nat → Nat → Nat) (P : Nat → Nat → Nat → Int), v = .slice ad T cap ∧ T ≤ maxLen ∧ StpAt W (.slice ad T cap) T tv R rv rn P ∧ ∀ t, t < T → R t ≤ maxLen ∧ sumT (rn t) (R t) ≤ Rows.uptoBulk x.1 := by
  rcases open_slice1 Tryz.underlying23 Tryz.cellsTabs h with ⟨hc, _⟩ | ⟨a, T, cap, m, n, V, D, Pl, hc, _, hl, hm, hmm, hx, hr⟩
  · simp at hc
    subst hc
    exact ⟨none, 0, 0, fun _ => .nilIface, fun _ => 0, fun _ _ => .nilIface, fun _ _ => 0, fun _ _ _ => 0, rfl, Nat.zero_le _, Or.inl ⟨none, 0, rfl, rfl⟩, fun t ht => by omega⟩
  · simp at hc
    subst hc
    simp only [if_true] at hmm
    subst hmm
    have each : ∀ r, r < T → ∃ y : Nat × (Nat → Value) × (Nat → Nat) × (Nat → Nat → Int), y.1 ≤ maxLen ∧ TabAt W (V r) y.1 y.2.1 y.2.2.1 y.2.2.2 ∧ sumT y.2.2.1 y.1 ≤ Rows.uptoBulk (D r) := fun r hr' => by
      obtain ⟨ad, R, c, vs, ns, zs, h1, h2, h3, h4⟩ := open_tab_at (hr r (by omega)).2
      exact ⟨(R, vs, ns, zs), h2, by rw [h1]; exact h3, h4⟩
    obtain ⟨y, hy⟩ := choose_lt each
    have hbk : ∀ r, r < T → Rows.uptoBulk (D r) ≤ Rows.uptoBulk x.1 := fun r hr' => by
      rw [hx]
      have h1 := bulk_mem (H := H) (d := D r) (l := (List.range T).map D) (List.mem_map.2 ⟨r, by simpa using hr', rfl⟩)
      simp only [Rows.uptoBulk]
      omega
    rcases Nat.eq_zero_or_pos T with rfl | hpos
    · exact ⟨some a, 0, m, V, fun _ => 0, fun _ _ => .nilIface, fun _ _ => 0, fun _ _ _ => 0, rfl, Nat.zero_le _, Or.inl ⟨some a, m, rfl, rfl⟩, fun t ht => by omega⟩
    · obtain ⟨b, o, spot⟩ := a
      have hspot : spot = none := by simpa [Addr.add] using World.cell?_spot (hr 0 (by omega)).1
      subst hspot
      refine ⟨_, T, m, V, fun t => (y t).1, fun t => (y t).2.1, fun t => (y t).2.2.1, fun t => (y t).2.2.2, rfl, by omega, Or.inr ⟨b, o, m, rfl, hpos, fun t ht => ⟨?_, (hy t ht).2.1⟩⟩, fun t ht => ⟨(hy t ht).1, Nat.le_trans (hy t ht).2.2 (hbk t ht)⟩⟩
      have := (hr t (by omega)).1
      rw [Go.Proofs.YthomgmhmbalnbaaGreatDoor.add_plain] at this
      exact this
set_option maxRecDepth 100000 in
theorem open_process {H : Type} {enc : TypeId × Value → H} {W : World} {base : Nat} {v : Value} {d : DataW H} {p : List MemPlace} (hv : Value.okWide Tryz.prog W .any base 25 v)
    (h : DataW.Trod enc Tryz.prog W 0 (fun _ => true) true 25 v d p) :
    ∃ (wv : Value) (L : Nat) (vs : Nat → Value) (ns : Nat → Nat) (Z : Nat → Nat → Int) (sv : Value) (T : Nat) (tv : Nat → Value) (R : Nat → Nat) (rv : Nat → Nat → Value) (rn : Nat → Nat → Nat) (P : Nat → Nat → Nat → Int), v = .agg #[wv, sv] ∧ TabAt W wv L vs ns Z ∧ StpAt W sv T tv R rv rn P ∧ L ≤ maxLen ∧ T ≤ maxLen ∧ (∀ t, t < T → R t ≤ maxLen) ∧ (Rows.uptoBulk d ≤ 2000000 → sumT ns L ≤ 2000000 ∧ ∀ t, t < T → sumT (rn t) (R t) ≤ 2000000) := by
  obtain ⟨c0, c1, y0, y1, m, rfl, rfl, rfl, hy0, hy1⟩ := open_agg2 Tryz.underlying25 (by kernel_rfl) Tryz.cellsProc hv h
  obtain ⟨ad, L, cap, vs, ns, Z, rfl, hL, hT, hs⟩ := open_tab_at hy0
  obtain ⟨sd, T, sc, tv, R, rv, rn, P, rfl, hTm, hS, hR⟩ := open_steps hy1
  refine ⟨_, L, vs, ns, Z, _, T, tv, R, rv, rn, P, rfl, hT, hS, hL, hTm, fun t ht => (hR t ht).1, fun hb => ?_⟩
  simp only [Rows.uptoBulk, Rows.uptoBulkAll] at hb
  exact ⟨by omega, fun t ht => by have := (hR t ht).2; omega⟩
end Go.Proofs.YthomgmhmbalnbaaGreatDoor
