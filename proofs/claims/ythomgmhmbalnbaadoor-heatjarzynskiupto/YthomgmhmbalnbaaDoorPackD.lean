/- The document's ProcessFault. -/
import Derived.Test.YthomgmhmbalnbaaDoorPackC
import Derived.Test.YthomgmhmbalnbaaDoorNatOver
import Derived.Test.YthomgmhmbalnbaaDoorHtCar
import Derived.Test.YthomgmhmbalnbaaDoorPackA
import Derived.Test.YthomgmhmbalnbaaDoorPackB
import Derived.Test.YthomgmhmbalnbaaDoorRows
import Derived.Test.YthomgmhmbalnbaaDoorErrs
import Derived.ChangeSame
import Derived.ChangeVars
import Derived.JoinedOf
import Derived.LaidLaws
import Derived.LaidHandle
import Derived.LaidMore
import Derived.Stop.Joined
import Derived.Test.YthomgmhmbalnbaaDoorInts
import Derived.Test.YthomgmhmbalnbaaDoorCards
import Derived.Test.YthomgmhmbalnbaaDoorTie
import Derived.SevenTiedAt
import Derived.ProofKit
import Derived.OpenShut
import Derived.ChangeOld
import Derived.Lib.SmallJoins
import Derived.Deep.Matrix
import Derived.Test.YthomgmhmbalnbaaDoorTab
import Derived.Deep.DeepHandedRow
import Derived.Deep.DeepWitnessRowRef
namespace Go.Proofs.YthomgmhmbalnbaaDoor
open Go.RowKit

def lgB (L : Nat) (ns : Nat → Nat) (i : Nat) : Bool := decide (5 < L) || manyB ns i
def shB (L T : Nat) (ns : Nat → Nat) (W : Nat → Nat → Int) (i : Nat) : Bool := decide (L ≠ T + 1) || anyB (fun j => badR (ns 0) (ns j) (W j)) i
theorem wtE_bools (L T : Nat) (ns : Nat → Nat) (W : Nat → Nat → Int) : wtE L ns W T = if lgB L ns L = true then 2 else if shB L T ns W L = true then 3 else 0 := by
  unfold wtE lgB shB
  simp only [Bool.or_eq_true, decide_eq_true_eq]
theorem lgB_next (L : Nat) (ns : Nat → Nat) (i : Nat) : lgB L ns (i + 1) = (lgB L ns i || decide (4 < ns i)) := by unfold lgB; rw [Bool.or_assoc]; rfl
theorem shB_next (L T : Nat) (ns : Nat → Nat) (W : Nat → Nat → Int) (i : Nat) : shB L T ns W (i + 1) = (shB L T ns W i || badR (ns 0) (ns i) (W i)) := by unfold shB; rw [Bool.or_assoc]; rfl

set_option maxRecDepth 100000 in
set_option maxHeartbeats 16000000 in
theorem ProcessFault_any (v : Value) (L : Nat) (vs : Nat → Value) (ns : Nat → Nat) (W : Nat → Nat → Int) (sv : Value) (T : Nat) (tv : Nat → Value) (R : Nat → Nat) (rv : Nat → Nat → Value) (rn : Nat → Nat → Nat) (P : Nat → Nat → Nat → Int) (w : World) (h : TabAt w v L vs ns W) (hS : StpAt w sv T tv R rv rn P) (hL : L ≤ 1000000) (hns : ∀ i, i < L → ns i ≤ 1000000) (hT : T ≤ 1000000) (hR : ∀ t, t < T → R t ≤ 1000000) (hrn : ∀ t i, t < T → i < R t → rn t i ≤ 1000000) :
    Calls Tryd.prog 7 #[.agg #[v, sv]] w fun e w' => e = .returned (.agg #[.int .i64 (((prF L ns W T R rn P).1 : Nat) : Int), .int .i64 (prF L ns W T R rn P).2]) ∧ Below w.heap.size w w' := by
  obtain ⟨ad, cap, rfl⟩ := h.form
  obtain ⟨sa, sc, rfl⟩ := hS.form
  obtain ⟨w1, hw1⟩ : ∃ w1, w1 = (w.alloc (.cells #[.slice ad L cap, .slice sa T sc] 25)).alloc (.cells #[.int .i64 0, .int .i64 0] 29) := ⟨_, rfl⟩
  have hb1 : Below w.heap.size w w1 := by rw [hw1]; exact ((Below.refl _ _).alloc (Nat.le_refl _) _).alloc (by simp) _
  have c0 : w1.cell? ⟨w.heap.size, 0, none⟩ = some (.slice ad L cap) := by rw [hw1, World.cell?_alloc_lt _ _ ⟨w.heap.size, 0, none⟩ (by simp), World.cell?_alloc_at _ _ _ _ rfl]; rfl
  have c1 : w1.cell? ⟨w.heap.size, 1, none⟩ = some (.slice sa T sc) := by rw [hw1, World.cell?_alloc_lt _ _ ⟨w.heap.size, 1, none⟩ (by simp), World.cell?_alloc_at _ _ _ _ rfl]; rfl
  have c2 : w1.cell? ⟨w.heap.size + 1, 0, none⟩ = some (.int .i64 0) := by rw [hw1, World.cell?_alloc_at _ _ _ _ (by simp)]; rfl
  have c3 : w1.cell? ⟨w.heap.size + 1, 1, none⟩ = some (.int .i64 0) := by rw [hw1, World.cell?_alloc_at _ _ _ _ (by simp)]; rfl
  have c4 : w1.frozen? ⟨w.heap.size + 1, 0, none⟩ = false := by rw [hw1]; exact frozen_new (by simp)
  have c5 : w1.frozen? ⟨w.heap.size + 1, 1, none⟩ = false := by rw [hw1]; exact frozen_new (by simp)
  have hsz : w.heap.size + 1 < w1.heap.size := by rw [hw1]; simp
  have HC : Hid (∀ W, Below w1.heap.size w1 W → (W.cell? ⟨w.heap.size, 0, none⟩ = some (.slice ad L cap) ∧ W.cell? ⟨w.heap.size, 1, none⟩ = some (.slice sa T sc)) ∧ (W.cell? ⟨w.heap.size + 1, 0, none⟩ = some (.int .i64 0) ∧ W.cell? ⟨w.heap.size + 1, 1, none⟩ = some (.int .i64 0)) ∧ W.frozen? ⟨w.heap.size + 1, 0, none⟩ = false ∧ W.frozen? ⟨w.heap.size + 1, 1, none⟩ = false) := fun W hb => ⟨⟨by rw [hb.cell (cell_lt c0)]; exact c0, by rw [hb.cell (cell_lt c1)]; exact c1⟩, ⟨by rw [hb.cell (cell_lt c2)]; exact c2, by rw [hb.cell (cell_lt c3)]; exact c3⟩, by rw [hb.frozen (show w.heap.size + 1 < w1.heap.size from hsz)]; exact c4, by rw [hb.frozen (show w.heap.size + 1 < w1.heap.size from hsz)]; exact c5⟩
  have HEND : Hid (∀ W, Below w1.heap.size w1 W → Below w.heap.size w W) := fun W hb => hb1.trans (hb.mono hb1.size)
  have HW1 := Hid.mk' hw1
  have HTA : Hid (∀ W', Below w1.heap.size w1 W' → TabAt W' (.slice ad L cap) L vs ns W) := fun W' hb => h.later (HEND.out W' hb)
  have HST : Hid (∀ W', Below w1.heap.size w1 W' → StpAt W' (.slice sa T sc) T tv R rv rn P) := fun W' hb => hS.later (HEND.out W' hb)
  have HNS := Hid.mk' hns
  have HRB := Hid.mk' hR
  have HRN := Hid.mk' hrn
  have hLI : (L : Int) ≤ 1000000 := by omega
  have hTI : (T : Int) ≤ 1000000 := by omega
  have HWE := Hid.mk' (wtE_bools L T ns W)
  have HPW : Hid (wtE L ns W T ≠ 0 → prF L ns W T R rn P = (wtE L ns W T, -1)) := fun hq => prF_w hq
  have HPC : Hid (wtE L ns W T = 0 → ∀ t, t < T → (∀ i, i < t → chainErr (R i) (rn i) (P i) = 0) → chainErr (R t) (rn t) (P t) ≠ 0 → prF L ns W T R rn P = (chainErr (R t) (rn t) (P t), -1)) := fun hq t ht h1 h2 => prF_c hq ht h1 h2
  have HPS : Hid (wtE L ns W T = 0 → (∀ i, i < T → chainErr (R i) (rn i) (P i) = 0) → prF L ns W T R rn P = spF T (ns 0) R P W) := fun hq h1 => prF_s hq h1
  have HOK : Hid (wtE L ns W T = 0 → L ≤ 5 ∧ L = T + 1 ∧ 0 < ns 0 ∧ ns 0 ≤ 4 ∧ (∀ i, i < L → ns i = ns 0) ∧ ∀ i k, i < L → k < ns 0 → 1 ≤ W i k ∧ W i k ≤ 1000) := fun hq => wtE_ok hq
  clear h hS hb1 hw1 hsz hns hL hT hR hrn c2 c3 c4 c5
  generalize prF L ns W T R rn P = PF at *
  go_enter Tryd.func7, Tryd.ntmps7
  go_upto_region 1 with fail
  rw [← HW1.out]
  have HG5 : Hid (lgB L ns 0 = decide (5 < (L : Int))) := by
    show (decide (5 < L) || false) = _
    rw [Bool.or_false]
    by_cases h5 : 5 < L
    · rw [decide_eq_true h5, decide_eq_true (by omega)]
    · rw [decide_eq_false h5, decide_eq_false (by omega)]
  obtain ⟨s0, hs0⟩ : ∃ s0, s0 = shB L T ns W 0 := ⟨_, rfl⟩
  have HS0 := Hid.mk' hs0
  have HSE : Hid (shB L T ns W 0 = decide (L ≠ T + 1)) := by show (_ || false) = _; rw [Bool.or_false]
  clear hs0
  go_upto_region 2 with fail
  go_cut [4] from 16 (fun s wx => s = .bool s0 ∧ wx = w1)
  case first =>
    by_cases hz : L = 0
    · have hzI : ((L : Int) == 0) = true := by rw [beq_iff_eq]; omega
      have hs : s0 = true := by rw [HS0.out, HSE.out, decide_eq_true (by omega)]
      subst hs
      clear hz
      go_wp2_with fail
      go_meet
      exact ⟨rfl, rfl⟩
    · have hzI : ((L : Int) == 0) = false := by rw [beq_eq_false_iff_ne]; omega
      have hs : s0 = ((T : Int) + 1 != (L : Int)) := by
        rw [HS0.out, HSE.out]
        by_cases h5 : L = T + 1
        · rw [decide_eq_false (by omega)]; symm; rw [bne_eq_false_iff_eq]; omega
        · rw [decide_eq_true h5]; symm; rw [bne_iff_ne]; omega
      have HQ := Hid.mk' hs
      clear hz hs
      go_wp2_with fail
      go_meet
      exact ⟨by rw [HQ.out], rfl⟩
  case rest =>
  obtain ⟨rfl, hwc⟩ := hcut
  rw [hwc]
  clear hwc
  go_wp2_with fail
  clear c0 c1
  go_loopw [3, 4, 5] (fun a s t wr => ∃ i : Nat, i ≤ L ∧ t = .int .i64 i ∧ Hid (a = .bool (lgB L ns i)) ∧ Hid (s = .bool (shB L T ns W i)) ∧ Hid (Below w1.heap.size w1 wr)) (fun _ _ t _ => L - (intOf t).toNat)
  case atStart => exact ⟨0, Nat.zero_le _, rfl, by rw [HG5.out]; exact rfl, by rw [← HS0.out]; exact rfl, Below.refl _ _⟩
  case round =>
    obtain ⟨i, hi, rfl, HLG, HSH, HB⟩ := hrel
    obtain ⟨⟨c0, c1⟩, _⟩ := HC.out wr HB.out
    obtain ⟨lg, hlg⟩ : ∃ lg, lg = lgB L ns i := ⟨_, rfl⟩
    obtain ⟨sh, hsh⟩ : ∃ sh, sh = shB L T ns W i := ⟨_, rfl⟩
    have h3 := HLG.out
    have h4 := HSH.out
    rw [← hlg] at h3
    rw [← hsh] at h4
    have HLE := Hid.mk' hlg
    have HSF := Hid.mk' hsh
    clear HLG HSH hlg hsh
    subst h3
    subst h4
    rcases Nat.lt_or_ge i L with h1 | h1
    · have hiI : (i : Int) < (L : Int) := by omega
      have hi0 : (0 : Int) ≤ (i : Int) := by omega
      have hL0 : (0 : Int) < (L : Int) := by omega
      obtain ⟨b, o, cap', hve, hrows⟩ := tab_of (HTA.out wr HB.out) (by omega)
      simp only [Value.slice.injEq, true_and] at hve
      obtain ⟨rfl, rfl⟩ := hve
      obtain ⟨hcell, hnum⟩ := hrows i h1
      obtain ⟨hcell0, hnum0⟩ := hrows 0 (by omega)
      obtain ⟨ra, rc, hre⟩ := hnum.form
      obtain ⟨r0a, r0c, hr0e⟩ := hnum0.form
      rw [hre] at hcell
      rw [hr0e, Nat.add_zero] at hcell0
      have hni := HNS.out i h1
      have hn0 := HNS.out 0 (by omega)
      have HNU := Hid.mk' hnum
      rw [hre] at HNU
      have hniI : ((ns i : Nat) : Int) ≤ 1000000 := by omega
      have hn0I : ((ns 0 : Nat) : Int) ≤ 1000000 := by omega
      have HLN := Hid.mk' (lgB_next L ns i)
      have HSN := Hid.mk' (shB_next L T ns W i)
      rw [← HLE.out] at HLN
      rw [← HSF.out] at HSN
      have HDE : Hid (∀ k, anyB (fun k => noW (W i k)) k = noWs (W i) k) := fun k => rfl
      have HBR : Hid (badR (ns 0) (ns i) (W i) = (decide (ns i = 0) || (decide (ns i ≠ ns 0) || noWs (W i) (ns i)))) := rfl
      clear hrows hnum hnum0 hre hr0e HLE HSF
      obtain ⟨lg1, hlg1⟩ : ∃ lg1, lg1 = (lg || decide (4 < ns i)) := ⟨_, rfl⟩
      have HL1 := Hid.mk' hlg1
      rw [← hlg1] at HLN
      clear hlg1
      generalize hnie : ns i = nI at *
      generalize hn0e : ns 0 = n0 at *
      clear hnie hn0e
      go_upto_region 6 with fail
      go_cut [3] from 37 to 46 (fun s wx => s = .bool lg1 ∧ wx = wr)
      case first =>
        cases lg with
        | true =>
          have hq : lg1 = true := HL1.out
          subst hq
          go_wp2_with fail
          go_meet
          exact ⟨rfl, rfl⟩
        | false =>
          have hq : lg1 = decide (4 < (nI : Int)) := by
            rw [HL1.out, Bool.false_or]
            by_cases h5 : 4 < nI
            · rw [decide_eq_true h5, decide_eq_true (by omega)]
            · rw [decide_eq_false h5, decide_eq_false (by omega)]
          have HQ := Hid.mk' hq
          clear hq
          go_wp2_with fail
          go_meet
          exact ⟨by rw [HQ.out], rfl⟩
      case rest =>
      obtain ⟨rfl, hwc⟩ := hcut
      rw [hwc]
      clear hwc HL1
      obtain ⟨sh1, hsh1⟩ : ∃ sh1, sh1 = (sh || (decide (nI = 0) || decide (nI ≠ n0))) := ⟨_, rfl⟩
      have HS1 := Hid.mk' hsh1
      clear hsh1
      go_upto_region 7 with fail
      go_cut [4] from 47 to 70 (fun s wx => s = .bool sh1 ∧ Hid (Below wr.heap.size wr wx))
      case first =>
        cases sh with
        | true =>
          have hq : sh1 = true := HS1.out
          subst hq
          go_wp2_with fail
          go_quiet (fail)
          go_wp2_with fail
          go_meet
          exact ⟨rfl, below_drewsN (Below.refl _ _) _⟩
        | false =>
          by_cases hz : nI = 0
          · have hzI : ((nI : Int) == 0) = true := by rw [beq_iff_eq]; omega
            have hq : sh1 = true := by rw [HS1.out, decide_eq_true hz]; rfl
            subst hq
            clear hz
            go_wp2_with fail
            go_quiet (fail)
            go_wp2_with fail
            go_meet
            exact ⟨rfl, below_drewsN (Below.refl _ _) _⟩
          · have hzI : ((nI : Int) == 0) = false := by rw [beq_eq_false_iff_ne]; omega
            have hq : ((nI : Int) != (n0 : Int)) = sh1 := by
              rw [HS1.out, decide_eq_false hz]
              by_cases h5 : nI = n0
              · rw [decide_eq_false (by omega)]; rw [show (false || (false || false)) = false from rfl, bne_eq_false_iff_eq]; omega
              · rw [decide_eq_true h5]; rw [show (false || (false || true)) = true from rfl, bne_iff_ne]; omega
            clear hz
            go_wp2_with fail
            go_quiet (fail)
            go_wp2_with fail
            go_meet
            exact ⟨rfl, below_drewsN (Below.refl _ _) _⟩
      case rest =>
      obtain ⟨rfl, HBX⟩ := hcut
      have HB7 := Hid.mk' (below_chain HB.out HBX.out)
      have HCI : Hid (∀ W', Below wr.heap.size wr W' → W'.cell? ⟨b, o + i, none⟩ = some (.slice ra nI rc) ∧ NumsAt W' (.slice ra nI rc) nI (W i) ∧ W'.cell? ⟨w.heap.size, 0, none⟩ = some (.slice (some ⟨b, o, none⟩) L cap)) := fun W' hb => ⟨by rw [hb.cell (cell_lt hcell)]; exact hcell, HNU.out.later hb, (HC.out W' (below_chain HB.out hb)).1.1⟩
      have HSX : Hid (shB L T ns W (i + 1) = (sh1 || noWs (W i) nI)) := by
        show _ = _
        rw [HSN.out, HBR.out, HS1.out, ← Bool.or_assoc, ← Bool.or_assoc, ← Bool.or_assoc]
      clear hcell hcell0 HNU HSN HBR HS1
      obtain ⟨wb, hwb⟩ : ∃ wb, wb = wr := ⟨_, rfl⟩
      rw [← hwb] at HCI HBX
      clear hwb HB c0 c1
      go_wp2_with fail
      go_loopw [4, 6] (fun s t wr => ∃ k : Nat, k ≤ nI ∧ t = .int .i64 k ∧ Hid (s = .bool (sh1 || noWs (W i) k)) ∧ Hid (Below wb.heap.size wb wr) ∧ Hid (Below w1.heap.size w1 wr)) (fun _ t _ => nI - (intOf t).toNat)
      case atStart => exact ⟨0, Nat.zero_le _, rfl, by show _ = _; rw [show noWs (W i) 0 = false from rfl, Bool.or_false], HBX, HB7⟩
      case round =>
        clear HBX HB7
        obtain ⟨k, hk, rfl, HSV, HBX, HB⟩ := hrel
        obtain ⟨e0, hnum, e1⟩ := HCI.out wr HBX.out
        obtain ⟨sk, hsk⟩ : ∃ sk, sk = (sh1 || noWs (W i) k) := ⟨_, rfl⟩
        have h4 := HSV.out
        rw [← hsk] at h4
        have HSK := Hid.mk' hsk
        clear hsk HSV
        subst h4
        rcases Nat.lt_or_ge k nI with h2 | h2
        · have hkI : (k : Int) < (nI : Int) := by omega
          have hk0 : (0 : Int) ≤ (k : Int) := by omega
          obtain ⟨qb, qo, qc, hqe, hq⟩ := row_of hnum (by omega)
          simp only [Value.slice.injEq, true_and] at hqe
          obtain ⟨rfl, rfl⟩ := hqe
          have e2 := hq k h2
          have HNX : Hid ((sh1 || noWs (W i) (k + 1)) = (sk || noW (W i k))) := by show (sh1 || (noWs (W i) k || noW (W i k))) = _; rw [HSK.out, Bool.or_assoc]
          have HNW : Hid (noW (W i k) = (decide (W i k < 1) || decide (1000 < W i k))) := rfl
          clear hnum hq HSK
          generalize W i k = x at *
          cases sk with
          | true =>
            have HF : Hid (Value.bool true = .bool (sh1 || noWs (W i) (k + 1))) := by show _ = _; rw [HNX.out]; rfl
            go_wp2_with fail
            exact ⟨⟨k + 1, h2, by go_num, HF, HBX, HB⟩, by simp [intOf]; omega⟩
          | false =>
            by_cases hx : x < 1
            · have hxd : decide (x < 1) = true := decide_eq_true hx
              have HF : Hid (Value.bool true = .bool (sh1 || noWs (W i) (k + 1))) := by show _ = _; rw [HNX.out, HNW.out, hxd]; rfl
              clear hx
              go_wp2_with fail
              exact ⟨⟨k + 1, h2, by go_num, HF, HBX, HB⟩, by simp [intOf]; omega⟩
            · have hxd : decide (x < 1) = false := decide_eq_false hx
              have HF : Hid (Value.bool (decide (1000 < x)) = .bool (sh1 || noWs (W i) (k + 1))) := by show _ = _; rw [HNX.out, HNW.out, hxd]; rfl
              clear hx
              go_wp2_with fail
              exact ⟨⟨k + 1, h2, by go_num, HF, HBX, HB⟩, by simp [intOf]; omega⟩
        · obtain rfl : k = nI := by omega
          have hkI : ¬ ((k : Int) < (k : Int)) := by omega
          have HF1 : Hid (Value.bool lg1 = .bool (lgB L ns (i + 1))) := by show _ = _; rw [HLN.out]
          have HF2 : Hid (Value.bool sk = .bool (shB L T ns W (i + 1))) := by show _ = _; rw [HSX.out, HSK.out]
          go_wp2_with fail
          exact ⟨⟨i + 1, h1, by go_num, HF1, HF2, HB⟩, by simp [intOf]; omega⟩
    · obtain rfl : i = L := by omega
      have hiI : ¬ ((i : Int) < (i : Int)) := by omega
      rw [← HLE.out, ← HSF.out] at HWE
      clear HLE HSF
      cases lg with
      | true =>
        have hwe : wtE i ns W T = 2 := by rw [HWE.out]; rfl
        have HF : Hid (PF = (2, -1)) := by show _ = _; rw [HPW.out (by rw [hwe]; decide), hwe]
        clear hwe HPC HPS HOK HPW HWE
        obtain ⟨_, ⟨d2, d3⟩, d4, d5⟩ := HC.out _ HB.out
        have HBE : Hid (Below w.heap.size w ((wr.setCell ⟨w.heap.size + 1, 0, none⟩ (.int .i64 (2))).setCell ⟨w.heap.size + 1, 1, none⟩ (.int .i64 (-1)))) := ((HEND.out _ HB.out).setCell (by simp) _).setCell (by simp) _
        have HG := Hid.mk' (put_two (.int .i64 (2)) (.int .i64 (-1)) d2 d3)
        obtain ⟨q0, _, _⟩ := HG.out
        go_wp2_with fail
        generalize (wr.setCell ⟨w.heap.size + 1, 0, none⟩ (.int .i64 (2))).setCell ⟨w.heap.size + 1, 1, none⟩ (.int .i64 (-1)) = W9 at *
        exact bodyPost_ret (v := .agg #[.int .i64 (2), .int .i64 (-1)]) (by simp [results, Tryd.results7, go_sem, HG.out.2.1, HG.out.2.2]) rfl ⟨by first | (rw [HF.out]; done) | (rw [HF.out]; rfl), HBE.out⟩
      | false =>
        cases sh with
        | true =>
          have hwe : wtE i ns W T = 3 := by rw [HWE.out]; rfl
          have HF : Hid (PF = (3, -1)) := by show _ = _; rw [HPW.out (by rw [hwe]; decide), hwe]
          clear hwe HPC HPS HOK HPW HWE
          obtain ⟨_, ⟨d2, d3⟩, d4, d5⟩ := HC.out _ HB.out
          have HBE : Hid (Below w.heap.size w ((wr.setCell ⟨w.heap.size + 1, 0, none⟩ (.int .i64 (3))).setCell ⟨w.heap.size + 1, 1, none⟩ (.int .i64 (-1)))) := ((HEND.out _ HB.out).setCell (by simp) _).setCell (by simp) _
          have HG := Hid.mk' (put_two (.int .i64 (3)) (.int .i64 (-1)) d2 d3)
          obtain ⟨q0, _, _⟩ := HG.out
          go_wp2_with fail
          generalize (wr.setCell ⟨w.heap.size + 1, 0, none⟩ (.int .i64 (3))).setCell ⟨w.heap.size + 1, 1, none⟩ (.int .i64 (-1)) = W9 at *
          exact bodyPost_ret (v := .agg #[.int .i64 (3), .int .i64 (-1)]) (by simp [results, Tryd.results7, go_sem, HG.out.2.1, HG.out.2.2]) rfl ⟨by first | (rw [HF.out]; done) | (rw [HF.out]; rfl), HBE.out⟩
        | false =>
          have hwe : wtE i ns W T = 0 := by rw [HWE.out]; rfl
          have HPC0 := Hid.mk' (HPC.out hwe)
          have HPS0 := Hid.mk' (HPS.out hwe)
          obtain ⟨a1, a2, a3, a4, a5, a6⟩ := HOK.out hwe
          have HA : Hid (i = T + 1 ∧ 0 < ns 0 ∧ ns 0 ≤ 4 ∧ (∀ j, j < i → ns j = ns 0) ∧ ∀ j k, j < i → k < ns 0 → 1 ≤ W j k ∧ W j k ≤ 1000) := ⟨a2, a3, a4, a5, a6⟩
          have hLa : T + 1 ≤ i := by omega
          have hLb : i ≤ T + 1 := by omega
          clear hwe HPC HPS HOK HPW HWE a1 a2 a3 a4 a5 a6
          obtain ⟨w2, hw2⟩ : ∃ w2, w2 = wr := ⟨_, rfl⟩
          rw [← hw2] at HB c0 c1 ⊢
          clear hw2
          go_wp2_with fail
          clear c0 c1
          go_loopw [7] (fun t wr => ∃ k : Nat, k ≤ T ∧ t = .int .i64 k ∧ Hid (∀ j, j < k → chainErr (R j) (rn j) (P j) = 0) ∧ wr = w2) (fun t _ => T - (intOf t).toNat)
          case atStart => exact ⟨0, Nat.zero_le _, rfl, (fun j hj => by omega), rfl⟩
          case round =>
            obtain ⟨k, hk, rfl, HS, hwr⟩ := hrel
            rw [hwr]
            clear hwr
            obtain ⟨⟨c0, c1⟩, _⟩ := HC.out w2 HB.out
            rcases Nat.lt_or_ge k T with h2 | h2
            · have hkI : (k : Int) < (T : Int) := by omega
              have hk0 : (0 : Int) ≤ (k : Int) := by omega
              obtain ⟨sb, so, rfl, hst⟩ := (HST.out w2 HB.out).at h2
              obtain ⟨hcell, htab⟩ := hst k h2
              obtain ⟨rad, rcap, hre⟩ := htab.form
              have HCV := Hid.mk' (ChainError_any (tv k) (R k) (rv k) (rn k) (P k) w2 htab (HRB.out k h2) (fun j hj => HRN.out k j h2 hj))
              rw [hre] at hcell HCV
              have HBAD := Hid.mk' (HPC0.out k h2 HS.out)
              have HNX : Hid (chainErr (R k) (rn k) (P k) = 0 → ∀ j, j < k + 1 → chainErr (R j) (rn j) (P j) = 0) := fun hq j hj => by
                rcases Nat.lt_or_ge j k with h5 | h5
                · exact HS.out j h5
                · obtain rfl : j = k := by omega
                  exact hq
              have hle := chainErr_le (R k) (rn k) (P k)
              clear hst htab hre
              generalize chainErr (R k) (rn k) (P k) = CE at HCV HBAD HNX hle
              by_cases hq : CE = 0
              · subst hq
                have HF := Hid.mk' (HNX.out rfl)
                go_wp2_with fail
                refine HCV.out.mono ?_
                rintro e w3 ⟨rfl, hw3⟩
                rw [hw3]
                clear hw3 HCV
                go_wp2_with fail
                exact ⟨⟨k + 1, h2, by go_num, HF, trivial⟩, by simp [intOf]; omega⟩
              · have HF := Hid.mk' (HBAD.out hq)
                have hpos : (0 : Int) < (CE : Int) := by omega
                have hleI : (CE : Int) ≤ 3 := by omega
                clear hq hle
                go_wp2_with fail
                refine HCV.out.mono ?_
                rintro e w3 ⟨rfl, hw3⟩
                rw [hw3]
                clear hw3 HCV
                obtain ⟨_, ⟨d2, d3⟩, d4, d5⟩ := HC.out _ HB.out
                have HBE : Hid (Below w.heap.size w ((w2.setCell ⟨w.heap.size + 1, 0, none⟩ (.int .i64 ((CE : Int)))).setCell ⟨w.heap.size + 1, 1, none⟩ (.int .i64 (-1)))) := ((HEND.out _ HB.out).setCell (by simp) _).setCell (by simp) _
                have HG := Hid.mk' (put_two (.int .i64 ((CE : Int))) (.int .i64 (-1)) d2 d3)
                obtain ⟨q0, _, _⟩ := HG.out
                go_wp2_with fail
                generalize (w2.setCell ⟨w.heap.size + 1, 0, none⟩ (.int .i64 ((CE : Int)))).setCell ⟨w.heap.size + 1, 1, none⟩ (.int .i64 (-1)) = W9 at *
                exact bodyPost_ret (v := .agg #[.int .i64 ((CE : Int)), .int .i64 (-1)]) (by simp [results, Tryd.results7, go_sem, HG.out.2.1, HG.out.2.2]) rfl ⟨by first | (rw [HF.out]; done) | (rw [HF.out]; rfl), HBE.out⟩
            · obtain rfl : k = T := by omega
              have hkI : ¬ ((k : Int) < (k : Int)) := by omega
              have HPF := Hid.mk' (HPS0.out HS.out)
              obtain ⟨b, o, cap', hve, hrows⟩ := tab_of (HTA.out w2 HB.out) (by omega)
              simp only [Value.slice.injEq, true_and] at hve
              obtain ⟨rfl, rfl⟩ := hve
              have HRW : Hid (∀ W', Below w2.heap.size w2 W' → ∀ j, j < i → W'.cell? ⟨b, o + j, none⟩ = some (vs j) ∧ NumsAt W' (vs j) (ns j) (W j)) := fun W' hb j hj => ⟨by rw [hb.cell (cell_lt (hrows j hj).1)]; exact (hrows j hj).1, (hrows j hj).2.later hb⟩
              obtain ⟨r0a, r0c, hr0e⟩ := (hrows 0 (by omega)).2.form
              have HN0 := HA.out.2.1
              have HN4 := HA.out.2.2.1
              have hn0I : ((ns 0 : Nat) : Int) ≤ 4 := by omega
              have HSHP : Hid (∀ t, t < k → (∀ j, j < t → R j = ns 0) → R t ≠ ns 0 → PF = (3, (t : Int))) := fun t ht h3 h4 => by rw [HPF.out]; exact spF_shape ht h3 h4
              have HKND : Hid ((∀ j, j < k → R j = ns 0) → ∀ t, t < k → (∀ j, j < t → unK (W (j + 1)) (P j) (ns 0) = false) → unK (W (t + 1)) (P t) (ns 0) = true → PF = (8, (t : Int))) := fun h3 t ht h4 h5 => by rw [HPF.out]; exact spF_kind h3 ht h4 h5
              have HNON : Hid ((∀ j, j < k → R j = ns 0) → (∀ j, j < k → unK (W (j + 1)) (P j) (ns 0) = false) → PF = (0, -1)) := fun h3 h4 => by rw [HPF.out]; exact spF_none h3 h4
              have HC0 : Hid (∀ W', Below w2.heap.size w2 W' → W'.cell? ⟨b, o + 0, none⟩ = some (.slice r0a (ns 0) r0c)) := fun W' hb => by rw [← hr0e]; exact (HRW.out W' hb 0 (by omega)).1
              have hiL : (0 : Int) < (i : Int) := by omega
              clear hrows hr0e HPF HPS0 HPC0
              generalize hn0e : ns 0 = n0 at *
              have HNE := Hid.mk' hn0e
              clear hn0e
              go_wp2_with fail
              clear c0 c1
              go_loopw [9] (fun t wr => ∃ t' : Nat, t' ≤ k ∧ t = .int .i64 t' ∧ Hid (∀ j, j < t' → R j = n0) ∧ Hid (Below w2.heap.size w2 wr)) (fun t _ => k - (intOf t).toNat)
              case atStart => exact ⟨0, Nat.zero_le _, rfl, (fun j hj => by omega), Below.refl _ _⟩
              case round =>
                obtain ⟨t, ht, rfl, HRT, HB2⟩ := hrel
                have HBW := Hid.mk' (below_chain HB.out HB2.out)
                obtain ⟨⟨c0, c1⟩, _⟩ := HC.out wr HBW.out
                rcases Nat.lt_or_ge t k with h3 | h3
                · have htI : (t : Int) < (k : Int) := by omega
                  have ht0 : (0 : Int) ≤ (t : Int) := by omega
                  obtain ⟨sb, so, rfl, hst⟩ := (HST.out wr HBW.out).at h3
                  obtain ⟨hcell, htab⟩ := hst t h3
                  obtain ⟨rad, rcap, hre⟩ := htab.form
                  rw [hre] at hcell
                  have d0 := HC0.out wr HB2.out
                  rw [Nat.add_zero] at d0
                  have hR8 : R t ≤ 8 := (chainErr_ok (HS.out t h3)).2.1
                  have hR8I : ((R t : Nat) : Int) ≤ 8 := by omega
                  have HSK := Hid.mk' (HSHP.out t h3 HRT.out)
                  have HNX : Hid (R t = n0 → ∀ j, j < t + 1 → R j = n0) := fun hq j hj => by
                    rcases Nat.lt_or_ge j t with h5 | h5
                    · exact HRT.out j h5
                    · obtain rfl : j = t := by omega
                      exact hq
                  clear hst htab hre
                  generalize R t = Rt at *
                  by_cases hq : Rt = n0
                  · have hne : ((Rt : Int) != (n0 : Int)) = false := by rw [bne_eq_false_iff_eq]; omega
                    have HF := Hid.mk' (HNX.out hq)
                    clear hq
                    go_wp2_with fail
                    go_quiet (fail)
                    go_wp2_with fail
                    exact ⟨⟨t + 1, h3, by go_num, HF, below_drewsN HB2.out _⟩, by simp [intOf]; omega⟩
                  · have hne : ((Rt : Int) != (n0 : Int)) = true := by rw [bne_iff_ne]; omega
                    have HF := Hid.mk' (HSK.out hq)
                    clear hq
                    go_upto_region 25 with fail
                    have hiN : 0 < i := by omega
                    have hcur : (wr.drew.cell? ⟨w.heap.size, 0, none⟩ = some (.slice (some ⟨b, o, none⟩) i cap) ∧ wr.drew.cell? ⟨w.heap.size, 1, none⟩ = some (.slice (some ⟨sb, so, none⟩) k sc)) ∧ wr.drew.cell? ⟨sb, so + t, none⟩ = some (.slice rad Rt rcap) ∧ wr.drew.cell? ⟨b, o, none⟩ = some (.slice r0a n0 r0c) := ⟨⟨c0, c1⟩, hcell, d0⟩
                    clear c0 c1 d0 hcell
                    go_region_held3 (fun W' => (W'.cell? ⟨w.heap.size, 0, none⟩ = some (.slice (some ⟨b, o, none⟩) i cap) ∧ W'.cell? ⟨w.heap.size, 1, none⟩ = some (.slice (some ⟨sb, so, none⟩) k sc)) ∧ W'.cell? ⟨sb, so + t, none⟩ = some (.slice rad Rt rcap) ∧ W'.cell? ⟨b, o, none⟩ = some (.slice r0a n0 r0c)) (exact hcur) (fail)
                    obtain ⟨wq, hwq⟩ : ∃ wq, wq = wr.drew := ⟨_, rfl⟩
                    have HBQ : Hid (Below w1.heap.size w1 wq) := by rw [hwq]; exact HBW.out.drew
                    rw [← hwq]
                    clear hwq hcur
                    obtain ⟨_, ⟨d2, d3⟩, d4, d5⟩ := HC.out _ HBQ.out
                    have HBE : Hid (Below w.heap.size w ((wq.setCell ⟨w.heap.size + 1, 0, none⟩ (.int .i64 (3))).setCell ⟨w.heap.size + 1, 1, none⟩ (.int .i64 ((t : Int))))) := ((HEND.out _ HBQ.out).setCell (by simp) _).setCell (by simp) _
                    have HG := Hid.mk' (put_two (.int .i64 (3)) (.int .i64 ((t : Int))) d2 d3)
                    obtain ⟨q0, _, _⟩ := HG.out
                    go_wp2_with fail
                    generalize (wq.setCell ⟨w.heap.size + 1, 0, none⟩ (.int .i64 (3))).setCell ⟨w.heap.size + 1, 1, none⟩ (.int .i64 ((t : Int))) = W9 at *
                    exact bodyPost_ret (v := .agg #[.int .i64 (3), .int .i64 ((t : Int))]) (by simp [results, Tryd.results7, go_sem, HG.out.2.1, HG.out.2.2]) rfl ⟨by first | (rw [HF.out]; done) | (rw [HF.out]; rfl), HBE.out⟩
                · obtain rfl : t = k := by omega
                  have htI : ¬ ((t : Int) < (t : Int)) := by omega
                  have HKN := Hid.mk' (HKND.out HRT.out)
                  have HNN := Hid.mk' (HNON.out HRT.out)
                  clear HSHP HKND HNON
                  obtain ⟨w3, hw3⟩ : ∃ w3, w3 = wr := ⟨_, rfl⟩
                  rw [← hw3] at HB2 HBW c0 c1 ⊢
                  clear hw3
                  go_wp2_with fail
                  clear c0 c1
                  go_loopw [10] (fun s wr => ∃ t' : Nat, t' ≤ t ∧ s = .int .i64 t' ∧ Hid (∀ j, j < t' → unK (W (j + 1)) (P j) n0 = false) ∧ Hid (Below w3.heap.size w3 wr)) (fun s _ => t - (intOf s).toNat)
                  case atStart => exact ⟨0, Nat.zero_le _, rfl, (fun j hj => by omega), Below.refl _ _⟩
                  case round =>
                    obtain ⟨j, hj, rfl, HU, HB3⟩ := hrel
                    have HBZ := Hid.mk' (below_chain HBW.out HB3.out)
                    obtain ⟨⟨c0, c1⟩, _⟩ := HC.out wr HBZ.out
                    rcases Nat.lt_or_ge j t with h4 | h4
                    · have hjI : (j : Int) < (t : Int) := by omega
                      have hj0 : (0 : Int) ≤ (j : Int) := by omega
                      have hjw : IntKind.i64.wrap ((j : Int) + 1) = (j : Int) + 1 := by rw [IntKind.wrap_i64]; omega
                      have hjp : (0 : Int) ≤ (j : Int) + 1 := by omega
                      have hjn : ((j : Int) + 1).toNat = j + 1 := by omega
                      have hjL : (j : Int) + 1 < (i : Int) := by omega
                      obtain ⟨sb, so, rfl, hst⟩ := (HST.out w1 (Below.refl _ _)).at h4
                      obtain ⟨hcell, htab⟩ := hst j h4
                      obtain ⟨rad, rcap, hre⟩ := htab.form
                      have HCL : Hid (∀ W', Below w1.heap.size w1 W' → W'.cell? ⟨sb, so + j, none⟩ = some (tv j) ∧ TabAt W' (tv j) (R j) (rv j) (rn j) (P j)) := fun W' hb => ⟨by rw [hb.cell (cell_lt hcell)]; exact hcell, htab.later hb⟩
                      obtain ⟨qa, qc, hqe⟩ := (HRW.out w2 (Below.refl _ _) (j + 1) (by omega)).2.form
                      obtain ⟨x1, x2, x3, x4⟩ := chainErr_ok (HS.out j h4)
                      have hRj := HRT.out j h4
                      rw [hRj] at x3 x4 hre HCL
                      have hnj := HA.out.2.2.2.1 (j + 1) (by omega)
                      have HIE : Hid (∀ W', Below wr.heap.size wr W' → Calls Tryd.prog 21 #[tv j, vs (j + 1)] W' fun e w' => e = .returned (.bool (!unK (W (j + 1)) (P j) n0)) ∧ Below W'.heap.size W' w') := fun W' hb => by
                        have hnu := (HRW.out W' (below_chain HB2.out (below_chain HB3.out hb)) (j + 1) (by omega)).2
                        rw [hnj] at hnu
                        exact isEven_any (tv j) (vs (j + 1)) n0 (rv j) (rn j) (P j) (W (j + 1)) W' (HCL.out W' (below_chain HBZ.out hb)).2 hnu HN0 (by omega) x3 x4 (fun k' hk' => HA.out.2.2.2.2 (j + 1) k' (by omega) hk')
                      have HKS : Hid (∀ W', Below wr.heap.size wr W' → (W'.cell? ⟨w.heap.size, 0, none⟩ = some (.slice (some ⟨b, o, none⟩) i cap) ∧ W'.cell? ⟨w.heap.size, 1, none⟩ = some (.slice (some ⟨sb, so, none⟩) t sc)) ∧ W'.cell? ⟨sb, so + j, none⟩ = some (tv j) ∧ W'.cell? ⟨b, o + (j + 1), none⟩ = some (vs (j + 1))) := fun W' hb => ⟨(HC.out W' (below_chain HBZ.out hb)).1, (HCL.out W' (below_chain HBZ.out hb)).1, (HRW.out W' (below_chain HB2.out (below_chain HB3.out hb)) (j + 1) (by omega)).1⟩
                      rw [hre, hqe] at HIE HKS
                      have HKB := Hid.mk' (HKN.out j h4 HU.out)
                      have HNX : Hid (unK (W (j + 1)) (P j) n0 = false → ∀ j', j' < j + 1 → unK (W (j' + 1)) (P j') n0 = false) := fun hq j' hj' => by
                        rcases Nat.lt_or_ge j' j with h5 | h5
                        · exact HU.out j' h5
                        · obtain rfl : j' = j := by omega
                          exact hq
                      have hcur : Below wr.heap.size wr wr.drew := (Below.refl _ _).drew
                      have hcur0 : Below wr.heap.size wr wr := Below.refl _ _
                      clear hst hcell htab hre hqe x1 x2 x3 x4 hRj hnj HCL
                      generalize unK (W (j + 1)) (P j) n0 = UK at HIE HKB HNX
                      go_upto_region 30 with fail
                      clear c0 c1
                      go_region_held3 (fun W' => (W'.cell? ⟨w.heap.size, 0, none⟩ = some (.slice (some ⟨b, o, none⟩) i cap) ∧ W'.cell? ⟨w.heap.size, 1, none⟩ = some (.slice (some ⟨sb, so, none⟩) t sc)) ∧ W'.cell? ⟨sb, so + j, none⟩ = some (.slice rad n0 rcap) ∧ W'.cell? ⟨b, o + (j + 1), none⟩ = some (.slice qa (ns (j + 1)) qc))
                        (first | exact HKS.out _ hcur | exact HKS.out _ hcur5 | exact HKS.out _ hcur0)
                        (first
                          | (go_at_call 21; refine (HIE.out _ hcur).mono ?_; rintro e w5 ⟨rfl, hb5⟩; have hcur5 := below_chain hcur hb5; clear hb5))
                      have HB5 := Hid.mk' (below_chain HBZ.out hcur5)
                      have HB53 := Hid.mk' (below_chain HB3.out hcur5)
                      clear hcur hcur0 hcur5 HIE HKS
                      cases UK with
                      | false =>
                        have HF := Hid.mk' (HNX.out rfl)
                        go_wp2_with fail
                        exact ⟨⟨j + 1, h4, by go_num, HF, HB53⟩, by simp [intOf]; omega⟩
                      | true =>
                        have HF := Hid.mk' (HKB.out rfl)
                        obtain ⟨_, ⟨d2, d3⟩, d4, d5⟩ := HC.out _ HB5.out
                        have HBE : Hid (Below w.heap.size w ((w5.setCell ⟨w.heap.size + 1, 0, none⟩ (.int .i64 (8))).setCell ⟨w.heap.size + 1, 1, none⟩ (.int .i64 ((j : Int))))) := ((HEND.out _ HB5.out).setCell (by simp) _).setCell (by simp) _
                        have HG := Hid.mk' (put_two (.int .i64 (8)) (.int .i64 ((j : Int))) d2 d3)
                        obtain ⟨q0, _, _⟩ := HG.out
                        go_wp2_with fail
                        generalize (w5.setCell ⟨w.heap.size + 1, 0, none⟩ (.int .i64 (8))).setCell ⟨w.heap.size + 1, 1, none⟩ (.int .i64 ((j : Int))) = W9 at *
                        exact bodyPost_ret (v := .agg #[.int .i64 (8), .int .i64 ((j : Int))]) (by simp [results, Tryd.results7, go_sem, HG.out.2.1, HG.out.2.2]) rfl ⟨by first | (rw [HF.out]; done) | (rw [HF.out]; rfl), HBE.out⟩
                    · obtain rfl : j = t := by omega
                      have hjI : ¬ ((j : Int) < (j : Int)) := by omega
                      have HF := Hid.mk' (HNN.out HU.out)
                      obtain ⟨_, ⟨d2, d3⟩, d4, d5⟩ := HC.out _ HBZ.out
                      have HBE : Hid (Below w.heap.size w ((wr.setCell ⟨w.heap.size + 1, 0, none⟩ (.int .i64 (0))).setCell ⟨w.heap.size + 1, 1, none⟩ (.int .i64 (-1)))) := ((HEND.out _ HBZ.out).setCell (by simp) _).setCell (by simp) _
                      have HG := Hid.mk' (put_two (.int .i64 (0)) (.int .i64 (-1)) d2 d3)
                      obtain ⟨q0, _, _⟩ := HG.out
                      go_wp2_with fail
                      generalize (wr.setCell ⟨w.heap.size + 1, 0, none⟩ (.int .i64 (0))).setCell ⟨w.heap.size + 1, 1, none⟩ (.int .i64 (-1)) = W9 at *
                      exact bodyPost_ret (v := .agg #[.int .i64 (0), .int .i64 (-1)]) (by simp [results, Tryd.results7, go_sem, HG.out.2.1, HG.out.2.2]) rfl ⟨by first | (rw [HF.out]; done) | (rw [HF.out]; rfl), HBE.out⟩
end Go.Proofs.YthomgmhmbalnbaaDoor

/- The document's Told of a fraction. -/
namespace Go.Proofs.YthomgmhmbalnbaaDoor
open Go.RowKit

theorem cmpOf_le {a b : Nat} (h : a ≤ b) : cmpOf a b ≤ 0 := by
  unfold cmpOf
  split
  · omega
  · split
    · omega
    · omega

set_option maxRecDepth 100000 in
set_option maxHeartbeats 2000000 in
theorem RTold_ok (v : Value) (m d : Nat) (w : World) (h : RatioAt w v (m : Int) d) (hm : m ≤ 4611686018427387904) (hd : d ≤ 4611686018427387904) :
    Calls Tryd.prog 10 #[v] w fun e w' => e = .returned (.tuple #[.agg #[.int .i64 m, .int .i64 d], .bool true]) ∧ Below w.heap.size w w' := by
  obtain ⟨u, q, rfl, hu, hq⟩ := h
  rw [Int.natAbs_natCast] at hu
  rw [decide_eq_false (show ¬ (m : Int) < 0 by omega)]
  obtain ⟨ad1, l1, cap1, rfl, _⟩ := hu.len
  obtain ⟨ad2, l2, cap2, rfl, _⟩ := hq.len
  obtain ⟨W0, hW0⟩ : ∃ W0, W0 = (w.alloc (.cells #[.bool false, .slice ad1 l1 cap1, .slice ad2 l2 cap2] 46)).alloc (.cells #[.int .i64 0, .int .i64 0] 32) := ⟨_, rfl⟩
  have hb0 : Below w.heap.size w W0 := by rw [hW0]; exact below_chain (new_below _ _) (new_below _ _)
  have HKS : Hid (∀ W, Below W0.heap.size W0 W → (W.cell? ⟨w.heap.size, 0, none⟩ = some (.bool false) ∧ W.cell? ⟨w.heap.size, 1, none⟩ = some (.slice ad1 l1 cap1) ∧ W.cell? ⟨w.heap.size, 2, none⟩ = some (.slice ad2 l2 cap2)) ∧ (W.cell? ⟨w.heap.size + 1, 0, none⟩ = some (.int .i64 0) ∧ W.cell? ⟨w.heap.size + 1, 1, none⟩ = some (.int .i64 0)) ∧ W.frozen? ⟨w.heap.size + 1, 0, none⟩ = false ∧ W.frozen? ⟨w.heap.size + 1, 1, none⟩ = false) := fun W hb => by
    have hr := hb
    rw [hW0] at hr
    have hr2 := res_past hr
    rw [World.size_alloc] at hr2
    have a : ∀ j v, #[Value.bool false, .slice ad1 l1 cap1, .slice ad2 l2 cap2][j]? = some v → W0.cell? ⟨w.heap.size, j, none⟩ = some v := fun j v h => by rw [hW0, World.cell?_alloc_lt _ _ ⟨w.heap.size, j, none⟩ (by simp), World.cell?_alloc_at _ _ _ _ rfl]; exact h
    exact ⟨⟨(cell_past (a 0 _ rfl) hb).2, (cell_past (a 1 _ rfl) hb).2, (cell_past (a 2 _ rfl) hb).2⟩, ⟨hr2.1, hr2.2.1⟩, hr2.2.2⟩
  have HU : Hid (∀ W, Below W0.heap.size W0 W → BigAt W (.slice ad1 l1 cap1) m ∧ BigAt W (.slice ad2 l2 cap2) d) := fun W hb => ⟨(hu.later hb0).later hb, (hq.later hb0).later hb⟩
  have hof : Calls Tryd.prog 30 #[.int .i64 4611686018427387904] W0 fun e w' => ∃ v, e = .returned v ∧ BigAt w' v 4611686018427387904 ∧ Below W0.heap.size W0 w' := BigOf_any 4611686018427387904 W0 (Nat.le_refl _)
  have k4 : (4611686018427387904 : Nat) < 1000000 ^ 4 := by decide
  obtain ⟨z1, hz1⟩ : ∃ z, z = cmpOf m 4611686018427387904 := ⟨_, rfl⟩
  obtain ⟨z2, hz2⟩ : ∃ z, z = cmpOf d 4611686018427387904 := ⟨_, rfl⟩
  have hle1 : ¬ 0 < z1 := by rw [hz1]; have := cmpOf_le hm; omega
  have hle2 : ¬ 0 < z2 := by rw [hz2]; have := cmpOf_le hd; omega
  have HC1 : Hid (∀ (W : World) (v : Value), Below W0.heap.size W0 W → BigAt W v 4611686018427387904 → Calls Tryd.prog 31 #[.slice ad1 l1 cap1, v] W fun e w' => e = .returned (.int .i64 z1) ∧ ∃ m, w' = W.drewN m) := fun W v hb hv => by
    rw [hz1]; exact BigCmp_any _ _ m _ 4 W (HU.out W hb).1 hv (Nat.lt_of_le_of_lt hm k4) k4 (by decide)
  have HC2 : Hid (∀ (W : World) (v : Value), Below W0.heap.size W0 W → BigAt W v 4611686018427387904 → Calls Tryd.prog 31 #[.slice ad2 l2 cap2, v] W fun e w' => e = .returned (.int .i64 z2) ∧ ∃ m, w' = W.drewN m) := fun W v hb hv => by
    rw [hz2]; exact BigCmp_any _ _ d _ 4 W (HU.out W hb).2 hv (Nat.lt_of_le_of_lt hd k4) k4 (by decide)
  have HI1 : Hid (∀ W, Below W0.heap.size W0 W → Calls Tryd.prog 32 #[.slice ad1 l1 cap1] W fun e w' => e = .returned (.tuple #[.int .i64 m, .bool true]) ∧ w' = W) := fun W hb => BigInt_any _ m W (HU.out W hb).1 hm
  have HI2 : Hid (∀ W, Below W0.heap.size W0 W → Calls Tryd.prog 32 #[.slice ad2 l2 cap2] W fun e w' => e = .returned (.tuple #[.int .i64 d, .bool true]) ∧ w' = W) := fun W hb => BigInt_any _ d W (HU.out W hb).2 hd
  have HB0 := Hid.mk' hb0
  have HW0 := Hid.mk' hW0
  clear hu hq hb0 hW0 hz1 hz2 k4 hm hd
  go_enter Tryd.func10, Tryd.ntmps10
  go_upto_region 1 with fail
  rw [← HW0.out]
  go_wp2_with fail
  refine hof.mono ?_
  clear hof
  rintro e w1 ⟨v1, rfl, hv1, hb1⟩
  obtain ⟨⟨x0, x1, x2⟩, _, _, _⟩ := HKS.out w1 hb1
  have hc1 := HC1.out w1 v1 hb1 hv1
  go_wp2_with fail
  refine hc1.mono ?_
  rintro e w2 ⟨rfl, m2, hw2⟩
  have hb2 : Below w1.heap.size w1 w2 := by rw [hw2]; exact below_drewN (Below.refl _ _) _
  have hv2 := hv1.later hb2
  have hb02 := below_chain hb1 hb2
  clear hw2 hb1 hv1 hb2 hc1 x0 x1 x2
  obtain ⟨⟨x0, x1, x2⟩, _, _, _⟩ := HKS.out w2 hb02
  have hc2 := HC2.out w2 v1 hb02 hv2
  go_wp2_with fail
  refine hc2.mono ?_
  rintro e w3 ⟨rfl, m3, hw3⟩
  have hb3 : Below w2.heap.size w2 w3 := by rw [hw3]; exact below_drewN (Below.refl _ _) _
  have hb03 := below_chain hb02 hb3
  clear hw3 hb02 hv2 hb3 hc2 x0 x1 x2
  obtain ⟨⟨x0, x1, x2⟩, ⟨c0, c1⟩, f0, f1⟩ := HKS.out w3 hb03
  have hi1 := HI1.out w3 hb03
  have hi2 := HI2.out w3 hb03
  have HB3 := Hid.mk' (below_chain HB0.out hb03)
  clear hb03
  go_wp2_with (first
    | (go_at_call_of 32 cap1; refine hi1.mono ?_; rintro e w4 ⟨rfl, hw4⟩; rw [hw4]; clear hw4)
    | (go_at_call_of 32 cap2; refine hi2.mono ?_; rintro e w4 ⟨rfl, hw4⟩; rw [hw4]; clear hw4))
  refine bodyPost_ret (v := .tuple #[.agg #[.int .i64 m, .int .i64 d], .bool true]) (by simp [results, Tryd.results10, go_sem, c0, c1]) rfl ⟨rfl, ?_⟩
  exact (HB3.out.setCell (by show w.heap.size ≤ w.heap.size + 1; omega) _).setCell (by show w.heap.size ≤ w.heap.size + 1; omega) _
end Go.Proofs.YthomgmhmbalnbaaDoor

/- A fraction of two small sums, as the document tells it. -/
namespace Go.Proofs.YthomgmhmbalnbaaDoor
open Go.RowKit

theorem low_natH (N D : Nat) : lowN D (N : Int) = ((N / Nat.gcd N D : Nat) : Int) ∧ lowD D (N : Int) = D / Nat.gcd N D := by
  unfold lowN lowD lowG
  rw [Int.natAbs_natCast]
  exact ⟨rfl, rfl⟩
theorem Told_lr (v : Value) (A B : Nat) (w : World) (h : LR w v B (A : Int)) (hA : A ≤ 4611686018427387904) (hB : B ≤ 4611686018427387904) :
    Calls Tryd.prog 10 #[v] w fun e w' => e = .returned (.tuple #[.agg #[.int .i64 ((A / Nat.gcd A B : Nat) : Int), .int .i64 ((B / Nat.gcd A B : Nat) : Int)], .bool true]) ∧ Below w.heap.size w w' := by
  have h1 := low_natH A B
  unfold LR at h
  rw [h1.1, h1.2] at h
  exact RTold_ok v _ _ w h (Nat.le_trans (Nat.div_le_self _ _) hA) (Nat.le_trans (Nat.div_le_self _ _) hB)
/-- A fraction in a variable of its own, made at any time. -/
structure FrB (w5 wx : World) (B : Nat) (p q : Int) : Prop where
  below : Below w5.heap.size w5 wx
  hB : w5.heap.size ≤ B
  c0 : wx.cell? ⟨B, 0, none⟩ = some (.int .i64 p)
  c1 : wx.cell? ⟨B, 1, none⟩ = some (.int .i64 q)
theorem frb_late {w5 w7 : World} (hb : Below w5.heap.size w5 w7) (p q : Int) : FrB w5 (w7.alloc (.cells #[.int .i64 p, .int .i64 q] 32)) w7.heap.size p q :=
  ⟨hb.alloc hb.size _, hb.size, by simp, by simp⟩
theorem frb_soon {w5 w7 : World} {B : Nat} {x y : Value} (hb : Below w5.heap.size w5 w7) (hB : w5.heap.size ≤ B) (c0 : w7.cell? ⟨B, 0, none⟩ = some x) (c1 : w7.cell? ⟨B, 1, none⟩ = some y) (p q : Int) : FrB w5 ((w7.setCell ⟨B, 0, none⟩ (.int .i64 p)).setCell ⟨B, 1, none⟩ (.int .i64 q)) B p q :=
  ⟨(hb.setCell hB _).setCell hB _, hB, (put_two (.int .i64 p) (.int .i64 q) c0 c1).2.1, (put_two (.int .i64 p) (.int .i64 q) c0 c1).2.2⟩
theorem FrB.later {w5 wx wn : World} {B : Nat} {p q : Int} (h : FrB w5 wx B p q) (hb : Below wx.heap.size wx wn) : FrB w5 wn B p q :=
  ⟨below_chain h.below hb, h.hB, by rw [hb.cell (cell_lt h.c0)]; exact h.c0, by rw [hb.cell (cell_lt h.c1)]; exact h.c1⟩
end Go.Proofs.YthomgmhmbalnbaaDoor

/- HeatJarzynski: the law. -/
namespace Go.Proofs.YthomgmhmbalnbaaDoor
open Go.RowKit

set_option maxRecDepth 100000 in
set_option maxHeartbeats 16000000 in
theorem HeatJarzynski_all (a : Nat → Addr) (v : Value) (L : Nat) (vs : Nat → Value) (ns : Nat → Nat) (W : Nat → Nat → Int) (sv : Value) (T : Nat) (tv : Nat → Value) (R : Nat → Nat) (rv : Nat → Nat → Value) (rn : Nat → Nat → Nat) (P : Nat → Nat → Nat → Int) (w : World) (hE : Errs w a) (h : TabAt w v L vs ns W) (hS : StpAt w sv T tv R rv rn P) (hL : L ≤ maxLen) (hT : T ≤ maxLen) (hR : ∀ t, t < T → R t ≤ maxLen) (hs : sumT ns L ≤ 2000000) (hrs : ∀ t, t < T → sumT (rn t) (R t) ≤ 2000000) :
    Calls Tryd.prog 3 #[.agg #[v, sv]] w fun e w' => e = .returned (.bool true) ∧ Below w.heap.size w w' := by
  obtain ⟨ad, cap, rfl⟩ := h.form
  obtain ⟨sa, sc, rfl⟩ := hS.form
  obtain ⟨w1, hw1⟩ : ∃ w1, w1 = w.alloc (.cells #[.slice ad L cap, .slice sa T sc] 25) := ⟨_, rfl⟩
  have hb1 : Below w.heap.size w w1 := by rw [hw1]; exact (Below.refl _ _).alloc (Nat.le_refl _) _
  have c0 : w1.cell? ⟨w.heap.size, 0, none⟩ = some (.slice ad L cap) := by rw [hw1]; go_simp
  have c1 : w1.cell? ⟨w.heap.size, 1, none⟩ = some (.slice sa T sc) := by rw [hw1]; go_simp
  have HC : Hid (∀ W', Below w1.heap.size w1 W' → W'.cell? ⟨w.heap.size, 0, none⟩ = some (.slice ad L cap) ∧ W'.cell? ⟨w.heap.size, 1, none⟩ = some (.slice sa T sc)) := fun W' hb => ⟨by rw [hb.cell (cell_lt c0)]; exact c0, by rw [hb.cell (cell_lt c1)]; exact c1⟩
  have HEND : Hid (∀ W', Below w1.heap.size w1 W' → Below w.heap.size w W') := fun W' hb => hb1.trans (hb.mono hb1.size)
  have HE : Hid (∀ W', Below w1.heap.size w1 W' → Errs W' a) := fun W' hb => (hE.below hb1).below hb
  have HTA : Hid (∀ W', Below w1.heap.size w1 W' → TabAt W' (.slice ad L cap) L vs ns W) := fun W' hb => h.later (HEND.out W' hb)
  have HST : Hid (∀ W', Below w1.heap.size w1 W' → StpAt W' (.slice sa T sc) T tv R rv rn P) := fun W' hb => hS.later (HEND.out W' hb)
  have HSTL := Hid.mk' (still_any a w1 (HE.out w1 (Below.refl _ _)))
  have HBR : Hid (∀ W', Below w1.heap.size w1 W' → Calls Tryd.prog 6 #[.agg #[.slice ad L cap, .slice sa T sc]] W' fun e w' => e = .returned (.bool (brB L ns T R rn)) ∧ Below W'.heap.size W' w') := fun W' hb => brief_any _ L vs ns W _ T tv R rv rn P W' (HTA.out W' hb) (HST.out W' hb) hL hs hT hR hrs
  have HW1 := Hid.mk' hw1
  clear hE h hS hb1 hw1 hL hT hR hs hrs
  go_enter Tryd.func3, Tryd.ntmps3
  go_upto_region 1 with fail
  rw [← HW1.out]
  go_wp2_with fail
  refine HSTL.out.mono ?_
  rintro e w2 ⟨rfl, hb2⟩
  have HB2 := Hid.mk' hb2
  clear hb2 HSTL c0 c1
  obtain ⟨c0, c1⟩ := HC.out w2 HB2.out
  have HB := Hid.mk' (HBR.out w2 HB2.out)
  cases hbr : brB L ns T R rn with
  | false =>
    rw [hbr] at HB
    clear hbr
    go_wp2_with fail
    refine HB.out.mono ?_
    rintro e w3 ⟨rfl, hb3⟩
    have HB3 := Hid.mk' (below_chain HB2.out hb3)
    clear hb3 HB
    go_wp2_with fail
    go_ret
    exact ⟨rfl, HEND.out _ HB3.out⟩
  | true =>
    rw [hbr] at HB
    obtain ⟨⟨x1, x2⟩, x3, x4⟩ := brB_all hbr
    have hns : ∀ i, i < L → ns i ≤ 1000000 := fun i hi => by have h2 : sumT ns i + ns i ≤ sumT ns L := sumT_mono ns hi; omega
    have hrn : ∀ t i, t < T → i < R t → rn t i ≤ 1000000 := fun t i ht hi => by have h2 : sumT (rn t) i + rn t i ≤ sumT (rn t) (R t) := sumT_mono (rn t) hi; have := (x4 t ht).2; omega
    have HPR : Hid (∀ W', Below w1.heap.size w1 W' → Calls Tryd.prog 9 #[.agg #[.slice ad L cap, .slice sa T sc]] W' fun e w' => ∃ v' sv', e = .returned (.agg #[v', sv']) ∧ (∃ vs', TabAt w' v' L vs' ns W) ∧ (∃ tv' rv', StpAt w' sv' T tv' R rv' rn P) ∧ Below W'.heap.size W' w') := fun W' hb => process_any _ L vs ns W _ T tv R rv rn P W' (HTA.out W' hb) (HST.out W' hb) x1 x2 x3 (fun t ht => (x4 t ht).1) (fun t ht => (x4 t ht).2)
    have HPF : Hid (∀ W', Below w1.heap.size w1 W' → Calls Tryd.prog 7 #[.agg #[.slice ad L cap, .slice sa T sc]] W' fun e w' => e = .returned (.agg #[.int .i64 (((prF L ns W T R rn P).1 : Nat) : Int), .int .i64 (prF L ns W T R rn P).2]) ∧ Below W'.heap.size W' w') := fun W' hb => ProcessFault_any _ L vs ns W _ T tv R rv rn P W' (HTA.out W' hb) (HST.out W' hb) (by omega) hns (by omega) (fun t ht' => by have := (x4 t ht').1; omega) hrn
    have HX4 := Hid.mk' x4
    have HNS := Hid.mk' hns
    clear hbr x1 x2 x4 hns hrn HBR
    go_wp2_with fail
    refine HB.out.mono ?_
    rintro e w3 ⟨rfl, hb3⟩
    have HB3 := Hid.mk' (below_chain HB2.out hb3)
    clear hb3 HB c0 c1 HB2
    obtain ⟨c0, c1⟩ := HC.out w3 HB3.out
    have HPF3 := Hid.mk' (HPF.out w3 HB3.out)
    have hfd : ∀ (c1 c2 : Int) (W' : World), (Instr.field 29 (.agg #[.int .i64 c1, .int .i64 c2]) 0).run Tryd.prog W' = .ok (.int .i64 c1) W' := fun _ _ _ => by kernel_rfl
    by_cases hz : (prF L ns W T R rn P).1 = 0
    · have hOK := prF_ok hz
      have HPZ := Hid.mk' hz
      rw [hz] at HPF3
      obtain rfl : L = T + 1 := hOK.hL
      have hn0 := hOK.n0
      have hn4 := hOK.n4
      have hT4 := hOK.hT
      have HOK := Hid.mk' hOK
      have HME : Hid (∀ W' v' sv' vs' tv' rv', Below w1.heap.size w1 W' → TabAt W' v' (T + 1) vs' ns W → StpAt W' sv' T tv' R rv' rn P → Calls Tryd.prog 8 #[.agg #[v', sv']] W' fun e w' => e = .returned (.tuple #[.agg #[.int .i64 ((smU (nU W T) (ns 0) / Nat.gcd (smU (nU W T) (ns 0)) (smU (nU W 0) (ns 0)) : Nat) : Int), .int .i64 ((smU (nU W 0) (ns 0) / Nat.gcd (smU (nU W T) (ns 0)) (smU (nU W 0) (ns 0)) : Nat) : Int)], .nilIface]) ∧ Below W'.heap.size W' w') := fun W' v' sv' vs' tv' rv' hb ht hs' => Mean_ok a v' (T + 1) vs' ns W sv' T tv' R rv' rn P W' (HE.out W' hb) ht hs' (by omega) HNS.out (by omega) (fun t ht' => by have := (HX4.out t ht').1; omega) HPZ.out
      obtain ⟨b, o, cap', hve, hrows⟩ := tab_of (HTA.out w1 (Below.refl _ _)) (by omega)
      simp only [Value.slice.injEq, true_and] at hve
      obtain ⟨rfl, rfl⟩ := hve
      have HRW : Hid (∀ t, t < T + 1 → ∃ rb ro rc, ∀ W', Below w1.heap.size w1 W' → W'.cell? ⟨b, o + t, none⟩ = some (.slice (some ⟨rb, ro, none⟩) (ns 0) rc) ∧ Calls Tryd.prog 12 #[.slice (some ⟨rb, ro, none⟩) (ns 0) rc] W' fun e w' => e = .returned (.int .i64 ((smU (nU W t) (ns 0) : Nat) : Int)) ∧ w' = W') := fun t ht => by
        obtain ⟨g1, g2⟩ := hrows t ht
        rw [hOK.hn t ht] at g2
        obtain ⟨rb, ro, rc, g3, g4⟩ := row_of g2 hOK.n0
        refine ⟨rb, ro, rc, fun W' hb => ⟨by rw [hb.cell (cell_lt g1), g1, g3], ?_⟩⟩
        have h5 : RowAt W' rb ro (ns 0) (fun i => ((nU W t i : Nat) : Int)) := fun i hi => by
          have := g4.later hb i hi
          rw [hOK.u_cast ht hi] at this
          exact this
        have h6 := Sum_some rb ro rc (ns 0) (fun i => ((nU W t i : Nat) : Int)) W' h5 (fun k hk => by
          rw [sumN_smU (u := nU W t) (fun _ _ => rfl)]
          have h7 := smU_mono (nU W t) hk
          have h8 := (hOK.s_bd ht).2
          omega) (fun k hk => by have := (hOK.u_bd ht hk).2; omega) (by omega)
        rw [sumN_smU (u := nU W t) (fun _ _ => rfl)] at h6
        exact h6
      have HSB : Hid (∀ t, t < T + 1 → 0 < smU (nU W t) (ns 0) ∧ smU (nU W t) (ns 0) ≤ 4000) := fun t ht => hOK.s_bd ht
      clear hrows hOK hz HPZ HNS HX4 HOK
      generalize ns 0 = n at *
      obtain ⟨rb, ro, rc, hro⟩ := HRW.out 0 (by omega)
      obtain ⟨qb, qo, qc, hqo⟩ := HRW.out T (by omega)
      have HR0 := Hid.mk' hro
      have HQT := Hid.mk' hqo
      have hs1 := HSB.out 0 (by omega)
      have hs2 := HSB.out T (by omega)
      clear hro hqo HRW HSB
      generalize smU (nU W T) n = ST at *
      generalize smU (nU W 0) n = S0 at *
      have HRO : Hid (∀ W', Calls Tryd.prog 11 #[.int .i64 (ST : Int), .int .i64 (S0 : Int)] W' fun e w' => ∃ r, e = .returned r ∧ LR w' r S0 (ST : Int) ∧ Below W'.heap.size W' w') := fun W' => RatioOf_to (ST : Int) S0 S0 (ST : Int) W' (by omega) (by omega) hs1.1 (by omega) hs1.1 rfl
      obtain ⟨NN, hNN⟩ : ∃ NN : Int, NN = ((ST / Nat.gcd ST S0 : Nat) : Int) := ⟨_, rfl⟩
      obtain ⟨DD, hDD⟩ : ∃ DD : Int, DD = ((S0 / Nat.gcd ST S0 : Nat) : Int) := ⟨_, rfl⟩
      have HTD : Hid (∀ W' v', LR W' v' S0 (ST : Int) → Calls Tryd.prog 10 #[v'] W' fun e w' => e = .returned (.tuple #[.agg #[.int .i64 NN, .int .i64 DD], .bool true]) ∧ Below W'.heap.size W' w') := fun W' v' hv => by
        rw [hNN, hDD]
        exact Told_lr v' ST S0 W' hv (by omega) (by omega)
      rw [← hNN, ← hDD] at HME
      clear hNN hDD hs1 hs2
      have hTI : (T : Int) ≤ 4 := by omega
      have hT0 : (0 : Int) ≤ (T : Int) := by omega
      go_wp2_with fail
      refine HPF3.out.mono ?_
      rintro e w4 ⟨rfl, hb4⟩
      have HB4 := Hid.mk' (below_chain HB3.out hb4)
      clear hb4 HPF3 c0 c1 HB3 HPF
      obtain ⟨c0, c1⟩ := HC.out w4 HB4.out
      go_wp2_with fail
      refine (HPR.out w4 HB4.out).mono ?_
      rintro e wp ⟨pv, psv, rfl, ⟨pvs, hp1⟩, ⟨ptv, prv, hp2⟩, hbp⟩
      obtain ⟨pa, pc, rfl⟩ := hp1.form
      obtain ⟨qa, qc', rfl⟩ := hp2.form
      have HBP := Hid.mk' (below_chain HB4.out hbp)
      have HMC := Hid.mk' (HME.out wp _ _ _ _ _ HBP.out hp1 hp2)
      clear hp1 hp2 hbp HPR HME c0 c1 HB4
      go_wp2_with fail
      refine HMC.out.mono ?_
      rintro e wm ⟨rfl, hbm⟩
      have HBM := Hid.mk' (below_chain HBP.out hbm)
      clear hbm HMC HBP
      have h9 : Below wm.heap.size wm (wm.alloc (.cells #[.int .i64 NN, .int .i64 DD] 32)) := (Below.refl _ _).alloc (Nat.le_refl _) _
      have HFB : Hid (FrB wm (wm.alloc (.cells #[.int .i64 NN, .int .i64 DD] 32)) wm.heap.size NN DD) := frb_late (Below.refl _ _) NN DD
      have HB5 := Hid.mk' (below_chain HBM.out h9)
      obtain ⟨w5, hw5⟩ : ∃ w5, w5 = wm.alloc (.cells #[.int .i64 NN, .int .i64 DD] 32) := ⟨_, rfl⟩
      obtain ⟨B1, hB1⟩ : ∃ B1, B1 = wm.heap.size := ⟨_, rfl⟩
      clear h9
      go_upto_region 5 with fail
      rw [← hw5] at HFB HB5 ⊢
      rw [← hB1] at HFB ⊢
      clear hw5 hB1
      obtain ⟨c0, c1⟩ := HC.out w5 HB5.out
      have d1 := (HQT.out w5 HB5.out).1
      go_upto_region 6 with fail
      clear c0 c1 d1
      have hcD : Below w5.heap.size w5 w5.drew := (Below.refl _ _).drew
      have hcA : Below w5.heap.size w5 ((w5.alloc (.cells #[.int .i64 0, .int .i64 0] 32)).drew) := ((Below.refl _ _).alloc (Nat.le_refl _) _).drew
      have hc0' : Below w5.heap.size w5 w5 := Below.refl _ _
      have HKS : Hid (∀ W', Below w5.heap.size w5 W' → W'.cell? ⟨w.heap.size, 0, none⟩ = some (.slice (some ⟨b, o, none⟩) (T + 1) cap) ∧ W'.cell? ⟨b, o, none⟩ = some (.slice (some ⟨rb, ro, none⟩) n rc)) := fun W' hb => ⟨(HC.out W' (below_chain HB5.out hb)).1, (HR0.out W' (below_chain HB5.out hb)).1⟩
      have HSU1 : Hid (∀ W', Below w5.heap.size w5 W' → Calls Tryd.prog 12 #[.slice (some ⟨qb, qo, none⟩) n qc] W' fun e w' => e = .returned (.int .i64 (ST : Int)) ∧ w' = W') := fun W' hb => (HQT.out W' (below_chain HB5.out hb)).2
      have HSU2 : Hid (∀ W', Below w5.heap.size w5 W' → Calls Tryd.prog 12 #[.slice (some ⟨rb, ro, none⟩) n rc] W' fun e w' => e = .returned (.int .i64 (S0 : Int)) ∧ w' = W') := fun W' hb => (HR0.out W' (below_chain HB5.out hb)).2
      have aA0 : ((w5.alloc (.cells #[.int .i64 0, .int .i64 0] 32)).drew).cell? ⟨w5.heap.size, 0, none⟩ = some (.int .i64 0) := by show (w5.alloc (.cells #[.int .i64 0, .int .i64 0] 32)).cell? _ = _; simp
      have aA1 : ((w5.alloc (.cells #[.int .i64 0, .int .i64 0] 32)).drew).cell? ⟨w5.heap.size, 1, none⟩ = some (.int .i64 0) := by show (w5.alloc (.cells #[.int .i64 0, .int .i64 0] 32)).cell? _ = _; simp
      have aA2 : ((w5.alloc (.cells #[.int .i64 0, .int .i64 0] 32)).drew).frozen? ⟨w5.heap.size, 0, none⟩ = false := by show (w5.alloc (.cells #[.int .i64 0, .int .i64 0] 32)).frozen? _ = _; simp
      have aA3 : ((w5.alloc (.cells #[.int .i64 0, .int .i64 0] 32)).drew).frozen? ⟨w5.heap.size, 1, none⟩ = false := by show (w5.alloc (.cells #[.int .i64 0, .int .i64 0] 32)).frozen? _ = _; simp
      go_cut [7] from 38 (fun s wx => ∃ B : Nat, s = .pointer (some ⟨B, 0, none⟩) ∧ Hid (FrB w5 wx B NN DD))
      case first =>
        go_region_held3 (fun W' => W'.cell? ⟨w.heap.size, 0, none⟩ = some (.slice (some ⟨b, o, none⟩) (T + 1) cap) ∧ W'.cell? ⟨b, o, none⟩ = some (.slice (some ⟨rb, ro, none⟩) n rc))
          (first | exact HKS.out _ hcD | exact HKS.out _ hcA | exact HKS.out _ hc0' | exact HKS.out _ hB7 | exact HKS.out _ hB6 | exact HKS.out _ hcT | exact HKS.out _ (hB7.alloc hB7.size _) | exact HKS.out _ F0.out.below | exact HKS.out _ F1.out.below | exact HKS.out _ F2.out.below)
          (first
            | (go_at_call 10; refine (HTD.out _ _ ?hlr).mono ?_; (case hlr => first | exact HR6.out | exact LR.later HR6.out ((Below.refl _ _).alloc (Nat.le_refl _) _)); rintro e w7 ⟨rfl, hb7⟩; have hB7 : Below w5.heap.size w5 w7 := (by first | exact below_chain hB6 hb7 | exact below_chain hcT hb7); (try (have u0 : w7.cell? ⟨w5.heap.size, 0, none⟩ = some (.int .i64 0) := (by rw [hb7.cell (cell_lt q0)]; exact q0))); (try (have u1 : w7.cell? ⟨w5.heap.size, 1, none⟩ = some (.int .i64 0) := (by rw [hb7.cell (cell_lt q1)]; exact q1))); (try (have u2 : w7.frozen? ⟨w5.heap.size, 0, none⟩ = false := (by rw [hb7.frozen (cell_lt q0)]; exact q2))); (try (have u3 : w7.frozen? ⟨w5.heap.size, 1, none⟩ = false := (by rw [hb7.frozen (cell_lt q1)]; exact q3))); (try (have v0 : w7.cell? ⟨w6.heap.size, 0, none⟩ = some (.int .i64 0) := (by rw [hb7.cell (cell_lt t0)]; exact t0))); (try (have v1 : w7.cell? ⟨w6.heap.size, 1, none⟩ = some (.int .i64 0) := (by rw [hb7.cell (cell_lt t1)]; exact t1))); (try (have v2 : w7.frozen? ⟨w6.heap.size, 0, none⟩ = false := (by rw [hb7.frozen (cell_lt t0)]; exact t2))); (try (have v3 : w7.frozen? ⟨w6.heap.size, 1, none⟩ = false := (by rw [hb7.frozen (cell_lt t1)]; exact t3))); have F0 : Hid (FrB w5 (w7.alloc (.cells #[.int .i64 NN, .int .i64 DD] 32)) w7.heap.size NN DD) := frb_late hB7 NN DD; (try (have F1 : Hid (FrB w5 ((w7.setCell ⟨w5.heap.size, 0, none⟩ (.int .i64 NN)).setCell ⟨w5.heap.size, 1, none⟩ (.int .i64 DD)) w5.heap.size NN DD) := frb_soon hB7 (Nat.le_refl _) u0 u1 NN DD)); (try (have F2 : Hid (FrB w5 ((w7.setCell ⟨w6.heap.size, 0, none⟩ (.int .i64 NN)).setCell ⟨w6.heap.size, 1, none⟩ (.int .i64 DD)) w6.heap.size NN DD) := frb_soon hB7 hB6.size v0 v1 NN DD)); clear hb7)
            | (go_at_call 11; refine (HRO.out _).mono ?_; rintro e w6 ⟨rr, rfl, hrr, hb6⟩; obtain ⟨s6, x6, l6, c6, y6, m6, k6, rfl⟩ := hrr.sl; have hB6 : Below w5.heap.size w5 w6 := (by first | exact below_chain hcD hb6 | exact below_chain hcA hb6); (try (have q0 : w6.cell? ⟨w5.heap.size, 0, none⟩ = some (.int .i64 0) := (by rw [hb6.cell (cell_lt aA0)]; exact aA0))); (try (have q1 : w6.cell? ⟨w5.heap.size, 1, none⟩ = some (.int .i64 0) := (by rw [hb6.cell (cell_lt aA1)]; exact aA1))); (try (have q2 : w6.frozen? ⟨w5.heap.size, 0, none⟩ = false := (by rw [hb6.frozen (cell_lt aA0)]; exact aA2))); (try (have q3 : w6.frozen? ⟨w5.heap.size, 1, none⟩ = false := (by rw [hb6.frozen (cell_lt aA1)]; exact aA3))); have HR6 := Hid.mk' hrr; have t0 : (w6.alloc (.cells #[.int .i64 0, .int .i64 0] 32)).cell? ⟨w6.heap.size, 0, none⟩ = some (.int .i64 0) := (by simp); have t1 : (w6.alloc (.cells #[.int .i64 0, .int .i64 0] 32)).cell? ⟨w6.heap.size, 1, none⟩ = some (.int .i64 0) := (by simp); have t2 : (w6.alloc (.cells #[.int .i64 0, .int .i64 0] 32)).frozen? ⟨w6.heap.size, 0, none⟩ = false := (by simp); have t3 : (w6.alloc (.cells #[.int .i64 0, .int .i64 0] 32)).frozen? ⟨w6.heap.size, 1, none⟩ = false := (by simp); have hcT : Below w5.heap.size w5 (w6.alloc (.cells #[.int .i64 0, .int .i64 0] 32)) := hB6.alloc hB6.size _; clear hrr hb6)
            | (go_at_call 12; (have hz7 := hbw7; clear hz7); refine (HSU2.out _ ?hct).mono ?_; (case hct => first | exact hcD | exact hcA); rintro e wt ⟨rfl, hwt⟩; rw [hwt]; clear hwt)
            | (go_at_call 12; refine (HSU1.out _ ?hct).mono ?_; (case hct => first | exact hcD | exact hcA); rintro e wt ⟨rfl, hwt⟩; rw [hwt]; clear hwt; have hbw7 : True := trivial))
        all_goals
          go_wp2_with fail
          go_meet
          first | exact ⟨_, rfl, F0⟩ | exact ⟨_, rfl, F1⟩ | exact ⟨_, rfl, F2⟩
      case rest =>
      obtain ⟨B2, rfl, HF2⟩ := hcut
      have HFC := Hid.mk' (HFB.out.later HF2.out.below)
      have e0 := HFC.out.c0
      have e1 := HFC.out.c1
      have e2 := HF2.out.c0
      have e3 := HF2.out.c1
      have HBE := Hid.mk' (below_chain HB5.out HF2.out.below)
      clear aA0 aA1 aA2 aA3 hcD hcA hc0' HKS HSU1 HSU2 HRO HTD HFB
      go_wp2_with fail
      go_ret
      exact ⟨rfl, HEND.out _ HBE.out⟩
    · have hpos : (0 : Int) < (((prF L ns W T R rn P).1 : Nat) : Int) := by omega
      generalize ((prF L ns W T R rn P).1 : Nat) = CE at *
      generalize (prF L ns W T R rn P).2 = AT at *
      clear hz
      go_wp2_with fail
      refine HPF3.out.mono ?_
      rintro e w4 ⟨rfl, hb4⟩
      have HB4 := Hid.mk' (below_chain HB3.out hb4)
      clear hb4 HPF3
      go_wp2_with fail
      go_ret
      exact ⟨rfl, HEND.out _ HB4.out⟩
end Go.Proofs.YthomgmhmbalnbaaDoor

/- What the rows' condition on package variables gives a walk: three sentinels. -/
namespace Go.Proofs.YthomgmhmbalnbaaDoor
open Go.ChangeShapes Go.WideShapes Go.RowKit

theorem Tryd.own : ownKnob Tryd.prog.godebug = none := by kernel_rfl
theorem Tryd.star : ("*" ++ "errors.errorString" : String) = "*errors.errorString" := by decide
theorem Tryd.rowE (u : TypeId) (h : Tryd.prog.typeName? 3 u = some "*errors.errorString") : u = 126 :=
  typeName_ptr_named (nm := "errors.errorString") (by rw [Tryd.star]; kernel_rfl) (by kernel_rfl) (by decide) u (by rw [Tryd.star]; exact h)
theorem Tryd.cellsE : Tryd.prog.cellsOf 143 = 1 := by kernel_rfl
theorem Tryd.cellsS : Tryd.prog.cellsOf 9 = 1 := by kernel_rfl
theorem Tryd.g1 : Tryd.prog.globalNamed "demon/api.ErrBound" = some 0 := by kernel_rfl
theorem Tryd.g2 : Tryd.prog.globalNamed "demon/api.ErrShape" = some 1 := by kernel_rfl
theorem Tryd.g7 : Tryd.prog.globalNamed "demon/api.ErrKind" = some 2 := by kernel_rfl

/-- Any number of listed sentinels of one type: each one's pointer, text and row; no two are one. -/
theorem laid_list {P : Program} {W : World} {nm : String} {ti tp te ts : TypeId} {ms : Array (String × TypeId)} {f : Field}
    (hi : P.underlying ti = some (.interface ms)) (hrow : ∀ u, P.typeName? 3 u = some nm → u = tp)
    (hp : P.underlying tp = some (.pointer te)) (he : P.underlying te = some (.struct #[f])) (hft : f.type = ts) (hfo : f.offset = 0) (hs : P.underlying ts = some .string) (hc : P.cellsOf te = 1) (hcs : P.cellsOf ts = 1) :
    ∀ (L : List (String × List UInt8)) (ps : List MemPlace), (∀ x, x ∈ L → ∃ g, P.globalNamed x.1 = some g ∧ (P.globals[g]?).map (·.type) = some ti) →
      DataW.LaidVars P W (L.map fun x => (x.1, .iface nm (.ptr (.agg [.lit (.string x.2)])))) ps → ps.Nodup →
      (∀ b off, MemPlace.cell b off ∈ ps → (∃ c t, W.heap[b]? = some (.cells c t (0, 0))) ∧ ∀ u v, W.cell? ⟨b, off, none⟩ = some (.iface u v) → Value.okWide P W .any 0 u v) →
      ∃ a : Nat → Addr, (∀ i x, L[i]? = some x → W.var? P x.1 = some #[.iface tp (.pointer (some (a i)))] ∧ (∃ s, W.cell? (a i) = some (.string s) ∧ s.data.toList = x.2) ∧
          (∃ c t, W.heap[(a i).block]? = some (.cells c t (0, 0))) ∧ MemPlace.cell (a i).block (a i).off ∈ ps) ∧
        ∀ i j, i < L.length → j < L.length → i ≠ j → a i ≠ a j := by
  intro L
  induction L with
  | nil => intro ps _ _ _ _; exact ⟨fun _ => default, fun i x h => by simp at h, fun i j h => by simp at h⟩
  | cons x r ih =>
    intro ps hgs hv hnd hrows
    obtain ⟨n, text⟩ := x
    obtain ⟨g0, t0, cs0, f0, p0, q0, hg0, ht0, hv0, hd0, hvr, e0⟩ := hv
    obtain ⟨g, hg, ht⟩ := hgs (n, text) (List.mem_cons_self ..)
    obtain rfl := Option.some.inj (hg.symm.trans hg0)
    obtain rfl := Option.some.inj (ht.symm.trans ht0)
    subst e0
    obtain ⟨l0⟩ := cs0
    have ok0 : ∀ u v, l0 = [.iface u v] → Value.okWide P W .any 0 u v := fun u v e => by
      subst e
      exact (hrows g 0 (by simp [MemPlace.row])).2 u v (by simpa using World.var?_cell hg0 hv0 0)
    obtain ⟨a0, s0, rfl, hc0, hs0, hz0, rfl⟩ := errorString_of_trod hi hrow hp he hft hfo hs hc hcs hd0 ok0
    obtain ⟨c0, tt0, hb0⟩ := (hrows a0.block a0.off (by simp [MemPlace.row])).1
    have hnq : q0.Nodup := List.Nodup.sublist (List.sublist_append_right _ _) hnd
    obtain ⟨a', ha', hne'⟩ := ih q0 (fun x hx => hgs x (List.mem_cons_of_mem _ hx)) hvr hnq (fun b off hm => hrows b off (List.mem_append_right _ hm))
    have hnot : MemPlace.cell a0.block a0.off ∉ q0 := by
      intro hm
      have := (List.nodup_append.1 hnd).2.2
      exact this (.cell a0.block a0.off) (by simp [MemPlace.row]) (.cell a0.block a0.off) hm rfl
    refine ⟨fun i => match i with | 0 => a0 | k + 1 => a' k, ?_, ?_⟩
    · intro i x hx
      cases i with
      | zero =>
        simp only [List.getElem?_cons_zero, Option.some.injEq] at hx
        subst hx
        exact ⟨hv0, ⟨s0, hc0, hs0⟩, ⟨c0, tt0, hb0⟩, by simp [MemPlace.row]⟩
      | succ k =>
        simp only [List.getElem?_cons_succ] at hx
        obtain ⟨h1, h2, h3, h4⟩ := ha' k x hx
        exact ⟨h1, h2, h3, List.mem_append_right _ h4⟩
    · have far : ∀ k, k < r.length → a0 ≠ a' k := fun k hk e => by
        obtain ⟨_, _, _, h4⟩ := ha' k r[k] (by simp [hk])
        rw [← e] at h4
        exact hnot h4
      intro i j hi' hj' hij
      cases i with
      | zero =>
        cases j with
        | zero => exact absurd rfl hij
        | succ k => exact far k (by simpa using hj')
      | succ m =>
        cases j with
        | zero => exact (far m (by simpa using hi')).symm
        | succ k => exact hne' m k (by simpa using hi') (by simpa using hj') (by omega)

/-- The names and texts, in the rows' order. -/
def threeNames : List (String × List UInt8) := [("demon/api.ErrBound", [100, 101, 109, 111, 110, 58, 32, 98, 111, 117, 110, 100]), ("demon/api.ErrShape", [100, 101, 109, 111, 110, 58, 32, 115, 104, 97, 112, 101]), ("demon/api.ErrKind", [100, 101, 109, 111, 110, 58, 32, 107, 105, 110, 100])]
def laidAll : List (String × DataW Unit) := [("demon/api.ErrBound", Rows.laid_demon_api_ErrBound), ("demon/api.ErrShape", Rows.laid_demon_api_ErrShape), ("demon/api.ErrKind", Rows.laid_demon_api_ErrKind)]
theorem laidAll_parts (W : World) : laidMetH Tryd.prog laidAll W = laidMet Tryd.prog (threeNames.map fun x => (x.1, .iface "*errors.errorString" (.ptr (.agg [.lit (.string x.2)])))) W := by kernel_rfl

theorem var_at {W : World} {n : String} {g : Nat} {v : Value} (hg : Tryd.prog.globalNamed n = some g) (h : W.var? Tryd.prog n = some #[v]) : W.cell? ⟨g, 0, none⟩ = some v := by
  simpa using World.var?_cell hg h 0

theorem errs_of_laid {W : World} (h : laidMetH Tryd.prog laidAll W) : ∃ a : Nat → Addr, Errs W a := by
  rw [laidAll_parts] at h
  obtain ⟨ps, hv, hnd, hrows⟩ := h
  obtain ⟨a, ha, hne⟩ := laid_list Tryd.underlying34 Tryd.rowE Tryd.underlying126 Tryd.underlying143 rfl rfl Tryd.underlying9 Tryd.cellsE Tryd.cellsS threeNames ps
    (fun x hx => by
      simp only [threeNames, List.mem_cons, List.not_mem_nil, or_false] at hx
      rcases hx with rfl | rfl | rfl
      · exact ⟨_, Tryd.g1, by kernel_rfl⟩
      · exact ⟨_, Tryd.g2, by kernel_rfl⟩
      · exact ⟨_, Tryd.g7, by kernel_rfl⟩) hv hnd hrows
  refine ⟨fun i => if i = 7 then a 2 else a (i - 1), ⟨var_at Tryd.g1 (ha 0 _ rfl).1, var_at Tryd.g2 (ha 1 _ rfl).1, var_at Tryd.g7 (ha 2 _ rfl).1, fun i hi => ?_, fun i j hi hj hij => ?_⟩⟩
  · rcases (show i = 1 ∨ i = 2 by omega) with rfl | rfl
    · exact (ha 0 _ rfl).2.2.1
    · exact (ha 1 _ rfl).2.2.1
  · show (if i = 7 then a 2 else a (i - 1)) ≠ (if j = 7 then a 2 else a (j - 1))
    rw [if_neg (by omega), if_neg (by omega)]
    exact hne (i - 1) (j - 1) (by simp [threeNames]; omega) (by simp [threeNames]; omega) (by omega)

/-- The door's own heap meets the condition. -/
theorem door_met (os : Os) (args : Array Value) : laidMetH Tryd.prog laidAll ((World.doorLaid Tryd.prog 66 os).forCall (fun _ _ => 0) ⟨#[], args, []⟩).memory := by
  rw [laidAll_parts]
  exact laidMet_of_run' 8 (by kernel_rfl) (by kernel_rfl)
end Go.Proofs.YthomgmhmbalnbaaDoor

/- A parameter of type []int opened. -/
namespace Go.Proofs.YthomgmhmbalnbaaDoor
open Go.ChangeShapes Go.WideShapes Go.ChangeAt Go.RowKit Go.Joins Go.Deep

theorem Tryd.laidOut : laidOutB Tryd.prog = true := by kernel_rfl
theorem Tryd.cellsInt : Tryd.prog.cellsOf 3 = 1 := by kernel_rfl
theorem Tryd.cellsInts : Tryd.prog.cellsOf 39 = 1 := by kernel_rfl

set_option maxRecDepth 100000 in
/-- What a parameter of type []int gives: its slice, its numbers. -/
theorem open_nums {H : Type} {enc : TypeId × Value → H} {W : World} {base : Nat} {v : Value} {d : DataW H} {p : List MemPlace} (hv : Value.okWide Tryd.prog W .any base 39 v)
    (h : DataW.Trod enc Tryd.prog W 0 (fun _ => true) true 39 v d p) :
    ∃ (ad : Option Addr) (n cap : Nat) (z : Nat → Int), v = .slice ad n cap ∧ n ≤ maxLen ∧ NumsAt W (.slice ad n cap) n z := by
  obtain ⟨ad, n, cap, rfl⟩ := okWide_slice Tryd.underlying39 hv
  obtain ⟨fuel, hf⟩ := h
  rcases open_ints Tryd.underlying39 Tryd.underlying3 Tryd.cellsInt hf with ⟨hc, _⟩ | ⟨a, len, cap', zs, hc, _, hl, hm, hz, _, hcell, _⟩
  · simp [Value.cells] at hc
    obtain ⟨rfl, rfl, rfl⟩ := hc
    exact ⟨none, 0, 0, fun _ => 0, rfl, Nat.zero_le _, Or.inl ⟨none, 0, rfl, rfl⟩⟩
  · simp [Value.cells] at hc
    obtain ⟨rfl, rfl, rfl⟩ := hc
    simp only [if_true] at hz
    rcases Nat.eq_zero_or_pos n with rfl | hpos
    · exact ⟨some a, 0, cap, fun _ => 0, rfl, Nat.zero_le _, Or.inl ⟨some a, cap, rfl, rfl⟩⟩
    · obtain ⟨b, o, spot⟩ := a
      have hspot : spot = none := by simpa [Addr.add] using World.cell?_spot (hcell 0 (by omega))
      subst hspot
      refine ⟨_, n, cap, fun i => zs.getD i 0, rfl, by omega, Or.inr ⟨b, o, cap, rfl, hpos, fun i hi => ?_⟩⟩
      have := hcell i (by omega)
      rw [Go.Proofs.YthomgmhmbalnbaaDoor.add_plain] at this
      exact this
end Go.Proofs.YthomgmhmbalnbaaDoor

/- A parameter of type [][]int opened; how many numbers it holds at the most. -/
namespace Go.Proofs.YthomgmhmbalnbaaDoor
open Go.ChangeShapes Go.WideShapes Go.ChangeAt Go.RowKit Go.Joins Go.Deep

theorem bulk_one {H : Type} (d : DataW H) : 1 ≤ Rows.uptoBulk d := by
  cases d with
  | lit l => cases l <;> simp [Rows.uptoBulk]
  | _ => simp [Rows.uptoBulk]
theorem bulk_len {H : Type} : ∀ l : List (DataW H), l.length ≤ Rows.uptoBulkAll l
  | [] => by simp [Rows.uptoBulkAll]
  | x :: r => by
    have h1 := bulk_one x
    have h2 := bulk_len r
    simp only [Rows.uptoBulkAll, List.length_cons]
    omega
theorem bulk_mem {H : Type} {d : DataW H} : ∀ {l : List (DataW H)}, d ∈ l → Rows.uptoBulk d ≤ Rows.uptoBulkAll l
  | x :: r, h => by
    simp only [Rows.uptoBulkAll]
    rcases List.mem_cons.1 h with rfl | h'
    · omega
    · have := bulk_mem h'; omega
theorem bulk_append {H : Type} : ∀ l r : List (DataW H), Rows.uptoBulkAll (l ++ r) = Rows.uptoBulkAll l + Rows.uptoBulkAll r
  | [], r => by simp [Rows.uptoBulkAll]
  | x :: l, r => by simp only [List.cons_append, Rows.uptoBulkAll, bulk_append l r]; omega
theorem bulk_sum {H : Type} (f : Nat → DataW H) (L : Nat → Nat) : ∀ n, (∀ r, r < n → L r ≤ Rows.uptoBulk (f r)) → sumT L n ≤ Rows.uptoBulkAll ((List.range n).map f)
  | 0, _ => Nat.zero_le _
  | n + 1, h => by
    have h1 := bulk_sum f L n (fun r hr => h r (by omega))
    have h2 := h n (by omega)
    show sumT L n + L n ≤ _
    rw [List.range_succ, List.map_append, bulk_append]
    simp only [List.map_cons, List.map_nil, Rows.uptoBulkAll]
    omega

set_option maxRecDepth 100000 in
theorem open_table {H : Type} {enc : TypeId × Value → H} {W : World} {base : Nat} {v : Value} {d : DataW H} {p : List MemPlace} (hv : Value.okWide Tryd.prog W .any base 22 v)
    (h : DataW.Trod enc Tryd.prog W 0 (fun _ => true) true 22 v d p) :
    ∃ (ad : Option Addr) (R cap : Nat) (vs : Nat → Value) (ns : Nat → Nat) (zs : Nat → Nat → Int), v = .slice ad R cap ∧ R ≤ maxLen ∧ TabAt W (.slice ad R cap) R vs ns zs ∧ sumT ns R ≤ Rows.uptoBulk d := by
  obtain ⟨ad, R, cap, rfl⟩ := okWide_slice Tryd.underlying22 hv
  obtain ⟨fuel, hf⟩ := h
  rcases open_int_rows Tryd.underlying22 Tryd.underlying39 Tryd.underlying3 Tryd.cellsInts Tryd.cellsInt hf with ⟨hc, _⟩ | ⟨a, len, cap', A, L, C, Z, hc, _, hl, hm, hx, hr⟩
  · simp [Value.cells] at hc
    obtain ⟨rfl, rfl, rfl⟩ := hc
    exact ⟨none, 0, 0, fun _ => .slice none 0 0, fun _ => 0, fun _ _ => 0, rfl, Nat.zero_le _, Or.inl ⟨none, 0, rfl, rfl⟩, Nat.zero_le _⟩
  · simp [Value.cells] at hc
    obtain ⟨rfl, rfl, rfl⟩ := hc
    simp only [Prod.mk.injEq] at hx
    obtain ⟨rfl, _⟩ := hx
    have hbulk : sumT L R ≤ Rows.uptoBulk (DataW.slice ((List.range R).map fun r => intRow .i64 (A r) (L r) (Z r)) ((List.range (cap - R)).map fun j => intRow .i64 (A (R + j)) (L (R + j)) (Z (R + j))) : DataW H) := by
      have h1 := bulk_sum (H := H) (fun r => intRow .i64 (A r) (L r) (Z r)) L R (fun r hr' => by
        obtain ⟨_, h2, _, h4, _, h6, _⟩ := hr r (by omega)
        cases hA : A r with
        | none => have := h6 hA; omega
        | some a' =>
          have h7 := bulk_len (H := H) (lits .i64 ((Z r).take (L r)))
          have h8 : (lits (H := H) .i64 ((Z r).take (L r))).length = L r := by simp [lits]; omega
          simp only [intRow, Rows.uptoBulk]
          omega)
      simp only [Rows.uptoBulk]
      omega
    rcases Nat.eq_zero_or_pos R with rfl | hpos
    · exact ⟨some a, 0, cap, fun _ => .slice none 0 0, L, fun _ _ => 0, rfl, Nat.zero_le _, Or.inl ⟨some a, cap, rfl, rfl⟩, hbulk⟩
    · obtain ⟨b, o, spot⟩ := a
      have hspot : spot = none := by simpa [Addr.add] using World.cell?_spot (hr 0 (by omega)).1
      subst hspot
      refine ⟨_, R, cap, fun r => .slice (A r) (L r) (C r), L, fun r i => (Z r).getD i 0, rfl, by omega, Or.inr ⟨b, o, cap, rfl, hpos, fun i hi => ?_⟩, hbulk⟩
      obtain ⟨h1, h2, _, h4, _, h6, h7⟩ := hr i (by omega)
      rw [Go.Proofs.YthomgmhmbalnbaaDoor.add_plain] at h1
      refine ⟨h1, ?_⟩
      rcases Nat.eq_zero_or_pos (L i) with h0 | h0
      · exact Or.inl ⟨A i, C i, by dsimp only; rw [h0], h0⟩
      · cases hA : A i with
        | none => have := h6 hA; omega
        | some a' =>
          obtain ⟨_, h8⟩ := h7 a' hA
          obtain ⟨b', o', spot'⟩ := a'
          have hs' : spot' = none := by simpa [Addr.add] using World.cell?_spot (h8 0 (by omega))
          subst hs'
          refine Or.inr ⟨b', o', C i, by dsimp only; rw [hA], h0, fun j hj => ?_⟩
          have := h8 j (by omega)
          rw [Go.Proofs.YthomgmhmbalnbaaDoor.add_plain] at this
          exact this
theorem bulk_bound {H : Type} {l : List (DataW H)} (hk : Rows.uptoSmall H l = true) : Rows.uptoBulkAll l ≤ 1048576 := of_decide_eq_true hk
end Go.Proofs.YthomgmhmbalnbaaDoor

/- A parameter of type demonref4.Process opened: its weights, its steps; how many numbers it holds at the most. -/
namespace Go.Proofs.YthomgmhmbalnbaaDoor
open Go.ChangeShapes Go.WideShapes Go.ChangeAt Go.RowKit Go.Joins Go.Deep

theorem Tryd.cellsProc : Tryd.prog.cellsOf 25 = 2 := by kernel_rfl
theorem Tryd.cellsTabs : Tryd.prog.cellsOf 22 = 1 := by kernel_rfl
set_option maxRecDepth 100000 in
theorem open_tab_at {H : Type} {enc : TypeId × Value → H} {W : World} {v : Value} {fuel : Nat} {x : DataW H × List MemPlace} (h : DataW.trod enc Tryd.prog W 0 (fun _ => true) true fuel 22 [v] = some x) :
    ∃ (ad : Option Addr) (R cap : Nat) (vs : Nat → Value) (ns : Nat → Nat) (zs : Nat → Nat → Int), v = .slice ad R cap ∧ R ≤ maxLen ∧ TabAt W (.slice ad R cap) R vs ns zs ∧ sumT ns R ≤ Rows.uptoBulk x.1 := by
  rcases open_int_rows Tryd.underlying22 Tryd.underlying39 Tryd.underlying3 Tryd.cellsInts Tryd.cellsInt h with ⟨hc, _⟩ | ⟨a, R, cap, A, L, C, Z, hc, _, hl, hm, hx, hr⟩
  · simp at hc
    subst hc
    exact ⟨none, 0, 0, fun _ => .slice none 0 0, fun _ => 0, fun _ _ => 0, rfl, Nat.zero_le _, Or.inl ⟨none, 0, rfl, rfl⟩, Nat.zero_le _⟩
  · simp at hc
    subst hc
    obtain ⟨d1, p1⟩ := x
    simp only [Prod.mk.injEq] at hx
    obtain ⟨rfl, _⟩ := hx
    have hbulk : sumT L R ≤ Rows.uptoBulk (DataW.slice ((List.range R).map fun r => intRow .i64 (A r) (L r) (Z r)) ((List.range (cap - R)).map fun j => intRow .i64 (A (R + j)) (L (R + j)) (Z (R + j))) : DataW H) := by
      have h1 := bulk_sum (H := H) (fun r => intRow .i64 (A r) (L r) (Z r)) L R (fun r hr' => by
        obtain ⟨_, h2, _, h4, _, h6, _⟩ := hr r (by omega)
        cases hA : A r with
        | none => have := h6 hA; omega
        | some a' =>
          have h7 := bulk_len (H := H) (lits .i64 ((Z r).take (L r)))
          have h8 : (lits (H := H) .i64 ((Z r).take (L r))).length = L r := by simp [lits]; omega
          simp only [intRow, Rows.uptoBulk]
          omega)
      simp only [Rows.uptoBulk]
      omega
    rcases Nat.eq_zero_or_pos R with rfl | hpos
    · exact ⟨some a, 0, cap, fun _ => .slice none 0 0, L, fun _ _ => 0, rfl, Nat.zero_le _, Or.inl ⟨some a, cap, rfl, rfl⟩, hbulk⟩
    · obtain ⟨b, o, spot⟩ := a
      have hspot : spot = none := by simpa [Addr.add] using World.cell?_spot (hr 0 (by omega)).1
      subst hspot
      refine ⟨_, R, cap, fun r => .slice (A r) (L r) (C r), L, fun r i => (Z r).getD i 0, rfl, by omega, Or.inr ⟨b, o, cap, rfl, hpos, fun i hi => ?_⟩, hbulk⟩
      obtain ⟨h1, h2, _, h4, _, h6, h7⟩ := hr i (by omega)
      rw [Go.Proofs.YthomgmhmbalnbaaDoor.add_plain] at h1
      refine ⟨h1, ?_⟩
      rcases Nat.eq_zero_or_pos (L i) with h0 | h0
      · exact Or.inl ⟨A i, C i, by dsimp only; rw [h0], h0⟩
      · cases hA : A i with
        | none => have := h6 hA; omega
        | some a' =>
          obtain ⟨_, h8⟩ := h7 a' hA
          obtain ⟨b', o', spot'⟩ := a'
          have hs' : spot' = none := by simpa [Addr.add] using World.cell?_spot (h8 0 (by omega))
          subst hs'
          refine Or.inr ⟨b', o', C i, by dsimp only; rw [hA], h0, fun j hj => ?_⟩
          have := h8 j (by omega)
          rw [Go.Proofs.YthomgmhmbalnbaaDoor.add_plain] at this
          exact this
set_option maxRecDepth 100000 in
theorem open_steps {H : Type} {enc : TypeId × Value → H} {W : World} {v : Value} {fuel : Nat} {x : DataW H × List MemPlace} (h : DataW.trod enc Tryd.prog W 0 (fun _ => true) true fuel 23 [v] = some x) :
    ∃ (ad : Option Addr) (T cap : Nat) (tv : Nat → Value) (R : Nat → Nat) (rv : Nat → Nat → Value) (rn : Nat → Nat → Nat) (P : Nat → Nat → Nat → Int), v = .slice ad T cap ∧ T ≤ maxLen ∧ StpAt W (.slice ad T cap) T tv R rv rn P ∧ ∀ t, t < T → R t ≤ maxLen ∧ sumT (rn t) (R t) ≤ Rows.uptoBulk x.1 := by
  rcases open_slice1 Tryd.underlying23 Tryd.cellsTabs h with ⟨hc, _⟩ | ⟨a, T, cap, m, n, V, D, Pl, hc, _, hl, hm, hmm, hx, hr⟩
  · simp at hc
    subst hc
    exact ⟨none, 0, 0, fun _ => .nilIface, fun _ => 0, fun _ _ => .nilIface, fun _ _ => 0, fun _ _ _ => 0, rfl, Nat.zero_le _, Or.inl ⟨none, 0, rfl, rfl⟩, fun t ht => by omega⟩
  · simp at hc
    subst hc
    simp only [if_true] at hmm
    subst hmm
    have each : ∀ r, r < T → ∃ y : Nat × (Nat → Value) × (Nat → Nat) × (Nat → Nat → Int), y.1 ≤ maxLen ∧ TabAt W (V r) y.1 y.2.1 y.2.2.1 y.2.2.2 ∧ sumT y.2.2.1 y.1 ≤ Rows.uptoBulk (D r) := fun r hr' => by
      obtain ⟨ad, R, c, vs, ns, zs, h1, h2, h3, h4⟩ := open_tab_at (hr r (by omega)).2
      exact ⟨(R, vs, ns, zs), h2, by rw [h1]; exact h3, h4⟩
    obtain ⟨y, hy⟩ := choose_lt each
    have hbk : ∀ r, r < T → Rows.uptoBulk (D r) ≤ Rows.uptoBulk x.1 := fun r hr' => by
      rw [hx]
      have h1 := bulk_mem (H := H) (d := D r) (l := (List.range T).map D) (List.mem_map.2 ⟨r, by simpa using hr', rfl⟩)
      simp only [Rows.uptoBulk]
      omega
    rcases Nat.eq_zero_or_pos T with rfl | hpos
    · exact ⟨some a, 0, m, V, fun _ => 0, fun _ _ => .nilIface, fun _ _ => 0, fun _ _ _ => 0, rfl, Nat.zero_le _, Or.inl ⟨some a, m, rfl, rfl⟩, fun t ht => by omega⟩
    · obtain ⟨b, o, spot⟩ := a
      have hspot : spot = none := by simpa [Addr.add] using World.cell?_spot (hr 0 (by omega)).1
      subst hspot
      refine ⟨_, T, m, V, fun t => (y t).1, fun t => (y t).2.1, fun t => (y t).2.2.1, fun t => (y t).2.2.2, rfl, by omega, Or.inr ⟨b, o, m, rfl, hpos, fun t ht => ⟨?_, (hy t ht).2.1⟩⟩, fun t ht => ⟨(hy t ht).1, Nat.le_trans (hy t ht).2.2 (hbk t ht)⟩⟩
      have := (hr t (by omega)).1
      rw [Go.Proofs.YthomgmhmbalnbaaDoor.add_plain] at this
      exact this
set_option maxRecDepth 100000 in
theorem open_process {H : Type} {enc : TypeId × Value → H} {W : World} {base : Nat} {v : Value} {d : DataW H} {p : List MemPlace} (hv : Value.okWide Tryd.prog W .any base 25 v)
    (h : DataW.Trod enc Tryd.prog W 0 (fun _ => true) true 25 v d p) :
    ∃ (wv : Value) (L : Nat) (vs : Nat → Value) (ns : Nat → Nat) (Z : Nat → Nat → Int) (sv : Value) (T : Nat) (tv : Nat → Value) (R : Nat → Nat) (rv : Nat → Nat → Value) (rn : Nat → Nat → Nat) (P : Nat → Nat → Nat → Int), v = .agg #[wv, sv] ∧ TabAt W wv L vs ns Z ∧ StpAt W sv T tv R rv rn P ∧ L ≤ maxLen ∧ T ≤ maxLen ∧ (∀ t, t < T → R t ≤ maxLen) ∧ (Rows.uptoBulk d ≤ 2000000 → sumT ns L ≤ 2000000 ∧ ∀ t, t < T → sumT (rn t) (R t) ≤ 2000000) := by
  obtain ⟨c0, c1, y0, y1, m, rfl, rfl, rfl, hy0, hy1⟩ := open_agg2 Tryd.underlying25 (by kernel_rfl) Tryd.cellsProc hv h
  obtain ⟨ad, L, cap, vs, ns, Z, rfl, hL, hT, hs⟩ := open_tab_at hy0
  obtain ⟨sd, T, sc, tv, R, rv, rn, P, rfl, hTm, hS, hR⟩ := open_steps hy1
  refine ⟨_, L, vs, ns, Z, _, T, tv, R, rv, rn, P, rfl, hT, hS, hL, hTm, fun t ht => (hR t ht).1, fun hb => ?_⟩
  simp only [Rows.uptoBulk, Rows.uptoBulkAll] at hb
  exact ⟨by omega, fun t ht => by have := (hR t ht).2; omega⟩
end Go.Proofs.YthomgmhmbalnbaaDoor
