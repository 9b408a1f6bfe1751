/- What the laws do with a cipher: fewKeys, cipher (a copy); the document's SameInts of lists of one length. -/
import Derived.Test.YtdlbnolnkmhdcaaDoorSkPerf
import Derived.Test.YtdlbnolnkmhdcaaDoorTabCopy
import Derived.Test.YtdlbnolnkmhdcaaDoorPackB
import Derived.Deep.DeepCutAuto
import Derived.Test.YtdlbnolnkmhdcaaDoorRows
import Derived.Test.YtdlbnolnkmhdcaaDoorErrs
import Derived.ChangeSame
import Derived.ChangeVars
import Derived.JoinedOf
import Derived.LaidLaws
import Derived.LaidHandle
import Derived.LaidMore
import Derived.Stop.Joined
import Derived.Test.YtdlbnolnkmhdcaaDoorInts
import Derived.Test.YtdlbnolnkmhdcaaDoorCards
import Derived.Test.YtdlbnolnkmhdcaaDoorTie
import Derived.SevenTiedAt
import Derived.ProofKit
import Derived.OpenShut
import Derived.ChangeOld
import Derived.Lib.SmallJoins
import Derived.Deep.Matrix
import Derived.Test.YtdlbnolnkmhdcaaDoorTab
import Derived.Deep.DeepHandedRow
import Derived.Deep.DeepWitnessRowRef
namespace Go.Proofs.YtdlbnolnkmhdcaaDoor
open Go.RowKit

set_option maxRecDepth 100000 in
set_option maxHeartbeats 1000000 in
theorem SameInts_gen (b o c b' o' c' n : Nat) (z y : Nat → Int) (w : World) (h : RowAt w b o n z) (h' : RowAt w b' o' n y) (hn : n ≤ 1000000) :
    Calls Tryd.prog 28 #[.slice (some ⟨b, o, none⟩) n c, .slice (some ⟨b', o', none⟩) n c'] w fun e w' => e = .returned (.bool (sameB z y n)) ∧ Below w.heap.size w w' := by
  have HR := Hid.mk' h
  have HK := Hid.mk' h'
  have hnn : ((n : Int) != (n : Int)) = false := by simp
  clear h h'
  go_enter Tryd.func28, Tryd.ntmps28
  go_wp2_with fail
  go_loopw [5] (fun i wr => ∃ k : Nat, k ≤ n ∧ i = .int .i64 k ∧ Hid (Below w.heap.size w wr) ∧ Hid (sameB z y k = true)) (fun i _ => n - (intOf i).toNat)
  case atStart => exact ⟨0, Nat.zero_le _, rfl, Below.refl _ _, rfl⟩
  case round =>
    obtain ⟨k, hk, rfl, HB, HS⟩ := hrel
    rcases Nat.lt_or_ge k n with h1 | h1
    · have hc := (HR.out.later HB.out) k h1
      have hd := (HK.out.later HB.out) k h1
      have hkn : (k : Int) < (n : Int) := by omega
      by_cases e : z k = y k
      · have HN := Hid.mk' (sameB_next HS.out e)
        rw [e] at hc
        generalize y k = x at *
        have hx : (x != x) = false := by simp
        clear e
        go_wp2_with fail
        go_region
        all_goals
          go_wp2_with fail
          exact ⟨⟨k + 1, h1, by go_num, HB.out.drew, HN⟩, by simp [intOf]; omega⟩
      · have HN := Hid.mk' (sameB_no e h1)
        have hx : (z k != y k) = true := by rw [bne_iff_ne]; exact e
        generalize y k = x at *
        generalize z k = x' at *
        clear e
        go_wp2_with fail
        go_region
        all_goals
          go_wp2_with fail
          go_ret
          exact ⟨by rw [HN.out]; rfl, HB.out.drew⟩
    · obtain rfl : k = n := by omega
      go_wp2_with fail
      go_ret
      exact ⟨by rw [HS.out]; rfl, HB.out⟩
theorem own_putS {w : World} {base : Nat} {t : TypeId} {sz : Nat} {v : Value} {n : Nat} {xs : List Value} (h : w.ownsRow base t sz v n xs) {a : Addr} (ha : a.block < base) (x : Value) : (w.setCell a x).ownsRow base t sz v n xs := by
  refine ⟨h.1, ?_⟩
  rcases h.2 with hn | ⟨g, cap, cur, hv, hg, hh, rest⟩
  · exact Or.inl hn
  · refine Or.inr ⟨g, cap, cur, hv, hg, ?_, rest⟩
    rw [Below.heap_setCell _ _ _ _ (fun e => by omega)]
    exact hh
/-- Few keys, few places. -/
def fewB (n R : Nat) (ns : Nat → Nat) : Bool := decide (n ≤ 100) && decide (R ≤ 40 ∧ sumT ns R ≤ 400)
set_option maxRecDepth 100000 in
set_option maxHeartbeats 1000000 in
theorem fewKeys_any (kv lv : Value) (n : Nat) (z : Nat → Int) (R : Nat) (vs : Nat → Value) (ns : Nat → Nat) (zs : Nat → Nat → Int) (w : World) (hk : NumsAt w kv n z) (hl : TabAt w lv R vs ns zs) (hn : n ≤ maxLen) (hR : R ≤ maxLen) (hs : sumT ns R ≤ 2000000) :
    Calls Tryd.prog 6 #[.agg #[kv, lv]] w fun e w' => e = .returned (.bool (fewB n R ns)) ∧ Below w.heap.size w w' := by
  obtain ⟨ka, kc, rfl⟩ := hk.form
  obtain ⟨la, lc, rfl⟩ := hl.form
  obtain ⟨w1, hw1⟩ : ∃ w1, w1 = w.alloc (.cells #[.slice ka n kc, .slice la R lc] 25) := ⟨_, rfl⟩
  have hb1 : Below w.heap.size w w1 := by rw [hw1]; exact (Below.refl _ _).alloc (Nat.le_refl _) _
  have HB1 := Hid.mk' hb1
  have HW1 := Hid.mk' hw1
  have hF := few_any _ R vs ns zs w1 (hl.later hb1) hR hs (decide (R ≤ 40 ∧ sumT ns R ≤ 400)) (by simp)
  clear hk hl hb1 hw1
  unfold maxLen at hn
  by_cases h : n ≤ 100
  · have hI : (n : Int) ≤ 100 := by omega
    have HE : Hid (fewB n R ns = decide (R ≤ 40 ∧ sumT ns R ≤ 400)) := by show _ = _; unfold fewB; rw [decide_eq_true h]; rfl
    generalize decide (R ≤ 40 ∧ sumT ns R ≤ 400) = q at *
    go_enter Tryd.func6, Tryd.ntmps6
    go_wp2_with fail
    rw [← HW1.out]
    refine hF.mono ?_
    rintro e w2 ⟨rfl, hb2⟩
    have HB2 := Hid.mk' (below_chS HB1.out hb2)
    clear hb2 hF
    go_wp2_with fail
    go_ret
    exact ⟨by rw [HE.out]; rfl, HB2.out⟩
  · have hI : decide ((n : Int) ≤ 100) = false := decide_eq_false (by omega)
    have HE : Hid (fewB n R ns = false) := by show _ = _; unfold fewB; rw [decide_eq_false h]; rfl
    clear hF
    go_enter Tryd.func6, Tryd.ntmps6
    go_wp2_with fail
    rw [← HW1.out]
    go_ret
    exact ⟨by rw [HE.out]; rfl, HB1.out⟩
set_option maxRecDepth 100000 in
set_option maxHeartbeats 4000000 in
theorem cipher_any (kv lv : Value) (n : Nat) (z : Nat → Int) (R : Nat) (vs : Nat → Value) (ns : Nat → Nat) (zs : Nat → Nat → Int) (w : World) (hk : NumsAt w kv n z) (hl : TabAt w lv R vs ns zs) (hn : n ≤ 100) (hR : R ≤ 40) (hs : sumT ns R ≤ 400) :
    Calls Tryd.prog 12 #[.agg #[kv, lv]] w fun e w' => ∃ kv' lv' vs', e = .returned (.agg #[kv', lv']) ∧ NumsAt w' kv' n z ∧ TabAt w' lv' R vs' ns zs ∧ Below w.heap.size w w' := by
  obtain ⟨ka, kc, rfl⟩ := hk.form
  obtain ⟨la, lc, rfl⟩ := hl.form
  obtain ⟨w1, hw1⟩ : ∃ w1, w1 = (w.alloc (.cells #[.slice ka n kc, .slice la R lc] 25)).alloc (.cells #[.slice none 0 0, .slice none 0 0] 36) := ⟨_, rfl⟩
  have hb1 : Below w.heap.size w w1 := by rw [hw1]; exact ((Below.refl _ _).alloc (Nat.le_refl _) _).alloc (by simp) _
  have hc0 : w1.cell? ⟨w.heap.size, 0, none⟩ = some (.slice ka n kc) := by rw [hw1]; go_simp
  have hc1 : w1.cell? ⟨w.heap.size, 1, none⟩ = some (.slice la R lc) := by rw [hw1]; go_simp
  have hd0 : w1.cell? ⟨w.heap.size + 1, 0, none⟩ = some (.slice none 0 0) := by rw [hw1]; go_simp
  have hd1 : w1.cell? ⟨w.heap.size + 1, 1, none⟩ = some (.slice none 0 0) := by rw [hw1]; go_simp
  have hfz : ∀ j, w1.frozen? ⟨w.heap.size + 1, j, none⟩ = false := fun j => by
    have h := World.frozen?_alloc_new (w.alloc (.cells #[.slice ka n kc, .slice la R lc] 25)) #[.slice none 0 0, .slice none 0 0] 36 j
    rw [World.size_alloc] at h
    rw [hw1]; exact h
  have HB1 := Hid.mk' hb1
  have HW1 := Hid.mk' hw1
  have HC : Hid (∀ W, Below w1.heap.size w1 W → W.cell? ⟨w.heap.size, 0, none⟩ = some (.slice ka n kc) ∧ W.cell? ⟨w.heap.size, 1, none⟩ = some (.slice la R lc)) := fun W hb => ⟨by rw [hb.cell (cell_lt hc0)]; exact hc0, by rw [hb.cell (cell_lt hc1)]; exact hc1⟩
  have HD : Hid (∀ W, Below w1.heap.size w1 W → (W.cell? ⟨w.heap.size + 1, 0, none⟩ = some (.slice none 0 0) ∧ W.cell? ⟨w.heap.size + 1, 1, none⟩ = some (.slice none 0 0)) ∧ W.frozen? ⟨w.heap.size + 1, 0, none⟩ = false ∧ W.frozen? ⟨w.heap.size + 1, 1, none⟩ = false) := fun W hb => ⟨⟨by rw [hb.cell (cell_lt hd0)]; exact hd0, by rw [hb.cell (cell_lt hd1)]; exact hd1⟩, by rw [hb.frozen (cell_lt hd0)]; exact hfz 0, by rw [hb.frozen (cell_lt hd1)]; exact hfz 1⟩
  have HIN := Hid.mk' (fun (W : World) (hb : Below w1.heap.size w1 W) => ints_row _ n z W ((hk.later hb1).later hb) (by omega))
  have HLI := Hid.mk' (fun (W : World) (hb : Below w1.heap.size w1 W) => lists_own _ R vs ns zs W ((hl.later hb1).later hb) hR hs)
  have HS1 : Hid (w1.heap.size = w.heap.size + 1 + 1) := by show _ = _; rw [hw1]; simp
  have hcur0 : Below w1.heap.size w1 w1 := Below.refl _ _
  have hcur : Below w1.heap.size w1 w1.drew := (Below.refl _ _).drew
  clear hk hl hb1 hw1 hd0 hd1 hfz hc0 hc1
  go_enter Tryd.func12, Tryd.ntmps12
  go_upto_region 1 with fail
  rw [← HW1.out]
  have hc0 := (HC.out w1 hcur0).1
  have hc1 := (HC.out w1 hcur0).2
  go_region_with (first
    | (go_at_call 26; refine (HLI.out _ hcu5).mono ?_; rintro e w6 ⟨v6, vs6, rfl, ho6, hn6, hb6⟩; obtain ⟨a6, c6, rfl, _⟩ := row_shape ho6; have hcu6 := below_chS hcu5 hb6; obtain ⟨⟨d0, d1⟩, f0, f1⟩ := HD.out _ hcu6; have HO6 := Hid.mk' (ho6.mono hcu5.size); have HN6 : Hid (∀ i, i < R → w6.ownsRow w1.heap.size 3 1 (vs6 i) (ns i) (numCells (zs i) (ns i))) := (fun i hi => (hn6 i hi).mono hcu5.size); have HV6 := Hid.mk' (own_past HV5.out hb6); clear hb6 ho6 hn6)
    | (go_at_call 13; refine (HIN.out _ hcur).mono ?_; rintro e w5 ⟨v5, rfl, hv5, hb5⟩; obtain ⟨a5, c5, rfl, _⟩ := row_shape hv5; have hcu5 := below_chS hcur hb5; have y1 := (HC.out _ hcu5).2; have HV5 := Hid.mk' (hv5.mono hcur.size); clear hb5 hv5))
  all_goals
    go_wp2_with fail
    have hs1 := HS1.out
    have HBE : Hid (Below w.heap.size w ((w6.setCell ⟨w.heap.size + 1, 0, none⟩ (.slice a5 n c5)).setCell ⟨w.heap.size + 1, 1, none⟩ (.slice a6 R c6))) := ((below_chS HB1.out hcu6).setCell (by simp) _).setCell (by simp) _
    have G0 : ((w6.setCell ⟨w.heap.size + 1, 0, none⟩ (.slice a5 n c5)).setCell ⟨w.heap.size + 1, 1, none⟩ (.slice a6 R c6)).cell? ⟨w.heap.size + 1, 0, none⟩ = some (.slice a5 n c5) := by rw [World.cell?_setCell_other _ _ _ _ (by simp)]; exact World.cell?_setCell_same _ _ _ d0
    have G1 : ((w6.setCell ⟨w.heap.size + 1, 0, none⟩ (.slice a5 n c5)).setCell ⟨w.heap.size + 1, 1, none⟩ (.slice a6 R c6)).cell? ⟨w.heap.size + 1, 1, none⟩ = some (.slice a6 R c6) := World.cell?_setCell_same _ _ _ (by rw [World.cell?_setCell_other _ _ _ _ (by simp)]; exact d1)
    have N0 : NumsAt ((w6.setCell ⟨w.heap.size + 1, 0, none⟩ (.slice a5 n c5)).setCell ⟨w.heap.size + 1, 1, none⟩ (.slice a6 R c6)) (.slice a5 n c5) n z := numsAt_own (own_putS (own_putS HV6.out (by simp; omega) _) (by simp; omega) _)
    have T0 : TabAt ((w6.setCell ⟨w.heap.size + 1, 0, none⟩ (.slice a5 n c5)).setCell ⟨w.heap.size + 1, 1, none⟩ (.slice a6 R c6)) (.slice a6 R c6) R vs6 ns zs := tabAt_of_row (own_putS (own_putS HO6.out (by simp; omega) _) (by simp; omega) _) (fun i hi => numsAt_own (own_putS (own_putS (HN6.out i hi) (by simp; omega) _) (by simp; omega) _))
    generalize (w6.setCell ⟨w.heap.size + 1, 0, none⟩ (.slice a5 n c5)).setCell ⟨w.heap.size + 1, 1, none⟩ (.slice a6 R c6) = W9 at *
    exact bodyPost_ret (v := .agg #[.slice a5 n c5, .slice a6 R c6]) (by simp [results, Tryd.results12, go_sem, G0, G1]) rfl ⟨_, _, vs6, rfl, N0, T0, HBE.out⟩
end Go.Proofs.YtdlbnolnkmhdcaaDoor

/- The law SecretShannon. -/
namespace Go.Proofs.YtdlbnolnkmhdcaaDoor
open Go.RowKit

theorem fewB_okN {n R : Nat} {ns : Nat → Nat} (h : fewB n R ns = true) : n ≤ 100 ∧ R ≤ 40 ∧ sumT ns R ≤ 400 ∧ ∀ i, i < R → ns i ≤ 400 := by
  unfold fewB at h
  simp only [Bool.and_eq_true, decide_eq_true_eq] at h
  refine ⟨h.1, h.2.1, h.2.2, fun i hi => ?_⟩
  have h2 : sumT ns i + ns i ≤ sumT ns R := sumT_mono ns hi
  omega
/-- Of a table of products Mutual tells a logarithm without parts. -/
theorem Mutual_none (a : Nat → Addr) (v : Value) (C T : Nat) (vs : Nat → Value) (Z : Nat → Nat → Int) (x y : Nat → Int) (w : World) (hE : Errs w a) (h : TabAt w v C vs (fun _ => T) Z) (hC : C ≤ 16) (hT : T ≤ 16) (h0 : tabErr C (fun _ => T) Z = 0) (hZ : ∀ i s, i < C → s < T → Z i s = x s * y i) (hx : ∀ s, s < T → 0 ≤ x s) (hy : ∀ i, i < C → 0 ≤ y i) :
    Calls Tryd.prog 17 #[v] w fun e w' => (∃ dn ad c, e = .returned (.tuple #[.agg #[.int .i64 dn, .slice ad 0 c], .nilIface])) ∧ Below w.heap.size w w' := by
  obtain ⟨ad, cap, rfl⟩ := h.form
  obtain ⟨N, hk, _⟩ := tabErr_okT h0
  refine (Mutual_ok a ad C cap N vs (fun _ => T) Z w hE h (by omega) (by rw [sumT_const]; exact Nat.le_trans (Nat.mul_le_mul hC hT) (by decide)) h0 hk).mono ?_
  rintro e w' ⟨dn, v', rfl, hl, hb⟩
  obtain ⟨l, h1, h2, _, _, hr⟩ := hl
  have h3 : ∀ q, atL l q = 0 := fun q => (h2 q).trans (mut_zero hk hZ hx hy q)
  rw [over_none h1 h3] at hr
  refine ⟨?_, hb⟩
  rcases hr.2 with ⟨rfl, _⟩ | ⟨g, c, cur, rfl, _⟩
  · exact ⟨dn, none, 0, rfl⟩
  · exact ⟨dn, _, c, rfl⟩
set_option maxRecDepth 100000 in
set_option maxHeartbeats 8000000 in
theorem Shn_few (a : Nat → Addr) (ka : Option Addr) (n kc : Nat) (z : Nat → Int) (la : Option Addr) (R lc : Nat) (vs : Nat → Value) (ns : Nat → Nat) (zs : Nat → Nat → Int) (ua : Option Addr) (k uc : Nat) (y : Nat → Int) (w : World) (hE : Errs w a) (hk : NumsAt w (.slice ka n kc) n z) (hm : n ≤ maxLen) (hl : TabAt w (.slice la R lc) R vs ns zs) (hM : R ≤ maxLen) (_hroom : Roomy R vs ns) (hu : NumsAt w (.slice ua k uc) k y) (_hkm : k ≤ maxLen) (hs : sumT ns R ≤ 2000000) (hfw : fewB n R ns = false) :
    Calls Tryd.prog 4 #[.agg #[.slice ka n kc, .slice la R lc], .slice ua k uc] w fun e w' => e = .returned (.bool true) ∧ Below w.heap.size w w' := by
  obtain ⟨w1, hw1⟩ : ∃ w1, w1 = w.alloc (.cells #[.slice ka n kc, .slice la R lc] 25) := ⟨_, rfl⟩
  have hb1 : Below w.heap.size w w1 := by rw [hw1]; exact (Below.refl _ _).alloc (Nat.le_refl _) _
  have hc0 : w1.cell? ⟨w.heap.size, 0, none⟩ = some (.slice ka n kc) := by rw [hw1]; go_simp
  have hc1 : w1.cell? ⟨w.heap.size, 1, none⟩ = some (.slice la R lc) := by rw [hw1]; go_simp
  have HB1 := Hid.mk' hb1
  have HW1 := Hid.mk' hw1
  have HC : Hid (∀ W, Below w1.heap.size w1 W → W.cell? ⟨w.heap.size, 0, none⟩ = some (.slice ka n kc) ∧ W.cell? ⟨w.heap.size, 1, none⟩ = some (.slice la R lc)) := fun W hb => ⟨by rw [hb.cell (cell_lt hc0)]; exact hc0, by rw [hb.cell (cell_lt hc1)]; exact hc1⟩
  have HE := Hid.mk' (fun (W : World) (hb : Below w1.heap.size w1 W) => (hE.below hb1).below hb)
  have HK := Hid.mk' (fun (W : World) (hb : Below w1.heap.size w1 W) => (hk.later hb1).later hb)
  have HL := Hid.mk' (fun (W : World) (hb : Below w1.heap.size w1 W) => (hl.later hb1).later hb)
  have HU := Hid.mk' (fun (W : World) (hb : Below w1.heap.size w1 W) => (hu.later hb1).later hb)
  have HP := Hid.mk' (pad_any a w1 (hE.below hb1))
  have HFK := Hid.mk' (fun (W : World) (hb : Below w1.heap.size w1 W) => fewKeys_any _ _ n z R vs ns zs W (HK.out W hb) (HL.out W hb) hm hM hs)
  clear hE hk hl hu hb1 hw1 hc0 hc1
  rw [hfw] at HFK
  clear hfw
  go_enter Tryd.func4, Tryd.ntmps4
  go_wp2_with fail
  rw [← HW1.out]
  refine HP.out.mono ?_
  rintro e w2 ⟨rfl, hb2⟩
  have HB2 := Hid.mk' hb2
  have c0 := (HC.out w2 hb2).1
  have c1 := (HC.out w2 hb2).2
  clear hb2
  go_wp2_with fail
  refine (HFK.out w2 HB2.out).mono ?_
  rintro e w3 ⟨rfl, hb3⟩
  have hb3' := below_chS HB2.out hb3
  have HB3 := Hid.mk' hb3'
  clear hb3 c0 c1
  have c0 := (HC.out w3 hb3').1
  have c1 := (HC.out w3 hb3').2
  clear hb3'
  go_wp2_with fail
  go_ret
  exact ⟨rfl, below_chS HB1.out HB3.out⟩
set_option maxRecDepth 100000 in
set_option maxHeartbeats 8000000 in
theorem Shn_long (a : Nat → Addr) (ka : Option Addr) (n kc : Nat) (z : Nat → Int) (la : Option Addr) (R lc : Nat) (vs : Nat → Value) (ns : Nat → Nat) (zs : Nat → Nat → Int) (ua : Option Addr) (k uc : Nat) (y : Nat → Int) (w : World) (hE : Errs w a) (hk : NumsAt w (.slice ka n kc) n z) (hm : n ≤ maxLen) (hl : TabAt w (.slice la R lc) R vs ns zs) (hM : R ≤ maxLen) (_hroom : Roomy R vs ns) (hu : NumsAt w (.slice ua k uc) k y) (hkm : k ≤ maxLen) (hs : sumT ns R ≤ 2000000) (hfw : fewB n R ns = true) (hk16 : 16 < k) :
    Calls Tryd.prog 4 #[.agg #[.slice ka n kc, .slice la R lc], .slice ua k uc] w fun e w' => e = .returned (.bool true) ∧ Below w.heap.size w w' := by
  obtain ⟨w1, hw1⟩ : ∃ w1, w1 = w.alloc (.cells #[.slice ka n kc, .slice la R lc] 25) := ⟨_, rfl⟩
  have hb1 : Below w.heap.size w w1 := by rw [hw1]; exact (Below.refl _ _).alloc (Nat.le_refl _) _
  have hc0 : w1.cell? ⟨w.heap.size, 0, none⟩ = some (.slice ka n kc) := by rw [hw1]; go_simp
  have hc1 : w1.cell? ⟨w.heap.size, 1, none⟩ = some (.slice la R lc) := by rw [hw1]; go_simp
  have HB1 := Hid.mk' hb1
  have HW1 := Hid.mk' hw1
  have HC : Hid (∀ W, Below w1.heap.size w1 W → W.cell? ⟨w.heap.size, 0, none⟩ = some (.slice ka n kc) ∧ W.cell? ⟨w.heap.size, 1, none⟩ = some (.slice la R lc)) := fun W hb => ⟨by rw [hb.cell (cell_lt hc0)]; exact hc0, by rw [hb.cell (cell_lt hc1)]; exact hc1⟩
  have HE := Hid.mk' (fun (W : World) (hb : Below w1.heap.size w1 W) => (hE.below hb1).below hb)
  have HK := Hid.mk' (fun (W : World) (hb : Below w1.heap.size w1 W) => (hk.later hb1).later hb)
  have HL := Hid.mk' (fun (W : World) (hb : Below w1.heap.size w1 W) => (hl.later hb1).later hb)
  have HU := Hid.mk' (fun (W : World) (hb : Below w1.heap.size w1 W) => (hu.later hb1).later hb)
  have HP := Hid.mk' (pad_any a w1 (hE.below hb1))
  have HFK := Hid.mk' (fun (W : World) (hb : Below w1.heap.size w1 W) => fewKeys_any _ _ n z R vs ns zs W (HK.out W hb) (HL.out W hb) hm hM hs)
  clear hE hk hl hu hb1 hw1 hc0 hc1
  unfold maxLen at hkm
  rw [hfw] at HFK
  have hkI : (16 : Int) < (k : Int) := by omega
  clear hfw
  go_enter Tryd.func4, Tryd.ntmps4
  go_wp2_with fail
  rw [← HW1.out]
  refine HP.out.mono ?_
  rintro e w2 ⟨rfl, hb2⟩
  have HB2 := Hid.mk' hb2
  have c0 := (HC.out w2 hb2).1
  have c1 := (HC.out w2 hb2).2
  clear hb2
  go_wp2_with fail
  refine (HFK.out w2 HB2.out).mono ?_
  rintro e w3 ⟨rfl, hb3⟩
  have hb3' := below_chS HB2.out hb3
  have HB3 := Hid.mk' hb3'
  clear hb3 c0 c1
  have c0 := (HC.out w3 hb3').1
  have c1 := (HC.out w3 hb3').2
  clear hb3'
  go_wp2_with fail
  go_ret
  exact ⟨rfl, below_chS HB1.out HB3.out⟩
set_option maxRecDepth 100000 in
set_option maxHeartbeats 8000000 in
theorem Shn_err (a : Nat → Addr) (ka : Option Addr) (n kc : Nat) (z : Nat → Int) (la : Option Addr) (R lc : Nat) (vs : Nat → Value) (ns : Nat → Nat) (zs : Nat → Nat → Int) (ua : Option Addr) (k uc : Nat) (y : Nat → Int) (w : World) (hE : Errs w a) (hk : NumsAt w (.slice ka n kc) n z) (hm : n ≤ maxLen) (hl : TabAt w (.slice la R lc) R vs ns zs) (hM : R ≤ maxLen) (hroom : Roomy R vs ns) (hu : NumsAt w (.slice ua k uc) k y) (hkm : k ≤ maxLen) (hs : sumT ns R ≤ 2000000) (hfw : fewB n R ns = true) (hk16 : ¬ 16 < k) (he : ciErr n z R ns zs ≠ 0) :
    Calls Tryd.prog 4 #[.agg #[.slice ka n kc, .slice la R lc], .slice ua k uc] w fun e w' => e = .returned (.bool true) ∧ Below w.heap.size w w' := by
  obtain ⟨w1, hw1⟩ : ∃ w1, w1 = w.alloc (.cells #[.slice ka n kc, .slice la R lc] 25) := ⟨_, rfl⟩
  have hb1 : Below w.heap.size w w1 := by rw [hw1]; exact (Below.refl _ _).alloc (Nat.le_refl _) _
  have hc0 : w1.cell? ⟨w.heap.size, 0, none⟩ = some (.slice ka n kc) := by rw [hw1]; go_simp
  have hc1 : w1.cell? ⟨w.heap.size, 1, none⟩ = some (.slice la R lc) := by rw [hw1]; go_simp
  have HB1 := Hid.mk' hb1
  have HW1 := Hid.mk' hw1
  have HC : Hid (∀ W, Below w1.heap.size w1 W → W.cell? ⟨w.heap.size, 0, none⟩ = some (.slice ka n kc) ∧ W.cell? ⟨w.heap.size, 1, none⟩ = some (.slice la R lc)) := fun W hb => ⟨by rw [hb.cell (cell_lt hc0)]; exact hc0, by rw [hb.cell (cell_lt hc1)]; exact hc1⟩
  have HE := Hid.mk' (fun (W : World) (hb : Below w1.heap.size w1 W) => (hE.below hb1).below hb)
  have HK := Hid.mk' (fun (W : World) (hb : Below w1.heap.size w1 W) => (hk.later hb1).later hb)
  have HL := Hid.mk' (fun (W : World) (hb : Below w1.heap.size w1 W) => (hl.later hb1).later hb)
  have HU := Hid.mk' (fun (W : World) (hb : Below w1.heap.size w1 W) => (hu.later hb1).later hb)
  have HP := Hid.mk' (pad_any a w1 (hE.below hb1))
  have HFK := Hid.mk' (fun (W : World) (hb : Below w1.heap.size w1 W) => fewKeys_any _ _ n z R vs ns zs W (HK.out W hb) (HL.out W hb) hm hM hs)
  clear hE hk hl hu hb1 hw1 hc0 hc1
  unfold maxLen at hkm
  rw [hfw] at HFK
  have hkI : decide ((16 : Int) < (k : Int)) = false := decide_eq_false (by omega)
  obtain ⟨hn100, hR40, hs400, hns⟩ := fewB_okN hfw
  have HCE := Hid.mk' (fun (W : World) (hb : Below w1.heap.size w1 W) => CipherError_any _ _ n z R vs ns zs W (HK.out W hb) (HL.out W hb) hroom (by omega) (by omega) (fun i hi => by have := hns i hi; omega))
  have hq0 : (0 : Int) < (ciErr n z R ns zs : Int) := by omega
  generalize ciErr n z R ns zs = q at *
  clear hfw he hroom hns hn100 hR40 hs400
  go_enter Tryd.func4, Tryd.ntmps4
  go_wp2_with fail
  rw [← HW1.out]
  refine HP.out.mono ?_
  rintro e w2 ⟨rfl, hb2⟩
  have HB2 := Hid.mk' hb2
  have c0 := (HC.out w2 hb2).1
  have c1 := (HC.out w2 hb2).2
  clear hb2
  go_wp2_with fail
  refine (HFK.out w2 HB2.out).mono ?_
  rintro e w3 ⟨rfl, hb3⟩
  have hb3' := below_chS HB2.out hb3
  have HB3 := Hid.mk' hb3'
  clear hb3 c0 c1
  have c0 := (HC.out w3 hb3').1
  have c1 := (HC.out w3 hb3').2
  clear hb3'
  go_wp2_with fail
  refine (HCE.out w3 HB3.out).mono ?_
  rintro e w4 ⟨rfl, hb4⟩
  have hb4' := below_chS HB3.out hb4
  have HB4 := Hid.mk' hb4'
  clear hb4 c0 c1
  have c0 := (HC.out w4 hb4').1
  have c1 := (HC.out w4 hb4').2
  clear hb4'
  go_wp2_with fail
  go_ret
  exact ⟨rfl, below_chS HB1.out HB4.out⟩
set_option maxRecDepth 100000 in
set_option maxHeartbeats 8000000 in
theorem Shn_imp (a : Nat → Addr) (ka : Option Addr) (n kc : Nat) (z : Nat → Int) (la : Option Addr) (R lc : Nat) (vs : Nat → Value) (ns : Nat → Nat) (zs : Nat → Nat → Int) (ua : Option Addr) (k uc : Nat) (y : Nat → Int) (w : World) (hE : Errs w a) (hk : NumsAt w (.slice ka n kc) n z) (hm : n ≤ maxLen) (hl : TabAt w (.slice la R lc) R vs ns zs) (hM : R ≤ maxLen) (hroom : Roomy R vs ns) (hu : NumsAt w (.slice ua k uc) k y) (hkm : k ≤ maxLen) (hs : sumT ns R ≤ 2000000) (hfw : fewB n R ns = true) (hk16 : ¬ 16 < k) (he : ¬ ciErr n z R ns zs ≠ 0) (hpa : perfA n z R ns zs = false) :
    Calls Tryd.prog 4 #[.agg #[.slice ka n kc, .slice la R lc], .slice ua k uc] w fun e w' => e = .returned (.bool true) ∧ Below w.heap.size w w' := by
  obtain ⟨w1, hw1⟩ : ∃ w1, w1 = w.alloc (.cells #[.slice ka n kc, .slice la R lc] 25) := ⟨_, rfl⟩
  have hb1 : Below w.heap.size w w1 := by rw [hw1]; exact (Below.refl _ _).alloc (Nat.le_refl _) _
  have hc0 : w1.cell? ⟨w.heap.size, 0, none⟩ = some (.slice ka n kc) := by rw [hw1]; go_simp
  have hc1 : w1.cell? ⟨w.heap.size, 1, none⟩ = some (.slice la R lc) := by rw [hw1]; go_simp
  have HB1 := Hid.mk' hb1
  have HW1 := Hid.mk' hw1
  have HC : Hid (∀ W, Below w1.heap.size w1 W → W.cell? ⟨w.heap.size, 0, none⟩ = some (.slice ka n kc) ∧ W.cell? ⟨w.heap.size, 1, none⟩ = some (.slice la R lc)) := fun W hb => ⟨by rw [hb.cell (cell_lt hc0)]; exact hc0, by rw [hb.cell (cell_lt hc1)]; exact hc1⟩
  have HE := Hid.mk' (fun (W : World) (hb : Below w1.heap.size w1 W) => (hE.below hb1).below hb)
  have HK := Hid.mk' (fun (W : World) (hb : Below w1.heap.size w1 W) => (hk.later hb1).later hb)
  have HL := Hid.mk' (fun (W : World) (hb : Below w1.heap.size w1 W) => (hl.later hb1).later hb)
  have HU := Hid.mk' (fun (W : World) (hb : Below w1.heap.size w1 W) => (hu.later hb1).later hb)
  have HP := Hid.mk' (pad_any a w1 (hE.below hb1))
  have HFK := Hid.mk' (fun (W : World) (hb : Below w1.heap.size w1 W) => fewKeys_any _ _ n z R vs ns zs W (HK.out W hb) (HL.out W hb) hm hM hs)
  clear hE hk hl hu hb1 hw1 hc0 hc1
  unfold maxLen at hkm
  rw [hfw] at HFK
  have hkI : decide ((16 : Int) < (k : Int)) = false := decide_eq_false (by omega)
  obtain ⟨hn100, hR40, hs400, hns⟩ := fewB_okN hfw
  have HCE := Hid.mk' (fun (W : World) (hb : Below w1.heap.size w1 W) => CipherError_any _ _ n z R vs ns zs W (HK.out W hb) (HL.out W hb) hroom (by omega) (by omega) (fun i hi => by have := hns i hi; omega))
  have he0 : ciErr n z R ns zs = 0 := by omega
  have hok := ciErr_ok he0
  rw [he0] at HCE
  have HCI := Hid.mk' (fun (W : World) (hb : Below w1.heap.size w1 W) => cipher_any _ _ n z R vs ns zs W (HK.out W hb) (HL.out W hb) hn100 hR40 hs400)
  have HPF := Hid.mk' (fun (kv lv : Value) (us : Nat → Value) (W : World) (hb : Below w1.heap.size w1 W) (hu : NumsAt W kv n z) (ht : TabAt W lv R us ns zs) => Perfect_any a kv lv n z R us ns zs W (HE.out W hb) hu ht (by omega) (by omega) (fun i hi => by have := hns i hi; omega))
  rw [he0, errV_zero] at HPF
  rw [hpa] at HPF
  clear hfw he he0 hroom hns hn100 hR40 hs400 hok hpa
  go_enter Tryd.func4, Tryd.ntmps4
  go_wp2_with fail
  rw [← HW1.out]
  refine HP.out.mono ?_
  rintro e w2 ⟨rfl, hb2⟩
  have HB2 := Hid.mk' hb2
  have c0 := (HC.out w2 hb2).1
  have c1 := (HC.out w2 hb2).2
  clear hb2
  go_wp2_with fail
  refine (HFK.out w2 HB2.out).mono ?_
  rintro e w3 ⟨rfl, hb3⟩
  have hb3' := below_chS HB2.out hb3
  have HB3 := Hid.mk' hb3'
  clear hb3 c0 c1
  have c0 := (HC.out w3 hb3').1
  have c1 := (HC.out w3 hb3').2
  clear hb3'
  go_wp2_with fail
  refine (HCE.out w3 HB3.out).mono ?_
  rintro e w4 ⟨rfl, hb4⟩
  have hb4' := below_chS HB3.out hb4
  have HB4 := Hid.mk' hb4'
  clear hb4 c0 c1
  have c0 := (HC.out w4 hb4').1
  have c1 := (HC.out w4 hb4').2
  clear hb4'
  go_wp2_with fail
  refine (HCI.out w4 HB4.out).mono ?_
  rintro e w5 ⟨kv5, lv5, us5, rfl, hu5, ht5, hb5⟩
  have hb5' := below_chS HB4.out hb5
  have HB5 := Hid.mk' hb5'
  have hP5 := HPF.out kv5 lv5 us5 w5 hb5' hu5 ht5
  clear hb5 c0 c1 hu5 ht5 hb5'
  go_wp2_with fail
  refine hP5.mono ?_
  rintro e w6 ⟨rfl, hb6⟩
  have hb6' := below_chS HB5.out hb6
  have HB6 := Hid.mk' hb6'
  have c0 := (HC.out w6 hb6').1
  have c1 := (HC.out w6 hb6').2
  clear hb6 hb6' hP5
  go_wp2_with fail
  go_ret
  exact ⟨rfl, below_chS HB1.out HB6.out⟩
set_option maxRecDepth 100000 in
set_option maxHeartbeats 8000000 in
theorem Shn_good (a : Nat → Addr) (ka : Option Addr) (n kc : Nat) (z : Nat → Int) (la : Option Addr) (R lc : Nat) (vs : Nat → Value) (ns : Nat → Nat) (zs : Nat → Nat → Int) (ua : Option Addr) (k uc : Nat) (y : Nat → Int) (w : World) (hE : Errs w a) (hk : NumsAt w (.slice ka n kc) n z) (hm : n ≤ maxLen) (hl : TabAt w (.slice la R lc) R vs ns zs) (hM : R ≤ maxLen) (hroom : Roomy R vs ns) (hu : NumsAt w (.slice ua k uc) k y) (hkm : k ≤ maxLen) (hs : sumT ns R ≤ 2000000) (hfw : fewB n R ns = true) (hk16 : ¬ 16 < k) (he : ¬ ciErr n z R ns zs ≠ 0) (hpa : perfA n z R ns zs = true) :
    Calls Tryd.prog 4 #[.agg #[.slice ka n kc, .slice la R lc], .slice ua k uc] w fun e w' => e = .returned (.bool true) ∧ Below w.heap.size w w' := by
  obtain ⟨w1, hw1⟩ : ∃ w1, w1 = w.alloc (.cells #[.slice ka n kc, .slice la R lc] 25) := ⟨_, rfl⟩
  have hb1 : Below w.heap.size w w1 := by rw [hw1]; exact (Below.refl _ _).alloc (Nat.le_refl _) _
  have hc0 : w1.cell? ⟨w.heap.size, 0, none⟩ = some (.slice ka n kc) := by rw [hw1]; go_simp
  have hc1 : w1.cell? ⟨w.heap.size, 1, none⟩ = some (.slice la R lc) := by rw [hw1]; go_simp
  have HB1 := Hid.mk' hb1
  have HW1 := Hid.mk' hw1
  have HC : Hid (∀ W, Below w1.heap.size w1 W → W.cell? ⟨w.heap.size, 0, none⟩ = some (.slice ka n kc) ∧ W.cell? ⟨w.heap.size, 1, none⟩ = some (.slice la R lc)) := fun W hb => ⟨by rw [hb.cell (cell_lt hc0)]; exact hc0, by rw [hb.cell (cell_lt hc1)]; exact hc1⟩
  have HE := Hid.mk' (fun (W : World) (hb : Below w1.heap.size w1 W) => (hE.below hb1).below hb)
  have HK := Hid.mk' (fun (W : World) (hb : Below w1.heap.size w1 W) => (hk.later hb1).later hb)
  have HL := Hid.mk' (fun (W : World) (hb : Below w1.heap.size w1 W) => (hl.later hb1).later hb)
  have HU := Hid.mk' (fun (W : World) (hb : Below w1.heap.size w1 W) => (hu.later hb1).later hb)
  have HP := Hid.mk' (pad_any a w1 (hE.below hb1))
  have HFK := Hid.mk' (fun (W : World) (hb : Below w1.heap.size w1 W) => fewKeys_any _ _ n z R vs ns zs W (HK.out W hb) (HL.out W hb) hm hM hs)
  clear hE hk hl hu hb1 hw1 hc0 hc1
  unfold maxLen at hkm
  rw [hfw] at HFK
  have hkI : decide ((16 : Int) < (k : Int)) = false := decide_eq_false (by omega)
  obtain ⟨hn100, hR40, hs400, hns⟩ := fewB_okN hfw
  have HCE := Hid.mk' (fun (W : World) (hb : Below w1.heap.size w1 W) => CipherError_any _ _ n z R vs ns zs W (HK.out W hb) (HL.out W hb) hroom (by omega) (by omega) (fun i hi => by have := hns i hi; omega))
  have he0 : ciErr n z R ns zs = 0 := by omega
  have hok := ciErr_ok he0
  rw [he0] at HCE
  have HCI := Hid.mk' (fun (W : World) (hb : Below w1.heap.size w1 W) => cipher_any _ _ n z R vs ns zs W (HK.out W hb) (HL.out W hb) hn100 hR40 hs400)
  have HPF := Hid.mk' (fun (kv lv : Value) (us : Nat → Value) (W : World) (hb : Below w1.heap.size w1 W) (hu : NumsAt W kv n z) (ht : TabAt W lv R us ns zs) => Perfect_any a kv lv n z R us ns zs W (HE.out W hb) hu ht (by omega) (by omega) (fun i hi => by have := hns i hi; omega))
  rw [he0, errV_zero] at HPF
  rw [hpa] at HPF
  have HIN := Hid.mk' (fun (W : World) (hb : Below w1.heap.size w1 W) => ints_any _ k y W (HU.out W hb) (by omega))
  have HTB := Hid.mk' (fun (kv lv u : Value) (us : Nat → Value) (W : World) (hb : Below w1.heap.size w1 W) (hu : NumsAt W kv n z) (ht : TabAt W lv R us ns zs) (hv : NumsAt W u k y) => SkTable_any a kv lv u n z R us ns zs k y W (HE.out W hb) hu ht hv (by omega) (by omega) (fun i hi => by have := hns i hi; omega) (by omega))
  have h0 := hok.len0
  have hC16 : ns 0 ≤ 16 := rowB_short (hok.row 0 hok.w.posN)
  have hT16 := topN_le hok.row h0 n (Nat.le_refl _)
  have HKE : Hid ((∀ i, i < n → z i ≠ 0) → ns 0 ≤ n) := fun h => keys_enough hok hpa h
  have HMU : Hid (∀ (v : Value) (us : Nat → Value) (W : World), Below w1.heap.size w1 W → tbErr n z R ns zs k y = 0 → TabAt W v (ns 0) us (fun _ => topN (ns 0) zs n) (tbZ n z zs y) → Calls Tryd.prog 17 #[v] W fun e w' => (∃ dn ad c, e = .returned (.tuple #[.agg #[.int .i64 dn, .slice ad 0 c], .nilIface])) ∧ Below W.heap.size W w') := fun v us W hb ht hv => by
    have hwe : weightsErr y k = 0 := by
      unfold tbErr at ht
      rw [if_neg he] at ht
      by_cases h : weightsErr y k ≠ 0
      · rw [if_pos h] at ht; exact absurd ht h
      · omega
    have hkC : k = ns 0 := by
      unfold tbErr at ht
      rw [if_neg he, if_neg (by omega)] at ht
      by_cases h : k ≠ ns 0
      · rw [if_pos h] at ht; cases ht
      · omega
    have hta : tabErr (ns 0) (fun _ => topN (ns 0) zs n) (tbZ n z zs y) = 0 := by
      unfold tbErr at ht
      rw [if_neg he, if_neg (by omega), if_neg (by omega)] at ht
      exact ht
    have hp2 : perfB (fun m s => wayZ z zs m s n) (topN (ns 0) zs n) (ns 0) = true := by
      have h9 := hpa
      unfold perfA at h9
      rw [Bool.and_eq_true] at h9
      exact h9.2
    refine Mutual_none a v (ns 0) (topN (ns 0) zs n) us (tbZ n z zs y) (fun s => wayZ z zs 0 s n) y W (HE.out W hb) hv hC16 hT16 hta (fun i s hi hs => ?_) (fun s _ => (wayZ_le (zs := zs) (m := 0) (s := s) hok.w.nn n (Nat.le_refl _)).1) (fun i hi => ?_)
    · have h9 := (sameB_iff _ _ _).1 (perfB_all hp2 hi) s hs
      unfold tbZ
      simp only [h9]
    · exact ((weightsErr_ok hwe).2.lt (by omega)).1
  obtain rfl : R = n := hok.same
  have hR0 := hok.w.posN
  obtain ⟨pb, po, rfl⟩ : ∃ pb po, ka = some ⟨pb, po, none⟩ := by
    rcases HK.out w1 (Below.refl _ _) with ⟨_, _, _, h1⟩ | ⟨b', o', c, h1, _, h2⟩
    · omega
    · simp only [Value.slice.injEq, true_and] at h1
      exact ⟨b', o', h1.1⟩
  have HKR : Hid (∀ W, Below w1.heap.size w1 W → RowAt W pb po R z) := fun W hb => by
    rcases HK.out W hb with ⟨_, _, _, h1⟩ | ⟨b', o', c, h1, _, h2⟩
    · omega
    · simp only [Value.slice.injEq, true_and, Option.some.injEq, Addr.mk.injEq] at h1
      obtain ⟨⟨rfl, rfl, -⟩, rfl⟩ := h1
      exact h2
  obtain ⟨b, o, rfl⟩ : ∃ b o, la = some ⟨b, o, none⟩ := by
    rcases HL.out w1 (Below.refl _ _) with ⟨_, _, _, h1⟩ | ⟨b, o, c, h1, _, h2⟩
    · omega
    · simp only [Value.slice.injEq, true_and] at h1
      exact ⟨b, o, h1.1⟩
  obtain ⟨a0, c9, hv0⟩ : ∃ a0 c0, vs 0 = .slice a0 (ns 0) c0 := by
    rcases HL.out w1 (Below.refl _ _) with ⟨_, _, _, h1⟩ | ⟨b', o', c, h1, _, h2⟩
    · omega
    · exact (h2 0 hR0).2.form
  have HCZ : Hid (∀ W, Below w1.heap.size w1 W → W.cell? ⟨b, o, none⟩ = some (.slice a0 (ns 0) c9)) := fun W hb => by
    rcases HL.out W hb with ⟨_, _, _, h1⟩ | ⟨b', o', c, h1, _, h2⟩
    · omega
    · simp only [Value.slice.injEq, true_and, Option.some.injEq, Addr.mk.injEq] at h1
      obtain ⟨⟨rfl, rfl, -⟩, rfl⟩ := h1
      have := (h2 0 hR0).1
      rwa [Nat.add_zero, hv0] at this
  have hRI : (0 : Int) < (R : Int) := by omega
  have hRt : (R : Int) ≤ 100 := by omega
  clear hfw he he0 hroom hns hn100 hR40 hs400 hok hpa hv0 hT16
  go_enter Tryd.func4, Tryd.ntmps4
  go_wp2_with fail
  rw [← HW1.out]
  refine HP.out.mono ?_
  rintro e w2 ⟨rfl, hb2⟩
  have HB2 := Hid.mk' hb2
  have c0 := (HC.out w2 hb2).1
  have c1 := (HC.out w2 hb2).2
  clear hb2
  go_wp2_with fail
  refine (HFK.out w2 HB2.out).mono ?_
  rintro e w3 ⟨rfl, hb3⟩
  have hb3' := below_chS HB2.out hb3
  have HB3 := Hid.mk' hb3'
  clear hb3 c0 c1
  have c0 := (HC.out w3 hb3').1
  have c1 := (HC.out w3 hb3').2
  clear hb3'
  go_wp2_with fail
  refine (HCE.out w3 HB3.out).mono ?_
  rintro e w4 ⟨rfl, hb4⟩
  have hb4' := below_chS HB3.out hb4
  have HB4 := Hid.mk' hb4'
  clear hb4 c0 c1
  have c0 := (HC.out w4 hb4').1
  have c1 := (HC.out w4 hb4').2
  clear hb4'
  go_wp2_with fail
  refine (HCI.out w4 HB4.out).mono ?_
  rintro e w5 ⟨kv5, lv5, us5, rfl, hu5, ht5, hb5⟩
  have hb5' := below_chS HB4.out hb5
  have HB5 := Hid.mk' hb5'
  have hP5 := HPF.out kv5 lv5 us5 w5 hb5' hu5 ht5
  clear hb5 c0 c1 hu5 ht5 hb5'
  go_wp2_with fail
  refine hP5.mono ?_
  rintro e w6 ⟨rfl, hb6⟩
  have hb6' := below_chS HB5.out hb6
  have HB6 := Hid.mk' hb6'
  have c0 := (HC.out w6 hb6').1
  have c1 := (HC.out w6 hb6').2
  clear hb6 hb6' hP5
  go_wp2_with fail
  clear c0 c1
  go_loopw [8] (fun t wr => ∃ j : Nat, j ≤ R ∧ t = .int .i64 j ∧ Hid (∀ i, i < j → z i ≠ 0) ∧ wr = w6) (fun t _ => R - (intOf t).toNat)
  case atStart => exact ⟨0, Nat.zero_le _, rfl, (fun i hi => by omega), rfl⟩
  case round =>
    obtain ⟨j, hj, rfl, HNZ, hwr⟩ := hrel
    rw [hwr]
    clear hwr wr
    have c0 := (HC.out w6 HB6.out).1
    have c1 := (HC.out w6 HB6.out).2
    rcases Nat.lt_or_ge j R with h1 | h1
    · have hjI : (j : Int) < (R : Int) := by omega
      have hj0 : (0 : Int) ≤ (j : Int) := by omega
      have hcj := HKR.out w6 HB6.out j h1
      by_cases ez : z j = 0
      · have hzb : (z j == 0) = true := by rw [beq_iff_eq]; exact ez
        generalize z j = x at *
        clear ez
        go_wp2_with fail
        go_ret
        exact ⟨rfl, below_chS HB1.out HB6.out⟩
      · have hzb : (z j == 0) = false := by rw [beq_eq_false_iff_ne]; exact ez
        have HN2 : Hid (∀ i, i < j + 1 → z i ≠ 0) := fun i hi => by
          rcases Nat.lt_or_ge i j with h2 | h2
          · exact HNZ.out i h2
          · obtain rfl : i = j := by omega
            exact ez
        generalize z j = x at *
        clear ez
        go_wp2_with fail
        exact ⟨⟨j + 1, h1, by go_num, HN2, trivial⟩, by simp [intOf]; omega⟩
    · obtain rfl : R = j := by omega
      have hKE := HKE.out HNZ.out
      have cz := HCZ.out w6 HB6.out
      have hCR : decide ((R : Int) < (ns 0 : Int)) = false := decide_eq_false (by omega)
      have hCR' : ¬ (R : Int) < (ns 0 : Int) := by omega
      have hCR2 : decide (R < ns 0) = false := decide_eq_false (by omega)
      clear hkI
      go_wp2_with fail
      go_region
      all_goals
        have HB7 : Hid (Below w1.heap.size w1 w6.drew) := HB6.out.drew
        obtain ⟨w7, hw7⟩ : ∃ w7, w7 = w6.drew := ⟨_, rfl⟩
        rw [← hw7] at HB7 ⊢
        clear hw7 c0 c1 cz
        have c0 := (HC.out w7 HB7.out).1
        have c1 := (HC.out w7 HB7.out).2
        go_wp2_with fail
        refine (HCI.out w7 HB7.out).mono ?_
        rintro e w8 ⟨kv5, lv5, us5, rfl, hu5, ht5, hb5⟩
        have HB8 := Hid.mk' (below_chS HB7.out hb5)
        have HU5 := Hid.mk' hu5
        have HV5 := Hid.mk' ht5
        clear hb5 c0 c1 hu5 ht5
        go_wp2_with fail
        refine (HIN.out w8 HB8.out).mono ?_
        rintro e w9 ⟨v9, rfl, hv9, hb9⟩
        have hb9' := below_chS HB8.out hb9
        have HB9 := Hid.mk' hb9'
        have hTB9 := HTB.out kv5 lv5 v9 us5 w9 hb9' (HU5.out.later hb9) (HV5.out.later hb9) hv9
        obtain ⟨a9, c10, rfl⟩ := hv9.form
        clear hb9 hb9' hv9
        go_wp2_with fail
        refine hTB9.mono ?_
        rintro e w10 ⟨t10, rfl, hbad, hgood, hb10⟩
        have hb10' := below_chS HB9.out hb10
        have HB10 := Hid.mk' hb10'
        clear hb10 hTB9
        by_cases htb : tbErr R z R ns zs k y ≠ 0
        · obtain rfl := hbad htb
          rw [errV_pos a htb]
          clear hgood hbad hb10'
          generalize tbErr R z R ns zs k y = q at *
          clear htb
          go_wp2_with fail
          go_ret
          exact ⟨rfl, below_chS HB1.out HB10.out⟩
        · have htb0 : tbErr R z R ns zs k y = 0 := by omega
          obtain ⟨vs10, ht10⟩ := hgood htb0
          have hMU := HMU.out t10 vs10 w10 hb10' htb0 ht10
          rw [htb0, errV_zero]
          obtain ⟨a11, c11, rfl⟩ := ht10.form
          clear hgood hbad hb10' htb htb0 ht10 HMU HTB
          go_wp2_with fail
          refine hMU.mono ?_
          rintro e w11 ⟨⟨dn, ad12, c12, rfl⟩, hb11⟩
          have HB11 := Hid.mk' (below_chS HB10.out hb11)
          have HB12 : Hid (Below w1.heap.size w1 (w11.alloc (.cells #[.int .i64 dn, .slice ad12 0 c12] 46))) := HB11.out.alloc HB11.out.size _
          clear hb11 hMU
          go_wp2_with fail
          go_ret
          exact ⟨rfl, below_chS HB1.out HB12.out⟩
theorem SecretShannon_all (a : Nat → Addr) (ka : Option Addr) (n kc : Nat) (z : Nat → Int) (la : Option Addr) (R lc : Nat) (vs : Nat → Value) (ns : Nat → Nat) (zs : Nat → Nat → Int) (ua : Option Addr) (k uc : Nat) (y : Nat → Int) (w : World) (hE : Errs w a) (hk : NumsAt w (.slice ka n kc) n z) (hm : n ≤ maxLen) (hl : TabAt w (.slice la R lc) R vs ns zs) (hM : R ≤ maxLen) (hroom : Roomy R vs ns) (hu : NumsAt w (.slice ua k uc) k y) (hkm : k ≤ maxLen) (hs : sumT ns R ≤ 2000000) :
    Calls Tryd.prog 4 #[.agg #[.slice ka n kc, .slice la R lc], .slice ua k uc] w fun e w' => e = .returned (.bool true) ∧ Below w.heap.size w w' := by
  cases hfw : fewB n R ns with
  | false => exact Shn_few a ka n kc z la R lc vs ns zs ua k uc y w hE hk hm hl hM hroom hu hkm hs hfw
  | true =>
    by_cases hk16 : 16 < k
    · exact Shn_long a ka n kc z la R lc vs ns zs ua k uc y w hE hk hm hl hM hroom hu hkm hs hfw hk16
    · by_cases he : ciErr n z R ns zs ≠ 0
      · exact Shn_err a ka n kc z la R lc vs ns zs ua k uc y w hE hk hm hl hM hroom hu hkm hs hfw hk16 he
      · cases hpa : perfA n z R ns zs with
        | false => exact Shn_imp a ka n kc z la R lc vs ns zs ua k uc y w hE hk hm hl hM hroom hu hkm hs hfw hk16 he hpa
        | true => exact Shn_good a ka n kc z la R lc vs ns zs ua k uc y w hE hk hm hl hM hroom hu hkm hs hfw hk16 he hpa
end Go.Proofs.YtdlbnolnkmhdcaaDoor

/- What the rows' condition on package variables gives a walk: two sentinels. -/
namespace Go.Proofs.YtdlbnolnkmhdcaaDoor
open Go.ChangeShapes Go.WideShapes Go.RowKit

theorem Tryd.own : ownKnob Tryd.prog.godebug = none := by kernel_rfl
theorem Tryd.star : ("*" ++ "errors.errorString" : String) = "*errors.errorString" := by decide
theorem Tryd.rowE (u : TypeId) (h : Tryd.prog.typeName? 3 u = some "*errors.errorString") : u = 145 :=
  typeName_ptr_named (nm := "errors.errorString") (by rw [Tryd.star]; kernel_rfl) (by kernel_rfl) (by decide) u (by rw [Tryd.star]; exact h)
theorem Tryd.cellsE : Tryd.prog.cellsOf 166 = 1 := by kernel_rfl
theorem Tryd.cellsS : Tryd.prog.cellsOf 9 = 1 := by kernel_rfl
theorem Tryd.g1 : Tryd.prog.globalNamed "demon/api.ErrBound" = some 1 := by kernel_rfl
theorem Tryd.g2 : Tryd.prog.globalNamed "demon/api.ErrShape" = some 0 := by kernel_rfl

/-- Any number of listed sentinels of one type: each one's pointer, text and row; no two are one. -/
theorem laid_list {P : Program} {W : World} {nm : String} {ti tp te ts : TypeId} {ms : Array (String × TypeId)} {f : Field}
    (hi : P.underlying ti = some (.interface ms)) (hrow : ∀ u, P.typeName? 3 u = some nm → u = tp)
    (hp : P.underlying tp = some (.pointer te)) (he : P.underlying te = some (.struct #[f])) (hft : f.type = ts) (hfo : f.offset = 0) (hs : P.underlying ts = some .string) (hc : P.cellsOf te = 1) (hcs : P.cellsOf ts = 1) :
    ∀ (L : List (String × List UInt8)) (ps : List MemPlace), (∀ x, x ∈ L → ∃ g, P.globalNamed x.1 = some g ∧ (P.globals[g]?).map (·.type) = some ti) →
      DataW.LaidVars P W (L.map fun x => (x.1, .iface nm (.ptr (.agg [.lit (.string x.2)])))) ps → ps.Nodup →
      (∀ b off, MemPlace.cell b off ∈ ps → (∃ c t, W.heap[b]? = some (.cells c t (0, 0))) ∧ ∀ u v, W.cell? ⟨b, off, none⟩ = some (.iface u v) → Value.okWide P W .any 0 u v) →
      ∃ a : Nat → Addr, (∀ i x, L[i]? = some x → W.var? P x.1 = some #[.iface tp (.pointer (some (a i)))] ∧ (∃ s, W.cell? (a i) = some (.string s) ∧ s.data.toList = x.2) ∧
          (∃ c t, W.heap[(a i).block]? = some (.cells c t (0, 0))) ∧ MemPlace.cell (a i).block (a i).off ∈ ps) ∧
        ∀ i j, i < L.length → j < L.length → i ≠ j → a i ≠ a j := by
  intro L
  induction L with
  | nil => intro ps _ _ _ _; exact ⟨fun _ => default, fun i x h => by simp at h, fun i j h => by simp at h⟩
  | cons x r ih =>
    intro ps hgs hv hnd hrows
    obtain ⟨n, text⟩ := x
    obtain ⟨g0, t0, cs0, f0, p0, q0, hg0, ht0, hv0, hd0, hvr, e0⟩ := hv
    obtain ⟨g, hg, ht⟩ := hgs (n, text) (List.mem_cons_self ..)
    obtain rfl := Option.some.inj (hg.symm.trans hg0)
    obtain rfl := Option.some.inj (ht.symm.trans ht0)
    subst e0
    obtain ⟨l0⟩ := cs0
    have ok0 : ∀ u v, l0 = [.iface u v] → Value.okWide P W .any 0 u v := fun u v e => by
      subst e
      exact (hrows g 0 (by simp [MemPlace.row])).2 u v (by simpa using World.var?_cell hg0 hv0 0)
    obtain ⟨a0, s0, rfl, hc0, hs0, hz0, rfl⟩ := errorString_of_trod hi hrow hp he hft hfo hs hc hcs hd0 ok0
    obtain ⟨c0, tt0, hb0⟩ := (hrows a0.block a0.off (by simp [MemPlace.row])).1
    have hnq : q0.Nodup := List.Nodup.sublist (List.sublist_append_right _ _) hnd
    obtain ⟨a', ha', hne'⟩ := ih q0 (fun x hx => hgs x (List.mem_cons_of_mem _ hx)) hvr hnq (fun b off hm => hrows b off (List.mem_append_right _ hm))
    have hnot : MemPlace.cell a0.block a0.off ∉ q0 := by
      intro hm
      have := (List.nodup_append.1 hnd).2.2
      exact this (.cell a0.block a0.off) (by simp [MemPlace.row]) (.cell a0.block a0.off) hm rfl
    refine ⟨fun i => match i with | 0 => a0 | k + 1 => a' k, ?_, ?_⟩
    · intro i x hx
      cases i with
      | zero =>
        simp only [List.getElem?_cons_zero, Option.some.injEq] at hx
        subst hx
        exact ⟨hv0, ⟨s0, hc0, hs0⟩, ⟨c0, tt0, hb0⟩, by simp [MemPlace.row]⟩
      | succ k =>
        simp only [List.getElem?_cons_succ] at hx
        obtain ⟨h1, h2, h3, h4⟩ := ha' k x hx
        exact ⟨h1, h2, h3, List.mem_append_right _ h4⟩
    · have far : ∀ k, k < r.length → a0 ≠ a' k := fun k hk e => by
        obtain ⟨_, _, _, h4⟩ := ha' k r[k] (by simp [hk])
        rw [← e] at h4
        exact hnot h4
      intro i j hi' hj' hij
      cases i with
      | zero =>
        cases j with
        | zero => exact absurd rfl hij
        | succ k => exact far k (by simpa using hj')
      | succ m =>
        cases j with
        | zero => exact (far m (by simpa using hi')).symm
        | succ k => exact hne' m k (by simpa using hi') (by simpa using hj') (by omega)

/-- The names and texts, in the rows' order. -/
def twoNames : List (String × List UInt8) := [("demon/api.ErrBound", [100, 101, 109, 111, 110, 58, 32, 98, 111, 117, 110, 100]), ("demon/api.ErrShape", [100, 101, 109, 111, 110, 58, 32, 115, 104, 97, 112, 101])]
def laidAll : List (String × DataW Unit) := [("demon/api.ErrBound", Rows.laid_demon_api_ErrBound), ("demon/api.ErrShape", Rows.laid_demon_api_ErrShape)]
theorem laidAll_parts (W : World) : laidMetH Tryd.prog laidAll W = laidMet Tryd.prog (twoNames.map fun x => (x.1, .iface "*errors.errorString" (.ptr (.agg [.lit (.string x.2)])))) W := by kernel_rfl

theorem var_at {W : World} {n : String} {g : Nat} {v : Value} (hg : Tryd.prog.globalNamed n = some g) (h : W.var? Tryd.prog n = some #[v]) : W.cell? ⟨g, 0, none⟩ = some v := by
  simpa using World.var?_cell hg h 0

theorem errs_of_laid {W : World} (h : laidMetH Tryd.prog laidAll W) : ∃ a : Nat → Addr, Errs W a := by
  rw [laidAll_parts] at h
  obtain ⟨ps, hv, hnd, hrows⟩ := h
  obtain ⟨a, ha, hne⟩ := laid_list Tryd.underlying33 Tryd.rowE Tryd.underlying145 Tryd.underlying166 rfl rfl Tryd.underlying9 Tryd.cellsE Tryd.cellsS twoNames ps
    (fun x hx => by
      simp only [twoNames, List.mem_cons, List.not_mem_nil, or_false] at hx
      rcases hx with rfl | rfl
      · exact ⟨_, Tryd.g1, by kernel_rfl⟩
      · exact ⟨_, Tryd.g2, by kernel_rfl⟩) hv hnd hrows
  exact ⟨fun i => a (i - 1), ⟨var_at Tryd.g1 (ha 0 _ rfl).1, var_at Tryd.g2 (ha 1 _ rfl).1⟩⟩

/-- The door's own heap meets the condition. -/
theorem door_met (os : Os) (args : Array Value) : laidMetH Tryd.prog laidAll ((World.doorLaid Tryd.prog 168 os).forCall (fun _ _ => 0) ⟨#[], args, []⟩).memory := by
  rw [laidAll_parts]
  exact laidMet_of_run' 8 (by kernel_rfl) (by kernel_rfl)
end Go.Proofs.YtdlbnolnkmhdcaaDoor

/- A parameter of type []int opened. -/
namespace Go.Proofs.YtdlbnolnkmhdcaaDoor
open Go.ChangeShapes Go.WideShapes Go.ChangeAt Go.RowKit Go.Joins Go.Deep

theorem Tryd.laidOut : laidOutB Tryd.prog = true := by kernel_rfl
theorem Tryd.cellsInt : Tryd.prog.cellsOf 3 = 1 := by kernel_rfl
theorem Tryd.cellsInts : Tryd.prog.cellsOf 22 = 1 := by kernel_rfl

set_option maxRecDepth 100000 in
/-- What a parameter of type []int gives: its slice, its numbers. -/
theorem open_nums {H : Type} {enc : TypeId × Value → H} {W : World} {base : Nat} {v : Value} {d : DataW H} {p : List MemPlace} (hv : Value.okWide Tryd.prog W .any base 22 v)
    (h : DataW.Trod enc Tryd.prog W 0 (fun _ => true) true 22 v d p) :
    ∃ (ad : Option Addr) (n cap : Nat) (z : Nat → Int), v = .slice ad n cap ∧ n ≤ maxLen ∧ NumsAt W (.slice ad n cap) n z := by
  obtain ⟨ad, n, cap, rfl⟩ := okWide_slice Tryd.underlying22 hv
  obtain ⟨fuel, hf⟩ := h
  rcases open_ints Tryd.underlying22 Tryd.underlying3 Tryd.cellsInt hf with ⟨hc, _⟩ | ⟨a, len, cap', zs, hc, _, hl, hm, hz, _, hcell, _⟩
  · simp [Value.cells] at hc
    obtain ⟨rfl, rfl, rfl⟩ := hc
    exact ⟨none, 0, 0, fun _ => 0, rfl, Nat.zero_le _, Or.inl ⟨none, 0, rfl, rfl⟩⟩
  · simp [Value.cells] at hc
    obtain ⟨rfl, rfl, rfl⟩ := hc
    simp only [if_true] at hz
    rcases Nat.eq_zero_or_pos n with rfl | hpos
    · exact ⟨some a, 0, cap, fun _ => 0, rfl, Nat.zero_le _, Or.inl ⟨some a, cap, rfl, rfl⟩⟩
    · obtain ⟨b, o, spot⟩ := a
      have hspot : spot = none := by simpa [Addr.add] using World.cell?_spot (hcell 0 (by omega))
      subst hspot
      refine ⟨_, n, cap, fun i => zs.getD i 0, rfl, by omega, Or.inr ⟨b, o, cap, rfl, hpos, fun i hi => ?_⟩⟩
      have := hcell i (by omega)
      rw [Go.Proofs.YtdlbnolnkmhdcaaDoor.add_plain] at this
      exact this
end Go.Proofs.YtdlbnolnkmhdcaaDoor

/- A parameter of type [][]int opened; how many numbers it holds at the most. -/
namespace Go.Proofs.YtdlbnolnkmhdcaaDoor
open Go.ChangeShapes Go.WideShapes Go.ChangeAt Go.RowKit Go.Joins Go.Deep

theorem bulk_one {H : Type} (d : DataW H) : 1 ≤ Rows.uptoBulk d := by
  cases d with
  | lit l => cases l <;> simp [Rows.uptoBulk]
  | _ => simp [Rows.uptoBulk]
theorem bulk_len {H : Type} : ∀ l : List (DataW H), l.length ≤ Rows.uptoBulkAll l
  | [] => by simp [Rows.uptoBulkAll]
  | x :: r => by
    have h1 := bulk_one x
    have h2 := bulk_len r
    simp only [Rows.uptoBulkAll, List.length_cons]
    omega
theorem bulk_mem {H : Type} {d : DataW H} : ∀ {l : List (DataW H)}, d ∈ l → Rows.uptoBulk d ≤ Rows.uptoBulkAll l
  | x :: r, h => by
    simp only [Rows.uptoBulkAll]
    rcases List.mem_cons.1 h with rfl | h'
    · omega
    · have := bulk_mem h'; omega
theorem bulk_append {H : Type} : ∀ l r : List (DataW H), Rows.uptoBulkAll (l ++ r) = Rows.uptoBulkAll l + Rows.uptoBulkAll r
  | [], r => by simp [Rows.uptoBulkAll]
  | x :: l, r => by simp only [List.cons_append, Rows.uptoBulkAll, bulk_append l r]; omega
theorem bulk_sum {H : Type} (f : Nat → DataW H) (L : Nat → Nat) : ∀ n, (∀ r, r < n → L r ≤ Rows.uptoBulk (f r)) → sumT L n ≤ Rows.uptoBulkAll ((List.range n).map f)
  | 0, _ => Nat.zero_le _
  | n + 1, h => by
    have h1 := bulk_sum f L n (fun r hr => h r (by omega))
    have h2 := h n (by omega)
    show sumT L n + L n ≤ _
    rw [List.range_succ, List.map_append, bulk_append]
    simp only [List.map_cons, List.map_nil, Rows.uptoBulkAll]
    omega

set_option maxRecDepth 100000 in
theorem open_table {H : Type} {enc : TypeId × Value → H} {W : World} {base : Nat} {v : Value} {d : DataW H} {p : List MemPlace} (hv : Value.okWide Tryd.prog W .any base 23 v)
    (h : DataW.Trod enc Tryd.prog W 0 (fun _ => true) true 23 v d p) :
    ∃ (ad : Option Addr) (R cap : Nat) (vs : Nat → Value) (ns : Nat → Nat) (zs : Nat → Nat → Int), v = .slice ad R cap ∧ R ≤ maxLen ∧ TabAt W (.slice ad R cap) R vs ns zs ∧ sumT ns R ≤ Rows.uptoBulk d := by
  obtain ⟨ad, R, cap, rfl⟩ := okWide_slice Tryd.underlying23 hv
  obtain ⟨fuel, hf⟩ := h
  rcases open_int_rows Tryd.underlying23 Tryd.underlying22 Tryd.underlying3 Tryd.cellsInts Tryd.cellsInt hf with ⟨hc, _⟩ | ⟨a, len, cap', A, L, C, Z, hc, _, hl, hm, hx, hr⟩
  · simp [Value.cells] at hc
    obtain ⟨rfl, rfl, rfl⟩ := hc
    exact ⟨none, 0, 0, fun _ => .slice none 0 0, fun _ => 0, fun _ _ => 0, rfl, Nat.zero_le _, Or.inl ⟨none, 0, rfl, rfl⟩, Nat.zero_le _⟩
  · simp [Value.cells] at hc
    obtain ⟨rfl, rfl, rfl⟩ := hc
    simp only [Prod.mk.injEq] at hx
    obtain ⟨rfl, _⟩ := hx
    have hbulk : sumT L R ≤ Rows.uptoBulk (DataW.slice ((List.range R).map fun r => intRow .i64 (A r) (L r) (Z r)) ((List.range (cap - R)).map fun j => intRow .i64 (A (R + j)) (L (R + j)) (Z (R + j))) : DataW H) := by
      have h1 := bulk_sum (H := H) (fun r => intRow .i64 (A r) (L r) (Z r)) L R (fun r hr' => by
        obtain ⟨_, h2, _, h4, _, h6, _⟩ := hr r (by omega)
        cases hA : A r with
        | none => have := h6 hA; omega
        | some a' =>
          have h7 := bulk_len (H := H) (lits .i64 ((Z r).take (L r)))
          have h8 : (lits (H := H) .i64 ((Z r).take (L r))).length = L r := by simp [lits]; omega
          simp only [intRow, Rows.uptoBulk]
          omega)
      simp only [Rows.uptoBulk]
      omega
    rcases Nat.eq_zero_or_pos R with rfl | hpos
    · exact ⟨some a, 0, cap, fun _ => .slice none 0 0, L, fun _ _ => 0, rfl, Nat.zero_le _, Or.inl ⟨some a, cap, rfl, rfl⟩, hbulk⟩
    · obtain ⟨b, o, spot⟩ := a
      have hspot : spot = none := by simpa [Addr.add] using World.cell?_spot (hr 0 (by omega)).1
      subst hspot
      refine ⟨_, R, cap, fun r => .slice (A r) (L r) (C r), L, fun r i => (Z r).getD i 0, rfl, by omega, Or.inr ⟨b, o, cap, rfl, hpos, fun i hi => ?_⟩, hbulk⟩
      obtain ⟨h1, h2, _, h4, _, h6, h7⟩ := hr i (by omega)
      rw [Go.Proofs.YtdlbnolnkmhdcaaDoor.add_plain] at h1
      refine ⟨h1, ?_⟩
      rcases Nat.eq_zero_or_pos (L i) with h0 | h0
      · exact Or.inl ⟨A i, C i, by dsimp only; rw [h0], h0⟩
      · cases hA : A i with
        | none => have := h6 hA; omega
        | some a' =>
          obtain ⟨_, h8⟩ := h7 a' hA
          obtain ⟨b', o', spot'⟩ := a'
          have hs' : spot' = none := by simpa [Addr.add] using World.cell?_spot (h8 0 (by omega))
          subst hs'
          refine Or.inr ⟨b', o', C i, by dsimp only; rw [hA], h0, fun j hj => ?_⟩
          have := h8 j (by omega)
          rw [Go.Proofs.YtdlbnolnkmhdcaaDoor.add_plain] at this
          exact this
theorem bulk_bound {H : Type} {l : List (DataW H)} (hk : Rows.uptoSmall H l = true) : Rows.uptoBulkAll l ≤ 1048576 := of_decide_eq_true hk
end Go.Proofs.YtdlbnolnkmhdcaaDoor

/- A parameter of type demonref3.Cipher opened: its keys, its rows, their room; how many numbers it holds at the most. -/
namespace Go.Proofs.YtdlbnolnkmhdcaaDoor
open Go.ChangeShapes Go.WideShapes Go.ChangeAt Go.RowKit Go.Joins Go.Deep

theorem Tryd.cellsCipher : Tryd.prog.cellsOf 25 = 2 := by kernel_rfl
set_option maxRecDepth 100000 in
theorem open_cipher {H : Type} {enc : TypeId × Value → H} {W : World} {base : Nat} {v : Value} {d : DataW H} {p : List MemPlace} (hv : Value.okWide Tryd.prog W .any base 25 v)
    (h : DataW.Trod enc Tryd.prog W 0 (fun _ => true) true 25 v d p) :
    ∃ (ka : Option Addr) (n kc : Nat) (z : Nat → Int) (la : Option Addr) (R lc : Nat) (vs : Nat → Value) (ns : Nat → Nat) (zs : Nat → Nat → Int), v = .agg #[.slice ka n kc, .slice la R lc] ∧ NumsAt W (.slice ka n kc) n z ∧ n ≤ maxLen ∧ TabAt W (.slice la R lc) R vs ns zs ∧ R ≤ maxLen ∧ Roomy R vs ns ∧ sumT ns R ≤ Rows.uptoBulk d := by
  obtain ⟨c0, c1, y0, y1, m, rfl, rfl, rfl, hy0, hy1⟩ := open_agg2 Tryd.underlying25 (by kernel_rfl) Tryd.cellsCipher hv h
  have hk : ∃ (ka : Option Addr) (n kc : Nat) (z : Nat → Int), c0 = .slice ka n kc ∧ NumsAt W (.slice ka n kc) n z ∧ n ≤ maxLen := by
    rcases open_ints Tryd.underlying22 Tryd.underlying3 Tryd.cellsInt hy0 with ⟨hc, _⟩ | ⟨a, len, cap', zs, hc, _, hl, hm, hz, _, hcell, _⟩
    · simp at hc
      subst hc
      exact ⟨none, 0, 0, fun _ => 0, rfl, Or.inl ⟨none, 0, rfl, rfl⟩, Nat.zero_le _⟩
    · simp at hc
      subst hc
      simp only [if_true] at hz
      rcases Nat.eq_zero_or_pos len with rfl | hpos
      · exact ⟨some a, 0, cap', fun _ => 0, rfl, Or.inl ⟨some a, cap', rfl, rfl⟩, Nat.zero_le _⟩
      · obtain ⟨b, o, spot⟩ := a
        have hspot : spot = none := by simpa [Addr.add] using World.cell?_spot (hcell 0 (by omega))
        subst hspot
        refine ⟨_, len, cap', fun i => zs.getD i 0, rfl, Or.inr ⟨b, o, cap', rfl, hpos, fun i hi => ?_⟩, by omega⟩
        have := hcell i (by omega)
        rw [Go.Proofs.YtdlbnolnkmhdcaaDoor.add_plain] at this
        exact this
  obtain ⟨ka, n, kc, z, rfl, hkn, hkm⟩ := hk
  rcases open_int_rows Tryd.underlying23 Tryd.underlying22 Tryd.underlying3 Tryd.cellsInts Tryd.cellsInt hy1 with ⟨hc, _⟩ | ⟨a, R, cap, A, L, C, Z, hc, _, hl, hm, hx, hr⟩
  · simp at hc
    subst hc
    exact ⟨ka, n, kc, z, none, 0, 0, fun _ => .slice none 0 0, fun _ => 0, fun _ _ => 0, rfl, hkn, hkm, Or.inl ⟨none, 0, rfl, rfl⟩, Nat.zero_le _, fun i hi => by omega, Nat.zero_le _⟩
  · simp at hc
    subst hc
    obtain ⟨d1, p1⟩ := y1
    simp only [Prod.mk.injEq] at hx
    obtain ⟨rfl, _⟩ := hx
    have hbulk : sumT L R ≤ Rows.uptoBulk (DataW.slice ((List.range R).map fun r => intRow .i64 (A r) (L r) (Z r)) ((List.range (cap - R)).map fun j => intRow .i64 (A (R + j)) (L (R + j)) (Z (R + j))) : DataW H) := by
      have h1 := bulk_sum (H := H) (fun r => intRow .i64 (A r) (L r) (Z r)) L R (fun r hr' => by
        obtain ⟨_, h2, _, h4, _, h6, _⟩ := hr r (by omega)
        cases hA : A r with
        | none => have := h6 hA; omega
        | some a' =>
          have h7 := bulk_len (H := H) (lits .i64 ((Z r).take (L r)))
          have h8 : (lits (H := H) .i64 ((Z r).take (L r))).length = L r := by simp [lits]; omega
          simp only [intRow, Rows.uptoBulk]
          omega)
      simp only [Rows.uptoBulk]
      omega
    have hall : sumT L R ≤ Rows.uptoBulk (.agg [y0.1, DataW.slice ((List.range R).map fun r => intRow .i64 (A r) (L r) (Z r)) ((List.range (cap - R)).map fun j => intRow .i64 (A (R + j)) (L (R + j)) (Z (R + j)))] : DataW H) := by
      have h1 := bulk_mem (H := H) (d := DataW.slice ((List.range R).map fun r => intRow .i64 (A r) (L r) (Z r)) ((List.range (cap - R)).map fun j => intRow .i64 (A (R + j)) (L (R + j)) (Z (R + j)))) (l := [y0.1, DataW.slice ((List.range R).map fun r => intRow .i64 (A r) (L r) (Z r)) ((List.range (cap - R)).map fun j => intRow .i64 (A (R + j)) (L (R + j)) (Z (R + j)))]) (by simp)
      have h2 : Rows.uptoBulkAll [y0.1, DataW.slice ((List.range R).map fun r => intRow .i64 (A r) (L r) (Z r)) ((List.range (cap - R)).map fun j => intRow .i64 (A (R + j)) (L (R + j)) (Z (R + j)))] ≤ Rows.uptoBulk (.agg [y0.1, DataW.slice ((List.range R).map fun r => intRow .i64 (A r) (L r) (Z r)) ((List.range (cap - R)).map fun j => intRow .i64 (A (R + j)) (L (R + j)) (Z (R + j)))] : DataW H) := by
        simp only [Rows.uptoBulk]; omega
      omega
    have hroom : Roomy R (fun r => .slice (A r) (L r) (C r)) L := fun i hi => ⟨A i, C i, rfl, (hr i (by omega)).2.1⟩
    rcases Nat.eq_zero_or_pos R with rfl | hpos
    · exact ⟨ka, n, kc, z, some a, 0, cap, fun _ => .slice none 0 0, L, fun _ _ => 0, rfl, hkn, hkm, Or.inl ⟨some a, cap, rfl, rfl⟩, Nat.zero_le _, fun i hi => by omega, hall⟩
    · obtain ⟨b, o, spot⟩ := a
      have hspot : spot = none := by simpa [Addr.add] using World.cell?_spot (hr 0 (by omega)).1
      subst hspot
      refine ⟨ka, n, kc, z, _, R, cap, fun r => .slice (A r) (L r) (C r), L, fun r i => (Z r).getD i 0, rfl, hkn, hkm, Or.inr ⟨b, o, cap, rfl, hpos, fun i hi => ?_⟩, by omega, hroom, hall⟩
      obtain ⟨h1, h2, _, h4, _, h6, h7⟩ := hr i (by omega)
      rw [Go.Proofs.YtdlbnolnkmhdcaaDoor.add_plain] at h1
      refine ⟨h1, ?_⟩
      rcases Nat.eq_zero_or_pos (L i) with h0 | h0
      · exact Or.inl ⟨A i, C i, by dsimp only; rw [h0], h0⟩
      · cases hA : A i with
        | none => have := h6 hA; omega
        | some a' =>
          obtain ⟨_, h8⟩ := h7 a' hA
          obtain ⟨b', o', spot'⟩ := a'
          have hs' : spot' = none := by simpa [Addr.add] using World.cell?_spot (h8 0 (by omega))
          subst hs'
          refine Or.inr ⟨b', o', C i, by dsimp only; rw [hA], h0, fun j hj => ?_⟩
          have := h8 j (by omega)
          rw [Go.Proofs.YtdlbnolnkmhdcaaDoor.add_plain] at this
          exact this
end Go.Proofs.YtdlbnolnkmhdcaaDoor
