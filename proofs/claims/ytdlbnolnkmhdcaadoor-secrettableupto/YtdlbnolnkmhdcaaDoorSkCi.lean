/- What the laws do with a cipher: fewKeys, cipher (a copy); the document's SameInts of lists of one length. -/
import Derived.Test.YtdlbnolnkmhdcaaDoorSkPerf
import Derived.Test.YtdlbnolnkmhdcaaDoorTabCopy
import Derived.Test.YtdlbnolnkmhdcaaDoorSkCe
import Derived.Deep.DeepCutAuto
namespace Go.Proofs.YtdlbnolnkmhdcaaDoor
open Go.RowKit

set_option maxRecDepth 100000 in
set_option maxHeartbeats 1000000 in
theorem SameInts_gen (b o c b' o' c' n : Nat) (z y : Nat → Int) (w : World) (h : RowAt w b o n z) (h' : RowAt w b' o' n y) (hn : n ≤ 1000000) :
    Calls Tryd.prog 28 #[.slice (some ⟨b, o, none⟩) n c, .slice (some ⟨b', o', none⟩) n c'] w fun e w' => e = .returned (.bool (sameB z y n)) ∧ Below w.heap.size w w' := by
  have HR := Hid.mk' h
  have HK := Hid.mk' h'
  have hnn : ((n : Int) != (n : Int)) = false := by simp
  clear h h'
  go_enter Tryd.func28, Tryd.ntmps28
  go_wp2_with fail
  go_loopw [5] (fun i wr => ∃ k : Nat, k ≤ n ∧ i = .int .i64 k ∧ Hid (Below w.heap.size w wr) ∧ Hid (sameB z y k = true)) (fun i _ => n - (intOf i).toNat)
  case atStart => exact ⟨0, Nat.zero_le _, rfl, Below.refl _ _, rfl⟩
  case round =>
    obtain ⟨k, hk, rfl, HB, HS⟩ := hrel
    rcases Nat.lt_or_ge k n with h1 | h1
    · have hc := (HR.out.later HB.out) k h1
      have hd := (HK.out.later HB.out) k h1
      have hkn : (k : Int) < (n : Int) := by omega
      by_cases e : z k = y k
      · have HN := Hid.mk' (sameB_next HS.out e)
        rw [e] at hc
        generalize y k = x at *
        have hx : (x != x) = false := by simp
        clear e
        go_wp2_with fail
        go_region
        all_goals
          go_wp2_with fail
          exact ⟨⟨k + 1, h1, by go_num, HB.out.drew, HN⟩, by simp [intOf]; omega⟩
      · have HN := Hid.mk' (sameB_no e h1)
        have hx : (z k != y k) = true := by rw [bne_iff_ne]; exact e
        generalize y k = x at *
        generalize z k = x' at *
        clear e
        go_wp2_with fail
        go_region
        all_goals
          go_wp2_with fail
          go_ret
          exact ⟨by rw [HN.out]; rfl, HB.out.drew⟩
    · obtain rfl : k = n := by omega
      go_wp2_with fail
      go_ret
      exact ⟨by rw [HS.out]; rfl, HB.out⟩
theorem own_putS {w : World} {base : Nat} {t : TypeId} {sz : Nat} {v : Value} {n : Nat} {xs : List Value} (h : w.ownsRow base t sz v n xs) {a : Addr} (ha : a.block < base) (x : Value) : (w.setCell a x).ownsRow base t sz v n xs := by
  refine ⟨h.1, ?_⟩
  rcases h.2 with hn | ⟨g, cap, cur, hv, hg, hh, rest⟩
  · exact Or.inl hn
  · refine Or.inr ⟨g, cap, cur, hv, hg, ?_, rest⟩
    rw [Below.heap_setCell _ _ _ _ (fun e => by omega)]
    exact hh
/-- Few keys, few places. -/
def fewB (n R : Nat) (ns : Nat → Nat) : Bool := decide (n ≤ 100) && decide (R ≤ 40 ∧ sumT ns R ≤ 400)
set_option maxRecDepth 100000 in
set_option maxHeartbeats 1000000 in
theorem fewKeys_any (kv lv : Value) (n : Nat) (z : Nat → Int) (R : Nat) (vs : Nat → Value) (ns : Nat → Nat) (zs : Nat → Nat → Int) (w : World) (hk : NumsAt w kv n z) (hl : TabAt w lv R vs ns zs) (hn : n ≤ maxLen) (hR : R ≤ maxLen) (hs : sumT ns R ≤ 2000000) :
    Calls Tryd.prog 6 #[.agg #[kv, lv]] w fun e w' => e = .returned (.bool (fewB n R ns)) ∧ Below w.heap.size w w' := by
  obtain ⟨ka, kc, rfl⟩ := hk.form
  obtain ⟨la, lc, rfl⟩ := hl.form
  obtain ⟨w1, hw1⟩ : ∃ w1, w1 = w.alloc (.cells #[.slice ka n kc, .slice la R lc] 25) := ⟨_, rfl⟩
  have hb1 : Below w.heap.size w w1 := by rw [hw1]; exact (Below.refl _ _).alloc (Nat.le_refl _) _
  have HB1 := Hid.mk' hb1
  have HW1 := Hid.mk' hw1
  have hF := few_any _ R vs ns zs w1 (hl.later hb1) hR hs (decide (R ≤ 40 ∧ sumT ns R ≤ 400)) (by simp)
  clear hk hl hb1 hw1
  unfold maxLen at hn
  by_cases h : n ≤ 100
  · have hI : (n : Int) ≤ 100 := by omega
    have HE : Hid (fewB n R ns = decide (R ≤ 40 ∧ sumT ns R ≤ 400)) := by show _ = _; unfold fewB; rw [decide_eq_true h]; rfl
    generalize decide (R ≤ 40 ∧ sumT ns R ≤ 400) = q at *
    go_enter Tryd.func6, Tryd.ntmps6
    go_wp2_with fail
    rw [← HW1.out]
    refine hF.mono ?_
    rintro e w2 ⟨rfl, hb2⟩
    have HB2 := Hid.mk' (below_chS HB1.out hb2)
    clear hb2 hF
    go_wp2_with fail
    go_ret
    exact ⟨by rw [HE.out]; rfl, HB2.out⟩
  · have hI : decide ((n : Int) ≤ 100) = false := decide_eq_false (by omega)
    have HE : Hid (fewB n R ns = false) := by show _ = _; unfold fewB; rw [decide_eq_false h]; rfl
    clear hF
    go_enter Tryd.func6, Tryd.ntmps6
    go_wp2_with fail
    rw [← HW1.out]
    go_ret
    exact ⟨by rw [HE.out]; rfl, HB1.out⟩
set_option maxRecDepth 100000 in
set_option maxHeartbeats 4000000 in
theorem cipher_any (kv lv : Value) (n : Nat) (z : Nat → Int) (R : Nat) (vs : Nat → Value) (ns : Nat → Nat) (zs : Nat → Nat → Int) (w : World) (hk : NumsAt w kv n z) (hl : TabAt w lv R vs ns zs) (hn : n ≤ 100) (hR : R ≤ 40) (hs : sumT ns R ≤ 400) :
    Calls Tryd.prog 12 #[.agg #[kv, lv]] w fun e w' => ∃ kv' lv' vs', e = .returned (.agg #[kv', lv']) ∧ NumsAt w' kv' n z ∧ TabAt w' lv' R vs' ns zs ∧ Below w.heap.size w w' := by
  obtain ⟨ka, kc, rfl⟩ := hk.form
  obtain ⟨la, lc, rfl⟩ := hl.form
  obtain ⟨w1, hw1⟩ : ∃ w1, w1 = (w.alloc (.cells #[.slice ka n kc, .slice la R lc] 25)).alloc (.cells #[.slice none 0 0, .slice none 0 0] 36) := ⟨_, rfl⟩
  have hb1 : Below w.heap.size w w1 := by rw [hw1]; exact ((Below.refl _ _).alloc (Nat.le_refl _) _).alloc (by simp) _
  have hc0 : w1.cell? ⟨w.heap.size, 0, none⟩ = some (.slice ka n kc) := by rw [hw1]; go_simp
  have hc1 : w1.cell? ⟨w.heap.size, 1, none⟩ = some (.slice la R lc) := by rw [hw1]; go_simp
  have hd0 : w1.cell? ⟨w.heap.size + 1, 0, none⟩ = some (.slice none 0 0) := by rw [hw1]; go_simp
  have hd1 : w1.cell? ⟨w.heap.size + 1, 1, none⟩ = some (.slice none 0 0) := by rw [hw1]; go_simp
  have hfz : ∀ j, w1.frozen? ⟨w.heap.size + 1, j, none⟩ = false := fun j => by
    have h := World.frozen?_alloc_new (w.alloc (.cells #[.slice ka n kc, .slice la R lc] 25)) #[.slice none 0 0, .slice none 0 0] 36 j
    rw [World.size_alloc] at h
    rw [hw1]; exact h
  have HB1 := Hid.mk' hb1
  have HW1 := Hid.mk' hw1
  have HC : Hid (∀ W, Below w1.heap.size w1 W → W.cell? ⟨w.heap.size, 0, none⟩ = some (.slice ka n kc) ∧ W.cell? ⟨w.heap.size, 1, none⟩ = some (.slice la R lc)) := fun W hb => ⟨by rw [hb.cell (cell_lt hc0)]; exact hc0, by rw [hb.cell (cell_lt hc1)]; exact hc1⟩
  have HD : Hid (∀ W, Below w1.heap.size w1 W → (W.cell? ⟨w.heap.size + 1, 0, none⟩ = some (.slice none 0 0) ∧ W.cell? ⟨w.heap.size + 1, 1, none⟩ = some (.slice none 0 0)) ∧ W.frozen? ⟨w.heap.size + 1, 0, none⟩ = false ∧ W.frozen? ⟨w.heap.size + 1, 1, none⟩ = false) := fun W hb => ⟨⟨by rw [hb.cell (cell_lt hd0)]; exact hd0, by rw [hb.cell (cell_lt hd1)]; exact hd1⟩, by rw [hb.frozen (cell_lt hd0)]; exact hfz 0, by rw [hb.frozen (cell_lt hd1)]; exact hfz 1⟩
  have HIN := Hid.mk' (fun (W : World) (hb : Below w1.heap.size w1 W) => ints_row _ n z W ((hk.later hb1).later hb) (by omega))
  have HLI := Hid.mk' (fun (W : World) (hb : Below w1.heap.size w1 W) => lists_own _ R vs ns zs W ((hl.later hb1).later hb) hR hs)
  have HS1 : Hid (w1.heap.size = w.heap.size + 1 + 1) := by show _ = _; rw [hw1]; simp
  have hcur0 : Below w1.heap.size w1 w1 := Below.refl _ _
  have hcur : Below w1.heap.size w1 w1.drew := (Below.refl _ _).drew
  clear hk hl hb1 hw1 hd0 hd1 hfz hc0 hc1
  go_enter Tryd.func12, Tryd.ntmps12
  go_upto_region 1 with fail
  rw [← HW1.out]
  have hc0 := (HC.out w1 hcur0).1
  have hc1 := (HC.out w1 hcur0).2
  go_region_with (first
    | (go_at_call 26; refine (HLI.out _ hcu5).mono ?_; rintro e w6 ⟨v6, vs6, rfl, ho6, hn6, hb6⟩; obtain ⟨a6, c6, rfl, _⟩ := row_shape ho6; have hcu6 := below_chS hcu5 hb6; obtain ⟨⟨d0, d1⟩, f0, f1⟩ := HD.out _ hcu6; have HO6 := Hid.mk' (ho6.mono hcu5.size); have HN6 : Hid (∀ i, i < R → w6.ownsRow w1.heap.size 3 1 (vs6 i) (ns i) (numCells (zs i) (ns i))) := (fun i hi => (hn6 i hi).mono hcu5.size); have HV6 := Hid.mk' (own_past HV5.out hb6); clear hb6 ho6 hn6)
    | (go_at_call 13; refine (HIN.out _ hcur).mono ?_; rintro e w5 ⟨v5, rfl, hv5, hb5⟩; obtain ⟨a5, c5, rfl, _⟩ := row_shape hv5; have hcu5 := below_chS hcur hb5; have y1 := (HC.out _ hcu5).2; have HV5 := Hid.mk' (hv5.mono hcur.size); clear hb5 hv5))
  all_goals
    go_wp2_with fail
    have hs1 := HS1.out
    have HBE : Hid (Below w.heap.size w ((w6.setCell ⟨w.heap.size + 1, 0, none⟩ (.slice a5 n c5)).setCell ⟨w.heap.size + 1, 1, none⟩ (.slice a6 R c6))) := ((below_chS HB1.out hcu6).setCell (by simp) _).setCell (by simp) _
    have G0 : ((w6.setCell ⟨w.heap.size + 1, 0, none⟩ (.slice a5 n c5)).setCell ⟨w.heap.size + 1, 1, none⟩ (.slice a6 R c6)).cell? ⟨w.heap.size + 1, 0, none⟩ = some (.slice a5 n c5) := by rw [World.cell?_setCell_other _ _ _ _ (by simp)]; exact World.cell?_setCell_same _ _ _ d0
    have G1 : ((w6.setCell ⟨w.heap.size + 1, 0, none⟩ (.slice a5 n c5)).setCell ⟨w.heap.size + 1, 1, none⟩ (.slice a6 R c6)).cell? ⟨w.heap.size + 1, 1, none⟩ = some (.slice a6 R c6) := World.cell?_setCell_same _ _ _ (by rw [World.cell?_setCell_other _ _ _ _ (by simp)]; exact d1)
    have N0 : NumsAt ((w6.setCell ⟨w.heap.size + 1, 0, none⟩ (.slice a5 n c5)).setCell ⟨w.heap.size + 1, 1, none⟩ (.slice a6 R c6)) (.slice a5 n c5) n z := numsAt_own (own_putS (own_putS HV6.out (by simp; omega) _) (by simp; omega) _)
    have T0 : TabAt ((w6.setCell ⟨w.heap.size + 1, 0, none⟩ (.slice a5 n c5)).setCell ⟨w.heap.size + 1, 1, none⟩ (.slice a6 R c6)) (.slice a6 R c6) R vs6 ns zs := tabAt_of_row (own_putS (own_putS HO6.out (by simp; omega) _) (by simp; omega) _) (fun i hi => numsAt_own (own_putS (own_putS (HN6.out i hi) (by simp; omega) _) (by simp; omega) _))
    generalize (w6.setCell ⟨w.heap.size + 1, 0, none⟩ (.slice a5 n c5)).setCell ⟨w.heap.size + 1, 1, none⟩ (.slice a6 R c6) = W9 at *
    exact bodyPost_ret (v := .agg #[.slice a5 n c5, .slice a6 R c6]) (by simp [results, Tryd.results12, go_sem, G0, G1]) rfl ⟨_, _, vs6, rfl, N0, T0, HBE.out⟩
end Go.Proofs.YtdlbnolnkmhdcaaDoor
