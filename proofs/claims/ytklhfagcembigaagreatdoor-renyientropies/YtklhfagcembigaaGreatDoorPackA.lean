/- The document's SignedAdd. -/
import Derived.Test.YtklhfagcembigaaGreatDoorSigned
import Derived.Deep.CutRange
import Derived.Test.YtklhfagcembigaaGreatDoorWideMath
import Derived.Test.YtklhfagcembigaaGreatDoorLastOp
import Derived.WalkKit
import Derived.Laws.BitsAllLaws
import Derived.Test.YtklhfagcembigaaGreatDoorRyNum
import Derived.Test.YtklhfagcembigaaGreatDoorRyGs
import Derived.Test.YtklhfagcembigaaGreatDoorRyUni
namespace Go.Proofs.YtklhfagcembigaaGreatDoor
open Go.RowKit

theorem below_res {W0 w1 : World} {B : Nat} (h : Below B W0 w1) (x y : Value) : Below B W0 ((w1.setCell ⟨B, 0, none⟩ x).setCell ⟨B, 1, none⟩ y) := (h.setCell (Nat.le_refl _) _).setCell (Nat.le_refl _) _
theorem add_same {x y : Int} {s : Bool} (h1 : decide (x < 0) = s) (h2 : decide (y < 0) = s) : decide (x + y < 0) = s ∧ (x + y).natAbs = x.natAbs + y.natAbs := by
  cases s
  · have hx := of_decide_eq_false h1
    have hy := of_decide_eq_false h2
    exact ⟨decide_eq_false (by omega), by omega⟩
  · have hx := of_decide_eq_true h1
    have hy := of_decide_eq_true h2
    exact ⟨decide_eq_true (by omega), by omega⟩

set_option maxRecDepth 10000 in
set_option maxHeartbeats 2000000 in
theorem SignedAdd_same (u1 u2 : Value) (x y : Int) (s : Bool) (k : Nat) (w : World) (hs1 : decide (x < 0) = s) (hs2 : decide (y < 0) = s) (hu1 : BigAt w u1 x.natAbs) (hu2 : BigAt w u2 y.natAbs) (hx : x.natAbs < 1000000 ^ k) (hy : y.natAbs < 1000000 ^ k) (hk : k ≤ 1000000) :
    Calls Tryz.prog 85 #[.agg #[.bool s, u1], .agg #[.bool s, u2]] w fun e w' => ∃ r, e = .returned r ∧ SignedAt w' r (x + y) ∧ Below w.heap.size w w' := by
  obtain ⟨ad1, l1, cap1, rfl, _⟩ := hu1.len
  obtain ⟨ad2, l2, cap2, rfl, _⟩ := hu2.len
  obtain ⟨hsg, hab⟩ := add_same hs1 hs2
  have hB0 : Below w.heap.size w (((w.alloc (.cells #[.bool s, .slice ad1 l1 cap1] 55)).alloc (.cells #[.bool s, .slice ad2 l2 cap2] 55)).alloc (.cells #[.bool false, .slice none 0 0] 55)) := (((Below.refl _ _).alloc (Nat.le_refl _) _).alloc (by simp) _).alloc (by simp; omega) _
  have hN := noInts_third w (.cells #[.bool s, .slice ad1 l1 cap1] 55) (.cells #[.bool s, .slice ad2 l2 cap2] 55) 55
  have hTP := fun (w1 : World) => three_past (w := w) (w1 := w1) (x0 := .bool s) (x1 := .slice ad1 l1 cap1) (y0 := .bool s) (y1 := .slice ad2 l2 cap2) (r0 := .bool false) (r1 := .slice none 0 0) (t := 55)
  have hz0 : w.heap.size + 1 + 1 + 1 = (((w.alloc (.cells #[.bool s, .slice ad1 l1 cap1] 55)).alloc (.cells #[.bool s, .slice ad2 l2 cap2] 55)).alloc (.cells #[.bool false, .slice none 0 0] 55)).heap.size := by simp
  generalize hW : (((w.alloc (.cells #[.bool s, .slice ad1 l1 cap1] 55)).alloc (.cells #[.bool s, .slice ad2 l2 cap2] 55)).alloc (.cells #[.bool false, .slice none 0 0] 55)) = W0 at hB0 hN hTP hz0
  have hadd := BigAdd_any _ _ _ _ k W0.drew ((hu1.later hB0).later ((Below.refl _ _).drew)) ((hu2.later hB0).later ((Below.refl _ _).drew)) hx hy hk
  rw [← hab] at hadd
  have hKS : ∀ W, Below (w.heap.size + 1 + 1) W0 W → W.cell? ⟨w.heap.size, 0, none⟩ = some (.bool s) ∧ W.cell? ⟨w.heap.size, 1, none⟩ = some (.slice ad1 l1 cap1) ∧ W.cell? ⟨w.heap.size + 1, 1, none⟩ = some (.slice ad2 l2 cap2) := fun W hb => by
    obtain ⟨⟨a0, a1⟩, ⟨b0, b1⟩, _⟩ := hTP W0 (Below.refl _ _)
    exact ⟨by rw [hb.cell (p := ⟨w.heap.size, 0, none⟩) (by show w.heap.size < _; omega)]; exact a0, by rw [hb.cell (p := ⟨w.heap.size, 1, none⟩) (by show w.heap.size < _; omega)]; exact a1, by rw [hb.cell (p := ⟨w.heap.size + 1, 1, none⟩) (by show w.heap.size + 1 < _; omega)]; exact b1⟩
  have HKS := Hid.mk' hKS
  have HW := Hid.mk' hW
  have HTP := Hid.mk' hTP
  have HN := Hid.mk' hN
  have HB := Hid.mk' hB0
  have HSG := Hid.mk' hsg
  have HADD := Hid.mk' hadd
  have hcur0 : Below (w.heap.size + 1 + 1) W0 W0 := Below.refl _ _
  have hcur : Below (w.heap.size + 1 + 1) W0 W0.drew := (Below.refl _ _).drew
  have a0 := (HTP.out W0 (Below.refl _ _)).1.1
  have b0 := (HTP.out W0 (Below.refl _ _)).2.1.1
  have hss : (s == s) = true := by simp
  clear hs1 hs2 hu1 hu2 hx hy hB0 hKS hsg hab hN hTP hadd hW
  go_enter Tryz.func85, Tryz.ntmps85
  go_wp2_with fail
  rw [HW.out]
  go_region_held3 (fun W => W.cell? ⟨w.heap.size, 0, none⟩ = some (.bool s) ∧ W.cell? ⟨w.heap.size, 1, none⟩ = some (.slice ad1 l1 cap1) ∧ W.cell? ⟨w.heap.size + 1, 1, none⟩ = some (.slice ad2 l2 cap2))
    (first | exact HKS.out _ hcur0 | exact HKS.out _ hcur | exact HKS.out _ hc1 | exact HKS.out _ (below_res hc1 _ _))
    (first
      | (go_at_call 87; refine HADD.out.mono ?_; rintro e w1 ⟨u, rfl, hu, hb1⟩; obtain ⟨ad, l, cap, rfl, _⟩ := hu.len; have hbw := below_chain ((Below.refl _ _).drew) hb1; have hc1 : Below (w.heap.size + 1 + 1) W0 w1 := hbw.mono (by omega); obtain ⟨_, _, ⟨c0, c1⟩, f0, f1⟩ := HTP.out w1 hbw; have HU := Hid.mk' hu; have HBW := Hid.mk' hbw; clear hu hb1 hbw))
  go_wp2_with fail
  refine bodyPost_ret (v := .agg #[.bool s, .slice ad l cap]) (by simp [results, Tryz.results85, go_sem, c0, c1]) rfl ⟨_, rfl, ⟨.slice ad l cap, by rw [HSG.out], ?_⟩, ?_⟩
  · exact HU.out.set2 (HN.out.later (by omega) HBW.out) c0 c1
  · exact ((below_chain HB.out HBW.out).setCell (by simp; omega) _).setCell (by simp; omega) _

set_option maxRecDepth 10000 in
set_option maxHeartbeats 2000000 in
theorem SignedAdd_more (u1 u2 : Value) (x y : Int) (s1 s2 : Bool) (k : Nat) (w : World) (hs1 : decide (x < 0) = s1) (hs2 : decide (y < 0) = s2) (hne : s1 ≠ s2) (hu1 : BigAt w u1 x.natAbs) (hu2 : BigAt w u2 y.natAbs) (hx : x.natAbs < 1000000 ^ k) (hy : y.natAbs < 1000000 ^ k) (hk : k ≤ 1000000) (hle : y.natAbs ≤ x.natAbs) :
    Calls Tryz.prog 85 #[.agg #[.bool s1, u1], .agg #[.bool s2, u2]] w fun e w' => ∃ r, e = .returned r ∧ SignedAt w' r (x + y) ∧ Below w.heap.size w w' := by
  obtain ⟨ad1, l1, cap1, rfl, _⟩ := hu1.len
  obtain ⟨ad2, l2, cap2, rfl, _⟩ := hu2.len
  have hB0 : Below w.heap.size w (((w.alloc (.cells #[.bool s1, .slice ad1 l1 cap1] 55)).alloc (.cells #[.bool s2, .slice ad2 l2 cap2] 55)).alloc (.cells #[.bool false, .slice none 0 0] 55)) := (((Below.refl _ _).alloc (Nat.le_refl _) _).alloc (by simp) _).alloc (by simp; omega) _
  have hN := noInts_third w (.cells #[.bool s1, .slice ad1 l1 cap1] 55) (.cells #[.bool s2, .slice ad2 l2 cap2] 55) 55
  have hTP := fun (w1 : World) => three_past (w := w) (w1 := w1) (x0 := .bool s1) (x1 := .slice ad1 l1 cap1) (y0 := .bool s2) (y1 := .slice ad2 l2 cap2) (r0 := .bool false) (r1 := .slice none 0 0) (t := 55)
  have hz0 : w.heap.size + 1 + 1 + 1 = (((w.alloc (.cells #[.bool s1, .slice ad1 l1 cap1] 55)).alloc (.cells #[.bool s2, .slice ad2 l2 cap2] 55)).alloc (.cells #[.bool false, .slice none 0 0] 55)).heap.size := by simp
  generalize hW : (((w.alloc (.cells #[.bool s1, .slice ad1 l1 cap1] 55)).alloc (.cells #[.bool s2, .slice ad2 l2 cap2] 55)).alloc (.cells #[.bool false, .slice none 0 0] 55)) = W0 at hB0 hN hTP hz0
  have hcmp := BigCmp_any _ _ _ _ k W0 (hu1.later hB0) (hu2.later hB0) hx hy hk
  have HU12 := Hid.mk' (And.intro (hu1.later hB0) (hu2.later hB0))
  have HXY := Hid.mk' (And.intro hx hy)
  have HLE := Hid.mk' hle
  have HW := Hid.mk' hW
  have HTP := Hid.mk' hTP
  have HN := Hid.mk' hN
  have HB := Hid.mk' hB0
  have hss : (s1 == s2) = false := by simpa using hne
  have hz : 0 ≤ cmpOf x.natAbs y.natAbs := by
    rcases Nat.lt_or_ge y.natAbs x.natAbs with h | h
    · rw [cmpOf_gt h]; omega
    · rw [cmpOf_eq (by omega)]; omega
  have hab : (x + y).natAbs = x.natAbs - y.natAbs ∧ (s1 = false → decide (x + y < 0) = false) ∧ (s1 = true → ((x + y).natAbs = 0 → decide (x + y < 0) = false) ∧ ((x + y).natAbs ≠ 0 → decide (x + y < 0) = true)) := by
    cases s1 <;> cases s2
    · exact absurd rfl hne
    · have h1 := of_decide_eq_false hs1
      have h2 := of_decide_eq_true hs2
      exact ⟨by omega, fun _ => decide_eq_false (by omega), fun h => by cases h⟩
    · have h1 := of_decide_eq_true hs1
      have h2 := of_decide_eq_false hs2
      exact ⟨by omega, (fun h => by cases h), fun _ => ⟨fun h => decide_eq_false (by omega), fun h => decide_eq_true (by omega)⟩⟩
    · exact absurd rfl hne
  have HAB := Hid.mk' hab
  clear hs1 hs2 hu1 hu2 hx hy hB0 hN hTP hW hle hab hne
  generalize cmpOf x.natAbs y.natAbs = cz at hcmp hz
  have a0 := (HTP.out W0 (Below.refl _ _)).1.1
  have a1 := (HTP.out W0 (Below.refl _ _)).1.2
  have b0 := (HTP.out W0 (Below.refl _ _)).2.1.1
  have b1 := (HTP.out W0 (Below.refl _ _)).2.1.2
  go_enter Tryz.func85, Tryz.ntmps85
  go_wp2_with fail
  rw [HW.out]
  refine hcmp.mono ?_
  clear hcmp a0 a1 b0 b1
  rintro e w1 ⟨rfl, m1, hw1⟩
  have hb1 : Below W0.heap.size W0 w1 := by rw [hw1]; exact below_drewN (Below.refl _ _) _
  clear hw1
  obtain ⟨⟨a0, a1⟩, ⟨b0, b1⟩, _⟩ := HTP.out w1 hb1
  have hsub := BigSub_any _ _ _ _ k w1 (HU12.out.1.later hb1) (HU12.out.2.later hb1) HLE.out HXY.out.1 hk
  rw [← HAB.out.1] at hsub
  have HB1 := Hid.mk' hb1
  clear hb1
  go_wp2_with fail
  refine hsub.mono ?_
  clear hsub a0 a1 b0 b1
  rintro e w2 ⟨u, rfl, hu, hb2⟩
  obtain ⟨ad, l, cap, rfl, hl⟩ := hu.len
  have hbw := below_chain HB1.out hb2
  obtain ⟨⟨a0, a1⟩, ⟨b0, b1⟩, ⟨c0, c1⟩, f0, f1⟩ := HTP.out w2 hbw
  have HU := Hid.mk' hu
  have HBW := Hid.mk' hbw
  have HL := Hid.mk' hl
  have HDS := Hid.mk' HAB.out.2
  clear hu hb2 hbw hl HAB
  cases s1
  · have HD : Hid (decide (x + y < 0) = false) := HDS.out.1 rfl
    go_wp2_with fail
    refine bodyPost_ret (v := .agg #[.bool false, .slice ad l cap]) (by simp [results, Tryz.results85, go_sem, c0, c1]) rfl ⟨_, rfl, ⟨.slice ad l cap, by rw [HD.out], HU.out.set2 (HN.out.later (by omega) HBW.out) c0 c1⟩, ((below_chain HB.out HBW.out).setCell (by simp; omega) _).setCell (by simp; omega) _⟩
  · rcases Nat.eq_zero_or_pos l with h0 | h0
    · have HD : Hid (decide (x + y < 0) = false) := (HDS.out.2 rfl).1 (HL.out.1 h0)
      subst h0
      go_wp2_with fail
      refine bodyPost_ret (v := .agg #[.bool false, .slice ad 0 cap]) (by simp [results, Tryz.results85, go_sem, c0, c1]) rfl ⟨_, rfl, ⟨.slice ad 0 cap, by rw [HD.out], HU.out.set2 (HN.out.later (by omega) HBW.out) c0 c1⟩, ((below_chain HB.out HBW.out).setCell (by simp; omega) _).setCell (by simp; omega) _⟩
    · have HD : Hid (decide (x + y < 0) = true) := (HDS.out.2 rfl).2 (fun h => by have := HL.out.2 h; omega)
      have hl0 : (0 : Int) < (l : Int) := by omega
      go_wp2_with fail
      refine bodyPost_ret (v := .agg #[.bool true, .slice ad l cap]) (by simp [results, Tryz.results85, go_sem, c0, c1] <;> omega) rfl ⟨_, rfl, ⟨.slice ad l cap, by rw [HD.out], HU.out.set2 (HN.out.later (by omega) HBW.out) c0 c1⟩, ((below_chain HB.out HBW.out).setCell (by simp; omega) _).setCell (by simp; omega) _⟩

set_option maxRecDepth 10000 in
set_option maxHeartbeats 2000000 in
theorem SignedAdd_less (u1 u2 : Value) (x y : Int) (s1 s2 : Bool) (k : Nat) (w : World) (hs1 : decide (x < 0) = s1) (hs2 : decide (y < 0) = s2) (hne : s1 ≠ s2) (hu1 : BigAt w u1 x.natAbs) (hu2 : BigAt w u2 y.natAbs) (hx : x.natAbs < 1000000 ^ k) (hy : y.natAbs < 1000000 ^ k) (hk : k ≤ 1000000) (hle : x.natAbs < y.natAbs) :
    Calls Tryz.prog 85 #[.agg #[.bool s1, u1], .agg #[.bool s2, u2]] w fun e w' => ∃ r, e = .returned r ∧ SignedAt w' r (x + y) ∧ Below w.heap.size w w' := by
  obtain ⟨ad1, l1, cap1, rfl, _⟩ := hu1.len
  obtain ⟨ad2, l2, cap2, rfl, _⟩ := hu2.len
  have hB0 : Below w.heap.size w (((w.alloc (.cells #[.bool s1, .slice ad1 l1 cap1] 55)).alloc (.cells #[.bool s2, .slice ad2 l2 cap2] 55)).alloc (.cells #[.bool false, .slice none 0 0] 55)) := (((Below.refl _ _).alloc (Nat.le_refl _) _).alloc (by simp) _).alloc (by simp; omega) _
  have hN := noInts_third w (.cells #[.bool s1, .slice ad1 l1 cap1] 55) (.cells #[.bool s2, .slice ad2 l2 cap2] 55) 55
  have hTP := fun (w1 : World) => three_past (w := w) (w1 := w1) (x0 := .bool s1) (x1 := .slice ad1 l1 cap1) (y0 := .bool s2) (y1 := .slice ad2 l2 cap2) (r0 := .bool false) (r1 := .slice none 0 0) (t := 55)
  have hz0 : w.heap.size + 1 + 1 + 1 = (((w.alloc (.cells #[.bool s1, .slice ad1 l1 cap1] 55)).alloc (.cells #[.bool s2, .slice ad2 l2 cap2] 55)).alloc (.cells #[.bool false, .slice none 0 0] 55)).heap.size := by simp
  generalize hW : (((w.alloc (.cells #[.bool s1, .slice ad1 l1 cap1] 55)).alloc (.cells #[.bool s2, .slice ad2 l2 cap2] 55)).alloc (.cells #[.bool false, .slice none 0 0] 55)) = W0 at hB0 hN hTP hz0
  have hcmp := BigCmp_any _ _ _ _ k W0 (hu1.later hB0) (hu2.later hB0) hx hy hk
  have HU12 := Hid.mk' (And.intro (hu1.later hB0) (hu2.later hB0))
  have HXY := Hid.mk' (And.intro hx hy)
  have HLE := Hid.mk' hle
  have HW := Hid.mk' hW
  have HTP := Hid.mk' hTP
  have HN := Hid.mk' hN
  have HB := Hid.mk' hB0
  have hss : (s1 == s2) = false := by simpa using hne
  have hz : cmpOf x.natAbs y.natAbs < 0 := by rw [cmpOf_lt hle]; omega
  have hab : (x + y).natAbs = y.natAbs - x.natAbs ∧ decide (x + y < 0) = s2 := by
    cases s1 <;> cases s2
    · exact absurd rfl hne
    · have h1 := of_decide_eq_false hs1
      have h2 := of_decide_eq_true hs2
      exact ⟨by omega, decide_eq_true (by omega)⟩
    · have h1 := of_decide_eq_true hs1
      have h2 := of_decide_eq_false hs2
      exact ⟨by omega, decide_eq_false (by omega)⟩
    · exact absurd rfl hne
  have HAB := Hid.mk' hab
  clear hs1 hs2 hu1 hu2 hx hy hB0 hN hTP hW hle hab hne
  generalize cmpOf x.natAbs y.natAbs = cz at hcmp hz
  have a0 := (HTP.out W0 (Below.refl _ _)).1.1
  have a1 := (HTP.out W0 (Below.refl _ _)).1.2
  have b0 := (HTP.out W0 (Below.refl _ _)).2.1.1
  have b1 := (HTP.out W0 (Below.refl _ _)).2.1.2
  go_enter Tryz.func85, Tryz.ntmps85
  go_wp2_with fail
  rw [HW.out]
  refine hcmp.mono ?_
  clear hcmp a0 a1 b0 b1
  rintro e w1 ⟨rfl, m1, hw1⟩
  have hb1 : Below W0.heap.size W0 w1 := by rw [hw1]; exact below_drewN (Below.refl _ _) _
  clear hw1
  have hb1d : Below W0.heap.size W0 w1.drew := hb1.drew
  have hsub := BigSub_any _ _ _ _ k w1.drew (HU12.out.2.later hb1d) (HU12.out.1.later hb1d) (Nat.le_of_lt HLE.out) HXY.out.2 hk
  rw [← HAB.out.1] at hsub
  have HSUB := Hid.mk' hsub
  have hKS : ∀ W, Below (w.heap.size + 1 + 1) W0 W → W.cell? ⟨w.heap.size + 1, 0, none⟩ = some (.bool s2) ∧ W.cell? ⟨w.heap.size, 1, none⟩ = some (.slice ad1 l1 cap1) ∧ W.cell? ⟨w.heap.size + 1, 1, none⟩ = some (.slice ad2 l2 cap2) := fun W hb => by
    obtain ⟨⟨a0, a1⟩, ⟨b0, b1⟩, _⟩ := HTP.out W0 (Below.refl _ _)
    exact ⟨by rw [hb.cell (p := ⟨w.heap.size + 1, 0, none⟩) (by show w.heap.size + 1 < _; omega)]; exact b0, by rw [hb.cell (p := ⟨w.heap.size, 1, none⟩) (by show w.heap.size < _; omega)]; exact a1, by rw [hb.cell (p := ⟨w.heap.size + 1, 1, none⟩) (by show w.heap.size + 1 < _; omega)]; exact b1⟩
  have HKS := Hid.mk' hKS
  have hcur0 : Below (w.heap.size + 1 + 1) W0 w1 := hb1.mono (by omega)
  have hcur : Below (w.heap.size + 1 + 1) W0 w1.drew := hcur0.drew
  have HB1 := Hid.mk' hb1d
  clear hsub hKS hb1 hb1d
  go_wp2_with fail
  go_region_held3 (fun W => W.cell? ⟨w.heap.size + 1, 0, none⟩ = some (.bool s2) ∧ W.cell? ⟨w.heap.size, 1, none⟩ = some (.slice ad1 l1 cap1) ∧ W.cell? ⟨w.heap.size + 1, 1, none⟩ = some (.slice ad2 l2 cap2))
    (first | exact HKS.out _ hcur0 | exact HKS.out _ hcur | exact HKS.out _ hc1 | exact HKS.out _ (below_res hc1 _ _))
    (first
      | (go_at_call 88; refine HSUB.out.mono ?_; rintro e w2 ⟨u, rfl, hu, hb2⟩; obtain ⟨ad, l, cap, rfl, _⟩ := hu.len; have hbw := below_chain HB1.out hb2; have hc1 : Below (w.heap.size + 1 + 1) W0 w2 := hbw.mono (by omega); obtain ⟨_, _, ⟨c0, c1⟩, f0, f1⟩ := HTP.out w2 hbw; have HU := Hid.mk' hu; have HBW := Hid.mk' hbw; clear hu hb2 hbw))
  go_wp2_with fail
  refine bodyPost_ret (v := .agg #[.bool s2, .slice ad l cap]) (by simp [results, Tryz.results85, go_sem, c0, c1]) rfl ⟨_, rfl, ⟨.slice ad l cap, by rw [HAB.out.2], HU.out.set2 (HN.out.later (by omega) HBW.out) c0 c1⟩, ((below_chain HB.out HBW.out).setCell (by simp; omega) _).setCell (by simp; omega) _⟩

/-- SignedAdd of any two. -/
theorem SignedAdd_any (v1 v2 : Value) (x y : Int) (k : Nat) (w : World) (h1 : SignedAt w v1 x) (h2 : SignedAt w v2 y) (hx : x.natAbs < 1000000 ^ k) (hy : y.natAbs < 1000000 ^ k) (hk : k ≤ 1000000) :
    Calls Tryz.prog 85 #[v1, v2] w fun e w' => ∃ r, e = .returned r ∧ SignedAt w' r (x + y) ∧ Below w.heap.size w w' := by
  obtain ⟨u1, rfl, hu1⟩ := h1
  obtain ⟨u2, rfl, hu2⟩ := h2
  by_cases hs : decide (x < 0) = decide (y < 0)
  · rw [hs]
    exact SignedAdd_same u1 u2 x y _ k w hs rfl hu1 hu2 hx hy hk
  · rcases Nat.lt_or_ge x.natAbs y.natAbs with h | h
    · exact SignedAdd_less u1 u2 x y _ _ k w rfl rfl hs hu1 hu2 hx hy hk h
    · exact SignedAdd_more u1 u2 x y _ _ k w rfl rfl hs hu1 hu2 hx hy hk h
end Go.Proofs.YtklhfagcembigaaGreatDoor

/- The document's fractions: Lowest, RatioOf. -/
namespace Go.Proofs.YtklhfagcembigaaGreatDoor
open Go.RowKit

/-- A fraction. -/
def RatioAt (w : World) (v : Value) (n : Int) (d : Nat) : Prop := ∃ u q, v = .agg #[.bool (decide (n < 0)), u, q] ∧ BigAt w u n.natAbs ∧ BigAt w q d
theorem RatioAt.later {w w' : World} {v : Value} {n : Int} {d : Nat} (h : RatioAt w v n d) (hb : Below w.heap.size w w') : RatioAt w' v n d := by
  obtain ⟨u, q, rfl, h1, h2⟩ := h
  exact ⟨u, q, rfl, h1.later hb, h2.later hb⟩
theorem noInts_new3 (w : World) (a : Bool) (ad : Option Addr) (n cap : Nat) (ad' : Option Addr) (n' cap' : Nat) (t : TypeId) : NoInts (w.alloc (.cells #[.bool a, .slice ad n cap, .slice ad' n' cap'] t)) w.heap.size := fun j x e => by
  rw [World.cell?_alloc_at _ _ _ _ rfl] at e
  rcases j with _ | _ | _ | j
  · simp at e
  · simp at e
  · simp at e
  · simp at e
theorem BigAt.set3 {w : World} {u : Value} {n B : Nat} {x y : Value} {a : Bool} {ad : Option Addr} {l cap : Nat} {ad' : Option Addr} {l' cap' : Nat} (h : BigAt w u n) (hn : NoInts w B) (c0 : w.cell? ⟨B, 0, none⟩ = some x) (c1 : w.cell? ⟨B, 1, none⟩ = some y) : BigAt (((w.setCell ⟨B, 0, none⟩ (.bool a)).setCell ⟨B, 1, none⟩ (.slice ad l cap)).setCell ⟨B, 2, none⟩ (.slice ad' l' cap')) u n := by
  have h1 := hn.set c0 (y := .bool a) (fun x e => by cases e)
  have c1' : (w.setCell ⟨B, 0, none⟩ (.bool a)).cell? ⟨B, 1, none⟩ = some y := by rw [World.cell?_setCell_other _ _ _ _ (by simp)]; exact c1
  exact ((h.set hn).set h1).set (h1.set c1' (fun x e => by cases e))
theorem below_set3 {w1 w2 : World} {N B : Nat} (h : Below N w1 w2) (hB : N ≤ B) (x y z : Value) : Below N w1 (((w2.setCell ⟨B, 0, none⟩ x).setCell ⟨B, 1, none⟩ y).setCell ⟨B, 2, none⟩ z) := ((h.setCell hB _).setCell hB _).setCell hB _
/-- A box and a result, three cells each, behind a call. -/
theorem six_past {w w1 : World} {x0 x1 x2 r0 r1 r2 : Value} {t : TypeId} (hb : Below ((w.alloc (.cells #[x0, x1, x2] t)).alloc (.cells #[r0, r1, r2] t)).heap.size ((w.alloc (.cells #[x0, x1, x2] t)).alloc (.cells #[r0, r1, r2] t)) w1) :
    (w1.cell? ⟨w.heap.size, 0, none⟩ = some x0 ∧ w1.cell? ⟨w.heap.size, 1, none⟩ = some x1 ∧ w1.cell? ⟨w.heap.size, 2, none⟩ = some x2) ∧ (w1.cell? ⟨w.heap.size + 1, 0, none⟩ = some r0 ∧ w1.cell? ⟨w.heap.size + 1, 1, none⟩ = some r1 ∧ w1.cell? ⟨w.heap.size + 1, 2, none⟩ = some r2) ∧ w1.frozen? ⟨w.heap.size + 1, 0, none⟩ = false ∧ w1.frozen? ⟨w.heap.size + 1, 1, none⟩ = false ∧ w1.frozen? ⟨w.heap.size + 1, 2, none⟩ = false := by
  have a : ∀ j v, #[x0, x1, x2][j]? = some v → ((w.alloc (.cells #[x0, x1, x2] t)).alloc (.cells #[r0, r1, r2] t)).cell? ⟨w.heap.size, j, none⟩ = some v := fun j v h => by rw [World.cell?_alloc_lt _ _ ⟨w.heap.size, j, none⟩ (by simp), World.cell?_alloc_at _ _ _ _ rfl]; exact h
  have c : ∀ j v, #[r0, r1, r2][j]? = some v → ((w.alloc (.cells #[x0, x1, x2] t)).alloc (.cells #[r0, r1, r2] t)).cell? ⟨w.heap.size + 1, j, none⟩ = some v := fun j v h => by rw [World.cell?_alloc_at _ _ _ _ (by simp)]; exact h
  exact ⟨⟨(cell_past (a 0 x0 rfl) hb).2, (cell_past (a 1 x1 rfl) hb).2, (cell_past (a 2 x2 rfl) hb).2⟩, ⟨(cell_past (c 0 r0 rfl) hb).2, (cell_past (c 1 r1 rfl) hb).2, (cell_past (c 2 r2 rfl) hb).2⟩, (frozen_past (c 0 r0 rfl) (frozen_new (by simp)) hb).2, (frozen_past (c 1 r1 rfl) (frozen_new (by simp)) hb).2, (frozen_past (c 2 r2 rfl) (frozen_new (by simp)) hb).2⟩
theorem low_sign {n : Int} {g d : Nat} (hn : n ≠ 0) (hg : g = Nat.gcd n.natAbs d) (hd : 0 < d) : decide (n.tdiv (g : Int) < 0) = decide (n < 0) ∧ (n.tdiv (g : Int)).natAbs = n.natAbs / g := by
  have hgp : 0 < g := by rw [hg]; exact Nat.gcd_pos_of_pos_right _ hd
  have hdv : g ∣ n.natAbs := by rw [hg]; exact Nat.gcd_dvd_left _ _
  have hq : 0 < n.natAbs / g := Nat.div_pos (Nat.le_of_dvd (by omega) hdv) hgp
  have hab : (n.tdiv (g : Int)).natAbs = n.natAbs / g := by rw [Int.natAbs_tdiv, Int.natAbs_natCast]; rfl
  refine ⟨?_, hab⟩
  by_cases h : n < 0
  · rw [decide_eq_true h, decide_eq_true]
    obtain ⟨m, rfl⟩ : ∃ m : Nat, n = -(m : Int) := ⟨n.natAbs, by omega⟩
    have h1 : (m : Int).tdiv (g : Int) = ((m / g : Nat) : Int) := by simp
    rw [Int.neg_tdiv, h1]
    rw [Int.natAbs_neg, Int.natAbs_natCast] at hq
    generalize m / g = q at hq
    omega
  · rw [decide_eq_false h, decide_eq_false]
    have := Int.tdiv_nonneg (show 0 ≤ n by omega) (show (0 : Int) ≤ (g : Int) by omega)
    omega

set_option maxRecDepth 10000 in
set_option maxHeartbeats 2000000 in
/-- Lowest terms. -/
theorem Lowest_any (v : Value) (n : Int) (d k : Nat) (w : World) (h : RatioAt w v n d) (hd : 0 < d) (hn : n.natAbs < 1000000 ^ k) (hdk : d < 1000000 ^ k) (hk : k + 1 ≤ 1000000) :
    Calls Tryz.prog 64 #[v] w fun e w' => ∃ r, e = .returned r ∧ RatioAt w' r (n.tdiv ((Nat.gcd n.natAbs d : Nat) : Int)) (d / Nat.gcd n.natAbs d) ∧ Below w.heap.size w w' := by
  obtain ⟨u, q, rfl, hu, hq⟩ := h
  obtain ⟨ad1, l1, cap1, rfl, hl1⟩ := hu.len
  obtain ⟨ad2, l2, cap2, rfl, _⟩ := hq.len
  obtain ⟨s, hs⟩ : ∃ s, decide (n < 0) = s := ⟨_, rfl⟩
  rw [hs]
  have hB0 : Below w.heap.size w ((w.alloc (.cells #[.bool s, .slice ad1 l1 cap1, .slice ad2 l2 cap2] 57)).alloc (.cells #[.bool false, .slice none 0 0, .slice none 0 0] 57)) := ((Below.refl _ _).alloc (Nat.le_refl _) _).alloc (by simp) _
  have hN : NoInts ((w.alloc (.cells #[.bool s, .slice ad1 l1 cap1, .slice ad2 l2 cap2] 57)).alloc (.cells #[.bool false, .slice none 0 0, .slice none 0 0] 57)) (w.heap.size + 1) := by
    have := noInts_new3 (w.alloc (.cells #[.bool s, .slice ad1 l1 cap1, .slice ad2 l2 cap2] 57)) false none 0 0 none 0 0 57
    simpa using this
  have hSP := fun (w1 : World) => six_past (w := w) (w1 := w1) (x0 := .bool s) (x1 := .slice ad1 l1 cap1) (x2 := .slice ad2 l2 cap2) (r0 := .bool false) (r1 := .slice none 0 0) (r2 := .slice none 0 0) (t := 57)
  have hz0 : w.heap.size + 1 + 1 = ((w.alloc (.cells #[.bool s, .slice ad1 l1 cap1, .slice ad2 l2 cap2] 57)).alloc (.cells #[.bool false, .slice none 0 0, .slice none 0 0] 57)).heap.size := by simp
  generalize hW : ((w.alloc (.cells #[.bool s, .slice ad1 l1 cap1, .slice ad2 l2 cap2] 57)).alloc (.cells #[.bool false, .slice none 0 0, .slice none 0 0] 57)) = W0 at hB0 hN hSP hz0
  have HU := Hid.mk' (And.intro (hu.later hB0) (hq.later hB0))
  have HW := Hid.mk' hW
  have HSP := Hid.mk' hSP
  have HN := Hid.mk' hN
  have HB := Hid.mk' hB0
  have HBD := Hid.mk' (And.intro hn hdk)
  obtain ⟨⟨a0, a1, a2⟩, _⟩ := hSP W0 (Below.refl _ _)
  by_cases h0 : n = 0
  · subst h0
    have hl0 : l1 = 0 := hl1.2 rfl
    have hone := BigOf_any 1 W0 (by omega)
    subst hl0
    have hgd : Nat.gcd (0 : Int).natAbs d = d := Nat.gcd_zero_left d
    have HGD := Hid.mk' hgd
    clear hu hq hl1 hB0 hN hSP hW hn hdk hgd
    go_enter Tryz.func64, Tryz.ntmps64
    go_wp2_with fail
    rw [HW.out]
    refine hone.mono ?_
    clear hone a0 a1 a2
    rintro e w1 ⟨v1, rfl, hv1, hb1⟩
    obtain ⟨ad, l, cap, rfl, _⟩ := hv1.len
    obtain ⟨_, ⟨c0, c1, c2⟩, f0, f1, f2⟩ := HSP.out w1 hb1
    have HV := Hid.mk' hv1
    have HB1 := Hid.mk' hb1
    clear hv1 hb1
    go_wp2_with fail
    refine bodyPost_ret (v := .agg #[.bool false, .slice none 0 0, .slice ad l cap]) (by simp [results, Tryz.results64, go_sem, c0, c1, c2]) rfl ⟨_, rfl, ?_, ?_⟩
    · rw [HGD.out, Int.zero_tdiv, Nat.div_self hd]
      exact ⟨_, _, rfl, bigAt_zero _, HV.out.set3 (HN.out.later (by omega) HB1.out) c0 c1⟩
    · exact below_set3 (below_chain HB.out HB1.out) (by omega) _ _ _
  · have hl0 : ((l1 : Int) == 0) = false := by
      rw [beq_eq_false_iff_ne]
      have := hl1.1
      omega
    have hgp : 0 < Nat.gcd n.natAbs d := Nat.gcd_pos_of_pos_right _ hd
    have hgk : Nat.gcd n.natAbs d < 1000000 ^ k := Nat.lt_of_le_of_lt (Nat.gcd_le_right _ hd) hdk
    have hgk1 : Nat.gcd n.natAbs d < 1000000 ^ (k + 1) := Nat.lt_trans hgk (Nat.pow_lt_pow_right (by decide) (by omega))
    have hlow := low_sign (d := d) h0 rfl hd
    have hgcd := BigGcd_any _ _ _ _ k W0 HU.out.1 HU.out.2 hn hdk hk
    rw [hs] at hlow
    have HLOW := Hid.mk' hlow
    have HGP := Hid.mk' (And.intro hgp hgk1)
    clear hu hq hl1 hB0 hN hSP hW hn hdk hgp hgk hgk1 hlow hs
    generalize Nat.gcd n.natAbs d = g at *
    go_enter Tryz.func64, Tryz.ntmps64
    go_wp2_with fail
    rw [HW.out]
    refine hgcd.mono ?_
    clear hgcd a0 a1 a2
    rintro e w1 ⟨vg, rfl, hvg, hb1⟩
    obtain ⟨⟨a0, a1, a2⟩, _⟩ := HSP.out w1 hb1
    have hp1 := BigPart_any k hk _ HBD.out.1 _ g rfl HGP.out.1 HGP.out.2 (.slice ad1 l1 cap1) vg w1 (HU.out.1.later hb1) hvg
    have HVG := Hid.mk' hvg
    have HB1 := Hid.mk' hb1
    clear hvg hb1
    go_wp2_with fail
    refine hp1.mono ?_
    clear hp1 a0 a1 a2
    rintro e w2 ⟨p, r1, rfl, hp, _, hb2⟩
    have hbw2 := below_chain HB1.out hb2
    obtain ⟨⟨a0, a1, a2⟩, _⟩ := HSP.out w2 hbw2
    have hp2 := BigPart_any k hk d HBD.out.2 _ g rfl HGP.out.1 HGP.out.2 (.slice ad2 l2 cap2) vg w2 (HU.out.2.later hbw2) (HVG.out.later hb2)
    have HP := Hid.mk' hp
    have HB2 := Hid.mk' hbw2
    clear hp hb2 hbw2
    go_wp2_with fail
    refine hp2.mono ?_
    clear hp2 a0 a1 a2
    rintro e w3 ⟨qq, r2, rfl, hqq, _, hb3⟩
    have hbw3 := below_chain HB2.out hb3
    obtain ⟨⟨a0, a1, a2⟩, ⟨c0, c1, c2⟩, f0, f1, f2⟩ := HSP.out w3 hbw3
    have hp3 := HP.out.later hb3
    obtain ⟨ad, l, cap, rfl, _⟩ := hp3.len
    obtain ⟨ad', l', cap', rfl, _⟩ := hqq.len
    have HP3 := Hid.mk' hp3
    have HQ3 := Hid.mk' hqq
    have HB3 := Hid.mk' hbw3
    clear hp3 hqq hb3 hbw3 HP
    go_wp2_with fail
    refine bodyPost_ret (v := .agg #[.bool s, .slice ad l cap, .slice ad' l' cap']) (by simp [results, Tryz.results64, go_sem, c0, c1, c2]) rfl ⟨_, rfl, ⟨_, _, by rw [HLOW.out.1], by rw [HLOW.out.2]; exact HP3.out.set3 (HN.out.later (by omega) HB3.out) c0 c1, HQ3.out.set3 (HN.out.later (by omega) HB3.out) c0 c1⟩, below_set3 (below_chain HB.out HB3.out) (by omega) _ _ _⟩
end Go.Proofs.YtklhfagcembigaaGreatDoor

/- The document's fractions: RatioOf, Times, Plus. -/
namespace Go.Proofs.YtklhfagcembigaaGreatDoor
open Go.RowKit

/-- Two boxes and a result, three cells each, behind a call. -/
theorem nine_past {w w1 : World} {x0 x1 x2 y0 y1 y2 r0 r1 r2 : Value} {t : TypeId} (hb : Below (((w.alloc (.cells #[x0, x1, x2] t)).alloc (.cells #[y0, y1, y2] t)).alloc (.cells #[r0, r1, r2] t)).heap.size (((w.alloc (.cells #[x0, x1, x2] t)).alloc (.cells #[y0, y1, y2] t)).alloc (.cells #[r0, r1, r2] t)) w1) :
    (w1.cell? ⟨w.heap.size, 0, none⟩ = some x0 ∧ w1.cell? ⟨w.heap.size, 1, none⟩ = some x1 ∧ w1.cell? ⟨w.heap.size, 2, none⟩ = some x2) ∧ (w1.cell? ⟨w.heap.size + 1, 0, none⟩ = some y0 ∧ w1.cell? ⟨w.heap.size + 1, 1, none⟩ = some y1 ∧ w1.cell? ⟨w.heap.size + 1, 2, none⟩ = some y2) ∧ (w1.cell? ⟨w.heap.size + 1 + 1, 0, none⟩ = some r0 ∧ w1.cell? ⟨w.heap.size + 1 + 1, 1, none⟩ = some r1 ∧ w1.cell? ⟨w.heap.size + 1 + 1, 2, none⟩ = some r2) ∧ w1.frozen? ⟨w.heap.size + 1 + 1, 0, none⟩ = false ∧ w1.frozen? ⟨w.heap.size + 1 + 1, 1, none⟩ = false ∧ w1.frozen? ⟨w.heap.size + 1 + 1, 2, none⟩ = false := by
  have a : ∀ j v, #[x0, x1, x2][j]? = some v → (((w.alloc (.cells #[x0, x1, x2] t)).alloc (.cells #[y0, y1, y2] t)).alloc (.cells #[r0, r1, r2] t)).cell? ⟨w.heap.size, j, none⟩ = some v := fun j v h => by rw [World.cell?_alloc_lt _ _ ⟨w.heap.size, j, none⟩ (by simp; omega), World.cell?_alloc_lt _ _ ⟨w.heap.size, j, none⟩ (by simp), World.cell?_alloc_at _ _ _ _ rfl]; exact h
  have b : ∀ j v, #[y0, y1, y2][j]? = some v → (((w.alloc (.cells #[x0, x1, x2] t)).alloc (.cells #[y0, y1, y2] t)).alloc (.cells #[r0, r1, r2] t)).cell? ⟨w.heap.size + 1, j, none⟩ = some v := fun j v h => by rw [World.cell?_alloc_lt _ _ ⟨w.heap.size + 1, j, none⟩ (by simp), World.cell?_alloc_at _ _ _ _ (by simp)]; exact h
  have c : ∀ j v, #[r0, r1, r2][j]? = some v → (((w.alloc (.cells #[x0, x1, x2] t)).alloc (.cells #[y0, y1, y2] t)).alloc (.cells #[r0, r1, r2] t)).cell? ⟨w.heap.size + 1 + 1, j, none⟩ = some v := fun j v h => by rw [World.cell?_alloc_at _ _ _ _ (by simp)]; exact h
  exact ⟨⟨(cell_past (a 0 x0 rfl) hb).2, (cell_past (a 1 x1 rfl) hb).2, (cell_past (a 2 x2 rfl) hb).2⟩, ⟨(cell_past (b 0 y0 rfl) hb).2, (cell_past (b 1 y1 rfl) hb).2, (cell_past (b 2 y2 rfl) hb).2⟩, ⟨(cell_past (c 0 r0 rfl) hb).2, (cell_past (c 1 r1 rfl) hb).2, (cell_past (c 2 r2 rfl) hb).2⟩, (frozen_past (c 0 r0 rfl) (frozen_new (by simp)) hb).2, (frozen_past (c 1 r1 rfl) (frozen_new (by simp)) hb).2, (frozen_past (c 2 r2 rfl) (frozen_new (by simp)) hb).2⟩
theorem noInts_third3 (w : World) (X Y : Obj) (t : TypeId) : NoInts (((w.alloc X).alloc Y).alloc (.cells #[.bool false, .slice none 0 0, .slice none 0 0] t)) (w.heap.size + 1 + 1) := by
  have := noInts_new3 ((w.alloc X).alloc Y) false none 0 0 none 0 0 t
  simpa using this

set_option maxRecDepth 10000 in
set_option maxHeartbeats 4000000 in
/-- Times: the product, in its lowest terms. -/
theorem Times_ratio (v1 v2 : Value) (n1 n2 : Int) (d1 d2 k : Nat) (w : World) (h1 : RatioAt w v1 n1 d1) (h2 : RatioAt w v2 n2 d2) (hd1 : 0 < d1) (hd2 : 0 < d2) (hn1 : n1.natAbs < 1000000 ^ k) (hn2 : n2.natAbs < 1000000 ^ k) (hk1 : d1 < 1000000 ^ k) (hk2 : d2 < 1000000 ^ k) (hk : k + k + 1 ≤ 1000000) :
    Calls Tryz.prog 60 #[v1, v2] w fun e w' => ∃ r, e = .returned r ∧ RatioAt w' r ((n1 * n2).tdiv ((Nat.gcd (n1 * n2).natAbs (d1 * d2) : Nat) : Int)) (d1 * d2 / Nat.gcd (n1 * n2).natAbs (d1 * d2)) ∧ Below w.heap.size w w' := by
  obtain ⟨u1, q1, rfl, hu1, hq1⟩ := h1
  obtain ⟨u2, q2, rfl, hu2, hq2⟩ := h2
  obtain ⟨ad1, l1, cap1, rfl, _⟩ := hu1.len
  obtain ⟨bd1, m1, bap1, rfl, _⟩ := hq1.len
  obtain ⟨ad2, l2, cap2, rfl, _⟩ := hu2.len
  obtain ⟨bd2, m2, bap2, rfl, _⟩ := hq2.len
  obtain ⟨s1, hs1⟩ : ∃ s, decide (n1 < 0) = s := ⟨_, rfl⟩
  obtain ⟨s2, hs2⟩ : ∃ s, decide (n2 < 0) = s := ⟨_, rfl⟩
  rw [hs1, hs2]
  have hB0 : Below w.heap.size w (((w.alloc (.cells #[.bool s1, .slice ad1 l1 cap1, .slice bd1 m1 bap1] 57)).alloc (.cells #[.bool s2, .slice ad2 l2 cap2, .slice bd2 m2 bap2] 57)).alloc (.cells #[.bool false, .slice none 0 0, .slice none 0 0] 57)) := (((Below.refl _ _).alloc (Nat.le_refl _) _).alloc (by simp) _).alloc (by simp; omega) _
  have hN := noInts_third3 w (.cells #[.bool s1, .slice ad1 l1 cap1, .slice bd1 m1 bap1] 57) (.cells #[.bool s2, .slice ad2 l2 cap2, .slice bd2 m2 bap2] 57) 57
  have hNP := fun (w1 : World) => nine_past (w := w) (w1 := w1) (x0 := .bool s1) (x1 := .slice ad1 l1 cap1) (x2 := .slice bd1 m1 bap1) (y0 := .bool s2) (y1 := .slice ad2 l2 cap2) (y2 := .slice bd2 m2 bap2) (r0 := .bool false) (r1 := .slice none 0 0) (r2 := .slice none 0 0) (t := 57)
  have hz0 : w.heap.size + 1 + 1 + 1 = (((w.alloc (.cells #[.bool s1, .slice ad1 l1 cap1, .slice bd1 m1 bap1] 57)).alloc (.cells #[.bool s2, .slice ad2 l2 cap2, .slice bd2 m2 bap2] 57)).alloc (.cells #[.bool false, .slice none 0 0, .slice none 0 0] 57)).heap.size := by simp
  generalize hW : (((w.alloc (.cells #[.bool s1, .slice ad1 l1 cap1, .slice bd1 m1 bap1] 57)).alloc (.cells #[.bool s2, .slice ad2 l2 cap2, .slice bd2 m2 bap2] 57)).alloc (.cells #[.bool false, .slice none 0 0, .slice none 0 0] 57)) = W0 at hB0 hN hNP hz0
  have hKS : ∀ W, Below (w.heap.size + 1 + 1) W0 W → (W.cell? ⟨w.heap.size, 0, none⟩ = some (.bool s1) ∧ W.cell? ⟨w.heap.size, 1, none⟩ = some (.slice ad1 l1 cap1) ∧ W.cell? ⟨w.heap.size, 2, none⟩ = some (.slice bd1 m1 bap1)) ∧ (W.cell? ⟨w.heap.size + 1, 0, none⟩ = some (.bool s2) ∧ W.cell? ⟨w.heap.size + 1, 1, none⟩ = some (.slice ad2 l2 cap2) ∧ W.cell? ⟨w.heap.size + 1, 2, none⟩ = some (.slice bd2 m2 bap2)) := fun W hb => by
    obtain ⟨⟨a0, a1, a2⟩, ⟨b0, b1, b2⟩, _⟩ := hNP W0 (Below.refl _ _)
    have ha : ∀ j v, W0.cell? ⟨w.heap.size, j, none⟩ = some v → W.cell? ⟨w.heap.size, j, none⟩ = some v := fun j v h => by rw [hb.cell (p := ⟨w.heap.size, j, none⟩) (by show w.heap.size < _; omega)]; exact h
    have hb' : ∀ j v, W0.cell? ⟨w.heap.size + 1, j, none⟩ = some v → W.cell? ⟨w.heap.size + 1, j, none⟩ = some v := fun j v h => by rw [hb.cell (p := ⟨w.heap.size + 1, j, none⟩) (by show w.heap.size + 1 < _; omega)]; exact h
    exact ⟨⟨ha 0 _ a0, ha 1 _ a1, ha 2 _ a2⟩, ⟨hb' 0 _ b0, hb' 1 _ b1, hb' 2 _ b2⟩⟩
  have HS1 := Hid.mk' (show SignedAt W0.drew (.agg #[.bool s1, .slice ad1 l1 cap1]) n1 from ⟨_, by rw [hs1], (hu1.later hB0).later ((Below.refl _ _).drew)⟩)
  have HS2 := Hid.mk' (show SignedAt W0.drew (.agg #[.bool s2, .slice ad2 l2 cap2]) n2 from ⟨_, by rw [hs2], (hu2.later hB0).later ((Below.refl _ _).drew)⟩)
  have HD1 := Hid.mk' ((hq1.later hB0).later ((Below.refl _ _).drew))
  have HD2 := Hid.mk' ((hq2.later hB0).later ((Below.refl _ _).drew))
  have hmul := SignedMul_any _ _ n1 n2 k W0.drew HS1.out HS2.out hn1 hn2 (by omega)
  have HMUL := Hid.mk' hmul
  have HKS := Hid.mk' hKS
  have HW := Hid.mk' hW
  have HNP := Hid.mk' hNP
  have HN := Hid.mk' hN
  have HB := Hid.mk' hB0
  have HBD := Hid.mk' (And.intro hn1 (And.intro hn2 (And.intro hk1 hk2)))
  have hcur0 : Below (w.heap.size + 1 + 1) W0 W0 := Below.refl _ _
  have hcur : Below (w.heap.size + 1 + 1) W0 W0.drew := (Below.refl _ _).drew
  clear hs1 hs2 hu1 hu2 hq1 hq2 hB0 hN hNP hW hKS hmul hn1 hn2 hk1 hk2
  go_enter Tryz.func60, Tryz.ntmps60
  go_wp2_with fail
  rw [HW.out]
  go_region_held3 (fun W => (W.cell? ⟨w.heap.size, 0, none⟩ = some (.bool s1) ∧ W.cell? ⟨w.heap.size, 1, none⟩ = some (.slice ad1 l1 cap1) ∧ W.cell? ⟨w.heap.size, 2, none⟩ = some (.slice bd1 m1 bap1)) ∧ (W.cell? ⟨w.heap.size + 1, 0, none⟩ = some (.bool s2) ∧ W.cell? ⟨w.heap.size + 1, 1, none⟩ = some (.slice ad2 l2 cap2) ∧ W.cell? ⟨w.heap.size + 1, 2, none⟩ = some (.slice bd2 m2 bap2)))
    (first | exact HKS.out _ hcur0 | exact HKS.out _ hcur | exact HKS.out _ hc1 | exact HKS.out _ hc2 | exact HKS.out _ hc3 | exact HKS.out _ (below_set3 hc3 (Nat.le_refl _) _ _ _))
    (first
      | (go_at_call 86; refine HMUL.out.mono ?_; rintro e w1 ⟨sv, rfl, ⟨us, rfl, hus⟩, hb1⟩; obtain ⟨ad3, l3, cap3, rfl, _⟩ := hus.len; have hbw1 := below_chain ((Below.refl _ _).drew) hb1; have hc1 : Below (w.heap.size + 1 + 1) W0 w1 := hbw1.mono (by omega); have HUS := Hid.mk' hus; have HBW1 := Hid.mk' hbw1; have HBD1 := Hid.mk' hb1; clear hus hb1 hbw1)
      | (go_at_call 67; refine (BigMul_any _ _ _ _ k w1 (HD1.out.later HBD1.out) (HD2.out.later HBD1.out) HBD.out.2.2.1 HBD.out.2.2.2 (by omega)).mono ?_; rintro e w2 ⟨qv, rfl, hqv, hb2⟩; obtain ⟨ad4, l4, cap4, rfl, _⟩ := hqv.len; have hbw2 := below_chain HBW1.out hb2; have hc2 : Below (w.heap.size + 1 + 1) W0 w2 := hbw2.mono (by omega); have HRA : Hid (RatioAt w2 (.agg #[.bool (decide (n1 * n2 < 0)), .slice ad3 l3 cap3, .slice ad4 l4 cap4]) (n1 * n2) (d1 * d2)) := ⟨_, _, rfl, HUS.out.later hb2, hqv⟩; have HBW2 := Hid.mk' hbw2; clear hqv hb2 hbw2)
      | (go_at_call 64; refine (Lowest_any _ _ _ (k + k) w2 HRA.out (Nat.mul_pos hd1 hd2) (by rw [Int.natAbs_mul, Nat.pow_add]; exact Nat.mul_lt_mul'' HBD.out.1 HBD.out.2.1) (by rw [Nat.pow_add]; exact Nat.mul_lt_mul'' HBD.out.2.2.1 HBD.out.2.2.2) hk).mono ?_; rintro e w3 ⟨rv, rfl, ⟨ur, qr, rfl, hur, hqr⟩, hb3⟩; obtain ⟨ad5, l5, cap5, rfl, _⟩ := hur.len; obtain ⟨ad6, l6, cap6, rfl, _⟩ := hqr.len; have hbw3 := below_chain HBW2.out hb3; have hc3 : Below (w.heap.size + 1 + 1) W0 w3 := hbw3.mono (by omega); obtain ⟨_, _, ⟨c0, c1, c2⟩, f0, f1, f2⟩ := HNP.out w3 hbw3; have HUR := Hid.mk' hur; have HQR := Hid.mk' hqr; have HBW3 := Hid.mk' hbw3; clear hur hqr hb3 hbw3))
  go_wp2_with fail
  refine bodyPost_ret (v := .agg #[.bool (decide ((n1 * n2).tdiv ((Nat.gcd (n1 * n2).natAbs (d1 * d2) : Nat) : Int) < 0)), .slice ad5 l5 cap5, .slice ad6 l6 cap6]) (by simp [results, Tryz.results60, go_sem, c0, c1, c2]) rfl ⟨_, rfl, ⟨_, _, rfl, HUR.out.set3 (HN.out.later (by omega) HBW3.out) c0 c1, HQR.out.set3 (HN.out.later (by omega) HBW3.out) c0 c1⟩, below_set3 (below_chain HB.out HBW3.out) (by omega) _ _ _⟩

set_option maxRecDepth 10000 in
set_option maxHeartbeats 2000000 in
/-- RatioOf a number over one that is above 0. -/
theorem RatioOf_any (n : Int) (d : Nat) (w : World) (h0 : -4611686018427387904 ≤ n) (h1 : n ≤ 4611686018427387904) (hd : 0 < d) (hd1 : d ≤ 4611686018427387904) :
    Calls Tryz.prog 34 #[.int .i64 n, .int .i64 d] w fun e w' => ∃ r, e = .returned r ∧ RatioAt w' r (n.tdiv ((Nat.gcd n.natAbs d : Nat) : Int)) (d / Nat.gcd n.natAbs d) ∧ Below w.heap.size w w' := by
  have hB0 : Below w.heap.size w (w.alloc (.cells #[.bool false, .slice none 0 0, .slice none 0 0] 57)) := (Below.refl _ _).alloc (Nat.le_refl _) _
  have hN := noInts_new3 w false none 0 0 none 0 0 57
  have hc : ∀ j v, #[.bool false, .slice none 0 0, .slice none 0 0][j]? = some v → (w.alloc (.cells #[.bool false, .slice none 0 0, .slice none 0 0] 57)).cell? ⟨w.heap.size, j, none⟩ = some v := fun j v h => by rw [World.cell?_alloc_at _ _ _ _ rfl]; exact h
  have hf : ∀ j, (w.alloc (.cells #[.bool false, .slice none 0 0, .slice none 0 0] 57)).frozen? ⟨w.heap.size, j, none⟩ = false := fun j => frozen_new rfl
  have hz0 : w.heap.size + 1 = (w.alloc (.cells #[.bool false, .slice none 0 0, .slice none 0 0] 57)).heap.size := by simp
  generalize hW : w.alloc (.cells #[.bool false, .slice none 0 0, .slice none 0 0] 57) = W0 at hB0 hN hc hf hz0
  have hs := SignedOf_any n W0 h0 h1
  have HW := Hid.mk' hW
  have HN := Hid.mk' hN
  have HB := Hid.mk' hB0
  have HC := Hid.mk' hc
  have HF := Hid.mk' hf
  clear hB0 hN hW hc hf
  go_enter Tryz.func34, Tryz.ntmps34
  go_wp2_with fail
  rw [HW.out]
  refine hs.mono ?_
  clear hs
  rintro e w1 ⟨v1, rfl, ⟨u1, rfl, hu1⟩, hb1⟩
  obtain ⟨ad1, l1, cap1, rfl, _⟩ := hu1.len
  obtain ⟨s, hs⟩ : ∃ s, decide (n < 0) = s := ⟨_, rfl⟩
  rw [hs]
  have HSN := Hid.mk' hs
  have hb1' := below_chain hb1 ((Below.refl w1.heap.size w1).alloc (Nat.le_refl _) (.cells #[.bool s, .slice ad1 l1 cap1] 55))
  have HU1 := Hid.mk' (hu1.later ((Below.refl w1.heap.size w1).alloc (Nat.le_refl _) (.cells #[.bool s, .slice ad1 l1 cap1] 55)))
  have hs2 := SignedOf_any (d : Int) (w1.alloc (.cells #[.bool s, .slice ad1 l1 cap1] 55)) (by omega) (by omega)
  have HB1 := Hid.mk' hb1'
  clear hu1 hb1 hb1' hs
  go_wp2_with fail
  refine hs2.mono ?_
  clear hs2
  rintro e w2 ⟨v2, rfl, ⟨u2, rfl, hu2⟩, hb2⟩
  rw [decide_eq_false (show ¬ (d : Int) < 0 by omega)]
  rw [Int.natAbs_natCast] at hu2
  obtain ⟨ad2, l2, cap2, rfl, _⟩ := hu2.len
  obtain ⟨x0, x1, _, _⟩ := res_past hb2
  have hal : Below w2.heap.size w2 (w2.alloc (.cells #[.bool false, .slice ad2 l2 cap2] 55)) := (Below.refl _ _).alloc (Nat.le_refl _) _
  have y0 := (cell_past x0 hal).2
  have y1 := (cell_past x1 hal).2
  have HRA : Hid (RatioAt (w2.alloc (.cells #[.bool false, .slice ad2 l2 cap2] 55)) (.agg #[.bool s, .slice ad1 l1 cap1, .slice ad2 l2 cap2]) n d) := ⟨_, _, by rw [HSN.out], (HU1.out.later hb2).later hal, hu2.later hal⟩
  have hB2 := below_chain (below_chain HB1.out hb2) hal
  have HB2 := Hid.mk' hB2
  obtain ⟨k, hk, hk6⟩ : ∃ k, 4611686018427387904 < 1000000 ^ k ∧ k + 1 ≤ 1000000 := ⟨4, by decide, by omega⟩
  have hlow := Lowest_any _ n d k _ HRA.out hd (Nat.lt_of_le_of_lt (by omega) hk) (Nat.lt_of_le_of_lt hd1 hk) hk6
  clear hu2 hb2 hal hB2 x0 x1 HB1 HU1 hk
  go_wp2_with fail
  refine hlow.mono ?_
  clear hlow y0 y1
  rintro e w3 ⟨rv, rfl, ⟨ur, qr, rfl, hur, hqr⟩, hb3⟩
  obtain ⟨ad5, l5, cap5, rfl, _⟩ := hur.len
  obtain ⟨ad6, l6, cap6, rfl, _⟩ := hqr.len
  have hbw := below_chain HB2.out hb3
  have c0 := (cell_past (HC.out 0 _ rfl) hbw).2
  have c1 := (cell_past (HC.out 1 _ rfl) hbw).2
  have c2 := (cell_past (HC.out 2 _ rfl) hbw).2
  have f0 := (frozen_past (HC.out 0 _ rfl) (HF.out 0) hbw).2
  have f1 := (frozen_past (HC.out 1 _ rfl) (HF.out 1) hbw).2
  have f2 := (frozen_past (HC.out 2 _ rfl) (HF.out 2) hbw).2
  have HUR := Hid.mk' hur
  have HQR := Hid.mk' hqr
  have HBW := Hid.mk' hbw
  clear hur hqr hb3 hbw
  go_wp2_with fail
  refine bodyPost_ret (v := .agg #[.bool (decide (n.tdiv ((Nat.gcd n.natAbs d : Nat) : Int) < 0)), .slice ad5 l5 cap5, .slice ad6 l6 cap6]) (by simp [results, Tryz.results34, go_sem, c0, c1, c2]) rfl ⟨_, rfl, ⟨_, _, rfl, HUR.out.set3 (HN.out.later (by omega) HBW.out) c0 c1, HQR.out.set3 (HN.out.later (by omega) HBW.out) c0 c1⟩, below_set3 (below_chain HB.out HBW.out) (by omega) _ _ _⟩
end Go.Proofs.YtklhfagcembigaaGreatDoor

/- The document's Plus. -/
namespace Go.Proofs.YtklhfagcembigaaGreatDoor
open Go.RowKit

theorem new_below (w : World) (X : Obj) : Below w.heap.size w (w.alloc X) := (Below.refl _ _).alloc (Nat.le_refl _) _
theorem more_below {w W : World} (h : Below w.heap.size w W) (X : Obj) : Below w.heap.size w (W.alloc X) := h.alloc h.size X
theorem setB_below {W0 W : World} {B : Nat} (h : Below W0.heap.size W0 W) (hB : W0.heap.size ≤ B) (x y : Value) : Below W0.heap.size W0 ((W.setCell ⟨B, 0, none⟩ x).setCell ⟨B, 1, none⟩ y) := (h.setCell hB _).setCell hB _
/-- The box of a number with a sign, in the making. -/
structure NewBox (W0 W : World) (B : Nat) : Prop where
  c0 : W.cell? ⟨B, 0, none⟩ = some (.bool false)
  c1 : W.cell? ⟨B, 1, none⟩ = some (.slice none 0 0)
  f0 : W.frozen? ⟨B, 0, none⟩ = false
  f1 : W.frozen? ⟨B, 1, none⟩ = false
  no : NoInts W B
  hB : W0.heap.size ≤ B
theorem NewBox.later {W0 W W' : World} {B : Nat} (h : NewBox W0 W B) (hb : Below W.heap.size W W') : NewBox W0 W' B :=
  ⟨(cell_past h.c0 hb).2, (cell_past h.c1 hb).2, (frozen_past h.c0 h.f0 hb).2, (frozen_past h.c1 h.f1 hb).2, h.no.later (cell_lt h.c0) hb, h.hB⟩
theorem newBox_of {W0 W W' : World} (h : Below W0.heap.size W0 W) (hb : Below (W.alloc (.cells #[.bool false, .slice none 0 0] 55)).heap.size (W.alloc (.cells #[.bool false, .slice none 0 0] 55)) W') : NewBox W0 W' W.heap.size := by
  obtain ⟨c0, c1, f0, f1⟩ := res_past hb
  exact ⟨c0, c1, f0, f1, (noInts_new2 W false none 0 0 _).later (by simp) hb, h.size⟩
/-- The sum's box. -/
structure SignBox (W0 W : World) (B : Nat) (z : Int) : Prop where
  below : Below W0.heap.size W0 W
  box : ∃ u, W.cell? ⟨B, 0, none⟩ = some (.bool (decide (z < 0))) ∧ W.cell? ⟨B, 1, none⟩ = some u ∧ BigAt W u z.natAbs
  hB : W0.heap.size ≤ B
theorem signBox_late {W0 W : World} {z : Int} {ad : Option Addr} {l cap : Nat} (h : Below W0.heap.size W0 W) (hu : BigAt W (.slice ad l cap) z.natAbs) : SignBox W0 (W.alloc (.cells #[.bool (decide (z < 0)), .slice ad l cap] 55)) W.heap.size z :=
  ⟨more_below h _, ⟨.slice ad l cap, by rw [World.cell?_alloc_at _ _ _ _ rfl]; rfl, by rw [World.cell?_alloc_at _ _ _ _ rfl]; rfl, hu.later (new_below _ _)⟩, h.size⟩
theorem signBox_soon {W0 W : World} {B : Nat} {z : Int} {ad : Option Addr} {l cap : Nat} (h : Below W0.heap.size W0 W) (hu : BigAt W (.slice ad l cap) z.natAbs) (hn : NewBox W0 W B) : SignBox W0 ((W.setCell ⟨B, 0, none⟩ (.bool (decide (z < 0)))).setCell ⟨B, 1, none⟩ (.slice ad l cap)) B z :=
  ⟨setB_below h hn.hB _ _, ⟨.slice ad l cap, by rw [World.cell?_setCell_other _ _ _ _ (by simp)]; exact World.cell?_setCell_same _ _ _ hn.c0, World.cell?_setCell_same _ _ _ (by rw [World.cell?_setCell_other _ _ _ _ (by simp)]; exact hn.c1), hu.set2 hn.no hn.c0 hn.c1⟩, hn.hB⟩

set_option maxRecDepth 10000 in
set_option maxHeartbeats 4000000 in
/-- Plus: the sum, in its lowest terms. -/
theorem Plus_ratio (v1 v2 : Value) (n1 n2 : Int) (d1 d2 k : Nat) (w : World) (h1 : RatioAt w v1 n1 d1) (h2 : RatioAt w v2 n2 d2) (hd1 : 0 < d1) (hd2 : 0 < d2) (hn1 : n1.natAbs < 1000000 ^ k) (hn2 : n2.natAbs < 1000000 ^ k) (hk1 : d1 < 1000000 ^ k) (hk2 : d2 < 1000000 ^ k) (hk : k + k + 1 + 1 ≤ 1000000) :
    Calls Tryz.prog 59 #[v1, v2] w fun e w' => ∃ r, e = .returned r ∧ RatioAt w' r ((n1 * d2 + n2 * d1).tdiv ((Nat.gcd (n1 * d2 + n2 * d1).natAbs (d1 * d2) : Nat) : Int)) (d1 * d2 / Nat.gcd (n1 * d2 + n2 * d1).natAbs (d1 * d2)) ∧ Below w.heap.size w w' := by
  obtain ⟨u1, q1, rfl, hu1, hq1⟩ := h1
  obtain ⟨u2, q2, rfl, hu2, hq2⟩ := h2
  obtain ⟨ad1, l1, cap1, rfl, _⟩ := hu1.len
  obtain ⟨bd1, m1, bap1, rfl, _⟩ := hq1.len
  obtain ⟨ad2, l2, cap2, rfl, _⟩ := hu2.len
  obtain ⟨bd2, m2, bap2, rfl, _⟩ := hq2.len
  obtain ⟨s1, hs1⟩ : ∃ s, decide (n1 < 0) = s := ⟨_, rfl⟩
  obtain ⟨s2, hs2⟩ : ∃ s, decide (n2 < 0) = s := ⟨_, rfl⟩
  rw [hs1, hs2]
  have hB0 : Below w.heap.size w (((w.alloc (.cells #[.bool s1, .slice ad1 l1 cap1, .slice bd1 m1 bap1] 57)).alloc (.cells #[.bool s2, .slice ad2 l2 cap2, .slice bd2 m2 bap2] 57)).alloc (.cells #[.bool false, .slice none 0 0, .slice none 0 0] 57)) := (((Below.refl _ _).alloc (Nat.le_refl _) _).alloc (by simp) _).alloc (by simp; omega) _
  have hN := noInts_third3 w (.cells #[.bool s1, .slice ad1 l1 cap1, .slice bd1 m1 bap1] 57) (.cells #[.bool s2, .slice ad2 l2 cap2, .slice bd2 m2 bap2] 57) 57
  have hNP := fun (w1 : World) => nine_past (w := w) (w1 := w1) (x0 := .bool s1) (x1 := .slice ad1 l1 cap1) (x2 := .slice bd1 m1 bap1) (y0 := .bool s2) (y1 := .slice ad2 l2 cap2) (y2 := .slice bd2 m2 bap2) (r0 := .bool false) (r1 := .slice none 0 0) (r2 := .slice none 0 0) (t := 57)
  have hz0 : w.heap.size + 1 + 1 + 1 = (((w.alloc (.cells #[.bool s1, .slice ad1 l1 cap1, .slice bd1 m1 bap1] 57)).alloc (.cells #[.bool s2, .slice ad2 l2 cap2, .slice bd2 m2 bap2] 57)).alloc (.cells #[.bool false, .slice none 0 0, .slice none 0 0] 57)).heap.size := by simp
  generalize hW : (((w.alloc (.cells #[.bool s1, .slice ad1 l1 cap1, .slice bd1 m1 bap1] 57)).alloc (.cells #[.bool s2, .slice ad2 l2 cap2, .slice bd2 m2 bap2] 57)).alloc (.cells #[.bool false, .slice none 0 0, .slice none 0 0] 57)) = W0 at hB0 hN hNP hz0
  have hKS : ∀ W, Below W0.heap.size W0 W → (W.cell? ⟨w.heap.size, 0, none⟩ = some (.bool s1) ∧ W.cell? ⟨w.heap.size, 1, none⟩ = some (.slice ad1 l1 cap1) ∧ W.cell? ⟨w.heap.size, 2, none⟩ = some (.slice bd1 m1 bap1)) ∧ (W.cell? ⟨w.heap.size + 1, 0, none⟩ = some (.bool s2) ∧ W.cell? ⟨w.heap.size + 1, 1, none⟩ = some (.slice ad2 l2 cap2) ∧ W.cell? ⟨w.heap.size + 1, 2, none⟩ = some (.slice bd2 m2 bap2)) := fun W hb => by
    obtain ⟨a, b, _⟩ := hNP W hb
    exact ⟨a, b⟩
  have HS1 : Hid (∀ W, Below W0.heap.size W0 W → SignedAt W (.agg #[.bool s1, .slice ad1 l1 cap1]) n1) := fun W hb => ⟨_, by rw [hs1], (hu1.later hB0).later hb⟩
  have HS2 : Hid (∀ W, Below W0.heap.size W0 W → SignedAt W (.agg #[.bool s2, .slice ad2 l2 cap2]) n2) := fun W hb => ⟨_, by rw [hs2], (hu2.later hB0).later hb⟩
  have HD1 : Hid (∀ W, Below W0.heap.size W0 W → BigAt W (.slice bd1 m1 bap1) d1) := fun W hb => (hq1.later hB0).later hb
  have HD2 : Hid (∀ W, Below W0.heap.size W0 W → BigAt W (.slice bd2 m2 bap2) d2) := fun W hb => (hq2.later hB0).later hb
  have HKS := Hid.mk' hKS
  have HW := Hid.mk' hW
  have HNP := Hid.mk' hNP
  have HN := Hid.mk' hN
  have HB := Hid.mk' hB0
  have hm1 : (n1 * (d2 : Int)).natAbs < 1000000 ^ (k + k) := by rw [Int.natAbs_mul, Int.natAbs_natCast, Nat.pow_add]; exact Nat.mul_lt_mul'' hn1 hk2
  have hm2 : (n2 * (d1 : Int)).natAbs < 1000000 ^ (k + k) := by rw [Int.natAbs_mul, Int.natAbs_natCast, Nat.pow_add]; exact Nat.mul_lt_mul'' hn2 hk1
  have hsm : (n1 * (d2 : Int) + n2 * (d1 : Int)).natAbs < 1000000 ^ (k + k + 1) := by
    have h3 := Int.natAbs_add_le (n1 * (d2 : Int)) (n2 * (d1 : Int))
    have h4 : 1000000 ^ (k + k) * 2 ≤ 1000000 ^ (k + k + 1) := by rw [Nat.pow_succ]; exact Nat.mul_le_mul_left _ (by decide)
    omega
  have hdd : d1 * d2 < 1000000 ^ (k + k + 1) := Nat.lt_trans (by rw [Nat.pow_add]; exact Nat.mul_lt_mul'' hk1 hk2) (Nat.pow_lt_pow_right (by decide) (by omega))
  have HM := Hid.mk' (And.intro hm1 (And.intro hm2 (And.intro hsm hdd)))
  have HBD : Hid (n1.natAbs < 1000000 ^ k ∧ (d2 : Int).natAbs < 1000000 ^ k ∧ n2.natAbs < 1000000 ^ k ∧ (d1 : Int).natAbs < 1000000 ^ k) := ⟨hn1, by rw [Int.natAbs_natCast]; exact hk2, hn2, by rw [Int.natAbs_natCast]; exact hk1⟩
  have HDK := Hid.mk' (And.intro hk1 hk2)
  have hcur0 : Below W0.heap.size W0 W0 := Below.refl _ _
  have hcur : Below W0.heap.size W0 W0.drew := (Below.refl _ _).drew
  have hcurA : ∀ X, Below W0.heap.size W0 (W0.alloc X).drew := fun X => (new_below _ _).drew
  have hdn1 : ¬ (d1 : Int) < 0 := by omega
  have hdn2 : ¬ (d2 : Int) < 0 := by omega
  have HDE : Hid (decide ((d1 : Int) < 0) = false ∧ decide ((d2 : Int) < 0) = false) := ⟨decide_eq_false hdn1, decide_eq_false hdn2⟩
  clear hs1 hs2 hu1 hu2 hq1 hq2 hB0 hN hNP hW hKS hn1 hn2 hk1 hk2 hm1 hm2 hsm hdd hdn1 hdn2
  generalize hz : n1 * (d2 : Int) + n2 * (d1 : Int) = z at HM ⊢
  have HZ := Hid.mk' hz
  clear hz
  go_enter Tryz.func59, Tryz.ntmps59
  go_wp2_with fail
  rw [HW.out]
  go_cut [5] from 6 (fun s wx => ∃ Bs : Nat, s = .pointer (some ⟨Bs, 0, none⟩) ∧ Hid (SignBox W0 wx Bs z))
  case first =>
    go_region_held3 (fun W => (W.cell? ⟨w.heap.size, 0, none⟩ = some (.bool s1) ∧ W.cell? ⟨w.heap.size, 1, none⟩ = some (.slice ad1 l1 cap1) ∧ W.cell? ⟨w.heap.size, 2, none⟩ = some (.slice bd1 m1 bap1)) ∧ (W.cell? ⟨w.heap.size + 1, 0, none⟩ = some (.bool s2) ∧ W.cell? ⟨w.heap.size + 1, 1, none⟩ = some (.slice ad2 l2 cap2) ∧ W.cell? ⟨w.heap.size + 1, 2, none⟩ = some (.slice bd2 m2 bap2)))
      (first | exact HKS.out _ hcur0 | exact HKS.out _ hcur | exact HKS.out _ (hcurA _) | (refine HKS.out _ ?_; assumption) | (refine HKS.out _ (more_below ?_ _); assumption) | (refine HKS.out _ (setB_below ?_ NB.hB _ _); assumption))
      (first
        | (go_at_call 85; refine (SignedAdd_any _ _ (n1 * (d2 : Int)) (n2 * (d1 : Int)) (k + k) _ (HX2.out _ ?_) (HX4.out _ ?_) HM.out.1 HM.out.2.1 (by omega)).mono ?_; (first | exact h24 | exact more_below h24 _); (first | exact Below.refl _ _ | exact new_below _ _); rintro e w5 ⟨sv5, rfl, ⟨x5, rfl, hx5⟩, hb5⟩; rw [HZ.out] at hx5 ⊢; obtain ⟨ad7, l7, cap7, rfl, _⟩ := hx5.len; (first | (have hbw5 := below_chain hbw4 hb5; try have NB := NB.later hb5) | (have hbw5 := below_chain (more_below hbw4 _) hb5; have NB := newBox_of hbw4 hb5)); (try (have y0 := NB.c0; have y1 := NB.c1; have y2 := NB.f0; have y3 := NB.f1)); have HX5 := Hid.mk' hx5; clear hx5 hb5)
        | (go_at_call 86; refine (SignedMul_any _ _ n2 (d1 : Int) k _ (HS2.out _ ?_) (HX3.out _ ?_) HBD.out.2.2.1 HBD.out.2.2.2 (by omega)).mono ?_; (first | exact hbw3 | exact more_below hbw3 _); (first | exact Below.refl _ _ | exact new_below _ _); rintro e w4 ⟨sv4, rfl, ⟨x4, rfl, hx4⟩, hb4⟩; obtain ⟨sg4, hsg4⟩ : ∃ sg, decide (n2 * (d1 : Int) < 0) = sg := ⟨_, rfl⟩; rw [hsg4]; obtain ⟨ad6, l6, cap6, rfl, _⟩ := hx4.len; (first | (have hbw4 := below_chain hbw3 hb4; have h24 := below_chain h23 hb4; try have NB := NB.later hb4) | (have hbw4 := below_chain (more_below hbw3 _) hb4; have h24 := below_chain (more_below h23 _) hb4; have NB := newBox_of hbw3 hb4)); have HX4 : Hid (∀ W, Below w4.heap.size w4 W → SignedAt W (.agg #[.bool sg4, .slice ad6 l6 cap6]) (n2 * (d1 : Int))) := (fun W hb => ⟨_, by rw [hsg4], hx4.later hb⟩); clear hx4 hb4 hsg4)
        | (go_at_call 68; refine (wide_any (.slice bd1 m1 bap1) d1 _ (HD1.out _ ?_)).mono ?_; (first | exact hbw2 | exact more_below hbw2 _); rintro e w3 ⟨sv3, rfl, ⟨x3, rfl, hx3⟩, hb3⟩; rw [HDE.out.1]; obtain ⟨ad5, l5, cap5, rfl, _⟩ := hx3.len; (first | (have hbw3 := below_chain hbw2 hb3; have h23 := below_chain (Below.refl _ w2) hb3; try have NB := NB.later hb3) | (have hbw3 := below_chain (more_below hbw2 _) hb3; have h23 := below_chain (new_below w2 _) hb3; have NB := newBox_of hbw2 hb3)); have HX3 : Hid (∀ W, Below w3.heap.size w3 W → SignedAt W (.agg #[.bool false, .slice ad5 l5 cap5]) (d1 : Int)) := (fun W hb => ⟨_, by rw [HDE.out.1], hx3.later hb⟩); clear hx3 hb3)
        | (go_at_call 86; refine (SignedMul_any _ _ n1 (d2 : Int) k _ (HS1.out _ ?_) (HX1.out _ ?_) HBD.out.1 HBD.out.2.1 (by omega)).mono ?_; (first | exact hbw1 | exact more_below hbw1 _); (first | exact Below.refl _ _ | exact new_below _ _); rintro e w2 ⟨sv2, rfl, ⟨x2, rfl, hx2⟩, hb2⟩; obtain ⟨sg2, hsg2⟩ : ∃ sg, decide (n1 * (d2 : Int) < 0) = sg := ⟨_, rfl⟩; rw [hsg2]; obtain ⟨ad4, l4, cap4, rfl, _⟩ := hx2.len; (first | (have hbw2 := below_chain hbw1 hb2; try have NB := NB.later hb2) | (have hbw2 := below_chain (more_below hbw1 _) hb2; have NB := newBox_of hbw1 hb2)); have HX2 : Hid (∀ W, Below w2.heap.size w2 W → SignedAt W (.agg #[.bool sg2, .slice ad4 l4 cap4]) (n1 * (d2 : Int))) := (fun W hb => ⟨_, by rw [hsg2], hx2.later hb⟩); clear hx2 hb2 hsg2)
        | (go_at_call 68; refine (wide_any (.slice bd2 m2 bap2) d2 _ (HD2.out _ ?_)).mono ?_; (first | exact hcur | exact hcurA _); rintro e w1 ⟨sv1, rfl, ⟨x1, rfl, hx1⟩, hb1⟩; rw [HDE.out.2]; obtain ⟨ad3, l3, cap3, rfl, _⟩ := hx1.len; (first | have hbw1 := below_chain hcur hb1 | (have hbw1 := below_chain (hcurA _) hb1; have NB := newBox_of hcur0 (below_chain ((Below.refl _ _).drew) hb1))); have HX1 : Hid (∀ W, Below w1.heap.size w1 W → SignedAt W (.agg #[.bool false, .slice ad3 l3 cap3]) (d2 : Int)) := (fun W hb => ⟨_, by rw [HDE.out.2], hx1.later hb⟩); clear hx1 hb1))
    all_goals
      go_wp2_with fail
      go_meet
      first | exact ⟨_, rfl, signBox_late hbw5 HX5.out⟩ | exact ⟨_, rfl, signBox_soon hbw5 HX5.out NB⟩
  case rest =>
  obtain ⟨Bs, rfl, HSB⟩ := hcut
  obtain ⟨u, x0, x1, hu⟩ := HSB.out.box
  obtain ⟨ad, l, cap, rfl, _⟩ := hu.len
  obtain ⟨sg, hsg⟩ : ∃ sg, decide (z < 0) = sg := ⟨_, rfl⟩
  rw [hsg] at x0
  have hBs := HSB.out.hB
  have hSc : ∀ W, Below wc.heap.size wc W → W.cell? ⟨Bs, 0, none⟩ = some (.bool sg) ∧ W.cell? ⟨Bs, 1, none⟩ = some (.slice ad l cap) ∧ W.cell? ⟨w.heap.size, 2, none⟩ = some (.slice bd1 m1 bap1) ∧ W.cell? ⟨w.heap.size + 1, 2, none⟩ = some (.slice bd2 m2 bap2) := fun W hb => by
    have h1 := HKS.out _ (below_chain HSB.out.below hb)
    exact ⟨(cell_past x0 hb).2, (cell_past x1 hb).2, h1.1.2.2, h1.2.2.2⟩
  have HSC := Hid.mk' hSc
  have hmul := BigMul_any _ _ d1 d2 k wc.drew (HD1.out _ HSB.out.below.drew) (HD2.out _ HSB.out.below.drew) HDK.out.1 HDK.out.2 (by omega)
  have HMUL := Hid.mk' hmul
  have HU := Hid.mk' hu
  have HSG := Hid.mk' hsg
  have hc0 : Below wc.heap.size wc wc := Below.refl _ _
  have hc1 : Below wc.heap.size wc wc.drew := (Below.refl _ _).drew
  have HBC := Hid.mk' HSB.out.below
  have hsetS : ∀ (W : World) (x y q : Value), Below wc.heap.size wc W → Bs ≠ w.heap.size + 1 + 1 → (((W.setCell ⟨w.heap.size + 1 + 1, 0, none⟩ x).setCell ⟨w.heap.size + 1 + 1, 1, none⟩ y).setCell ⟨w.heap.size + 1 + 1, 2, none⟩ q).cell? ⟨Bs, 0, none⟩ = some (.bool sg) ∧ (((W.setCell ⟨w.heap.size + 1 + 1, 0, none⟩ x).setCell ⟨w.heap.size + 1 + 1, 1, none⟩ y).setCell ⟨w.heap.size + 1 + 1, 2, none⟩ q).cell? ⟨Bs, 1, none⟩ = some (.slice ad l cap) ∧ (((W.setCell ⟨w.heap.size + 1 + 1, 0, none⟩ x).setCell ⟨w.heap.size + 1 + 1, 1, none⟩ y).setCell ⟨w.heap.size + 1 + 1, 2, none⟩ q).cell? ⟨w.heap.size, 2, none⟩ = some (.slice bd1 m1 bap1) ∧ (((W.setCell ⟨w.heap.size + 1 + 1, 0, none⟩ x).setCell ⟨w.heap.size + 1 + 1, 1, none⟩ y).setCell ⟨w.heap.size + 1 + 1, 2, none⟩ q).cell? ⟨w.heap.size + 1, 2, none⟩ = some (.slice bd2 m2 bap2) := fun W x y q hb hne => by
    obtain ⟨e0, e1, e2, e3⟩ := HSC.out W hb
    refine ⟨?_, ?_, ?_, ?_⟩
    · rw [World.cell?_setCell_far _ _ _ _ (fun e => hne e.symm), World.cell?_setCell_far _ _ _ _ (fun e => hne e.symm), World.cell?_setCell_far _ _ _ _ (fun e => hne e.symm)]; exact e0
    · rw [World.cell?_setCell_far _ _ _ _ (fun e => hne e.symm), World.cell?_setCell_far _ _ _ _ (fun e => hne e.symm), World.cell?_setCell_far _ _ _ _ (fun e => hne e.symm)]; exact e1
    · rw [World.cell?_setCell_far _ _ _ _ (by show w.heap.size + 1 + 1 ≠ w.heap.size; omega), World.cell?_setCell_far _ _ _ _ (by show w.heap.size + 1 + 1 ≠ w.heap.size; omega), World.cell?_setCell_far _ _ _ _ (by show w.heap.size + 1 + 1 ≠ w.heap.size; omega)]; exact e2
    · rw [World.cell?_setCell_far _ _ _ _ (by show w.heap.size + 1 + 1 ≠ w.heap.size + 1; omega), World.cell?_setCell_far _ _ _ _ (by show w.heap.size + 1 + 1 ≠ w.heap.size + 1; omega), World.cell?_setCell_far _ _ _ _ (by show w.heap.size + 1 + 1 ≠ w.heap.size + 1; omega)]; exact e3
  have HSS := Hid.mk' hsetS
  have hne : Bs ≠ w.heap.size + 1 + 1 := by omega
  clear hu hsg hSc hmul hsetS x0 x1
  go_wp2_with fail
  go_region_held3 (fun W => W.cell? ⟨Bs, 0, none⟩ = some (.bool sg) ∧ W.cell? ⟨Bs, 1, none⟩ = some (.slice ad l cap) ∧ W.cell? ⟨w.heap.size, 2, none⟩ = some (.slice bd1 m1 bap1) ∧ W.cell? ⟨w.heap.size + 1, 2, none⟩ = some (.slice bd2 m2 bap2))
    (first | exact HSC.out _ hc0 | exact HSC.out _ hc1 | exact HSC.out _ hc2 | exact HSC.out _ hc3 | exact HSS.out _ _ _ _ hc3 hne)
    (first
      | (go_at_call 64; refine (Lowest_any _ z (d1 * d2) (k + k + 1) w6 HRA.out (Nat.mul_pos hd1 hd2) HM.out.2.2.1 HM.out.2.2.2 hk).mono ?_; rintro e w7 ⟨rv, rfl, ⟨ur, qr, rfl, hur, hqr⟩, hb7⟩; obtain ⟨ad8, l8, cap8, rfl, _⟩ := hur.len; obtain ⟨ad9, l9, cap9, rfl, _⟩ := hqr.len; have hc3 := below_chain hc2 hb7; have hbw7 := below_chain HBC.out hc3; obtain ⟨_, _, ⟨c0, c1, c2⟩, f0, f1, f2⟩ := HNP.out w7 hbw7; have HUR := Hid.mk' hur; have HQR := Hid.mk' hqr; have HBW7 := Hid.mk' hbw7; clear hur hqr hb7 hbw7)
      | (go_at_call 67; refine HMUL.out.mono ?_; rintro e w6 ⟨qv, rfl, hqv, hb6⟩; obtain ⟨bd6, m6, bap6, rfl, _⟩ := hqv.len; have hc2 := below_chain hc1 hb6; have HRA : Hid (RatioAt w6 (.agg #[.bool sg, .slice ad l cap, .slice bd6 m6 bap6]) z (d1 * d2)) := ⟨_, _, by rw [HSG.out], HU.out.later hc2, hqv⟩; clear hqv hb6))
  go_wp2_with fail
  refine bodyPost_ret (v := .agg #[.bool (decide (z.tdiv ((Nat.gcd z.natAbs (d1 * d2) : Nat) : Int) < 0)), .slice ad8 l8 cap8, .slice ad9 l9 cap9]) (by simp [results, Tryz.results59, go_sem, c0, c1, c2]) rfl ⟨_, rfl, ⟨_, _, rfl, HUR.out.set3 (HN.out.later (by omega) HBW7.out) c0 c1, HQR.out.set3 (HN.out.later (by omega) HBW7.out) c0 c1⟩, below_set3 (below_chain HB.out HBW7.out) (by omega) _ _ _⟩
end Go.Proofs.YtklhfagcembigaaGreatDoor

/- The document's interval of a message. -/
namespace Go.Proofs.YtklhfagcembigaaGreatDoor
open Go.RowKit

theorem cell_put {W : World} {p : Addr} {x : Value} (y : Value) (h : W.cell? p = some x) (q : Addr) : (W.setCell p y).cell? q = if q = p then some y else W.cell? q := by
  split
  · rename_i e; subst e; exact World.cell?_setCell_same _ _ _ h
  · rename_i e; exact World.cell?_setCell_other _ _ _ _ (fun e' => e e'.symm)
theorem put_three' {W : World} {b : Nat} {x0 x1 x2 : Value} (y0 y1 y2 : Value) (h0 : W.cell? ⟨b, 0, none⟩ = some x0) (h1 : W.cell? ⟨b, 1, none⟩ = some x1) (h2 : W.cell? ⟨b, 2, none⟩ = some x2) :
    ((W.setCell ⟨b, 0, none⟩ y0).cell? ⟨b, 1, none⟩ = some x1 ∧ ((W.setCell ⟨b, 0, none⟩ y0).setCell ⟨b, 1, none⟩ y1).cell? ⟨b, 2, none⟩ = some x2) ∧
    ((((W.setCell ⟨b, 0, none⟩ y0).setCell ⟨b, 1, none⟩ y1).setCell ⟨b, 2, none⟩ y2).cell? ⟨b, 0, none⟩ = some y0 ∧ (((W.setCell ⟨b, 0, none⟩ y0).setCell ⟨b, 1, none⟩ y1).setCell ⟨b, 2, none⟩ y2).cell? ⟨b, 1, none⟩ = some y1) ∧
    (((W.setCell ⟨b, 0, none⟩ y0).setCell ⟨b, 1, none⟩ y1).setCell ⟨b, 2, none⟩ y2).cell? ⟨b, 2, none⟩ = some y2 := by
  have e1 : (W.setCell ⟨b, 0, none⟩ y0).cell? ⟨b, 1, none⟩ = some x1 := by rw [cell_put _ h0, if_neg (by simp)]; exact h1
  have e2 : ((W.setCell ⟨b, 0, none⟩ y0).setCell ⟨b, 1, none⟩ y1).cell? ⟨b, 2, none⟩ = some x2 := by rw [cell_put _ e1, if_neg (by simp), cell_put _ h0, if_neg (by simp)]; exact h2
  refine ⟨⟨e1, e2⟩, ⟨?_, ?_⟩, ?_⟩
  · rw [cell_put _ e2, if_neg (by simp), cell_put _ e1, if_neg (by simp), cell_put _ h0, if_pos rfl]
  · rw [cell_put _ e2, if_neg (by simp), cell_put _ e1, if_pos rfl]
  · rw [cell_put _ e2, if_pos rfl]
theorem RatioAt.sl {w : World} {v : Value} {n : Int} {d : Nat} (h : RatioAt w v n d) : ∃ s ad l cap ad' l' cap', v = .agg #[.bool s, .slice ad l cap, .slice ad' l' cap'] := by
  obtain ⟨u, q, rfl, h1, h2⟩ := h
  obtain ⟨ad, l, cap, rfl, _⟩ := h1.len
  obtain ⟨ad', l', cap', rfl, _⟩ := h2.len
  exact ⟨_, _, _, _, _, _, _, rfl⟩
theorem IntsAt.setA {w : World} {u y : Value} {l : List Nat} {p : Addr} {v : Value} (h : IntsAt w u l) (hc : w.cell? p = some v) (hv : ∀ x, v ≠ .int .i64 x) : IntsAt (w.setCell p y) u l := by
  rcases h with h | ⟨b, o, cap, h1, h2, h3, h4⟩
  · exact Or.inl h
  · refine Or.inr ⟨b, o, cap, h1, h2, h3, fun i hi => ?_⟩
    rw [World.cell?_setCell_other _ _ _ _ (fun e => ?_)]
    · exact h4 i hi
    · have := h4 i hi
      rw [← e, hc] at this
      exact hv _ (Option.some.inj this)
theorem BigAt.setA {w : World} {u y : Value} {n : Nat} {p : Addr} {v : Value} (h : BigAt w u n) (hc : w.cell? p = some v) (hv : ∀ x, v ≠ .int .i64 x) : BigAt (w.setCell p y) u n := by
  obtain ⟨l, h1, h2, h3, h4⟩ := h
  exact ⟨l, h1, h2, h3, h4.setA hc hv⟩
theorem RatioAt.setA {w : World} {u y : Value} {n : Int} {d : Nat} {p : Addr} {v : Value} (h : RatioAt w u n d) (hc : w.cell? p = some v) (hv : ∀ x, v ≠ .int .i64 x) : RatioAt (w.setCell p y) u n d := by
  obtain ⟨a, b, h1, h2, h3⟩ := h
  exact ⟨a, b, h1, h2.setA hc hv, h3.setA hc hv⟩
def put3 (w : World) (b : Nat) (x y z : Value) : World := ((w.setCell ⟨b, 0, none⟩ x).setCell ⟨b, 1, none⟩ y).setCell ⟨b, 2, none⟩ z
/-- A variable that holds a fraction of the document. -/
structure RBox (w : World) (b : Nat) (s : Bool) (x : Option Addr) (l c : Nat) (x' : Option Addr) (l' c' : Nat) (n : Int) (d : Nat) : Prop where
  c0 : w.cell? ⟨b, 0, none⟩ = some (.bool s)
  c1 : w.cell? ⟨b, 1, none⟩ = some (.slice x l c)
  c2 : w.cell? ⟨b, 2, none⟩ = some (.slice x' l' c')
  rat : RatioAt w (.agg #[.bool s, .slice x l c, .slice x' l' c']) n d
  fz : ∀ j, j < 3 → w.frozen? ⟨b, j, none⟩ = false
theorem RBox.later {w w' : World} {b : Nat} {s : Bool} {x : Option Addr} {l c : Nat} {x' : Option Addr} {l' c' : Nat} {n : Int} {d : Nat} (h : RBox w b s x l c x' l' c' n d) (hb : Below w.heap.size w w') : RBox w' b s x l c x' l' c' n d :=
  ⟨by rw [hb.cell (cell_lt h.c0)]; exact h.c0, by rw [hb.cell (cell_lt h.c1)]; exact h.c1, by rw [hb.cell (cell_lt h.c2)]; exact h.c2, h.rat.later hb, fun j hj => by rw [hb.frozen (show b < w.heap.size from cell_lt h.c0)]; exact h.fz j hj⟩
theorem RatioAt.put3 {w : World} {b : Nat} {s : Bool} {x : Option Addr} {l c : Nat} {x' : Option Addr} {l' c' : Nat} {n m : Int} {d e : Nat} {v : Value} (h : RBox w b s x l c x' l' c' n d) (hr : RatioAt w v m e) (y0 y1 y2 : Value) : RatioAt (put3 w b y0 y1 y2) v m e := by
  obtain ⟨⟨g0, g1⟩, _, _⟩ := put_three' y0 y1 y2 h.c0 h.c1 h.c2
  unfold Go.Proofs.YtklhfagcembigaaGreatDoor.put3
  exact ((hr.setA h.c0 (by simp)).setA g0 (by simp)).setA g1 (by simp)
theorem RBox.put {w : World} {b : Nat} {s t : Bool} {x y : Option Addr} {l c m q : Nat} {x' y' : Option Addr} {l' c' m' q' : Nat} {n n2 : Int} {d d2 : Nat} (h : RBox w b s x l c x' l' c' n d) (hr : RatioAt w (.agg #[.bool t, .slice y m q, .slice y' m' q']) n2 d2) : RBox (put3 w b (.bool t) (.slice y m q) (.slice y' m' q')) b t y m q y' m' q' n2 d2 := by
  obtain ⟨_, ⟨g2, g3⟩, g4⟩ := put_three' (.bool t) (.slice y m q) (.slice y' m' q') h.c0 h.c1 h.c2
  exact ⟨g2, g3, g4, hr.put3 h _ _ _, fun j hj => by unfold Go.Proofs.YtklhfagcembigaaGreatDoor.put3; rw [World.frozen?_setCell, World.frozen?_setCell, World.frozen?_setCell]; exact h.fz j hj⟩
theorem RBox.aside {w : World} {b b2 : Nat} {s s2 : Bool} {x x2 : Option Addr} {l c l2 c2 : Nat} {x' x2' : Option Addr} {l' c' l2' c2' : Nat} {n n2 : Int} {d d2 : Nat} (h : RBox w b s x l c x' l' c' n d) (h2 : RBox w b2 s2 x2 l2 c2 x2' l2' c2' n2 d2) (hne : b2 ≠ b) (y0 y1 y2 : Value) : RBox (put3 w b2 y0 y1 y2) b s x l c x' l' c' n d := by
  have hcell : ∀ j, (put3 w b2 y0 y1 y2).cell? ⟨b, j, none⟩ = w.cell? ⟨b, j, none⟩ := fun j => by
    unfold Go.Proofs.YtklhfagcembigaaGreatDoor.put3
    rw [World.cell?_setCell_other _ _ _ _ (fun e => hne (congrArg Addr.block e)), World.cell?_setCell_other _ _ _ _ (fun e => hne (congrArg Addr.block e)), World.cell?_setCell_other _ _ _ _ (fun e => hne (congrArg Addr.block e))]
  exact ⟨by rw [hcell]; exact h.c0, by rw [hcell]; exact h.c1, by rw [hcell]; exact h.c2, h.rat.put3 h2 _ _ _, fun j hj => by unfold Go.Proofs.YtklhfagcembigaaGreatDoor.put3; rw [World.frozen?_setCell, World.frozen?_setCell, World.frozen?_setCell]; exact h.fz j hj⟩
theorem big_none (w : World) : BigAt w (.slice none 0 0) 0 := ⟨[], fun i hi => by simp at hi, fun i hi => by simp at hi, rfl, Or.inl ⟨_, _, rfl, rfl⟩⟩
theorem RBox.fresh {w : World} {s : Bool} {x : Option Addr} {l c : Nat} {x' : Option Addr} {l' c' : Nat} {n : Int} {d : Nat} (hr : RatioAt w (.agg #[.bool s, .slice x l c, .slice x' l' c']) n d) : RBox (w.alloc (.cells #[.bool s, .slice x l c, .slice x' l' c'] 57)) w.heap.size s x l c x' l' c' n d :=
  ⟨by simp, by simp, by simp, hr.later ((Below.refl _ _).alloc (Nat.le_refl _) _), fun j hj => by rcases (show j = 0 ∨ j = 1 ∨ j = 2 by omega) with rfl | rfl | rfl <;> simp⟩

/-- The steps, in lowest terms. -/
theorem low_step {M S : Nat} (hM : 0 < M) (hS : 0 < S) (W A : Int) : (lowN M W * lowN S A).tdiv ((Nat.gcd (lowN M W * lowN S A).natAbs (lowD M W * lowD S A) : Nat) : Int) = lowN (M * S) (W * A) ∧ lowD M W * lowD S A / Nat.gcd (lowN M W * lowN S A).natAbs (lowD M W * lowD S A) = lowD (M * S) (W * A) := by
  refine low_same (Nat.mul_pos hM hS) (Nat.mul_pos (lowD_pos hM W) (lowD_pos hS A)) ?_
  have h1 := low_cross hM W
  have h2 := low_cross hS A
  rw [Int.natCast_mul, Int.natCast_mul]
  generalize lowN M W = a at *
  generalize lowN S A = b at *
  generalize (lowD M W : Int) = c at *
  generalize (lowD S A : Int) = e at *
  generalize (M : Int) = m at *
  generalize (S : Int) = s at *
  calc a * b * (m * s) = (a * m) * (b * s) := by grind
    _ = (W * c) * (A * e) := by rw [h1, h2]
    _ = W * A * (c * e) := by grind
theorem low_add {M S : Nat} (hM : 0 < M) (hS : 0 < S) (L X : Int) : (lowN M L * (lowD (M * S) X : Int) + lowN (M * S) X * (lowD M L : Int)).tdiv ((Nat.gcd (lowN M L * (lowD (M * S) X : Int) + lowN (M * S) X * (lowD M L : Int)).natAbs (lowD M L * lowD (M * S) X) : Nat) : Int) = lowN (M * S) (L * S + X) ∧ lowD M L * lowD (M * S) X / Nat.gcd (lowN M L * (lowD (M * S) X : Int) + lowN (M * S) X * (lowD M L : Int)).natAbs (lowD M L * lowD (M * S) X) = lowD (M * S) (L * S + X) := by
  refine low_same (Nat.mul_pos hM hS) (Nat.mul_pos (lowD_pos hM L) (lowD_pos (Nat.mul_pos hM hS) X)) ?_
  have h1 := low_cross hM L
  have h2 := low_cross (Nat.mul_pos hM hS) X
  rw [Int.natCast_mul] at h2
  rw [Int.natCast_mul, Int.natCast_mul]
  generalize lowN M L = a at *
  generalize lowN (M * S) X = b at *
  generalize (lowD M L : Int) = c at *
  generalize (lowD (M * S) X : Int) = e at *
  generalize (M : Int) = m at *
  generalize (S : Int) = s at *
  calc (a * e + b * c) * (m * s) = (a * m) * (e * s) + (b * (m * s)) * c := by grind
    _ = (L * c) * (e * s) + (X * e) * c := by rw [h1, h2]
    _ = (L * s + X) * (c * e) := by grind
theorem low_room {M : Nat} (hM : 0 < M) {x : Nat} (hx : x ≤ M) (hR : M < 1000000 ^ 20) : (lowN M (x : Int)).natAbs < 1000000 ^ 20 ∧ lowD M (x : Int) < 1000000 ^ 20 := by
  have h1 := lowN_le hM (x : Int)
  have h2 := lowD_le M (x : Int)
  rw [Int.natAbs_natCast] at h1
  exact ⟨by omega, by omega⟩
theorem pow_small {S j : Nat} (hS : S ≤ 4096) (hj : j ≤ 25) : S ^ j < 1000000 ^ 20 :=
  Nat.lt_of_le_of_lt (Nat.pow_le_pow_left hS j) (Nat.lt_of_le_of_lt (Nat.pow_le_pow_right (by decide) hj) (by decide))

end Go.Proofs.YtklhfagcembigaaGreatDoor

/- The document's differences. -/
namespace Go.Proofs.YtklhfagcembigaaGreatDoor
open Go.RowKit

/-- What is less than nothing by a part of M. -/
theorem low_minus {M : Nat} (hM : 0 < M) (z : Int) : (0 * (lowD M z : Int) + -lowN M z * (1 : Nat)).tdiv ((Nat.gcd (0 * (lowD M z : Int) + -lowN M z * (1 : Nat)).natAbs (1 * lowD M z) : Nat) : Int) = lowN M (-z) ∧ 1 * lowD M z / Nat.gcd (0 * (lowD M z : Int) + -lowN M z * (1 : Nat)).natAbs (1 * lowD M z) = lowD M (-z) := by
  refine low_same hM (by have := lowD_pos hM z; omega) ?_
  have h1 := low_cross hM z
  rw [Nat.one_mul]
  generalize lowN M z = a at *
  generalize (lowD M z : Int) = c at *
  simp only [Int.zero_mul, Int.zero_add, Int.natCast_one, Int.mul_one]
  rw [Int.neg_mul, h1, Int.neg_mul]
/-- A part of a part: n of M times x of n is x of M. -/
theorem low_times {M n : Nat} (hM : 0 < M) (hn : 0 < n) (x : Int) : (lowN M n * lowN n x).tdiv ((Nat.gcd (lowN M n * lowN n x).natAbs (lowD M n * lowD n x) : Nat) : Int) = lowN M x ∧ lowD M n * lowD n x / Nat.gcd (lowN M n * lowN n x).natAbs (lowD M n * lowD n x) = lowD M x := by
  refine low_same hM (Nat.mul_pos (lowD_pos hM n) (lowD_pos hn x)) ?_
  have h1 := low_cross hM (n : Int)
  have h2 := low_cross hn x
  rw [Int.natCast_mul]
  generalize lowN M n = a at *
  generalize lowN n x = b at *
  generalize (lowD M n : Int) = c at *
  generalize (lowD n x : Int) = e at *
  calc a * b * (M : Int) = (a * (M : Int)) * b := by rw [Int.mul_assoc, Int.mul_comm b, ← Int.mul_assoc]
    _ = (b * (n : Int)) * c := by rw [h1, Int.mul_comm (n : Int) c, Int.mul_assoc, Int.mul_comm c, Int.mul_comm (n : Int) b]
    _ = x * (c * e) := by rw [h2, Int.mul_assoc, Int.mul_comm e c]
theorem low_self {M : Nat} (hM : 0 < M) : lowN M M = 1 ∧ lowD M M = 1 := by
  have h := low_same (M := M) (d := 1) (z := (M : Int)) (n := 1) hM (by decide) (by simp)
  simpa using And.intro h.1.symm h.2.symm
end Go.Proofs.YtklhfagcembigaaGreatDoor

/- The document's order of fractions. -/
namespace Go.Proofs.YtklhfagcembigaaGreatDoor
open Go.RowKit

/-- The sign of a difference. -/
def sgnZ (z : Int) : Int := if z = 0 then 0 else if z < 0 then -1 else 1
/-- Which of two fractions is the less. -/
theorem sgnZ_neg (z : Int) : sgnZ z < 0 ↔ z < 0 := by
  unfold sgnZ
  split
  · omega
  · split <;> omega
end Go.Proofs.YtklhfagcembigaaGreatDoor

/- Bits of numbers that are not below 0, of the kind int. -/
namespace Go.Proofs.YtklhfagcembigaaGreatDoor

theorem i64_low (z : Nat) (h : z < 2 ^ 63) : IntKind.i64.wrap (z : Int) = z := by
  simp [IntKind.wrap, IntKind.bits, IntKind.signed]
  omega
theorem i64_xorN (a b : Nat) (ha : a < 2 ^ 63) (hb : b < 2 ^ 63) : bits .xor .i64 (a : Int) (b : Int) = ((a ^^^ b : Nat) : Int) := by
  show IntKind.i64.wrap ((BitVec.ofInt 64 (a : Int) ^^^ BitVec.ofInt 64 (b : Int)).toNat : Int) = _
  rw [BitVec.toNat_xor, ofInt_u64 a (by omega), ofInt_u64 b (by omega)]
  exact i64_low _ (Nat.xor_lt_two_pow ha hb)
theorem i64_orN (a b : Nat) (ha : a < 2 ^ 63) (hb : b < 2 ^ 63) : bits .or .i64 (a : Int) (b : Int) = ((a ||| b : Nat) : Int) := by
  show IntKind.i64.wrap ((BitVec.ofInt 64 (a : Int) ||| BitVec.ofInt 64 (b : Int)).toNat : Int) = _
  rw [BitVec.toNat_or, ofInt_u64 a (by omega), ofInt_u64 b (by omega)]
  exact i64_low _ (Nat.or_lt_two_pow ha hb)
theorem i64_andN (a b : Nat) (ha : a < 2 ^ 63) (hb : b < 2 ^ 63) : bits .and .i64 (a : Int) (b : Int) = ((a &&& b : Nat) : Int) := by
  show IntKind.i64.wrap ((BitVec.ofInt 64 (a : Int) &&& BitVec.ofInt 64 (b : Int)).toNat : Int) = _
  rw [BitVec.toNat_and, ofInt_u64 a (by omega), ofInt_u64 b (by omega)]
  exact i64_low _ (Nat.and_lt_two_pow a hb)
theorem shr_nat (s a : Nat) : (s : Int) / 2 ^ a = ((s >>> a : Nat) : Int) := by
  rw [Nat.shiftRight_eq_div_pow]
  simp
theorem shr_le (s a : Nat) : s >>> a ≤ s := by
  rw [Nat.shiftRight_eq_div_pow]
  exact Nat.div_le_self _ _
theorem shl_wrap (a : Nat) (h : a < 63) : IntKind.i64.wrap (2 ^ a : Int) = (2 ^ a : Int) := by
  have h1 : (2 ^ a : Int) = ((2 ^ a : Nat) : Int) := by simp
  rw [h1]
  exact i64_low _ (Nat.pow_lt_pow_right (by decide) h)
end Go.Proofs.YtklhfagcembigaaGreatDoor

/- Fractions of the document by their value: sums, differences, products, whatever the numbers that say it. -/
namespace Go.Proofs.YtklhfagcembigaaGreatDoor
open Go.RowKit

/-- A fraction z over M, in its lowest terms. -/
def LR (w : World) (v : Value) (M : Nat) (z : Int) : Prop := RatioAt w v (lowN M z) (lowD M z)
theorem LR.later {w w' : World} {v : Value} {M : Nat} {z : Int} (h : LR w v M z) (hb : Below w.heap.size w w') : LR w' v M z := RatioAt.later h hb
theorem LR.same {w : World} {v : Value} {M d : Nat} {z n : Int} (h : LR w v d n) (hM : 0 < M) (hd : 0 < d) (he : n * (M : Int) = z * (d : Int)) : LR w v M z := by
  have h1 := low_same hM hd he
  unfold LR lowN lowD lowG at h
  rw [h1.1, h1.2] at h
  exact h
/-- What is small enough to be reckoned with. -/
def Sml (M : Nat) (z : Int) : Prop := 0 < M ∧ M < 1000000 ^ 60 ∧ z.natAbs < 1000000 ^ 60
theorem cancel_mul {a b c : Int} (h : c ≠ 0) (e : a * c = b * c) : a = b := Int.eq_of_mul_eq_mul_right h e
theorem RTimes_to (u v : Value) (M1 M2 M : Nat) (z1 z2 z : Int) (w : World) (hu : LR w u M1 z1) (hv : LR w v M2 z2) (h1 : Sml M1 z1) (h2 : Sml M2 z2) (hM : 0 < M) (he : z1 * z2 * (M : Int) = z * ((M1 : Int) * (M2 : Int))) :
    Calls Tryz.prog 60 #[u, v] w fun e w' => ∃ r, e = .returned r ∧ LR w' r M z ∧ Below w.heap.size w w' := by
  refine (Times_ratio u v _ _ _ _ 60 w hu hv (lowD_pos h1.1 _) (lowD_pos h2.1 _) (Nat.lt_of_le_of_lt (lowN_le h1.1 _) h1.2.2) (Nat.lt_of_le_of_lt (lowN_le h2.1 _) h2.2.2) (Nat.lt_of_le_of_lt (lowD_le _ _) h1.2.1) (Nat.lt_of_le_of_lt (lowD_le _ _) h2.2.1) (by decide)).mono ?_
  rintro e w' ⟨r, rfl, hr, hb⟩
  refine ⟨r, rfl, LR.same (d := lowD M1 z1 * lowD M2 z2) (n := lowN M1 z1 * lowN M2 z2) hr hM (Nat.mul_pos (lowD_pos h1.1 _) (lowD_pos h2.1 _)) ?_, hb⟩
  have c1 := low_cross h1.1 z1
  have c2 := low_cross h2.1 z2
  have m1 : (M1 : Int) * (M2 : Int) ≠ 0 := Int.mul_ne_zero (by have := h1.1; omega) (by have := h2.1; omega)
  rw [Int.natCast_mul]
  generalize lowN M1 z1 = a1 at *
  generalize lowN M2 z2 = a2 at *
  generalize (lowD M1 z1 : Int) = b1 at *
  generalize (lowD M2 z2 : Int) = b2 at *
  generalize (M1 : Int) = N1 at *
  generalize (M2 : Int) = N2 at *
  generalize (M : Int) = N at *
  refine cancel_mul m1 ?_
  calc a1 * a2 * N * (N1 * N2) = (a1 * N1) * (a2 * N2) * N := by grind
    _ = (z1 * b1) * (z2 * b2) * N := by rw [c1, c2]
    _ = z1 * z2 * N * (b1 * b2) := by grind
    _ = z * (N1 * N2) * (b1 * b2) := by rw [he]
    _ = z * (b1 * b2) * (N1 * N2) := by grind
theorem RPlus_to (u v : Value) (M1 M2 M : Nat) (z1 z2 z : Int) (w : World) (hu : LR w u M1 z1) (hv : LR w v M2 z2) (h1 : Sml M1 z1) (h2 : Sml M2 z2) (hM : 0 < M) (he : (z1 * (M2 : Int) + z2 * (M1 : Int)) * (M : Int) = z * ((M1 : Int) * (M2 : Int))) :
    Calls Tryz.prog 59 #[u, v] w fun e w' => ∃ r, e = .returned r ∧ LR w' r M z ∧ Below w.heap.size w w' := by
  refine (Plus_ratio u v _ _ _ _ 60 w hu hv (lowD_pos h1.1 _) (lowD_pos h2.1 _) (Nat.lt_of_le_of_lt (lowN_le h1.1 _) h1.2.2) (Nat.lt_of_le_of_lt (lowN_le h2.1 _) h2.2.2) (Nat.lt_of_le_of_lt (lowD_le _ _) h1.2.1) (Nat.lt_of_le_of_lt (lowD_le _ _) h2.2.1) (by decide)).mono ?_
  rintro e w' ⟨r, rfl, hr, hb⟩
  refine ⟨r, rfl, LR.same (d := lowD M1 z1 * lowD M2 z2) (n := lowN M1 z1 * lowD M2 z2 + lowN M2 z2 * lowD M1 z1) hr hM (Nat.mul_pos (lowD_pos h1.1 _) (lowD_pos h2.1 _)) ?_, hb⟩
  have c1 := low_cross h1.1 z1
  have c2 := low_cross h2.1 z2
  have m1 : (M1 : Int) * (M2 : Int) ≠ 0 := Int.mul_ne_zero (by have := h1.1; omega) (by have := h2.1; omega)
  rw [Int.natCast_mul]
  generalize lowN M1 z1 = a1 at *
  generalize lowN M2 z2 = a2 at *
  generalize (lowD M1 z1 : Int) = b1 at *
  generalize (lowD M2 z2 : Int) = b2 at *
  generalize (M1 : Int) = N1 at *
  generalize (M2 : Int) = N2 at *
  generalize (M : Int) = N at *
  refine cancel_mul m1 ?_
  calc (a1 * b2 + a2 * b1) * N * (N1 * N2) = ((a1 * N1) * b2 * N2 + (a2 * N2) * b1 * N1) * N := by grind
    _ = ((z1 * b1) * b2 * N2 + (z2 * b2) * b1 * N1) * N := by rw [c1, c2]
    _ = (z1 * N2 + z2 * N1) * N * (b1 * b2) := by grind
    _ = z * (N1 * N2) * (b1 * b2) := by rw [he]
    _ = z * (b1 * b2) * (N1 * N2) := by grind
theorem RatioOf_to (n : Int) (d M : Nat) (z : Int) (w : World) (h0 : -4611686018427387904 ≤ n) (h1 : n ≤ 4611686018427387904) (hd : 0 < d) (hd1 : d ≤ 4611686018427387904) (hM : 0 < M) (he : n * (M : Int) = z * (d : Int)) :
    Calls Tryz.prog 34 #[.int .i64 n, .int .i64 d] w fun e w' => ∃ r, e = .returned r ∧ LR w' r M z ∧ Below w.heap.size w w' := by
  refine (RatioOf_any n d w h0 h1 hd hd1).mono ?_
  rintro e w' ⟨r, rfl, hr, hb⟩
  exact ⟨r, rfl, LR.same (d := d) (n := n) hr hM hd he, hb⟩
/-- A variable that holds such a fraction. -/
def LB (w : World) (b : Nat) (M : Nat) (z : Int) : Prop := ∃ s x l c x' l' c', RBox w b s x l c x' l' c' (lowN M z) (lowD M z)
theorem LB.later {w w' : World} {b M : Nat} {z : Int} (h : LB w b M z) (hb : Below w.heap.size w w') : LB w' b M z := by
  obtain ⟨s, x, l, c, x', l', c', h⟩ := h
  exact ⟨s, x, l, c, x', l', c', h.later hb⟩
theorem LR.sl {w : World} {v : Value} {M : Nat} {z : Int} (h : LR w v M z) : ∃ s ad l cap ad' l' cap', v = .agg #[.bool s, .slice ad l cap, .slice ad' l' cap'] := RatioAt.sl h

end Go.Proofs.YtklhfagcembigaaGreatDoor

/- A fraction's box in the making: laid ahead of the calls that reckon what it holds, between them, or behind. -/
namespace Go.Proofs.YtklhfagcembigaaGreatDoor
open Go.RowKit

structure NBx (W0 W : World) (B : Nat) : Prop where
  box : RBox W B false none 0 0 none 0 0 0 0
  hB : W0.heap.size ≤ B
theorem NBx.later {W0 W W' : World} {B : Nat} (h : NBx W0 W B) (hb : Below W.heap.size W W') : NBx W0 W' B := ⟨h.box.later hb, h.hB⟩
theorem nbx_new {W0 W : World} (h : Below W0.heap.size W0 W) : NBx W0 (W.alloc (.cells #[.bool false, .slice none 0 0, .slice none 0 0] 57)) W.heap.size :=
  ⟨RBox.fresh (n := 0) (d := 0) (s := false) ⟨_, _, rfl, big_none _, big_none _⟩, h.size⟩
theorem nbx_of {W0 W W' : World} (h : Below W0.heap.size W0 W) (hb : Below (W.alloc (.cells #[.bool false, .slice none 0 0, .slice none 0 0] 57)).heap.size (W.alloc (.cells #[.bool false, .slice none 0 0, .slice none 0 0] 57)) W') : NBx W0 W' W.heap.size :=
  (nbx_new h).later hb
theorem set3_below {W0 W : World} {B : Nat} (h : Below W0.heap.size W0 W) (hB : W0.heap.size ≤ B) (x y z : Value) : Below W0.heap.size W0 (((W.setCell ⟨B, 0, none⟩ x).setCell ⟨B, 1, none⟩ y).setCell ⟨B, 2, none⟩ z) := ((h.setCell hB _).setCell hB _).setCell hB _
structure DBx (W0 W : World) (B : Nat) (M : Nat) (z : Int) : Prop where
  below : Below W0.heap.size W0 W
  hB : W0.heap.size ≤ B
  box : LB W B M z
theorem dbx_late {W0 W : World} {M : Nat} {z : Int} {s : Bool} {x x' : Option Addr} {l c l' c' : Nat} (h : Below W0.heap.size W0 W) (hr : LR W (.agg #[.bool s, .slice x l c, .slice x' l' c']) M z) : DBx W0 (W.alloc (.cells #[.bool s, .slice x l c, .slice x' l' c'] 57)) W.heap.size M z :=
  ⟨more_below h _, h.size, _, _, _, _, _, _, _, RBox.fresh hr⟩
theorem dbx_soon {W0 W : World} {B M : Nat} {z : Int} {s : Bool} {x x' : Option Addr} {l c l' c' : Nat} (h : Below W0.heap.size W0 W) (hr : LR W (.agg #[.bool s, .slice x l c, .slice x' l' c']) M z) (hn : NBx W0 W B) : DBx W0 (((W.setCell ⟨B, 0, none⟩ (.bool s)).setCell ⟨B, 1, none⟩ (.slice x l c)).setCell ⟨B, 2, none⟩ (.slice x' l' c')) B M z := by
  have h9 := hn.box.put hr
  exact ⟨set3_below h hn.hB _ _ _, hn.hB, ⟨s, x, l, c, x', l', c', h9⟩⟩
end Go.Proofs.YtklhfagcembigaaGreatDoor

/- The document's SquaresOf: the sum of the squares of chances. -/
namespace Go.Proofs.YtklhfagcembigaaGreatDoor
open Go.RowKit

set_option maxRecDepth 100000 in
set_option maxHeartbeats 8000000 in
theorem SquaresOf_any (v : Value) (n S : Nat) (z : Nat → Int) (w : World) (h : NumsAt w v n z) (hS : sumN z n = (S : Int)) (hw0 : weightsErr z n = 0) :
    Calls Tryz.prog 32 #[v] w fun e w' => ∃ r, e = .returned r ∧ LR w' r (S * S) (sqNR z n : Int) ∧ Below w.heap.size w w' := by
  obtain ⟨h16, hok⟩ := weightsErr_ok hw0
  have hn0 := hok.posN
  have hS0 : 0 < S := by have := hok.pos; omega
  have hS4 : S ≤ 4096 := by have := hok.le; omega
  have hSS : 0 < S * S := Nat.mul_pos hS0 hS0
  have hSS2 : S * S ≤ 16777216 := Nat.mul_le_mul (show S ≤ 4096 from hS4) hS4
  obtain ⟨vb, vo, vc, rfl, hrow⟩ := nums_row h hn0
  have HRW : Hid (∀ W, Below w.heap.size w W → RowAt W vb vo n z) := fun W hb => hrow.later hb
  have HSU : Hid (∀ W, Below w.heap.size w W → Calls Tryz.prog 15 #[.slice (some ⟨vb, vo, none⟩) n vc] W fun e w' => e = .returned (.int .i64 (S : Int)) ∧ Below W.heap.size W w') := fun W hb => by
    have h9 := Sum_some vb vo vc n z W (hrow.later hb) (fun k hk => by have := hok.part hk; omega) (fun i hi => by have := hok.lt hi; omega) (by omega)
    rw [hS] at h9
    refine h9.mono ?_
    rintro e w' ⟨rfl, rfl⟩
    exact ⟨rfl, Below.refl _ _⟩
  have HLT := Hid.mk' (fun i (hi : i < n) => hok.lt hi)
  have HR0 : Hid (∀ W, Calls Tryz.prog 34 #[.int .i64 0, .int .i64 1] W fun e w' => ∃ r, e = .returned r ∧ LR w' r (S * S) 0 ∧ Below W.heap.size W w') := fun W => RatioOf_to 0 1 (S * S) 0 W (by decide) (by decide) (by decide) (by decide) hSS (by simp)
  have HRO0 : Hid (∀ (y : Int) W, 0 ≤ y → y ≤ 4096 → Calls Tryz.prog 34 #[.int .i64 y, .int .i64 (S : Int)] W fun e w' => ∃ r, e = .returned r ∧ LR w' r S y ∧ Below W.heap.size W w') := fun y W h1 h2 => RatioOf_to y S S y W (by omega) (by omega) hS0 (by omega) hS0 rfl
  have HTI0 : Hid (∀ (y : Int) W u u', 0 ≤ y → y ≤ 4096 → LR W u S y → LR W u' S y → Calls Tryz.prog 60 #[u, u'] W fun e w' => ∃ r, e = .returned r ∧ LR w' r (S * S) (y * y) ∧ Below W.heap.size W w') := fun y W u u' a1 a2 hu hu' => RTimes_to u u' S S (S * S) y y (y * y) W hu hu' ⟨hS0, by omega, by omega⟩ ⟨hS0, by omega, by omega⟩ hSS (by rw [Int.natCast_mul])
  have HPL0 : Hid (∀ (y1 y2 : Int) W u u', 0 ≤ y1 → y1 ≤ 268435456 → 0 ≤ y2 → y2 ≤ 268435456 → LR W u (S * S) y1 → LR W u' (S * S) y2 → Calls Tryz.prog 59 #[u, u'] W fun e w' => ∃ r, e = .returned r ∧ LR w' r (S * S) (y1 + y2) ∧ Below W.heap.size W w') := fun y1 y2 W u u' a1 a2 b1 b2 hu hu' => RPlus_to u u' (S * S) (S * S) (S * S) y1 y2 (y1 + y2) W hu hu' ⟨hSS, by omega, by omega⟩ ⟨hSS, by omega, by omega⟩ hSS (by generalize ((S * S : Nat) : Int) = Q; grind)
  have HSB : Hid (∀ k, k ≤ n → sqNR z k ≤ k * 16777216) := fun k => by
    induction k with
    | zero => intro _; exact Nat.le_refl _
    | succ k ih =>
      intro hk
      have h1 := ih (by omega)
      have h2 := hok.lt (i := k) (by omega)
      have h3 : wN z k ≤ 4096 := by unfold wN; omega
      have h4 : wN z k * wN z k ≤ 4096 * 4096 := Nat.mul_le_mul h3 h3
      show sqNR z k + wN z k * wN z k ≤ _
      omega
  obtain ⟨W0, hW0⟩ : ∃ W0, W0 = w.alloc (.cells #[.bool false, .slice none 0 0, .slice none 0 0] 57) := ⟨_, rfl⟩
  have hb0 : Below w.heap.size w W0 := by rw [hW0]; exact (Below.refl _ _).alloc (Nat.le_refl _) _
  have c0 : W0.cell? ⟨w.heap.size, 0, none⟩ = some (.bool false) := by rw [hW0]; simp
  have c1 : W0.cell? ⟨w.heap.size, 1, none⟩ = some (.slice none 0 0) := by rw [hW0]; simp
  have c2 : W0.cell? ⟨w.heap.size, 2, none⟩ = some (.slice none 0 0) := by rw [hW0]; simp
  have f0 : ∀ j, W0.frozen? ⟨w.heap.size, j, none⟩ = false := fun j => by rw [hW0]; simp
  have HC : Hid (∀ W, Below W0.heap.size W0 W → (W.cell? ⟨w.heap.size, 0, none⟩ = some (.bool false) ∧ W.cell? ⟨w.heap.size, 1, none⟩ = some (.slice none 0 0) ∧ W.cell? ⟨w.heap.size, 2, none⟩ = some (.slice none 0 0)) ∧ ∀ j, W.frozen? ⟨w.heap.size, j, none⟩ = false) := fun W hb => ⟨⟨by rw [hb.cell (cell_lt c0)]; exact c0, by rw [hb.cell (cell_lt c1)]; exact c1, by rw [hb.cell (cell_lt c2)]; exact c2⟩, fun j => by rw [hb.frozen (show w.heap.size < W0.heap.size from cell_lt c0)]; exact f0 j⟩
  have HEND : Hid (∀ W, Below W0.heap.size W0 W → Below w.heap.size w W) := fun W hb => hb0.trans (hb.mono hb0.size)
  have HW0 := Hid.mk' hW0
  have HL0 : Hid (w.heap.size < W0.heap.size) := cell_lt c0
  clear h hrow hok hw0 hS hb0 hW0 c0 c1 c2 f0
  go_enter Tryz.func32, Tryz.ntmps32
  go_upto_region 1 with fail
  rw [← HW0.out]
  go_wp2_with fail
  refine (HR0.out _).mono ?_
  rintro e w3 ⟨r3, rfl, hr3, hb3⟩
  obtain ⟨s3, x3, l3, k3, y3, m3, q3, rfl⟩ := hr3.sl
  have HRS := Hid.mk' (RBox.fresh hr3)
  have HBS : Hid (W0.heap.size ≤ w3.heap.size) := hb3.size
  have HB3 := Hid.mk' (below_chain hb3 (new_below w3 (.cells #[.bool s3, .slice x3 l3 k3, .slice y3 m3 q3] 57)))
  clear hr3 hb3 HR0
  go_wp2_with fail
  generalize w3.alloc (.cells #[.bool s3, .slice x3 l3 k3, .slice y3 m3 q3] 57) = W3 at *
  generalize w3.heap.size = Bs at *
  go_loopw [4] (fun t wr => ∃ (k : Nat) (sS : Bool) (xS : Option Addr) (lS cS : Nat) (yS : Option Addr) (mS kS : Nat), k ≤ n ∧ t = .int .i64 (k : Int) ∧ Hid (RBox wr Bs sS xS lS cS yS mS kS (lowN (S * S) (sqNR z k : Int)) (lowD (S * S) (sqNR z k : Int))) ∧ Hid (Below W0.heap.size W0 wr)) (fun t _ => n - (intOf t).toNat)
  case atStart => exact ⟨0, s3, x3, l3, k3, y3, m3, q3, Nat.zero_le _, rfl, HRS.out, HB3.out⟩
  case round =>
    clear HRS HB3
    obtain ⟨k, sS, xS, lS, cS, yS, mS, kS, hk, rfl, HSX0, HB⟩ := hrel
    have hsb := HSB.out k hk
    rcases Nat.lt_or_ge k n with h1 | h1
    · have hkI : (k : Int) < (n : Int) := by omega
      have hk0 : (0 : Int) ≤ (k : Int) := by omega
      have hx := HLT.out k h1
      have HN : Hid (((sqNR z (k + 1) : Nat) : Int) = (sqNR z k : Int) + z k * z k) := by
        show ((sqNR z k + wN z k * wN z k : Nat) : Int) = _
        have : (wN z k : Int) = z k := by unfold wN; omega
        rw [Int.natCast_add, Int.natCast_mul, this]
      have hxx : 0 ≤ z k * z k ∧ z k * z k ≤ 16777216 := ⟨Int.mul_nonneg hx.1 hx.1, Int.mul_le_mul (c := 4096) (d := 4096) hx.2 hx.2 hx.1 (by omega)⟩
      have HKX : Hid (∀ W, Below wr.heap.size wr W → W.cell? ⟨vb, vo + k, none⟩ = some (.int .i64 (z k))) := fun W hb => HRW.out W (HEND.out W (below_chain HB.out hb)) k h1
      have HSM : Hid (∀ W, Below wr.heap.size wr W → Calls Tryz.prog 15 #[.slice (some ⟨vb, vo, none⟩) n vc] W fun e w' => e = .returned (.int .i64 (S : Int)) ∧ Below W.heap.size W w') := fun W hb => HSU.out W (HEND.out W (below_chain HB.out hb))
      have HRO := Hid.mk' (fun W => HRO0.out (z k) W hx.1 hx.2)
      have HTI := Hid.mk' (fun W u u' => HTI0.out (z k) W u u' hx.1 hx.2)
      have HPL := Hid.mk' (fun W u u' => HPL0.out (sqNR z k : Int) (z k * z k) W u u' (by omega) (by omega) hxx.1 (by omega))
      clear HRW HSU HRO0 HTI0 HPL0 hxx hsb
      generalize hqe : sqNR z k = qk at *
      generalize z k = x at *
      rename World => wy
      go_wp2_with fail
      go_upto_region 5 with fail
      have HKS := HKX
      have HCA := HSM
      have HCB : Hid (∀ (W : World), Below wy.heap.size wy W → Calls Tryz.prog 34 #[.int .i64 x, .int .i64 (S : Int)] W fun e w' => ∃ r, e = .returned r ∧ LR w' r S x ∧ Below W.heap.size W w') := fun W _ => HRO.out W
      have hcur0 : Below wy.heap.size wy wy := Below.refl _ _
      have hcur : Below wy.heap.size wy wy.drew := (Below.refl _ _).drew
      have hcurA : ∀ X, Below wy.heap.size wy (wy.alloc X).drew := fun X => (new_below _ _).drew
      go_cut [5] from 7 to 24 (fun s' wx => ∃ Bs : Nat, s' = .pointer (some ⟨Bs, 0, none⟩) ∧ Hid (DBx wy wx Bs S x))
      case first =>
        go_region_held3 (fun W => W.cell? ⟨vb, vo + k, none⟩ = some (.int .i64 x))
          (first | exact HKS.out _ hcur0 | exact HKS.out _ hcur | exact HKS.out _ (hcurA _) | (refine HKS.out _ ?_; assumption) | (refine HKS.out _ (more_below ?_ _); assumption) | (refine HKS.out _ (set3_below ?_ NB.hB _ _ _); assumption))
          (first
            | (go_at_call 34; (have hz7 := hbw1; clear hz7); refine (HCB.out _ ?hcw).mono ?_; (case hcw => first | exact hcur0 | exact hcur | exact hcurA _ | exact hbw1 | exact more_below hbw1 _); rintro e w162 ⟨rv2, rfl, hrv2, hb2⟩; obtain ⟨sg2, xg2, lg2, cg2, xh2, lh2, ch2, rfl⟩ := hrv2.sl; (first | (have hbw2 := below_chain hbw1 hb2; (try have NB := NB.later hb2)) | (have hbw2 := below_chain (more_below hbw1 _) hb2; have NB := nbx_of hbw1 hb2)); (first | have hq12 : Below w161.heap.size w161 w162 := hb2 | have hq12 : Below w161.heap.size w161 w162 := below_chain (new_below _ _) hb2); (try (have y0 := NB.box.c0; have y1 := NB.box.c1; have y2 := NB.box.c2; have y3 := NB.box.fz 0 (by decide); have y4 := NB.box.fz 1 (by decide); have y5 := NB.box.fz 2 (by decide))); have HRV := Hid.mk' hrv2; clear hrv2)
            | (go_at_call 15; refine (HCA.out _ ?hcw).mono ?_; (case hcw => first | exact hcur0 | exact hcur | exact hcurA _); rintro e w161 ⟨rfl, hb1⟩; (first | (have hbw1 := below_chain hcur hb1) | (have hbw1 := below_chain (hcurA _) hb1; have NB := nbx_of hcur0 (below_chain ((Below.refl _ _).drew) hb1))); skip))
        all_goals
          go_wp2_with fail
          go_meet
          first | exact ⟨_, rfl, dbx_late hbw2 HRV.out⟩ | exact ⟨_, rfl, dbx_soon hbw2 HRV.out NB⟩
      case rest =>
      obtain ⟨Bq, rfl, HRB⟩ := hcut
      obtain ⟨Wq, hWq⟩ : ∃ W, W = wc := ⟨_, rfl⟩
      rw [← hWq] at HRB ⊢
      clear hWq hcur0 hcur hcurA HKS
      have hbx := HRB.out.below
      obtain ⟨sq, xq, lq, cq, yq, mq, kq, hbox⟩ := HRB.out.box
      have HXq := Hid.mk' hbox
      have HBq := Hid.mk' (below_chain HB.out hbx)
      have HSX := Hid.mk' (HSX0.out.later hbx)
      clear hbx hbox HRB HCA HCB HKX HSM HRO HSX0 HB
      have HKS : Hid (∀ W, Below Wq.heap.size Wq W → (W.cell? ⟨Bs, 0, none⟩ = some (.bool sS) ∧ W.cell? ⟨Bs, 1, none⟩ = some (.slice xS lS cS) ∧ W.cell? ⟨Bs, 2, none⟩ = some (.slice yS mS kS)) ∧ (W.cell? ⟨Bq, 0, none⟩ = some (.bool sq) ∧ W.cell? ⟨Bq, 1, none⟩ = some (.slice xq lq cq) ∧ W.cell? ⟨Bq, 2, none⟩ = some (.slice yq mq kq))) := fun W hb => ⟨⟨(HSX.out.later hb).c0, (HSX.out.later hb).c1, (HSX.out.later hb).c2⟩, ⟨(HXq.out.later hb).c0, (HXq.out.later hb).c1, (HXq.out.later hb).c2⟩⟩
      have hcur : Below Wq.heap.size Wq Wq.drew := (Below.refl _ _).drew
      go_upto_region 6 with fail
      refine region_but_last (n := 5) (S := (fun W => (W.cell? ⟨Bs, 0, none⟩ = some (.bool sS) ∧ W.cell? ⟨Bs, 1, none⟩ = some (.slice xS lS cS) ∧ W.cell? ⟨Bs, 2, none⟩ = some (.slice yS mS kS)) ∧ (W.cell? ⟨Bq, 0, none⟩ = some (.bool sq) ∧ W.cell? ⟨Bq, 1, none⟩ = some (.slice xq lq cq) ∧ W.cell? ⟨Bq, 2, none⟩ = some (.slice yq mq kq)))) (by kernel_rfl) (by kernel_rfl) (by kernel_rfl) (HKS.out _ hcur) (fun hHeld => ?_)
      refine wpAnyH_take (i := 0) (v := ?v0g) rfl (by kernel_rfl) (by kernel_rfl) (by kernel_rfl) (fun _ _ _ h => h) (Or.inl ⟨by rfl, ?hy0g⟩) (by assumption) ?rest0g
      case hy0g => (intro w hSw; (try dsimp only at hSw); go_simp <;> (try with_reducible rfl))
      simp only [Act.put]
      refine wpAnyH_take (i := 1) (v := ?v1g) rfl (by kernel_rfl) (by kernel_rfl) (by kernel_rfl) (fun _ _ _ h => h) (Or.inl ⟨by rfl, ?hy1g⟩) (by assumption) ?rest1g
      case hy1g => (intro w hSw; (try dsimp only at hSw); go_simp <;> (try with_reducible rfl))
      simp only [Act.put]
      refine wpAnyH_take (i := 2) (v := ?v2g) rfl (by kernel_rfl) (by kernel_rfl) (by kernel_rfl) (fun _ _ _ h => h) (Or.inl ⟨by rfl, ?hy2g⟩) (by assumption) ?rest2g
      case hy2g => (intro w hSw; (try dsimp only at hSw); go_simp <;> (try with_reducible rfl))
      simp only [Act.put]
      refine wpAnyH_ready (rs := [3]) (by kernel_rfl) (by simp) ?_
      refine AllReadyH.cons rfl (fun K hK => ?_) AllReadyH.nil
      go_simp
      refine (HTI.out _ _ _ (HXq.out.later hcur).rat (HXq.out.later hcur).rat).mono ?_
      rintro e wa ⟨ra, rfl, hra, hba⟩
      obtain ⟨sa, xa, la, ca, ya, ma, ka, rfl⟩ := hra.sl
      have hcur := below_chain hcur hba
      have HVa := Hid.mk' hra
      clear hra hba
      go_wp2_with fail
      refine hK.out _ _ ?_ (fun hHeld => ?_)
      · exact HKS.out _ hcur
      clear hK K
      refine wpAnyH_ready (rs := [4]) (by kernel_rfl) (by simp) ?_
      refine AllReadyH.cons rfl (fun K hK => ?_) AllReadyH.nil
      go_simp
      refine (HPL.out _ _ _ (HSX.out.later hcur).rat HVa.out).mono ?_
      rintro e wb ⟨rb, rfl, hrb, hbb⟩
      obtain ⟨sb, xb, lb, cb, yb, mb, kb, rfl⟩ := hrb.sl
      have hcur := below_chain hcur hbb
      have hL9 := HSX.out.later hcur
      have fz0 := hL9.fz 0 (by decide)
      have fz1 := hL9.fz 1 (by decide)
      have fz2 := hL9.fz 2 (by decide)
      have k0 := hL9.c0
      have k1 := hL9.c1
      have k2 := hL9.c2
      obtain ⟨⟨g0, g1⟩, ⟨g2, g3⟩, g4⟩ := put_three' (.bool sb) (.slice xb lb cb) (.slice yb mb kb) k0 k1 k2
      have HP := Hid.mk' (hL9.put hrb)
      have HB9 : Hid (Below W0.heap.size W0 (((wb.setCell ⟨Bs, 0, none⟩ (.bool sb)).setCell ⟨Bs, 1, none⟩ (.slice xb lb cb)).setCell ⟨Bs, 2, none⟩ (.slice yb mb kb))) := (((below_chain HBq.out hcur).setCell HBS.out _).setCell HBS.out _).setCell HBS.out _
      clear hL9 hrb hbb
      go_wp2_with fail
      refine hK.out _ _ ?_ (fun hHeld => ?_)
      · exact HKS.out _ hcur
      clear hK K
      refine wpAnyH_done (by kernel_rfl) ?_ _
      refine ahead_last rfl (fun K hK => ?_)
      go_simp
      refine hK _ _ ?_
      clear hK K
      unfold put3 at HP
      clear HKS HVa hHeld hcur k0 k1 k2 fz0 fz1 fz2 g0 g1 g2 g3 g4 HSX HXq HBq HTI HPL
      generalize ((wb.setCell ⟨Bs, 0, none⟩ (.bool sb)).setCell ⟨Bs, 1, none⟩ (.slice xb lb cb)).setCell ⟨Bs, 2, none⟩ (.slice yb mb kb) = wz at *
      go_wp2_with fail
      exact ⟨⟨k + 1, sb, xb, lb, cb, yb, mb, kb, h1, by go_num, by show RBox _ _ _ _ _ _ _ _ _ _ _; rw [HN.out]; exact HP.out, HB9.out⟩, by simp [intOf]; omega⟩
    · obtain rfl : k = n := by omega
      have hkI : ¬ (k : Int) < (k : Int) := by omega
      have hS9 := HSX0.out
      have q0 := hS9.c0
      have q1 := hS9.c1
      have q2 := hS9.c2
      obtain ⟨⟨d0, d1, d2⟩, df⟩ := HC.out wr HB.out
      have df0 := df 0
      have df1 := df 1
      have df2 := df 2
      obtain ⟨⟨g0, g1⟩, ⟨g2, g3⟩, g4⟩ := put_three' (.bool sS) (.slice xS lS cS) (.slice yS mS kS) d0 d1 d2
      have hX : RBox wr w.heap.size false none 0 0 none 0 0 0 0 := ⟨d0, d1, d2, ⟨_, _, rfl, big_none _, big_none _⟩, fun j _ => df j⟩
      have HP := Hid.mk' (RatioAt.put3 hX hS9.rat (.bool sS) (.slice xS lS cS) (.slice yS mS kS))
      have HBE : Hid (Below w.heap.size w (((wr.setCell ⟨w.heap.size, 0, none⟩ (.bool sS)).setCell ⟨w.heap.size, 1, none⟩ (.slice xS lS cS)).setCell ⟨w.heap.size, 2, none⟩ (.slice yS mS kS))) := (((HEND.out wr HB.out).setCell (Nat.le_refl _) _).setCell (Nat.le_refl _) _).setCell (Nat.le_refl _) _
      clear hS9 hX df
      go_wp2_with fail
      unfold put3 at HP
      have G0 := Hid.mk' g2
      have G1 := Hid.mk' g3
      have G2 := Hid.mk' g4
      clear g0 g1 g2 g3 g4
      generalize ((wr.setCell ⟨w.heap.size, 0, none⟩ (.bool sS)).setCell ⟨w.heap.size, 1, none⟩ (.slice xS lS cS)).setCell ⟨w.heap.size, 2, none⟩ (.slice yS mS kS) = W9 at *
      exact bodyPost_ret (v := .agg #[.bool sS, .slice xS lS cS, .slice yS mS kS]) (by simp [results, Tryz.results32, go_sem, G0.out, G1.out, G2.out]) rfl ⟨_, rfl, HP.out, HBE.out⟩
end Go.Proofs.YtklhfagcembigaaGreatDoor
