/- The document's SignedAdd. -/
import Derived.Test.YtiegobkbinojeaaDoorSigned
namespace Go.Proofs.YtiegobkbinojeaaDoor
open Go.RowKit

theorem below_res {W0 w1 : World} {B : Nat} (h : Below B W0 w1) (x y : Value) : Below B W0 ((w1.setCell ⟨B, 0, none⟩ x).setCell ⟨B, 1, none⟩ y) := (h.setCell (Nat.le_refl _) _).setCell (Nat.le_refl _) _
theorem add_same {x y : Int} {s : Bool} (h1 : decide (x < 0) = s) (h2 : decide (y < 0) = s) : decide (x + y < 0) = s ∧ (x + y).natAbs = x.natAbs + y.natAbs := by
  cases s
  · have hx := of_decide_eq_false h1
    have hy := of_decide_eq_false h2
    exact ⟨decide_eq_false (by omega), by omega⟩
  · have hx := of_decide_eq_true h1
    have hy := of_decide_eq_true h2
    exact ⟨decide_eq_true (by omega), by omega⟩

set_option maxRecDepth 10000 in
set_option maxHeartbeats 2000000 in
theorem SignedAdd_same (u1 u2 : Value) (x y : Int) (s : Bool) (k : Nat) (w : World) (hs1 : decide (x < 0) = s) (hs2 : decide (y < 0) = s) (hu1 : BigAt w u1 x.natAbs) (hu2 : BigAt w u2 y.natAbs) (hx : x.natAbs < 1000000 ^ k) (hy : y.natAbs < 1000000 ^ k) (hk : k ≤ 1000000) :
    Calls Tryd.prog 58 #[.agg #[.bool s, u1], .agg #[.bool s, u2]] w fun e w' => ∃ r, e = .returned r ∧ SignedAt w' r (x + y) ∧ Below w.heap.size w w' := by
  obtain ⟨ad1, l1, cap1, rfl, _⟩ := hu1.len
  obtain ⟨ad2, l2, cap2, rfl, _⟩ := hu2.len
  obtain ⟨hsg, hab⟩ := add_same hs1 hs2
  have hB0 : Below w.heap.size w (((w.alloc (.cells #[.bool s, .slice ad1 l1 cap1] 48)).alloc (.cells #[.bool s, .slice ad2 l2 cap2] 48)).alloc (.cells #[.bool false, .slice none 0 0] 48)) := (((Below.refl _ _).alloc (Nat.le_refl _) _).alloc (by simp) _).alloc (by simp; omega) _
  have hN := noInts_third w (.cells #[.bool s, .slice ad1 l1 cap1] 48) (.cells #[.bool s, .slice ad2 l2 cap2] 48) 48
  have hTP := fun (w1 : World) => three_past (w := w) (w1 := w1) (x0 := .bool s) (x1 := .slice ad1 l1 cap1) (y0 := .bool s) (y1 := .slice ad2 l2 cap2) (r0 := .bool false) (r1 := .slice none 0 0) (t := 48)
  have hz0 : w.heap.size + 1 + 1 + 1 = (((w.alloc (.cells #[.bool s, .slice ad1 l1 cap1] 48)).alloc (.cells #[.bool s, .slice ad2 l2 cap2] 48)).alloc (.cells #[.bool false, .slice none 0 0] 48)).heap.size := by simp
  generalize hW : (((w.alloc (.cells #[.bool s, .slice ad1 l1 cap1] 48)).alloc (.cells #[.bool s, .slice ad2 l2 cap2] 48)).alloc (.cells #[.bool false, .slice none 0 0] 48)) = W0 at hB0 hN hTP hz0
  have hadd := BigAdd_any _ _ _ _ k W0.drew ((hu1.later hB0).later ((Below.refl _ _).drew)) ((hu2.later hB0).later ((Below.refl _ _).drew)) hx hy hk
  rw [← hab] at hadd
  have hKS : ∀ W, Below (w.heap.size + 1 + 1) W0 W → W.cell? ⟨w.heap.size, 0, none⟩ = some (.bool s) ∧ W.cell? ⟨w.heap.size, 1, none⟩ = some (.slice ad1 l1 cap1) ∧ W.cell? ⟨w.heap.size + 1, 1, none⟩ = some (.slice ad2 l2 cap2) := fun W hb => by
    obtain ⟨⟨a0, a1⟩, ⟨b0, b1⟩, _⟩ := hTP W0 (Below.refl _ _)
    exact ⟨by rw [hb.cell (p := ⟨w.heap.size, 0, none⟩) (by show w.heap.size < _; omega)]; exact a0, by rw [hb.cell (p := ⟨w.heap.size, 1, none⟩) (by show w.heap.size < _; omega)]; exact a1, by rw [hb.cell (p := ⟨w.heap.size + 1, 1, none⟩) (by show w.heap.size + 1 < _; omega)]; exact b1⟩
  have HKS := Hid.mk' hKS
  have HW := Hid.mk' hW
  have HTP := Hid.mk' hTP
  have HN := Hid.mk' hN
  have HB := Hid.mk' hB0
  have HSG := Hid.mk' hsg
  have HADD := Hid.mk' hadd
  have hcur0 : Below (w.heap.size + 1 + 1) W0 W0 := Below.refl _ _
  have hcur : Below (w.heap.size + 1 + 1) W0 W0.drew := (Below.refl _ _).drew
  have a0 := (HTP.out W0 (Below.refl _ _)).1.1
  have b0 := (HTP.out W0 (Below.refl _ _)).2.1.1
  have hss : (s == s) = true := by simp
  clear hs1 hs2 hu1 hu2 hx hy hB0 hKS hsg hab hN hTP hadd hW
  go_enter Tryd.func58, Tryd.ntmps58
  go_wp2_with fail
  rw [HW.out]
  go_region_held3 (fun W => W.cell? ⟨w.heap.size, 0, none⟩ = some (.bool s) ∧ W.cell? ⟨w.heap.size, 1, none⟩ = some (.slice ad1 l1 cap1) ∧ W.cell? ⟨w.heap.size + 1, 1, none⟩ = some (.slice ad2 l2 cap2))
    (first | exact HKS.out _ hcur0 | exact HKS.out _ hcur | exact HKS.out _ hc1 | exact HKS.out _ (below_res hc1 _ _))
    (first
      | (go_at_call 72; refine HADD.out.mono ?_; rintro e w1 ⟨u, rfl, hu, hb1⟩; obtain ⟨ad, l, cap, rfl, _⟩ := hu.len; have hbw := below_chain ((Below.refl _ _).drew) hb1; have hc1 : Below (w.heap.size + 1 + 1) W0 w1 := hbw.mono (by omega); obtain ⟨_, _, ⟨c0, c1⟩, f0, f1⟩ := HTP.out w1 hbw; have HU := Hid.mk' hu; have HBW := Hid.mk' hbw; clear hu hb1 hbw))
  go_wp2_with fail
  refine bodyPost_ret (v := .agg #[.bool s, .slice ad l cap]) (by simp [results, Tryd.results58, go_sem, c0, c1]) rfl ⟨_, rfl, ⟨.slice ad l cap, by rw [HSG.out], ?_⟩, ?_⟩
  · exact HU.out.set2 (HN.out.later (by omega) HBW.out) c0 c1
  · exact ((below_chain HB.out HBW.out).setCell (by simp; omega) _).setCell (by simp; omega) _

set_option maxRecDepth 10000 in
set_option maxHeartbeats 2000000 in
theorem SignedAdd_more (u1 u2 : Value) (x y : Int) (s1 s2 : Bool) (k : Nat) (w : World) (hs1 : decide (x < 0) = s1) (hs2 : decide (y < 0) = s2) (hne : s1 ≠ s2) (hu1 : BigAt w u1 x.natAbs) (hu2 : BigAt w u2 y.natAbs) (hx : x.natAbs < 1000000 ^ k) (hy : y.natAbs < 1000000 ^ k) (hk : k ≤ 1000000) (hle : y.natAbs ≤ x.natAbs) :
    Calls Tryd.prog 58 #[.agg #[.bool s1, u1], .agg #[.bool s2, u2]] w fun e w' => ∃ r, e = .returned r ∧ SignedAt w' r (x + y) ∧ Below w.heap.size w w' := by
  obtain ⟨ad1, l1, cap1, rfl, _⟩ := hu1.len
  obtain ⟨ad2, l2, cap2, rfl, _⟩ := hu2.len
  have hB0 : Below w.heap.size w (((w.alloc (.cells #[.bool s1, .slice ad1 l1 cap1] 48)).alloc (.cells #[.bool s2, .slice ad2 l2 cap2] 48)).alloc (.cells #[.bool false, .slice none 0 0] 48)) := (((Below.refl _ _).alloc (Nat.le_refl _) _).alloc (by simp) _).alloc (by simp; omega) _
  have hN := noInts_third w (.cells #[.bool s1, .slice ad1 l1 cap1] 48) (.cells #[.bool s2, .slice ad2 l2 cap2] 48) 48
  have hTP := fun (w1 : World) => three_past (w := w) (w1 := w1) (x0 := .bool s1) (x1 := .slice ad1 l1 cap1) (y0 := .bool s2) (y1 := .slice ad2 l2 cap2) (r0 := .bool false) (r1 := .slice none 0 0) (t := 48)
  have hz0 : w.heap.size + 1 + 1 + 1 = (((w.alloc (.cells #[.bool s1, .slice ad1 l1 cap1] 48)).alloc (.cells #[.bool s2, .slice ad2 l2 cap2] 48)).alloc (.cells #[.bool false, .slice none 0 0] 48)).heap.size := by simp
  generalize hW : (((w.alloc (.cells #[.bool s1, .slice ad1 l1 cap1] 48)).alloc (.cells #[.bool s2, .slice ad2 l2 cap2] 48)).alloc (.cells #[.bool false, .slice none 0 0] 48)) = W0 at hB0 hN hTP hz0
  have hcmp := BigCmp_any _ _ _ _ k W0 (hu1.later hB0) (hu2.later hB0) hx hy hk
  have HU12 := Hid.mk' (And.intro (hu1.later hB0) (hu2.later hB0))
  have HXY := Hid.mk' (And.intro hx hy)
  have HLE := Hid.mk' hle
  have HW := Hid.mk' hW
  have HTP := Hid.mk' hTP
  have HN := Hid.mk' hN
  have HB := Hid.mk' hB0
  have hss : (s1 == s2) = false := by simpa using hne
  have hz : 0 ≤ cmpOf x.natAbs y.natAbs := by
    rcases Nat.lt_or_ge y.natAbs x.natAbs with h | h
    · rw [cmpOf_gt h]; omega
    · rw [cmpOf_eq (by omega)]; omega
  have hab : (x + y).natAbs = x.natAbs - y.natAbs ∧ (s1 = false → decide (x + y < 0) = false) ∧ (s1 = true → ((x + y).natAbs = 0 → decide (x + y < 0) = false) ∧ ((x + y).natAbs ≠ 0 → decide (x + y < 0) = true)) := by
    cases s1 <;> cases s2
    · exact absurd rfl hne
    · have h1 := of_decide_eq_false hs1
      have h2 := of_decide_eq_true hs2
      exact ⟨by omega, fun _ => decide_eq_false (by omega), fun h => by cases h⟩
    · have h1 := of_decide_eq_true hs1
      have h2 := of_decide_eq_false hs2
      exact ⟨by omega, (fun h => by cases h), fun _ => ⟨fun h => decide_eq_false (by omega), fun h => decide_eq_true (by omega)⟩⟩
    · exact absurd rfl hne
  have HAB := Hid.mk' hab
  clear hs1 hs2 hu1 hu2 hx hy hB0 hN hTP hW hle hab hne
  generalize cmpOf x.natAbs y.natAbs = cz at hcmp hz
  have a0 := (HTP.out W0 (Below.refl _ _)).1.1
  have a1 := (HTP.out W0 (Below.refl _ _)).1.2
  have b0 := (HTP.out W0 (Below.refl _ _)).2.1.1
  have b1 := (HTP.out W0 (Below.refl _ _)).2.1.2
  go_enter Tryd.func58, Tryd.ntmps58
  go_wp2_with fail
  rw [HW.out]
  refine hcmp.mono ?_
  clear hcmp a0 a1 b0 b1
  rintro e w1 ⟨rfl, m1, hw1⟩
  have hb1 : Below W0.heap.size W0 w1 := by rw [hw1]; exact below_drewN (Below.refl _ _) _
  clear hw1
  obtain ⟨⟨a0, a1⟩, ⟨b0, b1⟩, _⟩ := HTP.out w1 hb1
  have hsub := BigSub_any _ _ _ _ k w1 (HU12.out.1.later hb1) (HU12.out.2.later hb1) HLE.out HXY.out.1 hk
  rw [← HAB.out.1] at hsub
  have HB1 := Hid.mk' hb1
  clear hb1
  go_wp2_with fail
  refine hsub.mono ?_
  clear hsub a0 a1 b0 b1
  rintro e w2 ⟨u, rfl, hu, hb2⟩
  obtain ⟨ad, l, cap, rfl, hl⟩ := hu.len
  have hbw := below_chain HB1.out hb2
  obtain ⟨⟨a0, a1⟩, ⟨b0, b1⟩, ⟨c0, c1⟩, f0, f1⟩ := HTP.out w2 hbw
  have HU := Hid.mk' hu
  have HBW := Hid.mk' hbw
  have HL := Hid.mk' hl
  have HDS := Hid.mk' HAB.out.2
  clear hu hb2 hbw hl HAB
  cases s1
  · have HD : Hid (decide (x + y < 0) = false) := HDS.out.1 rfl
    go_wp2_with fail
    refine bodyPost_ret (v := .agg #[.bool false, .slice ad l cap]) (by simp [results, Tryd.results58, go_sem, c0, c1]) rfl ⟨_, rfl, ⟨.slice ad l cap, by rw [HD.out], HU.out.set2 (HN.out.later (by omega) HBW.out) c0 c1⟩, ((below_chain HB.out HBW.out).setCell (by simp; omega) _).setCell (by simp; omega) _⟩
  · rcases Nat.eq_zero_or_pos l with h0 | h0
    · have HD : Hid (decide (x + y < 0) = false) := (HDS.out.2 rfl).1 (HL.out.1 h0)
      subst h0
      go_wp2_with fail
      refine bodyPost_ret (v := .agg #[.bool false, .slice ad 0 cap]) (by simp [results, Tryd.results58, go_sem, c0, c1]) rfl ⟨_, rfl, ⟨.slice ad 0 cap, by rw [HD.out], HU.out.set2 (HN.out.later (by omega) HBW.out) c0 c1⟩, ((below_chain HB.out HBW.out).setCell (by simp; omega) _).setCell (by simp; omega) _⟩
    · have HD : Hid (decide (x + y < 0) = true) := (HDS.out.2 rfl).2 (fun h => by have := HL.out.2 h; omega)
      have hl0 : (0 : Int) < (l : Int) := by omega
      go_wp2_with fail
      refine bodyPost_ret (v := .agg #[.bool true, .slice ad l cap]) (by simp [results, Tryd.results58, go_sem, c0, c1] <;> omega) rfl ⟨_, rfl, ⟨.slice ad l cap, by rw [HD.out], HU.out.set2 (HN.out.later (by omega) HBW.out) c0 c1⟩, ((below_chain HB.out HBW.out).setCell (by simp; omega) _).setCell (by simp; omega) _⟩

set_option maxRecDepth 10000 in
set_option maxHeartbeats 2000000 in
theorem SignedAdd_less (u1 u2 : Value) (x y : Int) (s1 s2 : Bool) (k : Nat) (w : World) (hs1 : decide (x < 0) = s1) (hs2 : decide (y < 0) = s2) (hne : s1 ≠ s2) (hu1 : BigAt w u1 x.natAbs) (hu2 : BigAt w u2 y.natAbs) (hx : x.natAbs < 1000000 ^ k) (hy : y.natAbs < 1000000 ^ k) (hk : k ≤ 1000000) (hle : x.natAbs < y.natAbs) :
    Calls Tryd.prog 58 #[.agg #[.bool s1, u1], .agg #[.bool s2, u2]] w fun e w' => ∃ r, e = .returned r ∧ SignedAt w' r (x + y) ∧ Below w.heap.size w w' := by
  obtain ⟨ad1, l1, cap1, rfl, _⟩ := hu1.len
  obtain ⟨ad2, l2, cap2, rfl, _⟩ := hu2.len
  have hB0 : Below w.heap.size w (((w.alloc (.cells #[.bool s1, .slice ad1 l1 cap1] 48)).alloc (.cells #[.bool s2, .slice ad2 l2 cap2] 48)).alloc (.cells #[.bool false, .slice none 0 0] 48)) := (((Below.refl _ _).alloc (Nat.le_refl _) _).alloc (by simp) _).alloc (by simp; omega) _
  have hN := noInts_third w (.cells #[.bool s1, .slice ad1 l1 cap1] 48) (.cells #[.bool s2, .slice ad2 l2 cap2] 48) 48
  have hTP := fun (w1 : World) => three_past (w := w) (w1 := w1) (x0 := .bool s1) (x1 := .slice ad1 l1 cap1) (y0 := .bool s2) (y1 := .slice ad2 l2 cap2) (r0 := .bool false) (r1 := .slice none 0 0) (t := 48)
  have hz0 : w.heap.size + 1 + 1 + 1 = (((w.alloc (.cells #[.bool s1, .slice ad1 l1 cap1] 48)).alloc (.cells #[.bool s2, .slice ad2 l2 cap2] 48)).alloc (.cells #[.bool false, .slice none 0 0] 48)).heap.size := by simp
  generalize hW : (((w.alloc (.cells #[.bool s1, .slice ad1 l1 cap1] 48)).alloc (.cells #[.bool s2, .slice ad2 l2 cap2] 48)).alloc (.cells #[.bool false, .slice none 0 0] 48)) = W0 at hB0 hN hTP hz0
  have hcmp := BigCmp_any _ _ _ _ k W0 (hu1.later hB0) (hu2.later hB0) hx hy hk
  have HU12 := Hid.mk' (And.intro (hu1.later hB0) (hu2.later hB0))
  have HXY := Hid.mk' (And.intro hx hy)
  have HLE := Hid.mk' hle
  have HW := Hid.mk' hW
  have HTP := Hid.mk' hTP
  have HN := Hid.mk' hN
  have HB := Hid.mk' hB0
  have hss : (s1 == s2) = false := by simpa using hne
  have hz : cmpOf x.natAbs y.natAbs < 0 := by rw [cmpOf_lt hle]; omega
  have hab : (x + y).natAbs = y.natAbs - x.natAbs ∧ decide (x + y < 0) = s2 := by
    cases s1 <;> cases s2
    · exact absurd rfl hne
    · have h1 := of_decide_eq_false hs1
      have h2 := of_decide_eq_true hs2
      exact ⟨by omega, decide_eq_true (by omega)⟩
    · have h1 := of_decide_eq_true hs1
      have h2 := of_decide_eq_false hs2
      exact ⟨by omega, decide_eq_false (by omega)⟩
    · exact absurd rfl hne
  have HAB := Hid.mk' hab
  clear hs1 hs2 hu1 hu2 hx hy hB0 hN hTP hW hle hab hne
  generalize cmpOf x.natAbs y.natAbs = cz at hcmp hz
  have a0 := (HTP.out W0 (Below.refl _ _)).1.1
  have a1 := (HTP.out W0 (Below.refl _ _)).1.2
  have b0 := (HTP.out W0 (Below.refl _ _)).2.1.1
  have b1 := (HTP.out W0 (Below.refl _ _)).2.1.2
  go_enter Tryd.func58, Tryd.ntmps58
  go_wp2_with fail
  rw [HW.out]
  refine hcmp.mono ?_
  clear hcmp a0 a1 b0 b1
  rintro e w1 ⟨rfl, m1, hw1⟩
  have hb1 : Below W0.heap.size W0 w1 := by rw [hw1]; exact below_drewN (Below.refl _ _) _
  clear hw1
  have hb1d : Below W0.heap.size W0 w1.drew := hb1.drew
  have hsub := BigSub_any _ _ _ _ k w1.drew (HU12.out.2.later hb1d) (HU12.out.1.later hb1d) (Nat.le_of_lt HLE.out) HXY.out.2 hk
  rw [← HAB.out.1] at hsub
  have HSUB := Hid.mk' hsub
  have hKS : ∀ W, Below (w.heap.size + 1 + 1) W0 W → W.cell? ⟨w.heap.size + 1, 0, none⟩ = some (.bool s2) ∧ W.cell? ⟨w.heap.size, 1, none⟩ = some (.slice ad1 l1 cap1) ∧ W.cell? ⟨w.heap.size + 1, 1, none⟩ = some (.slice ad2 l2 cap2) := fun W hb => by
    obtain ⟨⟨a0, a1⟩, ⟨b0, b1⟩, _⟩ := HTP.out W0 (Below.refl _ _)
    exact ⟨by rw [hb.cell (p := ⟨w.heap.size + 1, 0, none⟩) (by show w.heap.size + 1 < _; omega)]; exact b0, by rw [hb.cell (p := ⟨w.heap.size, 1, none⟩) (by show w.heap.size < _; omega)]; exact a1, by rw [hb.cell (p := ⟨w.heap.size + 1, 1, none⟩) (by show w.heap.size + 1 < _; omega)]; exact b1⟩
  have HKS := Hid.mk' hKS
  have hcur0 : Below (w.heap.size + 1 + 1) W0 w1 := hb1.mono (by omega)
  have hcur : Below (w.heap.size + 1 + 1) W0 w1.drew := hcur0.drew
  have HB1 := Hid.mk' hb1d
  clear hsub hKS hb1 hb1d
  go_wp2_with fail
  go_region_held3 (fun W => W.cell? ⟨w.heap.size + 1, 0, none⟩ = some (.bool s2) ∧ W.cell? ⟨w.heap.size, 1, none⟩ = some (.slice ad1 l1 cap1) ∧ W.cell? ⟨w.heap.size + 1, 1, none⟩ = some (.slice ad2 l2 cap2))
    (first | exact HKS.out _ hcur0 | exact HKS.out _ hcur | exact HKS.out _ hc1 | exact HKS.out _ (below_res hc1 _ _))
    (first
      | (go_at_call 73; refine HSUB.out.mono ?_; rintro e w2 ⟨u, rfl, hu, hb2⟩; obtain ⟨ad, l, cap, rfl, _⟩ := hu.len; have hbw := below_chain HB1.out hb2; have hc1 : Below (w.heap.size + 1 + 1) W0 w2 := hbw.mono (by omega); obtain ⟨_, _, ⟨c0, c1⟩, f0, f1⟩ := HTP.out w2 hbw; have HU := Hid.mk' hu; have HBW := Hid.mk' hbw; clear hu hb2 hbw))
  go_wp2_with fail
  refine bodyPost_ret (v := .agg #[.bool s2, .slice ad l cap]) (by simp [results, Tryd.results58, go_sem, c0, c1]) rfl ⟨_, rfl, ⟨.slice ad l cap, by rw [HAB.out.2], HU.out.set2 (HN.out.later (by omega) HBW.out) c0 c1⟩, ((below_chain HB.out HBW.out).setCell (by simp; omega) _).setCell (by simp; omega) _⟩

/-- SignedAdd of any two. -/
theorem SignedAdd_any (v1 v2 : Value) (x y : Int) (k : Nat) (w : World) (h1 : SignedAt w v1 x) (h2 : SignedAt w v2 y) (hx : x.natAbs < 1000000 ^ k) (hy : y.natAbs < 1000000 ^ k) (hk : k ≤ 1000000) :
    Calls Tryd.prog 58 #[v1, v2] w fun e w' => ∃ r, e = .returned r ∧ SignedAt w' r (x + y) ∧ Below w.heap.size w w' := by
  obtain ⟨u1, rfl, hu1⟩ := h1
  obtain ⟨u2, rfl, hu2⟩ := h2
  by_cases hs : decide (x < 0) = decide (y < 0)
  · rw [hs]
    exact SignedAdd_same u1 u2 x y _ k w hs rfl hu1 hu2 hx hy hk
  · rcases Nat.lt_or_ge x.natAbs y.natAbs with h | h
    · exact SignedAdd_less u1 u2 x y _ _ k w rfl rfl hs hu1 hu2 hx hy hk h
    · exact SignedAdd_more u1 u2 x y _ _ k w rfl rfl hs hu1 hu2 hx hy hk h
end Go.Proofs.YtiegobkbinojeaaDoor
