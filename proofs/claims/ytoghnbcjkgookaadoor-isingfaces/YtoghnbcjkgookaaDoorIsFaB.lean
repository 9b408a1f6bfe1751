/- The document's FaceBonds. -/
import Derived.Test.YtoghnbcjkgookaaDoorIsStrB
namespace Go.Proofs.YtoghnbcjkgookaaDoor
open Go.RowKit

/-- What lies in a small square's place: its number, or that of all that lies outside. -/
def sqN (h l : Nat) (c r : Int) : Nat := if c < 0 ∨ (l : Int) - 1 ≤ c ∨ r < 0 ∨ (h : Int) - 1 ≤ r then (h - 1) * (l - 1) else (c * ((h : Int) - 1) + r).toNat
def dnF (h l c r : Nat) : Nat × Nat := (sqN h l ((c : Int) - 1) r, sqN h l c r)
def rtF (h l c r : Nat) : Nat × Nat := (sqN h l c ((r : Int) - 1), sqN h l c r)
def faB (h l c : Nat) : List (Nat × Nat) := allB (dnF h l) (rtF h l) h (fun c => decide (c + 1 < l)) c

set_option maxRecDepth 100000 in
set_option maxHeartbeats 8000000 in
theorem FaceBonds_any (h l : Nat) (w : World) (hh1 : 2 ≤ h) (hh : h ≤ 4) (hl1 : 2 ≤ l) (hl : l ≤ 12) :
    Calls Tryd.prog 27 #[.int .i64 h, .int .i64 l] w fun e w' => ∃ v, e = .returned v ∧ w'.ownsRow w.heap.size 50 2 v (faB h l l).length (pairCells (faB h l l)) ∧ Below w.heap.size w w' := by
  obtain ⟨i0, hi, hi2⟩ := Option.map_eq_some_iff.1 Tryd.infoPair
  obtain ⟨hz, hsz, hby⟩ : i0.zero = some (.agg #[.int .i64 0, .int .i64 0]) ∧ i0.size = 2 ∧ i0.bytes = 16 := by simpa using hi2
  have HINF : Hid (Tryd.prog.info? 50 = some i0 ∧ i0.zero = some (.agg #[.int .i64 0, .int .i64 0]) ∧ i0.size = 2 ∧ i0.bytes = 16) := ⟨hi, hz, hsz, hby⟩
  clear hi hi2 hz hsz hby
  have hhI : (h : Int) ≤ 4 := by omega
  have hlI : (l : Int) ≤ 12 := by omega
  have hh0 : (2 : Int) ≤ (h : Int) := by omega
  have hl0 : (2 : Int) ≤ (l : Int) := by omega
  obtain ⟨O, hO⟩ : ∃ O : Nat, O = (h - 1) * (l - 1) := ⟨_, rfl⟩
  have hO33 : O ≤ 33 := by rw [hO]; exact Nat.mul_le_mul (show h - 1 ≤ 3 by omega) (show l - 1 ≤ 11 by omega)
  have eO : ((h : Int) - 1) * ((l : Int) - 1) = (O : Int) := by rw [hO, show (h : Int) - 1 = ((h - 1 : Nat) : Int) by omega, show (l : Int) - 1 = ((l - 1 : Nat) : Int) by omega]; simp
  have HOE := Hid.mk' hO
  clear hO
  go_enter Tryd.func27, Tryd.ntmps27
  go_wp2_with fail
  go_loopw [6, 7] (fun u t wr => ∃ (c : Nat), c ≤ l ∧ t = .int .i64 c ∧ Hid (wr.ownsRow w.heap.size 50 2 u (faB h l c).length (pairCells (faB h l c))) ∧ Hid (Below w.heap.size w wr)) (fun _ t _ => l - (intOf t).toNat)
  case atStart => exact ⟨0, Nat.zero_le _, rfl, ⟨rfl, Or.inl ⟨rfl, rfl⟩⟩, Below.refl _ _⟩
  case round =>
    obtain ⟨c, hc, rfl, HO, HB⟩ := hrel
    have hc0 : (0 : Int) ≤ (c : Int) := by omega
    rcases Nat.lt_or_ge c l with h1 | h1
    · have hcI : (c : Int) < (l : Int) := by omega
      obtain ⟨X, hX⟩ : ∃ X : Nat, X = c * (h - 1) := ⟨_, rfl⟩
      have hX33 : X ≤ 33 := by rw [hX]; exact Nat.mul_le_mul (show c ≤ 11 by omega) (show h - 1 ≤ 3 by omega)
      have eX : (c : Int) * ((h : Int) - 1) = (X : Int) := by rw [hX, show (h : Int) - 1 = ((h - 1 : Nat) : Int) by omega]; simp
      obtain ⟨Y, hY⟩ : ∃ Y : Nat, Y = (c - 1) * (h - 1) := ⟨_, rfl⟩
      have hY33 : Y ≤ 33 := by rw [hY]; exact Nat.mul_le_mul (show c - 1 ≤ 11 by omega) (show h - 1 ≤ 3 by omega)
      have HEY : Hid (0 < c → ((c : Int) - 1) * ((h : Int) - 1) = (Y : Int)) := fun hp => by rw [hY, show (h : Int) - 1 = ((h - 1 : Nat) : Int) by omega, show (c : Int) - 1 = ((c - 1 : Nat) : Int) by omega]; simp
      have HE : Hid (faB h l (c + 1) = faB h l c ++ colB (dnF h l) (rtF h l) h (fun c => decide (c + 1 < l)) c h) := rfl
      have HLE : Hid (∀ r, r ≤ h → (faB h l c ++ colB (dnF h l) (rtF h l) h (fun c => decide (c + 1 < l)) c r).length ≤ 96) := fun r hr => part_small _ _ _ hh (by omega) hr
      clear hX hY
      generalize faB h l c = E0 at *
      rename World => wo
      go_wp2_with fail
      go_loopw [6, 8] (fun u t wr => ∃ (r : Nat), r ≤ h ∧ t = .int .i64 r ∧ Hid (wr.ownsRow w.heap.size 50 2 u (E0 ++ colB (dnF h l) (rtF h l) h (fun c => decide (c + 1 < l)) c r).length (pairCells (E0 ++ colB (dnF h l) (rtF h l) h (fun c => decide (c + 1 < l)) c r))) ∧ Hid (Below w.heap.size w wr)) (fun _ t _ => h - (intOf t).toNat)
      case atStart => exact ⟨0, Nat.zero_le _, rfl, by show World.ownsRow _ _ _ _ _ _ _; rw [colB, List.append_nil]; exact HO.out, HB⟩
      case round =>
        clear HO HB
        obtain ⟨r, hr, rfl, HO, HB⟩ := hrel
        have hr0 : (0 : Int) ≤ (r : Int) := by omega
        rcases Nat.lt_or_ge r h with h2 | h2
        · have hrI : (r : Int) < (h : Int) := by omega
          have HN : Hid (E0 ++ colB (dnF h l) (rtF h l) h (fun c => decide (c + 1 < l)) c (r + 1) = E0 ++ colB (dnF h l) (rtF h l) h (fun c => decide (c + 1 < l)) c r ++ ((if r + 1 < h then [(sqN h l ((c : Int) - 1) r, sqN h l c r)] else []) ++ (if decide (c + 1 < l) then [(sqN h l c ((r : Int) - 1), sqN h l c r)] else []))) := by
            show _ = _
            rw [colB, cellB, dnF, rtF, List.append_assoc]
          have hle := HLE.out r (by omega)
          generalize E0 ++ colB (dnF h l) (rtF h l) h (fun c => decide (c + 1 < l)) c r = E at *
          have eX2 := eX
          have HV0 : Hid (¬ r + 1 < h → sqN h l c r = O) := fun e => by rw [sqN, if_pos (by omega), HOE.out]
          have HV1 : Hid (¬ c + 1 < l → sqN h l c r = O) := fun e => by rw [sqN, if_pos (by omega), HOE.out]
          have HV2 : Hid (r + 1 < h → c + 1 < l → sqN h l c r = X + r) := fun e1 e2 => by rw [sqN, if_neg (by omega), eX]; omega
          have HV3 : Hid (0 < c → r + 1 < h → sqN h l ((c : Int) - 1) r = Y + r) := fun e1 e2 => by rw [sqN, if_neg (by omega), HEY.out e1]; omega
          have HV4 : Hid (¬ 0 < c → sqN h l ((c : Int) - 1) r = O) := fun e => by rw [sqN, if_pos (by omega), HOE.out]
          have HV5 : Hid (0 < r → c + 1 < l → sqN h l c ((r : Int) - 1) = X + r - 1) := fun e1 e2 => by rw [sqN, if_neg (by omega), eX]; omega
          have HV6 : Hid (¬ 0 < r → sqN h l c ((r : Int) - 1) = O) := fun e => by rw [sqN, if_pos (by omega), HOE.out]
          clear eX2
          by_cases hd : r + 1 < h
          · have hdI : (r : Int) + 1 < (h : Int) := by omega
            by_cases hk : 0 < c
            · have hkI : (0 : Int) < (c : Int) := by omega
              have eY := HEY.out hk
              have HLV : Hid (sqN h l ((c : Int) - 1) r = Y + r) := HV3.out hk hd
              by_cases hq : c + 1 < l
              · have hqI : (c : Int) + 1 < (l : Int) := by omega
                have HRV : Hid (sqN h l c r = X + r) := HV2.out hd hq
                go_upto_region 17 with (at_builtin; go_must (refine wpList_append_lies _ rfl _ _ _ rfl w.heap.size 50 i0 _ 2 16 Tryd.underlying22 HINF.out.1 HINF.out.2.1 HINF.out.2.2.1 HINF.out.2.2.2 rfl (by omega) u6 _ _ rfl (HO.out.alloc _) ⟨wr.heap.size, 0, none⟩ 1 1 [.int .i64 ((Y : Int) + (r : Int)), .int .i64 ((X : Int) + (r : Int))] rfl rfl (two_newG _ _ _ _) (by simp [Value.oneCell']) (by omega) (by unfold maxLen; omega) (by omega) (by have := HB.out.size; simp; omega) _ rfl ?_; intro g4 cap4 w4 hown hgrow hat hlt; have HO4 := Hid.mk' hown; have HB4 := Hid.mk' ((HB.out.alloc HB.out.size _).grown hgrow (by have := HB.out.size; simp; omega) (fun k e => (HO.out.lt k e).1)); clear hown hgrow hat hlt))
                have HP4 := Hid.mk' (pair_own (X := Y + r) (Y := X + r) HO4.out (by omega) (by omega))
                have hle4 : (E ++ [(Y + r, X + r)]).length ≤ 97 := by rw [List.length_append]; simp; omega
                have HL4 : Hid (E.length + 1 = (E ++ [(Y + r, X + r)]).length) := by show _ = _; rw [List.length_append]; rfl
                rw [HL4.out]
                rw [HL4.out] at HP4
                have HE4 : Hid (∀ F, E ++ ([(Y + r, X + r)] ++ F) = (E ++ [(Y + r, X + r)]) ++ F) := fun F => (List.append_assoc _ _ _).symm
                generalize E ++ [(Y + r, X + r)] = E4 at *
                clear HO4 HO HB
                by_cases hp : 0 < r
                · have hpI : (0 : Int) < (r : Int) := by omega
                  have HU : Hid (sqN h l c ((r : Int) - 1) = X + r - 1) := HV5.out hp hq
                  have HS : Hid (sqN h l c r = X + r) := HV2.out hd hq
                  go_wp2_with (at_builtin; go_must (refine wpList_append_lies _ rfl _ _ _ rfl w.heap.size 50 i0 _ 2 16 Tryd.underlying22 HINF.out.1 HINF.out.2.1 HINF.out.2.2.1 HINF.out.2.2.2 rfl (by omega) (.slice (some ⟨g4, 0, none⟩) E4.length cap4) _ _ rfl (HP4.out.alloc _) ⟨w4.heap.size, 0, none⟩ 1 1 [.int .i64 ((X : Int) + (r : Int) - 1), .int .i64 ((X : Int) + (r : Int))] rfl rfl (two_newG _ _ _ _) (by simp [Value.oneCell']) (by omega) (by unfold maxLen; omega) (by omega) (by have := HB4.out.size; simp; omega) _ rfl ?_; intro g5 cap5 w5 hown hgrow hat hlt; have HO5 := Hid.mk' hown; have HB5 := Hid.mk' ((HB4.out.alloc HB4.out.size _).grown hgrow (by have := HB4.out.size; simp; omega) (fun k e => (HP4.out.lt k e).1)); clear hown hgrow hat hlt))
                  refine ⟨⟨r + 1, h2, by go_num, ?_, HB5⟩, by simp [intOf]; omega⟩
                  rw [HN.out, if_pos hd, if_pos (decide_eq_true hq), HU.out, HLV.out, HRV.out, HE4.out]
                  exact pair_own (X := X + r - 1) (Y := X + r) HO5.out (by omega) (by omega)
                · have hpI : ¬ (0 : Int) < (r : Int) := by omega
                  have HU : Hid (sqN h l c ((r : Int) - 1) = O) := HV6.out hp
                  have HS : Hid (sqN h l c r = X + r) := HV2.out hd hq
                  go_wp2_with (at_builtin; go_must (refine wpList_append_lies _ rfl _ _ _ rfl w.heap.size 50 i0 _ 2 16 Tryd.underlying22 HINF.out.1 HINF.out.2.1 HINF.out.2.2.1 HINF.out.2.2.2 rfl (by omega) (.slice (some ⟨g4, 0, none⟩) E4.length cap4) _ _ rfl (HP4.out.alloc _) ⟨w4.heap.size, 0, none⟩ 1 1 [.int .i64 ((O : Int)), .int .i64 ((X : Int) + (r : Int))] rfl rfl (two_newG _ _ _ _) (by simp [Value.oneCell']) (by omega) (by unfold maxLen; omega) (by omega) (by have := HB4.out.size; simp; omega) _ rfl ?_; intro g5 cap5 w5 hown hgrow hat hlt; have HO5 := Hid.mk' hown; have HB5 := Hid.mk' ((HB4.out.alloc HB4.out.size _).grown hgrow (by have := HB4.out.size; simp; omega) (fun k e => (HP4.out.lt k e).1)); clear hown hgrow hat hlt))
                  refine ⟨⟨r + 1, h2, by go_num, ?_, HB5⟩, by simp [intOf]; omega⟩
                  rw [HN.out, if_pos hd, if_pos (decide_eq_true hq), HU.out, HLV.out, HRV.out, HE4.out]
                  exact pair_own (X := O) (Y := X + r) HO5.out (by omega) (by omega)
              · have hqI : ¬ (c : Int) + 1 < (l : Int) := by omega
                have HRV : Hid (sqN h l c r = O) := HV1.out hq
                go_wp2_with (at_builtin; go_must (refine wpList_append_lies _ rfl _ _ _ rfl w.heap.size 50 i0 _ 2 16 Tryd.underlying22 HINF.out.1 HINF.out.2.1 HINF.out.2.2.1 HINF.out.2.2.2 rfl (by omega) u6 _ _ rfl (HO.out.alloc _) ⟨wr.heap.size, 0, none⟩ 1 1 [.int .i64 ((Y : Int) + (r : Int)), .int .i64 ((O : Int))] rfl rfl (two_newG _ _ _ _) (by simp [Value.oneCell']) (by omega) (by unfold maxLen; omega) (by omega) (by have := HB.out.size; simp; omega) _ rfl ?_; intro g4 cap4 w4 hown hgrow hat hlt; have HO4 := Hid.mk' hown; have HB4 := Hid.mk' ((HB.out.alloc HB.out.size _).grown hgrow (by have := HB.out.size; simp; omega) (fun k e => (HO.out.lt k e).1)); clear hown hgrow hat hlt))
                refine ⟨⟨r + 1, h2, by go_num, ?_, HB4⟩, by simp [intOf]; omega⟩
                rw [HN.out, if_pos hd, if_neg (by rw [decide_eq_false hq]; decide), List.append_nil, HLV.out, HRV.out]
                exact pair_own (X := Y + r) (Y := O) HO4.out (by omega) (by omega)
            · have hkI : ¬ (0 : Int) < (c : Int) := by omega
              have HLV : Hid (sqN h l ((c : Int) - 1) r = O) := HV4.out hk
              by_cases hq : c + 1 < l
              · have hqI : (c : Int) + 1 < (l : Int) := by omega
                have HRV : Hid (sqN h l c r = X + r) := HV2.out hd hq
                go_upto_region 17 with (at_builtin; go_must (refine wpList_append_lies _ rfl _ _ _ rfl w.heap.size 50 i0 _ 2 16 Tryd.underlying22 HINF.out.1 HINF.out.2.1 HINF.out.2.2.1 HINF.out.2.2.2 rfl (by omega) u6 _ _ rfl (HO.out.alloc _) ⟨wr.heap.size, 0, none⟩ 1 1 [.int .i64 ((O : Int)), .int .i64 ((X : Int) + (r : Int))] rfl rfl (two_newG _ _ _ _) (by simp [Value.oneCell']) (by omega) (by unfold maxLen; omega) (by omega) (by have := HB.out.size; simp; omega) _ rfl ?_; intro g4 cap4 w4 hown hgrow hat hlt; have HO4 := Hid.mk' hown; have HB4 := Hid.mk' ((HB.out.alloc HB.out.size _).grown hgrow (by have := HB.out.size; simp; omega) (fun k e => (HO.out.lt k e).1)); clear hown hgrow hat hlt))
                have HP4 := Hid.mk' (pair_own (X := O) (Y := X + r) HO4.out (by omega) (by omega))
                have hle4 : (E ++ [(O, X + r)]).length ≤ 97 := by rw [List.length_append]; simp; omega
                have HL4 : Hid (E.length + 1 = (E ++ [(O, X + r)]).length) := by show _ = _; rw [List.length_append]; rfl
                rw [HL4.out]
                rw [HL4.out] at HP4
                have HE4 : Hid (∀ F, E ++ ([(O, X + r)] ++ F) = (E ++ [(O, X + r)]) ++ F) := fun F => (List.append_assoc _ _ _).symm
                generalize E ++ [(O, X + r)] = E4 at *
                clear HO4 HO HB
                by_cases hp : 0 < r
                · have hpI : (0 : Int) < (r : Int) := by omega
                  have HU : Hid (sqN h l c ((r : Int) - 1) = X + r - 1) := HV5.out hp hq
                  have HS : Hid (sqN h l c r = X + r) := HV2.out hd hq
                  go_wp2_with (at_builtin; go_must (refine wpList_append_lies _ rfl _ _ _ rfl w.heap.size 50 i0 _ 2 16 Tryd.underlying22 HINF.out.1 HINF.out.2.1 HINF.out.2.2.1 HINF.out.2.2.2 rfl (by omega) (.slice (some ⟨g4, 0, none⟩) E4.length cap4) _ _ rfl (HP4.out.alloc _) ⟨w4.heap.size, 0, none⟩ 1 1 [.int .i64 ((X : Int) + (r : Int) - 1), .int .i64 ((X : Int) + (r : Int))] rfl rfl (two_newG _ _ _ _) (by simp [Value.oneCell']) (by omega) (by unfold maxLen; omega) (by omega) (by have := HB4.out.size; simp; omega) _ rfl ?_; intro g5 cap5 w5 hown hgrow hat hlt; have HO5 := Hid.mk' hown; have HB5 := Hid.mk' ((HB4.out.alloc HB4.out.size _).grown hgrow (by have := HB4.out.size; simp; omega) (fun k e => (HP4.out.lt k e).1)); clear hown hgrow hat hlt))
                  refine ⟨⟨r + 1, h2, by go_num, ?_, HB5⟩, by simp [intOf]; omega⟩
                  rw [HN.out, if_pos hd, if_pos (decide_eq_true hq), HU.out, HLV.out, HRV.out, HE4.out]
                  exact pair_own (X := X + r - 1) (Y := X + r) HO5.out (by omega) (by omega)
                · have hpI : ¬ (0 : Int) < (r : Int) := by omega
                  have HU : Hid (sqN h l c ((r : Int) - 1) = O) := HV6.out hp
                  have HS : Hid (sqN h l c r = X + r) := HV2.out hd hq
                  go_wp2_with (at_builtin; go_must (refine wpList_append_lies _ rfl _ _ _ rfl w.heap.size 50 i0 _ 2 16 Tryd.underlying22 HINF.out.1 HINF.out.2.1 HINF.out.2.2.1 HINF.out.2.2.2 rfl (by omega) (.slice (some ⟨g4, 0, none⟩) E4.length cap4) _ _ rfl (HP4.out.alloc _) ⟨w4.heap.size, 0, none⟩ 1 1 [.int .i64 ((O : Int)), .int .i64 ((X : Int) + (r : Int))] rfl rfl (two_newG _ _ _ _) (by simp [Value.oneCell']) (by omega) (by unfold maxLen; omega) (by omega) (by have := HB4.out.size; simp; omega) _ rfl ?_; intro g5 cap5 w5 hown hgrow hat hlt; have HO5 := Hid.mk' hown; have HB5 := Hid.mk' ((HB4.out.alloc HB4.out.size _).grown hgrow (by have := HB4.out.size; simp; omega) (fun k e => (HP4.out.lt k e).1)); clear hown hgrow hat hlt))
                  refine ⟨⟨r + 1, h2, by go_num, ?_, HB5⟩, by simp [intOf]; omega⟩
                  rw [HN.out, if_pos hd, if_pos (decide_eq_true hq), HU.out, HLV.out, HRV.out, HE4.out]
                  exact pair_own (X := O) (Y := X + r) HO5.out (by omega) (by omega)
              · have hqI : ¬ (c : Int) + 1 < (l : Int) := by omega
                exfalso; omega
          · have hdI : ¬ (r : Int) + 1 < (h : Int) := by omega
            by_cases hq : c + 1 < l
            · have hqI : (c : Int) + 1 < (l : Int) := by omega
              by_cases hp : 0 < r
              · have hpI : (0 : Int) < (r : Int) := by omega
                have HU : Hid (sqN h l c ((r : Int) - 1) = X + r - 1) := HV5.out hp hq
                have HS : Hid (sqN h l c r = O) := HV0.out hd
                go_wp2_with (at_builtin; go_must (refine wpList_append_lies _ rfl _ _ _ rfl w.heap.size 50 i0 _ 2 16 Tryd.underlying22 HINF.out.1 HINF.out.2.1 HINF.out.2.2.1 HINF.out.2.2.2 rfl (by omega) u6 _ _ rfl (HO.out.alloc _) ⟨wr.heap.size, 0, none⟩ 1 1 [.int .i64 ((X : Int) + (r : Int) - 1), .int .i64 ((O : Int))] rfl rfl (two_newG _ _ _ _) (by simp [Value.oneCell']) (by omega) (by unfold maxLen; omega) (by omega) (by have := HB.out.size; simp; omega) _ rfl ?_; intro g5 cap5 w5 hown hgrow hat hlt; have HO5 := Hid.mk' hown; have HB5 := Hid.mk' ((HB.out.alloc HB.out.size _).grown hgrow (by have := HB.out.size; simp; omega) (fun k e => (HO.out.lt k e).1)); clear hown hgrow hat hlt))
                refine ⟨⟨r + 1, h2, by go_num, ?_, HB5⟩, by simp [intOf]; omega⟩
                rw [HN.out, if_neg hd, if_pos (decide_eq_true hq), HU.out, HS.out, List.nil_append]
                exact pair_own (X := X + r - 1) (Y := O) HO5.out (by omega) (by omega)
              · have hpI : ¬ (0 : Int) < (r : Int) := by omega
                exfalso; omega
            · have hqI : ¬ (c : Int) + 1 < (l : Int) := by omega
              go_wp2_with fail
              refine ⟨⟨r + 1, h2, by go_num, ?_, HB⟩, by simp [intOf]; omega⟩
              rw [HN.out, if_neg hd, if_neg (by rw [decide_eq_false hq]; decide), List.nil_append, List.append_nil]
              exact HO
        · obtain rfl : r = h := by omega
          go_wp2_with fail
          exact ⟨⟨c + 1, h1, by go_num, by rw [HE.out]; exact HO, HB⟩, by simp [intOf]; omega⟩
    · obtain rfl : c = l := by omega
      obtain ⟨ao, co, rfl, _⟩ := row_shape2 HO.out
      go_wp2_with fail
      go_ret
      exact ⟨_, rfl, HO.out, HB.out⟩
end Go.Proofs.YtoghnbcjkgookaaDoor
