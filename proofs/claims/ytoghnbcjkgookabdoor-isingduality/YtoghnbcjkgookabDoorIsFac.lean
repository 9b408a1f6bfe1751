/- ising.Faces: what lies in a place, and a bond more. -/
import Derived.Test.YtoghnbcjkgookabDoorIsFaB
import Derived.Test.YtoghnbcjkgookabDoorIsGrid3
import Derived.Test.YtoghnbcjkgookabDoorLastOp
import Derived.Deep.AppendLies
import Derived.Deep.RegionLaw
namespace Go.Proofs.YtoghnbcjkgookabDoor
open Go.RowKit

set_option maxRecDepth 100000 in
set_option maxHeartbeats 4000000 in
theorem square_any (h l : Nat) (c r : Int) (W : World) (BL BH BO : Nat) (hh1 : 2 ≤ h) (hh : h ≤ 4) (hl1 : 2 ≤ l) (hl : l ≤ 12) (hc0 : -1 ≤ c) (hc1 : c ≤ 11) (hr0 : -1 ≤ r) (hr1 : r ≤ 3)
    (cL : W.cell? ⟨BL, 0, none⟩ = some (.int .i64 l)) (cH : W.cell? ⟨BH, 0, none⟩ = some (.int .i64 h)) (cO : W.cell? ⟨BO, 0, none⟩ = some (.int .i64 (((h - 1) * (l - 1) : Nat) : Int))) :
    Calls Tryd.prog 14 #[.int .i64 c, .int .i64 r, .pointer (some ⟨BL, 0, none⟩), .pointer (some ⟨BH, 0, none⟩), .pointer (some ⟨BO, 0, none⟩)] W fun e w' => e = .returned (.int .i64 ((sqN h l c r : Nat) : Int)) ∧ w' = W := by
  have hhI : (h : Int) ≤ 4 := by omega
  have hlI : (l : Int) ≤ 12 := by omega
  have hh0 : (2 : Int) ≤ (h : Int) := by omega
  have hl0 : (2 : Int) ≤ (l : Int) := by omega
  generalize hO : (h - 1) * (l - 1) = O at *
  by_cases h1 : c < 0
  · have h1d : decide (c < 0) = true := decide_eq_true h1
    have HR : Hid (sqN h l c r = O) := by show _ = _; rw [sqN, if_pos (by omega), hO]
    clear hO
    go_enter Tryd.func14, Tryd.ntmps14
    go_wp2_with fail
    go_ret
    exact ⟨by rw [HR.out]; rfl, rfl⟩
  · have h1d : decide (c < 0) = false := decide_eq_false h1
    by_cases h2 : (l : Int) - 1 ≤ c
    · have h2d : decide ((l : Int) - 1 ≤ c) = true := decide_eq_true h2
      have HR : Hid (sqN h l c r = O) := by show _ = _; rw [sqN, if_pos (by omega), hO]
      clear hO
      go_enter Tryd.func14, Tryd.ntmps14
      go_wp2_with fail
      go_ret
      exact ⟨by rw [HR.out]; rfl, rfl⟩
    · have h2d : decide ((l : Int) - 1 ≤ c) = false := decide_eq_false h2
      by_cases h3 : r < 0
      · have h3d : decide (r < 0) = true := decide_eq_true h3
        have HR : Hid (sqN h l c r = O) := by show _ = _; rw [sqN, if_pos (by omega), hO]
        clear hO
        go_enter Tryd.func14, Tryd.ntmps14
        go_wp2_with fail
        go_ret
        exact ⟨by rw [HR.out]; rfl, rfl⟩
      · have h3d : decide (r < 0) = false := decide_eq_false h3
        by_cases h4 : (h : Int) - 1 ≤ r
        · have h4d : decide ((h : Int) - 1 ≤ r) = true := decide_eq_true h4
          have HR : Hid (sqN h l c r = O) := by show _ = _; rw [sqN, if_pos (by omega), hO]
          clear hO
          go_enter Tryd.func14, Tryd.ntmps14
          go_wp2_with fail
          go_ret
          exact ⟨by rw [HR.out]; rfl, rfl⟩
        · have h4d : decide ((h : Int) - 1 ≤ r) = false := decide_eq_false h4
          obtain ⟨X, hX⟩ : ∃ X : Nat, c * ((h : Int) - 1) = (X : Int) := ⟨(c * ((h : Int) - 1)).toNat, by have : 0 ≤ c * ((h : Int) - 1) := Int.mul_nonneg (by omega) (by omega); omega⟩
          have hX33 : X ≤ 33 := by
            have : c * ((h : Int) - 1) ≤ 11 * 3 := Int.mul_le_mul hc1 (by omega) (by omega) (by omega)
            omega
          have HR : Hid (((sqN h l c r : Nat) : Int) = (X : Int) + r) := by
            show _ = _
            rw [sqN, if_neg (by omega), hX]
            omega
          clear hO
          go_enter Tryd.func14, Tryd.ntmps14
          go_wp2_with fail
          go_ret
          exact ⟨by rw [HR.out]; rfl, rfl⟩

set_option maxRecDepth 100000 in
set_option maxHeartbeats 8000000 in
theorem faceTell_any (h l : Nat) (W0 W : World) (BL BH BO B7 G : Nat) (N : Int) (ov : Value) (E : List (Nat × Nat)) (c r : Nat) (d : Bool) (hh1 : 2 ≤ h) (hh : h ≤ 4) (hl1 : 2 ≤ l) (hl : l ≤ 12)
    (cL : W0.cell? ⟨BL, 0, none⟩ = some (.int .i64 l)) (cH : W0.cell? ⟨BH, 0, none⟩ = some (.int .i64 h)) (cO : W0.cell? ⟨BO, 0, none⟩ = some (.int .i64 (((h - 1) * (l - 1) : Nat) : Int)))
    (c7 : W0.cell? ⟨B7, 0, none⟩ = some (.func (.func 14) #[] #[.pointer (some ⟨BL, 0, none⟩), .pointer (some ⟨BH, 0, none⟩), .pointer (some ⟨BO, 0, none⟩)]))
    (hBL : BL < G) (hBH : BH < G) (hBO : BO < G) (hB7 : B7 < G) (hI : GrAt W0 W G N ov E) (hE : E.length ≤ 97) (hc : c < l) (hr : r < h) :
    Calls Tryd.prog 15 #[.int .i64 (c : Nat), .int .i64 (r : Nat), .bool d, .pointer (some ⟨B7, 0, none⟩), .pointer (some ⟨G, 0, none⟩)] W fun e W' => e = .returned (.tuple #[]) ∧ ∃ ov', GrAt W0 W' G N ov' (E ++ [if d then dnF h l c r else rtF h l c r]) := by
  obtain ⟨i0, hi, hi2⟩ := Option.map_eq_some_iff.1 Tryd.infoPair
  obtain ⟨hz, hsz, hby⟩ : i0.zero = some (.agg #[.int .i64 0, .int .i64 0]) ∧ i0.size = 2 ∧ i0.bytes = 16 := by simpa using hi2
  have HINF : Hid (Tryd.prog.info? 34 = some i0 ∧ i0.zero = some (.agg #[.int .i64 0, .int .i64 0]) ∧ i0.size = 2 ∧ i0.bytes = 16) := ⟨hi, hz, hsz, hby⟩
  clear hi hi2 hz hsz hby
  obtain ⟨ao, co, rfl, _⟩ := row_shape2 hI.own
  have HF7 := Hid.mk' c7
  have HSQ : Hid (∀ (x y : Int) (V : World), Below W.heap.size W V → -1 ≤ x → x ≤ 11 → -1 ≤ y → y ≤ 3 → Calls Tryd.prog 14 #[.int .i64 x, .int .i64 y, .pointer (some ⟨BL, 0, none⟩), .pointer (some ⟨BH, 0, none⟩), .pointer (some ⟨BO, 0, none⟩)] V fun e w' => e = .returned (.int .i64 ((sqN h l x y : Nat) : Int)) ∧ w' = V) := fun x y V hb a1 a2 a3 a4 => by
    have hV := hI.later hb
    exact square_any h l x y V BL BH BO hh1 hh hl1 hl a1 a2 a3 a4 (by rw [hV.below.cell (p := ⟨BL, 0, none⟩) hBL]; exact cL) (by rw [hV.below.cell (p := ⟨BH, 0, none⟩) hBH]; exact cH) (by rw [hV.below.cell (p := ⟨BO, 0, none⟩) hBO]; exact cO)
  have HX : Hid (∀ V, Below W.heap.size W V → V.cell? ⟨G, 1, none⟩ = some (.slice ao E.length co) ∧ V.cell? ⟨B7, 0, none⟩ = some (.func (.func 14) #[] #[.pointer (some ⟨BL, 0, none⟩), .pointer (some ⟨BH, 0, none⟩), .pointer (some ⟨BO, 0, none⟩)])) := fun V hb => by
    have hV := hI.later hb
    exact ⟨hV.g1, by rw [hV.below.cell (p := ⟨B7, 0, none⟩) hB7]; exact c7⟩
  have HI := Hid.mk' hI
  have hlt := hI.lt
  have hcI : (c : Int) ≤ 11 := by omega
  have hc0 : (0 : Int) ≤ (c : Int) := by omega
  have hrI : (r : Int) ≤ 3 := by omega
  have hr0 : (0 : Int) ≤ (r : Int) := by omega
  have hfg := hI.fg
  obtain ⟨SC, hSC⟩ : ∃ S, S = sqN h l c r := ⟨_, rfl⟩
  obtain ⟨SU, hSU⟩ : ∃ S, S = sqN h l c ((r : Int) - 1) := ⟨_, rfl⟩
  obtain ⟨SL, hSL⟩ : ∃ S, S = sqN h l ((c : Int) - 1) r := ⟨_, rfl⟩
  have HSC := Hid.mk' (fun V hb => HSQ.out (c : Int) (r : Int) V hb (by omega) (by omega) (by omega) (by omega))
  have HSU := Hid.mk' (HSQ.out (c : Int) ((r : Int) - 1) W (Below.refl _ _) (by omega) (by omega) (by omega) (by omega))
  have HSL := Hid.mk' (HSQ.out ((c : Int) - 1) (r : Int) W (Below.refl _ _) (by omega) (by omega) (by omega) (by omega))
  rw [← hSC] at HSC
  rw [← hSU] at HSU
  rw [← hSL] at HSL
  have HDN : Hid (dnF h l c r = (SL, SC)) := by show _ = _; rw [dnF, ← hSL, ← hSC]
  have HRT : Hid (rtF h l c r = (SU, SC)) := by show _ = _; rw [rtF, ← hSU, ← hSC]
  obtain ⟨g1, k7⟩ := HX.out W (Below.refl _ _)
  clear hI hSC hSU hSL cL cH cO c7 HSQ
  cases d with
  | true =>
    have HEND : Hid (∀ V ov', GrAt W0 V G N ov' (E ++ [(SL, SC)]) → GrAt W0 V G N ov' (E ++ [dnF h l c r])) := fun V ov' hv => by rw [HDN.out]; exact hv
    clear HDN HRT
    go_enter Tryd.func15, Tryd.ntmps15
    go_wp2_with fail
    refine HSU.out.mono ?_
    rintro e w2 ⟨rfl, hw2⟩
    rw [hw2]
    clear hw2 w2
    go_wp2_with fail
    refine HSL.out.mono ?_
    rintro e w2 ⟨rfl, hw2⟩
    rw [hw2]
    clear hw2 w2
    go_wp2_with fail
    clear g1 k7
    have hcur : Below W.heap.size W W.drew := (Below.refl _ _).drew
    refine region_but_last (n := 11) (S := fun V => V.cell? ⟨G, 1, none⟩ = some (.slice ao E.length co) ∧ V.cell? ⟨B7, 0, none⟩ = some (.func (.func 14) #[] #[.pointer (some ⟨BL, 0, none⟩), .pointer (some ⟨BH, 0, none⟩), .pointer (some ⟨BO, 0, none⟩)])) (by kernel_rfl) (by kernel_rfl) (by kernel_rfl) (HX.out _ hcur) (fun hHeld => ?_)
    refine wpAnyH_take (i := 0) (v := ?v0a) rfl (by kernel_rfl) (by kernel_rfl) (by kernel_rfl) (fun _ _ _ h => h) (Or.inl ⟨by rfl, ?hy0a⟩) (by assumption) ?rest0a
    case hy0a => (intro w hSw; (try dsimp only at hSw); go_simp <;> (try with_reducible rfl))
    simp only [Act.put, List.getElem_toArray, List.getElem_cons_zero, List.setIfInBounds_toArray, List.set_cons_succ, List.set_cons_zero]
    refine wpAnyH_take (i := 1) (v := ?v1a) rfl (by kernel_rfl) (by kernel_rfl) (by kernel_rfl) (fun _ _ _ h => h) (Or.inl ⟨by rfl, ?hy1a⟩) (by assumption) ?rest1a
    case hy1a => (intro w hSw; (try dsimp only at hSw); go_simp <;> (try with_reducible rfl))
    simp only [Act.put, List.getElem_toArray, List.getElem_cons_succ, List.getElem_cons_zero, List.setIfInBounds_toArray, List.set_cons_succ, List.set_cons_zero]
    refine wpAnyH_take (i := 2) (v := ?v2a) rfl (by kernel_rfl) (by kernel_rfl) (by kernel_rfl) (fun _ _ _ h => h) (Or.inl ⟨by rfl, ?hy2a⟩) (by assumption) ?rest2a
    case hy2a => (intro w hSw; (try dsimp only at hSw); go_simp <;> (try with_reducible rfl))
    simp only [Act.put, List.getElem_toArray, List.getElem_cons_succ, List.getElem_cons_zero, List.setIfInBounds_toArray, List.set_cons_succ, List.set_cons_zero]
    refine wpAnyH_take (i := 3) (v := ?v3a) rfl (by kernel_rfl) (by kernel_rfl) (by kernel_rfl) (fun _ _ _ h => h) (Or.inl ⟨by rfl, ?hy3a⟩) (by assumption) ?rest3a
    case hy3a => (intro w hSw; (try dsimp only at hSw); go_simp <;> (try with_reducible rfl))
    simp only [Act.put, List.getElem_toArray, List.getElem_cons_succ, List.getElem_cons_zero, List.setIfInBounds_toArray, List.set_cons_succ, List.set_cons_zero]
    refine wpAnyH_take (i := 4) (v := ?v4a) rfl (by kernel_rfl) (by kernel_rfl) (by kernel_rfl) (fun _ _ _ h => h) (Or.inl ⟨by rfl, ?hy4a⟩) (by assumption) ?rest4a
    case hy4a => (intro w hSw; (try dsimp only at hSw); go_simp <;> (try with_reducible rfl))
    simp only [Act.put, List.getElem_toArray, List.getElem_cons_succ, List.getElem_cons_zero, List.setIfInBounds_toArray, List.set_cons_succ, List.set_cons_zero]
    refine wpAnyH_take (i := 5) (v := ?v5a) rfl (by kernel_rfl) (by kernel_rfl) (by kernel_rfl) (fun _ _ _ h => h) (Or.inl ⟨by rfl, ?hy5a⟩) (by assumption) ?rest5a
    case hy5a => (intro w hSw; (try dsimp only at hSw); go_simp <;> (try with_reducible rfl))
    simp only [Act.put, List.getElem_toArray, List.getElem_cons_succ, List.getElem_cons_zero, List.setIfInBounds_toArray, List.set_cons_succ, List.set_cons_zero]
    refine wpAnyH_ready (rs := [6]) (by kernel_rfl) (by simp) ?_
    refine AllReadyH.cons rfl (fun K hK => ?_) AllReadyH.nil
    go_simp
    refine (HSC.out _ hcur).mono ?_
    rintro e w5 ⟨rfl, hw5⟩
    rw [hw5]
    clear hw5 w5
    go_wp2_with fail
    refine hK.out _ _ ?_ (fun hHeld => ?_)
    · exact HX.out _ hcur
    clear hK K
    refine wpAnyH_take (i := 7) (v := ?v7a) rfl (by kernel_rfl) (by kernel_rfl) (by kernel_rfl) (fun _ _ _ h => h) (Or.inl ⟨by rfl, ?hy7a⟩) (by assumption) ?rest7a
    case hy7a => (intro w hSw; (try dsimp only at hSw); go_simp <;> (try with_reducible rfl))
    simp only [Act.put, List.getElem_toArray, List.getElem_cons_succ, List.getElem_cons_zero, List.setIfInBounds_toArray, List.set_cons_succ, List.set_cons_zero]
    refine wpAnyH_ready (rs := [8]) (by kernel_rfl) (by simp) ?_
    refine AllReadyH.cons rfl (fun K hK => ?_) AllReadyH.nil
    go_simp
    have hcur6 := hcur.alloc hcur.size (.cells #[.int .i64 ((SL : Int)), .int .i64 (SC : Int)] 34)
    refine hK.out _ _ ?_ (fun hHeld => ?_)
    · exact HX.out _ hcur6
    clear hK K
    refine wpAnyH_ready (rs := [9]) (by kernel_rfl) (by simp) ?_
    refine AllReadyH.cons rfl (fun K hK => ?_) AllReadyH.nil
    refine step_append_lies _ rfl _ _ _ rfl (G + 1) 34 i0 _ 2 16 Tryd.underlying23 HINF.out.1 HINF.out.2.1 HINF.out.2.2.1 HINF.out.2.2.2 rfl (by omega) (.slice ao E.length co) _ _ rfl ((HI.out.later hcur).own.alloc _) ⟨W.drew.heap.size, 0, none⟩ 1 1 [.int .i64 ((SL : Int)), .int .i64 (SC : Int)] rfl rfl (two_newG _ _ _ _) (by simp [Value.oneCell']) (by omega) (by unfold maxLen; omega) (by omega) (by simp; omega) _ rfl ?_
    intro g' cap' w7 hown7 hgrow7 hat7 hlt7
    have hID := HI.out.later hcur
    have HJ := Hid.mk' (hID.push (E' := E ++ [(SL, SC)]) hgrow7 (pair_own hown7 rfl rfl))
    obtain ⟨q1, q2, q3⟩ := hID.pushAt hgrow7
    have q7 : w7.cell? ⟨B7, 0, none⟩ = some (.func (.func 14) #[] #[.pointer (some ⟨BL, 0, none⟩), .pointer (some ⟨BH, 0, none⟩), .pointer (some ⟨BO, 0, none⟩)]) := by
      have h2 : Below G W0 w7 := (hID.below.alloc (Nat.le_of_lt hID.lt) _).grown hgrow7 (by simp; omega) (fun k e => by have := (hID.own.lt k e).1; omega)
      rw [h2.cell (p := ⟨B7, 0, none⟩) hB7]
      exact HF7.out
    refine hK.out _ _ ⟨q1, q7⟩ (fun hHeld => ?_)
    clear hK K hown7 hgrow7 hat7 hlt7 hID
    refine wpAnyH_take (i := 10) (v := ?v10a) rfl (by kernel_rfl) (by kernel_rfl) (by kernel_rfl) (fun _ _ _ h => h) (Or.inl ⟨by rfl, ?hy10a⟩) (by assumption) ?rest10a
    case hy10a => (intro w hSw; (try dsimp only at hSw); go_simp <;> (try with_reducible rfl))
    simp only [Act.put, List.getElem_toArray, List.getElem_cons_succ, List.getElem_cons_zero, List.setIfInBounds_toArray, List.set_cons_succ, List.set_cons_zero]
    refine wpAnyH_done (by kernel_rfl) ?_ _
    refine ahead_last rfl (fun K hK => ?_)
    go_simp
    refine hK _ _ ?_
    clear hK K
    go_wp2_with fail
    go_end0
    exact ⟨rfl, .slice (some ⟨g', 0, none⟩) (E.length + 1) cap', by first | exact HEND.out _ _ HJ.out | (rw [if_pos rfl]; exact HEND.out _ _ HJ.out) | (rw [if_neg (by decide)]; exact HEND.out _ _ HJ.out)⟩
  | false =>
    have HEND : Hid (∀ V ov', GrAt W0 V G N ov' (E ++ [(SU, SC)]) → GrAt W0 V G N ov' (E ++ [rtF h l c r])) := fun V ov' hv => by rw [HRT.out]; exact hv
    clear HDN HRT
    go_enter Tryd.func15, Tryd.ntmps15
    go_wp2_with fail
    refine HSU.out.mono ?_
    rintro e w2 ⟨rfl, hw2⟩
    rw [hw2]
    clear hw2 w2
    go_wp2_with fail
    clear g1 k7
    have hcur : Below W.heap.size W W.drew := (Below.refl _ _).drew
    refine region_but_last (n := 11) (S := fun V => V.cell? ⟨G, 1, none⟩ = some (.slice ao E.length co) ∧ V.cell? ⟨B7, 0, none⟩ = some (.func (.func 14) #[] #[.pointer (some ⟨BL, 0, none⟩), .pointer (some ⟨BH, 0, none⟩), .pointer (some ⟨BO, 0, none⟩)])) (by kernel_rfl) (by kernel_rfl) (by kernel_rfl) (HX.out _ hcur) (fun hHeld => ?_)
    refine wpAnyH_take (i := 0) (v := ?v0b) rfl (by kernel_rfl) (by kernel_rfl) (by kernel_rfl) (fun _ _ _ h => h) (Or.inl ⟨by rfl, ?hy0b⟩) (by assumption) ?rest0b
    case hy0b => (intro w hSw; (try dsimp only at hSw); go_simp <;> (try with_reducible rfl))
    simp only [Act.put, List.getElem_toArray, List.getElem_cons_zero, List.setIfInBounds_toArray, List.set_cons_succ, List.set_cons_zero]
    refine wpAnyH_take (i := 1) (v := ?v1b) rfl (by kernel_rfl) (by kernel_rfl) (by kernel_rfl) (fun _ _ _ h => h) (Or.inl ⟨by rfl, ?hy1b⟩) (by assumption) ?rest1b
    case hy1b => (intro w hSw; (try dsimp only at hSw); go_simp <;> (try with_reducible rfl))
    simp only [Act.put, List.getElem_toArray, List.getElem_cons_succ, List.getElem_cons_zero, List.setIfInBounds_toArray, List.set_cons_succ, List.set_cons_zero]
    refine wpAnyH_take (i := 2) (v := ?v2b) rfl (by kernel_rfl) (by kernel_rfl) (by kernel_rfl) (fun _ _ _ h => h) (Or.inl ⟨by rfl, ?hy2b⟩) (by assumption) ?rest2b
    case hy2b => (intro w hSw; (try dsimp only at hSw); go_simp <;> (try with_reducible rfl))
    simp only [Act.put, List.getElem_toArray, List.getElem_cons_succ, List.getElem_cons_zero, List.setIfInBounds_toArray, List.set_cons_succ, List.set_cons_zero]
    refine wpAnyH_take (i := 3) (v := ?v3b) rfl (by kernel_rfl) (by kernel_rfl) (by kernel_rfl) (fun _ _ _ h => h) (Or.inl ⟨by rfl, ?hy3b⟩) (by assumption) ?rest3b
    case hy3b => (intro w hSw; (try dsimp only at hSw); go_simp <;> (try with_reducible rfl))
    simp only [Act.put, List.getElem_toArray, List.getElem_cons_succ, List.getElem_cons_zero, List.setIfInBounds_toArray, List.set_cons_succ, List.set_cons_zero]
    refine wpAnyH_take (i := 4) (v := ?v4b) rfl (by kernel_rfl) (by kernel_rfl) (by kernel_rfl) (fun _ _ _ h => h) (Or.inl ⟨by rfl, ?hy4b⟩) (by assumption) ?rest4b
    case hy4b => (intro w hSw; (try dsimp only at hSw); go_simp <;> (try with_reducible rfl))
    simp only [Act.put, List.getElem_toArray, List.getElem_cons_succ, List.getElem_cons_zero, List.setIfInBounds_toArray, List.set_cons_succ, List.set_cons_zero]
    refine wpAnyH_take (i := 5) (v := ?v5b) rfl (by kernel_rfl) (by kernel_rfl) (by kernel_rfl) (fun _ _ _ h => h) (Or.inl ⟨by rfl, ?hy5b⟩) (by assumption) ?rest5b
    case hy5b => (intro w hSw; (try dsimp only at hSw); go_simp <;> (try with_reducible rfl))
    simp only [Act.put, List.getElem_toArray, List.getElem_cons_succ, List.getElem_cons_zero, List.setIfInBounds_toArray, List.set_cons_succ, List.set_cons_zero]
    refine wpAnyH_ready (rs := [6]) (by kernel_rfl) (by simp) ?_
    refine AllReadyH.cons rfl (fun K hK => ?_) AllReadyH.nil
    go_simp
    refine (HSC.out _ hcur).mono ?_
    rintro e w5 ⟨rfl, hw5⟩
    rw [hw5]
    clear hw5 w5
    go_wp2_with fail
    refine hK.out _ _ ?_ (fun hHeld => ?_)
    · exact HX.out _ hcur
    clear hK K
    refine wpAnyH_take (i := 7) (v := ?v7b) rfl (by kernel_rfl) (by kernel_rfl) (by kernel_rfl) (fun _ _ _ h => h) (Or.inl ⟨by rfl, ?hy7b⟩) (by assumption) ?rest7b
    case hy7b => (intro w hSw; (try dsimp only at hSw); go_simp <;> (try with_reducible rfl))
    simp only [Act.put, List.getElem_toArray, List.getElem_cons_succ, List.getElem_cons_zero, List.setIfInBounds_toArray, List.set_cons_succ, List.set_cons_zero]
    refine wpAnyH_ready (rs := [8]) (by kernel_rfl) (by simp) ?_
    refine AllReadyH.cons rfl (fun K hK => ?_) AllReadyH.nil
    go_simp
    have hcur6 := hcur.alloc hcur.size (.cells #[.int .i64 ((SU : Int)), .int .i64 (SC : Int)] 34)
    refine hK.out _ _ ?_ (fun hHeld => ?_)
    · exact HX.out _ hcur6
    clear hK K
    refine wpAnyH_ready (rs := [9]) (by kernel_rfl) (by simp) ?_
    refine AllReadyH.cons rfl (fun K hK => ?_) AllReadyH.nil
    refine step_append_lies _ rfl _ _ _ rfl (G + 1) 34 i0 _ 2 16 Tryd.underlying23 HINF.out.1 HINF.out.2.1 HINF.out.2.2.1 HINF.out.2.2.2 rfl (by omega) (.slice ao E.length co) _ _ rfl ((HI.out.later hcur).own.alloc _) ⟨W.drew.heap.size, 0, none⟩ 1 1 [.int .i64 ((SU : Int)), .int .i64 (SC : Int)] rfl rfl (two_newG _ _ _ _) (by simp [Value.oneCell']) (by omega) (by unfold maxLen; omega) (by omega) (by simp; omega) _ rfl ?_
    intro g' cap' w7 hown7 hgrow7 hat7 hlt7
    have hID := HI.out.later hcur
    have HJ := Hid.mk' (hID.push (E' := E ++ [(SU, SC)]) hgrow7 (pair_own hown7 rfl rfl))
    obtain ⟨q1, q2, q3⟩ := hID.pushAt hgrow7
    have q7 : w7.cell? ⟨B7, 0, none⟩ = some (.func (.func 14) #[] #[.pointer (some ⟨BL, 0, none⟩), .pointer (some ⟨BH, 0, none⟩), .pointer (some ⟨BO, 0, none⟩)]) := by
      have h2 : Below G W0 w7 := (hID.below.alloc (Nat.le_of_lt hID.lt) _).grown hgrow7 (by simp; omega) (fun k e => by have := (hID.own.lt k e).1; omega)
      rw [h2.cell (p := ⟨B7, 0, none⟩) hB7]
      exact HF7.out
    refine hK.out _ _ ⟨q1, q7⟩ (fun hHeld => ?_)
    clear hK K hown7 hgrow7 hat7 hlt7 hID
    refine wpAnyH_take (i := 10) (v := ?v10b) rfl (by kernel_rfl) (by kernel_rfl) (by kernel_rfl) (fun _ _ _ h => h) (Or.inl ⟨by rfl, ?hy10b⟩) (by assumption) ?rest10b
    case hy10b => (intro w hSw; (try dsimp only at hSw); go_simp <;> (try with_reducible rfl))
    simp only [Act.put, List.getElem_toArray, List.getElem_cons_succ, List.getElem_cons_zero, List.setIfInBounds_toArray, List.set_cons_succ, List.set_cons_zero]
    refine wpAnyH_done (by kernel_rfl) ?_ _
    refine ahead_last rfl (fun K hK => ?_)
    go_simp
    refine hK _ _ ?_
    clear hK K
    go_wp2_with fail
    go_end0
    exact ⟨rfl, .slice (some ⟨g', 0, none⟩) (E.length + 1) cap', by first | exact HEND.out _ _ HJ.out | (rw [if_pos rfl]; exact HEND.out _ _ HJ.out) | (rw [if_neg (by decide)]; exact HEND.out _ _ HJ.out)⟩
end Go.Proofs.YtoghnbcjkgookabDoor
