/- The law LogsAdds where one is not in form, or too long. -/
import Derived.Test.YtkcpmfilencekabGreatDoorAddsWalk
namespace Go.Proofs.YtkcpmfilencekabGreatDoor
open Go.RowKit

/-- Nothing in its box. -/
structure ZeroBox (W0 W : World) (B : Nat) : Prop where
  below : Below W0.heap.size W0 W
  c0 : W.cell? ⟨B, 0, none⟩ = some (.int .i64 0)
  c1 : W.cell? ⟨B, 1, none⟩ = some (.slice none 0 0)
theorem zeroBox_late {W0 W : World} (h : Below W0.heap.size W0 W) : ZeroBox W0 (W.alloc (.cells #[.int .i64 0, .slice none 0 0] 24)) W.heap.size :=
  ⟨more_below h _, by rw [World.cell?_alloc_at _ _ _ _ rfl]; rfl, by rw [World.cell?_alloc_at _ _ _ _ rfl]; rfl⟩
theorem zeroBox_soon {W0 W : World} {B : Nat} (h : Below W0.heap.size W0 W) (hn : NewBoxL W0 W B) : ZeroBox W0 ((W.setCell ⟨B, 0, none⟩ (.int .i64 0)).setCell ⟨B, 1, none⟩ (.slice none 0 0)) B :=
  ⟨setB_below h hn.hB _ _, by rw [World.cell?_setCell_other _ _ _ _ (by simp)]; exact World.cell?_setCell_same _ _ _ hn.c0, World.cell?_setCell_same _ _ _ (by rw [World.cell?_setCell_other _ _ _ _ (by simp)]; exact hn.c1)⟩
theorem zeroBox_same {W0 W : World} {B : Nat} (h : Below W0.heap.size W0 W) (hn : NewBoxL W0 W B) : ZeroBox W0 W B := ⟨h, hn.c0, hn.c1⟩

set_option maxRecDepth 100000 in
set_option maxHeartbeats 4000000 in
theorem LogsAdds_bad1 (da db : Int) (ad1 ad2 : Option Addr) (n1 n2 cap1 cap2 : Nat) (p1 c1 p2 c2 : Nat → Int) (a : Nat → Addr) (w : World) (h : Errs w a) (hl1 : LogAt w (.slice ad1 n1 cap1) n1 p1 c1) (hl2 : LogAt w (.slice ad2 n2 cap2) n2 p2 c2)
    (hbad : ¬ OkLog da n1 p1 c1) (hn1 : n1 ≤ 30) (hn2 : n2 ≤ 30) :
    Calls Tryz.prog 3 #[.agg #[.int .i64 da, .slice ad1 n1 cap1], .agg #[.int .i64 db, .slice ad2 n2 cap2]] w fun e w' => e = .returned (.bool true) ∧ Below w.heap.size w w' := by
  have HK := Hid.mk' (fun (W : World) => twoLogs (W := W) (da := da) (db := db) h hl1 hl2)
  have HADD : Hid (∀ (W : World) (v1 v2 : Value), Errs W a → LogAt W v1 n1 p1 c1 → LogAt W v2 n2 p2 c2 → _) := fun W v1 v2 h1 h2 h3 => Add_shape da db v1 v2 n1 n2 p1 c1 p2 c2 a W h1 h2 h3 (by omega) (by omega) (fun h => hbad h.1)
  have HOK := Hid.mk' hbad
  have hE := eighth_any ((w.alloc (.cells #[.int .i64 da, .slice ad1 n1 cap1] 24)).alloc (.cells #[.int .i64 db, .slice ad2 n2 cap2] 24))
  obtain ⟨W0, hW0⟩ : ∃ W0, W0 = (w.alloc (.cells #[.int .i64 da, .slice ad1 n1 cap1] 24)).alloc (.cells #[.int .i64 db, .slice ad2 n2 cap2] 24) := ⟨_, rfl⟩
  rw [← hW0] at hE HK
  have HW0 := Hid.mk' hW0
  clear h hl1 hl2 hW0 hbad
  go_enter Tryz.func3, Tryz.ntmps3
  go_wp2_with fail
  rw [← HW0.out]
  refine hE.mono ?_
  clear hE
  rintro e w1 ⟨rfl, hb1⟩
  have k1 := HK.out w1 hb1
  have x0 := k1.x0
  have x1 := k1.x1
  have hsh := short_any da ad1 n1 cap1 true (by simpa using hn1) (by unfold maxLen; omega) w1
  have HB1 := Hid.mk' hb1
  clear hb1 k1
  go_wp2_with fail
  refine hsh.mono ?_
  clear hsh x0 x1
  rintro e w2 ⟨rfl, hb2⟩
  have HB2 := Hid.mk' (below_chain HB1.out hb2)
  have k2 := HK.out w2 HB2.out
  have y0 := k2.y0
  have y1 := k2.y1
  have hsh := short_any db ad2 n2 cap2 true (by simpa using hn2) (by unfold maxLen; omega) w2
  clear hb2 k2
  go_wp2_with fail
  refine hsh.mono ?_
  clear hsh y0 y1
  rintro e w3 ⟨rfl, hb3⟩
  have HB3 := Hid.mk' (below_chain HB2.out hb3)
  have k3 := HK.out w3 HB3.out
  have x0 := k3.x0
  have x1 := k3.x1
  have hle := LogError_at da (.slice ad1 n1 cap1) n1 false _ _ ⟨(fun e => by cases e), (fun e => absurd e HOK.out)⟩ w3 k3.log1 hn1
  simp only [shapeCode] at hle
  clear hb3 k3
  go_wp2_with fail
  refine hle.mono ?_
  clear hle x0 x1
  rintro e w5 ⟨rfl, hb5⟩
  have HB5 := Hid.mk' (below_chain HB3.out hb5)
  clear hb5 HB1 HB2 HB3
  go_upto_region 11 with fail
  have HNB0 : Hid (∀ W, Below (w5.alloc (.cells #[.int .i64 0, .slice none 0 0] 24)).heap.size (w5.alloc (.cells #[.int .i64 0, .slice none 0 0] 24)) W → NewBoxL W0 W w5.heap.size) := fun W hb => newBoxL_of HB5.out hb
  have HBM : Hid (Below W0.heap.size W0 (w5.alloc (.cells #[.int .i64 0, .slice none 0 0] 24))) := more_below HB5.out _
  obtain ⟨Wm, hWm⟩ : ∃ Wm, Wm = w5.alloc (.cells #[.int .i64 0, .slice none 0 0] 24) := ⟨_, rfl⟩
  rw [← hWm] at HNB0 HBM ⊢
  clear hWm
  have hcur0 : Below Wm.heap.size Wm Wm := Below.refl _ _
  have hcur : Below Wm.heap.size Wm Wm.drew := (Below.refl _ _).drew
  have hcurA : ∀ X, Below Wm.heap.size Wm (Wm.alloc X).drew := fun X => (new_below _ _).drew
  have HKS : Hid (∀ W, Below W0.heap.size W0 W → (W.cell? ⟨w.heap.size, 0, none⟩ = some (.int .i64 da) ∧ W.cell? ⟨w.heap.size, 1, none⟩ = some (.slice ad1 n1 cap1)) ∧ (W.cell? ⟨w.heap.size + 1, 0, none⟩ = some (.int .i64 db) ∧ W.cell? ⟨w.heap.size + 1, 1, none⟩ = some (.slice ad2 n2 cap2))) := fun W hb => by
    have k := HK.out W hb
    exact ⟨⟨k.x0, k.x1⟩, k.y0, k.y1⟩
  go_cut [9, 10] from 42 (fun s r wx => ∃ (Bs : Nat), s = .pointer (some ⟨Bs, 0, none⟩) ∧ r = .iface 232 (.pointer (some (a 2))) ∧ Hid (ZeroBox Wm wx Bs))
  case first =>
    go_region_held3 (fun W => (W.cell? ⟨w.heap.size, 0, none⟩ = some (.int .i64 da) ∧ W.cell? ⟨w.heap.size, 1, none⟩ = some (.slice ad1 n1 cap1)) ∧ (W.cell? ⟨w.heap.size + 1, 0, none⟩ = some (.int .i64 db) ∧ W.cell? ⟨w.heap.size + 1, 1, none⟩ = some (.slice ad2 n2 cap2)))
      (first | exact HKS.out _ (below_chain HBM.out hcur0) | exact HKS.out _ (below_chain HBM.out hcur) | exact HKS.out _ (below_chain HBM.out (hcurA _)) | exact HKS.out _ (below_chain HBM.out hbw7) | exact HKS.out _ (below_chain HBM.out hbw8) | exact HKS.out _ (below_chain HBM.out hbw9) | exact HKS.out _ (below_chain HBM.out (more_below hbw7 _)) | exact HKS.out _ (below_chain HBM.out (more_below hbw8 _)) | exact HKS.out _ (below_chain HBM.out (more_below hbw9 _)) | exact HKS.out _ (below_chain HBM.out (setB_below hbw9 NB.hB _ _)))
      (first
        | (go_at_call 11; have hz8 := hbw8; clear hz8; refine (HADD.out _ _ _ ?_ ?_ ?_).mono ?_; (first | exact (HK.out _ (below_chain HBM.out hbw8)).errs | exact (HK.out _ (below_chain HBM.out (more_below hbw8 _))).errs); (first | exact HL7.out.later h78 | exact HL7.out.later (more_below h78 _)); (first | exact HL8.out | exact HL8.out.later (new_below _ _)); rintro e w9 ⟨rfl, hb9⟩; (first | (have hbw9 := below_chain hbw8 hb9; try have NB := NB.later hb9) | (have hbw9 := below_chain (more_below hbw8 _) hb9; have NB := newBoxL_of hbw8 hb9)); (try (have z0 := NB.c0; have z1 := NB.c1; have z2 := NB.f0; have z3 := NB.f1)); clear hb9)
        | (go_at_call 12; have hz7 := hbw7; clear hz7; refine (own_at db _ n2 p2 c2 _ ?_ hn2).mono ?_; (first | exact (HK.out _ (below_chain HBM.out hbw7)).log2 | exact (HK.out _ (below_chain HBM.out (more_below hbw7 _))).log2); rintro e w8 ⟨sv8, rfl, hs8, hb8⟩; (first | (have hbw8 := below_chain hbw7 hb8; have h78 := below_chain (Below.refl _ w7) hb8; try have NB := NB.later hb8) | (have hbw8 := below_chain (more_below hbw7 _) hb8; have h78 := below_chain (new_below w7 _) hb8; have NB := newBoxL_of hbw7 hb8)); obtain ⟨ad8, cap8, rfl, hl8⟩ := own_logAt hs8; have HL8 := Hid.mk' hl8; clear hs8 hb8 hl8)
        | (go_at_call 12; refine (own_at da _ n1 p1 c1 _ ?_ hn1).mono ?_; (first | exact (HK.out _ (below_chain HBM.out hcur)).log1 | exact (HK.out _ (below_chain HBM.out (hcurA _))).log1); rintro e w7 ⟨sv7, rfl, hs7, hb7⟩; (first | have hbw7 := below_chain hcur hb7 | (have hbw7 := below_chain (hcurA _) hb7; have NB := newBoxL_of hcur0 (below_chain ((Below.refl _ _).drew) hb7))); obtain ⟨ad7, cap7, rfl, hl7⟩ := own_logAt hs7; have HL7 := Hid.mk' hl7; clear hs7 hb7 hl7))
    all_goals
      go_wp2_with fail
      go_meet
      first | exact ⟨_, rfl, rfl, zeroBox_late hbw9⟩ | exact ⟨_, rfl, rfl, zeroBox_soon hbw9 NB⟩ | exact ⟨_, rfl, rfl, zeroBox_same hbw9 NB⟩
  case rest =>
  obtain ⟨Bs, rfl, rfl, HZB⟩ := hcut
  have s0 := HZB.out.c0
  have s1 := HZB.out.c1
  have nb := HNB0.out wc HZB.out.below
  have r0 := nb.c0
  have r1 := nb.c1
  have hbc := below_chain HBM.out HZB.out.below
  have his : Calls Tryz.prog 13 #[.agg #[.int .i64 0, .slice none 0 0], .iface 232 (.pointer (some (a 2))), .agg #[.int .i64 0, .slice none 0 0], .int .i64 3] _ _ := isLog_err a 2 (by decide) 0 none 0 0 wc (HK.out _ hbc).errs
  have HBC := Hid.mk' hbc
  clear hbc nb
  go_wp2_with fail
  refine his.mono ?_
  clear his
  rintro e w12 ⟨rfl, hb12⟩
  go_wp2_with fail
  go_ret
  exact ⟨rfl, (HK.out _ (below_chain HBC.out hb12)).below⟩

set_option maxRecDepth 100000 in
set_option maxHeartbeats 4000000 in
theorem LogsAdds_bad2 (da db : Int) (ad1 ad2 : Option Addr) (n1 n2 cap1 cap2 : Nat) (p1 c1 p2 c2 : Nat → Int) (a : Nat → Addr) (w : World) (h : Errs w a) (hl1 : LogAt w (.slice ad1 n1 cap1) n1 p1 c1) (hl2 : LogAt w (.slice ad2 n2 cap2) n2 p2 c2)
    (hok1 : OkLog da n1 p1 c1) (hbad : ¬ OkLog db n2 p2 c2) (hn1 : n1 ≤ 30) (hn2 : n2 ≤ 30) :
    Calls Tryz.prog 3 #[.agg #[.int .i64 da, .slice ad1 n1 cap1], .agg #[.int .i64 db, .slice ad2 n2 cap2]] w fun e w' => e = .returned (.bool true) ∧ Below w.heap.size w w' := by
  have HK := Hid.mk' (fun (W : World) => twoLogs (W := W) (da := da) (db := db) h hl1 hl2)
  have HADD : Hid (∀ (W : World) (v1 v2 : Value), Errs W a → LogAt W v1 n1 p1 c1 → LogAt W v2 n2 p2 c2 → _) := fun W v1 v2 h1 h2 h3 => Add_shape da db v1 v2 n1 n2 p1 c1 p2 c2 a W h1 h2 h3 (by omega) (by omega) (fun h => hbad h.2)
  have HOK := Hid.mk' (And.intro hok1 hbad)
  have hE := eighth_any ((w.alloc (.cells #[.int .i64 da, .slice ad1 n1 cap1] 24)).alloc (.cells #[.int .i64 db, .slice ad2 n2 cap2] 24))
  obtain ⟨W0, hW0⟩ : ∃ W0, W0 = (w.alloc (.cells #[.int .i64 da, .slice ad1 n1 cap1] 24)).alloc (.cells #[.int .i64 db, .slice ad2 n2 cap2] 24) := ⟨_, rfl⟩
  rw [← hW0] at hE HK
  have HW0 := Hid.mk' hW0
  clear h hl1 hl2 hW0 hbad hok1
  go_enter Tryz.func3, Tryz.ntmps3
  go_wp2_with fail
  rw [← HW0.out]
  refine hE.mono ?_
  clear hE
  rintro e w1 ⟨rfl, hb1⟩
  have k1 := HK.out w1 hb1
  have x0 := k1.x0
  have x1 := k1.x1
  have hsh := short_any da ad1 n1 cap1 true (by simpa using hn1) (by unfold maxLen; omega) w1
  have HB1 := Hid.mk' hb1
  clear hb1 k1
  go_wp2_with fail
  refine hsh.mono ?_
  clear hsh x0 x1
  rintro e w2 ⟨rfl, hb2⟩
  have HB2 := Hid.mk' (below_chain HB1.out hb2)
  have k2 := HK.out w2 HB2.out
  have y0 := k2.y0
  have y1 := k2.y1
  have hsh := short_any db ad2 n2 cap2 true (by simpa using hn2) (by unfold maxLen; omega) w2
  clear hb2 k2
  go_wp2_with fail
  refine hsh.mono ?_
  clear hsh y0 y1
  rintro e w3 ⟨rfl, hb3⟩
  have HB3 := Hid.mk' (below_chain HB2.out hb3)
  have k3 := HK.out w3 HB3.out
  have x0 := k3.x0
  have x1 := k3.x1
  have hle := LogError_at da (.slice ad1 n1 cap1) n1 true _ _ ⟨fun _ => HOK.out.1, fun _ => rfl⟩ w3 k3.log1 hn1
  simp only [shapeCode] at hle
  clear hb3 k3
  go_wp2_with fail
  refine hle.mono ?_
  clear hle x0 x1
  rintro e w4 ⟨rfl, hb4⟩
  have HB4 := Hid.mk' (below_chain HB3.out hb4)
  have k4 := HK.out w4 HB4.out
  have y0 := k4.y0
  have y1 := k4.y1
  have hle := LogError_at db (.slice ad2 n2 cap2) n2 false _ _ ⟨(fun e => by cases e), (fun e => absurd e HOK.out.2)⟩ w4 k4.log2 hn2
  simp only [shapeCode] at hle
  clear hb4 k4
  go_wp2_with fail
  refine hle.mono ?_
  clear hle y0 y1
  rintro e w5 ⟨rfl, hb5⟩
  have HB5 := Hid.mk' (below_chain HB4.out hb5)
  clear hb5 HB1 HB2 HB3 HB4
  go_upto_region 11 with fail
  have HNB0 : Hid (∀ W, Below (w5.alloc (.cells #[.int .i64 0, .slice none 0 0] 24)).heap.size (w5.alloc (.cells #[.int .i64 0, .slice none 0 0] 24)) W → NewBoxL W0 W w5.heap.size) := fun W hb => newBoxL_of HB5.out hb
  have HBM : Hid (Below W0.heap.size W0 (w5.alloc (.cells #[.int .i64 0, .slice none 0 0] 24))) := more_below HB5.out _
  obtain ⟨Wm, hWm⟩ : ∃ Wm, Wm = w5.alloc (.cells #[.int .i64 0, .slice none 0 0] 24) := ⟨_, rfl⟩
  rw [← hWm] at HNB0 HBM ⊢
  clear hWm
  have hcur0 : Below Wm.heap.size Wm Wm := Below.refl _ _
  have hcur : Below Wm.heap.size Wm Wm.drew := (Below.refl _ _).drew
  have hcurA : ∀ X, Below Wm.heap.size Wm (Wm.alloc X).drew := fun X => (new_below _ _).drew
  have HKS : Hid (∀ W, Below W0.heap.size W0 W → (W.cell? ⟨w.heap.size, 0, none⟩ = some (.int .i64 da) ∧ W.cell? ⟨w.heap.size, 1, none⟩ = some (.slice ad1 n1 cap1)) ∧ (W.cell? ⟨w.heap.size + 1, 0, none⟩ = some (.int .i64 db) ∧ W.cell? ⟨w.heap.size + 1, 1, none⟩ = some (.slice ad2 n2 cap2))) := fun W hb => by
    have k := HK.out W hb
    exact ⟨⟨k.x0, k.x1⟩, k.y0, k.y1⟩
  go_cut [9, 10] from 42 (fun s r wx => ∃ (Bs : Nat), s = .pointer (some ⟨Bs, 0, none⟩) ∧ r = .iface 232 (.pointer (some (a 2))) ∧ Hid (ZeroBox Wm wx Bs))
  case first =>
    go_region_held3 (fun W => (W.cell? ⟨w.heap.size, 0, none⟩ = some (.int .i64 da) ∧ W.cell? ⟨w.heap.size, 1, none⟩ = some (.slice ad1 n1 cap1)) ∧ (W.cell? ⟨w.heap.size + 1, 0, none⟩ = some (.int .i64 db) ∧ W.cell? ⟨w.heap.size + 1, 1, none⟩ = some (.slice ad2 n2 cap2)))
      (first | exact HKS.out _ (below_chain HBM.out hcur0) | exact HKS.out _ (below_chain HBM.out hcur) | exact HKS.out _ (below_chain HBM.out (hcurA _)) | exact HKS.out _ (below_chain HBM.out hbw7) | exact HKS.out _ (below_chain HBM.out hbw8) | exact HKS.out _ (below_chain HBM.out hbw9) | exact HKS.out _ (below_chain HBM.out (more_below hbw7 _)) | exact HKS.out _ (below_chain HBM.out (more_below hbw8 _)) | exact HKS.out _ (below_chain HBM.out (more_below hbw9 _)) | exact HKS.out _ (below_chain HBM.out (setB_below hbw9 NB.hB _ _)))
      (first
        | (go_at_call 11; have hz8 := hbw8; clear hz8; refine (HADD.out _ _ _ ?_ ?_ ?_).mono ?_; (first | exact (HK.out _ (below_chain HBM.out hbw8)).errs | exact (HK.out _ (below_chain HBM.out (more_below hbw8 _))).errs); (first | exact HL7.out.later h78 | exact HL7.out.later (more_below h78 _)); (first | exact HL8.out | exact HL8.out.later (new_below _ _)); rintro e w9 ⟨rfl, hb9⟩; (first | (have hbw9 := below_chain hbw8 hb9; try have NB := NB.later hb9) | (have hbw9 := below_chain (more_below hbw8 _) hb9; have NB := newBoxL_of hbw8 hb9)); (try (have z0 := NB.c0; have z1 := NB.c1; have z2 := NB.f0; have z3 := NB.f1)); clear hb9)
        | (go_at_call 12; have hz7 := hbw7; clear hz7; refine (own_at db _ n2 p2 c2 _ ?_ hn2).mono ?_; (first | exact (HK.out _ (below_chain HBM.out hbw7)).log2 | exact (HK.out _ (below_chain HBM.out (more_below hbw7 _))).log2); rintro e w8 ⟨sv8, rfl, hs8, hb8⟩; (first | (have hbw8 := below_chain hbw7 hb8; have h78 := below_chain (Below.refl _ w7) hb8; try have NB := NB.later hb8) | (have hbw8 := below_chain (more_below hbw7 _) hb8; have h78 := below_chain (new_below w7 _) hb8; have NB := newBoxL_of hbw7 hb8)); obtain ⟨ad8, cap8, rfl, hl8⟩ := own_logAt hs8; have HL8 := Hid.mk' hl8; clear hs8 hb8 hl8)
        | (go_at_call 12; refine (own_at da _ n1 p1 c1 _ ?_ hn1).mono ?_; (first | exact (HK.out _ (below_chain HBM.out hcur)).log1 | exact (HK.out _ (below_chain HBM.out (hcurA _))).log1); rintro e w7 ⟨sv7, rfl, hs7, hb7⟩; (first | have hbw7 := below_chain hcur hb7 | (have hbw7 := below_chain (hcurA _) hb7; have NB := newBoxL_of hcur0 (below_chain ((Below.refl _ _).drew) hb7))); obtain ⟨ad7, cap7, rfl, hl7⟩ := own_logAt hs7; have HL7 := Hid.mk' hl7; clear hs7 hb7 hl7))
    all_goals
      go_wp2_with fail
      go_meet
      first | exact ⟨_, rfl, rfl, zeroBox_late hbw9⟩ | exact ⟨_, rfl, rfl, zeroBox_soon hbw9 NB⟩ | exact ⟨_, rfl, rfl, zeroBox_same hbw9 NB⟩
  case rest =>
  obtain ⟨Bs, rfl, rfl, HZB⟩ := hcut
  have s0 := HZB.out.c0
  have s1 := HZB.out.c1
  have nb := HNB0.out wc HZB.out.below
  have r0 := nb.c0
  have r1 := nb.c1
  have hbc := below_chain HBM.out HZB.out.below
  have his : Calls Tryz.prog 13 #[.agg #[.int .i64 0, .slice none 0 0], .iface 232 (.pointer (some (a 2))), .agg #[.int .i64 0, .slice none 0 0], .int .i64 3] _ _ := isLog_err a 2 (by decide) 0 none 0 0 wc (HK.out _ hbc).errs
  have HBC := Hid.mk' hbc
  clear hbc nb
  go_wp2_with fail
  refine his.mono ?_
  clear his
  rintro e w12 ⟨rfl, hb12⟩
  go_wp2_with fail
  go_ret
  exact ⟨rfl, (HK.out _ (below_chain HBC.out hb12)).below⟩

set_option maxRecDepth 100000 in
set_option maxHeartbeats 1000000 in
theorem LogsAdds_long (da db : Int) (ad1 ad2 : Option Addr) (n1 n2 cap1 cap2 : Nat) (w : World) (h1 : n1 ≤ maxLen) (h2 : n2 ≤ maxLen) (hl : 30 < n1 ∨ 30 < n2) :
    Calls Tryz.prog 3 #[.agg #[.int .i64 da, .slice ad1 n1 cap1], .agg #[.int .i64 db, .slice ad2 n2 cap2]] w fun e w' => e = .returned (.bool true) ∧ Below w.heap.size w w' := by
  have hb0 : Below w.heap.size w ((w.alloc (.cells #[.int .i64 da, .slice ad1 n1 cap1] 24)).alloc (.cells #[.int .i64 db, .slice ad2 n2 cap2] 24)) := more_below (new_below _ _) _
  have HC : Hid (∀ W, Below ((w.alloc (.cells #[.int .i64 da, .slice ad1 n1 cap1] 24)).alloc (.cells #[.int .i64 db, .slice ad2 n2 cap2] 24)).heap.size ((w.alloc (.cells #[.int .i64 da, .slice ad1 n1 cap1] 24)).alloc (.cells #[.int .i64 db, .slice ad2 n2 cap2] 24)) W → (W.cell? ⟨w.heap.size, 0, none⟩ = some (.int .i64 da) ∧ W.cell? ⟨w.heap.size, 1, none⟩ = some (.slice ad1 n1 cap1)) ∧ (W.cell? ⟨w.heap.size + 1, 0, none⟩ = some (.int .i64 db) ∧ W.cell? ⟨w.heap.size + 1, 1, none⟩ = some (.slice ad2 n2 cap2))) := fun W hb => by
    obtain ⟨q0, q1, _, _⟩ := res_past (below_chain (new_below (w.alloc (.cells #[.int .i64 da, .slice ad1 n1 cap1] 24)) (.cells #[.int .i64 db, .slice ad2 n2 cap2] 24)) hb)
    obtain ⟨q2, q3, _, _⟩ := res_past hb
    simp only [World.size_alloc] at q2 q3
    exact ⟨⟨q0, q1⟩, q2, q3⟩
  have hE := eighth_any ((w.alloc (.cells #[.int .i64 da, .slice ad1 n1 cap1] 24)).alloc (.cells #[.int .i64 db, .slice ad2 n2 cap2] 24))
  obtain ⟨W0, hW0⟩ : ∃ W0, W0 = (w.alloc (.cells #[.int .i64 da, .slice ad1 n1 cap1] 24)).alloc (.cells #[.int .i64 db, .slice ad2 n2 cap2] 24) := ⟨_, rfl⟩
  rw [← hW0] at hE HC hb0
  have HW0 := Hid.mk' hW0
  have HB0 := Hid.mk' hb0
  clear hW0 hb0
  by_cases hs : n1 ≤ 30
  · have hs2 : ¬ n2 ≤ 30 := by omega
    go_enter Tryz.func3, Tryz.ntmps3
    go_wp2_with fail
    rw [← HW0.out]
    refine hE.mono ?_
    clear hE
    rintro e w1 ⟨rfl, hb1⟩
    obtain ⟨⟨x0, x1⟩, _⟩ := HC.out w1 hb1
    have hsh := short_any da ad1 n1 cap1 true (by simpa using hs) h1 w1
    have HB1 := Hid.mk' hb1
    clear hb1
    go_wp2_with fail
    refine hsh.mono ?_
    clear hsh x0 x1
    rintro e w2 ⟨rfl, hb2⟩
    have HB2 := Hid.mk' (below_chain HB1.out hb2)
    obtain ⟨_, y0, y1⟩ := HC.out w2 HB2.out
    have hsh := short_any db ad2 n2 cap2 false (by simpa using hs2) h2 w2
    clear hb2
    go_wp2_with fail
    refine hsh.mono ?_
    clear hsh y0 y1
    rintro e w3 ⟨rfl, hb3⟩
    go_wp2_with fail
    go_ret
    exact ⟨rfl, below_chain HB0.out (below_chain HB2.out hb3)⟩
  · go_enter Tryz.func3, Tryz.ntmps3
    go_wp2_with fail
    rw [← HW0.out]
    refine hE.mono ?_
    clear hE
    rintro e w1 ⟨rfl, hb1⟩
    obtain ⟨⟨x0, x1⟩, _⟩ := HC.out w1 hb1
    have hsh := short_any da ad1 n1 cap1 false (by simpa using hs) h1 w1
    have HB1 := Hid.mk' hb1
    clear hb1
    go_wp2_with fail
    refine hsh.mono ?_
    clear hsh x0 x1
    rintro e w2 ⟨rfl, hb2⟩
    go_wp2_with fail
    go_ret
    exact ⟨rfl, below_chain HB0.out (below_chain HB1.out hb2)⟩
end Go.Proofs.YtkcpmfilencekabGreatDoor
