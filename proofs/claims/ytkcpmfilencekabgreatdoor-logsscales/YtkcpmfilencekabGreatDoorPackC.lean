/- The law LogsScales. -/
import Derived.Test.YtkcpmfilencekabGreatDoorPackB
import Derived.Test.YtkcpmfilencekabGreatDoorPackA
namespace Go.Proofs.YtkcpmfilencekabGreatDoor
open Go.RowKit

/-- What the law's boxes hold. -/
structure LogFrac (w : World) (a : Nat → Addr) (da fn fd : Int) (s1 : Value) (n1 : Nat) (p1 c1 : Nat → Int) (W : World) : Prop where
  errs : Errs W a
  log : LogAt W s1 n1 p1 c1
  x0 : W.cell? ⟨w.heap.size, 0, none⟩ = some (.int .i64 da)
  x1 : W.cell? ⟨w.heap.size, 1, none⟩ = some s1
  y0 : W.cell? ⟨w.heap.size + 1, 0, none⟩ = some (.int .i64 fn)
  y1 : W.cell? ⟨w.heap.size + 1, 1, none⟩ = some (.int .i64 fd)
  below : Below w.heap.size w W
theorem logFrac {w W : World} {a : Nat → Addr} {da fn fd : Int} {ad1 : Option Addr} {m1 cap1 n1 : Nat} {p1 c1 : Nat → Int} (h : Errs w a) (hl1 : LogAt w (.slice ad1 m1 cap1) n1 p1 c1)
    (hb : Below ((w.alloc (.cells #[.int .i64 da, .slice ad1 m1 cap1] 24)).alloc (.cells #[.int .i64 fn, .int .i64 fd] 45)).heap.size ((w.alloc (.cells #[.int .i64 da, .slice ad1 m1 cap1] 24)).alloc (.cells #[.int .i64 fn, .int .i64 fd] 45)) W) : LogFrac w a da fn fd (.slice ad1 m1 cap1) n1 p1 c1 W := by
  have h0 := below_chain (more_below (new_below w (.cells #[.int .i64 da, .slice ad1 m1 cap1] 24)) (.cells #[.int .i64 fn, .int .i64 fd] 45)) hb
  obtain ⟨q0, q1, _, _⟩ := res_past (below_chain (new_below (w.alloc (.cells #[.int .i64 da, .slice ad1 m1 cap1] 24)) (.cells #[.int .i64 fn, .int .i64 fd] 45)) hb)
  obtain ⟨q2, q3, _, _⟩ := res_past hb
  simp only [World.size_alloc] at q2 q3
  exact ⟨h.below h0, hl1.later h0, q0, q1, q2, q3, h0⟩

set_option maxRecDepth 100000 in
set_option maxHeartbeats 4000000 in
theorem LogsScales_bad (da fn fd : Int) (ad : Option Addr) (nn cap : Nat) (p c : Nat → Int) (a : Nat → Addr) (w : World) (h : Errs w a) (hl : LogAt w (.slice ad nn cap) nn p c) (hn : nn ≤ 30) (hbad : ¬ OkLog da nn p c) :
    Calls Tryz.prog 4 #[.agg #[.int .i64 da, .slice ad nn cap], .agg #[.int .i64 fn, .int .i64 fd]] w fun e w' => e = .returned (.bool true) ∧ Below w.heap.size w w' := by
  have HK := Hid.mk' (fun (W : World) => logFrac (W := W) (da := da) (fn := fn) (fd := fd) h hl)
  have HSCA : Hid (∀ (W : World) (ad1 : Option Addr) (cap1 : Nat), Errs W a → LogAt W (.slice ad1 nn cap1) nn p c → _) := fun W ad1 cap1 h1 h2 => Scale_bad da fn fd ad1 nn cap1 p c a W h1 h2 (by omega) hbad
  have HBAD := Hid.mk' hbad
  have hE := eighth_any ((w.alloc (.cells #[.int .i64 da, .slice ad nn cap] 24)).alloc (.cells #[.int .i64 fn, .int .i64 fd] 45))
  obtain ⟨W0, hW0⟩ : ∃ W0, W0 = (w.alloc (.cells #[.int .i64 da, .slice ad nn cap] 24)).alloc (.cells #[.int .i64 fn, .int .i64 fd] 45) := ⟨_, rfl⟩
  rw [← hW0] at hE HK
  have HW0 := Hid.mk' hW0
  clear h hl hW0 hbad
  go_enter Tryz.func4, Tryz.ntmps4
  go_wp2_with fail
  rw [← HW0.out]
  refine hE.mono ?_
  clear hE
  rintro e w1 ⟨rfl, hb1⟩
  have k1 := HK.out w1 hb1
  have x0 := k1.x0
  have x1 := k1.x1
  have hsh := short_any da ad nn cap true (by simpa using hn) (by unfold maxLen; omega) w1
  have HB1 := Hid.mk' hb1
  clear hb1 k1
  go_wp2_with fail
  refine hsh.mono ?_
  clear hsh x0 x1
  rintro e w3 ⟨rfl, hb3⟩
  have HB3 := Hid.mk' (below_chain HB1.out hb3)
  have k3 := HK.out w3 HB3.out
  have x0 := k3.x0
  have x1 := k3.x1
  have hle := LogError_at da (.slice ad nn cap) nn false _ _ ⟨(fun e => by cases e), (fun e => absurd e HBAD.out)⟩ w3 k3.log hn
  simp only [shapeCode] at hle
  clear hb3 k3
  go_wp2_with fail
  refine hle.mono ?_
  clear hle x0 x1
  rintro e w5 ⟨rfl, hb5⟩
  have HB5 := Hid.mk' (below_chain HB3.out hb5)
  clear hb5 HB1 HB3
  go_upto_region 11 with fail
  have HNB0 : Hid (∀ W, Below (w5.alloc (.cells #[.int .i64 0, .slice none 0 0] 24)).heap.size (w5.alloc (.cells #[.int .i64 0, .slice none 0 0] 24)) W → NewBoxL W0 W w5.heap.size) := fun W hb => newBoxL_of HB5.out hb
  have HBM : Hid (Below W0.heap.size W0 (w5.alloc (.cells #[.int .i64 0, .slice none 0 0] 24))) := more_below HB5.out _
  obtain ⟨Wm, hWm⟩ : ∃ Wm, Wm = w5.alloc (.cells #[.int .i64 0, .slice none 0 0] 24) := ⟨_, rfl⟩
  rw [← hWm] at HNB0 HBM ⊢
  clear hWm
  have hcur0 : Below Wm.heap.size Wm Wm := Below.refl _ _
  have hcur : Below Wm.heap.size Wm Wm.drew := (Below.refl _ _).drew
  have hcurA : ∀ X, Below Wm.heap.size Wm (Wm.alloc X).drew := fun X => (new_below _ _).drew
  have HKS : Hid (∀ W, Below W0.heap.size W0 W → (W.cell? ⟨w.heap.size, 0, none⟩ = some (.int .i64 da) ∧ W.cell? ⟨w.heap.size, 1, none⟩ = some (.slice ad nn cap)) ∧ (W.cell? ⟨w.heap.size + 1, 0, none⟩ = some (.int .i64 fn) ∧ W.cell? ⟨w.heap.size + 1, 1, none⟩ = some (.int .i64 fd))) := fun W hb => by
    have k := HK.out W hb
    exact ⟨⟨k.x0, k.x1⟩, k.y0, k.y1⟩
  go_cut [9, 10] from 57 (fun s r wx => ∃ (Bs : Nat), s = .pointer (some ⟨Bs, 0, none⟩) ∧ r = .iface 232 (.pointer (some (a 2))) ∧ Hid (ZeroBox Wm wx Bs))
  case first =>
    go_region_held3 (fun W => (W.cell? ⟨w.heap.size, 0, none⟩ = some (.int .i64 da) ∧ W.cell? ⟨w.heap.size, 1, none⟩ = some (.slice ad nn cap)) ∧ (W.cell? ⟨w.heap.size + 1, 0, none⟩ = some (.int .i64 fn) ∧ W.cell? ⟨w.heap.size + 1, 1, none⟩ = some (.int .i64 fd)))
      (first | exact HKS.out _ (below_chain HBM.out hcur0) | exact HKS.out _ (below_chain HBM.out hcur) | exact HKS.out _ (below_chain HBM.out (hcurA _)) | exact HKS.out _ (below_chain HBM.out hbw8) | exact HKS.out _ (below_chain HBM.out hbw9) | exact HKS.out _ (below_chain HBM.out (more_below hbw8 _)) | exact HKS.out _ (below_chain HBM.out (more_below hbw9 _)) | exact HKS.out _ (below_chain HBM.out (setB_below hbw9 NB.hB _ _)))
      (first
        | (go_at_call 15; have hz8 := hbw8; clear hz8; refine (HSCA.out _ _ _ ?_ ?_).mono ?_; (first | exact (HK.out _ (below_chain HBM.out hbw8)).errs | exact (HK.out _ (below_chain HBM.out (more_below hbw8 _))).errs); (first | exact HL8.out | exact HL8.out.later (new_below _ _)); rintro e w9 ⟨rfl, hb9⟩; (first | (have hbw9 := below_chain hbw8 hb9; try have NB := NB.later hb9) | (have hbw9 := below_chain (more_below hbw8 _) hb9; have NB := newBoxL_of hbw8 hb9)); (try (have z0 := NB.c0; have z1 := NB.c1; have z2 := NB.f0; have z3 := NB.f1)); clear hb9)
        | (go_at_call 12; refine (own_at da _ nn p c _ ?_ hn).mono ?_; (first | exact (HK.out _ (below_chain HBM.out hcur)).log | exact (HK.out _ (below_chain HBM.out (hcurA _))).log); rintro e w8 ⟨sv8, rfl, hs8, hb8⟩; (first | have hbw8 := below_chain hcur hb8 | (have hbw8 := below_chain (hcurA _) hb8; have NB := newBoxL_of hcur0 (below_chain ((Below.refl _ _).drew) hb8))); obtain ⟨ad8, cap8, rfl, hl8⟩ := own_logAt hs8; have HL8 := Hid.mk' hl8; clear hs8 hb8 hl8))
    all_goals
      go_wp2_with fail
      go_meet
      first | exact ⟨_, rfl, rfl, zeroBox_late hbw9⟩ | exact ⟨_, rfl, rfl, zeroBox_soon hbw9 NB⟩ | exact ⟨_, rfl, rfl, zeroBox_same hbw9 NB⟩
  case rest =>
  obtain ⟨Bs, rfl, rfl, HZB⟩ := hcut
  have s0 := HZB.out.c0
  have s1 := HZB.out.c1
  have nb := HNB0.out wc HZB.out.below
  have r0 := nb.c0
  have r1 := nb.c1
  have hbc := below_chain HBM.out HZB.out.below
  have his : Calls Tryz.prog 13 #[.agg #[.int .i64 0, .slice none 0 0], .iface 232 (.pointer (some (a 2))), .agg #[.int .i64 0, .slice none 0 0], .int .i64 3] _ _ := isLog_err a 2 (by decide) 0 none 0 0 wc (HK.out _ hbc).errs
  have HBC := Hid.mk' hbc
  clear hbc nb
  go_wp2_with fail
  refine his.mono ?_
  clear his
  rintro e w12 ⟨rfl, hb12⟩
  go_wp2_with fail
  go_ret
  exact ⟨rfl, (HK.out _ (below_chain HBC.out hb12)).below⟩

set_option maxRecDepth 100000 in
set_option maxHeartbeats 4000000 in
theorem LogsScales_far (da fn fd : Int) (ad : Option Addr) (nn cap : Nat) (p c : Nat → Int) (a : Nat → Addr) (w : World) (h : Errs w a) (hl : LogAt w (.slice ad nn cap) nn p c) (hn : nn ≤ 30) (hok : OkLog da nn p c) (hfar : fd < 1 ∨ 1073741824 < fd ∨ fn < -1073741824 ∨ 1073741824 < fn) :
    Calls Tryz.prog 4 #[.agg #[.int .i64 da, .slice ad nn cap], .agg #[.int .i64 fn, .int .i64 fd]] w fun e w' => e = .returned (.bool true) ∧ Below w.heap.size w w' := by
  have HK := Hid.mk' (fun (W : World) => logFrac (W := W) (da := da) (fn := fn) (fd := fd) h hl)
  have HSCA : Hid (∀ (W : World) (ad1 : Option Addr) (cap1 : Nat), Errs W a → LogAt W (.slice ad1 nn cap1) nn p c → _) := fun W ad1 cap1 h1 h2 => Scale_far da fn fd ad1 nn cap1 p c a W h1 h2 (by omega) hok hfar
  have HOK := Hid.mk' hok
  have HFAR := Hid.mk' hfar
  have hE := eighth_any ((w.alloc (.cells #[.int .i64 da, .slice ad nn cap] 24)).alloc (.cells #[.int .i64 fn, .int .i64 fd] 45))
  obtain ⟨W0, hW0⟩ : ∃ W0, W0 = (w.alloc (.cells #[.int .i64 da, .slice ad nn cap] 24)).alloc (.cells #[.int .i64 fn, .int .i64 fd] 45) := ⟨_, rfl⟩
  rw [← hW0] at hE HK
  have HW0 := Hid.mk' hW0
  clear h hl hW0 hok hfar
  go_enter Tryz.func4, Tryz.ntmps4
  go_wp2_with fail
  rw [← HW0.out]
  refine hE.mono ?_
  clear hE
  rintro e w1 ⟨rfl, hb1⟩
  have k1 := HK.out w1 hb1
  have x0 := k1.x0
  have x1 := k1.x1
  have hsh := short_any da ad nn cap true (by simpa using hn) (by unfold maxLen; omega) w1
  have HB1 := Hid.mk' hb1
  clear hb1 k1
  go_wp2_with fail
  refine hsh.mono ?_
  clear hsh x0 x1
  rintro e w3 ⟨rfl, hb3⟩
  have HB3 := Hid.mk' (below_chain HB1.out hb3)
  have k3 := HK.out w3 HB3.out
  have x0 := k3.x0
  have x1 := k3.x1
  have hle := LogError_at da (.slice ad nn cap) nn true _ _ ⟨fun _ => HOK.out, fun _ => rfl⟩ w3 k3.log hn
  simp only [shapeCode] at hle
  clear hb3 k3
  go_wp2_with fail
  refine hle.mono ?_
  clear hle x0 x1
  rintro e w5 ⟨rfl, hb5⟩
  have HB5 := Hid.mk' (below_chain HB3.out hb5)
  clear hb5 HB1 HB3
  go_upto_region 6 with fail
  go_cut [44] from 23 (fun s wx => s = .bool true ∧ wx = w5)
  case first =>
    have k5 := HK.out w5 HB5.out
    have y0 := k5.y0
    have y1 := k5.y1
    have hfar := HFAR.out
    clear k5
    by_cases g1 : fd < 1
    · clear hfar
      go_wp2_with fail
      go_meet
      exact ⟨rfl, rfl⟩
    · by_cases g2 : 1073741824 < fd
      · clear hfar
        go_wp2_with fail
        go_meet
        exact ⟨rfl, rfl⟩
      · by_cases g3 : 1073741824 < fn
        · clear hfar
          go_wp2_with fail
          go_meet
          exact ⟨rfl, rfl⟩
        · have g4 : fn < -1073741824 := by omega
          clear hfar
          go_wp2_with fail
          go_meet
          exact ⟨by simp, rfl⟩
  case rest =>
  obtain ⟨rfl, hwc⟩ := hcut
  rw [hwc]
  clear hwc
  go_upto_region 11 with fail
  have HNB0 : Hid (∀ W, Below (w5.alloc (.cells #[.int .i64 0, .slice none 0 0] 24)).heap.size (w5.alloc (.cells #[.int .i64 0, .slice none 0 0] 24)) W → NewBoxL W0 W w5.heap.size) := fun W hb => newBoxL_of HB5.out hb
  have HBM : Hid (Below W0.heap.size W0 (w5.alloc (.cells #[.int .i64 0, .slice none 0 0] 24))) := more_below HB5.out _
  obtain ⟨Wm, hWm⟩ : ∃ Wm, Wm = w5.alloc (.cells #[.int .i64 0, .slice none 0 0] 24) := ⟨_, rfl⟩
  rw [← hWm] at HNB0 HBM ⊢
  clear hWm
  have hcur0 : Below Wm.heap.size Wm Wm := Below.refl _ _
  have hcur : Below Wm.heap.size Wm Wm.drew := (Below.refl _ _).drew
  have hcurA : ∀ X, Below Wm.heap.size Wm (Wm.alloc X).drew := fun X => (new_below _ _).drew
  have HKS : Hid (∀ W, Below W0.heap.size W0 W → (W.cell? ⟨w.heap.size, 0, none⟩ = some (.int .i64 da) ∧ W.cell? ⟨w.heap.size, 1, none⟩ = some (.slice ad nn cap)) ∧ (W.cell? ⟨w.heap.size + 1, 0, none⟩ = some (.int .i64 fn) ∧ W.cell? ⟨w.heap.size + 1, 1, none⟩ = some (.int .i64 fd))) := fun W hb => by
    have k := HK.out W hb
    exact ⟨⟨k.x0, k.x1⟩, k.y0, k.y1⟩
  go_cut [9, 10] from 57 (fun s r wx => ∃ (Bs : Nat), s = .pointer (some ⟨Bs, 0, none⟩) ∧ r = .iface 232 (.pointer (some (a 2))) ∧ Hid (ZeroBox Wm wx Bs))
  case first =>
    go_region_held3 (fun W => (W.cell? ⟨w.heap.size, 0, none⟩ = some (.int .i64 da) ∧ W.cell? ⟨w.heap.size, 1, none⟩ = some (.slice ad nn cap)) ∧ (W.cell? ⟨w.heap.size + 1, 0, none⟩ = some (.int .i64 fn) ∧ W.cell? ⟨w.heap.size + 1, 1, none⟩ = some (.int .i64 fd)))
      (first | exact HKS.out _ (below_chain HBM.out hcur0) | exact HKS.out _ (below_chain HBM.out hcur) | exact HKS.out _ (below_chain HBM.out (hcurA _)) | exact HKS.out _ (below_chain HBM.out hbw8) | exact HKS.out _ (below_chain HBM.out hbw9) | exact HKS.out _ (below_chain HBM.out (more_below hbw8 _)) | exact HKS.out _ (below_chain HBM.out (more_below hbw9 _)) | exact HKS.out _ (below_chain HBM.out (setB_below hbw9 NB.hB _ _)))
      (first
        | (go_at_call 15; have hz8 := hbw8; clear hz8; refine (HSCA.out _ _ _ ?_ ?_).mono ?_; (first | exact (HK.out _ (below_chain HBM.out hbw8)).errs | exact (HK.out _ (below_chain HBM.out (more_below hbw8 _))).errs); (first | exact HL8.out | exact HL8.out.later (new_below _ _)); rintro e w9 ⟨rfl, hb9⟩; (first | (have hbw9 := below_chain hbw8 hb9; try have NB := NB.later hb9) | (have hbw9 := below_chain (more_below hbw8 _) hb9; have NB := newBoxL_of hbw8 hb9)); (try (have z0 := NB.c0; have z1 := NB.c1; have z2 := NB.f0; have z3 := NB.f1)); clear hb9)
        | (go_at_call 12; refine (own_at da _ nn p c _ ?_ hn).mono ?_; (first | exact (HK.out _ (below_chain HBM.out hcur)).log | exact (HK.out _ (below_chain HBM.out (hcurA _))).log); rintro e w8 ⟨sv8, rfl, hs8, hb8⟩; (first | have hbw8 := below_chain hcur hb8 | (have hbw8 := below_chain (hcurA _) hb8; have NB := newBoxL_of hcur0 (below_chain ((Below.refl _ _).drew) hb8))); obtain ⟨ad8, cap8, rfl, hl8⟩ := own_logAt hs8; have HL8 := Hid.mk' hl8; clear hs8 hb8 hl8))
    all_goals
      go_wp2_with fail
      go_meet
      first | exact ⟨_, rfl, rfl, zeroBox_late hbw9⟩ | exact ⟨_, rfl, rfl, zeroBox_soon hbw9 NB⟩ | exact ⟨_, rfl, rfl, zeroBox_same hbw9 NB⟩
  case rest =>
  obtain ⟨Bs, rfl, rfl, HZB⟩ := hcut
  have s0 := HZB.out.c0
  have s1 := HZB.out.c1
  have nb := HNB0.out wc HZB.out.below
  have r0 := nb.c0
  have r1 := nb.c1
  have hbc := below_chain HBM.out HZB.out.below
  have his : Calls Tryz.prog 13 #[.agg #[.int .i64 0, .slice none 0 0], .iface 232 (.pointer (some (a 2))), .agg #[.int .i64 0, .slice none 0 0], .int .i64 3] _ _ := isLog_err a 2 (by decide) 0 none 0 0 wc (HK.out _ hbc).errs
  have HBC := Hid.mk' hbc
  clear hbc nb
  go_wp2_with fail
  refine his.mono ?_
  clear his
  rintro e w12 ⟨rfl, hb12⟩
  go_wp2_with fail
  go_ret
  exact ⟨rfl, (HK.out _ (below_chain HBC.out hb12)).below⟩
end Go.Proofs.YtkcpmfilencekabGreatDoor

/- The law LogsScales where all is in form. -/
namespace Go.Proofs.YtkcpmfilencekabGreatDoor
open Go.RowKit

/-- The document's answer of a logarithm in form, so often. -/
theorem LogSum_scale (da q : Nat) (n : Int) (xv yv : Value) (ad : Option Addr) (cap : Nat) (t : List (Int × Int)) (w : World) (hl : LogAt w (.slice ad t.length cap) t.length (pOf t) (cOf t)) (hx : RatioAt w xv n q) (hy : RatioAt w yv 1 1)
    (hok : OkLog da t.length (pOf t) (cOf t)) (hn : t.length ≤ 30) (hq0 : 0 < q) (hq1 : q ≤ 1073741824) (hn1 : n.natAbs ≤ 1073741824) :
    Calls Tryz.prog 9 #[.agg #[.int .i64 da, .slice ad t.length cap], xv, .agg #[.int .i64 1, .slice none 0 0], yv] w fun e w' => ∃ (l : List (Int × Int)) (dn : Int) (ad : Option Addr) (len cap : Nat) (code : Int), e = .returned (.tuple #[.agg #[.int .i64 dn, .slice ad len cap], .int .i64 code]) ∧ Rising l ∧ (∀ x, atL l x = n * atL t x) ∧ ToldOf (da * q) l w' dn (.slice ad len cap) code ∧ Below w.heap.size w w' := by
  have hda := hok.1
  have hda6 := hok.2.1
  have hM0 : 0 < da * q := Nat.mul_pos (by omega) hq0
  have hMb : da * q ≤ 1000000 * 1073741824 := Nat.mul_le_mul (by omega) hq1
  have p4 : (1000000 : Nat) ^ 4 = 1000000000000000000000000 := by decide
  have pc := okLog_pc hok
  have f1 : (n * ((1 : Nat) : Int)).natAbs ≤ 1073741824 := by simpa using hn1
  have s1 : ∀ x k, k ≤ t.length → (n * ((1 : Nat) : Int) * sumAt (pOf t) (cOf t) x k).natAbs ≤ 1073741824 * (30 * 1099511627776) := fun x k hk => mul_bound f1 (Nat.le_trans (sumAt_le pc x k hk) (Nat.mul_le_mul_right _ (by omega)))
  have hz : ∀ x, sumAt (fun _ => 0) (fun _ => 0) x 0 = 0 := fun x => rfl
  have key := LogSum_any (da * q) da 1 q 1 1 (da * q) n 1 xv yv ad none t.length 0 cap 0 (pOf t) (cOf t) (fun _ => 0) (fun _ => 0) 4 w hl (Or.inl ⟨none, 0, rfl, rfl⟩) hx hy (by rw [Nat.mul_one]) (by rw [Nat.one_mul]) hM0 hn (by decide) pc (fun i hi => absurd hi (by omega)) (by omega) (by decide) (by rw [p4]; omega) (by rw [p4]; decide)
    (fun i hi => by rw [p4]; exact Nat.lt_of_le_of_lt (mul_bound f1 (b := 1099511627776) (by have := pc i hi; omega)) (by decide)) (fun i hi => absurd hi (by omega))
    (fun x k hk => by rw [p4]; exact Nat.lt_of_le_of_lt (s1 x k hk) (by decide)) (fun x k hk => by
      obtain rfl : k = 0 := by omega
      rw [hz, Int.mul_zero, Int.add_zero, p4]
      exact Nat.lt_of_le_of_lt (s1 x t.length (Nat.le_refl _)) (by decide)) (by rw [p4]; omega) (by decide) (by decide)
  have key' : Calls Tryz.prog 9 #[.agg #[.int .i64 da, .slice ad t.length cap], xv, .agg #[.int .i64 1, .slice none 0 0], yv] w _ := key
  refine key'.mono ?_
  rintro e w' ⟨l, dn, ad, len, cap, code, rfl, hr, hv, _, ht, hb⟩
  have r1 : Rising t := (show OkLog (da : Int) t.length (pOf t) (cOf t) from hok).rising
  refine ⟨l, dn, ad, len, cap, code, rfl, hr, fun x => ?_, ht, hb⟩
  rw [hv, hz, sumAt_all r1, Int.mul_zero, Int.add_zero]
  simp

set_option maxRecDepth 100000 in
set_option maxHeartbeats 4000000 in
theorem LogsScales_ok (da fd : Nat) (fn : Int) (ad : Option Addr) (cap : Nat) (t : List (Int × Int)) (a : Nat → Addr) (w : World) (h : Errs w a) (hl0 : LogAt w (.slice ad t.length cap) t.length (pOf t) (cOf t)) (hok0 : OkLog da t.length (pOf t) (cOf t)) (hn0 : t.length ≤ 30) (h1 : -1073741824 ≤ fn) (h2 : fn ≤ 1073741824) (hd0 : 1 ≤ fd) (hd1 : fd ≤ 1073741824) :
    Calls Tryz.prog 4 #[.agg #[.int .i64 da, .slice ad t.length cap], .agg #[.int .i64 fn, .int .i64 fd]] w fun e w' => e = .returned (.bool true) ∧ Below w.heap.size w w' := by
  obtain ⟨g, hg⟩ : ∃ g, g = Nat.gcd fn.natAbs fd := ⟨_, rfl⟩
  obtain ⟨hg1, hg2, hg3, hg4, hg5, hg6⟩ := low_parts (n := fn) hd0
  rw [← hg] at hg1 hg2 hg3 hg4 hg5 hg6
  have HSUM : Hid (∀ (W : World) (xv yv : Value), LogAt W (.slice ad t.length cap) t.length (pOf t) (cOf t) → RatioAt W xv (fn.tdiv (g : Int)) (fd / g) → RatioAt W yv 1 1 → _) := fun W xv yv h1' h2' h3' => LogSum_scale da (fd / g) (fn.tdiv (g : Int)) xv yv ad cap t W h1' h2' h3' hok0 hn0 hg6 (Nat.le_trans (Nat.div_le_self _ _) hd1) (by rw [hg5]; exact Nat.le_trans (Nat.div_le_self _ _) (by omega))
  have HOFR : Hid (∀ W, Calls Tryz.prog 14 #[.agg #[.int .i64 fn, .int .i64 fd]] W fun e w' => ∃ r, e = .returned r ∧ RatioAt w' r (fn.tdiv (g : Int)) (fd / g) ∧ Below W.heap.size W w') := fun W => by
    have := OfFrac_any fn fd W (by omega) (by omega) hd0 (by omega)
    rw [← hg] at this
    exact this
  have HSCA : Hid (∀ (W : World) (ad1 : Option Addr) (cap1 : Nat), Errs W a → LogAt W (.slice ad1 t.length cap1) t.length (pOf t) (cOf t) → _) := fun W ad1 cap1 h1' h2' => Scale_said da fd fn ad1 cap1 t a W h1' h2' hok0 (by omega) h1 h2 hd0 hd1 g hg
  have HRT := Hid.mk' (show OkLog (da : Int) t.length (pOf t) (cOf t) from hok0).rising
  have HLT : Hid ((scaleL (fn.tdiv (g : Int)) t).length ≤ 30) := by show _ ≤ _; unfold scaleL; rw [List.length_map]; exact hn0
  generalize hpp : pOf t = p at *
  generalize hcc : cOf t = c at *
  have hl := hl0
  have hok := hok0
  have hn := hn0
  generalize t.length = nn at hl hok hn HSUM HSCA ⊢
  generalize fn.tdiv (g : Int) = n at *
  generalize fd / g = q at *
  have HOK := Hid.mk' hok
  have HK := Hid.mk' (fun (W : World) => logFrac (W := W) (da := (da : Int)) (fn := fn) (fd := (fd : Int)) h hl)
  clear hl0 hok0 hn0 hg hg1 hg2 hg3 hg4 hg5 hg6 hpp hcc
  have hE := eighth_any ((w.alloc (.cells #[.int .i64 da, .slice ad nn cap] 24)).alloc (.cells #[.int .i64 fn, .int .i64 fd] 45))
  obtain ⟨W0, hW0⟩ : ∃ W0, W0 = (w.alloc (.cells #[.int .i64 da, .slice ad nn cap] 24)).alloc (.cells #[.int .i64 fn, .int .i64 fd] 45) := ⟨_, rfl⟩
  rw [← hW0] at hE HK
  have HW0 := Hid.mk' hW0
  clear h hl hW0 hok
  go_enter Tryz.func4, Tryz.ntmps4
  go_wp2_with fail
  rw [← HW0.out]
  refine hE.mono ?_
  clear hE
  rintro e w1 ⟨rfl, hb1⟩
  have k1 := HK.out w1 hb1
  have x0 := k1.x0
  have x1 := k1.x1
  have hsh := short_any da ad nn cap true (by simpa using hn) (by unfold maxLen; omega) w1
  have HB1 := Hid.mk' hb1
  clear hb1 k1
  go_wp2_with fail
  refine hsh.mono ?_
  clear hsh x0 x1
  rintro e w3 ⟨rfl, hb3⟩
  have HB3 := Hid.mk' (below_chain HB1.out hb3)
  have k3 := HK.out w3 HB3.out
  have x0 := k3.x0
  have x1 := k3.x1
  have hle := LogError_at da (.slice ad nn cap) nn true _ _ ⟨fun _ => HOK.out, fun _ => rfl⟩ w3 k3.log hn
  simp only [shapeCode] at hle
  clear hb3 k3
  go_wp2_with fail
  refine hle.mono ?_
  clear hle x0 x1
  rintro e w5 ⟨rfl, hb5⟩
  have HB5 := Hid.mk' (below_chain HB3.out hb5)
  clear hb5 HB1 HB3
  go_upto_region 6 with fail
  go_cut [44] from 23 (fun s wx => s = .bool false ∧ wx = w5)
  case first =>
    have k5 := HK.out w5 HB5.out
    have y0 := k5.y0
    have y1 := k5.y1
    have g1 : ¬ (fd : Int) < 1 := by omega
    have g2 : ¬ 1073741824 < (fd : Int) := by omega
    have g3 : ¬ 1073741824 < fn := by omega
    have g4 : ¬ fn < -1073741824 := by omega
    clear k5
    go_wp2_with fail
    go_meet
    exact ⟨by simp, rfl⟩
  case rest =>
  obtain ⟨rfl, hwc⟩ := hcut
  rw [hwc]
  clear hwc
  go_upto_region 10 with fail
  have HNB0 : Hid (∀ W, Below (w5.alloc (.cells #[.int .i64 0, .slice none 0 0] 24)).heap.size (w5.alloc (.cells #[.int .i64 0, .slice none 0 0] 24)) W → NewBoxL W0 W w5.heap.size) := fun W hb => newBoxL_of HB5.out hb
  have HB6 : Hid (Below W0.heap.size W0 (w5.alloc (.cells #[.int .i64 0, .slice none 0 0] 24))) := more_below HB5.out _
  obtain ⟨W6, hW6⟩ : ∃ W6, W6 = w5.alloc (.cells #[.int .i64 0, .slice none 0 0] 24) := ⟨_, rfl⟩
  rw [← hW6] at HNB0 HB6 ⊢
  clear hW6
  have hcur0 : Below W6.heap.size W6 W6 := Below.refl _ _
  have hcur : Below W6.heap.size W6 W6.drew := (Below.refl _ _).drew
  have HKS : Hid (∀ W, Below W0.heap.size W0 W → (W.cell? ⟨w.heap.size, 0, none⟩ = some (.int .i64 da) ∧ W.cell? ⟨w.heap.size, 1, none⟩ = some (.slice ad nn cap)) ∧ (W.cell? ⟨w.heap.size + 1, 0, none⟩ = some (.int .i64 fn) ∧ W.cell? ⟨w.heap.size + 1, 1, none⟩ = some (.int .i64 fd))) := fun W hb => by
    have k := HK.out W hb
    exact ⟨⟨k.x0, k.x1⟩, k.y0, k.y1⟩
  go_cut [7] from 48 (fun s wx => ∃ (l : List (Int × Int)) (code : Int), s = .int .i64 code ∧ Hid (Rising l ∧ ∀ x, atL l x = n * atL t x) ∧ Hid (ToldBox W0 wx w5.heap.size (da * q) l code))
  case first =>
    go_region_held3 (fun W => (W.cell? ⟨w.heap.size, 0, none⟩ = some (.int .i64 da) ∧ W.cell? ⟨w.heap.size, 1, none⟩ = some (.slice ad nn cap)) ∧ (W.cell? ⟨w.heap.size + 1, 0, none⟩ = some (.int .i64 fn) ∧ W.cell? ⟨w.heap.size + 1, 1, none⟩ = some (.int .i64 fd)))
      (first | exact HKS.out _ (below_chain HB6.out hcur0) | exact HKS.out _ (below_chain HB6.out hcur) | exact HKS.out _ (below_chain HB6.out hbw7) | exact HKS.out _ (below_chain HB6.out hbw8) | exact HKS.out _ (below_chain HB6.out hbw9) | exact HKS.out _ (setB_below (below_chain HB6.out hbw9) HB5.out.size _ _))
      (first
        | (go_at_call 9; have hz8 := hbw8; clear hz8; refine (HSUM.out _ _ _ (HK.out _ (below_chain HB6.out hbw8)).log (HR7.out.later hb78) HR8.out).mono ?_; rintro e w9 ⟨l, dn, ad', len, cap', code, rfl, hr, hv, ht, hb9⟩; have hbw9 := below_chain hbw8 hb9; have nb := HNB0.out _ hbw9; have z0 := nb.c0; have z1 := nb.c1; have z2 := nb.f0; have z3 := nb.f1; have HT := Hid.mk' ht; have HRV := Hid.mk' (And.intro hr hv); clear hr hv ht hb9)
        | (go_at_call 10; refine (one_one w7).mono ?_; rintro e w8 ⟨r8, rfl, hr8, hb8⟩; have hbw8 := below_chain hbw7 hb8; have hb78 := hb8; have HR8 := Hid.mk' hr8; clear hr8 hb8)
        | (go_at_call 14; refine (HOFR.out _).mono ?_; rintro e w7 ⟨r7, rfl, hr7, hb7⟩; have hbw7 := below_chain hcur hb7; have HR7 := Hid.mk' hr7; clear hr7 hb7))
    all_goals
      go_wp2_with fail
      go_meet
      exact ⟨_, _, rfl, HRV, toldBox_soon (below_chain HB6.out hbw9) HT.out nb⟩
  case rest =>
  obtain ⟨l, code, rfl, HRV, HTB⟩ := hcut
  obtain ⟨Wm, hWm⟩ : ∃ Wm, Wm = wc := ⟨_, rfl⟩
  rw [← hWm] at HTB ⊢
  clear hWm hcur hcur0 HB6 HNB0 HSUM HOFR
  have hcur0 : Below Wm.heap.size Wm Wm := Below.refl _ _
  have hcur : Below Wm.heap.size Wm Wm.drew := (Below.refl _ _).drew
  have hcurA : ∀ X, Below Wm.heap.size Wm (Wm.alloc X).drew := fun X => (new_below _ _).drew
  have HBM := Hid.mk' HTB.out.below
  go_upto_region 11 with fail
  go_cut [9, 10] from 57 (fun s r wx => ∃ (Bs : Nat) (er : Value), s = .pointer (some ⟨Bs, 0, none⟩) ∧ r = er ∧ Hid (SaidBox Wm wx Bs (da * q) (scaleL n t) a er))
  case first =>
    go_region_held3 (fun W => (W.cell? ⟨w.heap.size, 0, none⟩ = some (.int .i64 da) ∧ W.cell? ⟨w.heap.size, 1, none⟩ = some (.slice ad nn cap)) ∧ (W.cell? ⟨w.heap.size + 1, 0, none⟩ = some (.int .i64 fn) ∧ W.cell? ⟨w.heap.size + 1, 1, none⟩ = some (.int .i64 fd)))
      (first | exact HKS.out _ (below_chain HBM.out hcur0) | exact HKS.out _ (below_chain HBM.out hcur) | exact HKS.out _ (below_chain HBM.out (hcurA _)) | exact HKS.out _ (below_chain HBM.out hbw8) | exact HKS.out _ (below_chain HBM.out hbw9) | exact HKS.out _ (below_chain HBM.out (more_below hbw8 _)) | exact HKS.out _ (below_chain HBM.out (more_below hbw9 _)) | exact HKS.out _ (below_chain HBM.out (setB_below hbw9 NB.hB _ _)))
      (first
        | (go_at_call 15; have hz8 := hbw8; clear hz8; refine (HSCA.out _ _ _ ?_ ?_).mono ?_; (first | exact (HK.out _ (below_chain HBM.out hbw8)).errs | exact (HK.out _ (below_chain HBM.out (more_below hbw8 _))).errs); (first | exact HL8.out | exact HL8.out.later (new_below _ _)); rintro e w9 ⟨dn, ad', len, cap', er, rfl, ht, hb9⟩; (first | (have hbw9 := below_chain hbw8 hb9; try have NB := NB.later hb9) | (have hbw9 := below_chain (more_below hbw8 _) hb9; have NB := newBoxL_of hbw8 hb9)); (try (have z0 := NB.c0; have z1 := NB.c1; have z2 := NB.f0; have z3 := NB.f1)); have HT := Hid.mk' ht; clear ht hb9)
        | (go_at_call 12; refine (own_at da _ nn p c _ ?_ hn).mono ?_; (first | exact (HK.out _ (below_chain HBM.out hcur)).log | exact (HK.out _ (below_chain HBM.out (hcurA _))).log); rintro e w8 ⟨sv8, rfl, hs8, hb8⟩; (first | have hbw8 := below_chain hcur hb8 | (have hbw8 := below_chain (hcurA _) hb8; have NB := newBoxL_of hcur0 (below_chain ((Below.refl _ _).drew) hb8))); obtain ⟨ad8, cap8, rfl, hl8⟩ := own_logAt hs8; have HL8 := Hid.mk' hl8; clear hs8 hb8 hl8))
    all_goals
      go_wp2_with fail
      go_meet
      first | exact ⟨_, _, rfl, rfl, saidBox_late hbw9 HT.out⟩ | exact ⟨_, _, rfl, rfl, saidBox_soon hbw9 HT.out NB⟩
  case rest =>
  obtain ⟨Bs, er, rfl, rfl, HSB⟩ := hcut
  obtain ⟨dn1, ad7, len7, cap7, s0, s1, hsd⟩ := HSB.out.box
  obtain ⟨dn2, ad8, len8, cap8, r0, r1, htd⟩ := HTB.out.box
  have r0' := (cell_past r0 HSB.out.below).2
  have r1' := (cell_past r1 HSB.out.below).2
  have htd' := (htd.later HSB.out.below).same HRV.out.1 (scale_rise HRT.out n) (fun x => by rw [HRV.out.2, scale_at])
  have hbc := below_chain HBM.out HSB.out.below
  have his := isLog_said (da * q) (scaleL n t) a wc (HK.out _ hbc).errs (by have := HLT.out; omega) dn1 dn2 code ad7 ad8 len7 len8 cap7 cap8 _ hsd htd'
  have HBC := Hid.mk' hbc
  clear r0 r1 hsd htd htd' hbc
  go_wp2_with fail
  refine his.mono ?_
  clear his
  rintro e w12 ⟨rfl, hb12⟩
  go_wp2_with fail
  go_ret
  exact ⟨rfl, (HK.out _ (below_chain HBC.out hb12)).below⟩

set_option maxRecDepth 100000 in
set_option maxHeartbeats 1000000 in
theorem LogsScales_long (da fn fd : Int) (ad : Option Addr) (nn cap : Nat) (w : World) (hm : nn ≤ maxLen) (hn : ¬ nn ≤ 30) :
    Calls Tryz.prog 4 #[.agg #[.int .i64 da, .slice ad nn cap], .agg #[.int .i64 fn, .int .i64 fd]] w fun e w' => e = .returned (.bool true) ∧ Below w.heap.size w w' := by
  have hb0 : Below w.heap.size w ((w.alloc (.cells #[.int .i64 da, .slice ad nn cap] 24)).alloc (.cells #[.int .i64 fn, .int .i64 fd] 45)) := more_below (new_below _ _) _
  have HC : Hid (∀ W, Below ((w.alloc (.cells #[.int .i64 da, .slice ad nn cap] 24)).alloc (.cells #[.int .i64 fn, .int .i64 fd] 45)).heap.size ((w.alloc (.cells #[.int .i64 da, .slice ad nn cap] 24)).alloc (.cells #[.int .i64 fn, .int .i64 fd] 45)) W → W.cell? ⟨w.heap.size, 0, none⟩ = some (.int .i64 da) ∧ W.cell? ⟨w.heap.size, 1, none⟩ = some (.slice ad nn cap)) := fun W hb => by
    obtain ⟨q0, q1, _, _⟩ := res_past (below_chain (new_below (w.alloc (.cells #[.int .i64 da, .slice ad nn cap] 24)) (.cells #[.int .i64 fn, .int .i64 fd] 45)) hb)
    exact ⟨q0, q1⟩
  have hE := eighth_any ((w.alloc (.cells #[.int .i64 da, .slice ad nn cap] 24)).alloc (.cells #[.int .i64 fn, .int .i64 fd] 45))
  obtain ⟨W0, hW0⟩ : ∃ W0, W0 = (w.alloc (.cells #[.int .i64 da, .slice ad nn cap] 24)).alloc (.cells #[.int .i64 fn, .int .i64 fd] 45) := ⟨_, rfl⟩
  rw [← hW0] at hE HC hb0
  have HW0 := Hid.mk' hW0
  have HB0 := Hid.mk' hb0
  clear hW0 hb0
  go_enter Tryz.func4, Tryz.ntmps4
  go_wp2_with fail
  rw [← HW0.out]
  refine hE.mono ?_
  clear hE
  rintro e w1 ⟨rfl, hb1⟩
  obtain ⟨x0, x1⟩ := HC.out w1 hb1
  have hsh := short_any da ad nn cap false (by simpa using hn) hm w1
  have HB1 := Hid.mk' hb1
  clear hb1
  go_wp2_with fail
  refine hsh.mono ?_
  clear hsh x0 x1
  rintro e w2 ⟨rfl, hb2⟩
  go_wp2_with fail
  go_ret
  exact ⟨rfl, below_chain HB0.out (below_chain HB1.out hb2)⟩
end Go.Proofs.YtkcpmfilencekabGreatDoor
