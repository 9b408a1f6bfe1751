/- The law LogsScales. -/
import Derived.Test.YtiecbconcdncmabGreatDoorPackA
import Derived.Test.YtiecbconcdncmabGreatDoorRows
import Derived.Test.YtiecbconcdncmabGreatDoorCode
import Derived.ChangeSame
import Derived.ChangeVars
import Derived.JoinedOf
import Derived.LaidLaws
import Derived.LaidHandle
import Derived.LaidMore
import Derived.Stop.Joined
import Derived.Test.YtiecbconcdncmabGreatDoorValidWalk
import Derived.Test.YtiecbconcdncmabGreatDoorCards
import Derived.Test.YtiecbconcdncmabGreatDoorTie
import Derived.SevenTiedAt
import Derived.ProofKit
import Derived.OpenShut
import Derived.ChangeOld
import Derived.Lib.SmallJoins
import Derived.Deep.SlicePairs
namespace Go.Proofs.YtiecbconcdncmabGreatDoor
open Go.RowKit

/-- What the law's boxes hold. -/
structure LogFrac (w : World) (a : Nat → Addr) (da fn fd : Int) (s1 : Value) (n1 : Nat) (p1 c1 : Nat → Int) (W : World) : Prop where
  errs : Errs W a
  log : LogAt W s1 n1 p1 c1
  x0 : W.cell? ⟨w.heap.size, 0, none⟩ = some (.int .i64 da)
  x1 : W.cell? ⟨w.heap.size, 1, none⟩ = some s1
  y0 : W.cell? ⟨w.heap.size + 1, 0, none⟩ = some (.int .i64 fn)
  y1 : W.cell? ⟨w.heap.size + 1, 1, none⟩ = some (.int .i64 fd)
  below : Below w.heap.size w W
theorem logFrac {w W : World} {a : Nat → Addr} {da fn fd : Int} {ad1 : Option Addr} {m1 cap1 n1 : Nat} {p1 c1 : Nat → Int} (h : Errs w a) (hl1 : LogAt w (.slice ad1 m1 cap1) n1 p1 c1)
    (hb : Below ((w.alloc (.cells #[.int .i64 da, .slice ad1 m1 cap1] 24)).alloc (.cells #[.int .i64 fn, .int .i64 fd] 45)).heap.size ((w.alloc (.cells #[.int .i64 da, .slice ad1 m1 cap1] 24)).alloc (.cells #[.int .i64 fn, .int .i64 fd] 45)) W) : LogFrac w a da fn fd (.slice ad1 m1 cap1) n1 p1 c1 W := by
  have h0 := below_chain (more_below (new_below w (.cells #[.int .i64 da, .slice ad1 m1 cap1] 24)) (.cells #[.int .i64 fn, .int .i64 fd] 45)) hb
  obtain ⟨q0, q1, _, _⟩ := res_past (below_chain (new_below (w.alloc (.cells #[.int .i64 da, .slice ad1 m1 cap1] 24)) (.cells #[.int .i64 fn, .int .i64 fd] 45)) hb)
  obtain ⟨q2, q3, _, _⟩ := res_past hb
  simp only [World.size_alloc] at q2 q3
  exact ⟨h.below h0, hl1.later h0, q0, q1, q2, q3, h0⟩

set_option maxRecDepth 100000 in
set_option maxHeartbeats 4000000 in
theorem LogsScales_bad (da fn fd : Int) (ad : Option Addr) (nn cap : Nat) (p c : Nat → Int) (a : Nat → Addr) (w : World) (h : Errs w a) (hl : LogAt w (.slice ad nn cap) nn p c) (hn : nn ≤ 30) (hbad : ¬ OkLog da nn p c) :
    Calls Tryz.prog 4 #[.agg #[.int .i64 da, .slice ad nn cap], .agg #[.int .i64 fn, .int .i64 fd]] w fun e w' => e = .returned (.bool true) ∧ Below w.heap.size w w' := by
  have HK := Hid.mk' (fun (W : World) => logFrac (W := W) (da := da) (fn := fn) (fd := fd) h hl)
  have HSCA : Hid (∀ (W : World) (ad1 : Option Addr) (cap1 : Nat), Errs W a → LogAt W (.slice ad1 nn cap1) nn p c → _) := fun W ad1 cap1 h1 h2 => Scale_bad da fn fd ad1 nn cap1 p c a W h1 h2 (by omega) hbad
  have HBAD := Hid.mk' hbad
  have hE := eighth_any ((w.alloc (.cells #[.int .i64 da, .slice ad nn cap] 24)).alloc (.cells #[.int .i64 fn, .int .i64 fd] 45))
  obtain ⟨W0, hW0⟩ : ∃ W0, W0 = (w.alloc (.cells #[.int .i64 da, .slice ad nn cap] 24)).alloc (.cells #[.int .i64 fn, .int .i64 fd] 45) := ⟨_, rfl⟩
  rw [← hW0] at hE HK
  have HW0 := Hid.mk' hW0
  clear h hl hW0 hbad
  go_enter Tryz.func4, Tryz.ntmps4
  go_wp2_with fail
  rw [← HW0.out]
  refine hE.mono ?_
  clear hE
  rintro e w1 ⟨rfl, hb1⟩
  have k1 := HK.out w1 hb1
  have x0 := k1.x0
  have x1 := k1.x1
  have hsh := short_any da ad nn cap true (by simpa using hn) (by unfold maxLen; omega) w1
  have HB1 := Hid.mk' hb1
  clear hb1 k1
  go_wp2_with fail
  refine hsh.mono ?_
  clear hsh x0 x1
  rintro e w3 ⟨rfl, hb3⟩
  have HB3 := Hid.mk' (below_chain HB1.out hb3)
  have k3 := HK.out w3 HB3.out
  have x0 := k3.x0
  have x1 := k3.x1
  have hle := LogError_at da (.slice ad nn cap) nn false _ _ ⟨(fun e => by cases e), (fun e => absurd e HBAD.out)⟩ w3 k3.log hn
  simp only [shapeCode] at hle
  clear hb3 k3
  go_wp2_with fail
  refine hle.mono ?_
  clear hle x0 x1
  rintro e w5 ⟨rfl, hb5⟩
  have HB5 := Hid.mk' (below_chain HB3.out hb5)
  clear hb5 HB1 HB3
  go_upto_region 11 with fail
  have HNB0 : Hid (∀ W, Below (w5.alloc (.cells #[.int .i64 0, .slice none 0 0] 24)).heap.size (w5.alloc (.cells #[.int .i64 0, .slice none 0 0] 24)) W → NewBoxL W0 W w5.heap.size) := fun W hb => newBoxL_of HB5.out hb
  have HBM : Hid (Below W0.heap.size W0 (w5.alloc (.cells #[.int .i64 0, .slice none 0 0] 24))) := more_below HB5.out _
  obtain ⟨Wm, hWm⟩ : ∃ Wm, Wm = w5.alloc (.cells #[.int .i64 0, .slice none 0 0] 24) := ⟨_, rfl⟩
  rw [← hWm] at HNB0 HBM ⊢
  clear hWm
  have hcur0 : Below Wm.heap.size Wm Wm := Below.refl _ _
  have hcur : Below Wm.heap.size Wm Wm.drew := (Below.refl _ _).drew
  have hcurA : ∀ X, Below Wm.heap.size Wm (Wm.alloc X).drew := fun X => (new_below _ _).drew
  have HKS : Hid (∀ W, Below W0.heap.size W0 W → (W.cell? ⟨w.heap.size, 0, none⟩ = some (.int .i64 da) ∧ W.cell? ⟨w.heap.size, 1, none⟩ = some (.slice ad nn cap)) ∧ (W.cell? ⟨w.heap.size + 1, 0, none⟩ = some (.int .i64 fn) ∧ W.cell? ⟨w.heap.size + 1, 1, none⟩ = some (.int .i64 fd))) := fun W hb => by
    have k := HK.out W hb
    exact ⟨⟨k.x0, k.x1⟩, k.y0, k.y1⟩
  go_cut [9, 10] from 57 (fun s r wx => ∃ (Bs : Nat), s = .pointer (some ⟨Bs, 0, none⟩) ∧ r = .iface 232 (.pointer (some (a 2))) ∧ Hid (ZeroBox Wm wx Bs))
  case first =>
    go_region_held3 (fun W => (W.cell? ⟨w.heap.size, 0, none⟩ = some (.int .i64 da) ∧ W.cell? ⟨w.heap.size, 1, none⟩ = some (.slice ad nn cap)) ∧ (W.cell? ⟨w.heap.size + 1, 0, none⟩ = some (.int .i64 fn) ∧ W.cell? ⟨w.heap.size + 1, 1, none⟩ = some (.int .i64 fd)))
      (first | exact HKS.out _ (below_chain HBM.out hcur0) | exact HKS.out _ (below_chain HBM.out hcur) | exact HKS.out _ (below_chain HBM.out (hcurA _)) | exact HKS.out _ (below_chain HBM.out hbw8) | exact HKS.out _ (below_chain HBM.out hbw9) | exact HKS.out _ (below_chain HBM.out (more_below hbw8 _)) | exact HKS.out _ (below_chain HBM.out (more_below hbw9 _)) | exact HKS.out _ (below_chain HBM.out (setB_below hbw9 NB.hB _ _)))
      (first
        | (go_at_call 15; have hz8 := hbw8; clear hz8; refine (HSCA.out _ _ _ ?_ ?_).mono ?_; (first | exact (HK.out _ (below_chain HBM.out hbw8)).errs | exact (HK.out _ (below_chain HBM.out (more_below hbw8 _))).errs); (first | exact HL8.out | exact HL8.out.later (new_below _ _)); rintro e w9 ⟨rfl, hb9⟩; (first | (have hbw9 := below_chain hbw8 hb9; try have NB := NB.later hb9) | (have hbw9 := below_chain (more_below hbw8 _) hb9; have NB := newBoxL_of hbw8 hb9)); (try (have z0 := NB.c0; have z1 := NB.c1; have z2 := NB.f0; have z3 := NB.f1)); clear hb9)
        | (go_at_call 12; refine (own_at da _ nn p c _ ?_ hn).mono ?_; (first | exact (HK.out _ (below_chain HBM.out hcur)).log | exact (HK.out _ (below_chain HBM.out (hcurA _))).log); rintro e w8 ⟨sv8, rfl, hs8, hb8⟩; (first | have hbw8 := below_chain hcur hb8 | (have hbw8 := below_chain (hcurA _) hb8; have NB := newBoxL_of hcur0 (below_chain ((Below.refl _ _).drew) hb8))); obtain ⟨ad8, cap8, rfl, hl8⟩ := own_logAt hs8; have HL8 := Hid.mk' hl8; clear hs8 hb8 hl8))
    all_goals
      go_wp2_with fail
      go_meet
      first | exact ⟨_, rfl, rfl, zeroBox_late hbw9⟩ | exact ⟨_, rfl, rfl, zeroBox_soon hbw9 NB⟩ | exact ⟨_, rfl, rfl, zeroBox_same hbw9 NB⟩
  case rest =>
  obtain ⟨Bs, rfl, rfl, HZB⟩ := hcut
  have s0 := HZB.out.c0
  have s1 := HZB.out.c1
  have nb := HNB0.out wc HZB.out.below
  have r0 := nb.c0
  have r1 := nb.c1
  have hbc := below_chain HBM.out HZB.out.below
  have his : Calls Tryz.prog 13 #[.agg #[.int .i64 0, .slice none 0 0], .iface 232 (.pointer (some (a 2))), .agg #[.int .i64 0, .slice none 0 0], .int .i64 3] _ _ := isLog_err a 2 (by decide) 0 none 0 0 wc (HK.out _ hbc).errs
  have HBC := Hid.mk' hbc
  clear hbc nb
  go_wp2_with fail
  refine his.mono ?_
  clear his
  rintro e w12 ⟨rfl, hb12⟩
  go_wp2_with fail
  go_ret
  exact ⟨rfl, (HK.out _ (below_chain HBC.out hb12)).below⟩

set_option maxRecDepth 100000 in
set_option maxHeartbeats 4000000 in
theorem LogsScales_far (da fn fd : Int) (ad : Option Addr) (nn cap : Nat) (p c : Nat → Int) (a : Nat → Addr) (w : World) (h : Errs w a) (hl : LogAt w (.slice ad nn cap) nn p c) (hn : nn ≤ 30) (hok : OkLog da nn p c) (hfar : fd < 1 ∨ 1073741824 < fd ∨ fn < -1073741824 ∨ 1073741824 < fn) :
    Calls Tryz.prog 4 #[.agg #[.int .i64 da, .slice ad nn cap], .agg #[.int .i64 fn, .int .i64 fd]] w fun e w' => e = .returned (.bool true) ∧ Below w.heap.size w w' := by
  have HK := Hid.mk' (fun (W : World) => logFrac (W := W) (da := da) (fn := fn) (fd := fd) h hl)
  have HSCA : Hid (∀ (W : World) (ad1 : Option Addr) (cap1 : Nat), Errs W a → LogAt W (.slice ad1 nn cap1) nn p c → _) := fun W ad1 cap1 h1 h2 => Scale_far da fn fd ad1 nn cap1 p c a W h1 h2 (by omega) hok hfar
  have HOK := Hid.mk' hok
  have HFAR := Hid.mk' hfar
  have hE := eighth_any ((w.alloc (.cells #[.int .i64 da, .slice ad nn cap] 24)).alloc (.cells #[.int .i64 fn, .int .i64 fd] 45))
  obtain ⟨W0, hW0⟩ : ∃ W0, W0 = (w.alloc (.cells #[.int .i64 da, .slice ad nn cap] 24)).alloc (.cells #[.int .i64 fn, .int .i64 fd] 45) := ⟨_, rfl⟩
  rw [← hW0] at hE HK
  have HW0 := Hid.mk' hW0
  clear h hl hW0 hok hfar
  go_enter Tryz.func4, Tryz.ntmps4
  go_wp2_with fail
  rw [← HW0.out]
  refine hE.mono ?_
  clear hE
  rintro e w1 ⟨rfl, hb1⟩
  have k1 := HK.out w1 hb1
  have x0 := k1.x0
  have x1 := k1.x1
  have hsh := short_any da ad nn cap true (by simpa using hn) (by unfold maxLen; omega) w1
  have HB1 := Hid.mk' hb1
  clear hb1 k1
  go_wp2_with fail
  refine hsh.mono ?_
  clear hsh x0 x1
  rintro e w3 ⟨rfl, hb3⟩
  have HB3 := Hid.mk' (below_chain HB1.out hb3)
  have k3 := HK.out w3 HB3.out
  have x0 := k3.x0
  have x1 := k3.x1
  have hle := LogError_at da (.slice ad nn cap) nn true _ _ ⟨fun _ => HOK.out, fun _ => rfl⟩ w3 k3.log hn
  simp only [shapeCode] at hle
  clear hb3 k3
  go_wp2_with fail
  refine hle.mono ?_
  clear hle x0 x1
  rintro e w5 ⟨rfl, hb5⟩
  have HB5 := Hid.mk' (below_chain HB3.out hb5)
  clear hb5 HB1 HB3
  go_upto_region 6 with fail
  go_cut [44] from 23 (fun s wx => s = .bool true ∧ wx = w5)
  case first =>
    have k5 := HK.out w5 HB5.out
    have y0 := k5.y0
    have y1 := k5.y1
    have hfar := HFAR.out
    clear k5
    by_cases g1 : fd < 1
    · clear hfar
      go_wp2_with fail
      go_meet
      exact ⟨rfl, rfl⟩
    · by_cases g2 : 1073741824 < fd
      · clear hfar
        go_wp2_with fail
        go_meet
        exact ⟨rfl, rfl⟩
      · by_cases g3 : 1073741824 < fn
        · clear hfar
          go_wp2_with fail
          go_meet
          exact ⟨rfl, rfl⟩
        · have g4 : fn < -1073741824 := by omega
          clear hfar
          go_wp2_with fail
          go_meet
          exact ⟨by simp, rfl⟩
  case rest =>
  obtain ⟨rfl, hwc⟩ := hcut
  rw [hwc]
  clear hwc
  go_upto_region 11 with fail
  have HNB0 : Hid (∀ W, Below (w5.alloc (.cells #[.int .i64 0, .slice none 0 0] 24)).heap.size (w5.alloc (.cells #[.int .i64 0, .slice none 0 0] 24)) W → NewBoxL W0 W w5.heap.size) := fun W hb => newBoxL_of HB5.out hb
  have HBM : Hid (Below W0.heap.size W0 (w5.alloc (.cells #[.int .i64 0, .slice none 0 0] 24))) := more_below HB5.out _
  obtain ⟨Wm, hWm⟩ : ∃ Wm, Wm = w5.alloc (.cells #[.int .i64 0, .slice none 0 0] 24) := ⟨_, rfl⟩
  rw [← hWm] at HNB0 HBM ⊢
  clear hWm
  have hcur0 : Below Wm.heap.size Wm Wm := Below.refl _ _
  have hcur : Below Wm.heap.size Wm Wm.drew := (Below.refl _ _).drew
  have hcurA : ∀ X, Below Wm.heap.size Wm (Wm.alloc X).drew := fun X => (new_below _ _).drew
  have HKS : Hid (∀ W, Below W0.heap.size W0 W → (W.cell? ⟨w.heap.size, 0, none⟩ = some (.int .i64 da) ∧ W.cell? ⟨w.heap.size, 1, none⟩ = some (.slice ad nn cap)) ∧ (W.cell? ⟨w.heap.size + 1, 0, none⟩ = some (.int .i64 fn) ∧ W.cell? ⟨w.heap.size + 1, 1, none⟩ = some (.int .i64 fd))) := fun W hb => by
    have k := HK.out W hb
    exact ⟨⟨k.x0, k.x1⟩, k.y0, k.y1⟩
  go_cut [9, 10] from 57 (fun s r wx => ∃ (Bs : Nat), s = .pointer (some ⟨Bs, 0, none⟩) ∧ r = .iface 232 (.pointer (some (a 2))) ∧ Hid (ZeroBox Wm wx Bs))
  case first =>
    go_region_held3 (fun W => (W.cell? ⟨w.heap.size, 0, none⟩ = some (.int .i64 da) ∧ W.cell? ⟨w.heap.size, 1, none⟩ = some (.slice ad nn cap)) ∧ (W.cell? ⟨w.heap.size + 1, 0, none⟩ = some (.int .i64 fn) ∧ W.cell? ⟨w.heap.size + 1, 1, none⟩ = some (.int .i64 fd)))
      (first | exact HKS.out _ (below_chain HBM.out hcur0) | exact HKS.out _ (below_chain HBM.out hcur) | exact HKS.out _ (below_chain HBM.out (hcurA _)) | exact HKS.out _ (below_chain HBM.out hbw8) | exact HKS.out _ (below_chain HBM.out hbw9) | exact HKS.out _ (below_chain HBM.out (more_below hbw8 _)) | exact HKS.out _ (below_chain HBM.out (more_below hbw9 _)) | exact HKS.out _ (below_chain HBM.out (setB_below hbw9 NB.hB _ _)))
      (first
        | (go_at_call 15; have hz8 := hbw8; clear hz8; refine (HSCA.out _ _ _ ?_ ?_).mono ?_; (first | exact (HK.out _ (below_chain HBM.out hbw8)).errs | exact (HK.out _ (below_chain HBM.out (more_below hbw8 _))).errs); (first | exact HL8.out | exact HL8.out.later (new_below _ _)); rintro e w9 ⟨rfl, hb9⟩; (first | (have hbw9 := below_chain hbw8 hb9; try have NB := NB.later hb9) | (have hbw9 := below_chain (more_below hbw8 _) hb9; have NB := newBoxL_of hbw8 hb9)); (try (have z0 := NB.c0; have z1 := NB.c1; have z2 := NB.f0; have z3 := NB.f1)); clear hb9)
        | (go_at_call 12; refine (own_at da _ nn p c _ ?_ hn).mono ?_; (first | exact (HK.out _ (below_chain HBM.out hcur)).log | exact (HK.out _ (below_chain HBM.out (hcurA _))).log); rintro e w8 ⟨sv8, rfl, hs8, hb8⟩; (first | have hbw8 := below_chain hcur hb8 | (have hbw8 := below_chain (hcurA _) hb8; have NB := newBoxL_of hcur0 (below_chain ((Below.refl _ _).drew) hb8))); obtain ⟨ad8, cap8, rfl, hl8⟩ := own_logAt hs8; have HL8 := Hid.mk' hl8; clear hs8 hb8 hl8))
    all_goals
      go_wp2_with fail
      go_meet
      first | exact ⟨_, rfl, rfl, zeroBox_late hbw9⟩ | exact ⟨_, rfl, rfl, zeroBox_soon hbw9 NB⟩ | exact ⟨_, rfl, rfl, zeroBox_same hbw9 NB⟩
  case rest =>
  obtain ⟨Bs, rfl, rfl, HZB⟩ := hcut
  have s0 := HZB.out.c0
  have s1 := HZB.out.c1
  have nb := HNB0.out wc HZB.out.below
  have r0 := nb.c0
  have r1 := nb.c1
  have hbc := below_chain HBM.out HZB.out.below
  have his : Calls Tryz.prog 13 #[.agg #[.int .i64 0, .slice none 0 0], .iface 232 (.pointer (some (a 2))), .agg #[.int .i64 0, .slice none 0 0], .int .i64 3] _ _ := isLog_err a 2 (by decide) 0 none 0 0 wc (HK.out _ hbc).errs
  have HBC := Hid.mk' hbc
  clear hbc nb
  go_wp2_with fail
  refine his.mono ?_
  clear his
  rintro e w12 ⟨rfl, hb12⟩
  go_wp2_with fail
  go_ret
  exact ⟨rfl, (HK.out _ (below_chain HBC.out hb12)).below⟩
end Go.Proofs.YtiecbconcdncmabGreatDoor

/- The law LogsScales where all is in form. -/
namespace Go.Proofs.YtiecbconcdncmabGreatDoor
open Go.RowKit

/-- The document's answer of a logarithm in form, so often. -/
theorem LogSum_scale (da q : Nat) (n : Int) (xv yv : Value) (ad : Option Addr) (cap : Nat) (t : List (Int × Int)) (w : World) (hl : LogAt w (.slice ad t.length cap) t.length (pOf t) (cOf t)) (hx : RatioAt w xv n q) (hy : RatioAt w yv 1 1)
    (hok : OkLog da t.length (pOf t) (cOf t)) (hn : t.length ≤ 30) (hq0 : 0 < q) (hq1 : q ≤ 1073741824) (hn1 : n.natAbs ≤ 1073741824) :
    Calls Tryz.prog 9 #[.agg #[.int .i64 da, .slice ad t.length cap], xv, .agg #[.int .i64 1, .slice none 0 0], yv] w fun e w' => ∃ (l : List (Int × Int)) (dn : Int) (ad : Option Addr) (len cap : Nat) (code : Int), e = .returned (.tuple #[.agg #[.int .i64 dn, .slice ad len cap], .int .i64 code]) ∧ Rising l ∧ (∀ x, atL l x = n * atL t x) ∧ ToldOf (da * q) l w' dn (.slice ad len cap) code ∧ Below w.heap.size w w' := by
  have hda := hok.1
  have hda6 := hok.2.1
  have hM0 : 0 < da * q := Nat.mul_pos (by omega) hq0
  have hMb : da * q ≤ 1000000 * 1073741824 := Nat.mul_le_mul (by omega) hq1
  have p4 : (1000000 : Nat) ^ 4 = 1000000000000000000000000 := by decide
  have pc := okLog_pc hok
  have f1 : (n * ((1 : Nat) : Int)).natAbs ≤ 1073741824 := by simpa using hn1
  have s1 : ∀ x k, k ≤ t.length → (n * ((1 : Nat) : Int) * sumAt (pOf t) (cOf t) x k).natAbs ≤ 1073741824 * (30 * 1099511627776) := fun x k hk => mul_bound f1 (Nat.le_trans (sumAt_le pc x k hk) (Nat.mul_le_mul_right _ (by omega)))
  have hz : ∀ x, sumAt (fun _ => 0) (fun _ => 0) x 0 = 0 := fun x => rfl
  have key := LogSum_any (da * q) da 1 q 1 1 (da * q) n 1 xv yv ad none t.length 0 cap 0 (pOf t) (cOf t) (fun _ => 0) (fun _ => 0) 4 w hl (Or.inl ⟨none, 0, rfl, rfl⟩) hx hy (by rw [Nat.mul_one]) (by rw [Nat.one_mul]) hM0 hn (by decide) pc (fun i hi => absurd hi (by omega)) (by omega) (by decide) (by rw [p4]; omega) (by rw [p4]; decide)
    (fun i hi => by rw [p4]; exact Nat.lt_of_le_of_lt (mul_bound f1 (b := 1099511627776) (by have := pc i hi; omega)) (by decide)) (fun i hi => absurd hi (by omega))
    (fun x k hk => by rw [p4]; exact Nat.lt_of_le_of_lt (s1 x k hk) (by decide)) (fun x k hk => by
      obtain rfl : k = 0 := by omega
      rw [hz, Int.mul_zero, Int.add_zero, p4]
      exact Nat.lt_of_le_of_lt (s1 x t.length (Nat.le_refl _)) (by decide)) (by rw [p4]; omega) (by decide) (by decide)
  have key' : Calls Tryz.prog 9 #[.agg #[.int .i64 da, .slice ad t.length cap], xv, .agg #[.int .i64 1, .slice none 0 0], yv] w _ := key
  refine key'.mono ?_
  rintro e w' ⟨l, dn, ad, len, cap, code, rfl, hr, hv, _, ht, hb⟩
  have r1 : Rising t := (show OkLog (da : Int) t.length (pOf t) (cOf t) from hok).rising
  refine ⟨l, dn, ad, len, cap, code, rfl, hr, fun x => ?_, ht, hb⟩
  rw [hv, hz, sumAt_all r1, Int.mul_zero, Int.add_zero]
  simp

set_option maxRecDepth 100000 in
set_option maxHeartbeats 4000000 in
theorem LogsScales_ok (da fd : Nat) (fn : Int) (ad : Option Addr) (cap : Nat) (t : List (Int × Int)) (a : Nat → Addr) (w : World) (h : Errs w a) (hl0 : LogAt w (.slice ad t.length cap) t.length (pOf t) (cOf t)) (hok0 : OkLog da t.length (pOf t) (cOf t)) (hn0 : t.length ≤ 30) (h1 : -1073741824 ≤ fn) (h2 : fn ≤ 1073741824) (hd0 : 1 ≤ fd) (hd1 : fd ≤ 1073741824) :
    Calls Tryz.prog 4 #[.agg #[.int .i64 da, .slice ad t.length cap], .agg #[.int .i64 fn, .int .i64 fd]] w fun e w' => e = .returned (.bool true) ∧ Below w.heap.size w w' := by
  obtain ⟨g, hg⟩ : ∃ g, g = Nat.gcd fn.natAbs fd := ⟨_, rfl⟩
  obtain ⟨hg1, hg2, hg3, hg4, hg5, hg6⟩ := low_parts (n := fn) hd0
  rw [← hg] at hg1 hg2 hg3 hg4 hg5 hg6
  have HSUM : Hid (∀ (W : World) (xv yv : Value), LogAt W (.slice ad t.length cap) t.length (pOf t) (cOf t) → RatioAt W xv (fn.tdiv (g : Int)) (fd / g) → RatioAt W yv 1 1 → _) := fun W xv yv h1' h2' h3' => LogSum_scale da (fd / g) (fn.tdiv (g : Int)) xv yv ad cap t W h1' h2' h3' hok0 hn0 hg6 (Nat.le_trans (Nat.div_le_self _ _) hd1) (by rw [hg5]; exact Nat.le_trans (Nat.div_le_self _ _) (by omega))
  have HOFR : Hid (∀ W, Calls Tryz.prog 14 #[.agg #[.int .i64 fn, .int .i64 fd]] W fun e w' => ∃ r, e = .returned r ∧ RatioAt w' r (fn.tdiv (g : Int)) (fd / g) ∧ Below W.heap.size W w') := fun W => by
    have := OfFrac_any fn fd W (by omega) (by omega) hd0 (by omega)
    rw [← hg] at this
    exact this
  have HSCA : Hid (∀ (W : World) (ad1 : Option Addr) (cap1 : Nat), Errs W a → LogAt W (.slice ad1 t.length cap1) t.length (pOf t) (cOf t) → _) := fun W ad1 cap1 h1' h2' => Scale_said da fd fn ad1 cap1 t a W h1' h2' hok0 (by omega) h1 h2 hd0 hd1 g hg
  have HRT := Hid.mk' (show OkLog (da : Int) t.length (pOf t) (cOf t) from hok0).rising
  have HLT : Hid ((scaleL (fn.tdiv (g : Int)) t).length ≤ 30) := by show _ ≤ _; unfold scaleL; rw [List.length_map]; exact hn0
  generalize hpp : pOf t = p at *
  generalize hcc : cOf t = c at *
  have hl := hl0
  have hok := hok0
  have hn := hn0
  generalize t.length = nn at hl hok hn HSUM HSCA ⊢
  generalize fn.tdiv (g : Int) = n at *
  generalize fd / g = q at *
  have HOK := Hid.mk' hok
  have HK := Hid.mk' (fun (W : World) => logFrac (W := W) (da := (da : Int)) (fn := fn) (fd := (fd : Int)) h hl)
  clear hl0 hok0 hn0 hg hg1 hg2 hg3 hg4 hg5 hg6 hpp hcc
  have hE := eighth_any ((w.alloc (.cells #[.int .i64 da, .slice ad nn cap] 24)).alloc (.cells #[.int .i64 fn, .int .i64 fd] 45))
  obtain ⟨W0, hW0⟩ : ∃ W0, W0 = (w.alloc (.cells #[.int .i64 da, .slice ad nn cap] 24)).alloc (.cells #[.int .i64 fn, .int .i64 fd] 45) := ⟨_, rfl⟩
  rw [← hW0] at hE HK
  have HW0 := Hid.mk' hW0
  clear h hl hW0 hok
  go_enter Tryz.func4, Tryz.ntmps4
  go_wp2_with fail
  rw [← HW0.out]
  refine hE.mono ?_
  clear hE
  rintro e w1 ⟨rfl, hb1⟩
  have k1 := HK.out w1 hb1
  have x0 := k1.x0
  have x1 := k1.x1
  have hsh := short_any da ad nn cap true (by simpa using hn) (by unfold maxLen; omega) w1
  have HB1 := Hid.mk' hb1
  clear hb1 k1
  go_wp2_with fail
  refine hsh.mono ?_
  clear hsh x0 x1
  rintro e w3 ⟨rfl, hb3⟩
  have HB3 := Hid.mk' (below_chain HB1.out hb3)
  have k3 := HK.out w3 HB3.out
  have x0 := k3.x0
  have x1 := k3.x1
  have hle := LogError_at da (.slice ad nn cap) nn true _ _ ⟨fun _ => HOK.out, fun _ => rfl⟩ w3 k3.log hn
  simp only [shapeCode] at hle
  clear hb3 k3
  go_wp2_with fail
  refine hle.mono ?_
  clear hle x0 x1
  rintro e w5 ⟨rfl, hb5⟩
  have HB5 := Hid.mk' (below_chain HB3.out hb5)
  clear hb5 HB1 HB3
  go_upto_region 6 with fail
  go_cut [44] from 23 (fun s wx => s = .bool false ∧ wx = w5)
  case first =>
    have k5 := HK.out w5 HB5.out
    have y0 := k5.y0
    have y1 := k5.y1
    have g1 : ¬ (fd : Int) < 1 := by omega
    have g2 : ¬ 1073741824 < (fd : Int) := by omega
    have g3 : ¬ 1073741824 < fn := by omega
    have g4 : ¬ fn < -1073741824 := by omega
    clear k5
    go_wp2_with fail
    go_meet
    exact ⟨by simp, rfl⟩
  case rest =>
  obtain ⟨rfl, hwc⟩ := hcut
  rw [hwc]
  clear hwc
  go_upto_region 10 with fail
  have HNB0 : Hid (∀ W, Below (w5.alloc (.cells #[.int .i64 0, .slice none 0 0] 24)).heap.size (w5.alloc (.cells #[.int .i64 0, .slice none 0 0] 24)) W → NewBoxL W0 W w5.heap.size) := fun W hb => newBoxL_of HB5.out hb
  have HB6 : Hid (Below W0.heap.size W0 (w5.alloc (.cells #[.int .i64 0, .slice none 0 0] 24))) := more_below HB5.out _
  obtain ⟨W6, hW6⟩ : ∃ W6, W6 = w5.alloc (.cells #[.int .i64 0, .slice none 0 0] 24) := ⟨_, rfl⟩
  rw [← hW6] at HNB0 HB6 ⊢
  clear hW6
  have hcur0 : Below W6.heap.size W6 W6 := Below.refl _ _
  have hcur : Below W6.heap.size W6 W6.drew := (Below.refl _ _).drew
  have HKS : Hid (∀ W, Below W0.heap.size W0 W → (W.cell? ⟨w.heap.size, 0, none⟩ = some (.int .i64 da) ∧ W.cell? ⟨w.heap.size, 1, none⟩ = some (.slice ad nn cap)) ∧ (W.cell? ⟨w.heap.size + 1, 0, none⟩ = some (.int .i64 fn) ∧ W.cell? ⟨w.heap.size + 1, 1, none⟩ = some (.int .i64 fd))) := fun W hb => by
    have k := HK.out W hb
    exact ⟨⟨k.x0, k.x1⟩, k.y0, k.y1⟩
  go_cut [7] from 48 (fun s wx => ∃ (l : List (Int × Int)) (code : Int), s = .int .i64 code ∧ Hid (Rising l ∧ ∀ x, atL l x = n * atL t x) ∧ Hid (ToldBox W0 wx w5.heap.size (da * q) l code))
  case first =>
    go_region_held3 (fun W => (W.cell? ⟨w.heap.size, 0, none⟩ = some (.int .i64 da) ∧ W.cell? ⟨w.heap.size, 1, none⟩ = some (.slice ad nn cap)) ∧ (W.cell? ⟨w.heap.size + 1, 0, none⟩ = some (.int .i64 fn) ∧ W.cell? ⟨w.heap.size + 1, 1, none⟩ = some (.int .i64 fd)))
      (first | exact HKS.out _ (below_chain HB6.out hcur0) | exact HKS.out _ (below_chain HB6.out hcur) | exact HKS.out _ (below_chain HB6.out hbw7) | exact HKS.out _ (below_chain HB6.out hbw8) | exact HKS.out _ (below_chain HB6.out hbw9) | exact HKS.out _ (setB_below (below_chain HB6.out hbw9) HB5.out.size _ _))
      (first
        | (go_at_call 9; have hz8 := hbw8; clear hz8; refine (HSUM.out _ _ _ (HK.out _ (below_chain HB6.out hbw8)).log (HR7.out.later hb78) HR8.out).mono ?_; rintro e w9 ⟨l, dn, ad', len, cap', code, rfl, hr, hv, ht, hb9⟩; have hbw9 := below_chain hbw8 hb9; have nb := HNB0.out _ hbw9; have z0 := nb.c0; have z1 := nb.c1; have z2 := nb.f0; have z3 := nb.f1; have HT := Hid.mk' ht; have HRV := Hid.mk' (And.intro hr hv); clear hr hv ht hb9)
        | (go_at_call 10; refine (one_one w7).mono ?_; rintro e w8 ⟨r8, rfl, hr8, hb8⟩; have hbw8 := below_chain hbw7 hb8; have hb78 := hb8; have HR8 := Hid.mk' hr8; clear hr8 hb8)
        | (go_at_call 14; refine (HOFR.out _).mono ?_; rintro e w7 ⟨r7, rfl, hr7, hb7⟩; have hbw7 := below_chain hcur hb7; have HR7 := Hid.mk' hr7; clear hr7 hb7))
    all_goals
      go_wp2_with fail
      go_meet
      exact ⟨_, _, rfl, HRV, toldBox_soon (below_chain HB6.out hbw9) HT.out nb⟩
  case rest =>
  obtain ⟨l, code, rfl, HRV, HTB⟩ := hcut
  obtain ⟨Wm, hWm⟩ : ∃ Wm, Wm = wc := ⟨_, rfl⟩
  rw [← hWm] at HTB ⊢
  clear hWm hcur hcur0 HB6 HNB0 HSUM HOFR
  have hcur0 : Below Wm.heap.size Wm Wm := Below.refl _ _
  have hcur : Below Wm.heap.size Wm Wm.drew := (Below.refl _ _).drew
  have hcurA : ∀ X, Below Wm.heap.size Wm (Wm.alloc X).drew := fun X => (new_below _ _).drew
  have HBM := Hid.mk' HTB.out.below
  go_upto_region 11 with fail
  go_cut [9, 10] from 57 (fun s r wx => ∃ (Bs : Nat) (er : Value), s = .pointer (some ⟨Bs, 0, none⟩) ∧ r = er ∧ Hid (SaidBox Wm wx Bs (da * q) (scaleL n t) a er))
  case first =>
    go_region_held3 (fun W => (W.cell? ⟨w.heap.size, 0, none⟩ = some (.int .i64 da) ∧ W.cell? ⟨w.heap.size, 1, none⟩ = some (.slice ad nn cap)) ∧ (W.cell? ⟨w.heap.size + 1, 0, none⟩ = some (.int .i64 fn) ∧ W.cell? ⟨w.heap.size + 1, 1, none⟩ = some (.int .i64 fd)))
      (first | exact HKS.out _ (below_chain HBM.out hcur0) | exact HKS.out _ (below_chain HBM.out hcur) | exact HKS.out _ (below_chain HBM.out (hcurA _)) | exact HKS.out _ (below_chain HBM.out hbw8) | exact HKS.out _ (below_chain HBM.out hbw9) | exact HKS.out _ (below_chain HBM.out (more_below hbw8 _)) | exact HKS.out _ (below_chain HBM.out (more_below hbw9 _)) | exact HKS.out _ (below_chain HBM.out (setB_below hbw9 NB.hB _ _)))
      (first
        | (go_at_call 15; have hz8 := hbw8; clear hz8; refine (HSCA.out _ _ _ ?_ ?_).mono ?_; (first | exact (HK.out _ (below_chain HBM.out hbw8)).errs | exact (HK.out _ (below_chain HBM.out (more_below hbw8 _))).errs); (first | exact HL8.out | exact HL8.out.later (new_below _ _)); rintro e w9 ⟨dn, ad', len, cap', er, rfl, ht, hb9⟩; (first | (have hbw9 := below_chain hbw8 hb9; try have NB := NB.later hb9) | (have hbw9 := below_chain (more_below hbw8 _) hb9; have NB := newBoxL_of hbw8 hb9)); (try (have z0 := NB.c0; have z1 := NB.c1; have z2 := NB.f0; have z3 := NB.f1)); have HT := Hid.mk' ht; clear ht hb9)
        | (go_at_call 12; refine (own_at da _ nn p c _ ?_ hn).mono ?_; (first | exact (HK.out _ (below_chain HBM.out hcur)).log | exact (HK.out _ (below_chain HBM.out (hcurA _))).log); rintro e w8 ⟨sv8, rfl, hs8, hb8⟩; (first | have hbw8 := below_chain hcur hb8 | (have hbw8 := below_chain (hcurA _) hb8; have NB := newBoxL_of hcur0 (below_chain ((Below.refl _ _).drew) hb8))); obtain ⟨ad8, cap8, rfl, hl8⟩ := own_logAt hs8; have HL8 := Hid.mk' hl8; clear hs8 hb8 hl8))
    all_goals
      go_wp2_with fail
      go_meet
      first | exact ⟨_, _, rfl, rfl, saidBox_late hbw9 HT.out⟩ | exact ⟨_, _, rfl, rfl, saidBox_soon hbw9 HT.out NB⟩
  case rest =>
  obtain ⟨Bs, er, rfl, rfl, HSB⟩ := hcut
  obtain ⟨dn1, ad7, len7, cap7, s0, s1, hsd⟩ := HSB.out.box
  obtain ⟨dn2, ad8, len8, cap8, r0, r1, htd⟩ := HTB.out.box
  have r0' := (cell_past r0 HSB.out.below).2
  have r1' := (cell_past r1 HSB.out.below).2
  have htd' := (htd.later HSB.out.below).same HRV.out.1 (scale_rise HRT.out n) (fun x => by rw [HRV.out.2, scale_at])
  have hbc := below_chain HBM.out HSB.out.below
  have his := isLog_said (da * q) (scaleL n t) a wc (HK.out _ hbc).errs (by have := HLT.out; omega) dn1 dn2 code ad7 ad8 len7 len8 cap7 cap8 _ hsd htd'
  have HBC := Hid.mk' hbc
  clear r0 r1 hsd htd htd' hbc
  go_wp2_with fail
  refine his.mono ?_
  clear his
  rintro e w12 ⟨rfl, hb12⟩
  go_wp2_with fail
  go_ret
  exact ⟨rfl, (HK.out _ (below_chain HBC.out hb12)).below⟩

set_option maxRecDepth 100000 in
set_option maxHeartbeats 1000000 in
theorem LogsScales_long (da fn fd : Int) (ad : Option Addr) (nn cap : Nat) (w : World) (hm : nn ≤ maxLen) (hn : ¬ nn ≤ 30) :
    Calls Tryz.prog 4 #[.agg #[.int .i64 da, .slice ad nn cap], .agg #[.int .i64 fn, .int .i64 fd]] w fun e w' => e = .returned (.bool true) ∧ Below w.heap.size w w' := by
  have hb0 : Below w.heap.size w ((w.alloc (.cells #[.int .i64 da, .slice ad nn cap] 24)).alloc (.cells #[.int .i64 fn, .int .i64 fd] 45)) := more_below (new_below _ _) _
  have HC : Hid (∀ W, Below ((w.alloc (.cells #[.int .i64 da, .slice ad nn cap] 24)).alloc (.cells #[.int .i64 fn, .int .i64 fd] 45)).heap.size ((w.alloc (.cells #[.int .i64 da, .slice ad nn cap] 24)).alloc (.cells #[.int .i64 fn, .int .i64 fd] 45)) W → W.cell? ⟨w.heap.size, 0, none⟩ = some (.int .i64 da) ∧ W.cell? ⟨w.heap.size, 1, none⟩ = some (.slice ad nn cap)) := fun W hb => by
    obtain ⟨q0, q1, _, _⟩ := res_past (below_chain (new_below (w.alloc (.cells #[.int .i64 da, .slice ad nn cap] 24)) (.cells #[.int .i64 fn, .int .i64 fd] 45)) hb)
    exact ⟨q0, q1⟩
  have hE := eighth_any ((w.alloc (.cells #[.int .i64 da, .slice ad nn cap] 24)).alloc (.cells #[.int .i64 fn, .int .i64 fd] 45))
  obtain ⟨W0, hW0⟩ : ∃ W0, W0 = (w.alloc (.cells #[.int .i64 da, .slice ad nn cap] 24)).alloc (.cells #[.int .i64 fn, .int .i64 fd] 45) := ⟨_, rfl⟩
  rw [← hW0] at hE HC hb0
  have HW0 := Hid.mk' hW0
  have HB0 := Hid.mk' hb0
  clear hW0 hb0
  go_enter Tryz.func4, Tryz.ntmps4
  go_wp2_with fail
  rw [← HW0.out]
  refine hE.mono ?_
  clear hE
  rintro e w1 ⟨rfl, hb1⟩
  obtain ⟨x0, x1⟩ := HC.out w1 hb1
  have hsh := short_any da ad nn cap false (by simpa using hn) hm w1
  have HB1 := Hid.mk' hb1
  clear hb1
  go_wp2_with fail
  refine hsh.mono ?_
  clear hsh x0 x1
  rintro e w2 ⟨rfl, hb2⟩
  go_wp2_with fail
  go_ret
  exact ⟨rfl, below_chain HB0.out (below_chain HB1.out hb2)⟩
end Go.Proofs.YtiecbconcdncmabGreatDoor

/- What the rows' condition on package variables gives a walk: eight different sentinels with their texts, and the handle of the type error. -/
namespace Go.Proofs.YtiecbconcdncmabGreatDoor
open Go.ChangeShapes Go.WideShapes Go.RowKit

theorem Tryz.own : ownKnob Tryz.prog.godebug = none := by kernel_rfl
theorem Tryz.et : Tryz.prog.globalNamed "errors.errorType" = some 8 := by kernel_rfl
theorem Tryz.rt : (Tryz.prog.cutTypes.find? (·.1 == "internal/reflectlite.rtype")).map (·.2) = some 172 := by kernel_rfl
theorem Tryz.oneRow : ((List.range 261).filter fun t => Tryz.prog.rowNamed t [101, 114, 114, 111, 114]) = [38] := by kernel_rfl
theorem Tryz.size : Tryz.prog.types.size = 261 := by kernel_rfl
theorem Tryz.star : ("*" ++ "errors.errorString" : String) = "*errors.errorString" := by decide
theorem Tryz.rowE (u : TypeId) (h : Tryz.prog.typeName? 3 u = some "*errors.errorString") : u = 232 :=
  typeName_ptr_named (nm := "errors.errorString") (by rw [Tryz.star]; kernel_rfl) (by kernel_rfl) (by decide) u (by rw [Tryz.star]; exact h)
theorem Tryz.cellsE : Tryz.prog.cellsOf 234 = 1 := by kernel_rfl
theorem Tryz.cellsS : Tryz.prog.cellsOf 9 = 1 := by kernel_rfl
theorem Tryz.g0 : Tryz.prog.globalNamed "demon/api.ErrText" = some 2 := by kernel_rfl
theorem Tryz.g1 : Tryz.prog.globalNamed "demon/api.ErrBound" = some 1 := by kernel_rfl
theorem Tryz.g2 : Tryz.prog.globalNamed "demon/api.ErrShape" = some 0 := by kernel_rfl
theorem Tryz.g3 : Tryz.prog.globalNamed "demon/api.ErrZero" = some 3 := by kernel_rfl
theorem Tryz.g4 : Tryz.prog.globalNamed "demon/api.ErrName" = some 4 := by kernel_rfl
theorem Tryz.g5 : Tryz.prog.globalNamed "demon/api.ErrNone" = some 5 := by kernel_rfl
theorem Tryz.g6 : Tryz.prog.globalNamed "demon/api.ErrOrder" = some 6 := by kernel_rfl
theorem Tryz.g7 : Tryz.prog.globalNamed "demon/api.ErrKind" = some 7 := by kernel_rfl

/-- Any number of listed sentinels of one type: each one's pointer, text and row; no two are one. -/
theorem laid_list {P : Program} {W : World} {nm : String} {ti tp te ts : TypeId} {ms : Array (String × TypeId)} {f : Field}
    (hi : P.underlying ti = some (.interface ms)) (hrow : ∀ u, P.typeName? 3 u = some nm → u = tp)
    (hp : P.underlying tp = some (.pointer te)) (he : P.underlying te = some (.struct #[f])) (hft : f.type = ts) (hfo : f.offset = 0) (hs : P.underlying ts = some .string) (hc : P.cellsOf te = 1) (hcs : P.cellsOf ts = 1) :
    ∀ (L : List (String × List UInt8)) (ps : List MemPlace), (∀ x, x ∈ L → ∃ g, P.globalNamed x.1 = some g ∧ (P.globals[g]?).map (·.type) = some ti) →
      DataW.LaidVars P W (L.map fun x => (x.1, .iface nm (.ptr (.agg [.lit (.string x.2)])))) ps → ps.Nodup →
      (∀ b off, MemPlace.cell b off ∈ ps → (∃ c t, W.heap[b]? = some (.cells c t (0, 0))) ∧ ∀ u v, W.cell? ⟨b, off, none⟩ = some (.iface u v) → Value.okWide P W .any 0 u v) →
      ∃ a : Nat → Addr, (∀ i x, L[i]? = some x → W.var? P x.1 = some #[.iface tp (.pointer (some (a i)))] ∧ (∃ s, W.cell? (a i) = some (.string s) ∧ s.data.toList = x.2) ∧
          (∃ c t, W.heap[(a i).block]? = some (.cells c t (0, 0))) ∧ MemPlace.cell (a i).block (a i).off ∈ ps) ∧
        ∀ i j, i < L.length → j < L.length → i ≠ j → a i ≠ a j := by
  intro L
  induction L with
  | nil => intro ps _ _ _ _; exact ⟨fun _ => default, fun i x h => by simp at h, fun i j h => by simp at h⟩
  | cons x r ih =>
    intro ps hgs hv hnd hrows
    obtain ⟨n, text⟩ := x
    obtain ⟨g0, t0, cs0, f0, p0, q0, hg0, ht0, hv0, hd0, hvr, e0⟩ := hv
    obtain ⟨g, hg, ht⟩ := hgs (n, text) (List.mem_cons_self ..)
    obtain rfl := Option.some.inj (hg.symm.trans hg0)
    obtain rfl := Option.some.inj (ht.symm.trans ht0)
    subst e0
    obtain ⟨l0⟩ := cs0
    have ok0 : ∀ u v, l0 = [.iface u v] → Value.okWide P W .any 0 u v := fun u v e => by
      subst e
      exact (hrows g 0 (by simp [MemPlace.row])).2 u v (by simpa using World.var?_cell hg0 hv0 0)
    obtain ⟨a0, s0, rfl, hc0, hs0, hz0, rfl⟩ := errorString_of_trod hi hrow hp he hft hfo hs hc hcs hd0 ok0
    obtain ⟨c0, tt0, hb0⟩ := (hrows a0.block a0.off (by simp [MemPlace.row])).1
    have hnq : q0.Nodup := List.Nodup.sublist (List.sublist_append_right _ _) hnd
    obtain ⟨a', ha', hne'⟩ := ih q0 (fun x hx => hgs x (List.mem_cons_of_mem _ hx)) hvr hnq (fun b off hm => hrows b off (List.mem_append_right _ hm))
    have hnot : MemPlace.cell a0.block a0.off ∉ q0 := by
      intro hm
      have := (List.nodup_append.1 hnd).2.2
      exact this (.cell a0.block a0.off) (by simp [MemPlace.row]) (.cell a0.block a0.off) hm rfl
    refine ⟨fun i => match i with | 0 => a0 | k + 1 => a' k, ?_, ?_⟩
    · intro i x hx
      cases i with
      | zero =>
        simp only [List.getElem?_cons_zero, Option.some.injEq] at hx
        subst hx
        exact ⟨hv0, ⟨s0, hc0, hs0⟩, ⟨c0, tt0, hb0⟩, by simp [MemPlace.row]⟩
      | succ k =>
        simp only [List.getElem?_cons_succ] at hx
        obtain ⟨h1, h2, h3, h4⟩ := ha' k x hx
        exact ⟨h1, h2, h3, List.mem_append_right _ h4⟩
    · have far : ∀ k, k < r.length → a0 ≠ a' k := fun k hk e => by
        obtain ⟨_, _, _, h4⟩ := ha' k r[k] (by simp [hk])
        rw [← e] at h4
        exact hnot h4
      intro i j hi' hj' hij
      cases i with
      | zero =>
        cases j with
        | zero => exact absurd rfl hij
        | succ k => exact far k (by simpa using hj')
      | succ m =>
        cases j with
        | zero => exact (far m (by simpa using hi')).symm
        | succ k => exact hne' m k (by simpa using hi') (by simpa using hj') (by omega)

/-- The names and texts, in the rows' order. -/
def eightNames : List (String × List UInt8) := [("demon/api.ErrText", [100, 101, 109, 111, 110, 58, 32, 116, 101, 120, 116]), ("demon/api.ErrBound", [100, 101, 109, 111, 110, 58, 32, 98, 111, 117, 110, 100]), ("demon/api.ErrShape", [100, 101, 109, 111, 110, 58, 32, 115, 104, 97, 112, 101]), ("demon/api.ErrZero", [100, 101, 109, 111, 110, 58, 32, 122, 101, 114, 111]), ("demon/api.ErrName", [100, 101, 109, 111, 110, 58, 32, 110, 97, 109, 101]), ("demon/api.ErrNone", [100, 101, 109, 111, 110, 58, 32, 110, 111, 110, 101]), ("demon/api.ErrOrder", [100, 101, 109, 111, 110, 58, 32, 111, 114, 100, 101, 114]), ("demon/api.ErrKind", [100, 101, 109, 111, 110, 58, 32, 107, 105, 110, 100])]
def laidAll : List (String × DataW Unit) := [("errors.errorType", Rows.laid_errors_errorType), ("demon/api.ErrText", Rows.laid_demon_api_ErrText), ("demon/api.ErrBound", Rows.laid_demon_api_ErrBound), ("demon/api.ErrShape", Rows.laid_demon_api_ErrShape), ("demon/api.ErrZero", Rows.laid_demon_api_ErrZero), ("demon/api.ErrName", Rows.laid_demon_api_ErrName), ("demon/api.ErrNone", Rows.laid_demon_api_ErrNone), ("demon/api.ErrOrder", Rows.laid_demon_api_ErrOrder), ("demon/api.ErrKind", Rows.laid_demon_api_ErrKind)]
theorem laidAll_parts (W : World) : laidMetH Tryz.prog laidAll W = (laidMet Tryz.prog (eightNames.map fun x => (x.1, .iface "*errors.errorString" (.ptr (.agg [.lit (.string x.2)])))) W ∧ handlesMet Tryz.prog [("errors.errorType", Rows.laid_errors_errorType)] W) := by kernel_rfl

theorem var_at {W : World} {n : String} {g : Nat} {v : Value} (hg : Tryz.prog.globalNamed n = some g) (h : W.var? Tryz.prog n = some #[v]) : W.cell? ⟨g, 0, none⟩ = some v := by
  simpa using World.var?_cell hg h 0

theorem errs_of_laid {W : World} (h : laidMetH Tryz.prog laidAll W) : ∃ a : Nat → Addr, Errs W a ∧ ∀ i x, eightNames[i]? = some x → ∃ s, W.cell? (a i) = some (.string s) ∧ s.data.toList = x.2 := by
  rw [laidAll_parts] at h
  obtain ⟨⟨ps, hv, hnd, hrows⟩, hh⟩ := h
  obtain ⟨name, u, ty, e1, e2, e3, e4, e5⟩ := hh _ (List.mem_singleton.2 rfl)
  have en : name = [101, 114, 114, 111, 114] := (Option.some.inj e1).symm
  subst en
  obtain rfl := Option.some.inj (Tryz.rt.symm.trans e2)
  have hm : ty ∈ (List.range 261).filter fun t => Tryz.prog.rowNamed t [101, 114, 114, 111, 114] := List.mem_filter.2 ⟨List.mem_range.2 (by rw [← Tryz.size]; exact e3), e4⟩
  rw [Tryz.oneRow] at hm
  obtain rfl := List.mem_singleton.1 hm
  have hth : typeHandle Tryz.prog 38 = .pointer (some ⟨17, 38, none⟩) := by kernel_rfl
  rw [hth] at e5
  obtain ⟨a, ha, hne⟩ := laid_list Tryz.underlying38 Tryz.rowE Tryz.underlying232 Tryz.underlying234 rfl rfl Tryz.underlying9 Tryz.cellsE Tryz.cellsS eightNames ps
    (fun x hx => by
      simp only [eightNames, List.mem_cons, List.not_mem_nil, or_false] at hx
      rcases hx with rfl | rfl | rfl | rfl | rfl | rfl | rfl | rfl
      · exact ⟨_, Tryz.g0, by kernel_rfl⟩
      · exact ⟨_, Tryz.g1, by kernel_rfl⟩
      · exact ⟨_, Tryz.g2, by kernel_rfl⟩
      · exact ⟨_, Tryz.g3, by kernel_rfl⟩
      · exact ⟨_, Tryz.g4, by kernel_rfl⟩
      · exact ⟨_, Tryz.g5, by kernel_rfl⟩
      · exact ⟨_, Tryz.g6, by kernel_rfl⟩
      · exact ⟨_, Tryz.g7, by kernel_rfl⟩) hv hnd hrows
  refine ⟨a, ⟨var_at Tryz.g0 (ha 0 _ rfl).1, var_at Tryz.g1 (ha 1 _ rfl).1, var_at Tryz.g2 (ha 2 _ rfl).1, var_at Tryz.g3 (ha 3 _ rfl).1, var_at Tryz.g4 (ha 4 _ rfl).1, var_at Tryz.g5 (ha 5 _ rfl).1, var_at Tryz.g6 (ha 6 _ rfl).1, var_at Tryz.g7 (ha 7 _ rfl).1, var_at Tryz.et e5, ?_, ?_⟩, fun i x hx => (ha i x hx).2.1⟩
  · intro i hi
    have hl : eightNames.length = 8 := rfl
    exact (ha i eightNames[i] (List.getElem?_eq_getElem (by omega))).2.2.1
  · intro i j hi hj hij
    exact hne i j hi hj hij

/-- The door's own heap meets the condition. -/
theorem door_met (os : Os) (args : Array Value) : laidMetH Tryz.prog laidAll ((World.doorLaid Tryz.prog 231 os).forCall (fun _ _ => 0) ⟨#[], args, []⟩).memory :=
  laidMetH_of_parts3 (fuel := 8) (laidMet_of_run' 8 (by kernel_rfl) (by kernel_rfl)) (by kernel_rfl) (by kernel_rfl)
end Go.Proofs.YtiecbconcdncmabGreatDoor

/- A parameter of type api.Log opened: its number, its slice, its terms. -/
namespace Go.Proofs.YtiecbconcdncmabGreatDoor
open Go.ChangeShapes Go.WideShapes Go.ChangeAt Go.RowKit Go.Joins Go.Deep

theorem Tryz.laidOut : laidOutB Tryz.prog = true := by kernel_rfl
theorem Tryz.cellsLog : Tryz.prog.cellsOf 24 = 2 := by kernel_rfl
theorem Tryz.cellsTerm : Tryz.prog.cellsOf 55 = 2 := by kernel_rfl
theorem Tryz.cellsInt : Tryz.prog.cellsOf 3 = 1 := by kernel_rfl

set_option maxRecDepth 100000 in
/-- What a parameter of type api.Log gives: its number, its slice, its terms. -/
theorem open_log {H : Type} {enc : TypeId × Value → H} {W : World} {base : Nat} {v : Value} {d : DataW H} {p : List MemPlace} (hv : Value.okWide Tryz.prog W .any base 24 v)
    (h : DataW.Trod enc Tryz.prog W 0 (fun _ => true) true 24 v d p) :
    ∃ (den : Int) (ad : Option Addr) (n cap : Nat) (pf cf : Nat → Int), v = .agg #[.int .i64 den, .slice ad n cap] ∧ n ≤ maxLen ∧ LogAt W (.slice ad n cap) n pf cf := by
  obtain ⟨c0, c1, y0, y1, m, rfl, rfl, rfl, hy0, hy1⟩ := open_agg2 Tryz.underlying24 (by kernel_rfl) Tryz.cellsLog hv h
  obtain ⟨den, e0, _, _⟩ := DataW.trod_int Tryz.underlying3 hy0
  simp at e0
  subst e0
  rcases open_slice_pairs Tryz.underlying22 Tryz.underlying55 Tryz.cellsTerm rfl rfl Tryz.cellsInt Tryz.cellsInt hy1 with ⟨hc, _⟩ | ⟨a, len, cap, mm, nn, V0, V1, D0, D1, P0, P1, hc, _, hl, hm, hmm, _, hx⟩
  · simp at hc
    subst hc
    exact ⟨den, none, 0, 0, fun _ => 0, fun _ => 0, rfl, Nat.zero_le _, Or.inl ⟨none, 0, rfl, rfl⟩⟩
  · simp at hc
    subst hc
    simp at hmm
    rcases Nat.eq_zero_or_pos len with rfl | hpos
    · exact ⟨den, some a, 0, cap, fun _ => 0, fun _ => 0, rfl, Nat.zero_le _, Or.inl ⟨some a, cap, rfl, rfl⟩⟩
    · obtain ⟨b, o, spot⟩ := a
      have hspot : spot = none := by simpa [Addr.add] using World.cell?_spot (hx 0 (by omega)).1
      subst hspot
      have hint : ∀ i, i < len → ∃ x : Int × Int, V0 i = .int .i64 x.1 ∧ V1 i = .int .i64 x.2 := fun i hi => by
        obtain ⟨_, _, g0, g1⟩ := hx i (by omega)
        obtain ⟨x, e0, _, _⟩ := DataW.trod_int Tryz.underlying3 g0
        obtain ⟨y, e1, _, _⟩ := DataW.trod_int Tryz.underlying3 g1
        simp at e0 e1
        exact ⟨(x, y), e0, e1⟩
      obtain ⟨f, hf⟩ := choose_lt hint
      refine ⟨den, some ⟨b, o, none⟩, len, cap, fun i => (f i).1, fun i => (f i).2, rfl, by omega, Or.inr ⟨b, o, cap, rfl, hpos, fun i hi => ?_⟩⟩
      obtain ⟨g0, g1, _, _⟩ := hx i (by omega)
      rw [Go.Proofs.YtiecbconcdncmabGreatDoor.add_plain, (hf i hi).1] at g0
      rw [Go.Proofs.YtiecbconcdncmabGreatDoor.add_plain, (hf i hi).2, ← Nat.add_assoc] at g1
      exact ⟨g0, g1⟩

end Go.Proofs.YtiecbconcdncmabGreatDoor
