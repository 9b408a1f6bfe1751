/- demonlaw1.LogsRing walked. -/
import Derived.Test.YtiecbconcdncmabDoorRingWalk
import Derived.Deep.Cut
import Derived.BigQuiet
namespace Go.Proofs.YtiecbconcdncmabDoor
open Go.RowKit Go.Maps

set_option maxRecDepth 100000 in
set_option maxHeartbeats 4000000 in
theorem LogsRing_short (da db dc : Int) (a b c : Option Addr) (ca cb cc : Nat) (ta tb tc : List (Int × Int)) (ea : Nat → Addr) (w : World) (h : Errs w ea)
    (hla : LogAt w (.slice a ta.length ca) ta.length (pOf ta) (cOf ta)) (hlb : LogAt w (.slice b tb.length cb) tb.length (pOf tb) (cOf tb)) (hlc : LogAt w (.slice c tc.length cc) tc.length (pOf tc) (cOf tc)) (hna : ta.length ≤ 30) (hnb : tb.length ≤ 30) (hnc : tc.length ≤ 30) :
    Calls Tryd.prog 4 #[.agg #[.int .i64 da, .slice a ta.length ca], .agg #[.int .i64 db, .slice b tb.length cb], .agg #[.int .i64 dc, .slice c tc.length cc]] w fun e w' => e = .returned (.bool true) ∧ Below w.heap.size w w' := by
  have hb0 : Below w.heap.size w (((w.alloc (.cells #[.int .i64 da, .slice a ta.length ca] 25)).alloc (.cells #[.int .i64 db, .slice b tb.length cb] 25)).alloc (.cells #[.int .i64 dc, .slice c tc.length cc] 25)) := (((Below.refl _ _).alloc (Nat.le_refl _) _).alloc (by simp) _).alloc (by simp; omega) _
  obtain ⟨⟨x0, x1⟩, ⟨y0, y1⟩, ⟨z0, z1⟩, _, _⟩ := three_cells w (.int .i64 da) (.slice a ta.length ca) (.int .i64 db) (.slice b tb.length cb) (.int .i64 dc) (.slice c tc.length cc) 25
  have hE := eighth_any (((w.alloc (.cells #[.int .i64 da, .slice a ta.length ca] 25)).alloc (.cells #[.int .i64 db, .slice b tb.length cb] 25)).alloc (.cells #[.int .i64 dc, .slice c tc.length cc] 25))
  have HA := Hid.mk' (LX.mk x0 x1 (hla.later hb0))
  have HB := Hid.mk' (LX.mk y0 y1 (hlb.later hb0))
  have HC := Hid.mk' (LX.mk z0 z1 (hlc.later hb0))
  have HW := Hid.mk' hb0
  have HE := Hid.mk' h
  clear h hla hlb hlc hb0 x0 x1 y0 y1 z0 z1
  go_enter Tryd.func4, Tryd.ntmps4
  go_wp2_with fail
  refine hE.mono ?_
  clear hE
  rintro e w0 ⟨rfl, hb⟩
  replace HW := Hid.mk' (below_chain HW.out hb)
  replace HA := Hid.mk' (HA.out.later hb)
  replace HB := Hid.mk' (HB.out.later hb)
  replace HC := Hid.mk' (HC.out.later hb)
  have x0 := HA.out.c0
  have x1 := HA.out.c1
  have hs := short_any da a ta.length ca true (by simpa using hna) (by unfold maxLen; omega) w0
  clear hb
  go_wp2_with fail
  refine hs.mono ?_
  clear hs x0 x1
  rintro e w1 ⟨rfl, hb⟩
  replace HW := Hid.mk' (below_chain HW.out hb)
  replace HA := Hid.mk' (HA.out.later hb)
  replace HB := Hid.mk' (HB.out.later hb)
  replace HC := Hid.mk' (HC.out.later hb)
  have x0 := HB.out.c0
  have x1 := HB.out.c1
  have hs := short_any db b tb.length cb true (by simpa using hnb) (by unfold maxLen; omega) w1
  clear hb
  go_wp2_with fail
  refine hs.mono ?_
  clear hs x0 x1
  rintro e w2 ⟨rfl, hb⟩
  replace HW := Hid.mk' (below_chain HW.out hb)
  replace HA := Hid.mk' (HA.out.later hb)
  replace HB := Hid.mk' (HB.out.later hb)
  replace HC := Hid.mk' (HC.out.later hb)
  have x0 := HC.out.c0
  have x1 := HC.out.c1
  have hs := short_any dc c tc.length cc true (by simpa using hnc) (by unfold maxLen; omega) w2
  clear hb
  go_wp2_with fail
  refine hs.mono ?_
  clear hs x0 x1
  rintro e w3 ⟨rfl, hb⟩
  replace HW := Hid.mk' (below_chain HW.out hb)
  replace HA := Hid.mk' (HA.out.later hb)
  replace HB := Hid.mk' (HB.out.later hb)
  replace HC := Hid.mk' (HC.out.later hb)
  have x0 := HA.out.c0
  have x1 := HA.out.c1
  have y0 := HB.out.c0
  have y1 := HB.out.c1
  have hs := Add_call da db _ _ ta tb ea w3 (HE.out.below HW.out) HA.out.log HB.out.log (by omega)
  clear hb
  go_wp2_with fail
  refine hs.mono ?_
  clear hs x0 x1 y0 y1
  rintro e w4 ⟨d4, ad4, n4, cap4, er4, rfl, hr4, hb⟩
  replace HW := Hid.mk' (below_chain (below_chain HW.out hb) (alloc_below w4 (.cells #[.int .i64 d4, .slice ad4 n4 cap4] 25)))
  replace HA := Hid.mk' ((HA.out.later hb).more (.cells #[.int .i64 d4, .slice ad4 n4 cap4] 25))
  replace HB := Hid.mk' ((HB.out.later hb).more (.cells #[.int .i64 d4, .slice ad4 n4 cap4] 25))
  replace HC := Hid.mk' ((HC.out.later hb).more (.cells #[.int .i64 d4, .slice ad4 n4 cap4] 25))
  have HX := Hid.mk' (AB.new hr4)
  have x0 := HA.out.c0
  have x1 := HA.out.c1
  have y0 := HB.out.c0
  have y1 := HB.out.c1
  have hs := Add_call db da _ _ tb ta ea _ (HE.out.below HW.out) HB.out.log HA.out.log (by omega)
  clear hb hr4
  go_wp2_with fail
  refine hs.mono ?_
  clear hs x0 x1 y0 y1
  rintro e w5 ⟨d5, ad5, n5, cap5, er5, rfl, hr5, hb⟩
  replace HW := Hid.mk' (below_chain (below_chain HW.out hb) (alloc_below w5 (.cells #[.int .i64 d5, .slice ad5 n5 cap5] 25)))
  replace HA := Hid.mk' ((HA.out.later hb).more (.cells #[.int .i64 d5, .slice ad5 n5 cap5] 25))
  replace HB := Hid.mk' ((HB.out.later hb).more (.cells #[.int .i64 d5, .slice ad5 n5 cap5] 25))
  replace HC := Hid.mk' ((HC.out.later hb).more (.cells #[.int .i64 d5, .slice ad5 n5 cap5] 25))
  replace HX := Hid.mk' ((HX.out.later hb).more (.cells #[.int .i64 d5, .slice ad5 n5 cap5] 25))
  have HY := Hid.mk' (AB.new hr5)
  have hsz := hb.size
  simp at hsz
  clear hb
  rcases hr5 with ⟨dy, ty, hoky, rfl, rfl, _⟩ | ⟨hno, ade, rfl⟩
  case inr =>
    obtain ⟨adx, rfl⟩ : ∃ adx, er4 = .iface 102 (.pointer (some adx)) := by
      rcases HX.out.res with ⟨dx, tx, hok, _, _, _⟩ | ⟨_, h⟩
      · exact absurd hok.comm (hno _ _)
      · exact h
    go_wp2_with fail
    go_quiet (fail)
    go_wp2_with fail
    go_ret
    exact ⟨rfl, below_drewN HW.out _⟩
  obtain ⟨hokx, rfl, rfl, HLX⟩ : SumOk da db ta tb dy ty ∧ d4 = (dy : Nat) ∧ er4 = .nilIface ∧ Hid (LO (w5.alloc (.cells #[.int .i64 dy, .slice ad5 n5 cap5] 25)) w4.heap.size d4 (.slice ad4 n4 cap4) ty) := by
    rcases HX.out.res with ⟨dx, tx, hok, h1, h2, h3⟩ | ⟨hn, _⟩
    · obtain ⟨rfl, rfl⟩ := hok.comm.uniq hoky
      exact ⟨hok, h1, h2, ⟨HX.out.c0, HX.out.c1, h3⟩⟩
    · exact absurd hoky.comm (hn _ _)
  have HLY : Hid (LO (w5.alloc (.cells #[.int .i64 dy, .slice ad5 n5 cap5] 25)) w5.heap.size dy (.slice ad5 n5 cap5) ty) := by
    rcases HY.out.res with ⟨dx, tx, hok, h1, h2, h3⟩ | ⟨hn, _⟩
    · obtain ⟨_, rfl⟩ := hok.uniq hoky
      exact ⟨HY.out.c0, HY.out.c1, h3⟩
    · exact absurd hoky (hn _ _)
  have hlx := hokx.2.2.1.len
  have HOX := Hid.mk' hokx
  have x0 := HLX.out.c0
  have x1 := HLX.out.c1
  have y0 := HC.out.c0
  have y1 := HC.out.c1
  have hs := Add_call dy dc _ _ ty tc ea _ (HE.out.below HW.out) HLX.out.list.log HC.out.log (by omega)
  clear HX HY hoky hokx
  go_wp2_with fail
  refine hs.mono ?_
  clear hs x0 x1 y0 y1
  rintro e w6 ⟨d6, ad6, n6, cap6, er6, rfl, hr6, hb⟩
  replace HW := Hid.mk' (below_chain (below_chain HW.out hb) (alloc_below w6 (.cells #[.int .i64 d6, .slice ad6 n6 cap6] 25)))
  replace HA := Hid.mk' ((HA.out.later hb).more (.cells #[.int .i64 d6, .slice ad6 n6 cap6] 25))
  replace HB := Hid.mk' ((HB.out.later hb).more (.cells #[.int .i64 d6, .slice ad6 n6 cap6] 25))
  replace HC := Hid.mk' ((HC.out.later hb).more (.cells #[.int .i64 d6, .slice ad6 n6 cap6] 25))
  replace HLX := Hid.mk' ((HLX.out.later hb).more (.cells #[.int .i64 d6, .slice ad6 n6 cap6] 25))
  replace HLY := Hid.mk' ((HLY.out.later hb).more (.cells #[.int .i64 d6, .slice ad6 n6 cap6] 25))
  have HP := Hid.mk' (AB.new hr6)
  have hsz6 := hb.size
  simp at hsz6
  have x0 := HB.out.c0
  have x1 := HB.out.c1
  have y0 := HC.out.c0
  have y1 := HC.out.c1
  have hs := Add_call db dc _ _ tb tc ea _ (HE.out.below HW.out) HB.out.log HC.out.log (by omega)
  clear hb hr6
  go_wp2_with fail
  refine hs.mono ?_
  clear hs x0 x1 y0 y1
  rintro e w7 ⟨d7, ad7, n7, cap7, er7, rfl, hr7, hb⟩
  replace HW := Hid.mk' (below_chain (below_chain HW.out hb) (alloc_below w7 (.cells #[.int .i64 d7, .slice ad7 n7 cap7] 25)))
  replace HA := Hid.mk' ((HA.out.later hb).more (.cells #[.int .i64 d7, .slice ad7 n7 cap7] 25))
  replace HB := Hid.mk' ((HB.out.later hb).more (.cells #[.int .i64 d7, .slice ad7 n7 cap7] 25))
  replace HLX := Hid.mk' ((HLX.out.later hb).more (.cells #[.int .i64 d7, .slice ad7 n7 cap7] 25))
  replace HLY := Hid.mk' ((HLY.out.later hb).more (.cells #[.int .i64 d7, .slice ad7 n7 cap7] 25))
  replace HP := Hid.mk' ((HP.out.later hb).more (.cells #[.int .i64 d7, .slice ad7 n7 cap7] 25))
  have HQ := Hid.mk' (AB.new hr7)
  have hsz7 := hb.size
  simp at hsz7
  have x0 := HLX.out.c0
  have x1 := HLX.out.c1
  have y0 := HLY.out.c0
  have y1 := HLY.out.c1
  have hs := SameLog_own dy _ _ ty.length (pOf ty) (cOf ty) _ HLX.out.list HLY.out.list (by omega)
  clear hb hr7 HC
  go_wp2_with fail
  refine hs.mono ?_
  clear hs x0 x1 y0 y1 HLY
  rintro e w8 ⟨rfl, hb⟩
  replace HW := Hid.mk' (below_chain HW.out hb)
  replace HA := Hid.mk' (HA.out.later hb)
  replace HB := Hid.mk' (HB.out.later hb)
  replace HLX := Hid.mk' (HLX.out.later hb)
  replace HP := Hid.mk' (HP.out.later hb)
  replace HQ := Hid.mk' (HQ.out.later hb)
  clear hb
  go_upto_region 14 with fail
  go_cut [95] from 32 (fun s wx => ∃ b : Bool, s = .bool b ∧ Hid (b = true → er6 = .nilIface ∧ er7 = .nilIface) ∧ wx = w8)
  case first =>
    have hP : er6 = .nilIface ∨ ∃ ad, er6 = .iface 102 (.pointer (some ad)) := by
      rcases HP.out.res with ⟨_, _, _, _, h, _⟩ | ⟨_, h⟩
      · exact Or.inl h
      · exact Or.inr h
    have hQ : er7 = .nilIface ∨ ∃ ad, er7 = .iface 102 (.pointer (some ad)) := by
      rcases HQ.out.res with ⟨_, _, _, _, h, _⟩ | ⟨_, h⟩
      · exact Or.inl h
      · exact Or.inr h
    rcases hP with rfl | ⟨ad, rfl⟩
    · rcases hQ with rfl | ⟨ad', rfl⟩
      · go_wp2_with fail
        go_meet
        exact ⟨true, rfl, Hid.mk' (fun _ => by simp), rfl⟩
      · go_wp2_with fail
        go_meet
        exact ⟨false, rfl, Hid.mk' (fun h => absurd h (by decide)), rfl⟩
    · go_wp2_with fail
      go_meet
      exact ⟨false, rfl, Hid.mk' (fun h => absurd h (by decide)), rfl⟩
  case rest =>
    obtain ⟨bt, rfl, HBT, hwc⟩ := hcut
    rw [hwc]
    clear hwc
    go_upto_if 95 with fail
    go_cut [18, 19] from 32 (fun _ _ wx => Hid (Below w8.heap.size w8 wx))
    case first =>
      cases bt
      · go_wp2_with fail
        go_meet
        exact Hid.mk' (Below.refl _ _)
      · obtain ⟨rfl, rfl⟩ := HBT.out rfl
        obtain ⟨dp, tp, hokp, rfl, HLP⟩ : ∃ dp tp, SumOk dy dc ty tc dp tp ∧ d6 = (dp : Nat) ∧ Hid (LO w8 w6.heap.size d6 (.slice ad6 n6 cap6) tp) := by
          rcases HP.out.res with ⟨dp, tp, hok, h1, h2, h3⟩ | ⟨_, _, h⟩
          · exact ⟨dp, tp, hok, h1, ⟨HP.out.c0, HP.out.c1, h3⟩⟩
          · cases h
        obtain ⟨dq, tq, hokq, rfl, HLQ⟩ : ∃ dq tq, SumOk db dc tb tc dq tq ∧ d7 = (dq : Nat) ∧ Hid (LO w8 w7.heap.size d7 (.slice ad7 n7 cap7) tq) := by
          rcases HQ.out.res with ⟨dp, tp, hok, h1, h2, h3⟩ | ⟨_, _, h⟩
          · exact ⟨dp, tp, hok, h1, ⟨HQ.out.c0, HQ.out.c1, h3⟩⟩
          · cases h
        have hlq := hokq.2.2.1.len
        have hlp := hokp.2.2.1.len
        have HOP := Hid.mk' hokp
        have HOQ := Hid.mk' hokq
        have x0 := HA.out.c0
        have x1 := HA.out.c1
        have y0 := HLQ.out.c0
        have y1 := HLQ.out.c1
        have hs := Add_call da dq _ _ ta tq ea w8 (HE.out.below HW.out) HA.out.log HLQ.out.list.log (by omega)
        clear HP HQ hokp hokq HBT
        go_wp2_with fail
        refine hs.mono ?_
        clear hs x0 x1 y0 y1
        rintro e w9 ⟨d9, ad9, n9, cap9, er9, rfl, hr9, hb⟩
        have HB9 := Hid.mk' (below_chain hb (alloc_below w9 (.cells #[.int .i64 d9, .slice ad9 n9 cap9] 25)))
        rcases hr9 with ⟨dr, tr, hokr, rfl, rfl, hlr⟩ | ⟨_, ade, rfl⟩
        · obtain ⟨rfl, rfl⟩ := HOX.out.assoc HOP.out HOQ.out hokr
          have HLR := Hid.mk' (LO.new (d := (dp : Nat)) hlr)
          replace HLP := Hid.mk' ((HLP.out.later hb).more (.cells #[.int .i64 dp, .slice ad9 n9 cap9] 25))
          have x0 := HLP.out.c0
          have x1 := HLP.out.c1
          have y0 := HLR.out.c0
          have y1 := HLR.out.c1
          have hs := SameLog_own dp _ _ tp.length (pOf tp) (cOf tp) _ HLP.out.list HLR.out.list (by omega)
          clear hokr hlr hb
          go_wp2_with fail
          refine hs.mono ?_
          clear hs x0 x1 y0 y1
          rintro e w10 ⟨rfl, hb⟩
          have HB10 := Hid.mk' (below_chain HB9.out hb)
          clear hb
          go_wp2_with fail
          go_meet
          exact HB10
        · clear hb
          go_wp2_with fail
          go_meet
          exact HB9
    case rest =>
      replace HW := Hid.mk' (below_chain HW.out hcut.out)
      replace HA := Hid.mk' (HA.out.later hcut.out)
      replace HB := Hid.mk' (HB.out.later hcut.out)
      replace HLX := Hid.mk' (HLX.out.later hcut.out)
      clear hcut HP HQ HBT
      have hoka := HOX.out.1
      have HOA := Hid.mk' hoka
      have x0 := HA.out.c0
      have x1 := HA.out.c1
      have hs := Scale_back da _ ta.length (pOf ta) (cOf ta) ea wc (HE.out.below HW.out) HA.out.log hoka (by omega)
      clear hoka
      go_wp2_with fail
      refine hs.mono ?_
      clear hs x0 x1
      rintro e w9 ⟨v9, rfl, ho9, hb⟩
      obtain ⟨ad9, n9, cap9, rfl⟩ := ownAt_slice ho9
      replace HW := Hid.mk' (below_chain (below_chain HW.out hb) (alloc_below w9 (.cells #[.int .i64 da, .slice ad9 n9 cap9] 25)))
      replace HA := Hid.mk' ((HA.out.later hb).more (.cells #[.int .i64 da, .slice ad9 n9 cap9] 25))
      replace HB := Hid.mk' ((HB.out.later hb).more (.cells #[.int .i64 da, .slice ad9 n9 cap9] 25))
      replace HLX := Hid.mk' ((HLX.out.later hb).more (.cells #[.int .i64 da, .slice ad9 n9 cap9] 25))
      have HN := Hid.mk' (ON.new (d := da) ho9)
      obtain ⟨fit, hfit⟩ := some_bool (cost (pOf ta) (cOf ta) ta.length ≤ 40000)
      have x0 := HA.out.c0
      have x1 := HA.out.c1
      have hs := Sign_log da _ ta.length (pOf ta) (cOf ta) ea true fit ⟨fun _ => HOA.out, fun _ => rfl⟩ hfit _ (HE.out.below HW.out) HA.out.log (by omega)
      obtain ⟨hz1, hz2⟩ := cmpOf_back (sideUp (pOf ta) (cOf ta) 1 ta.length) (sideDown (pOf ta) (cOf ta) 1 ta.length)
      have HS2 := Hid.mk' (fun (W : World) (hE : Errs W ea) (hl : LogAt W (.slice ad9 n9 cap9) ta.length (pOf ta) (fun i => -cOf ta i)) => Sign_log da _ ta.length (pOf ta) (fun i => -cOf ta i) ea true fit ⟨fun _ => HOA.out.back, fun _ => rfl⟩ (by rw [cost_back]; exact hfit) W hE hl (by omega))
      simp only [Bool.true_and] at hs
      simp only [Bool.true_and, (sides_back (t := 1) HOA.out.nzc ta.length (Nat.le_refl _)).1, (sides_back (t := 1) HOA.out.nzc ta.length (Nat.le_refl _)).2, hz1] at HS2
      generalize cmpOf (sideUp (pOf ta) (cOf ta) 1 ta.length) (sideDown (pOf ta) (cOf ta) 1 ta.length) = z at *
      generalize hu : (if fit = true then z else 0) = u at hs HS2
      generalize hv : (if fit = true then -z else 0) = v at hs HS2
      generalize he : powErr true fit ea = er at hs HS2
      have HU : Hid ((fit = false ∧ ∃ ad, er = .iface 102 (.pointer (some ad))) ∨ (er = .nilIface ∧ u = z ∧ v = -z)) := by
        cases fit
        · exact Or.inl ⟨rfl, _, he.symm⟩
        · exact Or.inr ⟨he.symm, by simpa using hu.symm, by simpa using hv.symm⟩
      have HZ := Hid.mk' hz2
      clear hb ho9 hfit hz1 hz2 hu hv he
      go_wp2_with fail
      refine hs.mono ?_
      clear hs x0 x1
      rintro e w10 ⟨rfl, hb⟩
      replace HW := Hid.mk' (below_chain HW.out hb)
      replace HA := Hid.mk' (HA.out.later hb)
      replace HB := Hid.mk' (HB.out.later hb)
      replace HLX := Hid.mk' (HLX.out.later hb)
      replace HN := Hid.mk' (HN.out.later hb)
      have x0 := HN.out.c0
      have x1 := HN.out.c1
      have hs := HS2.out _ (HE.out.below HW.out) HN.out.log
      clear hb HS2
      go_wp2_with fail
      refine hs.mono ?_
      clear hs x0 x1
      rintro e w11 ⟨rfl, hb⟩
      replace HW := Hid.mk' (below_chain HW.out hb)
      replace HA := Hid.mk' (HA.out.later hb)
      replace HB := Hid.mk' (HB.out.later hb)
      replace HLX := Hid.mk' (HLX.out.later hb)
      clear hb HN
      go_upto_region 23 with fail
      go_cut [139, 22, 23, 24, 25] from 32 (fun s _ _ _ _ wx => s = .bool false ∧ wx = w11)
      case first =>
        rcases HU.out with ⟨_, ad, rfl⟩ | ⟨rfl, rfl, rfl⟩
        · go_wp2_with fail
          go_meet
          exact ⟨rfl, rfl⟩
        · rcases HZ.out with rfl | rfl | rfl
          all_goals
            go_wp2_with fail
            go_meet
            exact ⟨rfl, rfl⟩
      case rest =>
        obtain ⟨rfl, hwc⟩ := hcut
        rw [hwc]
        clear hwc
        have hoka := HOX.out.1
        have hokb := HOX.out.2.1
        have hokx := HOX.out.ok
        have x0 := HA.out.c0
        have x1 := HA.out.c1
        have hs := Grains_call da _ ta ea w11 (HE.out.below HW.out) HA.out.log hoka (by omega)
        have HOBX := Hid.mk' (And.intro hokb hokx)
        clear hoka hokb hokx
        go_wp2_with fail
        refine hs.mono ?_
        clear hs x0 x1
        rintro e w12 ⟨zi, ei, rfl, hri, hb⟩
        replace HW := Hid.mk' (below_chain HW.out hb)
        replace HB := Hid.mk' (HB.out.later hb)
        replace HLX := Hid.mk' (HLX.out.later hb)
        have x0 := HB.out.c0
        have x1 := HB.out.c1
        have hs := Grains_call db _ tb ea w12 (HE.out.below HW.out) HB.out.log HOBX.out.1 (by omega)
        have HRI := Hid.mk' hri
        clear hb hri
        go_wp2_with fail
        refine hs.mono ?_
        clear hs x0 x1
        rintro e w13 ⟨zj, ej, rfl, hrj, hb⟩
        replace HW := Hid.mk' (below_chain HW.out hb)
        replace HLX := Hid.mk' (HLX.out.later hb)
        have x0 := HLX.out.c0
        have x1 := HLX.out.c1
        have hs := Grains_call dy _ ty ea w13 (HE.out.below HW.out) HLX.out.list.log HOBX.out.2 (by omega)
        have HRJ := Hid.mk' hrj
        clear hb hrj
        go_wp2_with fail
        refine hs.mono ?_
        clear hs x0 x1
        rintro e w14 ⟨zk, ek, rfl, hrk, hb⟩
        replace HW := Hid.mk' (below_chain HW.out hb)
        clear hb HLX HB HA
        rcases HRI.out with ⟨qi, rfl, rfl, li, i1, i2⟩ | ⟨adi, rfl⟩
        case inr =>
          go_wp2_with fail
          go_ret
          exact ⟨rfl, HW.out⟩
        rcases HRJ.out with ⟨qj, rfl, rfl, lj, j1, j2⟩ | ⟨adj, rfl⟩
        case inr =>
          clear li
          go_wp2_with fail
          go_ret
          exact ⟨rfl, HW.out⟩
        rcases hrk with ⟨qk, rfl, rfl, lk, k1, k2⟩ | ⟨adk, rfl⟩
        case inr =>
          clear li lj
          go_wp2_with fail
          go_ret
          exact ⟨rfl, HW.out⟩
        have hsum := gr_sum HOX.out li lj lk
        clear li lj lk HRI HRJ
        generalize qi / da = zi at *
        generalize qj / db = zj at *
        generalize qk / (dy : Int) = zk at *
        rcases hsum with rfl | rfl
        · go_wp2_with fail
          go_ret
          exact ⟨ret_bool (by simp <;> omega), HW.out⟩
        · go_wp2_with fail
          go_ret
          exact ⟨ret_bool (by simp <;> omega), HW.out⟩
end Go.Proofs.YtiecbconcdncmabDoor
