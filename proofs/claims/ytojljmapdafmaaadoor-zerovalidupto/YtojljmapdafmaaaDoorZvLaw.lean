/- ZeroValid: the law. -/
import Derived.Test.YtojljmapdafmaaaDoorZeAl3
import Derived.Test.YtojljmapdafmaaaDoorZeCo
import Derived.Test.YtojljmapdafmaaaDoorZeSame
import Derived.Test.YtojljmapdafmaaaDoorCnErr
namespace Go.Proofs.YtojljmapdafmaaaDoor
open Go.RowKit

theorem row_leZ {R : Nat} {ns : Nat → Nat} (hs : sumT ns R ≤ 400) (i : Nat) (hi : i < R) : ns i ≤ 400 := by
  have h2 : sumT ns i + ns i ≤ sumT ns R := sumT_mono ns hi
  omega
theorem grE_leZ (N : Int) (m : Nat) (p q : Nat → Int) : grE N m p q ≤ 8 := by
  unfold grE
  split
  · decide
  · split <;> decide

set_option maxRecDepth 100000 in
set_option maxHeartbeats 8000000 in
theorem ZeroValid_all (a : Nat → Addr) (N : Int) (m : Nat) (ev : Value) (p q : Nat → Int) (ad' : Option Addr) (R cap' : Nat) (vs : Nat → Value) (ns : Nat → Nat) (zs : Nat → Nat → Int) (w : World) (hE : Errs w a) (hT : TzAt w) (hG : EdAt w ev m p q) (hm : m ≤ maxLen) (k : TabAt w (.slice ad' R cap') R vs ns zs) (hm' : R ≤ maxLen) (hs : sumT ns R ≤ 2000000) :
    Calls Tryd.prog 3 #[.agg #[.int .i64 N, ev], .slice ad' R cap'] w fun e w' => e = .returned (.bool true) ∧ Below w.heap.size w w' := by
  obtain ⟨ad, cap, rfl, -⟩ := id hG
  obtain ⟨w1, hw1⟩ : ∃ w1, w1 = w.alloc (.cells #[.int .i64 N, .slice ad m cap] 24) := ⟨_, rfl⟩
  have hb1 : Below w.heap.size w w1 := by rw [hw1]; exact (Below.refl _ _).alloc (Nat.le_refl _) _
  have hc0 : w1.cell? ⟨w.heap.size, 0, none⟩ = some (.int .i64 N) := by rw [hw1]; go_simp
  have hc1 : w1.cell? ⟨w.heap.size, 1, none⟩ = some (.slice ad m cap) := by rw [hw1]; go_simp
  have HC : Hid (∀ W, Below w1.heap.size w1 W → W.cell? ⟨w.heap.size, 0, none⟩ = some (.int .i64 N) ∧ W.cell? ⟨w.heap.size, 1, none⟩ = some (.slice ad m cap)) := fun W hb => ⟨by rw [hb.cell (cell_lt hc0)]; exact hc0, by rw [hb.cell (cell_lt hc1)]; exact hc1⟩
  have HE : Hid (∀ W, Below w1.heap.size w1 W → Errs W a) := fun W hb => (hE.below hb1).below hb
  have HG : Hid (∀ W, Below w1.heap.size w1 W → EdAt W (.slice ad m cap) m p q) := fun W hb => (hG.later hb1).later hb
  have HK : Hid (∀ W, Below w1.heap.size w1 W → TabAt W (.slice ad' R cap') R vs ns zs) := fun W hb => (k.later hb1).later hb
  have HW1 := Hid.mk' hw1
  have HEND : Hid (∀ W, Below w1.heap.size w1 W → Below w.heap.size w W) := fun W hb => hb1.trans (hb.mono hb1.size)
  have HPE := Hid.mk' (pentagon_any a w1 (hE.below hb1) (hT.below hb1))
  have HM := Hid.mk' hm
  have HF : Hid (∀ W, Below w1.heap.size w1 W → ∀ r : Bool, (r = true ↔ R ≤ 40 ∧ sumT ns R ≤ 400) → Calls Tryd.prog 9 #[.slice ad' R cap'] W fun e w' => e = .returned (.bool r) ∧ Below W.heap.size W w') := fun W hb r hr => few_any _ R vs ns zs W ((k.later hb1).later hb) hm' hs r hr
  clear hE hT hG hb1 hw1 hc0 hc1 hm k hm' hs
  go_enter Tryd.func3, Tryd.ntmps3
  go_upto_region 1 with fail
  rw [← HW1.out]
  go_wp2_with fail
  refine HPE.out.mono ?_
  rintro e w2 ⟨rfl, hb2⟩
  have HB2 := Hid.mk' hb2
  obtain ⟨c0, c1⟩ := HC.out _ hb2
  clear hb2 HPE
  have HLI := Hid.mk' (little_any N ad m cap HM.out w2)
  by_cases h200 : m ≤ 200
  · rw [decide_eq_true h200] at HLI
    go_wp2_with fail
    refine HLI.out.mono ?_
    rintro e w3 ⟨rfl, hb3⟩
    have HB3 := Hid.mk' (HB2.out.trans (hb3.mono HB2.out.size))
    clear hb3 HLI HB2 c0 c1
    by_cases hf : R ≤ 40 ∧ sumT ns R ≤ 400
    · have HFW := Hid.mk' (HF.out w3 HB3.out true ⟨fun _ => hf, fun _ => rfl⟩)
      obtain ⟨hf1, hf2⟩ := hf
      go_wp2_with fail
      refine HFW.out.mono ?_
      rintro e w4 ⟨rfl, hb4⟩
      have HB4 := Hid.mk' (HB3.out.trans (hb4.mono HB3.out.size))
      clear hb4 HFW HB3
      have hm1 : m ≤ 1000 := by omega
      have HGR : Hid (∀ W, Below w1.heap.size w1 W → Calls Tryd.prog 12 #[.agg #[.int .i64 N, .slice ad m cap]] W fun e w' => ∃ v, e = .returned (.agg #[.int .i64 N, v]) ∧ EdAt w' v m p q ∧ Below W.heap.size W w') := fun W hb => graph_any N m _ p q W (HG.out _ hb) hm1
      have HVA : Hid (∀ W v, Below w1.heap.size w1 W → EdAt W v m p q → Calls Tryd.prog 11 #[.agg #[.int .i64 N, v]] W fun e w' => e = .returned (errV a (grE N m p q)) ∧ Below W.heap.size W w') := fun W v hb hv => ZValid_any a N m v p q W (HE.out _ hb) hv hm1
      have HGE : Hid (∀ W, Below w1.heap.size w1 W → Calls Tryd.prog 13 #[.agg #[.int .i64 N, .slice ad m cap]] W fun e w' => e = .returned (.int .i64 (grE N m p q : Nat)) ∧ Below W.heap.size W w') := fun W hb => GraphError_any N m _ p q W (HG.out _ hb) hm1
      have HCO : Hid (∀ W, Below w1.heap.size w1 W → Calls Tryd.prog 10 #[errV a (grE N m p q), .int .i64 (grE N m p q : Nat)] W fun e w' => e = .returned (.bool true) ∧ Below W.heap.size W w') := fun W hb => coded_errV a _ (grE_leZ N m p q) W (HE.out _ hb)
      have HCE : Hid (∀ W, Below w1.heap.size w1 W → Calls Tryd.prog 14 #[.slice ad' R cap'] W fun e w' => e = .returned (.int .i64 (chanErr R ns zs : Nat)) ∧ Below W.heap.size W w') := fun W hb => ChannelError_any _ R vs ns zs W (HK.out _ hb) (by omega) (fun i hi => by have := row_leZ hf2 i hi; omega)
      have HLS : Hid (∀ W, Below w1.heap.size w1 W → Calls Tryd.prog 17 #[.slice ad' R cap'] W fun e w' => ∃ v vs', e = .returned v ∧ TabAt w' v R vs' ns zs ∧ Below W.heap.size W w') := fun W hb => lists_any _ R vs ns zs W (HK.out _ hb) hf1 hf2
      have HOF : Hid (∀ (W : World) (v : Value) (vs' : Nat → Value), Below w1.heap.size w1 W → TabAt W v R vs' ns zs → Calls Tryd.prog 16 #[v] W fun e w' => ∃ u, e = .returned (.tuple #[.agg #[.int .i64 (ofN R ns zs : Nat), u], errV a (chanErr R ns zs)]) ∧ w'.ownsRow W.heap.size 51 2 u (ofE R ns zs).length (pairCells (ofE R ns zs)) ∧ Below W.heap.size W w') := fun W v vs' hb hv => Of_any a v R vs' ns zs W (HE.out _ hb) hv hf1 (row_leZ hf2)
      have HCD : Hid (∀ W, Below w1.heap.size w1 W → Calls Tryd.prog 10 #[errV a (chanErr R ns zs), .int .i64 (chanErr R ns zs : Nat)] W fun e w' => e = .returned (.bool true) ∧ Below W.heap.size W w') := fun W hb => coded_errV a _ (by have := chanErr_le R ns zs; omega) W (HE.out _ hb)
      have hcur0 := HB4.out
      have hcur := HB4.out.drew
      generalize hgv : errV a (grE N m p q) = GV at *
      generalize grE N m p q = GE at *
      clear hgv
      go_wp2_with fail
      go_region_held3 (fun W => W.cell? ⟨w.heap.size, 0, none⟩ = some (.int .i64 N) ∧ W.cell? ⟨w.heap.size, 1, none⟩ = some (.slice ad m cap))
        (first | exact HC.out _ hcur | exact HC.out _ hcur0 | exact HC.out _ hB5 | exact HC.out _ hB6 | exact HC.out _ hB7 | exact HC.out _ hB8)
        (first
          | (go_at_call 10; refine (HCO.out _ hB7).mono ?_; rintro e w8 ⟨rfl, hb8⟩; have hB8 := hB7.trans (hb8.mono hB7.size); clear hb8)
          | (go_at_call 13; refine (HGE.out _ hB6).mono ?_; rintro e w7 ⟨rfl, hb7⟩; have hB7 := hB6.trans (hb7.mono hB6.size); clear hb7)
          | (go_at_call 11; refine (HVA.out _ _ hB5 HV5.out).mono ?_; rintro e w6 ⟨rfl, hb6⟩; have hB6 := hB5.trans (hb6.mono hB5.size); clear hb6)
          | (go_at_call 12; refine (HGR.out _ hcur).mono ?_; rintro e w5 ⟨v5, rfl, hv5, hb5⟩; have hB5 := hcur.trans (hb5.mono hcur.size); have HV5 := Hid.mk' hv5; obtain ⟨a5, k5, rfl, -⟩ := hv5; clear hb5))
      have HB8 := Hid.mk' hB8
      clear hB5 hB6 hB7 hB8 hcur hcur0 HV5 HGR HVA HGE HCO
      go_wp2_with fail
      refine (HCE.out _ HB8.out).mono ?_
      rintro e w9 ⟨rfl, hb9⟩
      have HB9 := Hid.mk' (HB8.out.trans (hb9.mono HB8.out.size))
      clear hb9 HCE HB8
      by_cases h0 : chanErr R ns zs = 0
      · obtain ⟨hR0, hR16, hC0, hC16, hev, _, _⟩ := chanErr_ok h0
        have eN : ofN R ns zs = R := if_pos h0
        have eE : ofE R ns zs = edTo (fun i k => meetB (zs i) (zs k) (ns 0)) R R := if_pos h0
        obtain ⟨W10, hW10⟩ : ∃ W, W = w9.alloc (.cells #[.int .i64 0, .slice none 0 0] 24) := ⟨_, rfl⟩
        have hb10 : Below w9.heap.size w9 W10 := by rw [hW10]; exact (Below.refl _ _).alloc (Nat.le_refl _) _
        have z0 : W10.cell? ⟨w9.heap.size, 0, none⟩ = some (.int .i64 0) := by rw [hW10]; go_simp
        have z1 : W10.cell? ⟨w9.heap.size, 1, none⟩ = some (.slice none 0 0) := by rw [hW10]; go_simp
        have zf0 : W10.frozen? ⟨w9.heap.size, 0, none⟩ = false := by rw [hW10]; go_simp
        have zf1 : W10.frozen? ⟨w9.heap.size, 1, none⟩ = false := by rw [hW10]; go_simp
        have HB10 : Hid (Below w1.heap.size w1 W10) := HB9.out.trans (hb10.mono HB9.out.size)
        have HCF := Hid.mk' (ConfusedOf_any _ R (ns 0) vs ns zs W10 (HK.out _ HB10.out) hR0 hR16 hC0 hC16 hev)
        have HW10 := Hid.mk' hW10
        have HZ : Hid (∀ W, Below W10.heap.size W10 W → W.cell? ⟨w9.heap.size, 0, none⟩ = some (.int .i64 0) ∧ W.cell? ⟨w9.heap.size, 1, none⟩ = some (.slice none 0 0) ∧ W.frozen? ⟨w9.heap.size, 0, none⟩ = false ∧ W.frozen? ⟨w9.heap.size, 1, none⟩ = false) := fun W hb => ⟨by rw [hb.cell (cell_lt z0)]; exact z0, by rw [hb.cell (cell_lt z1)]; exact z1, by rw [hb.frozen (p := ⟨w9.heap.size, 0, none⟩) (cell_lt z0)]; exact zf0, by rw [hb.frozen (p := ⟨w9.heap.size, 1, none⟩) (cell_lt z1)]; exact zf1⟩
        have HLZ : Hid (w9.heap.size < W10.heap.size) := cell_lt z0
        rw [eN, eE, h0, errV_zero] at HOF
        rw [h0, errV_zero] at HCD
        rw [h0]
        have HRI : (R : Int) ≤ 16 := by omega
        have HLE : Hid ((edTo (fun i k => meetB (zs i) (zs k) (ns 0)) R R).length ≤ 1000) := by
          have := edTo_length (fun i k => meetB (zs i) (zs k) (ns 0)) R R
          have h3 : R * R ≤ 16 * 16 := Nat.mul_le_mul hR16 hR16
          show _ ≤ _
          omega
        clear h0 eN eE hev z0 z1 zf0 zf1 hb10 hW10
        generalize edTo (fun i k => meetB (zs i) (zs k) (ns 0)) R R = E at *
        go_wp2_with fail
        rw [← HW10.out]
        refine HCF.out.mono ?_
        rintro e w11 ⟨u11, rfl, h11, hb11⟩
        obtain ⟨z0, z1, zf0, zf1⟩ := HZ.out _ hb11
        obtain ⟨ao, co, rfl, _⟩ := row_shape2 h11
        obtain ⟨W12, hW12⟩ : ∃ W, W = (w11.setCell ⟨w9.heap.size, 0, none⟩ (.int .i64 (R : Int))).setCell ⟨w9.heap.size, 1, none⟩ (.slice ao E.length co) := ⟨_, rfl⟩
        have HW12 := Hid.mk' hW12
        have hb12 : Below w9.heap.size w9 W12 := by
          rw [hW12]
          have h3 : Below w9.heap.size w9 W10 := by rw [HW10.out]; exact (Below.refl _ _).alloc (Nat.le_refl _) _
          exact ((h3.trans (hb11.mono h3.size)).setCell (Nat.le_refl _) _).setCell (Nat.le_refl _) _
        have y0 : W12.cell? ⟨w9.heap.size, 0, none⟩ = some (.int .i64 (R : Int)) := by
          rw [hW12, World.cell?_setCell_other _ _ _ _ (by simp), World.cell?_setCell_same _ _ _ z0]
        have y1 : W12.cell? ⟨w9.heap.size, 1, none⟩ = some (.slice ao E.length co) := by
          rw [hW12]
          exact World.cell?_setCell_same _ _ _ (by rw [World.cell?_setCell_other _ _ _ _ (by simp)]; exact z1)
        have HY : Hid (∀ W, Below W12.heap.size W12 W → W.cell? ⟨w9.heap.size, 0, none⟩ = some (.int .i64 (R : Int)) ∧ W.cell? ⟨w9.heap.size, 1, none⟩ = some (.slice ao E.length co)) := fun W hb => ⟨by rw [hb.cell (cell_lt y0)]; exact y0, by rw [hb.cell (cell_lt y1)]; exact y1⟩
        have HR12 : Hid (EdAt W12 (.slice ao E.length co) E.length (fun i => ((E.getD i (0, 0)).1 : Nat)) (fun i => ((E.getD i (0, 0)).2 : Nat))) := by
          rw [hW12]
          exact edAt_row (ownsRow_setCell_below (ownsRow_setCell_below h11 (a := ⟨w9.heap.size, 0, none⟩) HLZ.out _) (a := ⟨w9.heap.size, 1, none⟩) HLZ.out _)
        have HB12 : Hid (Below w1.heap.size w1 W12) := HB9.out.trans (hb12.mono HB9.out.size)
        clear h11 hb11 hW12 hb12 y0 y1 HCF HZ HW10 HB10 HB9
        go_wp2_with fail
        rw [← HW12.out]
        clear z0 z1 zf0 zf1 HW12
        refine (HLS.out _ HB12.out).mono ?_
        rintro e w13 ⟨v13, vs13, rfl, h13, hb13⟩
        have HB13 := Hid.mk' (HB12.out.trans (hb13.mono HB12.out.size))
        have HOC := Hid.mk' (HOF.out _ _ _ HB13.out h13)
        have HBq := Hid.mk' hb13
        obtain ⟨a13, k13, rfl⟩ := h13.form
        clear h13 hb13 HLS HOF
        go_wp2_with fail
        refine HOC.out.mono ?_
        rintro e w14 ⟨u14, rfl, h14, hb14⟩
        have HB14 := Hid.mk' (HB13.out.trans (hb14.mono HB13.out.size))
        have HBr := Hid.mk' (HBq.out.trans (hb14.mono HBq.out.size))
        have HE14 := Hid.mk' (edAt_row h14)
        obtain ⟨a14, k14, rfl, _⟩ := row_shape2 h14
        clear h14 hb14 HOC HB13 HBq
        have hb15 : Below w14.heap.size w14 (w14.alloc (.cells #[.int .i64 (R : Int), .slice a14 E.length k14] 33)) := (Below.refl _ _).alloc (Nat.le_refl _) _
        have x0 : (w14.alloc (.cells #[.int .i64 (R : Int), .slice a14 E.length k14] 33)).cell? ⟨w14.heap.size, 0, none⟩ = some (.int .i64 (R : Int)) := by go_simp
        have x1 : (w14.alloc (.cells #[.int .i64 (R : Int), .slice a14 E.length k14] 33)).cell? ⟨w14.heap.size, 1, none⟩ = some (.slice a14 E.length k14) := by go_simp
        have HX := Hid.mk' (And.intro x0 x1)
        have HB15 := Hid.mk' (HB14.out.trans (hb15.mono HB14.out.size))
        have HBs := Hid.mk' (HBr.out.trans (hb15.mono HBr.out.size))
        have HE15 := Hid.mk' (HE14.out.later hb15)
        have HF15 := Hid.mk' (HR12.out.later HBs.out)
        clear x0 x1 hb15 HE14 HR12 HBr HB14
        go_wp2_with fail
        generalize w14.alloc (.cells #[.int .i64 (R : Int), .slice a14 E.length k14] 33) = W15 at *
        generalize w14.heap.size = X15 at *
        have HXX : Hid (∀ W, Below W15.heap.size W15 W → (W.cell? ⟨X15, 0, none⟩ = some (.int .i64 (R : Int)) ∧ W.cell? ⟨X15, 1, none⟩ = some (.slice a14 E.length k14)) ∧ (W.cell? ⟨w9.heap.size, 0, none⟩ = some (.int .i64 (R : Int)) ∧ W.cell? ⟨w9.heap.size, 1, none⟩ = some (.slice ao E.length co))) := fun W hb => ⟨⟨by rw [hb.cell (cell_lt HX.out.1)]; exact HX.out.1, by rw [hb.cell (cell_lt HX.out.2)]; exact HX.out.2⟩, HY.out _ (HBs.out.trans (hb.mono HBs.out.size))⟩
        have HSG : Hid (∀ W, Below W15.heap.size W15 W → Calls Tryd.prog 18 #[.agg #[.int .i64 (R : Int), .slice a14 E.length k14], .agg #[.int .i64 (R : Int), .slice ao E.length co]] W fun e w' => e = .returned (.bool true) ∧ Below W.heap.size W w') := fun W hb => SameGraph_any R E.length _ _ _ _ W (HE15.out.later hb) (HF15.out.later hb) HLE.out
        have hcur0 : Below W15.heap.size W15 W15 := Below.refl _ _
        have hcur : Below W15.heap.size W15 W15.drew := hcur0.drew
        have HCD2 : Hid (∀ W, Below W15.heap.size W15 W → Calls Tryd.prog 10 #[.nilIface, .int .i64 0] W fun e w' => e = .returned (.bool true) ∧ Below W.heap.size W w') := fun W hb => HCD.out W (HB15.out.trans (hb.mono HB15.out.size))
        clear HX HY HCD
        go_region_held3 (fun W => (W.cell? ⟨X15, 0, none⟩ = some (.int .i64 (R : Int)) ∧ W.cell? ⟨X15, 1, none⟩ = some (.slice a14 E.length k14)) ∧ (W.cell? ⟨w9.heap.size, 0, none⟩ = some (.int .i64 (R : Int)) ∧ W.cell? ⟨w9.heap.size, 1, none⟩ = some (.slice ao E.length co)))
          (first | exact HXX.out _ hcur | exact HXX.out _ hcur0 | exact HXX.out _ hB16 | exact HXX.out _ hB17 | exact HXX.out _ hB18)
          (first
            | (go_at_call 18; refine (HSG.out _ hB17).mono ?_; rintro e w18 ⟨rfl, hb18⟩; have hB18 := hB17.trans (hb18.mono hB17.size); clear hb18)
            | (go_at_call 19; refine (back_any _ _ _ _ _).mono ?_; rintro e w17 ⟨rfl, hb17⟩; have hB17 := hB16.trans (hb17.mono hB16.size); clear hb17)
            | (go_at_call 10; refine (HCD2.out _ hcur).mono ?_; rintro e w16 ⟨rfl, hb16⟩; have hB16 := hcur.trans (hb16.mono hcur.size); clear hb16))
        go_wp2_with fail
        go_ret
        exact ⟨rfl, HEND.out _ (HB15.out.trans (hB18.mono HB15.out.size))⟩
      · have eN : ofN R ns zs = 0 := if_neg h0
        have eE : ofE R ns zs = [] := if_neg h0
        have hEV := errV_pos a h0
        have hne : (((chanErr R ns zs : Nat) : Int) == 0) = false := by simp; omega
        rw [eN, eE, hEV] at HOF
        rw [hEV] at HCD
        generalize hEVV : Value.iface 118 (.pointer (some (a (chanErr R ns zs - 1)))) = EV at *
        generalize chanErr R ns zs = EC at *
        clear h0 eN eE hEV hEVV
        obtain ⟨W12, hW12⟩ : ∃ W, W = w9.alloc (.cells #[.int .i64 0, .slice none 0 0] 24) := ⟨_, rfl⟩
        have hb12 : Below w9.heap.size w9 W12 := by rw [hW12]; exact (Below.refl _ _).alloc (Nat.le_refl _) _
        have y0 : W12.cell? ⟨w9.heap.size, 0, none⟩ = some (.int .i64 0) := by rw [hW12]; go_simp
        have y1 : W12.cell? ⟨w9.heap.size, 1, none⟩ = some (.slice none 0 0) := by rw [hW12]; go_simp
        have HY : Hid (∀ W, Below W12.heap.size W12 W → W.cell? ⟨w9.heap.size, 0, none⟩ = some (.int .i64 (0 : Int)) ∧ W.cell? ⟨w9.heap.size, 1, none⟩ = some (.slice none 0 0)) := fun W hb => ⟨by rw [hb.cell (cell_lt y0)]; exact y0, by rw [hb.cell (cell_lt y1)]; exact y1⟩
        have HR12 : Hid (EdAt W12 (.slice none 0 0) 0 (fun _ => 0) (fun _ => 0)) := ⟨none, 0, rfl, Or.inl rfl⟩
        have HB12 : Hid (Below w1.heap.size w1 W12) := HB9.out.trans (hb12.mono HB9.out.size)
        have HW12 := Hid.mk' hW12
        clear hW12 hb12 y0 y1 HB9
        go_wp2_with fail
        rw [← HW12.out]
        clear HW12
        refine (HLS.out _ HB12.out).mono ?_
        rintro e w13 ⟨v13, vs13, rfl, h13, hb13⟩
        have HB13 := Hid.mk' (HB12.out.trans (hb13.mono HB12.out.size))
        have HOC := Hid.mk' (HOF.out _ _ _ HB13.out h13)
        have HBq := Hid.mk' hb13
        obtain ⟨a13, k13, rfl⟩ := h13.form
        clear h13 hb13 HLS HOF
        go_wp2_with fail
        refine HOC.out.mono ?_
        rintro e w14 ⟨u14, rfl, h14, hb14⟩
        have HB14 := Hid.mk' (HB13.out.trans (hb14.mono HB13.out.size))
        have HBr := Hid.mk' (HBq.out.trans (hb14.mono HBq.out.size))
        obtain ⟨a14, k14, rfl, _⟩ := row_shape2 h14
        have HE14 : Hid (EdAt w14 (.slice a14 0 k14) 0 (fun _ => 0) (fun _ => 0)) := ⟨_, _, rfl, Or.inl rfl⟩
        clear h14 hb14 HOC HB13 HBq
        have hb15 : Below w14.heap.size w14 (w14.alloc (.cells #[.int .i64 (0 : Int), .slice a14 0 k14] 33)) := (Below.refl _ _).alloc (Nat.le_refl _) _
        have x0 : (w14.alloc (.cells #[.int .i64 (0 : Int), .slice a14 0 k14] 33)).cell? ⟨w14.heap.size, 0, none⟩ = some (.int .i64 (0 : Int)) := by go_simp
        have x1 : (w14.alloc (.cells #[.int .i64 (0 : Int), .slice a14 0 k14] 33)).cell? ⟨w14.heap.size, 1, none⟩ = some (.slice a14 0 k14) := by go_simp
        have HX := Hid.mk' (And.intro x0 x1)
        have HB15 := Hid.mk' (HB14.out.trans (hb15.mono HB14.out.size))
        have HBs := Hid.mk' (HBr.out.trans (hb15.mono HBr.out.size))
        have HE15 := Hid.mk' (HE14.out.later hb15)
        have HF15 := Hid.mk' (HR12.out.later HBs.out)
        clear x0 x1 hb15 HE14 HR12 HBr HB14
        go_wp2_with fail
        generalize w14.alloc (.cells #[.int .i64 (0 : Int), .slice a14 0 k14] 33) = W15 at *
        generalize w14.heap.size = X15 at *
        have HXX : Hid (∀ W, Below W15.heap.size W15 W → (W.cell? ⟨X15, 0, none⟩ = some (.int .i64 (0 : Int)) ∧ W.cell? ⟨X15, 1, none⟩ = some (.slice a14 0 k14)) ∧ (W.cell? ⟨w9.heap.size, 0, none⟩ = some (.int .i64 (0 : Int)) ∧ W.cell? ⟨w9.heap.size, 1, none⟩ = some (.slice none 0 0))) := fun W hb => ⟨⟨by rw [hb.cell (cell_lt HX.out.1)]; exact HX.out.1, by rw [hb.cell (cell_lt HX.out.2)]; exact HX.out.2⟩, HY.out _ (HBs.out.trans (hb.mono HBs.out.size))⟩
        have HSG : Hid (∀ W, Below W15.heap.size W15 W → Calls Tryd.prog 18 #[.agg #[.int .i64 (0 : Int), .slice a14 0 k14], .agg #[.int .i64 (0 : Int), .slice none 0 0]] W fun e w' => e = .returned (.bool true) ∧ Below W.heap.size W w') := fun W hb => SameGraph_any 0 0 _ _ _ _ W (HE15.out.later hb) (HF15.out.later hb) (by decide)
        have hcur0 : Below W15.heap.size W15 W15 := Below.refl _ _
        have hcur : Below W15.heap.size W15 W15.drew := hcur0.drew
        have HCD2 : Hid (∀ W, Below W15.heap.size W15 W → Calls Tryd.prog 10 #[EV, .int .i64 (EC : Nat)] W fun e w' => e = .returned (.bool true) ∧ Below W.heap.size W w') := fun W hb => HCD.out W (HB15.out.trans (hb.mono HB15.out.size))
        clear HX HY HCD
        go_region_held3 (fun W => (W.cell? ⟨X15, 0, none⟩ = some (.int .i64 (0 : Int)) ∧ W.cell? ⟨X15, 1, none⟩ = some (.slice a14 0 k14)) ∧ (W.cell? ⟨w9.heap.size, 0, none⟩ = some (.int .i64 (0 : Int)) ∧ W.cell? ⟨w9.heap.size, 1, none⟩ = some (.slice none 0 0)))
          (first | exact HXX.out _ hcur | exact HXX.out _ hcur0 | exact HXX.out _ hB16 | exact HXX.out _ hB17 | exact HXX.out _ hB18)
          (first
            | (go_at_call 18; refine (HSG.out _ hB17).mono ?_; rintro e w18 ⟨rfl, hb18⟩; have hB18 := hB17.trans (hb18.mono hB17.size); clear hb18)
            | (go_at_call 19; refine (back_any _ _ _ _ _).mono ?_; rintro e w17 ⟨rfl, hb17⟩; have hB17 := hB16.trans (hb17.mono hB16.size); clear hb17)
            | (go_at_call 10; refine (HCD2.out _ hcur).mono ?_; rintro e w16 ⟨rfl, hb16⟩; have hB16 := hcur.trans (hb16.mono hcur.size); clear hb16))
        go_wp2_with fail
        go_ret
        exact ⟨rfl, HEND.out _ (HB15.out.trans (hB18.mono HB15.out.size))⟩
    · have HFW := Hid.mk' (HF.out w3 HB3.out false ⟨(fun e => by cases e), (fun e => absurd e hf)⟩)
      clear hf
      go_wp2_with fail
      refine HFW.out.mono ?_
      rintro e w4 ⟨rfl, hb4⟩
      have HB4 := Hid.mk' (HB3.out.trans (hb4.mono HB3.out.size))
      clear hb4 HFW HB3
      go_wp2_with fail
      go_ret
      exact ⟨rfl, HEND.out _ HB4.out⟩
  · rw [decide_eq_false h200] at HLI
    go_wp2_with fail
    refine HLI.out.mono ?_
    rintro e w3 ⟨rfl, hb3⟩
    have HB3 := Hid.mk' (HB2.out.trans (hb3.mono HB2.out.size))
    clear hb3 HLI HB2 c0 c1
    go_wp2_with fail
    go_ret
    exact ⟨rfl, HEND.out _ HB3.out⟩
end Go.Proofs.YtojljmapdafmaaaDoor
