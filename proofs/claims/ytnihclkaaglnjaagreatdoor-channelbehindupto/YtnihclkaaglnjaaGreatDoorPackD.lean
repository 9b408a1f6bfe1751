/- The law ChannelBehind, where there is one. -/
import Derived.Test.YtnihclkaaglnjaaGreatDoorPackC
import Derived.Test.YtnihclkaaglnjaaGreatDoorRows
import Derived.Test.YtnihclkaaglnjaaGreatDoorCode
import Derived.ChangeSame
import Derived.ChangeVars
import Derived.JoinedOf
import Derived.LaidLaws
import Derived.LaidHandle
import Derived.LaidMore
import Derived.Stop.Joined
import Derived.Test.YtnihclkaaglnjaaGreatDoorInts
import Derived.Test.YtnihclkaaglnjaaGreatDoorCards
import Derived.Test.YtnihclkaaglnjaaGreatDoorTie
import Derived.SevenTiedAt
import Derived.ProofKit
import Derived.OpenShut
import Derived.ChangeOld
import Derived.Lib.SmallJoins
import Derived.Deep.Matrix
import Derived.Test.YtnihclkaaglnjaaGreatDoorTab
import Derived.Deep.DeepHandedRow
import Derived.Deep.DeepWitnessRowRef
namespace Go.Proofs.YtnihclkaaglnjaaGreatDoor
open Go.RowKit

set_option maxRecDepth 100000 in
set_option maxHeartbeats 4000000 in
theorem bhLaw_d (a : Nat → Addr) (ad : Option Addr) (Q cap : Nat) (va : Nat → Value) (na : Nat → Nat) (za : Nat → Nat → Int) (ad' : Option Addr) (R cap' : Nat) (vb : Nat → Value) (nb : Nat → Nat) (zb : Nat → Nat → Int) (w : World) (hE : Errs w a) (h : TabAt w (.slice ad Q cap) Q va na za) (hm : Q ≤ maxLen) (k : TabAt w (.slice ad' R cap') R vb nb zb) (hm' : R ≤ maxLen) (hs1 : sumT na Q ≤ 2000000) (hs2 : sumT nb R ≤ 2000000) (hf1 : Q ≤ 40) (hf2 : sumT na Q ≤ 400) (hg1 : R ≤ 40) (hg2 : sumT nb R ≤ 400) (he : chanErr Q na za = 0) (he2 : chanErr R nb zb = 0) (h3 : na 0 = R) (hL : ∀ i, i < Q → lcmP (bhL R (nb 0) za zb i) ≤ 256) :
    Calls Tryz.prog 3 #[.slice ad Q cap, .slice ad' R cap'] w fun e w' => e = .returned (.bool true) ∧ Below w.heap.size w w' := by
  obtain ⟨q0, _, _, _, _, _, _⟩ := chanErr_ok he
  obtain ⟨ub, uo, ra, rc, hade, hcell⟩ : ∃ b o ra rc, ad = some ⟨b, o, none⟩ ∧ w.cell? ⟨b, o, none⟩ = some (.slice ra (na 0) rc) := by
    rcases h with ⟨_, _, _, h1⟩ | ⟨b, o, cp, h1, _, h2⟩
    · omega
    · simp only [Value.slice.injEq, true_and] at h1
      obtain ⟨ra, rc, e⟩ := (h2 0 q0).2.form
      have h5 := (h2 0 q0).1
      rw [Nat.add_zero, e] at h5
      exact ⟨b, o, ra, rc, h1.1, h5⟩
  have HCE : Hid (∀ W, Below w.heap.size w W → W.cell? ⟨ub, uo, none⟩ = some (.slice ra (na 0) rc)) := fun W hb => by rw [hb.cell (cell_lt hcell)]; exact hcell
  have hqI : (0 : Int) < (Q : Int) := by omega
  clear hcell
  have hC := noisy_any a w hE
  have HFA : Hid (∀ W, Below w.heap.size w W → Calls Tryz.prog 5 #[.slice ad Q cap] W fun e w' => e = .returned (.bool true) ∧ Below W.heap.size W w') := fun W hb => few_any _ Q va na za W (h.later hb) hm hs1 true ⟨fun _ => ⟨hf1, hf2⟩, fun _ => rfl⟩
  have HFB : Hid (∀ W, Below w.heap.size w W → Calls Tryz.prog 5 #[.slice ad' R cap'] W fun e w' => e = .returned (.bool true) ∧ Below W.heap.size W w') := fun W hb => few_any _ R vb nb zb W (k.later hb) hm' hs2 true ⟨fun _ => ⟨hg1, hg2⟩, fun _ => rfl⟩
  have HN : Hid (∀ W, Below w.heap.size w W → TabAt W (.slice ad Q cap) Q va na za) := fun W hb => h.later hb
  have HK : Hid (∀ W, Below w.heap.size w W → TabAt W (.slice ad' R cap') R vb nb zb) := fun W hb => k.later hb
  have HE : Hid (∀ W, Below w.heap.size w W → Errs W a) := fun W hb => hE.below hb
  have HD1 : Hid (∀ W, Below w.heap.size w W → Calls Tryz.prog 6 #[.slice ad Q cap] W fun e w' => e = .returned (.int .i64 (chanErr Q na za : Nat)) ∧ Below W.heap.size W w') := fun W hb => ChannelError_any _ Q va na za W (h.later hb) (by omega) (fun i hi => by have := rowB_le hf2 i hi; omega)
  have HD2 : Hid (∀ W, Below w.heap.size w W → Calls Tryz.prog 6 #[.slice ad' R cap'] W fun e w' => e = .returned (.int .i64 (chanErr R nb zb : Nat)) ∧ Below W.heap.size W w') := fun W hb => ChannelError_any _ R vb nb zb W (k.later hb) (by omega) (fun i hi => by have := rowB_le hg2 i hi; omega)
  subst hade
  have hnc := (chanErr_ok he2).2.2.2.1
  have hq16 := (chanErr_ok he).2.1
  have h0 := (chanErr_ok he2).1
  have hc0 := (chanErr_ok he2).2.2.1
  have HBP : Hid (∀ (W : World) (x y : Value) (va' vb' : Nat → Value), Below w.heap.size w W → TabAt W x Q va' na za → TabAt W y R vb' nb zb → Calls Tryz.prog 8 #[x, y] W fun e w' => ∃ t, e = .returned (.tuple #[t, errV a 0]) ∧ LolAt w' t (tabL Q (fun _ => nb 0) (bhZ R (nb 0) za zb)) ∧ Below W.heap.size W w') := fun W x y va' vb' hb hx hy => by
    refine (Behind_main a x Q va' na za y R vb' nb zb W (hE.below hb) hx hy he he2 h3).mono ?_
    rintro e w' ⟨hok, _, hbw⟩
    obtain ⟨g, rb, rfl, hfg⟩ := hok hL
    exact ⟨_, rfl, tab_lol (hfg.tab q0 hc0), hbw⟩
  have HDO : Hid (∀ W, Below w.heap.size w W → Calls Tryz.prog 7 #[.slice (some ⟨ub, uo, none⟩) Q cap, .slice ad' R cap'] W fun e w' => (∃ t, e = .returned (.tuple #[t, .bool true]) ∧ LolAt w' t (tabL Q (fun _ => nb 0) (bhZ R (nb 0) za zb))) ∧ Below W.heap.size W w') := fun W hb => by
    refine (BehindOf_main _ Q va na za _ R vb nb zb W (h.later hb) (k.later hb) he he2 h3).mono ?_
    rintro e w' ⟨hok, _, hbw⟩
    exact ⟨hok hL, hbw⟩
  have HLS : Hid ((tabL Q (fun _ => nb 0) (bhZ R (nb 0) za zb)).length ≤ 1000000 ∧ ∀ r, r ∈ tabL Q (fun _ => nb 0) (bhZ R (nb 0) za zb) → r.length ≤ 1000) := ⟨by rw [tabL_length]; omega, fun r hr => Nat.le_trans (tabL_row (B := nb 0) (fun _ _ => Nat.le_refl _) r hr) (by omega)⟩
  generalize tabL Q (fun _ => nb 0) (bhZ R (nb 0) za zb) = LL at *
  rw [he] at HD1
  rw [he2] at HD2
  rw [h3] at HCE
  have hnb0 : ((R : Int) != (R : Int)) = false := by simp
  obtain ⟨ec, hec⟩ : ∃ ec, ec = errV a 0 := ⟨_, rfl⟩
  have HK1 : Hid (∀ W, Below w.heap.size w W → Calls Tryz.prog 10 #[ec, .int .i64 0] W fun e w' => e = .returned (.bool true) ∧ Below W.heap.size W w') := fun W hb => by rw [hec]; exact coded_errV a 0 (by first | decide | (have := HCL.out; omega)) W (HE.out W hb)
  rw [← hec] at HBP
  clear hE h k hec he he2 h3 hL
  go_enter Tryz.func3, Tryz.ntmps3
  go_wp2_with fail
  refine hC.mono ?_
  rintro e w1 ⟨rfl, hb1⟩
  have HB1 := Hid.mk' hb1
  clear hb1 hC
  go_wp2_with fail
  refine (HFA.out w1 HB1.out).mono ?_
  rintro e w2 ⟨rfl, hb2⟩
  have HB2 := Hid.mk' (below_chain HB1.out hb2)
  clear hb2
  go_wp2_with fail
  refine (HFB.out w2 HB2.out).mono ?_
  rintro e w3 ⟨rfl, hb3⟩
  have HB3 := Hid.mk' (below_chain HB2.out hb3)
  clear hb3
  go_wp2_with fail
  refine (HD1.out w3 HB3.out).mono ?_
  rintro e w4 ⟨rfl, hb4⟩
  have HB4 := Hid.mk' (below_chain HB3.out hb4)
  clear hb4
  go_wp2_with fail
  refine (HD2.out w4 HB4.out).mono ?_
  rintro e w5 ⟨rfl, hb5⟩
  have HB5 := Hid.mk' (below_chain HB4.out hb5)
  clear hb5
  have hce := HCE.out w5 HB5.out
  go_wp2_with fail
  refine (HDO.out w5 HB5.out).mono ?_
  rintro e w6 ⟨⟨t6, rfl, ht6⟩, hb6⟩
  obtain ⟨ad6, cap6, rfl⟩ := ht6.formB
  have HW6 := Hid.mk' ht6
  have HB6 := Hid.mk' (below_chain HB5.out hb6)
  clear ht6 hb6 hce
  go_wp2_with fail
  refine (lists_any _ Q va na za w6 (HN.out _ HB6.out) hf1 hf2).mono ?_
  rintro e w11 ⟨v11, vs11, rfl, hv11, hb11⟩
  obtain ⟨ad11, cap11, rfl⟩ := hv11.form
  have HV11 := Hid.mk' hv11
  have HB11 := Hid.mk' (below_chain HB6.out hb11)
  have HW11 := Hid.mk' (HW6.out.later hb11)
  clear hv11 hb11
  go_wp2_with fail
  refine (lists_any _ R vb nb zb w11 (HK.out _ HB11.out) hg1 hg2).mono ?_
  rintro e w12 ⟨v12, vs12, rfl, hv12, hb12⟩
  obtain ⟨ad12, cap12, rfl⟩ := hv12.form
  have HV12 := Hid.mk' hv12
  have HV112 := Hid.mk' (HV11.out.later hb12)
  have HB12 := Hid.mk' (below_chain HB11.out hb12)
  have HW12 := Hid.mk' (HW11.out.later hb12)
  clear hv12 hb12
  go_wp2_with fail
  refine (HBP.out w12 _ _ vs11 vs12 HB12.out HV112.out HV12.out).mono ?_
  rintro e w13 ⟨t13, rfl, ht13, hb13⟩
  obtain ⟨ad13, cap13, rfl⟩ := ht13.formB
  have HB13 := Hid.mk' (below_chain HB12.out hb13)
  have HW13 := Hid.mk' (HW12.out.later hb13)
  have HT13 := Hid.mk' ht13
  clear ht13 hb13
  go_wp2_with fail
  refine (HK1.out w13 HB13.out).mono ?_
  rintro e w14 ⟨rfl, hb14⟩
  have HB14 := Hid.mk' (below_chain HB13.out hb14)
  have HW14 := Hid.mk' (HW13.out.later hb14)
  have HT14 := Hid.mk' (HT13.out.later hb14)
  clear hb14
  go_wp2_with fail
  refine (SameLists_any _ _ LL w14 HT14.out HW14.out HLS.out.1 HLS.out.2).mono ?_
  rintro e w15 ⟨rfl, hb15⟩
  have HB15 := Hid.mk' (below_chain HB14.out hb15)
  clear hb15
  go_wp2_with fail
  go_ret
  exact ⟨rfl, HB15.out⟩
end Go.Proofs.YtnihclkaaglnjaaGreatDoor

/- The law ChannelBehind, where there is none. -/
namespace Go.Proofs.YtnihclkaaglnjaaGreatDoor
open Go.RowKit

set_option maxRecDepth 100000 in
set_option maxHeartbeats 4000000 in
theorem bhLaw_e (a : Nat → Addr) (ad : Option Addr) (Q cap : Nat) (va : Nat → Value) (na : Nat → Nat) (za : Nat → Nat → Int) (ad' : Option Addr) (R cap' : Nat) (vb : Nat → Value) (nb : Nat → Nat) (zb : Nat → Nat → Int) (w : World) (hE : Errs w a) (h : TabAt w (.slice ad Q cap) Q va na za) (hm : Q ≤ maxLen) (k : TabAt w (.slice ad' R cap') R vb nb zb) (hm' : R ≤ maxLen) (hs1 : sumT na Q ≤ 2000000) (hs2 : sumT nb R ≤ 2000000) (hf1 : Q ≤ 40) (hf2 : sumT na Q ≤ 400) (hg1 : R ≤ 40) (hg2 : sumT nb R ≤ 400) (he : chanErr Q na za = 0) (he2 : chanErr R nb zb = 0) (h3 : na 0 = R) (hL : ∃ i, i < Q ∧ 256 < lcmP (bhL R (nb 0) za zb i)) :
    Calls Tryz.prog 3 #[.slice ad Q cap, .slice ad' R cap'] w fun e w' => e = .returned (.bool true) ∧ Below w.heap.size w w' := by
  obtain ⟨q0, _, _, _, _, _, _⟩ := chanErr_ok he
  obtain ⟨ub, uo, ra, rc, hade, hcell⟩ : ∃ b o ra rc, ad = some ⟨b, o, none⟩ ∧ w.cell? ⟨b, o, none⟩ = some (.slice ra (na 0) rc) := by
    rcases h with ⟨_, _, _, h1⟩ | ⟨b, o, cp, h1, _, h2⟩
    · omega
    · simp only [Value.slice.injEq, true_and] at h1
      obtain ⟨ra, rc, e⟩ := (h2 0 q0).2.form
      have h5 := (h2 0 q0).1
      rw [Nat.add_zero, e] at h5
      exact ⟨b, o, ra, rc, h1.1, h5⟩
  have HCE : Hid (∀ W, Below w.heap.size w W → W.cell? ⟨ub, uo, none⟩ = some (.slice ra (na 0) rc)) := fun W hb => by rw [hb.cell (cell_lt hcell)]; exact hcell
  have hqI : (0 : Int) < (Q : Int) := by omega
  clear hcell
  have hC := noisy_any a w hE
  have HFA : Hid (∀ W, Below w.heap.size w W → Calls Tryz.prog 5 #[.slice ad Q cap] W fun e w' => e = .returned (.bool true) ∧ Below W.heap.size W w') := fun W hb => few_any _ Q va na za W (h.later hb) hm hs1 true ⟨fun _ => ⟨hf1, hf2⟩, fun _ => rfl⟩
  have HFB : Hid (∀ W, Below w.heap.size w W → Calls Tryz.prog 5 #[.slice ad' R cap'] W fun e w' => e = .returned (.bool true) ∧ Below W.heap.size W w') := fun W hb => few_any _ R vb nb zb W (k.later hb) hm' hs2 true ⟨fun _ => ⟨hg1, hg2⟩, fun _ => rfl⟩
  have HN : Hid (∀ W, Below w.heap.size w W → TabAt W (.slice ad Q cap) Q va na za) := fun W hb => h.later hb
  have HK : Hid (∀ W, Below w.heap.size w W → TabAt W (.slice ad' R cap') R vb nb zb) := fun W hb => k.later hb
  have HE : Hid (∀ W, Below w.heap.size w W → Errs W a) := fun W hb => hE.below hb
  have HD1 : Hid (∀ W, Below w.heap.size w W → Calls Tryz.prog 6 #[.slice ad Q cap] W fun e w' => e = .returned (.int .i64 (chanErr Q na za : Nat)) ∧ Below W.heap.size W w') := fun W hb => ChannelError_any _ Q va na za W (h.later hb) (by omega) (fun i hi => by have := rowB_le hf2 i hi; omega)
  have HD2 : Hid (∀ W, Below w.heap.size w W → Calls Tryz.prog 6 #[.slice ad' R cap'] W fun e w' => e = .returned (.int .i64 (chanErr R nb zb : Nat)) ∧ Below W.heap.size W w') := fun W hb => ChannelError_any _ R vb nb zb W (k.later hb) (by omega) (fun i hi => by have := rowB_le hg2 i hi; omega)
  subst hade
  have HBP : Hid (∀ (W : World) (x y : Value) (va' vb' : Nat → Value), Below w.heap.size w W → TabAt W x Q va' na za → TabAt W y R vb' nb zb → Calls Tryz.prog 8 #[x, y] W fun e w' => ∃ t, e = .returned (.tuple #[t, errV a 2]) ∧ LolAt w' t [] ∧ Below W.heap.size W w') := fun W x y va' vb' hb hx hy => by
    refine (Behind_main a x Q va' na za y R vb' nb zb W (hE.below hb) hx hy he he2 h3).mono ?_
    rintro e w' ⟨_, hbad, hbw⟩
    exact ⟨_, hbad hL, lolB_nil _, hbw⟩
  have HDO : Hid (∀ W, Below w.heap.size w W → Calls Tryz.prog 7 #[.slice (some ⟨ub, uo, none⟩) Q cap, .slice ad' R cap'] W fun e w' => e = .returned (.tuple #[.slice none 0 0, .bool false]) ∧ Below W.heap.size W w') := fun W hb => by
    refine (BehindOf_main _ Q va na za _ R vb nb zb W (h.later hb) (k.later hb) he he2 h3).mono ?_
    rintro e w' ⟨_, hbad, hbw⟩
    exact ⟨hbad hL, hbw⟩
  obtain ⟨LL, hLL⟩ : ∃ LL : List (List Int), LL = [] := ⟨_, rfl⟩
  have HLS : Hid (LL.length ≤ 1000000 ∧ ∀ r, r ∈ LL → r.length ≤ 1000) := by rw [hLL]; exact ⟨by simp, fun r hr => by simp at hr⟩
  have HW0 : Hid (∀ W, LolAt W (.slice none 0 0) LL) := fun W => by rw [hLL]; exact lolB_nil W
  rw [← hLL] at HBP
  rw [he] at HD1
  rw [he2] at HD2
  rw [h3] at HCE
  have hnb0 : ((R : Int) != (R : Int)) = false := by simp
  obtain ⟨ec, hec⟩ : ∃ ec, ec = errV a 2 := ⟨_, rfl⟩
  have HK1 : Hid (∀ W, Below w.heap.size w W → Calls Tryz.prog 10 #[ec, .int .i64 2] W fun e w' => e = .returned (.bool true) ∧ Below W.heap.size W w') := fun W hb => by rw [hec]; exact coded_errV a 2 (by first | decide | (have := HCL.out; omega)) W (HE.out W hb)
  rw [← hec] at HBP
  clear hE h k hec hLL he he2 h3 hL
  go_enter Tryz.func3, Tryz.ntmps3
  go_wp2_with fail
  refine hC.mono ?_
  rintro e w1 ⟨rfl, hb1⟩
  have HB1 := Hid.mk' hb1
  clear hb1 hC
  go_wp2_with fail
  refine (HFA.out w1 HB1.out).mono ?_
  rintro e w2 ⟨rfl, hb2⟩
  have HB2 := Hid.mk' (below_chain HB1.out hb2)
  clear hb2
  go_wp2_with fail
  refine (HFB.out w2 HB2.out).mono ?_
  rintro e w3 ⟨rfl, hb3⟩
  have HB3 := Hid.mk' (below_chain HB2.out hb3)
  clear hb3
  go_wp2_with fail
  refine (HD1.out w3 HB3.out).mono ?_
  rintro e w4 ⟨rfl, hb4⟩
  have HB4 := Hid.mk' (below_chain HB3.out hb4)
  clear hb4
  go_wp2_with fail
  refine (HD2.out w4 HB4.out).mono ?_
  rintro e w5 ⟨rfl, hb5⟩
  have HB5 := Hid.mk' (below_chain HB4.out hb5)
  clear hb5
  have hce := HCE.out w5 HB5.out
  go_wp2_with fail
  refine (HDO.out w5 HB5.out).mono ?_
  rintro e w6 ⟨rfl, hb6⟩
  have HB6 := Hid.mk' (below_chain HB5.out hb6)
  clear hb6
  have HW6 := Hid.mk' (HW0.out w6)
  go_wp2_with fail
  refine (lists_any _ Q va na za w6 (HN.out _ HB6.out) hf1 hf2).mono ?_
  rintro e w11 ⟨v11, vs11, rfl, hv11, hb11⟩
  obtain ⟨ad11, cap11, rfl⟩ := hv11.form
  have HV11 := Hid.mk' hv11
  have HB11 := Hid.mk' (below_chain HB6.out hb11)
  have HW11 := Hid.mk' (HW6.out.later hb11)
  clear hv11 hb11
  go_wp2_with fail
  refine (lists_any _ R vb nb zb w11 (HK.out _ HB11.out) hg1 hg2).mono ?_
  rintro e w12 ⟨v12, vs12, rfl, hv12, hb12⟩
  obtain ⟨ad12, cap12, rfl⟩ := hv12.form
  have HV12 := Hid.mk' hv12
  have HV112 := Hid.mk' (HV11.out.later hb12)
  have HB12 := Hid.mk' (below_chain HB11.out hb12)
  have HW12 := Hid.mk' (HW11.out.later hb12)
  clear hv12 hb12
  go_wp2_with fail
  refine (HBP.out w12 _ _ vs11 vs12 HB12.out HV112.out HV12.out).mono ?_
  rintro e w13 ⟨t13, rfl, ht13, hb13⟩
  obtain ⟨ad13, cap13, rfl⟩ := ht13.formB
  have HB13 := Hid.mk' (below_chain HB12.out hb13)
  have HW13 := Hid.mk' (HW12.out.later hb13)
  have HT13 := Hid.mk' ht13
  clear ht13 hb13
  go_wp2_with fail
  refine (HK1.out w13 HB13.out).mono ?_
  rintro e w14 ⟨rfl, hb14⟩
  have HB14 := Hid.mk' (below_chain HB13.out hb14)
  have HW14 := Hid.mk' (HW13.out.later hb14)
  have HT14 := Hid.mk' (HT13.out.later hb14)
  clear hb14
  go_wp2_with fail
  refine (SameLists_any _ _ LL w14 HT14.out HW14.out HLS.out.1 HLS.out.2).mono ?_
  rintro e w15 ⟨rfl, hb15⟩
  have HB15 := Hid.mk' (below_chain HB14.out hb15)
  clear hb15
  go_wp2_with fail
  go_ret
  exact ⟨rfl, HB15.out⟩
end Go.Proofs.YtnihclkaaglnjaaGreatDoor

/- The law ChannelBehind. -/
namespace Go.Proofs.YtnihclkaaglnjaaGreatDoor
open Go.RowKit

set_option maxRecDepth 100000 in
set_option maxHeartbeats 4000000 in
theorem ChannelBehind_all (a : Nat → Addr) (ad : Option Addr) (Q cap : Nat) (va : Nat → Value) (na : Nat → Nat) (za : Nat → Nat → Int) (ad' : Option Addr) (R cap' : Nat) (vb : Nat → Value) (nb : Nat → Nat) (zb : Nat → Nat → Int) (w : World) (hE : Errs w a) (h : TabAt w (.slice ad Q cap) Q va na za) (hm : Q ≤ maxLen) (k : TabAt w (.slice ad' R cap') R vb nb zb) (hm' : R ≤ maxLen) (hs1 : sumT na Q ≤ 2000000) (hs2 : sumT nb R ≤ 2000000) :
    Calls Tryz.prog 3 #[.slice ad Q cap, .slice ad' R cap'] w fun e w' => e = .returned (.bool true) ∧ Below w.heap.size w w' := by
  by_cases hf : Q ≤ 40 ∧ sumT na Q ≤ 400
  · by_cases hg : R ≤ 40 ∧ sumT nb R ≤ 400
    · obtain ⟨hf1, hf2⟩ := hf
      obtain ⟨hg1, hg2⟩ := hg
      by_cases he : chanErr Q na za = 0
      · by_cases he2 : chanErr R nb zb = 0
        · by_cases h3 : na 0 = R
          · by_cases hL : ∀ i, i < Q → lcmP (bhL R (nb 0) za zb i) ≤ 256
            · exact bhLaw_d a ad Q cap va na za ad' R cap' vb nb zb w hE h hm k hm' hs1 hs2 hf1 hf2 hg1 hg2 he he2 h3 hL
            · exact bhLaw_e a ad Q cap va na za ad' R cap' vb nb zb w hE h hm k hm' hs1 hs2 hf1 hf2 hg1 hg2 he he2 h3 (Classical.byContradiction fun hn => hL fun i hi => Classical.byContradiction fun hf => hn ⟨i, hi, by omega⟩)
          · exact bhLaw_c a ad Q cap va na za ad' R cap' vb nb zb w hE h hm k hm' hs1 hs2 hf1 hf2 hg1 hg2 he he2 h3
        · exact bhLaw_b a ad Q cap va na za ad' R cap' vb nb zb w hE h hm k hm' hs1 hs2 hf1 hf2 hg1 hg2 he he2
      · exact bhLaw_a a ad Q cap va na za ad' R cap' vb nb zb w hE h hm k hm' hs1 hs2 hf1 hf2 hg1 hg2 he
    · have hC := noisy_any a w hE
      have HFA : Hid (∀ W, Below w.heap.size w W → Calls Tryz.prog 5 #[.slice ad Q cap] W fun e w' => e = .returned (.bool true) ∧ Below W.heap.size W w') := fun W hb => few_any _ Q va na za W (h.later hb) hm hs1 true ⟨fun _ => hf, fun _ => rfl⟩
      have HFB : Hid (∀ W, Below w.heap.size w W → Calls Tryz.prog 5 #[.slice ad' R cap'] W fun e w' => e = .returned (.bool false) ∧ Below W.heap.size W w') := fun W hb => few_any _ R vb nb zb W (k.later hb) hm' hs2 false ⟨(fun e => by cases e), (fun e => absurd e hg)⟩
      clear hE h k hf hg
      go_enter Tryz.func3, Tryz.ntmps3
      go_wp2_with fail
      refine hC.mono ?_
      rintro e w1 ⟨rfl, hb1⟩
      have HB1 := Hid.mk' hb1
      clear hb1 hC
      go_wp2_with fail
      refine (HFA.out w1 HB1.out).mono ?_
      rintro e w2 ⟨rfl, hb2⟩
      have HB2 := Hid.mk' (below_chain HB1.out hb2)
      clear hb2
      go_wp2_with fail
      refine (HFB.out w2 HB2.out).mono ?_
      rintro e w3 ⟨rfl, hb3⟩
      have HB3 := Hid.mk' (below_chain HB2.out hb3)
      clear hb3
      go_wp2_with fail
      go_ret
      exact ⟨rfl, HB3.out⟩
  · have hC := noisy_any a w hE
    have HFA : Hid (∀ W, Below w.heap.size w W → Calls Tryz.prog 5 #[.slice ad Q cap] W fun e w' => e = .returned (.bool false) ∧ Below W.heap.size W w') := fun W hb => few_any _ Q va na za W (h.later hb) hm hs1 false ⟨(fun e => by cases e), (fun e => absurd e hf)⟩
    clear hE h k hf
    go_enter Tryz.func3, Tryz.ntmps3
    go_wp2_with fail
    refine hC.mono ?_
    rintro e w1 ⟨rfl, hb1⟩
    have HB1 := Hid.mk' hb1
    clear hb1 hC
    go_wp2_with fail
    refine (HFA.out w1 HB1.out).mono ?_
    rintro e w2 ⟨rfl, hb2⟩
    have HB2 := Hid.mk' (below_chain HB1.out hb2)
    clear hb2
    go_wp2_with fail
    go_ret
    exact ⟨rfl, HB2.out⟩
end Go.Proofs.YtnihclkaaglnjaaGreatDoor

/- What the rows' condition on package variables gives a walk: eight different sentinels with their texts, and the handle of the type error. -/
namespace Go.Proofs.YtnihclkaaglnjaaGreatDoor
open Go.ChangeShapes Go.WideShapes Go.RowKit

theorem Tryz.own : ownKnob Tryz.prog.godebug = none := by kernel_rfl
theorem Tryz.et : Tryz.prog.globalNamed "errors.errorType" = some 8 := by kernel_rfl
theorem Tryz.rt : (Tryz.prog.cutTypes.find? (·.1 == "internal/reflectlite.rtype")).map (·.2) = some 129 := by kernel_rfl
theorem Tryz.oneRow : ((List.range 181).filter fun t => Tryz.prog.rowNamed t [101, 114, 114, 111, 114]) = [30] := by kernel_rfl
theorem Tryz.size : Tryz.prog.types.size = 181 := by kernel_rfl
theorem Tryz.star : ("*" ++ "errors.errorString" : String) = "*errors.errorString" := by decide
theorem Tryz.rowE (u : TypeId) (h : Tryz.prog.typeName? 3 u = some "*errors.errorString") : u = 147 :=
  typeName_ptr_named (nm := "errors.errorString") (by rw [Tryz.star]; kernel_rfl) (by kernel_rfl) (by decide) u (by rw [Tryz.star]; exact h)
theorem Tryz.cellsE : Tryz.prog.cellsOf 169 = 1 := by kernel_rfl
theorem Tryz.cellsS : Tryz.prog.cellsOf 9 = 1 := by kernel_rfl
theorem Tryz.g0 : Tryz.prog.globalNamed "demon/api.ErrText" = some 2 := by kernel_rfl
theorem Tryz.g1 : Tryz.prog.globalNamed "demon/api.ErrBound" = some 1 := by kernel_rfl
theorem Tryz.g2 : Tryz.prog.globalNamed "demon/api.ErrShape" = some 0 := by kernel_rfl
theorem Tryz.g3 : Tryz.prog.globalNamed "demon/api.ErrZero" = some 3 := by kernel_rfl
theorem Tryz.g4 : Tryz.prog.globalNamed "demon/api.ErrName" = some 4 := by kernel_rfl
theorem Tryz.g5 : Tryz.prog.globalNamed "demon/api.ErrNone" = some 5 := by kernel_rfl
theorem Tryz.g6 : Tryz.prog.globalNamed "demon/api.ErrOrder" = some 6 := by kernel_rfl
theorem Tryz.g7 : Tryz.prog.globalNamed "demon/api.ErrKind" = some 7 := by kernel_rfl

/-- Any number of listed sentinels of one type: each one's pointer, text and row; no two are one. -/
theorem laid_list {P : Program} {W : World} {nm : String} {ti tp te ts : TypeId} {ms : Array (String × TypeId)} {f : Field}
    (hi : P.underlying ti = some (.interface ms)) (hrow : ∀ u, P.typeName? 3 u = some nm → u = tp)
    (hp : P.underlying tp = some (.pointer te)) (he : P.underlying te = some (.struct #[f])) (hft : f.type = ts) (hfo : f.offset = 0) (hs : P.underlying ts = some .string) (hc : P.cellsOf te = 1) (hcs : P.cellsOf ts = 1) :
    ∀ (L : List (String × List UInt8)) (ps : List MemPlace), (∀ x, x ∈ L → ∃ g, P.globalNamed x.1 = some g ∧ (P.globals[g]?).map (·.type) = some ti) →
      DataW.LaidVars P W (L.map fun x => (x.1, .iface nm (.ptr (.agg [.lit (.string x.2)])))) ps → ps.Nodup →
      (∀ b off, MemPlace.cell b off ∈ ps → (∃ c t, W.heap[b]? = some (.cells c t (0, 0))) ∧ ∀ u v, W.cell? ⟨b, off, none⟩ = some (.iface u v) → Value.okWide P W .any 0 u v) →
      ∃ a : Nat → Addr, (∀ i x, L[i]? = some x → W.var? P x.1 = some #[.iface tp (.pointer (some (a i)))] ∧ (∃ s, W.cell? (a i) = some (.string s) ∧ s.data.toList = x.2) ∧
          (∃ c t, W.heap[(a i).block]? = some (.cells c t (0, 0))) ∧ MemPlace.cell (a i).block (a i).off ∈ ps) ∧
        ∀ i j, i < L.length → j < L.length → i ≠ j → a i ≠ a j := by
  intro L
  induction L with
  | nil => intro ps _ _ _ _; exact ⟨fun _ => default, fun i x h => by simp at h, fun i j h => by simp at h⟩
  | cons x r ih =>
    intro ps hgs hv hnd hrows
    obtain ⟨n, text⟩ := x
    obtain ⟨g0, t0, cs0, f0, p0, q0, hg0, ht0, hv0, hd0, hvr, e0⟩ := hv
    obtain ⟨g, hg, ht⟩ := hgs (n, text) (List.mem_cons_self ..)
    obtain rfl := Option.some.inj (hg.symm.trans hg0)
    obtain rfl := Option.some.inj (ht.symm.trans ht0)
    subst e0
    obtain ⟨l0⟩ := cs0
    have ok0 : ∀ u v, l0 = [.iface u v] → Value.okWide P W .any 0 u v := fun u v e => by
      subst e
      exact (hrows g 0 (by simp [MemPlace.row])).2 u v (by simpa using World.var?_cell hg0 hv0 0)
    obtain ⟨a0, s0, rfl, hc0, hs0, hz0, rfl⟩ := errorString_of_trod hi hrow hp he hft hfo hs hc hcs hd0 ok0
    obtain ⟨c0, tt0, hb0⟩ := (hrows a0.block a0.off (by simp [MemPlace.row])).1
    have hnq : q0.Nodup := List.Nodup.sublist (List.sublist_append_right _ _) hnd
    obtain ⟨a', ha', hne'⟩ := ih q0 (fun x hx => hgs x (List.mem_cons_of_mem _ hx)) hvr hnq (fun b off hm => hrows b off (List.mem_append_right _ hm))
    have hnot : MemPlace.cell a0.block a0.off ∉ q0 := by
      intro hm
      have := (List.nodup_append.1 hnd).2.2
      exact this (.cell a0.block a0.off) (by simp [MemPlace.row]) (.cell a0.block a0.off) hm rfl
    refine ⟨fun i => match i with | 0 => a0 | k + 1 => a' k, ?_, ?_⟩
    · intro i x hx
      cases i with
      | zero =>
        simp only [List.getElem?_cons_zero, Option.some.injEq] at hx
        subst hx
        exact ⟨hv0, ⟨s0, hc0, hs0⟩, ⟨c0, tt0, hb0⟩, by simp [MemPlace.row]⟩
      | succ k =>
        simp only [List.getElem?_cons_succ] at hx
        obtain ⟨h1, h2, h3, h4⟩ := ha' k x hx
        exact ⟨h1, h2, h3, List.mem_append_right _ h4⟩
    · have far : ∀ k, k < r.length → a0 ≠ a' k := fun k hk e => by
        obtain ⟨_, _, _, h4⟩ := ha' k r[k] (by simp [hk])
        rw [← e] at h4
        exact hnot h4
      intro i j hi' hj' hij
      cases i with
      | zero =>
        cases j with
        | zero => exact absurd rfl hij
        | succ k => exact far k (by simpa using hj')
      | succ m =>
        cases j with
        | zero => exact (far m (by simpa using hi')).symm
        | succ k => exact hne' m k (by simpa using hi') (by simpa using hj') (by omega)

/-- The names and texts, in the rows' order. -/
def eightNames : List (String × List UInt8) := [("demon/api.ErrText", [100, 101, 109, 111, 110, 58, 32, 116, 101, 120, 116]), ("demon/api.ErrBound", [100, 101, 109, 111, 110, 58, 32, 98, 111, 117, 110, 100]), ("demon/api.ErrShape", [100, 101, 109, 111, 110, 58, 32, 115, 104, 97, 112, 101]), ("demon/api.ErrZero", [100, 101, 109, 111, 110, 58, 32, 122, 101, 114, 111]), ("demon/api.ErrName", [100, 101, 109, 111, 110, 58, 32, 110, 97, 109, 101]), ("demon/api.ErrNone", [100, 101, 109, 111, 110, 58, 32, 110, 111, 110, 101]), ("demon/api.ErrOrder", [100, 101, 109, 111, 110, 58, 32, 111, 114, 100, 101, 114]), ("demon/api.ErrKind", [100, 101, 109, 111, 110, 58, 32, 107, 105, 110, 100])]
def laidAll : List (String × DataW Unit) := [("errors.errorType", Rows.laid_errors_errorType), ("demon/api.ErrText", Rows.laid_demon_api_ErrText), ("demon/api.ErrBound", Rows.laid_demon_api_ErrBound), ("demon/api.ErrShape", Rows.laid_demon_api_ErrShape), ("demon/api.ErrZero", Rows.laid_demon_api_ErrZero), ("demon/api.ErrName", Rows.laid_demon_api_ErrName), ("demon/api.ErrNone", Rows.laid_demon_api_ErrNone), ("demon/api.ErrOrder", Rows.laid_demon_api_ErrOrder), ("demon/api.ErrKind", Rows.laid_demon_api_ErrKind)]
theorem laidAll_parts (W : World) : laidMetH Tryz.prog laidAll W = (laidMet Tryz.prog (eightNames.map fun x => (x.1, .iface "*errors.errorString" (.ptr (.agg [.lit (.string x.2)])))) W ∧ handlesMet Tryz.prog [("errors.errorType", Rows.laid_errors_errorType)] W) := by kernel_rfl

theorem var_at {W : World} {n : String} {g : Nat} {v : Value} (hg : Tryz.prog.globalNamed n = some g) (h : W.var? Tryz.prog n = some #[v]) : W.cell? ⟨g, 0, none⟩ = some v := by
  simpa using World.var?_cell hg h 0

theorem errs_of_laid {W : World} (h : laidMetH Tryz.prog laidAll W) : ∃ a : Nat → Addr, Errs W a ∧ ∀ i x, eightNames[i]? = some x → ∃ s, W.cell? (a i) = some (.string s) ∧ s.data.toList = x.2 := by
  rw [laidAll_parts] at h
  obtain ⟨⟨ps, hv, hnd, hrows⟩, hh⟩ := h
  obtain ⟨name, u, ty, e1, e2, e3, e4, e5⟩ := hh _ (List.mem_singleton.2 rfl)
  have en : name = [101, 114, 114, 111, 114] := (Option.some.inj e1).symm
  subst en
  obtain rfl := Option.some.inj (Tryz.rt.symm.trans e2)
  have hm : ty ∈ (List.range 181).filter fun t => Tryz.prog.rowNamed t [101, 114, 114, 111, 114] := List.mem_filter.2 ⟨List.mem_range.2 (by rw [← Tryz.size]; exact e3), e4⟩
  rw [Tryz.oneRow] at hm
  obtain rfl := List.mem_singleton.1 hm
  have hth : typeHandle Tryz.prog 30 = .pointer (some ⟨9, 30, none⟩) := by kernel_rfl
  rw [hth] at e5
  obtain ⟨a, ha, hne⟩ := laid_list Tryz.underlying30 Tryz.rowE Tryz.underlying147 Tryz.underlying169 rfl rfl Tryz.underlying9 Tryz.cellsE Tryz.cellsS eightNames ps
    (fun x hx => by
      simp only [eightNames, List.mem_cons, List.not_mem_nil, or_false] at hx
      rcases hx with rfl | rfl | rfl | rfl | rfl | rfl | rfl | rfl
      · exact ⟨_, Tryz.g0, by kernel_rfl⟩
      · exact ⟨_, Tryz.g1, by kernel_rfl⟩
      · exact ⟨_, Tryz.g2, by kernel_rfl⟩
      · exact ⟨_, Tryz.g3, by kernel_rfl⟩
      · exact ⟨_, Tryz.g4, by kernel_rfl⟩
      · exact ⟨_, Tryz.g5, by kernel_rfl⟩
      · exact ⟨_, Tryz.g6, by kernel_rfl⟩
      · exact ⟨_, Tryz.g7, by kernel_rfl⟩) hv hnd hrows
  refine ⟨a, ⟨var_at Tryz.g0 (ha 0 _ rfl).1, var_at Tryz.g1 (ha 1 _ rfl).1, var_at Tryz.g2 (ha 2 _ rfl).1, var_at Tryz.g3 (ha 3 _ rfl).1, var_at Tryz.g4 (ha 4 _ rfl).1, var_at Tryz.g5 (ha 5 _ rfl).1, var_at Tryz.g6 (ha 6 _ rfl).1, var_at Tryz.g7 (ha 7 _ rfl).1, var_at Tryz.et e5, ?_, ?_⟩, fun i x hx => (ha i x hx).2.1⟩
  · intro i hi
    have hl : eightNames.length = 8 := rfl
    exact (ha i eightNames[i] (List.getElem?_eq_getElem (by omega))).2.2.1
  · intro i j hi hj hij
    exact hne i j hi hj hij

/-- The door's own heap meets the condition. -/
theorem door_met (os : Os) (args : Array Value) : laidMetH Tryz.prog laidAll ((World.doorLaid Tryz.prog 168 os).forCall (fun _ _ => 0) ⟨#[], args, []⟩).memory :=
  laidMetH_of_parts3 (fuel := 8) (laidMet_of_run' 8 (by kernel_rfl) (by kernel_rfl)) (by kernel_rfl) (by kernel_rfl)
end Go.Proofs.YtnihclkaaglnjaaGreatDoor

/- A parameter of type []int opened. -/
namespace Go.Proofs.YtnihclkaaglnjaaGreatDoor
open Go.ChangeShapes Go.WideShapes Go.ChangeAt Go.RowKit Go.Joins Go.Deep

theorem Tryz.laidOut : laidOutB Tryz.prog = true := by kernel_rfl
theorem Tryz.cellsInt : Tryz.prog.cellsOf 3 = 1 := by kernel_rfl
theorem Tryz.cellsInts : Tryz.prog.cellsOf 26 = 1 := by kernel_rfl

set_option maxRecDepth 100000 in
/-- What a parameter of type []int gives: its slice, its numbers. -/
theorem open_nums {H : Type} {enc : TypeId × Value → H} {W : World} {base : Nat} {v : Value} {d : DataW H} {p : List MemPlace} (hv : Value.okWide Tryz.prog W .any base 26 v)
    (h : DataW.Trod enc Tryz.prog W 0 (fun _ => true) true 26 v d p) :
    ∃ (ad : Option Addr) (n cap : Nat) (z : Nat → Int), v = .slice ad n cap ∧ n ≤ maxLen ∧ NumsAt W (.slice ad n cap) n z := by
  obtain ⟨ad, n, cap, rfl⟩ := okWide_slice Tryz.underlying26 hv
  obtain ⟨fuel, hf⟩ := h
  rcases open_ints Tryz.underlying26 Tryz.underlying3 Tryz.cellsInt hf with ⟨hc, _⟩ | ⟨a, len, cap', zs, hc, _, hl, hm, hz, _, hcell, _⟩
  · simp [Value.cells] at hc
    obtain ⟨rfl, rfl, rfl⟩ := hc
    exact ⟨none, 0, 0, fun _ => 0, rfl, Nat.zero_le _, Or.inl ⟨none, 0, rfl, rfl⟩⟩
  · simp [Value.cells] at hc
    obtain ⟨rfl, rfl, rfl⟩ := hc
    simp only [if_true] at hz
    rcases Nat.eq_zero_or_pos n with rfl | hpos
    · exact ⟨some a, 0, cap, fun _ => 0, rfl, Nat.zero_le _, Or.inl ⟨some a, cap, rfl, rfl⟩⟩
    · obtain ⟨b, o, spot⟩ := a
      have hspot : spot = none := by simpa [Addr.add] using World.cell?_spot (hcell 0 (by omega))
      subst hspot
      refine ⟨_, n, cap, fun i => zs.getD i 0, rfl, by omega, Or.inr ⟨b, o, cap, rfl, hpos, fun i hi => ?_⟩⟩
      have := hcell i (by omega)
      rw [Go.Proofs.YtnihclkaaglnjaaGreatDoor.add_plain] at this
      exact this
end Go.Proofs.YtnihclkaaglnjaaGreatDoor

/- A parameter of type [][]int opened; how many numbers it holds at the most. -/
namespace Go.Proofs.YtnihclkaaglnjaaGreatDoor
open Go.ChangeShapes Go.WideShapes Go.ChangeAt Go.RowKit Go.Joins Go.Deep

theorem bulk_one {H : Type} (d : DataW H) : 1 ≤ Rows.uptoBulk d := by
  cases d with
  | lit l => cases l <;> simp [Rows.uptoBulk]
  | _ => simp [Rows.uptoBulk]
theorem bulk_len {H : Type} : ∀ l : List (DataW H), l.length ≤ Rows.uptoBulkAll l
  | [] => by simp [Rows.uptoBulkAll]
  | x :: r => by
    have h1 := bulk_one x
    have h2 := bulk_len r
    simp only [Rows.uptoBulkAll, List.length_cons]
    omega
theorem bulk_mem {H : Type} {d : DataW H} : ∀ {l : List (DataW H)}, d ∈ l → Rows.uptoBulk d ≤ Rows.uptoBulkAll l
  | x :: r, h => by
    simp only [Rows.uptoBulkAll]
    rcases List.mem_cons.1 h with rfl | h'
    · omega
    · have := bulk_mem h'; omega
theorem bulk_append {H : Type} : ∀ l r : List (DataW H), Rows.uptoBulkAll (l ++ r) = Rows.uptoBulkAll l + Rows.uptoBulkAll r
  | [], r => by simp [Rows.uptoBulkAll]
  | x :: l, r => by simp only [List.cons_append, Rows.uptoBulkAll, bulk_append l r]; omega
theorem bulk_sum {H : Type} (f : Nat → DataW H) (L : Nat → Nat) : ∀ n, (∀ r, r < n → L r ≤ Rows.uptoBulk (f r)) → sumT L n ≤ Rows.uptoBulkAll ((List.range n).map f)
  | 0, _ => Nat.zero_le _
  | n + 1, h => by
    have h1 := bulk_sum f L n (fun r hr => h r (by omega))
    have h2 := h n (by omega)
    show sumT L n + L n ≤ _
    rw [List.range_succ, List.map_append, bulk_append]
    simp only [List.map_cons, List.map_nil, Rows.uptoBulkAll]
    omega

set_option maxRecDepth 100000 in
theorem open_table {H : Type} {enc : TypeId × Value → H} {W : World} {base : Nat} {v : Value} {d : DataW H} {p : List MemPlace} (hv : Value.okWide Tryz.prog W .any base 22 v)
    (h : DataW.Trod enc Tryz.prog W 0 (fun _ => true) true 22 v d p) :
    ∃ (ad : Option Addr) (R cap : Nat) (vs : Nat → Value) (ns : Nat → Nat) (zs : Nat → Nat → Int), v = .slice ad R cap ∧ R ≤ maxLen ∧ TabAt W (.slice ad R cap) R vs ns zs ∧ sumT ns R ≤ Rows.uptoBulk d := by
  obtain ⟨ad, R, cap, rfl⟩ := okWide_slice Tryz.underlying22 hv
  obtain ⟨fuel, hf⟩ := h
  rcases open_int_rows Tryz.underlying22 Tryz.underlying26 Tryz.underlying3 Tryz.cellsInts Tryz.cellsInt hf with ⟨hc, _⟩ | ⟨a, len, cap', A, L, C, Z, hc, _, hl, hm, hx, hr⟩
  · simp [Value.cells] at hc
    obtain ⟨rfl, rfl, rfl⟩ := hc
    exact ⟨none, 0, 0, fun _ => .slice none 0 0, fun _ => 0, fun _ _ => 0, rfl, Nat.zero_le _, Or.inl ⟨none, 0, rfl, rfl⟩, Nat.zero_le _⟩
  · simp [Value.cells] at hc
    obtain ⟨rfl, rfl, rfl⟩ := hc
    simp only [Prod.mk.injEq] at hx
    obtain ⟨rfl, _⟩ := hx
    have hbulk : sumT L R ≤ Rows.uptoBulk (DataW.slice ((List.range R).map fun r => intRow .i64 (A r) (L r) (Z r)) ((List.range (cap - R)).map fun j => intRow .i64 (A (R + j)) (L (R + j)) (Z (R + j))) : DataW H) := by
      have h1 := bulk_sum (H := H) (fun r => intRow .i64 (A r) (L r) (Z r)) L R (fun r hr' => by
        obtain ⟨_, h2, _, h4, _, h6, _⟩ := hr r (by omega)
        cases hA : A r with
        | none => have := h6 hA; omega
        | some a' =>
          have h7 := bulk_len (H := H) (lits .i64 ((Z r).take (L r)))
          have h8 : (lits (H := H) .i64 ((Z r).take (L r))).length = L r := by simp [lits]; omega
          simp only [intRow, Rows.uptoBulk]
          omega)
      simp only [Rows.uptoBulk]
      omega
    rcases Nat.eq_zero_or_pos R with rfl | hpos
    · exact ⟨some a, 0, cap, fun _ => .slice none 0 0, L, fun _ _ => 0, rfl, Nat.zero_le _, Or.inl ⟨some a, cap, rfl, rfl⟩, hbulk⟩
    · obtain ⟨b, o, spot⟩ := a
      have hspot : spot = none := by simpa [Addr.add] using World.cell?_spot (hr 0 (by omega)).1
      subst hspot
      refine ⟨_, R, cap, fun r => .slice (A r) (L r) (C r), L, fun r i => (Z r).getD i 0, rfl, by omega, Or.inr ⟨b, o, cap, rfl, hpos, fun i hi => ?_⟩, hbulk⟩
      obtain ⟨h1, h2, _, h4, _, h6, h7⟩ := hr i (by omega)
      rw [Go.Proofs.YtnihclkaaglnjaaGreatDoor.add_plain] at h1
      refine ⟨h1, ?_⟩
      rcases Nat.eq_zero_or_pos (L i) with h0 | h0
      · exact Or.inl ⟨A i, C i, by dsimp only; rw [h0], h0⟩
      · cases hA : A i with
        | none => have := h6 hA; omega
        | some a' =>
          obtain ⟨_, h8⟩ := h7 a' hA
          obtain ⟨b', o', spot'⟩ := a'
          have hs' : spot' = none := by simpa [Addr.add] using World.cell?_spot (h8 0 (by omega))
          subst hs'
          refine Or.inr ⟨b', o', C i, by dsimp only; rw [hA], h0, fun j hj => ?_⟩
          have := h8 j (by omega)
          rw [Go.Proofs.YtnihclkaaglnjaaGreatDoor.add_plain] at this
          exact this
theorem bulk_bound {H : Type} {l : List (DataW H)} (hk : Rows.uptoSmall H l = true) : Rows.uptoBulkAll l ≤ 1048576 := of_decide_eq_true hk
end Go.Proofs.YtnihclkaaglnjaaGreatDoor
