/- The law ChannelValid. -/
import Derived.Test.YtnihclkaaglnjaaDoorCnNoisy
import Derived.Test.YtnihclkaaglnjaaDoorCnErr
namespace Go.Proofs.YtnihclkaaglnjaaDoor
open Go.RowKit

theorem row_le {R : Nat} {ns : Nat → Nat} (h : sumT ns R ≤ 400) (i : Nat) (hi : i < R) : ns i ≤ 400 := by
  have h2 : sumT ns i + ns i ≤ sumT ns R := sumT_mono ns hi
  omega
set_option maxRecDepth 100000 in
set_option maxHeartbeats 4000000 in
theorem ChannelValid_all (a : Nat → Addr) (ad' : Option Addr) (R cap' : Nat) (vs : Nat → Value) (ns : Nat → Nat) (zs : Nat → Nat → Int) (w : World) (hE : Errs w a) (k : TabAt w (.slice ad' R cap') R vs ns zs) (hm' : R ≤ maxLen) (hs : sumT ns R ≤ 2000000) :
    Calls Tryd.prog 3 #[.slice ad' R cap'] w fun e w' => e = .returned (.bool true) ∧ Below w.heap.size w w' := by
  have hC := noisy_any a w hE
  by_cases hf : R ≤ 40 ∧ sumT ns R ≤ 400
  · have HFW : Hid (∀ W, Below w.heap.size w W → Calls Tryd.prog 7 #[.slice ad' R cap'] W fun e w' => e = .returned (.bool true) ∧ Below W.heap.size W w') := fun W hb => few_any _ R vs ns zs W (k.later hb) hm' hs true ⟨fun _ => hf, fun _ => rfl⟩
    have HK : Hid (∀ W, Below w.heap.size w W → TabAt W (.slice ad' R cap') R vs ns zs) := fun W hb => k.later hb
    obtain ⟨hf1, hf2⟩ := hf
    have HC1 := Hid.mk' (chanErr_le R ns zs)
    have HV : Hid (∀ (W : World) (v : Value) (vs' : Nat → Value), Below w.heap.size w W → TabAt W v R vs' ns zs → Calls Tryd.prog 9 #[v] W fun e w' => e = .returned (errV a (chanErr R ns zs)) ∧ w' = W) := fun W v vs' hb hv => chanValid_any a v R vs' ns zs W (hE.below hb) hv (by omega) (fun i hi => by have := row_le hf2 i hi; omega)
    have HD : Hid (∀ W, Below w.heap.size w W → Calls Tryd.prog 11 #[.slice ad' R cap'] W fun e w' => e = .returned (.int .i64 (chanErr R ns zs : Nat)) ∧ Below W.heap.size W w') := fun W hb => ChannelError_any _ R vs ns zs W (k.later hb) (by omega) (fun i hi => by have := row_le hf2 i hi; omega)
    have HE : Hid (∀ W, Below w.heap.size w W → Errs W a) := fun W hb => hE.below hb
    generalize chanErr R ns zs = c at *
    obtain ⟨ec, hec⟩ : ∃ ec, ec = errV a c := ⟨_, rfl⟩
    have HK1 : Hid (∀ W, Below w.heap.size w W → Calls Tryd.prog 8 #[ec, .int .i64 (c : Int)] W fun e w' => e = .returned (.bool true) ∧ Below W.heap.size W w') := fun W hb => by rw [hec]; exact coded_errV a c (by have := HC1.out; omega) W (HE.out W hb)
    rw [← hec] at HV
    clear hE k hec
    go_enter Tryd.func3, Tryd.ntmps3
    go_wp2_with (first
      | (go_at_call 6; refine hC.mono ?_; rintro e w1 ⟨rfl, hb1⟩; have HB1 := Hid.mk' hb1; clear hb1)
      | (go_at_call 7; refine (HFW.out w1 HB1.out).mono ?_; rintro e w2 ⟨rfl, hb2⟩; have HB2 := Hid.mk' (below_chain HB1.out hb2); clear hb2)
      | (go_at_call 10; refine (lists_any _ R vs ns zs w2 (HK.out _ HB2.out) hf1 hf2).mono ?_; rintro e w3 ⟨v3, vs3, rfl, hv3, hb3⟩; obtain ⟨ad3, cap3, rfl⟩ := hv3.form; have HV3 := Hid.mk' hv3; have HB3 := Hid.mk' (below_chain HB2.out hb3); clear hv3 hb3)
      | (go_at_call 9; refine (HV.out w3 _ vs3 HB3.out HV3.out).mono ?_; rintro e w4 ⟨rfl, hw4⟩; rw [hw4]; clear hw4)
      | (go_at_call 11; refine (HD.out w3 HB3.out).mono ?_; rintro e w5 ⟨rfl, hb5⟩; have HB5 := Hid.mk' (below_chain HB3.out hb5); clear hb5)
      | (go_at_call_of 8 ec; refine (HK1.out w5 HB5.out).mono ?_; rintro e w6 ⟨rfl, hb6⟩; have HB6 := Hid.mk' (below_chain HB5.out hb6); clear hb6))
    go_ret
    exact ⟨rfl, HB6.out⟩
  · have HFW : Hid (∀ W, Below w.heap.size w W → Calls Tryd.prog 7 #[.slice ad' R cap'] W fun e w' => e = .returned (.bool false) ∧ Below W.heap.size W w') := fun W hb => few_any _ R vs ns zs W (k.later hb) hm' hs false ⟨(fun e => by cases e), (fun e => absurd e hf)⟩
    clear hE k hf
    go_enter Tryd.func3, Tryd.ntmps3
    go_wp2_with (first
      | (go_at_call 6; refine hC.mono ?_; rintro e w1 ⟨rfl, hb1⟩; have HB1 := Hid.mk' hb1; clear hb1)
      | (go_at_call 7; refine (HFW.out w1 HB1.out).mono ?_; rintro e w2 ⟨rfl, hb2⟩; have HB2 := Hid.mk' (below_chain HB1.out hb2); clear hb2))
    go_ret
    exact ⟨rfl, HB2.out⟩
end Go.Proofs.YtnihclkaaglnjaaDoor
