/- The law SecretShamir in all cases. -/
import Derived.Test.YtgklaadkglbclaaDoorShmLaw
namespace Go.Proofs.YtgklaadkglbclaaDoor
open Go.RowKit

set_option maxRecDepth 100000 in
set_option maxHeartbeats 4000000 in
theorem SecretShamir_all (a : Nat → Addr) (p : Int) (ad : Option Addr) (m cap : Nat) (z : Nat → Int) (x first guess : Int) (w : World) (hE : Errs w a) (hz : NumsAt w (.slice ad m cap) m z) (hm : m ≤ maxLen) (hf : -9223372036854775808 ≤ first ∧ first ≤ 9223372036854775807) :
    Calls Tryd.prog 6 #[.int .i64 p, .slice ad m cap, .int .i64 x, .int .i64 first, .int .i64 guess] w fun e w' => e = .returned (.bool true) ∧ Below w.heap.size w w' := by
  have HP := Hid.mk' (pad_any a w hE)
  unfold maxLen at hm
  by_cases h12 : 12 < m
  · have hI : (12 : Int) < (m : Int) := by omega
    clear hE hz
    go_enter Tryd.func6, Tryd.ntmps6
    go_wp2_with fail
    refine HP.out.mono ?_
    rintro e w1 ⟨rfl, hb1⟩
    have HB1 := Hid.mk' hb1
    clear hb1
    go_wp2_with fail
    go_ret
    exact ⟨rfl, HB1.out⟩
  have k1 : decide ((12 : Int) < (m : Int)) = false := decide_eq_false (by omega)
  have HIN := Hid.mk' (fun (W : World) (hb : Below w.heap.size w W) => ints_any _ m z W (hz.later hb) (by omega))
  by_cases he : shE p m z x ≠ 0
  · have HSB := Hid.mk' (fun (v : Value) (W : World) (hb : Below w.heap.size w W) (hv : NumsAt W v m z) => Share_bad a p v m z x W (hE.below hb) hv (by omega) he)
    rw [errV_pos a he] at HSB
    generalize shE p m z x = q at *
    clear hE hz he
    go_enter Tryd.func6, Tryd.ntmps6
    go_wp2_with fail
    refine HP.out.mono ?_
    rintro e w1 ⟨rfl, hb1⟩
    have HB1 := Hid.mk' hb1
    clear hb1
    go_wp2_with fail
    refine (HIN.out _ HB1.out).mono ?_
    rintro e w2 ⟨v2, rfl, hv2, hb2⟩
    have HB2 := Hid.mk' (below_chS HB1.out hb2)
    have hS := HSB.out v2 w2 (below_chS HB1.out hb2) hv2
    obtain ⟨a2, c2, hv2e⟩ := hv2.form
    rw [hv2e] at hS ⊢
    clear hb2 hv2 hv2e v2
    go_wp2_with fail
    refine hS.mono ?_
    rintro e w3 ⟨rfl, hb3⟩
    have HB3 := Hid.mk' (below_chS HB2.out hb3)
    clear hS hb3
    go_wp2_with fail
    go_ret
    exact ⟨rfl, HB3.out⟩
  · have he0 : shE p m z x = 0 := by omega
    obtain ⟨P, X, c, rfl, rfl, hP2, hP9, hpr, hX1, hXP, hX24, h0, h12', hc, hzc⟩ := shE_ok he0
    obtain ⟨b, o, rfl, hrow⟩ : ∃ b o, ad = some ⟨b, o, none⟩ ∧ RowAt w b o m z := by
      rcases hz with ⟨_, _, _, hx⟩ | ⟨b, o, cap', hx, _, hr⟩
      · omega
      · obtain ⟨rfl, _⟩ : ad = _ ∧ _ := by simpa using hx
        exact ⟨b, o, rfl, hr⟩
    by_cases hmX : m ≤ X
    · exact Shamir_main a P m b o cap X c first guess w hE (fun i hi => by rw [hrow i hi, hzc i hi]) hc ⟨hP2, hP9, hpr⟩ hX1 hXP hX24 h0 h12' hmX hf
    · have HSO := Hid.mk' (fun (v : Value) (W : World) (hv : NumsAt W v m z) => (show ∃ b3 o3 c3, v = .slice (some ⟨b3, o3, none⟩) m c3 ∧ Calls Tryd.prog 18 #[.int .i64 (P : Int), .slice (some ⟨b3, o3, none⟩) m c3, .int .i64 (X : Int)] W fun e w' => ∃ g, e = .returned (.tuple #[.slice (some ⟨g, 0, none⟩) X X, .nilIface]) ∧ RowAt w' g 0 X (shaN P m c) ∧ Below W.heap.size W w' by
        rcases hv with ⟨_, _, _, hx⟩ | ⟨b3, o3, c3, rfl, _, hr3⟩
        · omega
        · exact ⟨b3, o3, c3, rfl, Share_ok P X m b3 o3 c3 c W (fun j hj => by rw [hr3 j hj, hzc j hj]) hc hP2 hP9 hpr hX1 hXP hX24 h0 h12'⟩))
      have k2 : (X : Int) < (m : Int) := by omega
      clear hE hz he he0 hrow hzc hc hpr
      go_enter Tryd.func6, Tryd.ntmps6
      go_wp2_with fail
      refine HP.out.mono ?_
      rintro e w1 ⟨rfl, hb1⟩
      have HB1 := Hid.mk' hb1
      clear hb1
      go_wp2_with fail
      refine (HIN.out _ HB1.out).mono ?_
      rintro e w2 ⟨v2, rfl, hv2, hb2⟩
      have HB2 := Hid.mk' (below_chS HB1.out hb2)
      obtain ⟨b3, o3, c3, hv2e, hS⟩ := HSO.out v2 w2 hv2
      rw [hv2e]
      clear hb2 hv2 hv2e v2
      go_wp2_with fail
      refine hS.mono ?_
      rintro e w3 ⟨g3, rfl, _, hb3⟩
      have HB3 := Hid.mk' (below_chS HB2.out hb3)
      clear hS hb3
      go_wp2_with fail
      go_ret
      exact ⟨rfl, HB3.out⟩
end Go.Proofs.YtgklaadkglbclaaDoor
