/- The law SecretJoin. -/
import Derived.Test.YtgklaadkglbclaaDoorSkJo
import Derived.Test.YtgklaadkglbclaaDoorSkPerf
import Derived.Test.YtgklaadkglbclaaDoorCodedV
namespace Go.Proofs.YtgklaadkglbclaaDoor
open Go.RowKit

theorem ints_room (v : Value) (n : Nat) (z : Nat → Int) (w : World) (h : NumsAt w v n z) (hn : n ≤ 100000) :
    Calls Tryd.prog 19 #[v] w fun e w' => ∃ ad cap, e = .returned (.slice ad n cap) ∧ NumsAt w' (.slice ad n cap) n z ∧ n ≤ cap ∧ Below w.heap.size w w' := by
  refine (ints_row v n z w h hn).mono ?_
  rintro e w' ⟨v', rfl, h1, h2⟩
  obtain ⟨ao, c, rfl, hle⟩ : ∃ ao c, v' = .slice ao n c ∧ n ≤ c := by
    rcases h1.2 with ⟨rfl, rfl⟩ | ⟨g, cap, cur, rfl, _, _, hl, _, _⟩
    · exact ⟨none, 0, rfl, Nat.le_refl _⟩
    · exact ⟨_, cap, rfl, hl⟩
  exact ⟨ao, c, rfl, numsAt_own h1, hle, h2⟩

set_option maxRecDepth 100000 in
set_option maxHeartbeats 4000000 in
theorem SecretJoin_all (a : Nat → Addr) (p : Int) (ad : Option Addr) (m cap : Nat) (z : Nat → Int) (ad' : Option Addr) (n cap' : Nat) (y : Nat → Int) (w : World) (hE : Errs w a) (hz : NumsAt w (.slice ad m cap) m z) (hm : m ≤ maxLen) (hroom : m ≤ cap) (hy : NumsAt w (.slice ad' n cap') n y) (hn : n ≤ maxLen) :
    Calls Tryd.prog 5 #[.int .i64 p, .slice ad m cap, .slice ad' n cap'] w fun e w' => e = .returned (.bool true) ∧ Below w.heap.size w w' := by
  have HE := Hid.mk' (fun (W : World) (hb : Below w.heap.size w W) => hE.below hb)
  have HZ := Hid.mk' (fun (W : World) (hb : Below w.heap.size w W) => hz.later hb)
  have HY := Hid.mk' (fun (W : World) (hb : Below w.heap.size w W) => hy.later hb)
  have HP := Hid.mk' (pad_any a w hE)
  unfold maxLen at hm hn
  by_cases h100 : 100 < m
  · have hI : (100 : Int) < (m : Int) := by omega
    clear hE hz hy
    go_enter Tryd.func5, Tryd.ntmps5
    go_wp2_with fail
    refine HP.out.mono ?_
    rintro e w1 ⟨rfl, hb1⟩
    have HB1 := Hid.mk' hb1
    clear hb1
    go_wp2_with fail
    go_ret
    exact ⟨rfl, HB1.out⟩
  have hI : decide ((100 : Int) < (m : Int)) = false := decide_eq_false (by omega)
  by_cases h101 : 100 < n
  · have hJ : (100 : Int) < (n : Int) := by omega
    clear hE hz hy
    go_enter Tryd.func5, Tryd.ntmps5
    go_wp2_with fail
    refine HP.out.mono ?_
    rintro e w1 ⟨rfl, hb1⟩
    have HB1 := Hid.mk' hb1
    clear hb1
    go_wp2_with fail
    go_ret
    exact ⟨rfl, HB1.out⟩
  have hJ : decide ((100 : Int) < (n : Int)) = false := decide_eq_false (by omega)
  have HJE := Hid.mk' (fun (W : World) (hb : Below w.heap.size w W) => JoinError_any p ad m cap z _ n y W (HZ.out W hb) hroom (HY.out W hb) (by omega) (by omega))
  have HIN := Hid.mk' (fun (W : World) (hb : Below w.heap.size w W) => ints_room _ m z W (HZ.out W hb) (by omega))
  have HIM := Hid.mk' (fun (W : World) (hb : Below w.heap.size w W) => ints_any _ n y W (HY.out W hb) (by omega))
  have hle := joE_le p m z n y
  have HCD : Hid (∀ W, Below w.heap.size w W → Calls Tryd.prog 14 #[errV a (joE p m z n y), .int .i64 (joE p m z n y : Nat)] W fun e w' => e = .returned (.bool true) ∧ Below W.heap.size W w') := fun W hb => coded_errV a (joE p m z n y) hle W (HE.out W hb)
  by_cases he : joE p m z n y ≠ 0
  · have HJB := Hid.mk' (fun (ad3 : Option Addr) (c3 : Nat) (v : Value) (W : World) (hb : Below w.heap.size w W) (hu : NumsAt W (.slice ad3 m c3) m z) (hr : m ≤ c3) (hv : NumsAt W v n y) => Join_bad a p ad3 m c3 z v n y W (HE.out W hb) hu hr hv (by omega) (by omega) he)
    rw [errV_pos a he] at HJB HCD
    have hq0 : ((joE p m z n y : Int) == 0) = false := by rw [beq_eq_false_iff_ne]; omega
    generalize joE p m z n y = q at *
    clear hE hz hy he
    go_enter Tryd.func5, Tryd.ntmps5
    go_wp2_with fail
    refine HP.out.mono ?_
    rintro e w1 ⟨rfl, hb1⟩
    have HB1 := Hid.mk' hb1
    clear hb1
    go_wp2_with fail
    refine (HJE.out _ HB1.out).mono ?_
    rintro e w2 ⟨rfl, hb2⟩
    have HB2 := Hid.mk' (below_chS HB1.out hb2)
    clear hb2
    go_wp2_with fail
    refine (HIN.out _ HB2.out).mono ?_
    rintro e w3 ⟨a3, c3, rfl, hv3, hr3, hb3⟩
    have HB3 := Hid.mk' (below_chS HB2.out hb3)
    have HV3 := Hid.mk' hv3
    have HR3 := Hid.mk' hr3
    clear hb3 hv3 hr3
    go_wp2_with fail
    refine (HIM.out _ HB3.out).mono ?_
    rintro e w4 ⟨v4, rfl, hv4, hb4⟩
    have HB4 := Hid.mk' (below_chS HB3.out hb4)
    have HV3' := Hid.mk' (HV3.out.later hb4)
    have HV4 := Hid.mk' hv4
    obtain ⟨a4, c4, rfl⟩ := hv4.form
    clear hb4 hv4
    go_wp2_with fail
    refine (HJB.out _ _ _ _ HB4.out HV3'.out HR3.out HV4.out).mono ?_
    rintro e w5 ⟨rfl, hb5⟩
    have HB5 := Hid.mk' (below_chS HB4.out hb5)
    clear hb5
    go_wp2_with fail
    refine (HCD.out _ HB5.out).mono ?_
    rintro e w6 ⟨rfl, hb6⟩
    have HB6 := Hid.mk' (below_chS HB5.out hb6)
    clear hb6
    go_wp2_with fail
    go_ret
    exact ⟨rfl, HB6.out⟩
  · have he0 : joE p m z n y = 0 := by omega
    obtain ⟨P, A, V, rfl, hF, h0, h12, rfl, hPl, hV, hzA, hyV⟩ := joE_ok he0
    obtain ⟨b, o, rfl, hrow⟩ : ∃ b o, ad = some ⟨b, o, none⟩ ∧ RowAt w b o n (fun i => (A i : Int)) := by
      rcases hz with ⟨_, _, _, hx⟩ | ⟨b, o, c', hx, _, hr⟩
      · omega
      · obtain ⟨rfl, _⟩ : ad = _ ∧ _ := by simpa using hx
        exact ⟨b, o, rfl, fun i hi => by rw [hr i hi, hzA i hi]⟩
    obtain ⟨b', o', rfl, hrow'⟩ : ∃ b o, ad' = some ⟨b, o, none⟩ ∧ RowAt w b o n (fun i => (V i : Int)) := by
      rcases hy with ⟨_, _, _, hx⟩ | ⟨b, o, c', hx, _, hr⟩
      · omega
      · obtain ⟨rfl, _⟩ : ad' = _ ∧ _ := by simpa using hx
        exact ⟨b, o, rfl, fun i hi => by rw [hr i hi, hyV i hi]⟩
    have HJO := Hid.mk' (fun (W : World) (hb : Below w.heap.size w W) => JoinOf_any P n b o cap b' o' cap' A V W (hrow.later hb) (hrow'.later hb) hF hPl hV h0 h12)
    have HJK : Hid (∀ (W : World) (a3 : Option Addr) (c3 : Nat) (v4 : Value), NumsAt W (.slice a3 n c3) n z → n ≤ c3 → NumsAt W v4 n y → Calls Tryd.prog 22 #[.int .i64 (P : Int), .slice a3 n c3, v4] W fun e w' => e = .returned (.tuple #[.int .i64 (joN P n A V : Int), .nilIface]) ∧ w' = W) := fun W a3 c3 v4 hu hr hv => by
      rcases hu with ⟨_, _, _, hx⟩ | ⟨b3, o3, c', hx, _, hr3⟩
      · omega
      · obtain ⟨rfl, rfl⟩ : a3 = _ ∧ c3 = c' := by simpa using hx
        rcases hv with ⟨_, _, _, hx⟩ | ⟨b4, o4, c4, rfl, _, hr4⟩
        · omega
        · exact Join_ok P n b3 o3 c3 b4 o4 c4 A V W (fun i hi => by rw [hr3 i hi, hzA i hi]) hr (fun i hi => by rw [hr4 i hi, hyV i hi]) hF hPl hV h0 h12
    rw [he0] at HJE HCD
    rw [errV_zero] at HCD
    rw [← join_same hPl hF hV] at HJO
    generalize joN P n A V = r at *
    have hrr : ((r : Int) == (r : Int)) = true := by simp
    clear hE hz hy he he0 hle hF hPl hV hzA hyV hrow hrow'
    go_enter Tryd.func5, Tryd.ntmps5
    go_wp2_with fail
    refine HP.out.mono ?_
    rintro e w1 ⟨rfl, hb1⟩
    have HB1 := Hid.mk' hb1
    clear hb1
    go_wp2_with fail
    refine (HJE.out _ HB1.out).mono ?_
    rintro e w2 ⟨rfl, hb2⟩
    have HB2 := Hid.mk' (below_chS HB1.out hb2)
    clear hb2
    go_wp2_with fail
    refine (HJO.out _ HB2.out).mono ?_
    rintro e w9 ⟨rfl, hb9⟩
    have HB9 := Hid.mk' (below_chS HB2.out hb9)
    clear hb9
    go_wp2_with fail
    refine (HIN.out _ HB9.out).mono ?_
    rintro e w3 ⟨a3, c3, rfl, hv3, hr3, hb3⟩
    have HB3 := Hid.mk' (below_chS HB9.out hb3)
    have HV3 := Hid.mk' hv3
    have HR3 := Hid.mk' hr3
    clear hb3 hv3 hr3
    go_wp2_with fail
    refine (HIM.out _ HB3.out).mono ?_
    rintro e w4 ⟨v4, rfl, hv4, hb4⟩
    have HB4 := Hid.mk' (below_chS HB3.out hb4)
    have HV3' := Hid.mk' (HV3.out.later hb4)
    have HV4 := Hid.mk' hv4
    obtain ⟨a4, c4, rfl⟩ := hv4.form
    clear hb4 hv4
    go_wp2_with fail
    refine (HJK.out _ _ _ _ HV3'.out HR3.out HV4.out).mono ?_
    rintro e w5 ⟨rfl, hw5⟩
    rw [hw5]
    clear hw5 w5
    go_wp2_with fail
    refine (HCD.out _ HB4.out).mono ?_
    rintro e w6 ⟨rfl, hb6⟩
    have HB6 := Hid.mk' (below_chS HB4.out hb6)
    clear hb6
    go_wp2_with fail
    go_ret
    exact ⟨rfl, HB6.out⟩
end Go.Proofs.YtgklaadkglbclaaDoor
