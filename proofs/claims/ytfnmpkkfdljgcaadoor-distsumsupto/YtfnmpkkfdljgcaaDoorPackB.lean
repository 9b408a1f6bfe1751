/- The law's closed fact: of a fair coin the entropy is 1. -/
import Derived.Test.YtfnmpkkfdljgcaaDoorPackA
import Derived.Test.YtfnmpkkfdljgcaaDoorInts
import Derived.BigQuiet
import Derived.Test.YtfnmpkkfdljgcaaDoorCode
import Derived.Test.YtfnmpkkfdljgcaaDoorWeights
import Derived.Test.YtfnmpkkfdljgcaaDoorRowsP
import Derived.Test.YtfnmpkkfdljgcaaDoorRows
import Derived.ChangeSame
import Derived.ChangeVars
import Derived.JoinedOf
import Derived.LaidLaws
import Derived.LaidHandle
import Derived.LaidMore
import Derived.Stop.Joined
import Derived.Test.YtfnmpkkfdljgcaaDoorCards
import Derived.Test.YtfnmpkkfdljgcaaDoorTie
import Derived.SevenTiedAt
import Derived.ProofKit
import Derived.OpenShut
import Derived.ChangeOld
import Derived.Lib.SmallJoins
import Derived.Deep.Matrix
import Derived.Test.YtfnmpkkfdljgcaaDoorTab
import Derived.Deep.DeepHandedRow
import Derived.Deep.DeepWitnessRowRef
namespace Go.Proofs.YtfnmpkkfdljgcaaDoor
open Go.RowKit Go.Maps

theorem pr_two' : Pr 2 := (isPr_iff 2).1 (by decide)
theorem coin_val (x : Int) : sumN (entV (fun _ => 3) 6 x) 2 = atL [((2 : Int), (6 : Int))] x := by
  have h := multI_step x (n := 6) (d := 2) (by decide) pr_two' (by decide)
  have e : 6 / 2 = 3 := by decide
  rw [e] at h
  show 0 + (3 * multI x 6 - 3 * multI x (3 : Int).toNat) + (3 * multI x 6 - 3 * multI x (3 : Int).toNat) = if (2 : Int) = x then 6 else 0
  have e3 : (3 : Int).toNat = 3 := rfl
  rw [e3, h]
  rw [show ((2 : Nat) : Int) = 2 from rfl]
  by_cases hx : x = 2
  · subst hx; simp; omega
  · rw [if_neg hx, if_neg (fun e => hx e.symm)]; omega
theorem coin_list {base : Nat} {w : World} {dn : Int} {v : Value} (h : LogBy base 6 (fun x => sumN (entV (fun _ => 3) 6 x) 2) w dn v) : dn = 1 ∧ OwnAt w v 1 (fun _ => 2) (fun _ => 1) := by
  obtain ⟨l, hr, hv, _, hd, hl⟩ := h.list
  have he : ∀ x, atL l x = atL [((2 : Int), (6 : Int))] x := fun x => by rw [hv, coin_val]
  have hr' : Rising [((2 : Int), (6 : Int))] := List.pairwise_singleton _ _
  rw [gList_same hr hr' he, over_same hr hr' he] at hl
  rw [gList_same hr hr' he] at hd
  have e1 : overL (gList 6 (List.map Prod.snd [((2 : Int), (6 : Int))])) [((2 : Int), (6 : Int))] = [(2, 1)] := by decide
  rw [e1] at hl
  refine ⟨by rw [hd]; decide, ?_⟩
  rcases hl with ⟨_, h0⟩ | ⟨g, cap, h1, h2⟩
  · cases h0
  · refine Or.inr ⟨g, cap, h1, fun k hk => ?_⟩
    obtain rfl : k = 0 := by omega
    exact h2 0 (by decide)

set_option maxRecDepth 100000 in
set_option maxHeartbeats 1000000 in
theorem coin_any (a : Nat → Addr) (w : World) (hE : Errs w a) : Calls Tryd.prog 6 #[] w fun e w' => e = .returned (.bool true) ∧ Below w.heap.size w w' := by
  have hb0 : Below w.heap.size w (w.alloc (.cells #[.int .i64 3, .int .i64 3] 3)) := new_below _ _
  have hent := Entropy_ok a w.heap.size 0 2 2 6 (fun _ => 3) (w.alloc (.cells #[.int .i64 3, .int .i64 3] 3)) (hE.below hb0) (fun i hi => by
    rcases (show i = 0 ∨ i = 1 by omega) with rfl | rfl
    · simp
    · simp) (by decide) (by decide) (fun i _ => by decide) (by decide) (by decide) (by decide) (by decide)
  have HB0 := Hid.mk' hb0
  clear hE hb0
  go_enter Tryd.func6, Tryd.ntmps6
  go_wp2_with fail
  refine hent.mono ?_
  clear hent
  rintro e w1 ⟨dn, v, rfl, hlb, hb1⟩
  obtain ⟨rfl, hown⟩ := coin_list hlb
  obtain ⟨ad, m, cap, rfl⟩ := own_form hown
  have hbW : Below w1.heap.size w1 ((w1.alloc (.cells #[.int .i64 1, .slice ad m cap] 37)).alloc (.cells #[.int .i64 2, .int .i64 1] 47)) := below_chain (new_below _ _) (new_below _ _)
  have hS := same_own 1 (.slice ad m cap) (.slice (some ⟨w1.heap.size + 1, 0, none⟩) 1 1) 1 (fun _ => 2) (fun _ => 1) ((w1.alloc (.cells #[.int .i64 1, .slice ad m cap] 37)).alloc (.cells #[.int .i64 2, .int .i64 1] 47)) (OwnAt.later hown hbW)
    (Or.inr ⟨w1.heap.size + 1, 1, rfl, fun k hk => by
      obtain rfl : k = 0 := by omega
      exact ⟨by simp, by simp⟩⟩) (by decide)
  have HB := Hid.mk' (below_chain (below_chain HB0.out hb1) hbW)
  clear hlb hown hb1 hbW HB0
  go_wp2_with fail
  refine hS.mono ?_
  clear hS
  rintro e w2 ⟨rfl, hb2⟩
  go_wp2_with fail
  go_ret
  exact ⟨rfl, below_chain HB.out hb2⟩
end Go.Proofs.YtfnmpkkfdljgcaaDoor

/- The document's SameInts at equal ones. -/
namespace Go.Proofs.YtfnmpkkfdljgcaaDoor
open Go.RowKit

set_option maxRecDepth 100000 in
set_option maxHeartbeats 1000000 in
theorem SameInts_any (v u : Value) (n : Nat) (z : Nat → Int) (w : World) (h : NumsAt w v n z) (k : NumsAt w u n z) (hn : n ≤ 1000000) :
    Calls Tryd.prog 13 #[v, u] w fun e w' => e = .returned (.bool true) ∧ Below w.heap.size w w' := by
  rcases h with ⟨ad, cap, rfl, rfl⟩ | ⟨b, o, cap, rfl, h0, hr⟩
  · obtain ⟨ad', cap', rfl⟩ := k.form
    clear k
    go_enter Tryd.func13, Tryd.ntmps13
    go_wp2_with fail
    refine wp_loop_rounds 1 ?_
    rw [rounds_succ]
    go_wp2_with fail
    go_ret
    exact ⟨rfl, Below.refl _ _⟩
  · rcases k with ⟨_, _, _, h1⟩ | ⟨b', o', cap', rfl, _, kr⟩
    · omega
    · have HR := Hid.mk' hr
      have HK := Hid.mk' kr
      clear hr kr
      go_enter Tryd.func13, Tryd.ntmps13
      go_wp2_with fail
      go_loopw [5] (fun i wr => ∃ k : Nat, k ≤ n ∧ i = .int .i64 k ∧ Hid (Below w.heap.size w wr)) (fun i _ => n - (intOf i).toNat)
      case atStart => exact ⟨0, Nat.zero_le _, rfl, Below.refl _ _⟩
      case round =>
        obtain ⟨k, hk, rfl, HB⟩ := hrel
        rcases Nat.lt_or_ge k n with h1 | h1
        · have hc := (HR.out.later HB.out) k h1
          have hd := (HK.out.later HB.out) k h1
          have hkn : (k : Int) < (n : Int) := by omega
          go_wp2_with fail
          go_region
          all_goals
            go_wp2_with fail
            exact ⟨⟨k + 1, h1, by go_num, HB.out.drew⟩, by simp [intOf]; omega⟩
        · obtain rfl : k = n := by omega
          go_wp2_with fail
          go_ret
          exact ⟨rfl, HB.out⟩
end Go.Proofs.YtfnmpkkfdljgcaaDoor

/- coded of an error by its number. -/
namespace Go.Proofs.YtfnmpkkfdljgcaaDoor
open Go.RowKit

theorem coded_errV (a : Nat → Addr) (c : Nat) (hc : c ≤ 8) (w : World) (h : Errs w a) :
    Calls Tryd.prog 12 #[errV a c, .int .i64 (c : Int)] w fun e w' => e = .returned (.bool true) ∧ Below w.heap.size w w' := by
  by_cases h0 : c = 0
  · subst h0
    rw [errV_zero]
    refine (coded_nil 0 w).mono ?_
    rintro e w' ⟨rfl, rfl⟩
    exact ⟨rfl, Below.refl _ _⟩
  · rw [errV_pos a h0]
    have h1 := coded_err a (c - 1) (by omega) (c : Int) w h
    have e : decide ((c : Int) = ((c - 1 : Nat) : Int) + 1) = true := decide_eq_true (by omega)
    rw [e] at h1
    exact h1
end Go.Proofs.YtfnmpkkfdljgcaaDoor

/- dist.Rows, dist.Columns; the law DistSums. -/
namespace Go.Proofs.YtfnmpkkfdljgcaaDoor
open Go.RowKit

theorem tabErr_le3 (R : Nat) (ns : Nat → Nat) (zs : Nat → Nat → Int) : tabErr R ns zs ≤ 3 := by
  unfold tabErr listErr
  repeat (split; omega)
  omega
set_option maxRecDepth 100000 in
set_option maxHeartbeats 4000000 in
theorem DistSums_all (a : Nat → Addr) (ad : Option Addr) (R cap : Nat) (vs : Nat → Value) (ns : Nat → Nat) (zs : Nat → Nat → Int) (w : World) (hE : Errs w a) (k : TabAt w (.slice ad R cap) R vs ns zs) (hm : R ≤ maxLen) (hs : sumT ns R ≤ 2000000) :
    Calls Tryd.prog 3 #[.slice ad R cap] w fun e w' => e = .returned (.bool true) ∧ Below w.heap.size w w' := by
  have hC := coin_any a w hE
  by_cases hf : R ≤ 40 ∧ sumT ns R ≤ 400
  · have HFW : Hid (∀ W, Below w.heap.size w W → Calls Tryd.prog 7 #[.slice ad R cap] W fun e w' => e = .returned (.bool true) ∧ Below W.heap.size W w') := fun W hb => few_any _ R vs ns zs W (k.later hb) hm hs true ⟨fun _ => hf, fun _ => rfl⟩
    have HK : Hid (∀ W, Below w.heap.size w W → TabAt W (.slice ad R cap) R vs ns zs) := fun W hb => k.later hb
    obtain ⟨hf1, hf2⟩ := hf
    have HLS : Hid (∀ W, Below w.heap.size w W → Calls Tryd.prog 10 #[.slice ad R cap] W fun e w' => ∃ v' vs', e = .returned v' ∧ TabAt w' v' R vs' ns zs ∧ Below W.heap.size W w') := fun W hb => lists_any _ R vs ns zs W (k.later hb) hf1 hf2
    by_cases h0 : tabErr R ns zs = 0
    · obtain ⟨N, hk, _⟩ := tabErr_okT h0
      have HTE : Hid (∀ W, Below w.heap.size w W → Calls Tryd.prog 8 #[.slice ad R cap] W fun e w' => e = .returned (.int .i64 0) ∧ Below W.heap.size W w') := fun W hb => by
        have := TableError_any _ R vs ns zs W (k.later hb) hf1 hf2
        rw [h0] at this
        exact this
      have HRO : Hid (∀ (W : World) (ad1 : Option Addr) (cap1 : Nat) (us : Nat → Value), Below w.heap.size w W → TabAt W (.slice ad1 R cap1) R us ns zs → Calls Tryd.prog 9 #[.slice ad1 R cap1] W fun e w' => ∃ g cp, e = .returned (.tuple #[.slice (some ⟨g, 0, none⟩) R cp, .nilIface]) ∧ RowAt w' g 0 R (rowSum ns zs) ∧ Below W.heap.size W w') := fun W ad1 cap1 us hb hv => Rows_ok a ad1 R cap1 N us ns zs W (hE.below hb) hv hf1 hf2 h0 hk
      have HCO : Hid (∀ (W : World) (ad1 : Option Addr) (cap1 : Nat) (us : Nat → Value), Below w.heap.size w W → TabAt W (.slice ad1 R cap1) R us ns zs → Calls Tryd.prog 11 #[.slice ad1 R cap1] W fun e w' => ∃ g cp, e = .returned (.tuple #[.slice (some ⟨g, 0, none⟩) (ns 0) cp, .nilIface]) ∧ RowAt w' g 0 (ns 0) (colV zs R) ∧ Below W.heap.size W w') := fun W ad1 cap1 us hb hv => Columns_ok a ad1 R cap1 N us ns zs W (hE.below hb) hv hf1 hf2 h0 hk
      have HRD : Hid (∀ W, Below w.heap.size w W → Calls Tryd.prog 14 #[.slice ad R cap] W fun e w' => ∃ v, e = .returned v ∧ NumsAt w' v R (rowSum ns zs) ∧ Below W.heap.size W w') := fun W hb => RowsOf_any ad R cap N vs ns zs W (k.later hb) hk
      have HCD : Hid (∀ W, Below w.heap.size w W → Calls Tryd.prog 15 #[.slice ad R cap] W fun e w' => ∃ v, e = .returned v ∧ NumsAt w' v (ns 0) (colV zs R) ∧ Below W.heap.size W w') := fun W hb => ColumnsOf_any ad R cap N vs ns zs W (k.later hb) hk
      have hR0 := hk.r0
      have hc0 := hk.c0
      have hc16 := hk.c16
      clear hE k h0 hk
      go_enter Tryd.func3, Tryd.ntmps3
      go_wp2_with (first
        | (go_at_call 6; refine hC.mono ?_; rintro e w1 ⟨rfl, hb1⟩; have HB1 := Hid.mk' hb1; clear hb1)
        | (go_at_call 7; refine (HFW.out w1 HB1.out).mono ?_; rintro e w2 ⟨rfl, hb2⟩; have HB2 := Hid.mk' (below_chain HB1.out hb2); clear hb2)
        | (go_at_call 8; refine (HTE.out w2 HB2.out).mono ?_; rintro e w3 ⟨rfl, hb3⟩; have HB3 := Hid.mk' (below_chain HB2.out hb3); clear hb3)
        | (go_at_call_of 10 cap; have hz6 := HB5; clear hz6; refine (HLS.out w5 HB5.out).mono ?_; rintro e w6 ⟨v6, vs6, rfl, hv6, hb6⟩; obtain ⟨ad6, cap6, rfl⟩ := hv6.form; have HV6 := Hid.mk' hv6; have HB56 := Hid.mk' hb6; have HB6 := Hid.mk' (below_chain HB5.out hb6); clear hv6 hb6)
        | (go_at_call_of 10 cap; refine (HLS.out w3 HB3.out).mono ?_; rintro e w4 ⟨v4, vs4, rfl, hv4, hb4⟩; obtain ⟨ad4, cap4, rfl⟩ := hv4.form; have HV4 := Hid.mk' hv4; have HB4 := Hid.mk' (below_chain HB3.out hb4); clear hv4 hb4)
        | (go_at_call 9; refine (HRO.out w4 _ _ vs4 HB4.out HV4.out).mono ?_; rintro e w5 ⟨g5, cp5, rfl, hr5, hb5⟩; have HR5 := Hid.mk' hr5; have HB5 := Hid.mk' (below_chain HB4.out hb5); clear hr5 hb5)
        | (go_at_call 11; refine (HCO.out w6 _ _ vs6 HB6.out HV6.out).mono ?_; rintro e w7 ⟨g7, cp7, rfl, hr7, hb7⟩; have HR7 := Hid.mk' hr7; have HB57 := Hid.mk' (below_chain HB56.out hb7); have HB7 := Hid.mk' (below_chain HB6.out hb7); clear hr7 hb7)
        | (go_at_call 14; refine (HRD.out w7 HB7.out).mono ?_; rintro e w8 ⟨v8, rfl, hv8, hb8⟩; obtain ⟨ad8, cap8, rfl⟩ := hv8.form; have HV8 := Hid.mk' hv8; have HB78 := Hid.mk' hb8; have HB8 := Hid.mk' (below_chain HB7.out hb8); clear hv8 hb8)
        | (go_at_call_of 13 g5; refine (SameInts_any _ _ R (rowSum ns zs) w8 (Or.inr ⟨g5, 0, cp5, rfl, hR0, HR5.out.later (below_chain HB57.out HB78.out)⟩) HV8.out (by omega)).mono ?_; rintro e w9 ⟨rfl, hb9⟩; have HB79 := Hid.mk' (below_chain HB78.out hb9); have HB9 := Hid.mk' (below_chain HB8.out hb9); clear hb9)
        | (go_at_call 15; refine (HCD.out w9 HB9.out).mono ?_; rintro e w10 ⟨v10, rfl, hv10, hb10⟩; obtain ⟨ad10, cap10, rfl⟩ := hv10.form; have HV10 := Hid.mk' hv10; have HB710 := Hid.mk' (below_chain HB79.out hb10); have HB10 := Hid.mk' (below_chain HB9.out hb10); clear hv10 hb10)
        | (go_at_call_of 13 g7; refine (SameInts_any _ _ (ns 0) (colV zs R) w10 (Or.inr ⟨g7, 0, cp7, rfl, hc0, HR7.out.later HB710.out⟩) HV10.out (by omega)).mono ?_; rintro e w11 ⟨rfl, hb11⟩; have HB11 := Hid.mk' (below_chain HB10.out hb11); clear hb11))
      go_ret
      exact ⟨rfl, HB11.out⟩
    · have HTE : Hid (∀ W, Below w.heap.size w W → Calls Tryd.prog 8 #[.slice ad R cap] W fun e w' => e = .returned (.int .i64 (tabErr R ns zs : Int)) ∧ Below W.heap.size W w') := fun W hb => TableError_any _ R vs ns zs W (k.later hb) hf1 hf2
      have HRO : Hid (∀ (W : World) (v : Value) (us : Nat → Value), Below w.heap.size w W → TabAt W v R us ns zs → Calls Tryd.prog 9 #[v] W fun e w' => e = .returned (.tuple #[.slice none 0 0, errV a (tabErr R ns zs)]) ∧ Below W.heap.size W w') := fun W v us hb hv => Rows_bad a v R us ns zs W (hE.below hb) hv hf1 hf2 h0
      have HCO : Hid (∀ (W : World) (v : Value) (us : Nat → Value), Below w.heap.size w W → TabAt W v R us ns zs → Calls Tryd.prog 11 #[v] W fun e w' => e = .returned (.tuple #[.slice none 0 0, errV a (tabErr R ns zs)]) ∧ Below W.heap.size W w') := fun W v us hb hv => Columns_bad a v R us ns zs W (hE.below hb) hv hf1 hf2 h0
      have HC8 := Hid.mk' (tabErr_le3 R ns zs)
      obtain ⟨ev, hev⟩ : ∃ ev, ev = errV a (tabErr R ns zs) := ⟨_, rfl⟩
      have HCO2 : Hid (∀ W, Below w.heap.size w W → Calls Tryd.prog 12 #[ev, .int .i64 (tabErr R ns zs : Int)] W fun e w' => e = .returned (.bool true) ∧ Below W.heap.size W w') := fun W hb => by rw [hev]; exact coded_errV a _ (by have := HC8.out; omega) W (hE.below hb)
      rw [← hev] at HRO HCO
      generalize tabErr R ns zs = c at *
      have hcp : (0 : Int) < (c : Int) := by omega
      clear hE k hev h0
      go_enter Tryd.func3, Tryd.ntmps3
      go_wp2_with (first
        | (go_at_call 6; refine hC.mono ?_; rintro e w1 ⟨rfl, hb1⟩; have HB1 := Hid.mk' hb1; clear hb1)
        | (go_at_call 7; refine (HFW.out w1 HB1.out).mono ?_; rintro e w2 ⟨rfl, hb2⟩; have HB2 := Hid.mk' (below_chain HB1.out hb2); clear hb2)
        | (go_at_call 8; refine (HTE.out w2 HB2.out).mono ?_; rintro e w3 ⟨rfl, hb3⟩; have HB3 := Hid.mk' (below_chain HB2.out hb3); clear hb3)
        | (go_at_call_of 10 cap; have hz6 := HB5; clear hz6; refine (HLS.out w5 HB5.out).mono ?_; rintro e w6 ⟨v6, vs6, rfl, hv6, hb6⟩; obtain ⟨ad6, cap6, rfl⟩ := hv6.form; have HV6 := Hid.mk' hv6; have HB6 := Hid.mk' (below_chain HB5.out hb6); clear hv6 hb6)
        | (go_at_call_of 10 cap; refine (HLS.out w3 HB3.out).mono ?_; rintro e w4 ⟨v4, vs4, rfl, hv4, hb4⟩; obtain ⟨ad4, cap4, rfl⟩ := hv4.form; have HV4 := Hid.mk' hv4; have HB4 := Hid.mk' (below_chain HB3.out hb4); clear hv4 hb4)
        | (go_at_call 9; refine (HRO.out w4 _ vs4 HB4.out HV4.out).mono ?_; rintro e w5 ⟨rfl, hb5⟩; have HB5 := Hid.mk' (below_chain HB4.out hb5); clear hb5)
        | (go_at_call 11; refine (HCO.out w6 _ vs6 HB6.out HV6.out).mono ?_; rintro e w7 ⟨rfl, hb7⟩; have HB7 := Hid.mk' (below_chain HB6.out hb7); clear hb7)
        | (go_at_call 12; have hz8 := HB8; clear hz8; refine (HCO2.out w8 HB8.out).mono ?_; rintro e w9 ⟨rfl, hb9⟩; have HB9 := Hid.mk' (below_chain HB8.out hb9); clear hb9)
        | (go_at_call 12; refine (HCO2.out w7 HB7.out).mono ?_; rintro e w8 ⟨rfl, hb8⟩; have HB8 := Hid.mk' (below_chain HB7.out hb8); clear hb8))
      go_ret
      exact ⟨rfl, HB9.out⟩
  · have HFW : Hid (∀ W, Below w.heap.size w W → Calls Tryd.prog 7 #[.slice ad R cap] W fun e w' => e = .returned (.bool false) ∧ Below W.heap.size W w') := fun W hb => few_any _ R vs ns zs W (k.later hb) hm hs false ⟨(fun e => by cases e), (fun e => absurd e hf)⟩
    clear hE k hf
    go_enter Tryd.func3, Tryd.ntmps3
    go_wp2_with (first
      | (go_at_call 6; refine hC.mono ?_; rintro e w1 ⟨rfl, hb1⟩; have HB1 := Hid.mk' hb1; clear hb1)
      | (go_at_call 7; refine (HFW.out w1 HB1.out).mono ?_; rintro e w2 ⟨rfl, hb2⟩; have HB2 := Hid.mk' (below_chain HB1.out hb2); clear hb2))
    go_ret
    exact ⟨rfl, HB2.out⟩
end Go.Proofs.YtfnmpkkfdljgcaaDoor

/- What the rows' condition on package variables gives a walk: eight different sentinels with their texts, and the handle of the type error. -/
namespace Go.Proofs.YtfnmpkkfdljgcaaDoor
open Go.ChangeShapes Go.WideShapes Go.RowKit

theorem Tryd.own : ownKnob Tryd.prog.godebug = none := by kernel_rfl
theorem Tryd.et : Tryd.prog.globalNamed "errors.errorType" = some 8 := by kernel_rfl
theorem Tryd.rt : (Tryd.prog.cutTypes.find? (·.1 == "internal/reflectlite.rtype")).map (·.2) = some 122 := by kernel_rfl
theorem Tryd.oneRow : ((List.range 189).filter fun t => Tryd.prog.rowNamed t [101, 114, 114, 111, 114]) = [28] := by kernel_rfl
theorem Tryd.size : Tryd.prog.types.size = 189 := by kernel_rfl
theorem Tryd.star : ("*" ++ "errors.errorString" : String) = "*errors.errorString" := by decide
theorem Tryd.rowE (u : TypeId) (h : Tryd.prog.typeName? 3 u = some "*errors.errorString") : u = 156 :=
  typeName_ptr_named (nm := "errors.errorString") (by rw [Tryd.star]; kernel_rfl) (by kernel_rfl) (by decide) u (by rw [Tryd.star]; exact h)
theorem Tryd.cellsE : Tryd.prog.cellsOf 177 = 1 := by kernel_rfl
theorem Tryd.cellsS : Tryd.prog.cellsOf 9 = 1 := by kernel_rfl
theorem Tryd.g0 : Tryd.prog.globalNamed "demon/api.ErrText" = some 2 := by kernel_rfl
theorem Tryd.g1 : Tryd.prog.globalNamed "demon/api.ErrBound" = some 0 := by kernel_rfl
theorem Tryd.g2 : Tryd.prog.globalNamed "demon/api.ErrShape" = some 1 := by kernel_rfl
theorem Tryd.g3 : Tryd.prog.globalNamed "demon/api.ErrZero" = some 3 := by kernel_rfl
theorem Tryd.g4 : Tryd.prog.globalNamed "demon/api.ErrName" = some 4 := by kernel_rfl
theorem Tryd.g5 : Tryd.prog.globalNamed "demon/api.ErrNone" = some 5 := by kernel_rfl
theorem Tryd.g6 : Tryd.prog.globalNamed "demon/api.ErrOrder" = some 6 := by kernel_rfl
theorem Tryd.g7 : Tryd.prog.globalNamed "demon/api.ErrKind" = some 7 := by kernel_rfl

/-- Any number of listed sentinels of one type: each one's pointer, text and row; no two are one. -/
theorem laid_list {P : Program} {W : World} {nm : String} {ti tp te ts : TypeId} {ms : Array (String × TypeId)} {f : Field}
    (hi : P.underlying ti = some (.interface ms)) (hrow : ∀ u, P.typeName? 3 u = some nm → u = tp)
    (hp : P.underlying tp = some (.pointer te)) (he : P.underlying te = some (.struct #[f])) (hft : f.type = ts) (hfo : f.offset = 0) (hs : P.underlying ts = some .string) (hc : P.cellsOf te = 1) (hcs : P.cellsOf ts = 1) :
    ∀ (L : List (String × List UInt8)) (ps : List MemPlace), (∀ x, x ∈ L → ∃ g, P.globalNamed x.1 = some g ∧ (P.globals[g]?).map (·.type) = some ti) →
      DataW.LaidVars P W (L.map fun x => (x.1, .iface nm (.ptr (.agg [.lit (.string x.2)])))) ps → ps.Nodup →
      (∀ b off, MemPlace.cell b off ∈ ps → (∃ c t, W.heap[b]? = some (.cells c t (0, 0))) ∧ ∀ u v, W.cell? ⟨b, off, none⟩ = some (.iface u v) → Value.okWide P W .any 0 u v) →
      ∃ a : Nat → Addr, (∀ i x, L[i]? = some x → W.var? P x.1 = some #[.iface tp (.pointer (some (a i)))] ∧ (∃ s, W.cell? (a i) = some (.string s) ∧ s.data.toList = x.2) ∧
          (∃ c t, W.heap[(a i).block]? = some (.cells c t (0, 0))) ∧ MemPlace.cell (a i).block (a i).off ∈ ps) ∧
        ∀ i j, i < L.length → j < L.length → i ≠ j → a i ≠ a j := by
  intro L
  induction L with
  | nil => intro ps _ _ _ _; exact ⟨fun _ => default, fun i x h => by simp at h, fun i j h => by simp at h⟩
  | cons x r ih =>
    intro ps hgs hv hnd hrows
    obtain ⟨n, text⟩ := x
    obtain ⟨g0, t0, cs0, f0, p0, q0, hg0, ht0, hv0, hd0, hvr, e0⟩ := hv
    obtain ⟨g, hg, ht⟩ := hgs (n, text) (List.mem_cons_self ..)
    obtain rfl := Option.some.inj (hg.symm.trans hg0)
    obtain rfl := Option.some.inj (ht.symm.trans ht0)
    subst e0
    obtain ⟨l0⟩ := cs0
    have ok0 : ∀ u v, l0 = [.iface u v] → Value.okWide P W .any 0 u v := fun u v e => by
      subst e
      exact (hrows g 0 (by simp [MemPlace.row])).2 u v (by simpa using World.var?_cell hg0 hv0 0)
    obtain ⟨a0, s0, rfl, hc0, hs0, hz0, rfl⟩ := errorString_of_trod hi hrow hp he hft hfo hs hc hcs hd0 ok0
    obtain ⟨c0, tt0, hb0⟩ := (hrows a0.block a0.off (by simp [MemPlace.row])).1
    have hnq : q0.Nodup := List.Nodup.sublist (List.sublist_append_right _ _) hnd
    obtain ⟨a', ha', hne'⟩ := ih q0 (fun x hx => hgs x (List.mem_cons_of_mem _ hx)) hvr hnq (fun b off hm => hrows b off (List.mem_append_right _ hm))
    have hnot : MemPlace.cell a0.block a0.off ∉ q0 := by
      intro hm
      have := (List.nodup_append.1 hnd).2.2
      exact this (.cell a0.block a0.off) (by simp [MemPlace.row]) (.cell a0.block a0.off) hm rfl
    refine ⟨fun i => match i with | 0 => a0 | k + 1 => a' k, ?_, ?_⟩
    · intro i x hx
      cases i with
      | zero =>
        simp only [List.getElem?_cons_zero, Option.some.injEq] at hx
        subst hx
        exact ⟨hv0, ⟨s0, hc0, hs0⟩, ⟨c0, tt0, hb0⟩, by simp [MemPlace.row]⟩
      | succ k =>
        simp only [List.getElem?_cons_succ] at hx
        obtain ⟨h1, h2, h3, h4⟩ := ha' k x hx
        exact ⟨h1, h2, h3, List.mem_append_right _ h4⟩
    · have far : ∀ k, k < r.length → a0 ≠ a' k := fun k hk e => by
        obtain ⟨_, _, _, h4⟩ := ha' k r[k] (by simp [hk])
        rw [← e] at h4
        exact hnot h4
      intro i j hi' hj' hij
      cases i with
      | zero =>
        cases j with
        | zero => exact absurd rfl hij
        | succ k => exact far k (by simpa using hj')
      | succ m =>
        cases j with
        | zero => exact (far m (by simpa using hi')).symm
        | succ k => exact hne' m k (by simpa using hi') (by simpa using hj') (by omega)

/-- The names and texts, in the rows' order. -/
def eightNames : List (String × List UInt8) := [("demon/api.ErrText", [100, 101, 109, 111, 110, 58, 32, 116, 101, 120, 116]), ("demon/api.ErrBound", [100, 101, 109, 111, 110, 58, 32, 98, 111, 117, 110, 100]), ("demon/api.ErrShape", [100, 101, 109, 111, 110, 58, 32, 115, 104, 97, 112, 101]), ("demon/api.ErrZero", [100, 101, 109, 111, 110, 58, 32, 122, 101, 114, 111]), ("demon/api.ErrName", [100, 101, 109, 111, 110, 58, 32, 110, 97, 109, 101]), ("demon/api.ErrNone", [100, 101, 109, 111, 110, 58, 32, 110, 111, 110, 101]), ("demon/api.ErrOrder", [100, 101, 109, 111, 110, 58, 32, 111, 114, 100, 101, 114]), ("demon/api.ErrKind", [100, 101, 109, 111, 110, 58, 32, 107, 105, 110, 100])]
def laidAll : List (String × DataW Unit) := [("errors.errorType", Rows.laid_errors_errorType), ("demon/api.ErrText", Rows.laid_demon_api_ErrText), ("demon/api.ErrBound", Rows.laid_demon_api_ErrBound), ("demon/api.ErrShape", Rows.laid_demon_api_ErrShape), ("demon/api.ErrZero", Rows.laid_demon_api_ErrZero), ("demon/api.ErrName", Rows.laid_demon_api_ErrName), ("demon/api.ErrNone", Rows.laid_demon_api_ErrNone), ("demon/api.ErrOrder", Rows.laid_demon_api_ErrOrder), ("demon/api.ErrKind", Rows.laid_demon_api_ErrKind)]
theorem laidAll_parts (W : World) : laidMetH Tryd.prog laidAll W = (laidMet Tryd.prog (eightNames.map fun x => (x.1, .iface "*errors.errorString" (.ptr (.agg [.lit (.string x.2)])))) W ∧ handlesMet Tryd.prog [("errors.errorType", Rows.laid_errors_errorType)] W) := by kernel_rfl

theorem var_at {W : World} {n : String} {g : Nat} {v : Value} (hg : Tryd.prog.globalNamed n = some g) (h : W.var? Tryd.prog n = some #[v]) : W.cell? ⟨g, 0, none⟩ = some v := by
  simpa using World.var?_cell hg h 0

theorem errs_of_laid {W : World} (h : laidMetH Tryd.prog laidAll W) : ∃ a : Nat → Addr, Errs W a ∧ ∀ i x, eightNames[i]? = some x → ∃ s, W.cell? (a i) = some (.string s) ∧ s.data.toList = x.2 := by
  rw [laidAll_parts] at h
  obtain ⟨⟨ps, hv, hnd, hrows⟩, hh⟩ := h
  obtain ⟨name, u, ty, e1, e2, e3, e4, e5⟩ := hh _ (List.mem_singleton.2 rfl)
  have en : name = [101, 114, 114, 111, 114] := (Option.some.inj e1).symm
  subst en
  obtain rfl := Option.some.inj (Tryd.rt.symm.trans e2)
  have hm : ty ∈ (List.range 189).filter fun t => Tryd.prog.rowNamed t [101, 114, 114, 111, 114] := List.mem_filter.2 ⟨List.mem_range.2 (by rw [← Tryd.size]; exact e3), e4⟩
  rw [Tryd.oneRow] at hm
  obtain rfl := List.mem_singleton.1 hm
  have hth : typeHandle Tryd.prog 28 = .pointer (some ⟨9, 28, none⟩) := by kernel_rfl
  rw [hth] at e5
  obtain ⟨a, ha, hne⟩ := laid_list Tryd.underlying28 Tryd.rowE Tryd.underlying156 Tryd.underlying177 rfl rfl Tryd.underlying9 Tryd.cellsE Tryd.cellsS eightNames ps
    (fun x hx => by
      simp only [eightNames, List.mem_cons, List.not_mem_nil, or_false] at hx
      rcases hx with rfl | rfl | rfl | rfl | rfl | rfl | rfl | rfl
      · exact ⟨_, Tryd.g0, by kernel_rfl⟩
      · exact ⟨_, Tryd.g1, by kernel_rfl⟩
      · exact ⟨_, Tryd.g2, by kernel_rfl⟩
      · exact ⟨_, Tryd.g3, by kernel_rfl⟩
      · exact ⟨_, Tryd.g4, by kernel_rfl⟩
      · exact ⟨_, Tryd.g5, by kernel_rfl⟩
      · exact ⟨_, Tryd.g6, by kernel_rfl⟩
      · exact ⟨_, Tryd.g7, by kernel_rfl⟩) hv hnd hrows
  refine ⟨a, ⟨var_at Tryd.g0 (ha 0 _ rfl).1, var_at Tryd.g1 (ha 1 _ rfl).1, var_at Tryd.g2 (ha 2 _ rfl).1, var_at Tryd.g3 (ha 3 _ rfl).1, var_at Tryd.g4 (ha 4 _ rfl).1, var_at Tryd.g5 (ha 5 _ rfl).1, var_at Tryd.g6 (ha 6 _ rfl).1, var_at Tryd.g7 (ha 7 _ rfl).1, var_at Tryd.et e5, ?_, ?_⟩, fun i x hx => (ha i x hx).2.1⟩
  · intro i hi
    have hl : eightNames.length = 8 := rfl
    exact (ha i eightNames[i] (List.getElem?_eq_getElem (by omega))).2.2.1
  · intro i j hi hj hij
    exact hne i j hi hj hij

/-- The door's own heap meets the condition. -/
theorem door_met (os : Os) (args : Array Value) : laidMetH Tryd.prog laidAll ((World.doorLaid Tryd.prog 168 os).forCall (fun _ _ => 0) ⟨#[], args, []⟩).memory :=
  laidMetH_of_parts3 (fuel := 8) (laidMet_of_run' 8 (by kernel_rfl) (by kernel_rfl)) (by kernel_rfl) (by kernel_rfl)
end Go.Proofs.YtfnmpkkfdljgcaaDoor

/- A parameter of type []int opened. -/
namespace Go.Proofs.YtfnmpkkfdljgcaaDoor
open Go.ChangeShapes Go.WideShapes Go.ChangeAt Go.RowKit Go.Joins Go.Deep

theorem Tryd.laidOut : laidOutB Tryd.prog = true := by kernel_rfl
theorem Tryd.cellsInt : Tryd.prog.cellsOf 3 = 1 := by kernel_rfl
theorem Tryd.cellsInts : Tryd.prog.cellsOf 26 = 1 := by kernel_rfl

set_option maxRecDepth 100000 in
/-- What a parameter of type []int gives: its slice, its numbers. -/
theorem open_nums {H : Type} {enc : TypeId × Value → H} {W : World} {base : Nat} {v : Value} {d : DataW H} {p : List MemPlace} (hv : Value.okWide Tryd.prog W .any base 26 v)
    (h : DataW.Trod enc Tryd.prog W 0 (fun _ => true) true 26 v d p) :
    ∃ (ad : Option Addr) (n cap : Nat) (z : Nat → Int), v = .slice ad n cap ∧ n ≤ maxLen ∧ NumsAt W (.slice ad n cap) n z := by
  obtain ⟨ad, n, cap, rfl⟩ := okWide_slice Tryd.underlying26 hv
  obtain ⟨fuel, hf⟩ := h
  rcases open_ints Tryd.underlying26 Tryd.underlying3 Tryd.cellsInt hf with ⟨hc, _⟩ | ⟨a, len, cap', zs, hc, _, hl, hm, hz, _, hcell, _⟩
  · simp [Value.cells] at hc
    obtain ⟨rfl, rfl, rfl⟩ := hc
    exact ⟨none, 0, 0, fun _ => 0, rfl, Nat.zero_le _, Or.inl ⟨none, 0, rfl, rfl⟩⟩
  · simp [Value.cells] at hc
    obtain ⟨rfl, rfl, rfl⟩ := hc
    simp only [if_true] at hz
    rcases Nat.eq_zero_or_pos n with rfl | hpos
    · exact ⟨some a, 0, cap, fun _ => 0, rfl, Nat.zero_le _, Or.inl ⟨some a, cap, rfl, rfl⟩⟩
    · obtain ⟨b, o, spot⟩ := a
      have hspot : spot = none := by simpa [Addr.add] using World.cell?_spot (hcell 0 (by omega))
      subst hspot
      refine ⟨_, n, cap, fun i => zs.getD i 0, rfl, by omega, Or.inr ⟨b, o, cap, rfl, hpos, fun i hi => ?_⟩⟩
      have := hcell i (by omega)
      rw [Go.Proofs.YtfnmpkkfdljgcaaDoor.add_plain] at this
      exact this
end Go.Proofs.YtfnmpkkfdljgcaaDoor

/- A parameter of type [][]int opened; how many numbers it holds at the most. -/
namespace Go.Proofs.YtfnmpkkfdljgcaaDoor
open Go.ChangeShapes Go.WideShapes Go.ChangeAt Go.RowKit Go.Joins Go.Deep

theorem bulk_one {H : Type} (d : DataW H) : 1 ≤ Rows.uptoBulk d := by
  cases d with
  | lit l => cases l <;> simp [Rows.uptoBulk]
  | _ => simp [Rows.uptoBulk]
theorem bulk_len {H : Type} : ∀ l : List (DataW H), l.length ≤ Rows.uptoBulkAll l
  | [] => by simp [Rows.uptoBulkAll]
  | x :: r => by
    have h1 := bulk_one x
    have h2 := bulk_len r
    simp only [Rows.uptoBulkAll, List.length_cons]
    omega
theorem bulk_mem {H : Type} {d : DataW H} : ∀ {l : List (DataW H)}, d ∈ l → Rows.uptoBulk d ≤ Rows.uptoBulkAll l
  | x :: r, h => by
    simp only [Rows.uptoBulkAll]
    rcases List.mem_cons.1 h with rfl | h'
    · omega
    · have := bulk_mem h'; omega
theorem bulk_append {H : Type} : ∀ l r : List (DataW H), Rows.uptoBulkAll (l ++ r) = Rows.uptoBulkAll l + Rows.uptoBulkAll r
  | [], r => by simp [Rows.uptoBulkAll]
  | x :: l, r => by simp only [List.cons_append, Rows.uptoBulkAll, bulk_append l r]; omega
theorem bulk_sum {H : Type} (f : Nat → DataW H) (L : Nat → Nat) : ∀ n, (∀ r, r < n → L r ≤ Rows.uptoBulk (f r)) → sumT L n ≤ Rows.uptoBulkAll ((List.range n).map f)
  | 0, _ => Nat.zero_le _
  | n + 1, h => by
    have h1 := bulk_sum f L n (fun r hr => h r (by omega))
    have h2 := h n (by omega)
    show sumT L n + L n ≤ _
    rw [List.range_succ, List.map_append, bulk_append]
    simp only [List.map_cons, List.map_nil, Rows.uptoBulkAll]
    omega

set_option maxRecDepth 100000 in
theorem open_table {H : Type} {enc : TypeId × Value → H} {W : World} {base : Nat} {v : Value} {d : DataW H} {p : List MemPlace} (hv : Value.okWide Tryd.prog W .any base 22 v)
    (h : DataW.Trod enc Tryd.prog W 0 (fun _ => true) true 22 v d p) :
    ∃ (ad : Option Addr) (R cap : Nat) (vs : Nat → Value) (ns : Nat → Nat) (zs : Nat → Nat → Int), v = .slice ad R cap ∧ R ≤ maxLen ∧ TabAt W (.slice ad R cap) R vs ns zs ∧ sumT ns R ≤ Rows.uptoBulk d := by
  obtain ⟨ad, R, cap, rfl⟩ := okWide_slice Tryd.underlying22 hv
  obtain ⟨fuel, hf⟩ := h
  rcases open_int_rows Tryd.underlying22 Tryd.underlying26 Tryd.underlying3 Tryd.cellsInts Tryd.cellsInt hf with ⟨hc, _⟩ | ⟨a, len, cap', A, L, C, Z, hc, _, hl, hm, hx, hr⟩
  · simp [Value.cells] at hc
    obtain ⟨rfl, rfl, rfl⟩ := hc
    exact ⟨none, 0, 0, fun _ => .slice none 0 0, fun _ => 0, fun _ _ => 0, rfl, Nat.zero_le _, Or.inl ⟨none, 0, rfl, rfl⟩, Nat.zero_le _⟩
  · simp [Value.cells] at hc
    obtain ⟨rfl, rfl, rfl⟩ := hc
    simp only [Prod.mk.injEq] at hx
    obtain ⟨rfl, _⟩ := hx
    have hbulk : sumT L R ≤ Rows.uptoBulk (DataW.slice ((List.range R).map fun r => intRow .i64 (A r) (L r) (Z r)) ((List.range (cap - R)).map fun j => intRow .i64 (A (R + j)) (L (R + j)) (Z (R + j))) : DataW H) := by
      have h1 := bulk_sum (H := H) (fun r => intRow .i64 (A r) (L r) (Z r)) L R (fun r hr' => by
        obtain ⟨_, h2, _, h4, _, h6, _⟩ := hr r (by omega)
        cases hA : A r with
        | none => have := h6 hA; omega
        | some a' =>
          have h7 := bulk_len (H := H) (lits .i64 ((Z r).take (L r)))
          have h8 : (lits (H := H) .i64 ((Z r).take (L r))).length = L r := by simp [lits]; omega
          simp only [intRow, Rows.uptoBulk]
          omega)
      simp only [Rows.uptoBulk]
      omega
    rcases Nat.eq_zero_or_pos R with rfl | hpos
    · exact ⟨some a, 0, cap, fun _ => .slice none 0 0, L, fun _ _ => 0, rfl, Nat.zero_le _, Or.inl ⟨some a, cap, rfl, rfl⟩, hbulk⟩
    · obtain ⟨b, o, spot⟩ := a
      have hspot : spot = none := by simpa [Addr.add] using World.cell?_spot (hr 0 (by omega)).1
      subst hspot
      refine ⟨_, R, cap, fun r => .slice (A r) (L r) (C r), L, fun r i => (Z r).getD i 0, rfl, by omega, Or.inr ⟨b, o, cap, rfl, hpos, fun i hi => ?_⟩, hbulk⟩
      obtain ⟨h1, h2, _, h4, _, h6, h7⟩ := hr i (by omega)
      rw [Go.Proofs.YtfnmpkkfdljgcaaDoor.add_plain] at h1
      refine ⟨h1, ?_⟩
      rcases Nat.eq_zero_or_pos (L i) with h0 | h0
      · exact Or.inl ⟨A i, C i, by dsimp only; rw [h0], h0⟩
      · cases hA : A i with
        | none => have := h6 hA; omega
        | some a' =>
          obtain ⟨_, h8⟩ := h7 a' hA
          obtain ⟨b', o', spot'⟩ := a'
          have hs' : spot' = none := by simpa [Addr.add] using World.cell?_spot (h8 0 (by omega))
          subst hs'
          refine Or.inr ⟨b', o', C i, by dsimp only; rw [hA], h0, fun j hj => ?_⟩
          have := h8 j (by omega)
          rw [Go.Proofs.YtfnmpkkfdljgcaaDoor.add_plain] at this
          exact this
theorem bulk_bound {H : Type} {l : List (DataW H)} (hk : Rows.uptoSmall H l = true) : Rows.uptoBulkAll l ≤ 1048576 := of_decide_eq_true hk
end Go.Proofs.YtfnmpkkfdljgcaaDoor
