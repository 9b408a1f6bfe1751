/- The law ChannelTable. -/
import Derived.Test.YtnihclkaaglnjaaDoorCnOf
import Derived.Test.YtnihclkaaglnjaaDoorCodedV
namespace Go.Proofs.YtnihclkaaglnjaaDoor
open Go.RowKit

theorem rowT_le {R : Nat} {ns : Nat → Nat} (h : sumT ns R ≤ 400) (i : Nat) (hi : i < R) : ns i ≤ 400 := by
  have h2 : sumT ns i + ns i ≤ sumT ns R := sumT_mono ns hi
  omega
/-- What both tell, as lists. -/
def taL (n : Nat) (z : Nat → Int) (R : Nat) (ns : Nat → Nat) (zs : Nat → Nat → Int) : List (List Int) := if taErr n z R ns zs = 0 then tabL R (fun _ => ns 0) (outZ n z R (ns 0) zs) else []
theorem taL_at {n : Nat} {z : Nat → Int} {R : Nat} {ns : Nat → Nat} {zs : Nat → Nat → Int} {w : World} {t : Value} (h0 : taErr n z R ns zs ≠ 0 → t = .slice none 0 0) (h1 : taErr n z R ns zs = 0 → TabIs w t R (fun _ => ns 0) (outZ n z R (ns 0) zs)) : LolAt w t (taL n z R ns zs) := by
  unfold taL
  by_cases h : taErr n z R ns zs = 0
  · rw [if_pos h]
    obtain ⟨vs, hv⟩ := h1 h
    exact tab_lol hv
  · rw [if_neg h, h0 h]
    exact ⟨none, 0, rfl, fun i r hr => by simp at hr⟩
theorem taL_small {n : Nat} {z : Nat → Int} {R : Nat} {ns : Nat → Nat} {zs : Nat → Nat → Int} (hR : R ≤ 40) : (taL n z R ns zs).length ≤ 1000000 ∧ ∀ r, r ∈ taL n z R ns zs → r.length ≤ 1000 := by
  unfold taL
  by_cases h : taErr n z R ns zs = 0
  · rw [if_pos h]
    have hc : ns 0 ≤ 16 := by
      have : inErr n z R ns zs = 0 := by
        unfold taErr at h
        by_cases h1 : inErr n z R ns zs ≠ 0
        · rw [if_pos h1] at h; exact h
        · omega
      exact (inOk_of this).1.c16
    exact ⟨by simp [tabL]; omega, fun r hr => Nat.le_trans (tabL_row (B := ns 0) (fun _ _ => Nat.le_refl _) r hr) (by omega)⟩
  · rw [if_neg h]
    exact ⟨by simp, fun r hr => by simp at hr⟩
theorem LolAt.form {w : World} {v : Value} {L : List (List Int)} (h : LolAt w v L) : ∃ ad cap, v = .slice ad L.length cap := by
  obtain ⟨ad, cap, e, _⟩ := h
  exact ⟨ad, cap, e⟩

set_option maxRecDepth 100000 in
set_option maxHeartbeats 4000000 in
theorem ChannelTable_all (a : Nat → Addr) (ad : Option Addr) (n cap : Nat) (z : Nat → Int) (ad' : Option Addr) (R cap' : Nat) (vs : Nat → Value) (ns : Nat → Nat) (zs : Nat → Nat → Int) (w : World) (hE : Errs w a) (h : NumsAt w (.slice ad n cap) n z) (hm : n ≤ maxLen) (k : TabAt w (.slice ad' R cap') R vs ns zs) (hm' : R ≤ maxLen) (hs : sumT ns R ≤ 2000000) :
    Calls Tryd.prog 4 #[.slice ad n cap, .slice ad' R cap'] w fun e w' => e = .returned (.bool true) ∧ Below w.heap.size w w' := by
  have hC := noisy_any a w hE
  unfold maxLen at hm
  by_cases hf : R ≤ 40 ∧ sumT ns R ≤ 400
  · have HFW : Hid (∀ W, Below w.heap.size w W → Calls Tryd.prog 7 #[.slice ad' R cap'] W fun e w' => e = .returned (.bool true) ∧ Below W.heap.size W w') := fun W hb => few_any _ R vs ns zs W (k.later hb) hm' hs true ⟨fun _ => hf, fun _ => rfl⟩
    obtain ⟨hf1, hf2⟩ := hf
    by_cases hn : n ≤ 100
    · have hd : decide (100 < (n : Int)) = false := decide_eq_false (by omega)
      have HN : Hid (∀ W, Below w.heap.size w W → NumsAt W (.slice ad n cap) n z) := fun W hb => h.later hb
      have HK : Hid (∀ W, Below w.heap.size w W → TabAt W (.slice ad' R cap') R vs ns zs) := fun W hb => k.later hb
      have HE : Hid (∀ W, Below w.heap.size w W → Errs W a) := fun W hb => hE.below hb
      have HC1 := Hid.mk' (taErr_le n z R ns zs)
      have HTP : Hid (∀ (W : World) (x y : Value) (vs' : Nat → Value), Below w.heap.size w W → NumsAt W x n z → TabAt W y R vs' ns zs → Calls Tryd.prog 12 #[x, y] W fun e w' => ∃ t', e = .returned (.tuple #[t', errV a (taErr n z R ns zs)]) ∧ LolAt w' t' (taL n z R ns zs) ∧ Below W.heap.size W w') := fun W x y vs' hb hx hy => by
        refine (Table_any a x n z y R vs' ns zs W (hE.below hb) hx hy (by omega) hf1 (rowT_le hf2)).mono ?_
        rintro e w' ⟨t', rfl, h0, h1, hbw⟩
        exact ⟨t', rfl, taL_at h0 h1, hbw⟩
      have HTD : Hid (∀ W, Below w.heap.size w W → Calls Tryd.prog 14 #[.slice ad n cap, .slice ad' R cap'] W fun e w' => ∃ t', e = .returned (.tuple #[t', .int .i64 (taErr n z R ns zs : Nat)]) ∧ LolAt w' t' (taL n z R ns zs) ∧ Below W.heap.size W w') := fun W hb => by
        refine (TableOf_any _ n z _ R vs ns zs W (h.later hb) (k.later hb) (by omega) hf1 (rowT_le hf2)).mono ?_
        rintro e w' ⟨t', rfl, h0, h1, hbw⟩
        exact ⟨t', rfl, taL_at h0 h1, hbw⟩
      have HLS := Hid.mk' (taL_small (n := n) (z := z) (ns := ns) (zs := zs) hf1)
      generalize taErr n z R ns zs = c at *
      generalize taL n z R ns zs = LL at *
      obtain ⟨ec, hec⟩ : ∃ ec, ec = errV a c := ⟨_, rfl⟩
      have HK1 : Hid (∀ W, Below w.heap.size w W → Calls Tryd.prog 8 #[ec, .int .i64 (c : Int)] W fun e w' => e = .returned (.bool true) ∧ Below W.heap.size W w') := fun W hb => by rw [hec]; exact coded_errV a c (by have := HC1.out; omega) W (HE.out W hb)
      rw [← hec] at HTP
      clear hE h k hec
      go_enter Tryd.func4, Tryd.ntmps4
      go_wp2_with (first
        | (go_at_call 6; refine hC.mono ?_; rintro e w1 ⟨rfl, hb1⟩; have HB1 := Hid.mk' hb1; clear hb1)
        | (go_at_call 7; refine (HFW.out w1 HB1.out).mono ?_; rintro e w2 ⟨rfl, hb2⟩; have HB2 := Hid.mk' (below_chain HB1.out hb2); clear hb2)
        | (go_at_call 13; refine (ints_any _ n z w2 (HN.out _ HB2.out) (by omega)).mono ?_; rintro e w3 ⟨v3, rfl, hv3, hb3⟩; obtain ⟨ad3, cap3, rfl⟩ := hv3.form; have HV3 := Hid.mk' hv3; have HB3 := Hid.mk' (below_chain HB2.out hb3); clear hv3 hb3)
        | (go_at_call 10; refine (lists_any _ R vs ns zs w3 (HK.out _ HB3.out) hf1 hf2).mono ?_; rintro e w4 ⟨v4, vs4, rfl, hv4, hb4⟩; obtain ⟨ad4, cap4, rfl⟩ := hv4.form; have HV4 := Hid.mk' hv4; have HV34 := Hid.mk' (HV3.out.later hb4); have HB4 := Hid.mk' (below_chain HB3.out hb4); clear hv4 hb4)
        | (go_at_call 12; refine (HTP.out w4 _ _ vs4 HB4.out HV34.out HV4.out).mono ?_; rintro e w5 ⟨t5, rfl, ht5, hb5⟩; obtain ⟨ad5, cap5, rfl⟩ := ht5.form; have HT5 := Hid.mk' ht5; have HB5 := Hid.mk' (below_chain HB4.out hb5); clear ht5 hb5)
        | (go_at_call 14; refine (HTD.out w5 HB5.out).mono ?_; rintro e w6 ⟨t6, rfl, ht6, hb6⟩; obtain ⟨ad6, cap6, rfl⟩ := ht6.form; have HT6 := Hid.mk' ht6; have HT56 := Hid.mk' (HT5.out.later hb6); have HB6 := Hid.mk' (below_chain HB5.out hb6); clear ht6 hb6)
        | (go_at_call_of 8 ec; refine (HK1.out w6 HB6.out).mono ?_; rintro e w7 ⟨rfl, hb7⟩; have HT67 := Hid.mk' (HT6.out.later hb7); have HT57 := Hid.mk' (HT56.out.later hb7); have HB7 := Hid.mk' (below_chain HB6.out hb7); clear hb7)
        | (go_at_call 15; refine (SameLists_any _ _ LL w7 HT57.out HT67.out HLS.out.1 HLS.out.2).mono ?_; rintro e w8 ⟨rfl, hb8⟩; have HB8 := Hid.mk' (below_chain HB7.out hb8); clear hb8))
      go_ret
      exact ⟨rfl, HB8.out⟩
    · have hd : decide (100 < (n : Int)) = true := decide_eq_true (by omega)
      clear hE h k
      go_enter Tryd.func4, Tryd.ntmps4
      go_wp2_with (first
        | (go_at_call 6; refine hC.mono ?_; rintro e w1 ⟨rfl, hb1⟩; have HB1 := Hid.mk' hb1; clear hb1)
        | (go_at_call 7; refine (HFW.out w1 HB1.out).mono ?_; rintro e w2 ⟨rfl, hb2⟩; have HB2 := Hid.mk' (below_chain HB1.out hb2); clear hb2))
      go_ret
      exact ⟨rfl, HB2.out⟩
  · have HFW : Hid (∀ W, Below w.heap.size w W → Calls Tryd.prog 7 #[.slice ad' R cap'] W fun e w' => e = .returned (.bool false) ∧ Below W.heap.size W w') := fun W hb => few_any _ R vs ns zs W (k.later hb) hm' hs false ⟨(fun e => by cases e), (fun e => absurd e hf)⟩
    clear hE h k hf
    go_enter Tryd.func4, Tryd.ntmps4
    go_wp2_with (first
      | (go_at_call 6; refine hC.mono ?_; rintro e w1 ⟨rfl, hb1⟩; have HB1 := Hid.mk' hb1; clear hb1)
      | (go_at_call 7; refine (HFW.out w1 HB1.out).mono ?_; rintro e w2 ⟨rfl, hb2⟩; have HB2 := Hid.mk' (below_chain HB1.out hb2); clear hb2))
    go_ret
    exact ⟨rfl, HB2.out⟩
end Go.Proofs.YtnihclkaaglnjaaDoor
