/- The law PrefixCanon. -/
import Derived.Test.YtcigmihfannmjaaDoorCanonD
import Derived.Test.YtcigmihfannmjaaDoorKraftP
import Derived.Test.YtcigmihfannmjaaDoorBeginsP
import Derived.Test.YtcigmihfannmjaaDoorCopy
import Derived.Test.YtcigmihfannmjaaDoorCodedV
namespace Go.Proofs.YtcigmihfannmjaaDoor
open Go.RowKit

theorem canErr_le (n : Nat) (z : Nat → Int) : canErr n z ≤ 8 := by
  have := lenErr_le n z
  unfold canErr; split
  · split <;> omega
  · omega
set_option maxRecDepth 100000 in
set_option maxHeartbeats 4000000 in
theorem PrefixCanon_all (a : Nat → Addr) (ad : Option Addr) (n cap : Nat) (z : Nat → Int) (w : World) (hE : Errs w a) (hd : w.cell? ⟨14, 1, none⟩ = some (.int .u8 1)) (h : NumsAt w (.slice ad n cap) n z) (hm : n ≤ maxLen) :
    Calls Tryd.prog 5 #[.slice ad n cap] w fun e w' => e = .returned (.bool true) ∧ Below w.heap.size w w' := by
  have hH := halves_any a w hE hd
  unfold maxLen at hm
  by_cases h4 : n ≤ 400
  · have HIN : Hid (∀ W, Below w.heap.size w W → Calls Tryd.prog 14 #[.slice ad n cap] W fun e w' => ∃ v', e = .returned v' ∧ NumsAt w' v' n z ∧ Below W.heap.size W w') := fun W hb => ints_any _ n z W (h.later hb) h4
    have HLE : Hid (∀ W, Below w.heap.size w W → Calls Tryd.prog 13 #[.slice ad n cap] W fun e w' => e = .returned (.int .i64 (lenErr n z : Nat)) ∧ w' = W) := fun W hb => LengthsError_any _ n z W (h.later hb) (by omega)
    have HKO : Hid (lenErr n z = 0 → ∀ W, Below w.heap.size w W → Calls Tryd.prog 18 #[.slice ad n cap] W fun e w' => e = .returned (.int .i64 (shareSum z n : Nat)) ∧ w' = W) := fun hc W hb => KraftOf_any _ n z W (h.later hb) (lenErr_ok hc).2.1 (lenErr_ok hc).2.2
    have hnI : (n : Int) ≤ 400 := by omega
    have hle := canErr_le n z
    by_cases hc : canErr n z = 0
    · obtain ⟨hl, hs⟩ : lenErr n z = 0 ∧ shareSum z n ≤ 1099511627776 := by
        unfold canErr at hc
        by_cases hl : lenErr n z = 0
        · rw [if_pos hl] at hc
          refine ⟨hl, Nat.not_lt.1 fun hs => ?_⟩
          rw [if_pos hs] at hc; cases hc
        · rw [if_neg hl] at hc; exact absurd hc hl
      obtain ⟨hn0, hn16, hz⟩ := lenErr_ok hl
      have HKO' := Hid.mk' (HKO.out hl)
      have HCN : Hid (∀ (W : World) (v : Value), Below w.heap.size w W → NumsAt W v n z → Calls Tryd.prog 19 #[v] W fun e w' => ∃ g, e = .returned (.tuple #[.slice (some ⟨g, 0, none⟩) n n, .nilIface]) ∧ RowIs w' g n (fun i => strV (wordsN z (ordL z n 40) n i)) ∧ Below W.heap.size W w') := fun W v hb hv => Canon_ok a v n z W (hE.below hb) (by rw [hb.cell (cell_lt hd)]; exact hd) hv hl hs
      have HCO : Hid (∀ W, Below w.heap.size w W → Calls Tryd.prog 21 #[.slice ad n cap] W fun e w' => ∃ g, e = .returned (.slice (some ⟨g, 0, none⟩) n n) ∧ RowIs w' g n (fun i => strV (wordsN z (ordL z n 40) n i)) ∧ Below W.heap.size W w') := fun W hb => CanonOf_any _ n z W (h.later hb) hn0 hn16 hz hs
      have HAP : Hid (Apart (fun i => ⟨(wordsN z (ordL z n 40) n i).toArray⟩) n) := fun i k hi hk hne => by
        unfold begB
        exact decide_eq_false (words_apart hz (by rw [← shareSum_list]; exact hs) hi hk hne)
      rw [hl] at HLE
      have hsI : ((shareSum z n : Nat) : Int) ≤ 1099511627776 := by omega
      clear hE hd h hz hc hl HKO
      generalize wordsN z (ordL z n 40) n = wd at *
      generalize shareSum z n = S at *
      go_enter Tryd.func5, Tryd.ntmps5
      go_wp2_with (first
        | (go_at_call 6; refine hH.mono ?_; rintro e w1 ⟨rfl, hb1⟩; have HB1 := Hid.mk' hb1; clear hb1)
        | (go_at_call 13; refine (HLE.out w1 HB1.out).mono ?_; rintro e w2 ⟨rfl, hw2⟩; rw [hw2]; clear hw2)
        | (go_at_call 18; refine (HKO'.out w1 HB1.out).mono ?_; rintro e w2 ⟨rfl, hw2⟩; rw [hw2]; clear hw2)
        | (go_at_call 14; refine (HIN.out w1 HB1.out).mono ?_; rintro e w3 ⟨v3, rfl, hv3, hb3⟩; have HB3 := Hid.mk' (below_chain HB1.out hb3); have HV3 := Hid.mk' hv3; clear hb3 hv3)
        | (go_at_call 19; refine (HCN.out w3 _ HB3.out HV3.out).mono ?_; rintro e w4 ⟨g4, rfl, hr4, hb4⟩; have HB4 := Hid.mk' (below_chain HB3.out hb4); have HR4 := Hid.mk' hr4; clear hb4 hr4)
        | (go_at_call 21; refine (HCO.out w4 HB4.out).mono ?_; rintro e w5 ⟨g5, rfl, hr5, hb5⟩; have HB5 := Hid.mk' (below_chain HB4.out hb5); have HR5 := Hid.mk' hr5; have HQ5 := Hid.mk' (HR4.out.later hb5); clear hb5 hr5)
        | (go_at_call 20; refine (sameStrings_same g4 0 n g5 0 n n (fun i => ⟨(wd i).toArray⟩) w5 (by omega) (fun i hi => by rw [Nat.zero_add]; exact HQ5.out.row i hi) (fun i hi => by rw [Nat.zero_add]; exact HR5.out.row i hi)).mono ?_; rintro e w6 ⟨rfl, hb6⟩; have HB6 := Hid.mk' (below_chain HB5.out hb6); have HQ6 := Hid.mk' (HQ5.out.later hb6); clear hb6)
        | (go_at_call 22; refine (IsPrefix_any (some ⟨g4, 0, none⟩) n n (fun i => ⟨(wd i).toArray⟩) true w6 ⟨fun _ => HAP.out, fun _ => rfl⟩ (by omega) (fun i hi => ⟨g4, 0, rfl, by rw [Nat.zero_add]; exact HQ6.out.row i hi⟩)).mono ?_; rintro e w7 ⟨rfl, hb7⟩; have HB7 := Hid.mk' (below_chain HB6.out hb7); clear hb7))
      go_ret
      exact ⟨rfl, HB7.out⟩
    · have HCN : Hid (∀ (W : World) (v : Value), Below w.heap.size w W → NumsAt W v n z → Calls Tryd.prog 19 #[v] W fun e w' => e = .returned (.tuple #[.slice none 0 0, errV a (canErr n z)]) ∧ Below W.heap.size W w') := fun W v hb hv => Canon_bad a v n z W (hE.below hb) hv (by omega) hc
      have HCD : Hid (∀ W, Below w.heap.size w W → Calls Tryd.prog 15 #[errV a (canErr n z), .int .i64 (canErr n z : Int)] W fun e w' => e = .returned (.bool true) ∧ Below W.heap.size W w') := fun W hb => coded_errV a _ hle W (hE.below hb)
      have hce : canErr n z = (if lenErr n z = 0 then (if 1099511627776 < shareSum z n then 6 else 0) else lenErr n z) := rfl
      clear hE hd h
      by_cases hl : lenErr n z = 0
      · have HKO' := Hid.mk' (HKO.out hl)
        rw [if_pos hl] at hce
        have hs : 1099511627776 < shareSum z n := Classical.byContradiction fun hno => hc (by rw [hce, if_neg hno])
        rw [if_pos hs] at hce
        rw [hce] at HCN HCD
        rw [hl] at HLE
        have hsI : (1099511627776 : Int) < ((shareSum z n : Nat) : Int) := by omega
        clear hce hc hl hs hle HKO
        generalize shareSum z n = S at *
        generalize errV a 6 = ec at *
        go_enter Tryd.func5, Tryd.ntmps5
        go_wp2_with (first
          | (go_at_call 6; refine hH.mono ?_; rintro e w1 ⟨rfl, hb1⟩; have HB1 := Hid.mk' hb1; clear hb1)
          | (go_at_call 13; refine (HLE.out w1 HB1.out).mono ?_; rintro e w2 ⟨rfl, hw2⟩; rw [hw2]; clear hw2)
          | (go_at_call 18; refine (HKO'.out w1 HB1.out).mono ?_; rintro e w2 ⟨rfl, hw2⟩; rw [hw2]; clear hw2)
          | (go_at_call 14; refine (HIN.out w1 HB1.out).mono ?_; rintro e w3 ⟨v3, rfl, hv3, hb3⟩; have HB3 := Hid.mk' (below_chain HB1.out hb3); have HV3 := Hid.mk' hv3; clear hb3 hv3)
          | (go_at_call 19; refine (HCN.out w3 _ HB3.out HV3.out).mono ?_; rintro e w4 ⟨rfl, hb4⟩; have HB4 := Hid.mk' (below_chain HB3.out hb4); clear hb4)
          | (go_at_call 15; refine (HCD.out w4 HB4.out).mono ?_; rintro e w5 ⟨rfl, hb5⟩; have HB5 := Hid.mk' (below_chain HB4.out hb5); clear hb5))
        go_ret
        exact ⟨rfl, HB5.out⟩
      · rw [if_neg hl] at hce
        rw [hce] at HCN HCD
        clear hce hc hle HKO
        have hcb : (((lenErr n z : Nat) : Int) == 0) = false := by rw [beq_eq_false_iff_ne]; omega
        have hcI : (0 : Int) < ((lenErr n z : Nat) : Int) := by omega
        clear hl
        generalize lenErr n z = c at *
        generalize errV a c = ec at *
        go_enter Tryd.func5, Tryd.ntmps5
        go_wp2_with (first
          | (go_at_call 6; refine hH.mono ?_; rintro e w1 ⟨rfl, hb1⟩; have HB1 := Hid.mk' hb1; clear hb1)
          | (go_at_call 13; refine (HLE.out w1 HB1.out).mono ?_; rintro e w2 ⟨rfl, hw2⟩; rw [hw2]; clear hw2)
          | (go_at_call 14; refine (HIN.out w1 HB1.out).mono ?_; rintro e w3 ⟨v3, rfl, hv3, hb3⟩; have HB3 := Hid.mk' (below_chain HB1.out hb3); have HV3 := Hid.mk' hv3; clear hb3 hv3)
          | (go_at_call 19; refine (HCN.out w3 _ HB3.out HV3.out).mono ?_; rintro e w4 ⟨rfl, hb4⟩; have HB4 := Hid.mk' (below_chain HB3.out hb4); clear hb4)
          | (go_at_call 15; refine (HCD.out w4 HB4.out).mono ?_; rintro e w5 ⟨rfl, hb5⟩; have HB5 := Hid.mk' (below_chain HB4.out hb5); clear hb5))
        go_ret
        exact ⟨rfl, HB5.out⟩
  · have hnI : (400 : Int) < (n : Int) := by omega
    clear hE h hd
    go_enter Tryd.func5, Tryd.ntmps5
    go_wp2_with (first
      | (go_at_call 6; refine hH.mono ?_; rintro e w1 ⟨rfl, hb1⟩; have HB1 := Hid.mk' hb1; clear hb1))
    go_ret
    exact ⟨rfl, HB1.out⟩
end Go.Proofs.YtcigmihfannmjaaDoor
