/- The law PrefixKraft. -/
import Derived.Test.YtcigmihfannmjaaDoorKraftP
import Derived.Test.YtcigmihfannmjaaDoorHalves
import Derived.Test.YtcigmihfannmjaaDoorCopy
import Derived.Test.YtcigmihfannmjaaDoorCodedV
namespace Go.Proofs.YtcigmihfannmjaaDoor
open Go.RowKit

theorem frac_past {w w1 : World} {x y : Value} {t : TypeId} (hb : Below (w.alloc (.cells #[x, y] t)).heap.size (w.alloc (.cells #[x, y] t)) w1) : w1.cell? ⟨w.heap.size, 0, none⟩ = some x ∧ w1.cell? ⟨w.heap.size, 1, none⟩ = some y := by
  have hl : w.heap.size < (w.alloc (.cells #[x, y] t)).heap.size := by simp
  refine ⟨?_, ?_⟩
  · rw [hb.cell (p := ⟨w.heap.size, 0, none⟩) hl, World.cell?_alloc_at _ _ _ _ rfl]; rfl
  · rw [hb.cell (p := ⟨w.heap.size, 1, none⟩) hl, World.cell?_alloc_at _ _ _ _ rfl]; rfl
set_option maxRecDepth 100000 in
set_option maxHeartbeats 4000000 in
theorem PrefixKraft_all (a : Nat → Addr) (ad : Option Addr) (n cap : Nat) (z : Nat → Int) (w : World) (hE : Errs w a) (hd : w.cell? ⟨14, 1, none⟩ = some (.int .u8 1)) (h : NumsAt w (.slice ad n cap) n z) (hm : n ≤ maxLen) :
    Calls Tryd.prog 4 #[.slice ad n cap] w fun e w' => e = .returned (.bool true) ∧ Below w.heap.size w w' := by
  have hH := halves_any a w hE hd
  unfold maxLen at hm
  by_cases h4 : n ≤ 400
  · have HIN : Hid (∀ W, Below w.heap.size w W → Calls Tryd.prog 14 #[.slice ad n cap] W fun e w' => ∃ v', e = .returned v' ∧ NumsAt w' v' n z ∧ Below W.heap.size W w') := fun W hb => ints_any _ n z W (h.later hb) h4
    have HLE : Hid (∀ W, Below w.heap.size w W → Calls Tryd.prog 13 #[.slice ad n cap] W fun e w' => e = .returned (.int .i64 (lenErr n z : Nat)) ∧ w' = W) := fun W hb => LengthsError_any _ n z W (h.later hb) (by omega)
    have hnI : (n : Int) ≤ 400 := by omega
    have hle := lenErr_le n z
    by_cases hc : lenErr n z = 0
    · obtain ⟨hn0, hn16, hz⟩ := lenErr_ok hc
      have HK : Hid (∀ (W : World) (v : Value), Below w.heap.size w W → NumsAt W v n z → Calls Tryd.prog 12 #[v] W fun e w' => e = .returned (.tuple #[.agg #[.int .i64 ((shareSum z n / Nat.gcd (shareSum z n) 1099511627776 : Nat) : Int), .int .i64 ((1099511627776 / Nat.gcd (shareSum z n) 1099511627776 : Nat) : Int)], .nilIface]) ∧ Below W.heap.size W w') := fun W v hb hv => Kraft_ok a v n z W (hE.below hb) hv hc _ rfl
      have HKO : Hid (∀ W, Below w.heap.size w W → Calls Tryd.prog 18 #[.slice ad n cap] W fun e w' => e = .returned (.int .i64 (shareSum z n : Nat)) ∧ w' = W) := fun W hb => KraftOf_any _ n z W (h.later hb) hn16 hz
      have hsl := shareSum_le z n
      have HRO : Hid (∀ W, Calls Tryd.prog 17 #[.int .i64 (shareSum z n : Nat), .int .i64 1099511627776] W fun e w' => ∃ r, e = .returned r ∧ RatioAt w' r ((shareSum z n / Nat.gcd (shareSum z n) 1099511627776 : Nat) : Int) (1099511627776 / Nat.gcd (shareSum z n) 1099511627776) ∧ Below W.heap.size W w') := fun W => by
        have h1 := RatioOf_any (shareSum z n : Nat) 1099511627776 W (by omega) (by omega) (by omega) (by omega)
        rw [Int.natAbs_natCast] at h1
        have e1 : ((shareSum z n : Nat) : Int).tdiv ((Nat.gcd (shareSum z n) 1099511627776 : Nat) : Int) = ((shareSum z n / Nat.gcd (shareSum z n) 1099511627776 : Nat) : Int) := by rw [Int.tdiv_eq_ediv_of_nonneg (by omega)]; simp
        rw [e1] at h1
        exact h1
      have hN : shareSum z n / Nat.gcd (shareSum z n) 1099511627776 ≤ shareSum z n := Nat.div_le_self _ _
      have hD : 1099511627776 / Nat.gcd (shareSum z n) 1099511627776 ≤ 1099511627776 := Nat.div_le_self _ _
      rw [hc] at HLE
      clear hE hd h hz hc
      generalize shareSum z n / Nat.gcd (shareSum z n) 1099511627776 = N at *
      generalize 1099511627776 / Nat.gcd (shareSum z n) 1099511627776 = D at *
      generalize shareSum z n = S at *
      go_enter Tryd.func4, Tryd.ntmps4
      go_wp2_with (first
        | (go_at_call 6; refine hH.mono ?_; rintro e w1 ⟨rfl, hb1⟩; have HB1 := Hid.mk' hb1; clear hb1)
        | (go_at_call 13; refine (HLE.out w1 HB1.out).mono ?_; rintro e w2 ⟨rfl, hw2⟩; rw [hw2]; clear hw2)
        | (go_at_call 14; refine (HIN.out w1 HB1.out).mono ?_; rintro e w3 ⟨v3, rfl, hv3, hb3⟩; have HB3 := Hid.mk' (below_chain HB1.out hb3); have HV3 := Hid.mk' hv3; clear hb3 hv3)
        | (go_at_call 12; refine (HK.out w3 _ HB3.out HV3.out).mono ?_; rintro e w4 ⟨rfl, hb4⟩; have HB4 := Hid.mk' (below_chain HB3.out hb4); clear hb4))
      have hb5 : Below w4.heap.size w4 (w4.alloc (.cells #[.int .i64 (N : Int), .int .i64 (D : Int)] 33)) := (Below.refl _ _).alloc (Nat.le_refl _) _
      refine (HKO.out _ (below_chain HB4.out hb5)).mono ?_
      rintro e w5 ⟨rfl, hw5⟩
      rw [hw5]
      clear hw5
      go_wp2_with fail
      refine (HRO.out _).mono ?_
      rintro e w6 ⟨r6, rfl, hr6, hb6⟩
      have htd := RTold_ok r6 N D w6 hr6 (by omega) (by omega)
      have HB6 := Hid.mk' hb6
      have HB5 := Hid.mk' (below_chain HB4.out hb5)
      clear hr6 hb6 hb5
      go_wp2_with fail
      refine htd.mono ?_
      clear htd
      rintro e w7 ⟨rfl, hb7⟩
      have hb7' := below_chain HB6.out hb7
      obtain ⟨c0, c1⟩ := frac_past hb7'
      have HB7 := Hid.mk' (below_chain HB5.out hb7')
      have hl7 : w4.heap.size < w7.heap.size := cell_lt c0
      clear hb7 hb7'
      go_wp2_with fail
      go_ret
      exact ⟨by simp, HB7.out.alloc HB7.out.size _⟩
    · have HK : Hid (∀ (W : World) (v : Value), Below w.heap.size w W → NumsAt W v n z → Calls Tryd.prog 12 #[v] W fun e w' => e = .returned (.tuple #[.agg #[.int .i64 0, .int .i64 0], errV a (lenErr n z)]) ∧ Below W.heap.size W w') := fun W v hb hv => Kraft_bad a v n z W (hE.below hb) hv (by omega) hc
      have HCD : Hid (∀ W, Below w.heap.size w W → Calls Tryd.prog 15 #[errV a (lenErr n z), .int .i64 (lenErr n z : Int)] W fun e w' => e = .returned (.bool true) ∧ Below W.heap.size W w') := fun W hb => coded_errV a _ hle W (hE.below hb)
      generalize lenErr n z = c at *
      generalize errV a c = ec at *
      have hcI : (0 : Int) < (c : Int) := by omega
      clear hE hd h
      go_enter Tryd.func4, Tryd.ntmps4
      go_wp2_with (first
        | (go_at_call 6; refine hH.mono ?_; rintro e w1 ⟨rfl, hb1⟩; have HB1 := Hid.mk' hb1; clear hb1)
        | (go_at_call 13; refine (HLE.out w1 HB1.out).mono ?_; rintro e w2 ⟨rfl, hw2⟩; rw [hw2]; clear hw2)
        | (go_at_call 14; refine (HIN.out w1 HB1.out).mono ?_; rintro e w3 ⟨v3, rfl, hv3, hb3⟩; have HB3 := Hid.mk' (below_chain HB1.out hb3); have HV3 := Hid.mk' hv3; clear hb3 hv3)
        | (go_at_call 12; refine (HK.out w3 _ HB3.out HV3.out).mono ?_; rintro e w4 ⟨rfl, hb4⟩; have HB4 := Hid.mk' (below_chain HB3.out hb4); clear hb4))
      have hb5 : Below w4.heap.size w4 (w4.alloc (.cells #[.int .i64 0, .int .i64 0] 33)) := (Below.refl _ _).alloc (Nat.le_refl _) _
      refine (HCD.out _ (below_chain HB4.out hb5)).mono ?_
      rintro e w6 ⟨rfl, hb6⟩
      obtain ⟨c0, c1⟩ := frac_past hb6
      have HB6 := Hid.mk' (below_chain (below_chain HB4.out hb5) hb6)
      clear hb5 hb6
      go_wp2_with fail
      go_ret
      exact ⟨rfl, HB6.out⟩
  · have hnI : (400 : Int) < (n : Int) := by omega
    clear hE h hd
    go_enter Tryd.func4, Tryd.ntmps4
    go_wp2_with (first
      | (go_at_call 6; refine hH.mono ?_; rintro e w1 ⟨rfl, hb1⟩; have HB1 := Hid.mk' hb1; clear hb1))
    go_ret
    exact ⟨rfl, HB1.out⟩
end Go.Proofs.YtcigmihfannmjaaDoor
