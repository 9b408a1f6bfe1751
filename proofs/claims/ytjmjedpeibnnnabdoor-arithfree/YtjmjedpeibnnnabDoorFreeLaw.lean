/- The law ArithFree. -/
import Derived.Test.YtjmjedpeibnnnabDoorFreeMath
import Derived.Test.YtjmjedpeibnnnabDoorEliasP
import Derived.Test.YtjmjedpeibnnnabDoorQuarter
namespace Go.Proofs.YtjmjedpeibnnnabDoor
open Go.RowKit

theorem nd_steep : ∀ k, k ≤ 30 → 2 ≤ k → 3 * nd (k - 1) ≤ 2 * k := by decide
theorem omC_small : ∀ (f n : Nat), 1 ≤ n → nd n ≤ 30 → (omC f n).length ≤ 3 * nd n
  | 0, n, _, _ => Nat.zero_le _
  | f + 1, n, h1, h2 => by
    show (if n ≤ 1 then [] else omC f (nd n - 1) ++ binL n).length ≤ 3 * nd n
    by_cases h : n ≤ 1
    · rw [if_pos h]; exact Nat.zero_le _
    · rw [if_neg h, List.length_append, binL_length]
      obtain ⟨q1, q2⟩ := nd_less (n := n) (by omega)
      have h3 : nd (nd n - 1) ≤ 30 := nd_small q1 (by have : 2 ^ 30 > 30 := by decide
                                                      omega)
      have h4 := omC_small f (nd n - 1) q1 h3
      have h5 := nd_steep (nd n) h2 (by omega)
      omega
theorem eliL_small {i n : Nat} (h : 1 ≤ n) (hn : n ≤ 1000000000) : (eliL i n).length ≤ 200 := by
  have h3 := nd_small (d := 30) h (by omega)
  have h4 := nd_small (n := nd n) (d := 30) (nd_pos n) (Nat.lt_of_le_of_lt h3 (by decide))
  rcases i with _ | _ | i
  · show (List.replicate (nd n - 1) (48 : UInt8) ++ binL n).length ≤ 200
    rw [List.length_append, List.length_replicate, binL_length]; omega
  · show ((List.replicate (nd (nd n) - 1) (48 : UInt8) ++ binL (nd n)) ++ bitsL n (nd n - 1)).length ≤ 200
    rw [List.length_append, List.length_append, List.length_replicate, binL_length, bitsL_length]; omega
  · show (omL n n [48]).length ≤ 200
    have := omC_small n n h h3
    rw [omL_omC, List.length_append, List.length_singleton]; omega
theorem txt_any (r : ByteArray) : txt r.data.toList = r := by
  unfold txt
  apply ByteArray.ext
  simp
theorem read_back {i n : Nat} (h : 1 ≤ n) (hn : n ≤ 1000000000) (r : ByteArray) (hr : r.size ≤ 400) : readE (txt (eliL i n) ++ r) i = (n, (eliL i n).length, 0) := by
  have e : txt (eliL i n) ++ r = txt (eliL i n ++ r.data.toList) := by
    have := txt_join (eliL i n) r.data.toList
    rw [txt_any] at this
    exact this
  have hs := eliL_small (i := i) h hn
  have hl : r.data.toList.length = r.size := Array.length_toList
  unfold readE
  rw [e, if_neg (by rw [txt_size, List.length_append, hl]; omega), wordR_word h hn, finR_ok (by omega)]

set_option maxRecDepth 100000 in
set_option maxHeartbeats 1000000 in
theorem ArithFree_all (a : Nat → Addr) (n : Int) (r : ByteArray) (w : World) (hE : Errs w a) (hd : w.cell? ⟨7, 1, none⟩ = some (.int .u8 1)) (hx : r.size ≤ 9223372036854775807) :
    Calls Tryd.prog 3 #[.int .i64 n, .string r] w fun e w' => e = .returned (.bool true) ∧ Below w.heap.size w w' := by
  have hQ := quarter_any a w hE
  have htab : TabOk w := hd
  by_cases hn : (1 ≤ n ∧ n ≤ 1000000000) ∧ r.size ≤ 400
  · obtain ⟨hn, hr⟩ := hn
    obtain ⟨m, rfl⟩ : ∃ m : Nat, n = (m : Int) := ⟨n.toNat, by omega⟩
    have h0 : 1 ≤ m := by omega
    have h1 : m ≤ 1000000000 := by omega
    have HG := Hid.mk' (fun (W : World) (hb : Below w.heap.size w W) => Gamma_word a m W (hE.below hb) (htab.later hb))
    have HD := Hid.mk' (fun (W : World) (hb : Below w.heap.size w W) => Delta_word a m W (hE.below hb) (htab.later hb))
    have HO := Hid.mk' (fun (W : World) (hb : Below w.heap.size w W) => Omega_word a m W (hE.below hb) (htab.later hb))
    have e0 : eliE (m : Int) = 0 := if_pos hn
    have eG : ∀ L, eliW L (m : Int) = txt (L m) := fun L => (if_pos hn).trans (by rw [Int.toNat_natCast])
    rw [eG, e0, errV_zero] at HG HD HO
    have HRD : Hid (∀ (W : World), Below w.heap.size w W → ∀ i : Nat, i < 3 → Calls Tryd.prog 8 #[.int .i64 (i : Int), .string (txt (eliL i m) ++ r)] W fun e w' => e = .returned (.tuple #[.int .i64 (m : Int), .int .i64 ((eliL i m).length : Int), .nilIface]) ∧ Below W.heap.size W w') := fun W hb i hi => by
      have h2 := readWord_any a (txt (eliL i m) ++ r) i hi W (hE.below hb) (by rw [ByteArray.size_append, txt_size]; have := eliL_small (i := i) h0 h1; omega)
      rw [read_back h0 h1 r hr] at h2
      exact h2
    have hS : ∀ i, (txt (eliL i m)).size = (eliL i m).length ∧ (eliL i m).length ≤ 200 := fun i => ⟨txt_size _, eliL_small h0 h1⟩
    have hm1 : ¬ (m : Int) < 1 := by omega
    have hm2 : ¬ (1000000000 : Int) < (m : Int) := by omega
    have hr2 : ¬ (400 : Int) < (r.size : Int) := by omega
    have R0 := Hid.mk' (fun W hb => HRD.out W hb 0 (by decide))
    have R1 := Hid.mk' (fun W hb => HRD.out W hb 1 (by decide))
    have R2 := Hid.mk' (fun W hb => HRD.out W hb 2 (by decide))
    obtain ⟨s0, l0⟩ := hS 0
    obtain ⟨s1, l1⟩ := hS 1
    obtain ⟨s2, l2⟩ := hS 2
    change Hid (∀ W, Below w.heap.size w W → Calls Tryd.prog 8 #[.int .i64 0, .string (txt (gamL m) ++ r)] W fun e w' => e = .returned (.tuple #[.int .i64 (m : Int), .int .i64 ((gamL m).length : Int), .nilIface]) ∧ Below W.heap.size W w') at R0
    change Hid (∀ W, Below w.heap.size w W → Calls Tryd.prog 8 #[.int .i64 1, .string (txt (delL m) ++ r)] W fun e w' => e = .returned (.tuple #[.int .i64 (m : Int), .int .i64 ((delL m).length : Int), .nilIface]) ∧ Below W.heap.size W w') at R1
    change Hid (∀ W, Below w.heap.size w W → Calls Tryd.prog 8 #[.int .i64 2, .string (txt (ommL m) ++ r)] W fun e w' => e = .returned (.tuple #[.int .i64 (m : Int), .int .i64 ((ommL m).length : Int), .nilIface]) ∧ Below W.heap.size W w') at R2
    change (txt (gamL m)).size = (gamL m).length at s0
    change (txt (delL m)).size = (delL m).length at s1
    change (txt (ommL m)).size = (ommL m).length at s2
    change (gamL m).length ≤ 200 at l0
    change (delL m).length ≤ 200 at l1
    change (ommL m).length ≤ 200 at l2
    generalize txt (gamL m) = tg at *
    generalize txt (delL m) = td at *
    generalize txt (ommL m) = to' at *
    generalize (gamL m).length = lg at *
    generalize (delL m).length = ld at *
    generalize (ommL m).length = lo at *
    clear HRD hS e0 eG hn hE hd htab
    go_enter Tryd.func3, Tryd.ntmps3
    go_wp2_with fail
    refine hQ.mono ?_
    clear hQ
    rintro e w1 ⟨rfl, hb1⟩
    have HB1 := Hid.mk' hb1
    clear hb1
    go_wp2_with fail
    go_loopw [6] (fun i wr => ∃ j : Nat, j ≤ 3 ∧ i = .int .i64 (j : Int) ∧ Hid (Below w.heap.size w wr)) (fun i _ => 3 - (intOf i).toNat)
    case atStart => exact ⟨0, by decide, rfl, HB1.out⟩
    case round =>
      obtain ⟨j, hj, rfl, HB⟩ := hrel
      rcases (show j = 0 ∨ j = 1 ∨ j = 2 ∨ j = 3 by omega) with rfl | rfl | rfl | rfl
      · go_wp2_with fail
        refine (HG.out _ HB.out).mono ?_
        rintro e w2 ⟨rfl, hb2⟩
        have HB := Hid.mk' (below_chain HB.out hb2)
        clear hb2
        go_wp2_with fail
        refine (R0.out _ HB.out).mono ?_
        rintro e w3 ⟨rfl, hb3⟩
        have HB := Hid.mk' (below_chain HB.out hb3)
        clear hb3
        go_wp2_with fail
        exact ⟨⟨1, by decide, rfl, HB.out⟩, by simp [intOf]⟩
      · go_wp2_with fail
        refine (HG.out _ HB.out).mono ?_
        rintro e w2 ⟨rfl, hb2⟩
        have HB := Hid.mk' (below_chain HB.out hb2)
        clear hb2
        go_wp2_with fail
        refine (HD.out _ HB.out).mono ?_
        rintro e w4 ⟨rfl, hb4⟩
        have HB := Hid.mk' (below_chain HB.out hb4)
        clear hb4
        go_wp2_with fail
        refine (R1.out _ HB.out).mono ?_
        rintro e w3 ⟨rfl, hb3⟩
        have HB := Hid.mk' (below_chain HB.out hb3)
        clear hb3
        go_wp2_with fail
        exact ⟨⟨2, by decide, rfl, HB.out⟩, by simp [intOf]⟩
      · go_wp2_with fail
        refine (HG.out _ HB.out).mono ?_
        rintro e w2 ⟨rfl, hb2⟩
        have HB := Hid.mk' (below_chain HB.out hb2)
        clear hb2
        go_wp2_with fail
        refine (HO.out _ HB.out).mono ?_
        rintro e w4 ⟨rfl, hb4⟩
        have HB := Hid.mk' (below_chain HB.out hb4)
        clear hb4
        go_wp2_with fail
        refine (R2.out _ HB.out).mono ?_
        rintro e w3 ⟨rfl, hb3⟩
        have HB := Hid.mk' (below_chain HB.out hb3)
        clear hb3
        go_wp2_with fail
        exact ⟨⟨3, by decide, rfl, HB.out⟩, by simp [intOf]⟩
      · go_wp2_with fail
        go_ret
        exact ⟨rfl, HB.out⟩
  · clear hE hd htab
    have hc : n < 1 ∨ ¬ n < 1 ∧ ((1000000000 : Int) < n ∨ ¬ (1000000000 : Int) < n ∧ (400 : Int) < (r.size : Int)) := by omega
    clear hn
    rcases hc with h1 | ⟨h1, h2 | ⟨h2, h3⟩⟩
    all_goals (
      go_enter Tryd.func3, Tryd.ntmps3
      go_wp2_with fail
      refine hQ.mono ?_
      clear hQ
      rintro e w1 ⟨rfl, hb1⟩
      have HB1 := Hid.mk' hb1
      clear hb1
      go_wp2_with fail
      go_ret
      exact ⟨rfl, HB1.out⟩)
end Go.Proofs.YtjmjedpeibnnnabDoor
