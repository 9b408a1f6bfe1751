/- The law ArithReads. -/
import Derived.Test.YtjmjedpeibnnnaaDoorQuarter
import Derived.Test.YtjmjedpeibnnnaaDoorTakeWord
import Derived.Test.YtjmjedpeibnnnaaDoorCodedV
namespace Go.Proofs.YtjmjedpeibnnnaaDoor
open Go.RowKit

set_option maxRecDepth 100000 in
set_option maxHeartbeats 1000000 in
theorem ArithReads_all (a : Nat → Addr) (t : ByteArray) (w : World) (hE : Errs w a) (ht : t.size ≤ 9223372036854775807) :
    Calls Tryd.prog 7 #[.string t] w fun e w' => e = .returned (.bool true) ∧ Below w.heap.size w w' := by
  have hQ := quarter_any a w hE
  have HRW := Hid.mk' (fun (W : World) (hb : Below w.heap.size w W) (i : Nat) (hi : i < 3) => readWord_any a t i hi W (hE.below hb) ht)
  have HTW := Hid.mk' (fun (W : World) (i : Nat) (hi : i < 3) => TakeWord_any t i hi W ht)
  have HCO := Hid.mk' (fun (W : World) (hb : Below w.heap.size w W) (c : Nat) (hc : c ≤ 8) => coded_errV a c hc W (hE.below hb))
  clear hE
  by_cases hs : 200 < t.size ∧ t.size ≤ 4000
  · have h1 : (200 : Int) < (t.size : Int) := by omega
    have h2 : (t.size : Int) ≤ 4000 := by omega
    clear hs
    go_enter Tryd.func7, Tryd.ntmps7
    go_wp2_with fail
    refine hQ.mono ?_
    clear hQ
    rintro e w1 ⟨rfl, hb1⟩
    have HB1 := Hid.mk' hb1
    clear hb1
    go_wp2_with fail
    go_ret
    exact ⟨rfl, HB1.out⟩
  · go_enter Tryd.func7, Tryd.ntmps7
    go_wp2_with fail
    refine hQ.mono ?_
    clear hQ
    rintro e w1 ⟨rfl, hb1⟩
    have HB1 := Hid.mk' hb1
    clear hb1
    have hcond : (200 : Int) < (t.size : Int) ∧ (4000 : Int) < (t.size : Int) ∨ ¬ (200 : Int) < (t.size : Int) := by omega
    clear hs
    rcases hcond with ⟨h1, h2⟩ | h1
    · have h2' : ¬ (t.size : Int) ≤ 4000 := by omega
      go_wp2_with fail
      go_loopw [4] (fun i wr => ∃ j : Nat, j ≤ 3 ∧ i = .int .i64 (j : Int) ∧ Hid (Below w.heap.size w wr)) (fun i _ => 3 - (intOf i).toNat)
      case atStart => exact ⟨0, by decide, rfl, HB1.out⟩
      case round =>
        obtain ⟨j, hj, rfl, HB⟩ := hrel
        rcases Nat.lt_or_ge j 3 with h3 | h3
        · have h3I : (j : Int) < 3 := by omega
          have hC := HCO.out
          have HP : Hid ((readE t j).2.2 ≤ 8) := Nat.le_trans readE_err (by decide)
          have hrw := HRW.out _ HB.out j h3
          have htw := HTW.out
          unfold Out3 at hrw
          have htj := fun W => htw W j h3
          have hco := fun W hb => hC W hb _ HP.out
          clear hC htw
          generalize readE t j = r at hrw htj hco HP
          obtain ⟨p, q, c⟩ := r
          dsimp only at hrw htj hco
          obtain ⟨v, hv⟩ : ∃ v, v = errV a c := ⟨_, rfl⟩
          have HTJ := Hid.mk' htj
          have HCJ := Hid.mk' hco
          clear htj hco
          rw [← hv] at hrw HCJ
          clear hv HP
          go_wp2_with fail
          refine hrw.mono ?_
          clear hrw
          rintro e w2 ⟨rfl, hb2⟩
          have HB2 := Hid.mk' (below_chain HB.out hb2)
          clear hb2
          go_wp2_with fail
          refine (HTJ.out _).mono ?_
          rintro e w3 ⟨rfl, hb3⟩
          have HB3 := Hid.mk' (below_chain HB2.out hb3)
          clear hb3
          go_wp2_with fail
          refine (HCJ.out _ HB3.out).mono ?_
          rintro e w4 ⟨rfl, hb4⟩
          have HB4 := Hid.mk' (below_chain HB3.out hb4)
          clear hb4
          go_wp2_with fail
          exact ⟨⟨j + 1, h3, by go_num, HB4.out⟩, by simp [intOf]; omega⟩
        · obtain rfl : j = 3 := by omega
          go_wp2_with fail
          go_ret
          exact ⟨rfl, HB.out⟩
    · go_wp2_with fail
      go_loopw [4] (fun i wr => ∃ j : Nat, j ≤ 3 ∧ i = .int .i64 (j : Int) ∧ Hid (Below w.heap.size w wr)) (fun i _ => 3 - (intOf i).toNat)
      case atStart => exact ⟨0, by decide, rfl, HB1.out⟩
      case round =>
        obtain ⟨j, hj, rfl, HB⟩ := hrel
        rcases Nat.lt_or_ge j 3 with h3 | h3
        · have h3I : (j : Int) < 3 := by omega
          have hC := HCO.out
          have HP : Hid ((readE t j).2.2 ≤ 8) := Nat.le_trans readE_err (by decide)
          have hrw := HRW.out _ HB.out j h3
          have htw := HTW.out
          unfold Out3 at hrw
          have htj := fun W => htw W j h3
          have hco := fun W hb => hC W hb _ HP.out
          clear hC htw
          generalize readE t j = r at hrw htj hco HP
          obtain ⟨p, q, c⟩ := r
          dsimp only at hrw htj hco
          obtain ⟨v, hv⟩ : ∃ v, v = errV a c := ⟨_, rfl⟩
          have HTJ := Hid.mk' htj
          have HCJ := Hid.mk' hco
          clear htj hco
          rw [← hv] at hrw HCJ
          clear hv HP
          go_wp2_with fail
          refine hrw.mono ?_
          clear hrw
          rintro e w2 ⟨rfl, hb2⟩
          have HB2 := Hid.mk' (below_chain HB.out hb2)
          clear hb2
          go_wp2_with fail
          refine (HTJ.out _).mono ?_
          rintro e w3 ⟨rfl, hb3⟩
          have HB3 := Hid.mk' (below_chain HB2.out hb3)
          clear hb3
          go_wp2_with fail
          refine (HCJ.out _ HB3.out).mono ?_
          rintro e w4 ⟨rfl, hb4⟩
          have HB4 := Hid.mk' (below_chain HB3.out hb4)
          clear hb4
          go_wp2_with fail
          exact ⟨⟨j + 1, h3, by go_num, HB4.out⟩, by simp [intOf]; omega⟩
        · obtain rfl : j = 3 := by omega
          go_wp2_with fail
          go_ret
          exact ⟨rfl, HB.out⟩
end Go.Proofs.YtjmjedpeibnnnaaDoor
