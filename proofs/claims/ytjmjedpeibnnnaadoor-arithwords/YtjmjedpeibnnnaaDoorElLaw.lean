/- The law ArithWords. -/
import Derived.Test.YtjmjedpeibnnnaaDoorEliasD
import Derived.Test.YtjmjedpeibnnnaaDoorQuarter
import Derived.Test.YtjmjedpeibnnnaaDoorCodedV
namespace Go.Proofs.YtjmjedpeibnnnaaDoor
open Go.RowKit

theorem no_text : ((⟨#[]⟩ : ByteArray) ++ (⟨#[]⟩ : ByteArray) ++ (⟨#[]⟩ : ByteArray)).toList.isEmpty = true := by kernel_rfl
set_option maxRecDepth 100000 in
set_option maxHeartbeats 1000000 in
theorem ArithWords_all (a : Nat → Addr) (n : Int) (w : World) (hE : Errs w a) (hd : w.cell? ⟨14, 1, none⟩ = some (.int .u8 1)) :
    Calls Tryd.prog 6 #[.int .i64 n] w fun e w' => e = .returned (.bool true) ∧ Below w.heap.size w w' := by
  have hQ := quarter_any a w hE
  have htab : TabOk w := hd
  have HG := Hid.mk' (fun (W : World) (hb : Below w.heap.size w W) => Gamma_word a n W (hE.below hb) (htab.later hb))
  have HD := Hid.mk' (fun (W : World) (hb : Below w.heap.size w W) => Delta_word a n W (hE.below hb) (htab.later hb))
  have HO := Hid.mk' (fun (W : World) (hb : Below w.heap.size w W) => Omega_word a n W (hE.below hb) (htab.later hb))
  have HCO := Hid.mk' (fun (W : World) (hb : Below w.heap.size w W) => coded_errV a 2 (by decide) W (hE.below hb))
  clear hE hd
  by_cases hn : 1 ≤ n ∧ n ≤ 1000000000
  · obtain ⟨m, rfl⟩ : ∃ m : Nat, n = (m : Int) := ⟨n.toNat, by omega⟩
    have h0 : 1 ≤ m := by omega
    have h1 : m ≤ 1000000000 := by omega
    have HGD := Hid.mk' (fun (W : World) => GammaOf_any m W h0 h1)
    have HDD := Hid.mk' (fun (W : World) => DeltaOf_any m W h0 h1)
    have HOD := Hid.mk' (fun (W : World) => OmegaOf_any m W h0 h1)
    have e0 : eliE (m : Int) = 0 := if_pos hn
    have eG : ∀ L, eliW L (m : Int) = txt (L m) := fun L => (if_pos hn).trans (by rw [Int.toNat_natCast])
    rw [eG, e0, errV_zero] at HG HD HO
    generalize txt (gamL m) = tg at *
    generalize txt (delL m) = td at *
    generalize txt (ommL m) = to' at *
    have hm1 : ¬ (m : Int) < 1 := by omega
    have hm2 : ¬ (1000000000 : Int) < (m : Int) := by omega
    clear e0 eG hn HCO
    go_enter Tryd.func6, Tryd.ntmps6
    go_wp2_with fail
    refine hQ.mono ?_
    clear hQ
    rintro e w1 ⟨rfl, hb1⟩
    have HB := Hid.mk' hb1
    clear hb1
    go_wp2_with fail
    refine (HG.out _ HB.out).mono ?_
    rintro e w2 ⟨rfl, hb2⟩
    have HB := Hid.mk' (below_chain HB.out hb2)
    clear hb2
    go_wp2_with fail
    refine (HD.out _ HB.out).mono ?_
    rintro e w3 ⟨rfl, hb3⟩
    have HB := Hid.mk' (below_chain HB.out hb3)
    clear hb3
    go_wp2_with fail
    refine (HO.out _ HB.out).mono ?_
    rintro e w4 ⟨rfl, hb4⟩
    have HB := Hid.mk' (below_chain HB.out hb4)
    clear hb4
    go_wp2_with fail
    refine (HGD.out _).mono ?_
    rintro e w5 ⟨rfl, hb5⟩
    have HB := Hid.mk' (below_chain HB.out hb5)
    clear hb5
    go_wp2_with fail
    refine (HDD.out _).mono ?_
    rintro e w6 ⟨rfl, hb6⟩
    have HB := Hid.mk' (below_chain HB.out hb6)
    clear hb6
    go_wp2_with fail
    refine (HOD.out _).mono ?_
    rintro e w7 ⟨rfl, hb7⟩
    have HB := Hid.mk' (below_chain HB.out hb7)
    clear hb7
    go_wp2_with fail
    go_ret
    exact ⟨rfl, HB.out⟩
  · have e0 : eliE n = 2 := if_neg hn
    have eG : ∀ L, eliW L n = ⟨#[]⟩ := fun L => if_neg hn
    rw [eG, e0] at HG HD HO
    obtain ⟨v, hv⟩ : ∃ v, v = errV a 2 := ⟨_, rfl⟩
    rw [← hv] at HG HD HO HCO
    clear e0 eG hv
    have hm : n < 1 ∨ ¬ n < 1 ∧ (1000000000 : Int) < n := by omega
    clear hn
    rcases hm with hm1 | ⟨hm1, hm2⟩
    all_goals (
      go_enter Tryd.func6, Tryd.ntmps6
      go_wp2_with fail
      refine hQ.mono ?_
      clear hQ
      rintro e w1 ⟨rfl, hb1⟩
      have HB := Hid.mk' hb1
      clear hb1
      go_wp2_with fail
      refine (HG.out _ HB.out).mono ?_
      rintro e w2 ⟨rfl, hb2⟩
      have HB := Hid.mk' (below_chain HB.out hb2)
      clear hb2
      go_wp2_with fail
      refine (HD.out _ HB.out).mono ?_
      rintro e w3 ⟨rfl, hb3⟩
      have HB := Hid.mk' (below_chain HB.out hb3)
      clear hb3
      go_wp2_with fail
      refine (HO.out _ HB.out).mono ?_
      rintro e w4 ⟨rfl, hb4⟩
      have HB := Hid.mk' (below_chain HB.out hb4)
      clear hb4
      go_wp2_with fail
      refine (HCO.out _ HB.out).mono ?_
      rintro e w5 ⟨rfl, hb5⟩
      have HB := Hid.mk' (below_chain HB.out hb5)
      clear hb5
      go_wp2_with fail
      refine (HCO.out _ HB.out).mono ?_
      rintro e w6 ⟨rfl, hb6⟩
      have HB := Hid.mk' (below_chain HB.out hb6)
      clear hb6
      go_wp2_with fail
      refine (HCO.out _ HB.out).mono ?_
      rintro e w7 ⟨rfl, hb7⟩
      have HB := Hid.mk' (below_chain HB.out hb7)
      clear hb7
      go_wp2_with fail
      go_ret
      exact ⟨congrArg (fun b => Ending.returned (.bool b)) no_text, HB.out⟩)
end Go.Proofs.YtjmjedpeibnnnaaDoor
