/- The law PrefixBack. -/
import Derived.Test.YtcigmihfannmjabDoorBackMath
import Derived.Test.YtcigmihfannmjabDoorDecP
import Derived.Test.YtcigmihfannmjabDoorSameN
import Derived.Test.YtcigmihfannmjabDoorHalves
import Derived.Test.YtcigmihfannmjabDoorCopy
namespace Go.Proofs.YtcigmihfannmjabDoor
open Go.RowKit

theorem cells_of_nums {w : World} {ad : Option Addr} {n cap : Nat} {z : Nat → Int} (h : NumsAt w (.slice ad n cap) n z) (j : Nat) (hj : j < n) : ∃ b o, ad = some ⟨b, o, none⟩ ∧ w.cell? ⟨b, o + j, none⟩ = some (.int .i64 (z j)) := by
  rcases h with ⟨_, _, _, h0⟩ | ⟨b, o, c, hv, _, hr⟩
  · omega
  · obtain ⟨e1, -⟩ : ad = some ⟨b, o, none⟩ ∧ cap = c := by simpa using hv
    exact ⟨b, o, e1, hr j hj⟩
theorem canErr_ok {n : Nat} {z : Nat → Int} (h : canErr n z = 0) : lenErr n z = 0 ∧ shareSum z n ≤ 1099511627776 := by
  unfold canErr at h
  by_cases h1 : lenErr n z = 0
  · rw [if_pos h1] at h
    refine ⟨h1, Nat.le_of_not_lt fun h2 => ?_⟩
    rw [if_pos h2] at h; omega
  · rw [if_neg h1] at h; exact absurd h h1
set_option maxRecDepth 100000 in
set_option maxHeartbeats 8000000 in
theorem PrefixBack_all (a : Nat → Addr) (ad : Option Addr) (n cap : Nat) (z : Nat → Int) (ad' : Option Addr) (m cap' : Nat) (y : Nat → Int) (w : World) (hE : Errs w a) (hd : w.cell? ⟨14, 1, none⟩ = some (.int .u8 1)) (h : NumsAt w (.slice ad n cap) n z) (hm : n ≤ maxLen) (k : NumsAt w (.slice ad' m cap') m y) (hm' : m ≤ maxLen) :
    Calls Tryd.prog 6 #[.slice ad n cap, .slice ad' m cap'] w fun e w' => e = .returned (.bool true) ∧ Below w.heap.size w w' := by
  have hH := halves_any a w hE hd
  unfold maxLen at hm hm'
  by_cases h4 : n ≤ 16 ∧ m ≤ 60
  · obtain ⟨h4, h5⟩ := h4
    have HIN : Hid (∀ W, Below w.heap.size w W → Calls Tryd.prog 12 #[.slice ad n cap] W fun e w' => ∃ v', e = .returned v' ∧ NumsAt w' v' n z ∧ Below W.heap.size W w') := fun W hb => ints_any _ n z W (h.later hb) (by omega)
    have hnI : (n : Int) ≤ 16 := by omega
    have hmI : (m : Int) ≤ 60 := by omega
    by_cases hc : canErr n z = 0
    · obtain ⟨hle, hsh⟩ := canErr_ok hc
      obtain ⟨hn0, hn16, hz⟩ := lenErr_ok hle
      have HCA := Hid.mk' (fun (W : World) (v : Value) (hb : Below w.heap.size w W) (hv : NumsAt W v n z) => Canon_ok a v n z W (hE.below hb) (by rw [hb.cell (cell_lt hd)]; exact hd) hv hle hsh)
      obtain ⟨hw0, hap, hsz⟩ := canF_well hz (by rw [← shareSum_list]; exact hsh) hn0 h4
      have HE := Hid.mk' (fun (W : World) (hb : Below w.heap.size w W) => hE.below hb)
      have HMS := Hid.mk' (fun (W : World) (hb : Below w.heap.size w W) => k.later hb)
      have HCM := Hid.mk' (fun (W : World) (hb : Below w.heap.size w W) (j : Nat) (hj : j < m) => cells_of_nums (k.later hb) j hj)
      have HW0 := Hid.mk' hw0
      have HAP := Hid.mk' hap
      have HSZ := Hid.mk' hsz
      have HNE : Hid (∀ i, i < n → (canF z n i).toList.isEmpty = false) := fun i hi => ((wdErr_ok hw0).2.2 i hi).2.2
      have HFW : Hid (∀ i, strV (wordsN z (ordL z n 40) n i) = .string (canF z n i)) := fun i => rfl
      clear hE hd h k hz hw0 hap hsz hc hle hsh
      obtain ⟨mm, hmm⟩ : ∃ mm : Nat → Nat, ∀ j, mm j = (y j).toNat := ⟨fun j => (y j).toNat, fun _ => rfl⟩
      have HMM := Hid.mk' hmm
      clear hmm
      go_enter Tryd.func6, Tryd.ntmps6
      go_wp2_with fail
      refine hH.mono ?_
      rintro e w1 ⟨rfl, hb1⟩
      have HB1 := Hid.mk' hb1
      clear hb1 hH
      go_wp2_with fail
      refine (HIN.out w1 HB1.out).mono ?_
      rintro e w3 ⟨v3, rfl, hv3, hb3⟩
      have HB3 := Hid.mk' (below_chain HB1.out hb3)
      have HV3 := Hid.mk' hv3
      clear hb3 hv3
      go_wp2_with fail
      refine (HCA.out w3 v3 HB3.out HV3.out).mono ?_
      rintro e w4 ⟨g, rfl, hrow, hb4⟩
      have HB4 := Hid.mk' (below_chain HB3.out hb4)
      have HTX : Hid (TxtAt w4 (some ⟨g, 0, none⟩) n (canF z n)) := fun i hi => ⟨g, 0, rfl, by rw [Nat.zero_add, hrow.row i hi, HFW.out]⟩
      clear hrow hb4 HCA HIN
      generalize canF z n = F at *
      go_wp2_with fail
      go_loopw [8, 9] (fun tx t wr => ∃ j : Nat, j ≤ m ∧ t = .int .i64 j ∧ tx = .string ⟨(catL F mm j).toArray⟩ ∧ wr = w4 ∧ Hid (∀ i, i < j → 0 ≤ y i ∧ y i < (n : Int))) (fun _ t _ => m - (intOf t).toNat)
      case atStart => exact ⟨0, Nat.zero_le _, rfl, rfl, rfl, fun i hi => by omega⟩
      case round =>
        obtain ⟨j, hj, rfl, rfl, hwr, HY⟩ := hrel
        rw [hwr]
        clear hwr
        have hj0 : (0 : Int) ≤ (j : Int) := by omega
        rcases Nat.lt_or_ge j m with h1 | h1
        · have hjI : (j : Int) < (m : Int) := by omega
          obtain ⟨b, o, rfl, y0⟩ := HCM.out w4 HB4.out j h1
          by_cases hy0 : y j < 0
          · generalize y j = q at *
            generalize (⟨(catL F mm j).toArray⟩ : ByteArray) = tx at *
            go_wp2_with fail
            go_ret
            exact ⟨rfl, HB4.out⟩
          · have hy0' : 0 ≤ y j := by omega
            by_cases hyn : y j < (n : Int)
            · obtain ⟨g', o', hgo, y1⟩ := HTX.out (mm j) (by rw [HMM.out]; omega)
              obtain ⟨rfl, rfl⟩ : g = g' ∧ 0 = o' := by simpa using hgo
              have HY1 : Hid (∀ i, i < j + 1 → 0 ≤ y i ∧ y i < (n : Int)) := fun i hi => by
                rcases Nat.lt_or_ge i j with h2 | h2
                · exact HY.out i h2
                · obtain rfl : i = j := by omega
                  exact ⟨hy0', hyn⟩
              have hqm : y j = ((mm j : Nat) : Int) := by rw [HMM.out]; omega
              rw [hqm] at y0 hyn
              have HCT : Hid ((⟨(catL F mm j).toArray⟩ : ByteArray) ++ F (mm j) = ⟨(catL F mm (j + 1)).toArray⟩) := by
                apply ba_ext
                rw [ByteArray.data_append, Array.toList_append]
                rfl
              have hsx : ¬ 9223372036854775807 < (⟨(catL F mm j).toArray⟩ : ByteArray).size + (F (mm j)).size := by
                have e1 := catL_len (f := F) (m := mm) (n := n) (B := 40) HSZ.out (M := j) (fun i hi => by have := HY.out i hi; rw [HMM.out]; omega)
                have e2 := HSZ.out (mm j) (by omega)
                have e3 : (⟨(catL F mm j).toArray⟩ : ByteArray).size = (catL F mm j).length := by rw [size_list]
                omega
              clear hy0 hy0' hqm hgo
              have hq0 : (0 : Int) ≤ ((mm j : Nat) : Int) := by omega
              generalize mm j = q at *
              generalize F q = x at *
              rw [Nat.zero_add] at y1
              generalize (⟨(catL F mm j).toArray⟩ : ByteArray) = tx at *
              go_wp2_with fail
              exact ⟨⟨j + 1, h1, by go_num, by rw [← HCT.out], trivial, HY1⟩, by simp [intOf]; omega⟩
            · have hyn' : (n : Int) ≤ y j := by omega
              generalize y j = q at *
              generalize (⟨(catL F mm j).toArray⟩ : ByteArray) = tx at *
              go_wp2_with fail
              go_ret
              exact ⟨rfl, HB4.out⟩
        · obtain rfl : m = j := by omega
          have hall : ∀ j, j < m → mm j < n := fun j hj => by have := HY.out j hj; rw [HMM.out]; omega
          obtain ⟨T, hTe⟩ : ∃ T : ByteArray, T = ⟨(catL F mm m).toArray⟩ := ⟨_, rfl⟩
          have hTl : T.data.toList = catL F mm m := by rw [hTe]
          have hTs : T.size ≤ 4000 := by
            have h1 := catL_len (f := F) (m := mm) (n := n) (B := 40) HSZ.out hall
            rw [size_list, hTl]
            omega
          have hdec := Decode_read a (some ⟨g, 0, none⟩) n n F T m true w4 (HE.out w4 HB4.out) HTX.out HW0.out ((apB_iff F n).2 HAP.out) hTs (back_ends HAP.out HNE.out hTl hall)
          have HID : Hid (∀ j, j < m → (idxD F T n j : Int) = y j) := fun j hj => by
            have h1 := (back_at HAP.out hTl hall j (by omega)).2 hj
            have h2 := HY.out j hj
            rw [h1, HMM.out]; omega
          rw [← hTe]
          clear hTe hTl hTs hall
          go_wp2_with fail
          refine hdec.mono ?_
          rintro e w6 ⟨v6, rfl, hv6, hb6⟩
          have HB6 := Hid.mk' (below_chain HB4.out hb6)
          have hv7 : NumsAt w6 v6 m y := NumsAt.congr hv6 HID.out
          have hsm := SameInts_any v6 (.slice ad' m cap') m y w6 hv7 (HMS.out w6 HB6.out) (by omega)
          clear hb6 hv6 hv7 hdec
          have he0 : errV a (decOut true) = .nilIface := rfl
          rw [he0]
          clear he0
          go_wp2_with fail
          refine hsm.mono ?_
          rintro e w7 ⟨rfl, hb7⟩
          have HB7 := Hid.mk' (below_chain HB6.out hb7)
          clear hb7 hsm
          go_wp2_with fail
          go_ret
          exact ⟨rfl, HB7.out⟩
    · have HCB := Hid.mk' (fun (W : World) (v : Value) (hb : Below w.heap.size w W) (hv : NumsAt W v n z) => Canon_bad a v n z W (hE.below hb) hv (by omega) hc)
      rw [errV_pos a hc] at HCB
      generalize a (canErr n z - 1) = p at *
      clear hE hd h k hc
      go_enter Tryd.func6, Tryd.ntmps6
      go_wp2_with fail
      refine hH.mono ?_
      rintro e w1 ⟨rfl, hb1⟩
      have HB1 := Hid.mk' hb1
      clear hb1 hH
      go_wp2_with fail
      refine (HIN.out w1 HB1.out).mono ?_
      rintro e w3 ⟨v3, rfl, hv3, hb3⟩
      have HB3 := Hid.mk' (below_chain HB1.out hb3)
      have HV3 := Hid.mk' hv3
      clear hb3 hv3
      go_wp2_with fail
      refine (HCB.out w3 v3 HB3.out HV3.out).mono ?_
      rintro e w4 ⟨rfl, hb4⟩
      have HB4 := Hid.mk' (below_chain HB3.out hb4)
      clear hb4
      go_wp2_with fail
      go_ret
      exact ⟨rfl, HB4.out⟩
  · clear hE h hd k
    rcases Nat.lt_or_ge 16 n with h6 | h6
    · have hnI : (16 : Int) < (n : Int) := by omega
      go_enter Tryd.func6, Tryd.ntmps6
      go_wp2_with (first
        | (go_at_call 8; refine hH.mono ?_; rintro e w1 ⟨rfl, hb1⟩; have HB1 := Hid.mk' hb1; clear hb1))
      go_ret
      exact ⟨rfl, HB1.out⟩
    · have hnI : ¬ ((16 : Int) < (n : Int)) := by omega
      have hmI : (60 : Int) < (m : Int) := by omega
      go_enter Tryd.func6, Tryd.ntmps6
      go_wp2_with (first
        | (go_at_call 8; refine hH.mono ?_; rintro e w1 ⟨rfl, hb1⟩; have HB1 := Hid.mk' hb1; clear hb1))
      go_ret
      exact ⟨rfl, HB1.out⟩
end Go.Proofs.YtcigmihfannmjabDoor
