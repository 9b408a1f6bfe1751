/- The document's AloneOf: all sets tried. -/
import Derived.Test.YtojljmapdafmaaaDoorZeAhead
import Derived.Test.YtojljmapdafmaaaDoorZeADM
import Derived.Test.YtojljmapdafmaaaDoorValidWalk
import Derived.Test.YtojljmapdafmaaaDoorTab
import Derived.Deep.CutRange
namespace Go.Proofs.YtojljmapdafmaaaDoor
open Go.RowKit

set_option maxRecDepth 100000 in
set_option maxHeartbeats 4000000 in
theorem AloneOf_any (n m : Nat) (ev : Value) (p q : Nat → Nat) (w : World) (hE : EdAt w ev m (fun i => (p i : Int)) (fun i => (q i : Int))) (hn : n ≤ 16) (hm : m ≤ 1000) (hpq : ∀ k, k < m → p k < q k ∧ q k < n) :
    Calls Tryd.prog 20 #[.agg #[.int .i64 n, ev]] w fun e w' => ∃ v, e = .returned v ∧ IntsAt w' v (aloneL (okF (apF p q m)) n) ∧ Below w.heap.size w w' := by
  obtain ⟨i0, hi, hz0, hz1, hz2⟩ := info_parts Tryd.infoInt
  have HINF : Hid (Tryd.prog.info? 3 = some i0 ∧ i0.zero = some (.int .i64 0) ∧ i0.size = 1 ∧ i0.bytes = 8) := ⟨hi, hz0, hz1, hz2⟩
  clear hi hz0 hz1 hz2
  obtain ⟨ad, cap, rfl, -⟩ := id hE
  obtain ⟨w1, hw1⟩ : ∃ w1, w1 = w.alloc (.cells #[.int .i64 n, .slice ad m cap] 24) := ⟨_, rfl⟩
  have hb1 : Below w.heap.size w w1 := by rw [hw1]; exact (Below.refl _ _).alloc (Nat.le_refl _) _
  have hc0 : w1.cell? ⟨w.heap.size, 0, none⟩ = some (.int .i64 n) := by rw [hw1]; go_simp
  have hc1 : w1.cell? ⟨w.heap.size, 1, none⟩ = some (.slice ad m cap) := by rw [hw1]; go_simp
  have HC : Hid (∀ W, Below w1.heap.size w1 W → W.cell? ⟨w.heap.size, 0, none⟩ = some (.int .i64 n) ∧ W.cell? ⟨w.heap.size, 1, none⟩ = some (.slice ad m cap)) := fun W hb => ⟨by rw [hb.cell (cell_lt hc0)]; exact hc0, by rw [hb.cell (cell_lt hc1)]; exact hc1⟩
  have HE := Hid.mk' (hE.later hb1)
  have HW1 := Hid.mk' hw1
  have HB1 := Hid.mk' hb1
  have HPQ := Hid.mk' hpq
  have HFF : Hid (∀ t, FitsZ (okF (apF p q m)) n (lstB n t) ↔ freeK p q t m = true) := fun t => free_fits hn hpq
  have hnI : (n : Int) ≤ 16 := by omega
  have hn0 : (0 : Int) ≤ (n : Int) := by omega
  have hmI : (m : Int) ≤ 1000 := by omega
  have hpw : 2 ^ n ≤ 65536 := Nat.pow_le_pow_right (n := 2) (by decide) hn
  have hsh : IntKind.i64.wrap ((2 : Int) ^ n) = ((2 ^ n : Nat) : Int) := by
    have e : ((2 : Int) ^ n) = ((2 ^ n : Nat) : Int) := by simp
    rw [e]
    simp only [IntKind.wrap, IntKind.bits, IntKind.signed]
    generalize 2 ^ n = X at hpw ⊢
    simp
    omega
  have HDONE : Hid (∀ B, BestTo (okF (apF p q m)) n (2 ^ n) B → aloneL (okF (apF p q m)) n = B) := fun B h => h.done.symm
  generalize okF (apF p q m) = ok at *
  generalize 2 ^ n = P at *
  clear hE hb1 hw1 hpq hc0 hc1
  go_enter Tryd.func20, Tryd.ntmps20
  go_upto_region 1 with fail
  rw [← HW1.out]
  go_wp2_with fail
  go_loopw [3, 4] (fun bv tv wr => ∃ (t : Nat) (B : List Nat), t ≤ P ∧ tv = .int .i64 t ∧ Hid (BestTo ok n t B) ∧ Hid (IntsAt wr bv B) ∧ Hid (Below w1.heap.size w1 wr)) (fun _ tv _ => P - (intOf tv).toNat)
  case atStart => exact ⟨0, [], Nat.zero_le _, rfl, BestTo.zero _ _, Or.inl ⟨none, 0, rfl, rfl⟩, Below.refl _ _⟩
  case round =>
    obtain ⟨t, B, ht, rfl, HBT, HIB, HB⟩ := hrel
    have ht0 : (0 : Int) ≤ (t : Int) := by omega
    obtain ⟨d0, d1⟩ := HC.out _ HB.out
    rcases Nat.lt_or_ge t P with h1 | h1
    · have htP : (t : Int) < (P : Int) := by omega
      go_wp2_with fail
      clear d0 d1
      rename World => Wo
      go_loopw [5, 6] (fun lv vv wi => ∃ v : Nat, v ≤ n ∧ vv = .int .i64 v ∧ Hid (wi.ownsRow Wo.heap.size 3 1 lv (lstB v t).length (digCells (lstB v t))) ∧ Hid (Below Wo.heap.size Wo wi)) (fun _ vv _ => n - (intOf vv).toNat)
      case atStart => exact ⟨0, Nat.zero_le _, rfl, ⟨rfl, Or.inl ⟨rfl, rfl⟩⟩, Below.refl _ _⟩
      case round =>
        obtain ⟨v, hv, rfl, HR, HBi⟩ := hrel
        have hv0 : (0 : Int) ≤ (v : Int) := by omega
        have HBw : Hid (Below w1.heap.size w1 wr) := HB.out.trans (HBi.out.mono HB.out.size)
        obtain ⟨d0, d1⟩ := HC.out _ HBw.out
        rcases Nat.lt_or_ge v n with h2 | h2
        · have hvn : (v : Int) < (n : Int) := by omega
          have hlen := asc_length (lstB_asc v t)
          have hz := HBi.out.size
          have HSU := Hid.mk' (lstB_succ v t)
          have hb2 : ((t : Int) / 2 ^ v).tmod 2 = ((t / 2 ^ v % 2 : Nat) : Int) := by
            have e : ((t : Int) / 2 ^ v) = ((t / 2 ^ v : Nat) : Int) := by simp
            rw [e]
            rfl
          have htb : t.testBit v = decide (t / 2 ^ v % 2 = 1) := Nat.testBit_eq_decide_div_mod_eq
          have hx2 : t / 2 ^ v % 2 < 2 := Nat.mod_lt _ (by decide)
          rw [htb] at HSU
          generalize t / 2 ^ v % 2 = X at *
          generalize lstB v t = L at *
          rcases (show X = 0 ∨ X = 1 by omega) with rfl | rfl
          · go_wp2_with fail
            have e1 : lstB (v + 1) t = L := by have := HSU.out; simpa using this
            refine ⟨⟨v + 1, h2, by go_num, ?_, HBi⟩, by simp [intOf]; omega⟩
            rw [e1]
            exact HR
          · go_wp2_with (at_builtin; go_must (refine wpList_append_lies _ rfl _ _ _ rfl Wo.heap.size 3 i0 _ 1 8 Tryd.underlying44 HINF.out.1 HINF.out.2.1 HINF.out.2.2.1 HINF.out.2.2.2 rfl (by omega) u5 _ _ rfl (HR.out.alloc _) ⟨wr.heap.size, 0, none⟩ 1 1 [.int .i64 (v : Int)] rfl rfl (one_new _ _ _) (by simp [Value.oneCell']) (by omega) (by unfold maxLen; omega) (by omega) (by simp; omega) _ rfl ?_; intro g' cap' w3 hown3 hgrow3 hat3 hlt3; have HO3 := Hid.mk' hown3; have HG3 := Hid.mk' hgrow3; clear hown3 hgrow3 hat3))
            have e1 : lstB (v + 1) t = L ++ [v] := by have := HSU.out; simpa using this
            refine ⟨⟨v + 1, h2, by go_num, ?_, below_push HBi.out HR.out HG3.out⟩, by simp [intOf]; omega⟩
            show World.ownsRow _ _ _ _ _ _ _
            rw [e1, digCells_push]
            simpa using HO3.out
        · obtain rfl : v = n := by omega
          have hvn : ¬ ((v : Int) < (v : Int)) := by omega
          have HIL := Hid.mk' (intsAt_of_row HR.out).1
          have HIB2 := Hid.mk' (HIB.out.later HBi.out)
          obtain ⟨aL, cL, rfl, _⟩ := row_shape HR.out
          obtain ⟨aB, cB, rfl⟩ := HIB2.out.form
          have hlL := asc_length (lstB_asc v t)
          have hlB := asc_length HBT.out.1.1
          have hlLI : (((lstB v t).length : Nat) : Int) ≤ 16 := by omega
          have hlBI : ((B.length : Nat) : Int) ≤ 16 := by omega
          have HSK := Hid.mk' HBT.out.skip
          have HTK := Hid.mk' HBT.out.take
          have HF := Hid.mk' (HFF.out t)
          clear HR HIB HBT hlL hlB
          generalize lstB v t = L at *
          rcases Nat.lt_trichotomy L.length B.length with h3 | h3 | h3
          · have h3I : ((L.length : Nat) : Int) < ((B.length : Nat) : Int) := by omega
            have HN := Hid.mk' (HSK.out fun _ => Or.inl h3)
            go_wp2_with fail
            exact ⟨⟨t + 1, B, h1, by go_num, HN, HIB2, HBw⟩, by simp [intOf]; omega⟩
          · have h3I : ((L.length : Nat) : Int) = ((B.length : Nat) : Int) := by omega
            have h3b : ¬ (((B.length : Nat) : Int) < ((B.length : Nat) : Int)) := by omega
            have HH3 := Hid.mk' h3
            have HAH := Hid.mk' (Ahead_any _ _ L B wr HIL.out HIB2.out h3 (by omega))
            rw [h3] at hlLI HAH ⊢
            clear h3 h3I
            go_wp2_with fail
            refine HAH.out.mono ?_
            rintro e w5 ⟨rfl, hb5⟩
            have HB5 := Hid.mk' (HBw.out.trans (hb5.mono HBw.out.size))
            have HIB5 := Hid.mk' (HIB2.out.later hb5)
            have HIL5 := Hid.mk' (HIL.out.later hb5)
            clear hb5 HAH HIL HIB2 HBw d0 d1
            cases hah : aheadB L B
            · have HN := Hid.mk' (HSK.out fun _ => Or.inr ⟨HH3.out, hah⟩)
              go_wp2_with fail
              exact ⟨⟨t + 1, B, h1, by go_num, HN, HIB5, HB5⟩, by simp [intOf]; omega⟩
            · have HAH2 := Hid.mk' hah
              clear hah
              rw [HH3.out] at HIL5
              have hd := HC.out _ HB5.out
              obtain ⟨d0, d1⟩ := hd
              go_wp2_with fail
              go_loop [7, 8] (fun fr iv => ∃ k : Nat, k ≤ m ∧ fr = .bool (freeK p q t k) ∧ iv = .int .i64 k) (fun _ iv => m - (intOf iv).toNat)
              case atStart => exact ⟨0, Nat.zero_le _, rfl, rfl⟩
              case round =>
                obtain ⟨k, hk, rfl, rfl⟩ := hrel
                have hk0 : (0 : Int) ≤ (k : Int) := by omega
                cases hfk : freeK p q t k
                · have HN := Hid.mk' (HSK.out fun h => by rw [HF.out, freeK_stop hfk hk] at h; cases h)
                  clear hfk
                  rcases Nat.lt_or_ge k m with h4 | h4
                  · have hkm : (k : Int) < (m : Int) := by omega
                    go_wp2_with fail
                    exact ⟨⟨t + 1, B, h1, by go_num, HN, HIB5, HB5⟩, by simp [intOf]; omega⟩
                  · have hkm : ¬ ((k : Int) < (m : Int)) := by omega
                    go_wp2_with fail
                    exact ⟨⟨t + 1, B, h1, by go_num, HN, HIB5, HB5⟩, by simp [intOf]; omega⟩
                · rcases Nat.lt_or_ge k m with h4 | h4
                  · have hkm : (k : Int) < (m : Int) := by omega
                    obtain ⟨b, o, rfl, hT⟩ := HE.out.at h4
                    have hTk := hT k h4
                    have e0 := hTk.1
                    have e1 := hTk.2
                    rw [← HB5.out.cell (cell_lt e0)] at e0
                    rw [← HB5.out.cell (cell_lt e1)] at e1
                    have hpqk := HPQ.out k h4
                    have hp0 : (0 : Int) ≤ (p k : Int) := by omega
                    have hq0 : (0 : Int) ≤ (q k : Int) := by omega
                    have hp64 : (p k : Int) ≤ 64 := by omega
                    have hq64 : (q k : Int) ≤ 64 := by omega
                    have hb2 : ((t : Int) / 2 ^ (p k)).tmod 2 = ((t / 2 ^ (p k) % 2 : Nat) : Int) := by
                      have e : ((t : Int) / 2 ^ (p k)) = ((t / 2 ^ (p k) : Nat) : Int) := by simp
                      rw [e]
                      rfl
                    have hb3 : ((t : Int) / 2 ^ (q k)).tmod 2 = ((t / 2 ^ (q k) % 2 : Nat) : Int) := by
                      have e : ((t : Int) / 2 ^ (q k)) = ((t / 2 ^ (q k) : Nat) : Int) := by simp
                      rw [e]
                      rfl
                    have HNX : Hid (freeK p q t (k + 1) = (!decide (t / 2 ^ (p k) % 2 = 1) || !decide (t / 2 ^ (q k) % 2 = 1))) := by
                      show _ = _
                      rw [freeK, hfk, Nat.testBit_eq_decide_div_mod_eq, Nat.testBit_eq_decide_div_mod_eq, Bool.true_and]
                    have hx2 : t / 2 ^ (p k) % 2 < 2 := Nat.mod_lt _ (by decide)
                    have hx3 : t / 2 ^ (q k) % 2 < 2 := Nat.mod_lt _ (by decide)
                    clear hT hTk hfk hpqk
                    generalize t / 2 ^ (p k) % 2 = X at *
                    generalize t / 2 ^ (q k) % 2 = Y at *
                    rcases (show X = 0 ∨ X = 1 by omega) with rfl | rfl
                    · go_wp2_with fail
                      exact ⟨⟨k + 1, h4, by rw [HNX.out]; rfl, by go_num⟩, by simp [intOf]; omega⟩
                    · rcases (show Y = 0 ∨ Y = 1 by omega) with rfl | rfl
                      · go_wp2_with fail
                        exact ⟨⟨k + 1, h4, by rw [HNX.out]; rfl, by go_num⟩, by simp [intOf]; omega⟩
                      · go_wp2_with fail
                        exact ⟨⟨k + 1, h4, by rw [HNX.out]; rfl, by go_num⟩, by simp [intOf]; omega⟩
                  · obtain rfl : k = m := by omega
                    have hkm : ¬ ((k : Int) < (k : Int)) := by omega
                    have HN := Hid.mk' (HTK.out (HF.out.2 hfk) (by have := HH3.out; omega) (fun _ => HAH2.out))
                    clear hfk
                    go_wp2_with fail
                    exact ⟨⟨t + 1, L, h1, by go_num, HN, HIL5, HB5⟩, by simp [intOf]; omega⟩
          · have h3I : ¬ (((L.length : Nat) : Int) < ((B.length : Nat) : Int)) := by omega
            have h3J : (((L.length : Nat) : Int) == ((B.length : Nat) : Int)) = false := by simp; omega
            have HH3 := Hid.mk' h3
            clear h3 d0 d1
            have hd := HC.out _ HBw.out
            obtain ⟨d0, d1⟩ := hd
            go_wp2_with fail
            go_loop [7, 8] (fun fr iv => ∃ k : Nat, k ≤ m ∧ fr = .bool (freeK p q t k) ∧ iv = .int .i64 k) (fun _ iv => m - (intOf iv).toNat)
            case atStart => exact ⟨0, Nat.zero_le _, rfl, rfl⟩
            case round =>
              obtain ⟨k, hk, rfl, rfl⟩ := hrel
              have hk0 : (0 : Int) ≤ (k : Int) := by omega
              cases hfk : freeK p q t k
              · have HN := Hid.mk' (HSK.out fun h => by rw [HF.out, freeK_stop hfk hk] at h; cases h)
                clear hfk
                rcases Nat.lt_or_ge k m with h4 | h4
                · have hkm : (k : Int) < (m : Int) := by omega
                  go_wp2_with fail
                  exact ⟨⟨t + 1, B, h1, by go_num, HN, HIB2, HBw⟩, by simp [intOf]; omega⟩
                · have hkm : ¬ ((k : Int) < (m : Int)) := by omega
                  go_wp2_with fail
                  exact ⟨⟨t + 1, B, h1, by go_num, HN, HIB2, HBw⟩, by simp [intOf]; omega⟩
              · rcases Nat.lt_or_ge k m with h4 | h4
                · have hkm : (k : Int) < (m : Int) := by omega
                  obtain ⟨b, o, rfl, hT⟩ := HE.out.at h4
                  have hTk := hT k h4
                  have e0 := hTk.1
                  have e1 := hTk.2
                  rw [← HBw.out.cell (cell_lt e0)] at e0
                  rw [← HBw.out.cell (cell_lt e1)] at e1
                  have hpqk := HPQ.out k h4
                  have hp0 : (0 : Int) ≤ (p k : Int) := by omega
                  have hq0 : (0 : Int) ≤ (q k : Int) := by omega
                  have hp64 : (p k : Int) ≤ 64 := by omega
                  have hq64 : (q k : Int) ≤ 64 := by omega
                  have hb2 : ((t : Int) / 2 ^ (p k)).tmod 2 = ((t / 2 ^ (p k) % 2 : Nat) : Int) := by
                    have e : ((t : Int) / 2 ^ (p k)) = ((t / 2 ^ (p k) : Nat) : Int) := by simp
                    rw [e]
                    rfl
                  have hb3 : ((t : Int) / 2 ^ (q k)).tmod 2 = ((t / 2 ^ (q k) % 2 : Nat) : Int) := by
                    have e : ((t : Int) / 2 ^ (q k)) = ((t / 2 ^ (q k) : Nat) : Int) := by simp
                    rw [e]
                    rfl
                  have HNX : Hid (freeK p q t (k + 1) = (!decide (t / 2 ^ (p k) % 2 = 1) || !decide (t / 2 ^ (q k) % 2 = 1))) := by
                    show _ = _
                    rw [freeK, hfk, Nat.testBit_eq_decide_div_mod_eq, Nat.testBit_eq_decide_div_mod_eq, Bool.true_and]
                  have hx2 : t / 2 ^ (p k) % 2 < 2 := Nat.mod_lt _ (by decide)
                  have hx3 : t / 2 ^ (q k) % 2 < 2 := Nat.mod_lt _ (by decide)
                  clear hT hTk hfk hpqk
                  generalize t / 2 ^ (p k) % 2 = X at *
                  generalize t / 2 ^ (q k) % 2 = Y at *
                  rcases (show X = 0 ∨ X = 1 by omega) with rfl | rfl
                  · go_wp2_with fail
                    exact ⟨⟨k + 1, h4, by rw [HNX.out]; rfl, by go_num⟩, by simp [intOf]; omega⟩
                  · rcases (show Y = 0 ∨ Y = 1 by omega) with rfl | rfl
                    · go_wp2_with fail
                      exact ⟨⟨k + 1, h4, by rw [HNX.out]; rfl, by go_num⟩, by simp [intOf]; omega⟩
                    · go_wp2_with fail
                      exact ⟨⟨k + 1, h4, by rw [HNX.out]; rfl, by go_num⟩, by simp [intOf]; omega⟩
                · obtain rfl : k = m := by omega
                  have hkm : ¬ ((k : Int) < (k : Int)) := by omega
                  have HN := Hid.mk' (HTK.out (HF.out.2 hfk) (by have := HH3.out; omega) (fun e => by have := HH3.out; omega))
                  clear hfk
                  go_wp2_with fail
                  exact ⟨⟨t + 1, L, h1, by go_num, HN, HIL, HBw⟩, by simp [intOf]; omega⟩
    · obtain rfl : t = P := by omega
      have htP : ¬ ((t : Int) < (t : Int)) := by omega
      have HAL := HDONE.out B HBT.out
      go_wp2_with fail
      go_ret
      exact ⟨_, rfl, HIB.out, HB1.out.trans (HB.out.mono HB1.out.size)⟩
end Go.Proofs.YtojljmapdafmaaaDoor
