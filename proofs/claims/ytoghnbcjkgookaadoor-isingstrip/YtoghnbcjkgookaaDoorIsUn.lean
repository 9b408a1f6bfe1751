/- The document's UnlikeOf. -/
import Derived.Test.YtoghnbcjkgookaaDoorIsSt
namespace Go.Proofs.YtoghnbcjkgookaaDoor
open Go.RowKit

theorem tm2 (x : Nat) : (x : Int).tmod 2 = ((x % 2 : Nat) : Int) := by rw [Int.tmod_eq_emod_of_nonneg (by omega)]; omega
/-- The same by remainders. -/
theorem un_rems (s P Q : Nat) : ∃ x y x2 y2 : Nat, (s : Int) / 2 ^ P = (x : Int) ∧ (s : Int) / 2 ^ Q = (y : Int) ∧ (x : Int).tmod 2 = (x2 : Int) ∧ (y : Int).tmod 2 = (y2 : Int) ∧ x ≤ s ∧ y ≤ s ∧ x2 ≤ 1 ∧ y2 ≤ 1 ∧ unB s P Q = (if x2 = y2 then 0 else 1) := by
  refine ⟨s >>> P, s >>> Q, (s >>> P) % 2, (s >>> Q) % 2, shr_nat _ _, shr_nat _ _, ?_, ?_, shr_le _ _, shr_le _ _, by omega, by omega, unB_eq _ _ _⟩
  · exact tm2 _
  · exact tm2 _

set_option maxRecDepth 100000 in
set_option maxHeartbeats 4000000 in
theorem UnlikeOf_any (n m : Nat) (ev : Value) (p q : Nat → Nat) (w : World) (hG : EdAt w ev m (fun i => (p i : Int)) (fun i => (q i : Int))) (hn : n ≤ 14) (hm : m ≤ 30) (hpq : ∀ i, i < m → p i < n ∧ q i < n) :
    Calls Tryd.prog 15 #[.int .i64 n, ev] w fun e w' => ∃ g, e = .returned (.slice (some ⟨g, 0, none⟩) (m + 1) (m + 1)) ∧ Fills w w' g (m + 1) (fun k => ((stK p q n m k : Nat) : Int)) := by
  obtain ⟨i0, hi, hz0, hz1, hz2⟩ := info_parts Tryd.infoInt
  have HINF : Hid (Tryd.prog.info? 3 = some i0 ∧ i0.zero = some (.int .i64 0) ∧ i0.size = 1 ∧ i0.bytes = 8) := ⟨hi, hz0, hz1, hz2⟩
  clear hi hz0 hz1 hz2
  obtain ⟨ad, cap, rfl, -⟩ := id hG
  have HG3 : Hid (∀ W, Below w.heap.size w W → EdAt W (.slice ad m cap) m (fun i => (p i : Int)) (fun i => (q i : Int))) := fun W hb => hG.later hb
  have HPQ := Hid.mk' hpq
  have hnI : (n : Int) ≤ 14 := by omega
  have hn0 : (0 : Int) ≤ (n : Int) := by omega
  have hmI : (m : Int) ≤ 30 := by omega
  have hm0 : (0 : Int) ≤ (m : Int) := by omega
  have HT : Hid (2 ^ n ≤ 16384) := Nat.pow_le_pow_right (n := 2) (by decide) hn
  obtain ⟨T2, hT2⟩ : ∃ T2 : Nat, T2 = 2 ^ n := ⟨_, rfl⟩
  have hsh : IntKind.i64.wrap (2 ^ n : Int) = (T2 : Int) := by rw [shl_wrap n (by omega), hT2]; simp
  have HT2 := Hid.mk' hT2
  have hT3 : T2 ≤ 16384 := by rw [hT2]; exact HT.out
  clear hG hpq hT2
  go_enter Tryd.func15, Tryd.ntmps15
  go_wp2_with (at_make; go_must (refine wpList_make_full _ rfl _ _ _ rfl w.heap.size 3 i0 _ 1 Tryd.underlying34 HINF.out.1 HINF.out.2.1 HINF.out.2.2.1 .i64 .i64 _ _ (m + 1) rfl rfl (by go_num) (by go_num) (by rw [HINF.out.2.2.2]; omega) (by unfold maxLen; omega) (Nat.le_refl _) ?_; intro w3 hown3 hgrow3; have HF3 := Hid.mk' (fills_made hown3 (made_zero (m + 1)) hgrow3); clear hown3 hgrow3))
  go_loopw [6] (fun i wr => ∃ s : Nat, s ≤ T2 ∧ i = .int .i64 s ∧ Hid (Fills w wr w.heap.size (m + 1) (fun k => ((cntK (fun s => unl p q s m) k s : Nat) : Int)))) (fun i _ => T2 - (intOf i).toNat)
  case atStart => exact ⟨0, Nat.zero_le _, rfl, HF3⟩
  case round =>
    clear HF3
    obtain ⟨s, hs, rfl, HF⟩ := hrel
    have hs0 : (0 : Int) ≤ (s : Int) := by omega
    rcases Nat.lt_or_ge s T2 with h1 | h1
    · have hsI : (s : Int) < (T2 : Int) := by omega
      obtain ⟨fT, hfT⟩ : ∃ fT, fT = (fun k => cntK (fun s => unl p q s m) k s) := ⟨_, rfl⟩
      have HNX : Hid (∀ k, cntK (fun s => unl p q s m) k (s + 1) = fT k + if unl p q s m = k then 1 else 0) := fun k => by rw [hfT]; rfl
      have HLE : Hid (∀ k, fT k ≤ 16384) := fun k => by rw [hfT]; have := cntK_le (fun s => unl p q s m) k s; exact Nat.le_trans this (by omega)
      have HF' : Hid (Fills w wr w.heap.size (m + 1) (fun k => ((fT k : Nat) : Int))) := by show Fills _ _ _ _ _; rw [hfT]; exact HF.out
      clear hfT HF
      go_wp2_with fail
      go_loopw [7, 8] (fun u i wr => ∃ k : Nat, k ≤ m ∧ i = .int .i64 k ∧ u = .int .i64 (unl p q s k : Nat) ∧ Hid (Fills w wr w.heap.size (m + 1) (fun k => ((fT k : Nat) : Int)))) (fun _ i _ => m - (intOf i).toNat)
      case atStart => exact ⟨0, Nat.zero_le _, rfl, rfl, HF'⟩
      case round =>
        clear HF'
        obtain ⟨k, hk, rfl, rfl, HF⟩ := hrel
        have hk0 : (0 : Int) ≤ (k : Int) := by omega
        have HU := Hid.mk' (unl_le p q s k)
        rcases Nat.lt_or_ge k m with h2 | h2
        · have hkm : (k : Int) < (m : Int) := by omega
          obtain ⟨b, o, rfl, hT⟩ := (HG3.out _ HF.out.below).at h2
          have e0 : wr.cell? ⟨b, o + k * 2, none⟩ = some (.int .i64 ((p k : Nat) : Int)) := (hT k h2).1
          have e1 : wr.cell? ⟨b, o + k * 2 + 1, none⟩ = some (.int .i64 ((q k : Nat) : Int)) := (hT k h2).2
          have hP := (HPQ.out k h2).1
          have hQ := (HPQ.out k h2).2
          obtain ⟨x, y, x2, y2, fx, fy, fx2, fy2, hxs, hys, hx2, hy2, hu⟩ := un_rems s (p k) (q k)
          have HN : Hid (unl p q s (k + 1) = unl p q s k + (if x2 = y2 then 0 else 1)) := by show _ = _; rw [← hu]; rfl
          clear hu hT
          have hU30 : unl p q s k ≤ 30 := by have := HU.out; omega
          generalize unl p q s k = U at *
          have hPI : ((p k : Nat) : Int) ≤ 13 := by omega
          have hQI : ((q k : Nat) : Int) ≤ 13 := by omega
          have hP0 : (0 : Int) ≤ ((p k : Nat) : Int) := by omega
          have hQ0 : (0 : Int) ≤ ((q k : Nat) : Int) := by omega
          generalize p k = P at *
          generalize q k = Q at *
          go_wp2_with fail
          by_cases hxy : x2 = y2
          · have hd : ((x2 : Int) == (y2 : Int)) = true := by simp; omega
            have HN2 : Hid (unl p q s (k + 1) = U) := by show _ = _; rw [HN.out, if_pos hxy, Nat.add_zero]
            clear hxy
            go_quiet (fail)
            have HF3 := Hid.mk' (HF.out.later (below_drewN (Below.refl _ _) nq))
            generalize wr.drewN nq = Wq at *
            clear HF e0 e1
            go_wp2_with fail
            exact ⟨⟨k + 1, h2, by go_num, by rw [HN2.out], HF3⟩, by simp [intOf]; omega⟩
          · have hd : ((x2 : Int) == (y2 : Int)) = false := by simp; omega
            have HN2 : Hid (unl p q s (k + 1) = U + 1) := by show _ = _; rw [HN.out, if_neg hxy]
            go_quiet (fail)
            have HF3 := Hid.mk' (HF.out.later (below_drewN (Below.refl _ _) nq))
            generalize wr.drewN nq = Wq at *
            clear HF e0 e1
            go_wp2_with fail
            exact ⟨⟨k + 1, h2, by go_num, by rw [HN2.out]; go_num, HF3⟩, by simp [intOf]; omega⟩
        · obtain rfl : k = m := by omega
          have hkm : ¬ ((k : Int) < (k : Int)) := by omega
          have hU30 : unl p q s k ≤ 30 := by have := HU.out; omega
          have HNX2 := Hid.mk' HNX.out
          have HUk := HU.out
          clear HU
          generalize unl p q s k = U at *
          have cu := HF.out.row U (by omega)
          have fu := HF.out.fz U (by omega)
          rw [Nat.zero_add] at cu fu
          have hUk : (U : Int) ≤ (k : Int) := by omega
          have hU0 : (0 : Int) ≤ (U : Int) := by omega
          have HN := Hid.mk' (HF.out.inc (u := U) (by omega))
          have hle := HLE.out U
          have hleI : ((fT U : Nat) : Int) ≤ 16384 := by omega
          have hle0 : (0 : Int) ≤ ((fT U : Nat) : Int) := by omega
          clear hle
          go_wp2_with fail
          refine ⟨⟨s + 1, h1, by go_num, ?_⟩, by simp [intOf]; omega⟩
          refine Fills.congr HN.out (fun i _ => ?_)
          rw [HNX2.out i]
    · obtain rfl : s = T2 := by omega
      have hsI : ¬ ((s : Int) < (s : Int)) := by omega
      go_wp2_with fail
      go_ret
      refine ⟨_, rfl, ?_⟩
      have h2 := HF.out
      refine ⟨fun i hi => ?_, h2.fz, h2.below, h2.hg⟩
      rw [h2.row i hi, stK, ← HT2.out]
end Go.Proofs.YtoghnbcjkgookaaDoor
