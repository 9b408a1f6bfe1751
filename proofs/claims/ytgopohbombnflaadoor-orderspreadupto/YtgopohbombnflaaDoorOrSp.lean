/- The program's Spread, the document's SpreadOf. -/
import Derived.Test.YtgopohbombnflaaDoorOrSm
import Derived.Test.YtgopohbombnflaaDoorOrFa
namespace Go.Proofs.YtgopohbombnflaaDoor
open Go.RowKit

def spE (R : Nat) (ns : Nat → Nat) (zs : Nat → Nat → Int) (n : Nat) (w : Nat → Int) : Nat := if sqE R ns zs = 0 then (if n ≠ R ∨ noN w n = true then 3 else 0) else sqE R ns zs
theorem spE_le (R : Nat) (ns : Nat → Nat) (zs : Nat → Nat → Int) (n : Nat) (w : Nat → Int) : spE R ns zs n w ≤ 8 := by
  have := sqE_le R ns zs
  unfold spE
  split
  · split <;> omega
  · omega
theorem spE_ok {R : Nat} {ns : Nat → Nat} {zs : Nat → Nat → Int} {n : Nat} {w : Nat → Int} (h : spE R ns zs n w = 0) : SqOk R ns zs ∧ n = R ∧ noN w n = false := by
  unfold spE at h
  by_cases h1 : sqE R ns zs = 0
  · rw [if_pos h1] at h
    by_cases h2 : n ≠ R ∨ noN w n = true
    · rw [if_pos h2] at h; cases h
    · simp only [not_or, Decidable.not_not, ne_eq, Bool.not_eq_true] at h2
      exact ⟨sqE_ok h1, h2.1, h2.2⟩
  · rw [if_neg h1] at h; exact absurd h h1

set_option maxRecDepth 100000 in
set_option maxHeartbeats 4000000 in
theorem Spread_ok (a : Nat → Addr) (v : Value) (R : Nat) (vs : Nat → Value) (ns : Nat → Nat) (zs : Nat → Nat → Int) (u : Value) (n : Nat) (z : Nat → Int) (w : World) (hE : Errs w a) (h : TabAt w v R vs ns zs) (hu : NumsAt w u n z) (hns : ∀ i, i < R → ns i ≤ 100000) (he : spE R ns zs n z = 0) :
    Calls Tryd.prog 29 #[v, u] w fun e w' => ∃ r, e = .returned (.tuple #[r, .nilIface]) ∧ NumsAt w' r R (sprF R zs z) ∧ Below w.heap.size w w' := by
  obtain ⟨hsq, rfl, hno⟩ := spE_ok he
  have hte := tableError_any a v n vs ns zs w hE h (by have := hsq.le; omega) hns
  have hs0 : sqE n ns zs = 0 := by
    unfold spE at he
    by_cases h1 : sqE n ns zs = 0
    · exact h1
    · rw [if_neg h1] at he; exact he
  rw [hs0, errV_zero] at hte
  have hcf := ContainsFunc_num u n z w hu (by have := hsq.le; omega)
  rw [hno] at hcf
  have hpos := hsq.pos
  have hle := hsq.le
  obtain ⟨i0, hii, hz0, hz1, hz2⟩ := info_parts Tryd.infoInt
  have HINF : Hid (Tryd.prog.info? 3 = some i0 ∧ i0.zero = some (.int .i64 0) ∧ i0.size = 1 ∧ i0.bytes = 8) := ⟨hii, hz0, hz1, hz2⟩
  have HW := Hid.mk' (noN_none hno)
  have HBN := Hid.mk' (fun i (hi : i < n) => sprF_bnd hsq (noN_none hno) hi)
  have HLN := Hid.mk' hsq.len
  have HNM := Hid.mk' hsq.num
  have HTL := Hid.mk' (fun (W : World) (hb : Below w.heap.size w W) => h.later hb)
  rcases hu with ⟨_, _, _, h1⟩ | ⟨ub, uo, ucap, rfl, _, hur⟩
  · omega
  have HUR := Hid.mk' (fun (W : World) (hb : Below w.heap.size w W) => hur.later hb)
  obtain ⟨ad, cap, rfl⟩ := h.form
  have k2 : ((n : Int) != (n : Int)) = false := by simp
  clear hii hz0 hz1 hz2 h hur hno he hs0 hsq hns hE
  go_enter Tryd.func29, Tryd.ntmps29
  go_wp2_with fail
  refine hte.mono ?_
  clear hte
  rintro e w1 ⟨rfl, hw1⟩
  rw [hw1]
  clear hw1
  go_wp2_with fail
  refine hcf.mono ?_
  clear hcf
  rintro e w1 ⟨rfl, hw1⟩
  rw [hw1]
  clear hw1
  go_wp2_with (at_make; go_must (refine wpList_make_full _ rfl _ _ _ rfl w.heap.size 3 i0 _ 1 Tryd.underlying22 HINF.out.1 HINF.out.2.1 HINF.out.2.2.1 .i64 .i64 _ _ n rfl rfl rfl rfl (by rw [HINF.out.2.2.2]; omega) (by unfold maxLen; omega) (Nat.le_refl _) ?_; intro w3 hown3 hgrow3; have HF3 := Hid.mk' (fills_made hown3 (made_zero n) hgrow3); clear hown3 hgrow3))
  go_loopw [32] (fun t wr => ∃ k : Nat, k ≤ n ∧ t = .int .i64 k ∧ Hid (Fills w wr w.heap.size n (fun j => if j < k then sprF n zs z j else 0))) (fun t _ => n - (intOf t).toNat)
  case atStart => exact ⟨0, Nat.zero_le _, rfl, by simpa using HF3⟩
  case round =>
    clear HF3
    obtain ⟨k, hk, rfl, HF⟩ := hrel
    rcases Nat.lt_or_ge k n with h1 | h1
    · have hkn : (k : Int) < (n : Int) := by omega
      have hk0 : (0 : Int) ≤ (k : Int) := by omega
      obtain ⟨b, o, rfl, hcv, hnum⟩ := (HTL.out wr HF.out.below).row h1
      rw [HLN.out k h1] at hnum
      rcases hnum with ⟨_, _, _, h0⟩ | ⟨rb, ro, rc, hv, _, _⟩
      · omega
      have HRW : Hid (∀ W, Below w.heap.size w W → RowAt W rb ro n (zs k)) := fun W hb => by
        obtain ⟨_, _, _, _, hnum⟩ := (HTL.out W hb).row h1
        rw [HLN.out k h1, hv] at hnum
        rcases hnum with ⟨_, _, e, _⟩ | ⟨rb', ro', rc', e, _, hrow⟩
        · simp at e; omega
        · simp at e
          obtain ⟨⟨rfl, rfl⟩, rfl⟩ := e
          exact hrow
      rw [hv] at hcv
      have HZK := Hid.mk' (HNM.out k h1)
      have HBK := Hid.mk' (HBN.out k h1)
      have HSF : Hid (sprF n zs z k = sumN (fun c => zs k c * z c) n) := rfl
      have HF0 : Hid (Fills w wr w.heap.size n (fun j => if j < k then sprF n zs z j else if j = k then sumN (fun c => zs k c * z c) 0 else 0)) := by
        refine ⟨fun i hi => ?_, HF.out.fz, HF.out.below, HF.out.hg⟩
        have := HF.out.row i hi
        rw [this]
        by_cases h5 : i < k
        · rw [if_pos h5, if_pos h5]
        · rw [if_neg h5, if_neg h5]; split <;> rfl
      clear hv
      go_wp2_with fail
      go_loopw [39] (fun t wr => ∃ c : Nat, c ≤ n ∧ t = .int .i64 c ∧ Hid (Fills w wr w.heap.size n (fun j => if j < k then sprF n zs z j else if j = k then sumN (fun c => zs k c * z c) c else 0))) (fun t _ => n - (intOf t).toNat)
      case atStart => exact ⟨0, Nat.zero_le _, rfl, HF0.out⟩
      case round =>
        clear HF HF0 hcv
        obtain ⟨c, hc, rfl, HF⟩ := hrel
        rcases Nat.lt_or_ge c n with h2 | h2
        · have hcn : (c : Int) < (n : Int) := by omega
          have hc0 : (0 : Int) ≤ (c : Int) := by omega
          have hx := HRW.out wr HF.out.below c h2
          have hy := HUR.out wr HF.out.below c h2
          have hcF := HF.out.row k h1
          have hfz := HF.out.fz k h1
          rw [Nat.zero_add] at hcF hfz
          rw [if_neg (by omega), if_pos rfl] at hcF
          have b1 := HZK.out c h2
          have b2 := HW.out c h2
          have b3 := HBK.out c hc
          have b4 := HBK.out (c + 1) h2
          have HS1 : Hid (sumN (fun c => zs k c * z c) (c + 1) = sumN (fun c => zs k c * z c) c + zs k c * z c) := rfl
          have b5 : 0 ≤ zs k c * z c := Int.mul_nonneg b1.1 b2.1
          have b6 : zs k c * z c ≤ 16777216 := by
            have := Int.mul_le_mul b1.2 b2.2 b2.1 (by decide : (0 : Int) ≤ 4096)
            omega
          have HS := Hid.mk' (HF.out.set h1 (sumN (fun c => zs k c * z c) c + zs k c * z c) (f' := fun j => if j < k then sprF n zs z j else if j = k then sumN (fun c => zs k c * z c) (c + 1) else 0) (fun i hi => by
            by_cases h5 : i = k
            · subst h5
              simp only [Nat.lt_irrefl, if_true, if_false]
              exact HS1.out
            · simp only [h5, if_false]))
          generalize sumN (fun c => zs k c * z c) c = s at *
          obtain ⟨x, hxe⟩ : ∃ x, x = zs k c := ⟨_, rfl⟩
          obtain ⟨y, hye⟩ : ∃ y, y = z c := ⟨_, rfl⟩
          rw [← hxe] at hx b1 b5 b6 HS
          rw [← hye] at hy b2 b5 b6 HS
          clear hxe hye HS1 b4
          go_wp2_with fail
          go_region
          go_wp2_with fail
          exact ⟨⟨c + 1, h2, by go_num, by first | exact HS.out | exact HS.out.drew⟩, by simp [intOf]; omega⟩
        · obtain rfl : c = n := by omega
          have hcn : ¬ (c : Int) < (c : Int) := by omega
          have HFN : Hid (Fills w wr w.heap.size c (fun j => if j < k + 1 then sprF c zs z j else 0)) := by
            refine ⟨fun i hi => ?_, HF.out.fz, HF.out.below, HF.out.hg⟩
            rw [HF.out.row i hi]
            by_cases h5 : i < k
            · simp only [h5, if_true, show i < k + 1 by omega]
            · by_cases h6 : i = k
              · subst h6
                simp only [Nat.lt_irrefl, if_true, if_false, show i < i + 1 by omega]
                rfl
              · simp only [h5, h6, if_false, show ¬ i < k + 1 by omega]
          go_wp2_with fail
          exact ⟨⟨k + 1, h1, by go_num, HFN.out⟩, by simp [intOf]; omega⟩
    · obtain rfl : k = n := by omega
      have hkn : ¬ (k : Int) < (k : Int) := by omega
      have HRES : Hid (RowAt wr w.heap.size 0 k (sprF k zs z)) := fun i hi => by have := HF.out.row i hi; rwa [if_pos hi] at this
      go_wp2_with fail
      go_ret2
      exact ⟨_, rfl, Or.inr ⟨_, 0, _, rfl, hpos, HRES.out⟩, HF.out.below⟩
end Go.Proofs.YtgopohbombnflaaDoor
