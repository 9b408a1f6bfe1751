/- Spread of what is wrong; the document's SpreadOf. -/
import Derived.Test.YtgopohbombnflaaDoorOrSp
namespace Go.Proofs.YtgopohbombnflaaDoor
open Go.RowKit

set_option maxRecDepth 100000 in
theorem Spread_bad (a : Nat → Addr) (v : Value) (R : Nat) (vs : Nat → Value) (ns : Nat → Nat) (zs : Nat → Nat → Int) (u : Value) (n : Nat) (z : Nat → Int) (w : World) (hE : Errs w a) (h : TabAt w v R vs ns zs) (hu : NumsAt w u n z) (hR : R ≤ 1000) (hns : ∀ i, i < R → ns i ≤ 100000) (hn : n ≤ 100000) (he : spE R ns zs n z ≠ 0) :
    Calls Tryd.prog 29 #[v, u] w fun e w' => e = .returned (.tuple #[.slice none 0 0, errV a (spE R ns zs n z)]) ∧ Below w.heap.size w w' := by
  have hte := tableError_any a v R vs ns zs w hE h hR hns
  have hcf := ContainsFunc_num u n z w hu (by omega)
  have e2 := hE.c2
  obtain ⟨ad, cap, rfl⟩ := h.form
  obtain ⟨uad, ucap, rfl⟩ := hu.form
  clear h hu hE hns
  by_cases h1 : sqE R ns zs = 0
  · have hbad : n ≠ R ∨ noN z n = true := Decidable.byContradiction fun hc => he (by unfold spE; rw [if_pos h1, if_neg hc])
    have HV : Hid (errV a (spE R ns zs n z) = .iface 120 (.pointer (some (a 2)))) := by show _ = _; unfold spE; rw [if_pos h1, if_pos hbad]; rfl
    rw [h1, errV_zero] at hte
    by_cases h2 : n = R
    · have k2 : ((n : Int) != (R : Int)) = false := by simp; omega
      rw [hbad.resolve_left (fun h => h h2)] at hcf
      clear he h1 h2 hbad
      go_enter Tryd.func29, Tryd.ntmps29
      go_wp2_with fail
      refine hte.mono ?_
      clear hte
      rintro e w1 ⟨rfl, hw1⟩
      rw [hw1]
      clear hw1
      go_wp2_with fail
      refine hcf.mono ?_
      clear hcf
      rintro e w1 ⟨rfl, hw1⟩
      rw [hw1]
      clear hw1
      go_wp2_with fail
      go_quiet (fail)
      go_wp2_with fail
      go_ret2
      exact ⟨by rw [HV.out]; rfl, below_drewN (Below.refl _ _) _⟩
    · have k2 : ((n : Int) != (R : Int)) = true := by simp; omega
      clear he h1 h2 hbad hcf
      go_enter Tryd.func29, Tryd.ntmps29
      go_wp2_with fail
      refine hte.mono ?_
      clear hte
      rintro e w1 ⟨rfl, hw1⟩
      rw [hw1]
      clear hw1
      go_wp2_with fail
      go_quiet (fail)
      go_wp2_with fail
      go_ret2
      exact ⟨by rw [HV.out]; rfl, below_drewN (Below.refl _ _) _⟩
  · have HV : Hid (errV a (spE R ns zs n z) = errV a (sqE R ns zs)) := by show _ = _; unfold spE; rw [if_neg h1]
    obtain ⟨e, hee⟩ : ∃ e, errV a (sqE R ns zs) = e := ⟨_, rfl⟩
    obtain ⟨t, x, rfl⟩ : ∃ t x, e = .iface t x := by rw [← hee, errV_pos a h1]; exact ⟨_, _, rfl⟩
    have HE2 := Hid.mk' hee
    rw [hee] at hte
    clear he h1 hcf hee
    go_enter Tryd.func29, Tryd.ntmps29
    go_wp2_with fail
    refine hte.mono ?_
    clear hte
    rintro e w1 ⟨rfl, hw1⟩
    rw [hw1]
    clear hw1
    go_wp2_with fail
    go_ret2
    exact ⟨by rw [HV.out, HE2.out]; rfl, Below.refl _ _⟩

theorem own_drewO {w : World} {base : Nat} {e : TypeId} {s n : Nat} {v : Value} {xs : List Value} (h : w.ownsRow base e s v n xs) (q : Nat) : (w.drewN q).ownsRow base e s v n xs := h
set_option maxRecDepth 100000 in
set_option maxHeartbeats 4000000 in
theorem SpreadOf_any (v : Value) (R : Nat) (vs : Nat → Value) (ns : Nat → Nat) (zs : Nat → Nat → Int) (u : Value) (z : Nat → Int) (w : World) (h : TabAt w v R vs ns zs) (hu : NumsAt w u R z) (hsq : SqOk R ns zs) (hz : ∀ k, k < R → 0 ≤ z k ∧ z k ≤ 4096) :
    Calls Tryd.prog 28 #[v, u] w fun e w' => ∃ r, e = .returned r ∧ NumsAt w' r R (sprF R zs z) ∧ Below w.heap.size w w' := by
  have hpos := hsq.pos
  have hle := hsq.le
  have HW := Hid.mk' hz
  have HBN := Hid.mk' (fun i (hi : i < R) => sprF_bnd hsq hz hi)
  have HLN := Hid.mk' hsq.len
  have HNM := Hid.mk' hsq.num
  have HTL := Hid.mk' (fun (W : World) (hb : Below w.heap.size w W) => h.later hb)
  rcases hu with ⟨_, _, _, h1⟩ | ⟨ub, uo, ucap, rfl, _, hur⟩
  · omega
  have HUR := Hid.mk' (fun (W : World) (hb : Below w.heap.size w W) => hur.later hb)
  obtain ⟨ad, cap, rfl⟩ := h.form
  clear h hur hsq hz
  go_enter Tryd.func28, Tryd.ntmps28
  go_wp2_with fail
  go_loopw [5, 6] (fun s t wr => ∃ k : Nat, k ≤ R ∧ t = .int .i64 (k : Int) ∧ Hid (wr.ownsRow w.heap.size 3 1 s k (numCells (sprF R zs z) k)) ∧ Hid (Below w.heap.size w wr)) (fun _ t _ => R - (intOf t).toNat)
  case atStart => exact ⟨0, Nat.zero_le _, rfl, World.ownsRow_nil _ _ _ _, Below.refl _ _⟩
  case round =>
    obtain ⟨k, hk, rfl, HO, HB⟩ := hrel
    have hle2 := HB.out.size
    rcases Nat.lt_or_ge k R with h1 | h1
    · have hkI : (k : Int) < (R : Int) := by omega
      have hk0 : (0 : Int) ≤ (k : Int) := by omega
      have HZK := Hid.mk' (HNM.out k h1)
      have HBK := Hid.mk' (HBN.out k h1)
      obtain ⟨b, o, rfl, hcv0, hnum⟩ := (HTL.out w (Below.refl _ _)).row h1
      rw [HLN.out k h1] at hnum
      rcases hnum with ⟨_, _, _, h0⟩ | ⟨rb, ro, rc, hv, _, hrow⟩
      · omega
      rw [hv] at hcv0
      have HCV := Hid.mk' (fun (W : World) (hb : Below w.heap.size w W) => (by rw [hb.cell (cell_lt hcv0)]; exact hcv0 : W.cell? ⟨b, o + k, none⟩ = some (.slice (some ⟨rb, ro, none⟩) R rc)))
      have HRW := Hid.mk' (fun (W : World) (hb : Below w.heap.size w W) => hrow.later hb)
      clear hv hcv0 hrow
      go_wp2_with fail
      go_loopw [7, 8] (fun s t wr => ∃ c : Nat, c ≤ R ∧ s = .int .i64 (sumN (fun c => zs k c * z c) c) ∧ t = .int .i64 (c : Int) ∧ Hid (wr.ownsRow w.heap.size 3 1 u5 k (numCells (sprF R zs z) k)) ∧ Hid (Below w.heap.size w wr)) (fun _ t _ => R - (intOf t).toNat)
      case atStart => exact ⟨0, Nat.zero_le _, rfl, rfl, HO.out, HB.out⟩
      case round =>
        clear HO HB
        obtain ⟨c, hc, rfl, rfl, HO, HB⟩ := hrel
        have hb3 := HBK.out c hc
        rcases Nat.lt_or_ge c R with h2 | h2
        · have hcI : (c : Int) < (R : Int) := by omega
          have hc0 : (0 : Int) ≤ (c : Int) := by omega
          have hcv := HCV.out wr HB.out
          have hx := HRW.out wr HB.out c h2
          have hy := HUR.out wr HB.out c h2
          have b1 := HZK.out c h2
          have b2 := HW.out c h2
          have HS1 : Hid (sumN (fun c => zs k c * z c) (c + 1) = sumN (fun c => zs k c * z c) c + zs k c * z c) := rfl
          have b5 : 0 ≤ zs k c * z c := Int.mul_nonneg b1.1 b2.1
          have b6 : zs k c * z c ≤ 16777216 := by
            have := Int.mul_le_mul b1.2 b2.2 b2.1 (by decide : (0 : Int) ≤ 4096)
            omega
          obtain ⟨s, hs⟩ : ∃ s, s = sumN (fun c => zs k c * z c) c := ⟨_, rfl⟩
          rw [← hs] at hb3 HS1 ⊢
          generalize zs k c = x at *
          generalize z c = y at *
          clear hs
          go_wp2_with fail
          go_quiet (fail)
          go_wp2_with fail
          exact ⟨⟨c + 1, h2, by rw [HS1.out], by go_num, own_drewO HO.out nq, below_drewN HB.out nq⟩, by simp [intOf]; omega⟩
        · obtain rfl : c = R := by omega
          have hcI : ¬ (c : Int) < (c : Int) := by omega
          have hle3 := HB.out.size
          have HSF : Hid (sprF c zs z k = sumN (fun c => zs k c * z c) c) := rfl
          generalize sumN (fun c => zs k c * z c) c = s at *
          go_wp2_with (at_builtin; go_must (refine wpList_append_own rfl _ _ rfl w w.heap.size u5 k (numCells (sprF c zs z) k) _ 1 (fun _ => s) rfl rfl (HO.out.alloc _) (HB.out.alloc hle3 _) (Nat.le_trans hle3 (by simp)) (one_num _ s _) (by omega) ?_; intro v2 W3 ho2 hb2 hs2; have HO2 := Hid.mk' ho2; have HBB2 := Hid.mk' hb2; clear ho2 hb2 hs2))
          exact ⟨⟨k + 1, h1, by go_num, by show World.ownsRow _ _ _ _ _ _ _; rw [show numCells (sprF c zs z) (k + 1) = numCells (sprF c zs z) k ++ numCells (fun _ => s) 1 from by rw [numCells, HSF.out]; rfl]; exact HO2.out, HBB2.out⟩, by simp [intOf]; omega⟩
    · obtain rfl : k = R := by omega
      have hkI : ¬ (k : Int) < (k : Int) := by omega
      have HV := Hid.mk' (numsAt_own HO.out)
      go_wp2_with fail
      go_ret
      exact ⟨_, rfl, HV.out, HB.out⟩
end Go.Proofs.YtgopohbombnflaaDoor
