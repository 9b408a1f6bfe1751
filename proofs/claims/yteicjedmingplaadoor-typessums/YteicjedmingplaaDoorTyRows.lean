/- The document's number of rows. -/
import Derived.Test.YteicjedmingplaaDoorTySz
import Derived.Test.YteicjedmingplaaDoorIvD
namespace Go.Proofs.YteicjedmingplaaDoor
open Go.RowKit

theorem low_big {M : Nat} (hM : 0 < M) {x : Nat} (hx : x < 1000000 ^ 20) (hR : M < 1000000 ^ 20) : (lowN M (x : Int)).natAbs < 1000000 ^ 20 ∧ lowD M (x : Int) < 1000000 ^ 20 := by
  have h1 := lowN_le hM (x : Int)
  have h2 := lowD_le M (x : Int)
  rw [Int.natAbs_natCast] at h1
  exact ⟨by omega, by omega⟩
theorem low_whole {D R N : Nat} (hD : 0 < D) (h : N = R * D) : lowN D (N : Int) = lowN 1 (R : Int) ∧ lowD D (N : Int) = lowD 1 (R : Int) := by
  have := low_same (M := 1) (n := (N : Int)) (d := D) (z := (R : Int)) Nat.one_pos hD (by rw [h]; simp)
  exact this
theorem wrap_n {x : Int} (h0 : 0 ≤ x) (h : x ≤ 1000000) : IntKind.i64.wrap x = x := by
  simp only [IntKind.wrap_i64]
  omega
/-- A fraction times another one, in lowest terms. -/
theorem Times_step (M S W A : Nat) (hM : 0 < M) (hS : 0 < S) (hM2 : M < 1000000 ^ 20) (hS2 : S < 1000000 ^ 20) (hW2 : W < 1000000 ^ 20) (hA2 : A < 1000000 ^ 20) (u v : Value) (w : World) (hu : RatioAt w u (lowN M (W : Int)) (lowD M (W : Int))) (hv : RatioAt w v (lowN S (A : Int)) (lowD S (A : Int))) :
    Calls Tryd.prog 38 #[u, v] w fun e w' => ∃ r, e = .returned r ∧ RatioAt w' r (lowN (M * S) ((W * A : Nat) : Int)) (lowD (M * S) ((W * A : Nat) : Int)) ∧ Below w.heap.size w w' := by
  have ru := low_big hM hW2 hM2
  have rv := low_big hS hA2 hS2
  have h3 := Times_ratio u v _ _ _ _ 20 w hu hv (lowD_pos hM _) (lowD_pos hS _) ru.1 rv.1 ru.2 rv.2 (by decide)
  have h4 := low_step hM hS (W : Int) (A : Int)
  rw [h4.1, h4.2, show (W : Int) * (A : Int) = ((W * A : Nat) : Int) by simp] at h3
  exact h3
theorem fac_small {m : Nat} (h : m ≤ 20) : facT m < 1000000 ^ 20 := Nat.lt_of_le_of_lt (facT_mono h) (by decide +kernel)
theorem den_small (t : Nat → Nat) {k : Nat} (h : sumU t k ≤ 20) : denU t k < 1000000 ^ 20 := by
  have h1 := rowU_fac t k (by omega)
  have h2 := fac_small h
  rw [← h1] at h2
  exact Nat.lt_of_le_of_lt (Nat.le_mul_of_pos_left _ (rowU_pos t k (by omega))) h2

set_option maxRecDepth 100000 in
set_option maxHeartbeats 4000000 in
theorem RowsOf_any (b o cap n : Nat) (t : Nat → Nat) (w : World) (hr : RowAt w b o n (fun i => (t i : Int))) (hn : n ≤ 6) (hs : sumU t n ≤ 20) :
    Calls Tryd.prog 19 #[.slice (some ⟨b, o, none⟩) n cap] w fun e w' => ∃ v, e = .returned v ∧ RatioAt w' v (lowN 1 ((rowU t n : Nat) : Int)) (lowD 1 ((rowU t n : Nat) : Int)) ∧ Below w.heap.size w w' := by
  obtain ⟨W0, hW0⟩ : ∃ W0, W0 = w.alloc (.cells #[.bool false, .slice none 0 0, .slice none 0 0] 47) := ⟨_, rfl⟩
  have hb0 : Below w.heap.size w W0 := by rw [hW0]; exact (Below.refl _ _).alloc (Nat.le_refl _) _
  have HR0 : Hid (∀ W, Below W0.heap.size W0 W → RBox W w.heap.size false none 0 0 none 0 0 0 0) := fun W hb => by
    have h : RBox W0 w.heap.size false none 0 0 none 0 0 0 0 := by rw [hW0]; exact RBox.fresh (w := w) ⟨_, _, rfl, big_none w, big_none w⟩
    exact h.later hb
  have HB0 := Hid.mk' hb0
  have HRW : Hid (∀ W, Below W0.heap.size W0 W → RowAt W b o n (fun i => (t i : Int))) := fun W hb => hr.later (below_chain hb0 hb)
  have HLE := Hid.mk' (fun i (hi : i ≤ n) => sumU_le t hi)
  have HQ1 : Hid (∀ W, Calls Tryd.prog 25 #[.int .i64 1, .int .i64 1] W fun e w' => ∃ r, e = .returned r ∧ RatioAt w' r (lowN 1 1) (lowD 1 1) ∧ Below W.heap.size W w') := fun W => RatioOf_any 1 1 W (by decide) (by decide) (by decide) (by decide)
  have hnI : (n : Int) ≤ 6 := by omega
  clear hb0 hr
  go_enter Tryd.func19, Tryd.ntmps19
  go_upto_region 1 with fail
  rw [← hW0]
  have HLT : Hid (w.heap.size < W0.heap.size) := by show _ < _; rw [hW0]; simp
  clear hW0
  have hcur := Below.refl W0.heap.size W0
  go_wp2_with fail
  refine (HQ1.out _).mono ?_
  rintro e w1 ⟨r, rfl, hr, hb1⟩
  obtain ⟨s1, x1, l1, c1, x1', l1', c1', rfl⟩ := hr.sl
  have HR1 := Hid.mk' (RBox.fresh hr)
  have hcur := below_chain hcur hb1
  have HLT1 := Hid.mk' hcur.size
  have HCUR := Hid.mk' (hcur.alloc hcur.size (.cells #[.bool s1, .slice x1 l1 c1, .slice x1' l1' c1'] 47))
  clear hr hb1 hcur HQ1
  go_wp2_with fail
  generalize w1.alloc (.cells #[.bool s1, .slice x1 l1 c1, .slice x1' l1' c1'] 47) = W1 at *
  generalize w1.heap.size = B1 at *
  go_loopw [4, 5] (fun m i wr => ∃ (k : Nat) (s1 : Bool) (x1 x1' : Option Addr) (l1 c1 l1' c1' : Nat), k ≤ n ∧ m = .int .i64 (sumU t k : Nat) ∧ i = .int .i64 k ∧ Hid (RBox wr B1 s1 x1 l1 c1 x1' l1' c1' (lowN (denU t k) ((facT (sumU t k) : Nat) : Int)) (lowD (denU t k) ((facT (sumU t k) : Nat) : Int))) ∧ Hid (Below W0.heap.size W0 wr)) (fun _ i _ => n - (intOf i).toNat)
  case atStart => exact ⟨0, s1, x1, x1', l1, c1, l1', c1', Nat.zero_le _, rfl, rfl, HR1.out, HCUR.out⟩
  case round =>
    clear HR1 HCUR
    obtain ⟨i, s1, x1, x1', l1, c1, l1', c1', hk, rfl, rfl, HR1, HB⟩ := hrel
    have hi0 : (0 : Int) ≤ (i : Int) := by omega
    rcases Nat.lt_or_ge i n with h1 | h1
    · have hiI : (i : Int) < (n : Int) := by omega
      have hle := HLE.out (i + 1) h1
      have hsu : sumU t (i + 1) = sumU t i + t i := rfl
      have HSU := Hid.mk' hsu
      have HDU : Hid (denU t (i + 1) = denU t i * facT (t i)) := rfl
      have HDS := Hid.mk' (den_small t (k := i + 1) (by omega))
      have HDP := Hid.mk' (denU_pos t i)
      rw [hsu] at hle
      clear hsu
      have HTI : Hid (∀ W, Below W0.heap.size W0 W → W.cell? ⟨b, o + i, none⟩ = some (.int .i64 (t i : Int))) := fun W hb => HRW.out W hb i h1
      obtain ⟨s, hss⟩ : ∃ s, s = sumU t i := ⟨_, rfl⟩
      rw [← hss] at HSU hle HR1 ⊢
      obtain ⟨d, hdd⟩ : ∃ d, d = denU t i := ⟨_, rfl⟩
      rw [← hdd] at HDU HDP HR1
      obtain ⟨x, hxx⟩ : ∃ x, x = t i := ⟨_, rfl⟩
      rw [← hxx] at HSU HDU hle HTI
      clear hss hdd hxx
      have hs0 : (0 : Int) ≤ (s : Int) := by omega
      have hx0 : (0 : Int) ≤ (x : Int) := by omega
      have hsx : (s : Int) + (x : Int) ≤ 20 := by omega
      go_wp2_with fail
      go_loopw [4, 6] (fun m q wr => ∃ (k : Nat) (s1 : Bool) (x1 x1' : Option Addr) (l1 c1 l1' c1' : Nat), k ≤ x ∧ m = .int .i64 ((s : Int) + (k : Int)) ∧ q = .int .i64 ((k : Int) + 1) ∧ Hid (RBox wr B1 s1 x1 l1 c1 x1' l1' c1' (lowN (d * facT k) ((facT (s + k) : Nat) : Int)) (lowD (d * facT k) ((facT (s + k) : Nat) : Int))) ∧ Hid (Below W0.heap.size W0 wr)) (fun _ q _ => x + 1 - (intOf q).toNat)
      case atStart => exact ⟨0, s1, x1, x1', l1, c1, l1', c1', Nat.zero_le _, by simp, rfl, by show RBox _ _ _ _ _ _ _ _ _ _ _; simpa [facT] using HR1.out, HB.out⟩
      case round =>
        clear HR1 HB
        obtain ⟨wx, rfl⟩ : ∃ wx, wx = wr := ⟨_, rfl⟩
        obtain ⟨k, s1, x1, x1', l1, c1, l1', c1', hkx, rfl, rfl, HR1, HB⟩ := hrel
        have hk0 : (0 : Int) ≤ (k : Int) := by omega
        have hct := HTI.out _ HB.out
        rcases Nat.lt_or_ge k x with h2 | h2
        · have hkI : (k : Int) + 1 ≤ (x : Int) := by omega
          have HRO : Hid (∀ W, Calls Tryd.prog 25 #[.int .i64 ((s : Int) + (k : Int) + 1), .int .i64 ((k : Int) + 1)] W fun e w' => ∃ r, e = .returned r ∧ RatioAt w' r (lowN (k + 1) ((s + k + 1 : Nat) : Int)) (lowD (k + 1) ((s + k + 1 : Nat) : Int)) ∧ Below W.heap.size W w') := fun W => by
            have h3 := RatioOf_any ((s + k + 1 : Nat) : Int) (k + 1) W (by omega) (by omega) (by omega) (by omega)
            rw [show ((k + 1 : Nat) : Int) = (k : Int) + 1 by omega, show ((s + k + 1 : Nat) : Int) = (s : Int) + (k : Int) + 1 by omega] at h3
            rw [show ((s + k + 1 : Nat) : Int) = (s : Int) + (k : Int) + 1 by omega]
            exact h3
          have HTM : Hid (∀ W u v, RatioAt W u (lowN (d * facT k) ((facT (s + k) : Nat) : Int)) (lowD (d * facT k) ((facT (s + k) : Nat) : Int)) → RatioAt W v (lowN (k + 1) ((s + k + 1 : Nat) : Int)) (lowD (k + 1) ((s + k + 1 : Nat) : Int)) → Calls Tryd.prog 38 #[u, v] W fun e w' => ∃ r, e = .returned r ∧ RatioAt w' r (lowN (d * facT (k + 1)) ((facT (s + (k + 1)) : Nat) : Int)) (lowD (d * facT (k + 1)) ((facT (s + (k + 1)) : Nat) : Int)) ∧ Below W.heap.size W w') := fun W u v hu hv => by
            have e0 : d * facT k ≤ denU t (i + 1) := by rw [HDU.out]; exact Nat.mul_le_mul (Nat.le_refl _) (facT_mono (by omega))
            have h3 := Times_step (d * facT k) (k + 1) (facT (s + k)) (s + k + 1) (Nat.mul_pos HDP.out (facT_pos _)) (by omega) (Nat.lt_of_le_of_lt e0 HDS.out) (Nat.lt_of_le_of_lt (show k + 1 ≤ 100 by omega) (by decide)) (fac_small (by omega)) (Nat.lt_of_le_of_lt (show s + k + 1 ≤ 100 by omega) (by decide)) u v W hu hv
            rw [Nat.mul_assoc] at h3
            exact h3
          have y0 := HR1.out.c0
          have y1 := HR1.out.c1
          have y2 := HR1.out.c2
          have HKS : Hid (∀ W, Below wx.heap.size wx W → (W.cell? ⟨B1, 0, none⟩ = some (.bool s1) ∧ W.cell? ⟨B1, 1, none⟩ = some (.slice x1 l1 c1) ∧ W.cell? ⟨B1, 2, none⟩ = some (.slice x1' l1' c1'))) := fun W hb => ⟨by rw [hb.cell (cell_lt y0)]; exact y0, by rw [hb.cell (cell_lt y1)]; exact y1, by rw [hb.cell (cell_lt y2)]; exact y2⟩
          have HLW := Hid.mk' (fun (W : World) (hb : Below wx.heap.size wx W) => HR1.out.later hb)
          have hcur : Below wx.heap.size wx wx.drew := (Below.refl _ _).drew
          clear y0 y1 y2
          have hw1 : IntKind.i64.wrap ((s : Int) + (k : Int) + 1) = (s : Int) + (k : Int) + 1 := wrap_n (by omega) (by omega)
          have hw2 : IntKind.i64.wrap ((k : Int) + 1) = (k : Int) + 1 := wrap_n (by omega) (by omega)
          go_wp2_with fail
          refine region_but_last (n := 5) (S := fun W => W.cell? ⟨B1, 0, none⟩ = some (.bool s1) ∧ W.cell? ⟨B1, 1, none⟩ = some (.slice x1 l1 c1) ∧ W.cell? ⟨B1, 2, none⟩ = some (.slice x1' l1' c1')) (by kernel_rfl) (by kernel_rfl) (by kernel_rfl) (HKS.out _ hcur) (fun hHeld => ?_)
          refine wpAnyH_take (i := 0) (v := ?v0a) rfl (by kernel_rfl) (by kernel_rfl) (by kernel_rfl) (fun _ _ _ h => h) (Or.inl ⟨by rfl, ?hy0a⟩) (by assumption) ?rest0a
          case hy0a => (intro w hSw; (try dsimp only at hSw); go_simp <;> (try with_reducible rfl))
          simp only [Act.put]
          refine wpAnyH_take (i := 1) (v := ?v1a) rfl (by kernel_rfl) (by kernel_rfl) (by kernel_rfl) (fun _ _ _ h => h) (Or.inl ⟨by rfl, ?hy1a⟩) (by assumption) ?rest1a
          case hy1a => (intro w hSw; (try dsimp only at hSw); go_simp <;> (try with_reducible rfl))
          simp only [Act.put]
          refine wpAnyH_take (i := 2) (v := ?v2a) rfl (by kernel_rfl) (by kernel_rfl) (by kernel_rfl) (fun _ _ _ h => h) (Or.inl ⟨by rfl, ?hy2a⟩) (by assumption) ?rest2a
          case hy2a => (intro w hSw; (try dsimp only at hSw); go_simp <;> (try with_reducible rfl))
          simp only [Act.put]
          refine wpAnyH_ready (rs := [3]) (by kernel_rfl) (by simp) ?_
          refine AllReadyH.cons rfl (fun K hK => ?_) AllReadyH.nil
          go_simp
          refine (HRO.out _).mono ?_
          rintro e w5 ⟨r1, rfl, hr1, hb5⟩
          have hcur := below_chain hcur hb5
          have HX1 := Hid.mk' hr1
          obtain ⟨t1, p1, m1, q1, p1', m1', q1', hr1e⟩ := hr1.sl
          subst hr1e
          clear hr1
          go_wp2_with fail
          refine hK.out _ _ ?_ (fun hHeld => ?_)
          · exact HKS.out _ hcur
          clear hK K
          refine wpAnyH_ready (rs := [4]) (by kernel_rfl) (by simp) ?_
          refine AllReadyH.cons rfl (fun K hK => ?_) AllReadyH.nil
          go_simp
          refine (HTM.out _ _ _ (HLW.out _ hcur).rat HX1.out).mono ?_
          rintro e w7 ⟨r3, rfl, hr3, hb7⟩
          have hcur := below_chain hcur hb7
          have HX3 := Hid.mk' hr3
          obtain ⟨t3, p3, m3, q3, p3', m3', q3', hr3e⟩ := hr3.sl
          subst hr3e
          clear hr3
          have hL := HLW.out _ hcur
          have fz0 := hL.fz 0 (by decide)
          have fz1 := hL.fz 1 (by decide)
          have fz2 := hL.fz 2 (by decide)
          have k0 := hL.c0
          have k1 := hL.c1
          have k2 := hL.c2
          obtain ⟨⟨g0, g1⟩, ⟨g2, g3⟩, g4⟩ := put_three' (.bool t3) (.slice p3 m3 q3) (.slice p3' m3' q3') k0 k1 k2
          have HSET := Hid.mk' (hL.put HX3.out)
          clear hL
          go_wp2_with fail
          refine hK.out _ _ ?_ (fun hHeld => ?_)
          · exact HKS.out _ hcur
          clear hK K
          refine wpAnyH_done (by kernel_rfl) ?_ _
          refine ahead_last rfl (fun K hK => ?_)
          go_simp
          refine hK _ _ ?_
          clear hK K
          unfold put3 at HSET
          have HB8 : Hid (Below W0.heap.size W0 (((w7.setCell ⟨B1, 0, none⟩ (.bool t3)).setCell ⟨B1, 1, none⟩ (.slice p3 m3 q3)).setCell ⟨B1, 2, none⟩ (.slice p3' m3' q3'))) := (((below_chain HB.out hcur).setCell HLT1.out _).setCell HLT1.out _).setCell HLT1.out _
          generalize ((w7.setCell ⟨B1, 0, none⟩ (.bool t3)).setCell ⟨B1, 1, none⟩ (.slice p3 m3 q3)).setCell ⟨B1, 2, none⟩ (.slice p3' m3' q3') = W8 at *
          clear HX1 HX3 hHeld g0 g1 g2 g3 g4 k0 k1 k2 fz0 fz1 fz2 hcur HKS HLW hb5 hb7 HR1
          go_wp2_with fail
          exact ⟨⟨k + 1, _, _, _, _, _, _, _, h2, by go_num, by go_num, HSET.out, HB8.out⟩, by simp [intOf]; omega⟩
        · obtain rfl : k = x := by omega
          have hkI : (k : Int) < (k : Int) + 1 := by omega
          go_wp2_with fail
          refine ⟨⟨i + 1, s1, x1, x1', l1, c1, l1', c1', h1, by rw [HSU.out]; go_num, by go_num, ?_, HB.out⟩, by simp [intOf]; omega⟩
          show RBox _ _ _ _ _ _ _ _ _ _ _
          rw [HDU.out, HSU.out]
          exact HR1.out
    · obtain rfl : i = n := by omega
      have hiI : ¬ (i : Int) < (i : Int) := by omega
      have y0 := HR1.out.c0
      have y1 := HR1.out.c1
      have y2 := HR1.out.c2
      have hR := HR0.out _ HB.out
      have z0 := hR.c0
      have z1 := hR.c1
      have z2 := hR.c2
      have f0 := hR.fz 0 (by decide)
      have f1 := hR.fz 1 (by decide)
      have f2 := hR.fz 2 (by decide)
      obtain ⟨⟨g0, g1⟩, ⟨g2, g3⟩, g4⟩ := put_three' (.bool s1) (.slice x1 l1 c1) (.slice x1' l1' c1') z0 z1 z2
      have HP := Hid.mk' (hR.put HR1.out.rat)
      have HBF := Hid.mk' (below_chain HB0.out HB.out)
      have HLW := Hid.mk' (low_whole (R := rowU t i) (denU_pos t i) (rowU_fac t i (by omega)).symm)
      clear hR
      unfold put3 at HP
      go_wp2_with fail
      refine bodyPost_ret (v := .agg #[.bool s1, .slice x1 l1 c1, .slice x1' l1' c1']) (by simp [results, Tryd.results19, go_sem, HP.out.c0, HP.out.c1, HP.out.c2]) rfl ⟨_, rfl, ?_, ?_⟩
      · rw [← HLW.out.1, ← HLW.out.2]
        exact HP.out.rat
      · exact (((HBF.out.setCell (Nat.le_refl _) _).setCell (Nat.le_refl _) _).setCell (Nat.le_refl _) _)
end Go.Proofs.YteicjedmingplaaDoor
