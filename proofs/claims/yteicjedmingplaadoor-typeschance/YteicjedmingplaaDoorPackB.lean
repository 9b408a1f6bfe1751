/- types.All. -/
import Derived.Test.YteicjedmingplaaDoorTyP
import Derived.Test.YteicjedmingplaaDoorPackA
import Derived.Deep.Cut
import Derived.Laws.EntriesVeiled
import Derived.Test.YteicjedmingplaaDoorLol
import Derived.Test.YteicjedmingplaaDoorTyMath
import Derived.Test.YteicjedmingplaaDoorCode
import Derived.Test.YteicjedmingplaaDoorWeights
namespace Go.Proofs.YteicjedmingplaaDoor
open Go.RowKit

/-- The closure is made, and stored. -/
theorem Lai.fil {w W0 W : World} {kb k c go gt bo bt : Nat} (h : Lai W0 W kb k c go gt bo bt) (hb : Below w.heap.size w W0) (hkb : kb < W0.heap.size) (hkw : w.heap.size ≤ kb) (t : TypeId) :
    FilAt w (W.alloc (.cells #[.func (.func 30) #[] #[.pointer (some ⟨kb, 0, none⟩), .pointer (some ⟨bt, 0, none⟩), .pointer (some ⟨bo, 0, none⟩), .pointer (some ⟨W.heap.size, 0, none⟩)]] t)) (W.heap.size + 1) kb W.heap.size bt bo gt k (fun _ => 0) (.slice (some ⟨go, 0, none⟩) 0 c) [] [] := by
  have l := h.lt
  have g := h.ge
  have n := h.ne
  have hk : kb < W.heap.size := cell_lt h.ck
  have far : ∀ b j, b < W.heap.size → ∀ X, (W.alloc X).cell? ⟨b, j, none⟩ = W.cell? ⟨b, j, none⟩ := fun b j hb X => World.cell?_alloc_lt _ _ _ hb
  have ffz : ∀ b j, b < W.heap.size → ∀ X, (W.alloc X).frozen? ⟨b, j, none⟩ = W.frozen? ⟨b, j, none⟩ := fun b j hb X => ((Below.refl W.heap.size W).alloc (Nat.le_refl _) _).frozen hb
  have hs0 := hb.size
  refine ⟨(below_chain hb h.below).alloc (Nat.le_trans hs0 h.below.size) _, by omega, ⟨by omega, by omega, by omega, by omega, by omega, by simp⟩, by omega, by omega, ?_, ?_, ?_, ?_, ?_, fun i hi => ?_, fun i hi => ?_, ⟨?_, fun i r hr => by simp at hr⟩, fun g' hg' => ?_⟩
  · rw [far _ _ hk]; exact h.ck
  · rw [World.cell?_alloc_at _ _ _ _ rfl]; rfl
  · rw [far _ _ l.2.2.2]; exact h.ct.row 0 (by omega)
  · rw [far _ _ l.2.2.1]; exact h.co.row 0 (by omega)
  · rw [ffz _ _ l.2.2.1]; exact h.co.fz 0 (by omega)
  · rw [far _ _ l.2.1, Nat.zero_add]; exact h.row.row i hi
  · rw [ffz _ _ l.2.1]; exact h.row.fz i hi
  · exact own_past (h.own.mono hs0) ((Below.refl W.heap.size W).alloc (Nat.le_refl _) _)
  · obtain rfl : go = g' := by simpa [Value.ownBlock] using hg'
    omega

set_option maxRecDepth 100000 in
set_option maxHeartbeats 8000000 in
theorem All_ok (n k : Nat) (w : World) (hn : n < 21) (hk : k < 6) (hc : cntT k n ≤ 4000) : Calls Tryd.prog 10 #[.int .i64 n, .int .i64 ((k : Int) + 1)] w fun e w' => ∃ v, e = .returned (.tuple #[v, .nilIface]) ∧ LolAt w' v (typT k n) ∧ Below w.heap.size w w' := by
  obtain ⟨i0, hi, hz0, hz1, hz2⟩ := info_parts Tryd.infoInts
  have HINF : Hid (Tryd.prog.info? 35 = some i0 ∧ i0.zero = some (.slice none 0 0) ∧ i0.size = 1 ∧ i0.bytes = 24) := ⟨hi, hz0, hz1, hz2⟩
  clear hi hz0 hz1 hz2
  obtain ⟨i1, hi, hz0, hz1, hz2⟩ := info_parts Tryd.infoInt
  have HINI : Hid (Tryd.prog.info? 3 = some i1 ∧ i1.zero = some (.int .i64 0) ∧ i1.size = 1 ∧ i1.bytes = 8) := ⟨hi, hz0, hz1, hz2⟩
  clear hi hz0 hz1 hz2
  have HC := Hid.mk' (fun W => Count_ok n k W hn hk)
  have hnI : (n : Int) < 21 := by omega
  have hn0 : (0 : Int) ≤ (n : Int) := by omega
  obtain ⟨k1, hk1⟩ : ∃ k1, k1 = k + 1 := ⟨_, rfl⟩
  rw [show (k : Int) + 1 = (k1 : Int) by omega] at HC ⊢
  have hK1 : 1 ≤ k1 := by omega
  have hK6 : k1 ≤ 6 := by omega
  have HK1 := Hid.mk' hk1
  clear hk1
  have HCN := Hid.mk' hc
  have hcI : (cntT k n : Int) ≤ 4000 := by omega
  have hcI0 : 0 ≤ (cntT k n : Int) := by omega
  generalize cntT k n = c at hc hcI hcI0 HC
  go_enter Tryd.func10, Tryd.ntmps10
  go_wp2_with fail
  refine (HC.out _).mono ?_
  rintro e w1 ⟨rfl, hw1⟩
  rw [hw1]
  clear hw1 HC
  go_wp2_with fail
  have ck0 : (w.alloc (.cells #[.int .i64 (k1 : Int)] 3)).cell? ⟨w.heap.size, 0, none⟩ = some (.int .i64 (k1 : Int)) := by rw [World.cell?_alloc_at _ _ _ _ rfl]; rfl
  have HB0 : Hid (Below w.heap.size w (w.alloc (.cells #[.int .i64 (k1 : Int)] 3))) := (Below.refl _ _).alloc (Nat.le_refl _) _
  have HKB : Hid (w.heap.size < (w.alloc (.cells #[.int .i64 (k1 : Int)] 3)).heap.size) := cell_lt ck0
  generalize w.alloc (.cells #[.int .i64 (k1 : Int)] 3) = W0 at *
  go_cut [8, 9] from 23 (fun p q wx => ∃ go gt bo bt : Nat, p = .pointer (some ⟨bo, 0, none⟩) ∧ q = .pointer (some ⟨bt, 0, none⟩) ∧ Hid (Lai W0 wx w.heap.size k1 c go gt bo bt))
  case first =>
    have HBg := Hid.mk' (beg_start (w := W0) (W := W0.drew) (kb := w.heap.size) (k := k1) (c := c) (v := .slice none 0 0) (Below.refl _ _).drew ck0)
    refine region_but_last (n := 7) (S := fun W => W.cell? ⟨w.heap.size, 0, none⟩ = some (.int .i64 (k1 : Int))) (by kernel_rfl) (by kernel_rfl) (by kernel_rfl) HBg.out.ck (fun hHeld => ?_)
    clear ck0
    generalize W0.drew = Wd at *
    refine wpAnyH_take (i := 0) (v := ?v0z) rfl (by kernel_rfl) (by kernel_rfl) (by kernel_rfl) (fun _ _ _ h => h) (Or.inl ⟨by rfl, ?hy0z⟩) (by assumption) ?rest0z
    case hy0z => (intro w hSw; (try dsimp only at hSw); go_simp <;> (try with_reducible rfl))
    simp only [Act.put]
    refine wpAnyH_take (i := 2) (v := ?v2z) rfl (by kernel_rfl) (by kernel_rfl) (by kernel_rfl) (fun _ _ _ h => h) (Or.inl ⟨by rfl, ?hy2z⟩) (by assumption) ?rest2z
    case hy2z => (intro w hSw; (try dsimp only at hSw); go_simp <;> (try with_reducible rfl))
    simp only [Act.put]
    refine wpAnyH_ready (rs := [1, 3, 4, 5]) (by kernel_rfl) (by simp) ?_
    refine AllReadyH.cons (i := 1) (rs := [3, 4, 5]) rfl (fun K hK => ?_) ?_
    · refine tstep_room _ rfl _ _ _ rfl 35 i0 _ Tryd.underlying28 HINF.out.1 HINF.out.2.1 HINF.out.2.2.1 c rfl rfl (by rw [HINF.out.2.2.2]; omega) (by unfold maxLen; omega) ?_
      intro wm1 hown hgrow
      have HBg := Hid.mk' (HBg.out.add0 hown hgrow)
      refine hK.out _ _ HBg.out.ck (fun hHeld => ?_)
      clear hK K hown hgrow
      simp only [Act.put, List.getElem_toArray, List.getElem_cons_succ, List.getElem_cons_zero, List.setIfInBounds_toArray, List.set_cons_succ, List.set_cons_zero]
      refine wpAnyH_ready (rs := [3, 4, 5]) (by kernel_rfl) (by simp) ?_
      refine AllReadyH.cons (i := 3) (rs := [4, 5]) rfl (fun K hK => ?_) ?_
      · refine tstep_make _ rfl _ _ _ rfl 3 i1 _ Tryd.underlying35 HINI.out.1 HINI.out.2.1 HINI.out.2.2.1 k1 rfl rfl (by rw [HINI.out.2.2.2]; omega) (by unfold maxLen; omega) ?_
        intro wm2 hown hgrow
        have HBg := Hid.mk' (HBg.out.add1 hown hgrow)
        refine hK.out _ _ HBg.out.ck (fun hHeld => ?_)
        clear hK K hown hgrow
        simp only [Act.put, List.getElem_toArray, List.getElem_cons_succ, List.getElem_cons_zero, List.setIfInBounds_toArray, List.set_cons_succ, List.set_cons_zero]
        refine wpAnyH_ready (rs := [4, 5]) (by kernel_rfl) (by simp) ?_
        refine AllReadyH.cons (i := 4) (rs := [5]) rfl (fun K hK => ?_) ?_
        · go_simp
          have HBg := Hid.mk' (HBg.out.add2 28)
          refine hK.out _ _ HBg.out.ck (fun hHeld => ?_)
          clear hK K
          generalize wm2.alloc (.cells #[.slice none 0 0] 28) = wm3 at HBg hHeld ⊢
          (try simp only [Act.put, List.getElem_toArray, List.getElem_cons_succ, List.getElem_cons_zero, List.setIfInBounds_toArray, List.set_cons_succ, List.set_cons_zero])
          refine wpAnyH_ready (rs := [5]) (by kernel_rfl) (by simp) ?_
          refine AllReadyH.cons (i := 5) (rs := []) rfl (fun K hK => ?_) ?_
          · go_simp
            have HBg := Hid.mk' (HBg.out.add3 35)
            refine hK.out _ _ HBg.out.ck (fun hHeld => ?_)
            clear hK K
            generalize wm3.alloc (.cells #[.slice none 0 0] 35) = wm4 at HBg hHeld ⊢
            (try simp only [Act.put, List.getElem_toArray, List.getElem_cons_succ, List.getElem_cons_zero, List.setIfInBounds_toArray, List.set_cons_succ, List.set_cons_zero])
            refine wpAnyH_ready (rs := [6]) (by kernel_rfl) (by simp) ?_
            refine AllReadyH.cons (i := 6) (rs := []) rfl (fun K hK => ?_) ?_
            · have bb := (HBg.out.b2 _ rfl)
              have e0 := bb.row 0 (by decide)
              have f0 := bb.fz 0 (by decide)
              have HBg := Hid.mk' (HBg.out.store rfl HKB.out (.slice (some ⟨Wd.heap.size, 0, none⟩) 0 c))
              go_simp
              refine hK.out _ _ HBg.out.ck (fun hHeld => ?_)
              clear hK K bb e0 f0
              generalize wm4.setCell ⟨wm2.heap.size, 0, none⟩ (.slice (some ⟨Wd.heap.size, 0, none⟩) 0 c) = wm5 at HBg hHeld ⊢
              (try simp only [Act.put, List.getElem_toArray, List.getElem_cons_succ, List.getElem_cons_zero, List.setIfInBounds_toArray, List.set_cons_succ, List.set_cons_zero])
              have bb := (HBg.out.b3 _ rfl)
              have e0 := bb.row 0 (by decide)
              have f0 := bb.fz 0 (by decide)
              have HLAI := Hid.mk' (HBg.out.lai rfl rfl rfl rfl HKB.out)
              clear bb
              refine wpAnyH_done (by kernel_rfl) ?_ _
              refine ahead_last rfl (fun K hK => ?_)
              go_simp
              refine hK _ _ ?_
              clear hK K
              go_wp2_with fail
              go_meet
              exact ⟨_, _, _, _, rfl, rfl, HLAI.out⟩
            exact AllReadyH.nil
          exact AllReadyH.nil
        refine AllReadyH.cons (i := 5) (rs := []) rfl (fun K hK => ?_) ?_
        · go_simp
          have HBg := Hid.mk' (HBg.out.add3 35)
          refine hK.out _ _ HBg.out.ck (fun hHeld => ?_)
          clear hK K
          generalize wm2.alloc (.cells #[.slice none 0 0] 35) = wm6 at HBg hHeld ⊢
          (try simp only [Act.put, List.getElem_toArray, List.getElem_cons_succ, List.getElem_cons_zero, List.setIfInBounds_toArray, List.set_cons_succ, List.set_cons_zero])
          refine wpAnyH_ready (rs := [4]) (by kernel_rfl) (by simp) ?_
          refine AllReadyH.cons (i := 4) (rs := []) rfl (fun K hK => ?_) ?_
          · go_simp
            have HBg := Hid.mk' (HBg.out.add2 28)
            refine hK.out _ _ HBg.out.ck (fun hHeld => ?_)
            clear hK K
            generalize wm6.alloc (.cells #[.slice none 0 0] 28) = wm7 at HBg hHeld ⊢
            (try simp only [Act.put, List.getElem_toArray, List.getElem_cons_succ, List.getElem_cons_zero, List.setIfInBounds_toArray, List.set_cons_succ, List.set_cons_zero])
            refine wpAnyH_ready (rs := [6]) (by kernel_rfl) (by simp) ?_
            refine AllReadyH.cons (i := 6) (rs := []) rfl (fun K hK => ?_) ?_
            · have bb := (HBg.out.b2 _ rfl)
              have e0 := bb.row 0 (by decide)
              have f0 := bb.fz 0 (by decide)
              have HBg := Hid.mk' (HBg.out.store rfl HKB.out (.slice (some ⟨Wd.heap.size, 0, none⟩) 0 c))
              go_simp
              refine hK.out _ _ HBg.out.ck (fun hHeld => ?_)
              clear hK K bb e0 f0
              generalize wm7.setCell ⟨wm6.heap.size, 0, none⟩ (.slice (some ⟨Wd.heap.size, 0, none⟩) 0 c) = wm8 at HBg hHeld ⊢
              (try simp only [Act.put, List.getElem_toArray, List.getElem_cons_succ, List.getElem_cons_zero, List.setIfInBounds_toArray, List.set_cons_succ, List.set_cons_zero])
              have bb := (HBg.out.b3 _ rfl)
              have e0 := bb.row 0 (by decide)
              have f0 := bb.fz 0 (by decide)
              have HLAI := Hid.mk' (HBg.out.lai rfl rfl rfl rfl HKB.out)
              clear bb
              refine wpAnyH_done (by kernel_rfl) ?_ _
              refine ahead_last rfl (fun K hK => ?_)
              go_simp
              refine hK _ _ ?_
              clear hK K
              go_wp2_with fail
              go_meet
              exact ⟨_, _, _, _, rfl, rfl, HLAI.out⟩
            exact AllReadyH.nil
          exact AllReadyH.nil
        exact AllReadyH.nil
      refine AllReadyH.cons (i := 4) (rs := [5]) rfl (fun K hK => ?_) ?_
      · go_simp
        have HBg := Hid.mk' (HBg.out.add2 28)
        refine hK.out _ _ HBg.out.ck (fun hHeld => ?_)
        clear hK K
        generalize wm1.alloc (.cells #[.slice none 0 0] 28) = wm9 at HBg hHeld ⊢
        (try simp only [Act.put, List.getElem_toArray, List.getElem_cons_succ, List.getElem_cons_zero, List.setIfInBounds_toArray, List.set_cons_succ, List.set_cons_zero])
        refine wpAnyH_ready (rs := [3, 5]) (by kernel_rfl) (by simp) ?_
        refine AllReadyH.cons (i := 3) (rs := [5]) rfl (fun K hK => ?_) ?_
        · refine tstep_make _ rfl _ _ _ rfl 3 i1 _ Tryd.underlying35 HINI.out.1 HINI.out.2.1 HINI.out.2.2.1 k1 rfl rfl (by rw [HINI.out.2.2.2]; omega) (by unfold maxLen; omega) ?_
          intro wm10 hown hgrow
          have HBg := Hid.mk' (HBg.out.add1 hown hgrow)
          refine hK.out _ _ HBg.out.ck (fun hHeld => ?_)
          clear hK K hown hgrow
          simp only [Act.put, List.getElem_toArray, List.getElem_cons_succ, List.getElem_cons_zero, List.setIfInBounds_toArray, List.set_cons_succ, List.set_cons_zero]
          refine wpAnyH_ready (rs := [5]) (by kernel_rfl) (by simp) ?_
          refine AllReadyH.cons (i := 5) (rs := []) rfl (fun K hK => ?_) ?_
          · go_simp
            have HBg := Hid.mk' (HBg.out.add3 35)
            refine hK.out _ _ HBg.out.ck (fun hHeld => ?_)
            clear hK K
            generalize wm10.alloc (.cells #[.slice none 0 0] 35) = wm11 at HBg hHeld ⊢
            (try simp only [Act.put, List.getElem_toArray, List.getElem_cons_succ, List.getElem_cons_zero, List.setIfInBounds_toArray, List.set_cons_succ, List.set_cons_zero])
            refine wpAnyH_ready (rs := [6]) (by kernel_rfl) (by simp) ?_
            refine AllReadyH.cons (i := 6) (rs := []) rfl (fun K hK => ?_) ?_
            · have bb := (HBg.out.b2 _ rfl)
              have e0 := bb.row 0 (by decide)
              have f0 := bb.fz 0 (by decide)
              have HBg := Hid.mk' (HBg.out.store rfl HKB.out (.slice (some ⟨Wd.heap.size, 0, none⟩) 0 c))
              go_simp
              refine hK.out _ _ HBg.out.ck (fun hHeld => ?_)
              clear hK K bb e0 f0
              generalize wm11.setCell ⟨wm1.heap.size, 0, none⟩ (.slice (some ⟨Wd.heap.size, 0, none⟩) 0 c) = wm12 at HBg hHeld ⊢
              (try simp only [Act.put, List.getElem_toArray, List.getElem_cons_succ, List.getElem_cons_zero, List.setIfInBounds_toArray, List.set_cons_succ, List.set_cons_zero])
              have bb := (HBg.out.b3 _ rfl)
              have e0 := bb.row 0 (by decide)
              have f0 := bb.fz 0 (by decide)
              have HLAI := Hid.mk' (HBg.out.lai rfl rfl rfl rfl HKB.out)
              clear bb
              refine wpAnyH_done (by kernel_rfl) ?_ _
              refine ahead_last rfl (fun K hK => ?_)
              go_simp
              refine hK _ _ ?_
              clear hK K
              go_wp2_with fail
              go_meet
              exact ⟨_, _, _, _, rfl, rfl, HLAI.out⟩
            exact AllReadyH.nil
          exact AllReadyH.nil
        refine AllReadyH.cons (i := 5) (rs := []) rfl (fun K hK => ?_) ?_
        · go_simp
          have HBg := Hid.mk' (HBg.out.add3 35)
          refine hK.out _ _ HBg.out.ck (fun hHeld => ?_)
          clear hK K
          generalize wm9.alloc (.cells #[.slice none 0 0] 35) = wm13 at HBg hHeld ⊢
          (try simp only [Act.put, List.getElem_toArray, List.getElem_cons_succ, List.getElem_cons_zero, List.setIfInBounds_toArray, List.set_cons_succ, List.set_cons_zero])
          refine wpAnyH_ready (rs := [3, 6]) (by kernel_rfl) (by simp) ?_
          refine AllReadyH.cons (i := 3) (rs := [6]) rfl (fun K hK => ?_) ?_
          · refine tstep_make _ rfl _ _ _ rfl 3 i1 _ Tryd.underlying35 HINI.out.1 HINI.out.2.1 HINI.out.2.2.1 k1 rfl rfl (by rw [HINI.out.2.2.2]; omega) (by unfold maxLen; omega) ?_
            intro wm14 hown hgrow
            have HBg := Hid.mk' (HBg.out.add1 hown hgrow)
            refine hK.out _ _ HBg.out.ck (fun hHeld => ?_)
            clear hK K hown hgrow
            simp only [Act.put, List.getElem_toArray, List.getElem_cons_succ, List.getElem_cons_zero, List.setIfInBounds_toArray, List.set_cons_succ, List.set_cons_zero]
            refine wpAnyH_ready (rs := [6]) (by kernel_rfl) (by simp) ?_
            refine AllReadyH.cons (i := 6) (rs := []) rfl (fun K hK => ?_) ?_
            · have bb := (HBg.out.b2 _ rfl)
              have e0 := bb.row 0 (by decide)
              have f0 := bb.fz 0 (by decide)
              have HBg := Hid.mk' (HBg.out.store rfl HKB.out (.slice (some ⟨Wd.heap.size, 0, none⟩) 0 c))
              go_simp
              refine hK.out _ _ HBg.out.ck (fun hHeld => ?_)
              clear hK K bb e0 f0
              generalize wm14.setCell ⟨wm1.heap.size, 0, none⟩ (.slice (some ⟨Wd.heap.size, 0, none⟩) 0 c) = wm15 at HBg hHeld ⊢
              (try simp only [Act.put, List.getElem_toArray, List.getElem_cons_succ, List.getElem_cons_zero, List.setIfInBounds_toArray, List.set_cons_succ, List.set_cons_zero])
              have bb := (HBg.out.b3 _ rfl)
              have e0 := bb.row 0 (by decide)
              have f0 := bb.fz 0 (by decide)
              have HLAI := Hid.mk' (HBg.out.lai rfl rfl rfl rfl HKB.out)
              clear bb
              refine wpAnyH_done (by kernel_rfl) ?_ _
              refine ahead_last rfl (fun K hK => ?_)
              go_simp
              refine hK _ _ ?_
              clear hK K
              go_wp2_with fail
              go_meet
              exact ⟨_, _, _, _, rfl, rfl, HLAI.out⟩
            exact AllReadyH.nil
          refine AllReadyH.cons (i := 6) (rs := []) rfl (fun K hK => ?_) ?_
          · have bb := (HBg.out.b2 _ rfl)
            have e0 := bb.row 0 (by decide)
            have f0 := bb.fz 0 (by decide)
            have HBg := Hid.mk' (HBg.out.store rfl HKB.out (.slice (some ⟨Wd.heap.size, 0, none⟩) 0 c))
            go_simp
            refine hK.out _ _ HBg.out.ck (fun hHeld => ?_)
            clear hK K bb e0 f0
            generalize wm13.setCell ⟨wm1.heap.size, 0, none⟩ (.slice (some ⟨Wd.heap.size, 0, none⟩) 0 c) = wm16 at HBg hHeld ⊢
            (try simp only [Act.put, List.getElem_toArray, List.getElem_cons_succ, List.getElem_cons_zero, List.setIfInBounds_toArray, List.set_cons_succ, List.set_cons_zero])
            refine wpAnyH_ready (rs := [3]) (by kernel_rfl) (by simp) ?_
            refine AllReadyH.cons (i := 3) (rs := []) rfl (fun K hK => ?_) ?_
            · refine tstep_make _ rfl _ _ _ rfl 3 i1 _ Tryd.underlying35 HINI.out.1 HINI.out.2.1 HINI.out.2.2.1 k1 rfl rfl (by rw [HINI.out.2.2.2]; omega) (by unfold maxLen; omega) ?_
              intro wm17 hown hgrow
              have HBg := Hid.mk' (HBg.out.add1 hown hgrow)
              refine hK.out _ _ HBg.out.ck (fun hHeld => ?_)
              clear hK K hown hgrow
              simp only [Act.put, List.getElem_toArray, List.getElem_cons_succ, List.getElem_cons_zero, List.setIfInBounds_toArray, List.set_cons_succ, List.set_cons_zero]
              have bb := (HBg.out.b3 _ rfl)
              have e0 := bb.row 0 (by decide)
              have f0 := bb.fz 0 (by decide)
              have HLAI := Hid.mk' (HBg.out.lai rfl rfl rfl rfl HKB.out)
              clear bb
              refine wpAnyH_done (by kernel_rfl) ?_ _
              refine ahead_last rfl (fun K hK => ?_)
              go_simp
              refine hK _ _ ?_
              clear hK K
              go_wp2_with fail
              go_meet
              exact ⟨_, _, _, _, rfl, rfl, HLAI.out⟩
            exact AllReadyH.nil
          exact AllReadyH.nil
        exact AllReadyH.nil
      refine AllReadyH.cons (i := 5) (rs := []) rfl (fun K hK => ?_) ?_
      · go_simp
        have HBg := Hid.mk' (HBg.out.add3 35)
        refine hK.out _ _ HBg.out.ck (fun hHeld => ?_)
        clear hK K
        generalize wm1.alloc (.cells #[.slice none 0 0] 35) = wm18 at HBg hHeld ⊢
        (try simp only [Act.put, List.getElem_toArray, List.getElem_cons_succ, List.getElem_cons_zero, List.setIfInBounds_toArray, List.set_cons_succ, List.set_cons_zero])
        refine wpAnyH_ready (rs := [3, 4]) (by kernel_rfl) (by simp) ?_
        refine AllReadyH.cons (i := 3) (rs := [4]) rfl (fun K hK => ?_) ?_
        · refine tstep_make _ rfl _ _ _ rfl 3 i1 _ Tryd.underlying35 HINI.out.1 HINI.out.2.1 HINI.out.2.2.1 k1 rfl rfl (by rw [HINI.out.2.2.2]; omega) (by unfold maxLen; omega) ?_
          intro wm19 hown hgrow
          have HBg := Hid.mk' (HBg.out.add1 hown hgrow)
          refine hK.out _ _ HBg.out.ck (fun hHeld => ?_)
          clear hK K hown hgrow
          simp only [Act.put, List.getElem_toArray, List.getElem_cons_succ, List.getElem_cons_zero, List.setIfInBounds_toArray, List.set_cons_succ, List.set_cons_zero]
          refine wpAnyH_ready (rs := [4]) (by kernel_rfl) (by simp) ?_
          refine AllReadyH.cons (i := 4) (rs := []) rfl (fun K hK => ?_) ?_
          · go_simp
            have HBg := Hid.mk' (HBg.out.add2 28)
            refine hK.out _ _ HBg.out.ck (fun hHeld => ?_)
            clear hK K
            generalize wm19.alloc (.cells #[.slice none 0 0] 28) = wm20 at HBg hHeld ⊢
            (try simp only [Act.put, List.getElem_toArray, List.getElem_cons_succ, List.getElem_cons_zero, List.setIfInBounds_toArray, List.set_cons_succ, List.set_cons_zero])
            refine wpAnyH_ready (rs := [6]) (by kernel_rfl) (by simp) ?_
            refine AllReadyH.cons (i := 6) (rs := []) rfl (fun K hK => ?_) ?_
            · have bb := (HBg.out.b2 _ rfl)
              have e0 := bb.row 0 (by decide)
              have f0 := bb.fz 0 (by decide)
              have HBg := Hid.mk' (HBg.out.store rfl HKB.out (.slice (some ⟨Wd.heap.size, 0, none⟩) 0 c))
              go_simp
              refine hK.out _ _ HBg.out.ck (fun hHeld => ?_)
              clear hK K bb e0 f0
              generalize wm20.setCell ⟨wm19.heap.size, 0, none⟩ (.slice (some ⟨Wd.heap.size, 0, none⟩) 0 c) = wm21 at HBg hHeld ⊢
              (try simp only [Act.put, List.getElem_toArray, List.getElem_cons_succ, List.getElem_cons_zero, List.setIfInBounds_toArray, List.set_cons_succ, List.set_cons_zero])
              have bb := (HBg.out.b3 _ rfl)
              have e0 := bb.row 0 (by decide)
              have f0 := bb.fz 0 (by decide)
              have HLAI := Hid.mk' (HBg.out.lai rfl rfl rfl rfl HKB.out)
              clear bb
              refine wpAnyH_done (by kernel_rfl) ?_ _
              refine ahead_last rfl (fun K hK => ?_)
              go_simp
              refine hK _ _ ?_
              clear hK K
              go_wp2_with fail
              go_meet
              exact ⟨_, _, _, _, rfl, rfl, HLAI.out⟩
            exact AllReadyH.nil
          exact AllReadyH.nil
        refine AllReadyH.cons (i := 4) (rs := []) rfl (fun K hK => ?_) ?_
        · go_simp
          have HBg := Hid.mk' (HBg.out.add2 28)
          refine hK.out _ _ HBg.out.ck (fun hHeld => ?_)
          clear hK K
          generalize wm18.alloc (.cells #[.slice none 0 0] 28) = wm22 at HBg hHeld ⊢
          (try simp only [Act.put, List.getElem_toArray, List.getElem_cons_succ, List.getElem_cons_zero, List.setIfInBounds_toArray, List.set_cons_succ, List.set_cons_zero])
          refine wpAnyH_ready (rs := [3, 6]) (by kernel_rfl) (by simp) ?_
          refine AllReadyH.cons (i := 3) (rs := [6]) rfl (fun K hK => ?_) ?_
          · refine tstep_make _ rfl _ _ _ rfl 3 i1 _ Tryd.underlying35 HINI.out.1 HINI.out.2.1 HINI.out.2.2.1 k1 rfl rfl (by rw [HINI.out.2.2.2]; omega) (by unfold maxLen; omega) ?_
            intro wm23 hown hgrow
            have HBg := Hid.mk' (HBg.out.add1 hown hgrow)
            refine hK.out _ _ HBg.out.ck (fun hHeld => ?_)
            clear hK K hown hgrow
            simp only [Act.put, List.getElem_toArray, List.getElem_cons_succ, List.getElem_cons_zero, List.setIfInBounds_toArray, List.set_cons_succ, List.set_cons_zero]
            refine wpAnyH_ready (rs := [6]) (by kernel_rfl) (by simp) ?_
            refine AllReadyH.cons (i := 6) (rs := []) rfl (fun K hK => ?_) ?_
            · have bb := (HBg.out.b2 _ rfl)
              have e0 := bb.row 0 (by decide)
              have f0 := bb.fz 0 (by decide)
              have HBg := Hid.mk' (HBg.out.store rfl HKB.out (.slice (some ⟨Wd.heap.size, 0, none⟩) 0 c))
              go_simp
              refine hK.out _ _ HBg.out.ck (fun hHeld => ?_)
              clear hK K bb e0 f0
              generalize wm23.setCell ⟨wm18.heap.size, 0, none⟩ (.slice (some ⟨Wd.heap.size, 0, none⟩) 0 c) = wm24 at HBg hHeld ⊢
              (try simp only [Act.put, List.getElem_toArray, List.getElem_cons_succ, List.getElem_cons_zero, List.setIfInBounds_toArray, List.set_cons_succ, List.set_cons_zero])
              have bb := (HBg.out.b3 _ rfl)
              have e0 := bb.row 0 (by decide)
              have f0 := bb.fz 0 (by decide)
              have HLAI := Hid.mk' (HBg.out.lai rfl rfl rfl rfl HKB.out)
              clear bb
              refine wpAnyH_done (by kernel_rfl) ?_ _
              refine ahead_last rfl (fun K hK => ?_)
              go_simp
              refine hK _ _ ?_
              clear hK K
              go_wp2_with fail
              go_meet
              exact ⟨_, _, _, _, rfl, rfl, HLAI.out⟩
            exact AllReadyH.nil
          refine AllReadyH.cons (i := 6) (rs := []) rfl (fun K hK => ?_) ?_
          · have bb := (HBg.out.b2 _ rfl)
            have e0 := bb.row 0 (by decide)
            have f0 := bb.fz 0 (by decide)
            have HBg := Hid.mk' (HBg.out.store rfl HKB.out (.slice (some ⟨Wd.heap.size, 0, none⟩) 0 c))
            go_simp
            refine hK.out _ _ HBg.out.ck (fun hHeld => ?_)
            clear hK K bb e0 f0
            generalize wm22.setCell ⟨wm18.heap.size, 0, none⟩ (.slice (some ⟨Wd.heap.size, 0, none⟩) 0 c) = wm25 at HBg hHeld ⊢
            (try simp only [Act.put, List.getElem_toArray, List.getElem_cons_succ, List.getElem_cons_zero, List.setIfInBounds_toArray, List.set_cons_succ, List.set_cons_zero])
            refine wpAnyH_ready (rs := [3]) (by kernel_rfl) (by simp) ?_
            refine AllReadyH.cons (i := 3) (rs := []) rfl (fun K hK => ?_) ?_
            · refine tstep_make _ rfl _ _ _ rfl 3 i1 _ Tryd.underlying35 HINI.out.1 HINI.out.2.1 HINI.out.2.2.1 k1 rfl rfl (by rw [HINI.out.2.2.2]; omega) (by unfold maxLen; omega) ?_
              intro wm26 hown hgrow
              have HBg := Hid.mk' (HBg.out.add1 hown hgrow)
              refine hK.out _ _ HBg.out.ck (fun hHeld => ?_)
              clear hK K hown hgrow
              simp only [Act.put, List.getElem_toArray, List.getElem_cons_succ, List.getElem_cons_zero, List.setIfInBounds_toArray, List.set_cons_succ, List.set_cons_zero]
              have bb := (HBg.out.b3 _ rfl)
              have e0 := bb.row 0 (by decide)
              have f0 := bb.fz 0 (by decide)
              have HLAI := Hid.mk' (HBg.out.lai rfl rfl rfl rfl HKB.out)
              clear bb
              refine wpAnyH_done (by kernel_rfl) ?_ _
              refine ahead_last rfl (fun K hK => ?_)
              go_simp
              refine hK _ _ ?_
              clear hK K
              go_wp2_with fail
              go_meet
              exact ⟨_, _, _, _, rfl, rfl, HLAI.out⟩
            exact AllReadyH.nil
          exact AllReadyH.nil
        exact AllReadyH.nil
      exact AllReadyH.nil
    refine AllReadyH.cons (i := 3) (rs := [4, 5]) rfl (fun K hK => ?_) ?_
    · refine tstep_make _ rfl _ _ _ rfl 3 i1 _ Tryd.underlying35 HINI.out.1 HINI.out.2.1 HINI.out.2.2.1 k1 rfl rfl (by rw [HINI.out.2.2.2]; omega) (by unfold maxLen; omega) ?_
      intro wm27 hown hgrow
      have HBg := Hid.mk' (HBg.out.add1 hown hgrow)
      refine hK.out _ _ HBg.out.ck (fun hHeld => ?_)
      clear hK K hown hgrow
      simp only [Act.put, List.getElem_toArray, List.getElem_cons_succ, List.getElem_cons_zero, List.setIfInBounds_toArray, List.set_cons_succ, List.set_cons_zero]
      refine wpAnyH_ready (rs := [1, 4, 5]) (by kernel_rfl) (by simp) ?_
      refine AllReadyH.cons (i := 1) (rs := [4, 5]) rfl (fun K hK => ?_) ?_
      · refine tstep_room _ rfl _ _ _ rfl 35 i0 _ Tryd.underlying28 HINF.out.1 HINF.out.2.1 HINF.out.2.2.1 c rfl rfl (by rw [HINF.out.2.2.2]; omega) (by unfold maxLen; omega) ?_
        intro wm28 hown hgrow
        have HBg := Hid.mk' (HBg.out.add0 hown hgrow)
        refine hK.out _ _ HBg.out.ck (fun hHeld => ?_)
        clear hK K hown hgrow
        simp only [Act.put, List.getElem_toArray, List.getElem_cons_succ, List.getElem_cons_zero, List.setIfInBounds_toArray, List.set_cons_succ, List.set_cons_zero]
        refine wpAnyH_ready (rs := [4, 5]) (by kernel_rfl) (by simp) ?_
        refine AllReadyH.cons (i := 4) (rs := [5]) rfl (fun K hK => ?_) ?_
        · go_simp
          have HBg := Hid.mk' (HBg.out.add2 28)
          refine hK.out _ _ HBg.out.ck (fun hHeld => ?_)
          clear hK K
          generalize wm28.alloc (.cells #[.slice none 0 0] 28) = wm29 at HBg hHeld ⊢
          (try simp only [Act.put, List.getElem_toArray, List.getElem_cons_succ, List.getElem_cons_zero, List.setIfInBounds_toArray, List.set_cons_succ, List.set_cons_zero])
          refine wpAnyH_ready (rs := [5]) (by kernel_rfl) (by simp) ?_
          refine AllReadyH.cons (i := 5) (rs := []) rfl (fun K hK => ?_) ?_
          · go_simp
            have HBg := Hid.mk' (HBg.out.add3 35)
            refine hK.out _ _ HBg.out.ck (fun hHeld => ?_)
            clear hK K
            generalize wm29.alloc (.cells #[.slice none 0 0] 35) = wm30 at HBg hHeld ⊢
            (try simp only [Act.put, List.getElem_toArray, List.getElem_cons_succ, List.getElem_cons_zero, List.setIfInBounds_toArray, List.set_cons_succ, List.set_cons_zero])
            refine wpAnyH_ready (rs := [6]) (by kernel_rfl) (by simp) ?_
            refine AllReadyH.cons (i := 6) (rs := []) rfl (fun K hK => ?_) ?_
            · have bb := (HBg.out.b2 _ rfl)
              have e0 := bb.row 0 (by decide)
              have f0 := bb.fz 0 (by decide)
              have HBg := Hid.mk' (HBg.out.store rfl HKB.out (.slice (some ⟨wm27.heap.size, 0, none⟩) 0 c))
              go_simp
              refine hK.out _ _ HBg.out.ck (fun hHeld => ?_)
              clear hK K bb e0 f0
              generalize wm30.setCell ⟨wm28.heap.size, 0, none⟩ (.slice (some ⟨wm27.heap.size, 0, none⟩) 0 c) = wm31 at HBg hHeld ⊢
              (try simp only [Act.put, List.getElem_toArray, List.getElem_cons_succ, List.getElem_cons_zero, List.setIfInBounds_toArray, List.set_cons_succ, List.set_cons_zero])
              have bb := (HBg.out.b3 _ rfl)
              have e0 := bb.row 0 (by decide)
              have f0 := bb.fz 0 (by decide)
              have HLAI := Hid.mk' (HBg.out.lai rfl rfl rfl rfl HKB.out)
              clear bb
              refine wpAnyH_done (by kernel_rfl) ?_ _
              refine ahead_last rfl (fun K hK => ?_)
              go_simp
              refine hK _ _ ?_
              clear hK K
              go_wp2_with fail
              go_meet
              exact ⟨_, _, _, _, rfl, rfl, HLAI.out⟩
            exact AllReadyH.nil
          exact AllReadyH.nil
        refine AllReadyH.cons (i := 5) (rs := []) rfl (fun K hK => ?_) ?_
        · go_simp
          have HBg := Hid.mk' (HBg.out.add3 35)
          refine hK.out _ _ HBg.out.ck (fun hHeld => ?_)
          clear hK K
          generalize wm28.alloc (.cells #[.slice none 0 0] 35) = wm32 at HBg hHeld ⊢
          (try simp only [Act.put, List.getElem_toArray, List.getElem_cons_succ, List.getElem_cons_zero, List.setIfInBounds_toArray, List.set_cons_succ, List.set_cons_zero])
          refine wpAnyH_ready (rs := [4]) (by kernel_rfl) (by simp) ?_
          refine AllReadyH.cons (i := 4) (rs := []) rfl (fun K hK => ?_) ?_
          · go_simp
            have HBg := Hid.mk' (HBg.out.add2 28)
            refine hK.out _ _ HBg.out.ck (fun hHeld => ?_)
            clear hK K
            generalize wm32.alloc (.cells #[.slice none 0 0] 28) = wm33 at HBg hHeld ⊢
            (try simp only [Act.put, List.getElem_toArray, List.getElem_cons_succ, List.getElem_cons_zero, List.setIfInBounds_toArray, List.set_cons_succ, List.set_cons_zero])
            refine wpAnyH_ready (rs := [6]) (by kernel_rfl) (by simp) ?_
            refine AllReadyH.cons (i := 6) (rs := []) rfl (fun K hK => ?_) ?_
            · have bb := (HBg.out.b2 _ rfl)
              have e0 := bb.row 0 (by decide)
              have f0 := bb.fz 0 (by decide)
              have HBg := Hid.mk' (HBg.out.store rfl HKB.out (.slice (some ⟨wm27.heap.size, 0, none⟩) 0 c))
              go_simp
              refine hK.out _ _ HBg.out.ck (fun hHeld => ?_)
              clear hK K bb e0 f0
              generalize wm33.setCell ⟨wm32.heap.size, 0, none⟩ (.slice (some ⟨wm27.heap.size, 0, none⟩) 0 c) = wm34 at HBg hHeld ⊢
              (try simp only [Act.put, List.getElem_toArray, List.getElem_cons_succ, List.getElem_cons_zero, List.setIfInBounds_toArray, List.set_cons_succ, List.set_cons_zero])
              have bb := (HBg.out.b3 _ rfl)
              have e0 := bb.row 0 (by decide)
              have f0 := bb.fz 0 (by decide)
              have HLAI := Hid.mk' (HBg.out.lai rfl rfl rfl rfl HKB.out)
              clear bb
              refine wpAnyH_done (by kernel_rfl) ?_ _
              refine ahead_last rfl (fun K hK => ?_)
              go_simp
              refine hK _ _ ?_
              clear hK K
              go_wp2_with fail
              go_meet
              exact ⟨_, _, _, _, rfl, rfl, HLAI.out⟩
            exact AllReadyH.nil
          exact AllReadyH.nil
        exact AllReadyH.nil
      refine AllReadyH.cons (i := 4) (rs := [5]) rfl (fun K hK => ?_) ?_
      · go_simp
        have HBg := Hid.mk' (HBg.out.add2 28)
        refine hK.out _ _ HBg.out.ck (fun hHeld => ?_)
        clear hK K
        generalize wm27.alloc (.cells #[.slice none 0 0] 28) = wm35 at HBg hHeld ⊢
        (try simp only [Act.put, List.getElem_toArray, List.getElem_cons_succ, List.getElem_cons_zero, List.setIfInBounds_toArray, List.set_cons_succ, List.set_cons_zero])
        refine wpAnyH_ready (rs := [1, 5]) (by kernel_rfl) (by simp) ?_
        refine AllReadyH.cons (i := 1) (rs := [5]) rfl (fun K hK => ?_) ?_
        · refine tstep_room _ rfl _ _ _ rfl 35 i0 _ Tryd.underlying28 HINF.out.1 HINF.out.2.1 HINF.out.2.2.1 c rfl rfl (by rw [HINF.out.2.2.2]; omega) (by unfold maxLen; omega) ?_
          intro wm36 hown hgrow
          have HBg := Hid.mk' (HBg.out.add0 hown hgrow)
          refine hK.out _ _ HBg.out.ck (fun hHeld => ?_)
          clear hK K hown hgrow
          simp only [Act.put, List.getElem_toArray, List.getElem_cons_succ, List.getElem_cons_zero, List.setIfInBounds_toArray, List.set_cons_succ, List.set_cons_zero]
          refine wpAnyH_ready (rs := [5]) (by kernel_rfl) (by simp) ?_
          refine AllReadyH.cons (i := 5) (rs := []) rfl (fun K hK => ?_) ?_
          · go_simp
            have HBg := Hid.mk' (HBg.out.add3 35)
            refine hK.out _ _ HBg.out.ck (fun hHeld => ?_)
            clear hK K
            generalize wm36.alloc (.cells #[.slice none 0 0] 35) = wm37 at HBg hHeld ⊢
            (try simp only [Act.put, List.getElem_toArray, List.getElem_cons_succ, List.getElem_cons_zero, List.setIfInBounds_toArray, List.set_cons_succ, List.set_cons_zero])
            refine wpAnyH_ready (rs := [6]) (by kernel_rfl) (by simp) ?_
            refine AllReadyH.cons (i := 6) (rs := []) rfl (fun K hK => ?_) ?_
            · have bb := (HBg.out.b2 _ rfl)
              have e0 := bb.row 0 (by decide)
              have f0 := bb.fz 0 (by decide)
              have HBg := Hid.mk' (HBg.out.store rfl HKB.out (.slice (some ⟨wm35.heap.size, 0, none⟩) 0 c))
              go_simp
              refine hK.out _ _ HBg.out.ck (fun hHeld => ?_)
              clear hK K bb e0 f0
              generalize wm37.setCell ⟨wm27.heap.size, 0, none⟩ (.slice (some ⟨wm35.heap.size, 0, none⟩) 0 c) = wm38 at HBg hHeld ⊢
              (try simp only [Act.put, List.getElem_toArray, List.getElem_cons_succ, List.getElem_cons_zero, List.setIfInBounds_toArray, List.set_cons_succ, List.set_cons_zero])
              have bb := (HBg.out.b3 _ rfl)
              have e0 := bb.row 0 (by decide)
              have f0 := bb.fz 0 (by decide)
              have HLAI := Hid.mk' (HBg.out.lai rfl rfl rfl rfl HKB.out)
              clear bb
              refine wpAnyH_done (by kernel_rfl) ?_ _
              refine ahead_last rfl (fun K hK => ?_)
              go_simp
              refine hK _ _ ?_
              clear hK K
              go_wp2_with fail
              go_meet
              exact ⟨_, _, _, _, rfl, rfl, HLAI.out⟩
            exact AllReadyH.nil
          exact AllReadyH.nil
        refine AllReadyH.cons (i := 5) (rs := []) rfl (fun K hK => ?_) ?_
        · go_simp
          have HBg := Hid.mk' (HBg.out.add3 35)
          refine hK.out _ _ HBg.out.ck (fun hHeld => ?_)
          clear hK K
          generalize wm35.alloc (.cells #[.slice none 0 0] 35) = wm39 at HBg hHeld ⊢
          (try simp only [Act.put, List.getElem_toArray, List.getElem_cons_succ, List.getElem_cons_zero, List.setIfInBounds_toArray, List.set_cons_succ, List.set_cons_zero])
          refine wpAnyH_ready (rs := [1]) (by kernel_rfl) (by simp) ?_
          refine AllReadyH.cons (i := 1) (rs := []) rfl (fun K hK => ?_) ?_
          · refine tstep_room _ rfl _ _ _ rfl 35 i0 _ Tryd.underlying28 HINF.out.1 HINF.out.2.1 HINF.out.2.2.1 c rfl rfl (by rw [HINF.out.2.2.2]; omega) (by unfold maxLen; omega) ?_
            intro wm40 hown hgrow
            have HBg := Hid.mk' (HBg.out.add0 hown hgrow)
            refine hK.out _ _ HBg.out.ck (fun hHeld => ?_)
            clear hK K hown hgrow
            simp only [Act.put, List.getElem_toArray, List.getElem_cons_succ, List.getElem_cons_zero, List.setIfInBounds_toArray, List.set_cons_succ, List.set_cons_zero]
            refine wpAnyH_ready (rs := [6]) (by kernel_rfl) (by simp) ?_
            refine AllReadyH.cons (i := 6) (rs := []) rfl (fun K hK => ?_) ?_
            · have bb := (HBg.out.b2 _ rfl)
              have e0 := bb.row 0 (by decide)
              have f0 := bb.fz 0 (by decide)
              have HBg := Hid.mk' (HBg.out.store rfl HKB.out (.slice (some ⟨wm39.heap.size, 0, none⟩) 0 c))
              go_simp
              refine hK.out _ _ HBg.out.ck (fun hHeld => ?_)
              clear hK K bb e0 f0
              generalize wm40.setCell ⟨wm27.heap.size, 0, none⟩ (.slice (some ⟨wm39.heap.size, 0, none⟩) 0 c) = wm41 at HBg hHeld ⊢
              (try simp only [Act.put, List.getElem_toArray, List.getElem_cons_succ, List.getElem_cons_zero, List.setIfInBounds_toArray, List.set_cons_succ, List.set_cons_zero])
              have bb := (HBg.out.b3 _ rfl)
              have e0 := bb.row 0 (by decide)
              have f0 := bb.fz 0 (by decide)
              have HLAI := Hid.mk' (HBg.out.lai rfl rfl rfl rfl HKB.out)
              clear bb
              refine wpAnyH_done (by kernel_rfl) ?_ _
              refine ahead_last rfl (fun K hK => ?_)
              go_simp
              refine hK _ _ ?_
              clear hK K
              go_wp2_with fail
              go_meet
              exact ⟨_, _, _, _, rfl, rfl, HLAI.out⟩
            exact AllReadyH.nil
          exact AllReadyH.nil
        exact AllReadyH.nil
      refine AllReadyH.cons (i := 5) (rs := []) rfl (fun K hK => ?_) ?_
      · go_simp
        have HBg := Hid.mk' (HBg.out.add3 35)
        refine hK.out _ _ HBg.out.ck (fun hHeld => ?_)
        clear hK K
        generalize wm27.alloc (.cells #[.slice none 0 0] 35) = wm42 at HBg hHeld ⊢
        (try simp only [Act.put, List.getElem_toArray, List.getElem_cons_succ, List.getElem_cons_zero, List.setIfInBounds_toArray, List.set_cons_succ, List.set_cons_zero])
        refine wpAnyH_ready (rs := [1, 4]) (by kernel_rfl) (by simp) ?_
        refine AllReadyH.cons (i := 1) (rs := [4]) rfl (fun K hK => ?_) ?_
        · refine tstep_room _ rfl _ _ _ rfl 35 i0 _ Tryd.underlying28 HINF.out.1 HINF.out.2.1 HINF.out.2.2.1 c rfl rfl (by rw [HINF.out.2.2.2]; omega) (by unfold maxLen; omega) ?_
          intro wm43 hown hgrow
          have HBg := Hid.mk' (HBg.out.add0 hown hgrow)
          refine hK.out _ _ HBg.out.ck (fun hHeld => ?_)
          clear hK K hown hgrow
          simp only [Act.put, List.getElem_toArray, List.getElem_cons_succ, List.getElem_cons_zero, List.setIfInBounds_toArray, List.set_cons_succ, List.set_cons_zero]
          refine wpAnyH_ready (rs := [4]) (by kernel_rfl) (by simp) ?_
          refine AllReadyH.cons (i := 4) (rs := []) rfl (fun K hK => ?_) ?_
          · go_simp
            have HBg := Hid.mk' (HBg.out.add2 28)
            refine hK.out _ _ HBg.out.ck (fun hHeld => ?_)
            clear hK K
            generalize wm43.alloc (.cells #[.slice none 0 0] 28) = wm44 at HBg hHeld ⊢
            (try simp only [Act.put, List.getElem_toArray, List.getElem_cons_succ, List.getElem_cons_zero, List.setIfInBounds_toArray, List.set_cons_succ, List.set_cons_zero])
            refine wpAnyH_ready (rs := [6]) (by kernel_rfl) (by simp) ?_
            refine AllReadyH.cons (i := 6) (rs := []) rfl (fun K hK => ?_) ?_
            · have bb := (HBg.out.b2 _ rfl)
              have e0 := bb.row 0 (by decide)
              have f0 := bb.fz 0 (by decide)
              have HBg := Hid.mk' (HBg.out.store rfl HKB.out (.slice (some ⟨wm42.heap.size, 0, none⟩) 0 c))
              go_simp
              refine hK.out _ _ HBg.out.ck (fun hHeld => ?_)
              clear hK K bb e0 f0
              generalize wm44.setCell ⟨wm43.heap.size, 0, none⟩ (.slice (some ⟨wm42.heap.size, 0, none⟩) 0 c) = wm45 at HBg hHeld ⊢
              (try simp only [Act.put, List.getElem_toArray, List.getElem_cons_succ, List.getElem_cons_zero, List.setIfInBounds_toArray, List.set_cons_succ, List.set_cons_zero])
              have bb := (HBg.out.b3 _ rfl)
              have e0 := bb.row 0 (by decide)
              have f0 := bb.fz 0 (by decide)
              have HLAI := Hid.mk' (HBg.out.lai rfl rfl rfl rfl HKB.out)
              clear bb
              refine wpAnyH_done (by kernel_rfl) ?_ _
              refine ahead_last rfl (fun K hK => ?_)
              go_simp
              refine hK _ _ ?_
              clear hK K
              go_wp2_with fail
              go_meet
              exact ⟨_, _, _, _, rfl, rfl, HLAI.out⟩
            exact AllReadyH.nil
          exact AllReadyH.nil
        refine AllReadyH.cons (i := 4) (rs := []) rfl (fun K hK => ?_) ?_
        · go_simp
          have HBg := Hid.mk' (HBg.out.add2 28)
          refine hK.out _ _ HBg.out.ck (fun hHeld => ?_)
          clear hK K
          generalize wm42.alloc (.cells #[.slice none 0 0] 28) = wm46 at HBg hHeld ⊢
          (try simp only [Act.put, List.getElem_toArray, List.getElem_cons_succ, List.getElem_cons_zero, List.setIfInBounds_toArray, List.set_cons_succ, List.set_cons_zero])
          refine wpAnyH_ready (rs := [1]) (by kernel_rfl) (by simp) ?_
          refine AllReadyH.cons (i := 1) (rs := []) rfl (fun K hK => ?_) ?_
          · refine tstep_room _ rfl _ _ _ rfl 35 i0 _ Tryd.underlying28 HINF.out.1 HINF.out.2.1 HINF.out.2.2.1 c rfl rfl (by rw [HINF.out.2.2.2]; omega) (by unfold maxLen; omega) ?_
            intro wm47 hown hgrow
            have HBg := Hid.mk' (HBg.out.add0 hown hgrow)
            refine hK.out _ _ HBg.out.ck (fun hHeld => ?_)
            clear hK K hown hgrow
            simp only [Act.put, List.getElem_toArray, List.getElem_cons_succ, List.getElem_cons_zero, List.setIfInBounds_toArray, List.set_cons_succ, List.set_cons_zero]
            refine wpAnyH_ready (rs := [6]) (by kernel_rfl) (by simp) ?_
            refine AllReadyH.cons (i := 6) (rs := []) rfl (fun K hK => ?_) ?_
            · have bb := (HBg.out.b2 _ rfl)
              have e0 := bb.row 0 (by decide)
              have f0 := bb.fz 0 (by decide)
              have HBg := Hid.mk' (HBg.out.store rfl HKB.out (.slice (some ⟨wm46.heap.size, 0, none⟩) 0 c))
              go_simp
              refine hK.out _ _ HBg.out.ck (fun hHeld => ?_)
              clear hK K bb e0 f0
              generalize wm47.setCell ⟨wm42.heap.size, 0, none⟩ (.slice (some ⟨wm46.heap.size, 0, none⟩) 0 c) = wm48 at HBg hHeld ⊢
              (try simp only [Act.put, List.getElem_toArray, List.getElem_cons_succ, List.getElem_cons_zero, List.setIfInBounds_toArray, List.set_cons_succ, List.set_cons_zero])
              have bb := (HBg.out.b3 _ rfl)
              have e0 := bb.row 0 (by decide)
              have f0 := bb.fz 0 (by decide)
              have HLAI := Hid.mk' (HBg.out.lai rfl rfl rfl rfl HKB.out)
              clear bb
              refine wpAnyH_done (by kernel_rfl) ?_ _
              refine ahead_last rfl (fun K hK => ?_)
              go_simp
              refine hK _ _ ?_
              clear hK K
              go_wp2_with fail
              go_meet
              exact ⟨_, _, _, _, rfl, rfl, HLAI.out⟩
            exact AllReadyH.nil
          exact AllReadyH.nil
        exact AllReadyH.nil
      exact AllReadyH.nil
    refine AllReadyH.cons (i := 4) (rs := [5]) rfl (fun K hK => ?_) ?_
    · go_simp
      have HBg := Hid.mk' (HBg.out.add2 28)
      refine hK.out _ _ HBg.out.ck (fun hHeld => ?_)
      clear hK K
      generalize Wd.alloc (.cells #[.slice none 0 0] 28) = wm49 at HBg hHeld ⊢
      (try simp only [Act.put, List.getElem_toArray, List.getElem_cons_succ, List.getElem_cons_zero, List.setIfInBounds_toArray, List.set_cons_succ, List.set_cons_zero])
      refine wpAnyH_ready (rs := [1, 3, 5]) (by kernel_rfl) (by simp) ?_
      refine AllReadyH.cons (i := 1) (rs := [3, 5]) rfl (fun K hK => ?_) ?_
      · refine tstep_room _ rfl _ _ _ rfl 35 i0 _ Tryd.underlying28 HINF.out.1 HINF.out.2.1 HINF.out.2.2.1 c rfl rfl (by rw [HINF.out.2.2.2]; omega) (by unfold maxLen; omega) ?_
        intro wm50 hown hgrow
        have HBg := Hid.mk' (HBg.out.add0 hown hgrow)
        refine hK.out _ _ HBg.out.ck (fun hHeld => ?_)
        clear hK K hown hgrow
        simp only [Act.put, List.getElem_toArray, List.getElem_cons_succ, List.getElem_cons_zero, List.setIfInBounds_toArray, List.set_cons_succ, List.set_cons_zero]
        refine wpAnyH_ready (rs := [3, 5]) (by kernel_rfl) (by simp) ?_
        refine AllReadyH.cons (i := 3) (rs := [5]) rfl (fun K hK => ?_) ?_
        · refine tstep_make _ rfl _ _ _ rfl 3 i1 _ Tryd.underlying35 HINI.out.1 HINI.out.2.1 HINI.out.2.2.1 k1 rfl rfl (by rw [HINI.out.2.2.2]; omega) (by unfold maxLen; omega) ?_
          intro wm51 hown hgrow
          have HBg := Hid.mk' (HBg.out.add1 hown hgrow)
          refine hK.out _ _ HBg.out.ck (fun hHeld => ?_)
          clear hK K hown hgrow
          simp only [Act.put, List.getElem_toArray, List.getElem_cons_succ, List.getElem_cons_zero, List.setIfInBounds_toArray, List.set_cons_succ, List.set_cons_zero]
          refine wpAnyH_ready (rs := [5]) (by kernel_rfl) (by simp) ?_
          refine AllReadyH.cons (i := 5) (rs := []) rfl (fun K hK => ?_) ?_
          · go_simp
            have HBg := Hid.mk' (HBg.out.add3 35)
            refine hK.out _ _ HBg.out.ck (fun hHeld => ?_)
            clear hK K
            generalize wm51.alloc (.cells #[.slice none 0 0] 35) = wm52 at HBg hHeld ⊢
            (try simp only [Act.put, List.getElem_toArray, List.getElem_cons_succ, List.getElem_cons_zero, List.setIfInBounds_toArray, List.set_cons_succ, List.set_cons_zero])
            refine wpAnyH_ready (rs := [6]) (by kernel_rfl) (by simp) ?_
            refine AllReadyH.cons (i := 6) (rs := []) rfl (fun K hK => ?_) ?_
            · have bb := (HBg.out.b2 _ rfl)
              have e0 := bb.row 0 (by decide)
              have f0 := bb.fz 0 (by decide)
              have HBg := Hid.mk' (HBg.out.store rfl HKB.out (.slice (some ⟨wm49.heap.size, 0, none⟩) 0 c))
              go_simp
              refine hK.out _ _ HBg.out.ck (fun hHeld => ?_)
              clear hK K bb e0 f0
              generalize wm52.setCell ⟨Wd.heap.size, 0, none⟩ (.slice (some ⟨wm49.heap.size, 0, none⟩) 0 c) = wm53 at HBg hHeld ⊢
              (try simp only [Act.put, List.getElem_toArray, List.getElem_cons_succ, List.getElem_cons_zero, List.setIfInBounds_toArray, List.set_cons_succ, List.set_cons_zero])
              have bb := (HBg.out.b3 _ rfl)
              have e0 := bb.row 0 (by decide)
              have f0 := bb.fz 0 (by decide)
              have HLAI := Hid.mk' (HBg.out.lai rfl rfl rfl rfl HKB.out)
              clear bb
              refine wpAnyH_done (by kernel_rfl) ?_ _
              refine ahead_last rfl (fun K hK => ?_)
              go_simp
              refine hK _ _ ?_
              clear hK K
              go_wp2_with fail
              go_meet
              exact ⟨_, _, _, _, rfl, rfl, HLAI.out⟩
            exact AllReadyH.nil
          exact AllReadyH.nil
        refine AllReadyH.cons (i := 5) (rs := []) rfl (fun K hK => ?_) ?_
        · go_simp
          have HBg := Hid.mk' (HBg.out.add3 35)
          refine hK.out _ _ HBg.out.ck (fun hHeld => ?_)
          clear hK K
          generalize wm50.alloc (.cells #[.slice none 0 0] 35) = wm54 at HBg hHeld ⊢
          (try simp only [Act.put, List.getElem_toArray, List.getElem_cons_succ, List.getElem_cons_zero, List.setIfInBounds_toArray, List.set_cons_succ, List.set_cons_zero])
          refine wpAnyH_ready (rs := [3, 6]) (by kernel_rfl) (by simp) ?_
          refine AllReadyH.cons (i := 3) (rs := [6]) rfl (fun K hK => ?_) ?_
          · refine tstep_make _ rfl _ _ _ rfl 3 i1 _ Tryd.underlying35 HINI.out.1 HINI.out.2.1 HINI.out.2.2.1 k1 rfl rfl (by rw [HINI.out.2.2.2]; omega) (by unfold maxLen; omega) ?_
            intro wm55 hown hgrow
            have HBg := Hid.mk' (HBg.out.add1 hown hgrow)
            refine hK.out _ _ HBg.out.ck (fun hHeld => ?_)
            clear hK K hown hgrow
            simp only [Act.put, List.getElem_toArray, List.getElem_cons_succ, List.getElem_cons_zero, List.setIfInBounds_toArray, List.set_cons_succ, List.set_cons_zero]
            refine wpAnyH_ready (rs := [6]) (by kernel_rfl) (by simp) ?_
            refine AllReadyH.cons (i := 6) (rs := []) rfl (fun K hK => ?_) ?_
            · have bb := (HBg.out.b2 _ rfl)
              have e0 := bb.row 0 (by decide)
              have f0 := bb.fz 0 (by decide)
              have HBg := Hid.mk' (HBg.out.store rfl HKB.out (.slice (some ⟨wm49.heap.size, 0, none⟩) 0 c))
              go_simp
              refine hK.out _ _ HBg.out.ck (fun hHeld => ?_)
              clear hK K bb e0 f0
              generalize wm55.setCell ⟨Wd.heap.size, 0, none⟩ (.slice (some ⟨wm49.heap.size, 0, none⟩) 0 c) = wm56 at HBg hHeld ⊢
              (try simp only [Act.put, List.getElem_toArray, List.getElem_cons_succ, List.getElem_cons_zero, List.setIfInBounds_toArray, List.set_cons_succ, List.set_cons_zero])
              have bb := (HBg.out.b3 _ rfl)
              have e0 := bb.row 0 (by decide)
              have f0 := bb.fz 0 (by decide)
              have HLAI := Hid.mk' (HBg.out.lai rfl rfl rfl rfl HKB.out)
              clear bb
              refine wpAnyH_done (by kernel_rfl) ?_ _
              refine ahead_last rfl (fun K hK => ?_)
              go_simp
              refine hK _ _ ?_
              clear hK K
              go_wp2_with fail
              go_meet
              exact ⟨_, _, _, _, rfl, rfl, HLAI.out⟩
            exact AllReadyH.nil
          refine AllReadyH.cons (i := 6) (rs := []) rfl (fun K hK => ?_) ?_
          · have bb := (HBg.out.b2 _ rfl)
            have e0 := bb.row 0 (by decide)
            have f0 := bb.fz 0 (by decide)
            have HBg := Hid.mk' (HBg.out.store rfl HKB.out (.slice (some ⟨wm49.heap.size, 0, none⟩) 0 c))
            go_simp
            refine hK.out _ _ HBg.out.ck (fun hHeld => ?_)
            clear hK K bb e0 f0
            generalize wm54.setCell ⟨Wd.heap.size, 0, none⟩ (.slice (some ⟨wm49.heap.size, 0, none⟩) 0 c) = wm57 at HBg hHeld ⊢
            (try simp only [Act.put, List.getElem_toArray, List.getElem_cons_succ, List.getElem_cons_zero, List.setIfInBounds_toArray, List.set_cons_succ, List.set_cons_zero])
            refine wpAnyH_ready (rs := [3]) (by kernel_rfl) (by simp) ?_
            refine AllReadyH.cons (i := 3) (rs := []) rfl (fun K hK => ?_) ?_
            · refine tstep_make _ rfl _ _ _ rfl 3 i1 _ Tryd.underlying35 HINI.out.1 HINI.out.2.1 HINI.out.2.2.1 k1 rfl rfl (by rw [HINI.out.2.2.2]; omega) (by unfold maxLen; omega) ?_
              intro wm58 hown hgrow
              have HBg := Hid.mk' (HBg.out.add1 hown hgrow)
              refine hK.out _ _ HBg.out.ck (fun hHeld => ?_)
              clear hK K hown hgrow
              simp only [Act.put, List.getElem_toArray, List.getElem_cons_succ, List.getElem_cons_zero, List.setIfInBounds_toArray, List.set_cons_succ, List.set_cons_zero]
              have bb := (HBg.out.b3 _ rfl)
              have e0 := bb.row 0 (by decide)
              have f0 := bb.fz 0 (by decide)
              have HLAI := Hid.mk' (HBg.out.lai rfl rfl rfl rfl HKB.out)
              clear bb
              refine wpAnyH_done (by kernel_rfl) ?_ _
              refine ahead_last rfl (fun K hK => ?_)
              go_simp
              refine hK _ _ ?_
              clear hK K
              go_wp2_with fail
              go_meet
              exact ⟨_, _, _, _, rfl, rfl, HLAI.out⟩
            exact AllReadyH.nil
          exact AllReadyH.nil
        exact AllReadyH.nil
      refine AllReadyH.cons (i := 3) (rs := [5]) rfl (fun K hK => ?_) ?_
      · refine tstep_make _ rfl _ _ _ rfl 3 i1 _ Tryd.underlying35 HINI.out.1 HINI.out.2.1 HINI.out.2.2.1 k1 rfl rfl (by rw [HINI.out.2.2.2]; omega) (by unfold maxLen; omega) ?_
        intro wm59 hown hgrow
        have HBg := Hid.mk' (HBg.out.add1 hown hgrow)
        refine hK.out _ _ HBg.out.ck (fun hHeld => ?_)
        clear hK K hown hgrow
        simp only [Act.put, List.getElem_toArray, List.getElem_cons_succ, List.getElem_cons_zero, List.setIfInBounds_toArray, List.set_cons_succ, List.set_cons_zero]
        refine wpAnyH_ready (rs := [1, 5]) (by kernel_rfl) (by simp) ?_
        refine AllReadyH.cons (i := 1) (rs := [5]) rfl (fun K hK => ?_) ?_
        · refine tstep_room _ rfl _ _ _ rfl 35 i0 _ Tryd.underlying28 HINF.out.1 HINF.out.2.1 HINF.out.2.2.1 c rfl rfl (by rw [HINF.out.2.2.2]; omega) (by unfold maxLen; omega) ?_
          intro wm60 hown hgrow
          have HBg := Hid.mk' (HBg.out.add0 hown hgrow)
          refine hK.out _ _ HBg.out.ck (fun hHeld => ?_)
          clear hK K hown hgrow
          simp only [Act.put, List.getElem_toArray, List.getElem_cons_succ, List.getElem_cons_zero, List.setIfInBounds_toArray, List.set_cons_succ, List.set_cons_zero]
          refine wpAnyH_ready (rs := [5]) (by kernel_rfl) (by simp) ?_
          refine AllReadyH.cons (i := 5) (rs := []) rfl (fun K hK => ?_) ?_
          · go_simp
            have HBg := Hid.mk' (HBg.out.add3 35)
            refine hK.out _ _ HBg.out.ck (fun hHeld => ?_)
            clear hK K
            generalize wm60.alloc (.cells #[.slice none 0 0] 35) = wm61 at HBg hHeld ⊢
            (try simp only [Act.put, List.getElem_toArray, List.getElem_cons_succ, List.getElem_cons_zero, List.setIfInBounds_toArray, List.set_cons_succ, List.set_cons_zero])
            refine wpAnyH_ready (rs := [6]) (by kernel_rfl) (by simp) ?_
            refine AllReadyH.cons (i := 6) (rs := []) rfl (fun K hK => ?_) ?_
            · have bb := (HBg.out.b2 _ rfl)
              have e0 := bb.row 0 (by decide)
              have f0 := bb.fz 0 (by decide)
              have HBg := Hid.mk' (HBg.out.store rfl HKB.out (.slice (some ⟨wm59.heap.size, 0, none⟩) 0 c))
              go_simp
              refine hK.out _ _ HBg.out.ck (fun hHeld => ?_)
              clear hK K bb e0 f0
              generalize wm61.setCell ⟨Wd.heap.size, 0, none⟩ (.slice (some ⟨wm59.heap.size, 0, none⟩) 0 c) = wm62 at HBg hHeld ⊢
              (try simp only [Act.put, List.getElem_toArray, List.getElem_cons_succ, List.getElem_cons_zero, List.setIfInBounds_toArray, List.set_cons_succ, List.set_cons_zero])
              have bb := (HBg.out.b3 _ rfl)
              have e0 := bb.row 0 (by decide)
              have f0 := bb.fz 0 (by decide)
              have HLAI := Hid.mk' (HBg.out.lai rfl rfl rfl rfl HKB.out)
              clear bb
              refine wpAnyH_done (by kernel_rfl) ?_ _
              refine ahead_last rfl (fun K hK => ?_)
              go_simp
              refine hK _ _ ?_
              clear hK K
              go_wp2_with fail
              go_meet
              exact ⟨_, _, _, _, rfl, rfl, HLAI.out⟩
            exact AllReadyH.nil
          exact AllReadyH.nil
        refine AllReadyH.cons (i := 5) (rs := []) rfl (fun K hK => ?_) ?_
        · go_simp
          have HBg := Hid.mk' (HBg.out.add3 35)
          refine hK.out _ _ HBg.out.ck (fun hHeld => ?_)
          clear hK K
          generalize wm59.alloc (.cells #[.slice none 0 0] 35) = wm63 at HBg hHeld ⊢
          (try simp only [Act.put, List.getElem_toArray, List.getElem_cons_succ, List.getElem_cons_zero, List.setIfInBounds_toArray, List.set_cons_succ, List.set_cons_zero])
          refine wpAnyH_ready (rs := [1]) (by kernel_rfl) (by simp) ?_
          refine AllReadyH.cons (i := 1) (rs := []) rfl (fun K hK => ?_) ?_
          · refine tstep_room _ rfl _ _ _ rfl 35 i0 _ Tryd.underlying28 HINF.out.1 HINF.out.2.1 HINF.out.2.2.1 c rfl rfl (by rw [HINF.out.2.2.2]; omega) (by unfold maxLen; omega) ?_
            intro wm64 hown hgrow
            have HBg := Hid.mk' (HBg.out.add0 hown hgrow)
            refine hK.out _ _ HBg.out.ck (fun hHeld => ?_)
            clear hK K hown hgrow
            simp only [Act.put, List.getElem_toArray, List.getElem_cons_succ, List.getElem_cons_zero, List.setIfInBounds_toArray, List.set_cons_succ, List.set_cons_zero]
            refine wpAnyH_ready (rs := [6]) (by kernel_rfl) (by simp) ?_
            refine AllReadyH.cons (i := 6) (rs := []) rfl (fun K hK => ?_) ?_
            · have bb := (HBg.out.b2 _ rfl)
              have e0 := bb.row 0 (by decide)
              have f0 := bb.fz 0 (by decide)
              have HBg := Hid.mk' (HBg.out.store rfl HKB.out (.slice (some ⟨wm63.heap.size, 0, none⟩) 0 c))
              go_simp
              refine hK.out _ _ HBg.out.ck (fun hHeld => ?_)
              clear hK K bb e0 f0
              generalize wm64.setCell ⟨Wd.heap.size, 0, none⟩ (.slice (some ⟨wm63.heap.size, 0, none⟩) 0 c) = wm65 at HBg hHeld ⊢
              (try simp only [Act.put, List.getElem_toArray, List.getElem_cons_succ, List.getElem_cons_zero, List.setIfInBounds_toArray, List.set_cons_succ, List.set_cons_zero])
              have bb := (HBg.out.b3 _ rfl)
              have e0 := bb.row 0 (by decide)
              have f0 := bb.fz 0 (by decide)
              have HLAI := Hid.mk' (HBg.out.lai rfl rfl rfl rfl HKB.out)
              clear bb
              refine wpAnyH_done (by kernel_rfl) ?_ _
              refine ahead_last rfl (fun K hK => ?_)
              go_simp
              refine hK _ _ ?_
              clear hK K
              go_wp2_with fail
              go_meet
              exact ⟨_, _, _, _, rfl, rfl, HLAI.out⟩
            exact AllReadyH.nil
          exact AllReadyH.nil
        exact AllReadyH.nil
      refine AllReadyH.cons (i := 5) (rs := []) rfl (fun K hK => ?_) ?_
      · go_simp
        have HBg := Hid.mk' (HBg.out.add3 35)
        refine hK.out _ _ HBg.out.ck (fun hHeld => ?_)
        clear hK K
        generalize wm49.alloc (.cells #[.slice none 0 0] 35) = wm66 at HBg hHeld ⊢
        (try simp only [Act.put, List.getElem_toArray, List.getElem_cons_succ, List.getElem_cons_zero, List.setIfInBounds_toArray, List.set_cons_succ, List.set_cons_zero])
        refine wpAnyH_ready (rs := [1, 3]) (by kernel_rfl) (by simp) ?_
        refine AllReadyH.cons (i := 1) (rs := [3]) rfl (fun K hK => ?_) ?_
        · refine tstep_room _ rfl _ _ _ rfl 35 i0 _ Tryd.underlying28 HINF.out.1 HINF.out.2.1 HINF.out.2.2.1 c rfl rfl (by rw [HINF.out.2.2.2]; omega) (by unfold maxLen; omega) ?_
          intro wm67 hown hgrow
          have HBg := Hid.mk' (HBg.out.add0 hown hgrow)
          refine hK.out _ _ HBg.out.ck (fun hHeld => ?_)
          clear hK K hown hgrow
          simp only [Act.put, List.getElem_toArray, List.getElem_cons_succ, List.getElem_cons_zero, List.setIfInBounds_toArray, List.set_cons_succ, List.set_cons_zero]
          refine wpAnyH_ready (rs := [3, 6]) (by kernel_rfl) (by simp) ?_
          refine AllReadyH.cons (i := 3) (rs := [6]) rfl (fun K hK => ?_) ?_
          · refine tstep_make _ rfl _ _ _ rfl 3 i1 _ Tryd.underlying35 HINI.out.1 HINI.out.2.1 HINI.out.2.2.1 k1 rfl rfl (by rw [HINI.out.2.2.2]; omega) (by unfold maxLen; omega) ?_
            intro wm68 hown hgrow
            have HBg := Hid.mk' (HBg.out.add1 hown hgrow)
            refine hK.out _ _ HBg.out.ck (fun hHeld => ?_)
            clear hK K hown hgrow
            simp only [Act.put, List.getElem_toArray, List.getElem_cons_succ, List.getElem_cons_zero, List.setIfInBounds_toArray, List.set_cons_succ, List.set_cons_zero]
            refine wpAnyH_ready (rs := [6]) (by kernel_rfl) (by simp) ?_
            refine AllReadyH.cons (i := 6) (rs := []) rfl (fun K hK => ?_) ?_
            · have bb := (HBg.out.b2 _ rfl)
              have e0 := bb.row 0 (by decide)
              have f0 := bb.fz 0 (by decide)
              have HBg := Hid.mk' (HBg.out.store rfl HKB.out (.slice (some ⟨wm66.heap.size, 0, none⟩) 0 c))
              go_simp
              refine hK.out _ _ HBg.out.ck (fun hHeld => ?_)
              clear hK K bb e0 f0
              generalize wm68.setCell ⟨Wd.heap.size, 0, none⟩ (.slice (some ⟨wm66.heap.size, 0, none⟩) 0 c) = wm69 at HBg hHeld ⊢
              (try simp only [Act.put, List.getElem_toArray, List.getElem_cons_succ, List.getElem_cons_zero, List.setIfInBounds_toArray, List.set_cons_succ, List.set_cons_zero])
              have bb := (HBg.out.b3 _ rfl)
              have e0 := bb.row 0 (by decide)
              have f0 := bb.fz 0 (by decide)
              have HLAI := Hid.mk' (HBg.out.lai rfl rfl rfl rfl HKB.out)
              clear bb
              refine wpAnyH_done (by kernel_rfl) ?_ _
              refine ahead_last rfl (fun K hK => ?_)
              go_simp
              refine hK _ _ ?_
              clear hK K
              go_wp2_with fail
              go_meet
              exact ⟨_, _, _, _, rfl, rfl, HLAI.out⟩
            exact AllReadyH.nil
          refine AllReadyH.cons (i := 6) (rs := []) rfl (fun K hK => ?_) ?_
          · have bb := (HBg.out.b2 _ rfl)
            have e0 := bb.row 0 (by decide)
            have f0 := bb.fz 0 (by decide)
            have HBg := Hid.mk' (HBg.out.store rfl HKB.out (.slice (some ⟨wm66.heap.size, 0, none⟩) 0 c))
            go_simp
            refine hK.out _ _ HBg.out.ck (fun hHeld => ?_)
            clear hK K bb e0 f0
            generalize wm67.setCell ⟨Wd.heap.size, 0, none⟩ (.slice (some ⟨wm66.heap.size, 0, none⟩) 0 c) = wm70 at HBg hHeld ⊢
            (try simp only [Act.put, List.getElem_toArray, List.getElem_cons_succ, List.getElem_cons_zero, List.setIfInBounds_toArray, List.set_cons_succ, List.set_cons_zero])
            refine wpAnyH_ready (rs := [3]) (by kernel_rfl) (by simp) ?_
            refine AllReadyH.cons (i := 3) (rs := []) rfl (fun K hK => ?_) ?_
            · refine tstep_make _ rfl _ _ _ rfl 3 i1 _ Tryd.underlying35 HINI.out.1 HINI.out.2.1 HINI.out.2.2.1 k1 rfl rfl (by rw [HINI.out.2.2.2]; omega) (by unfold maxLen; omega) ?_
              intro wm71 hown hgrow
              have HBg := Hid.mk' (HBg.out.add1 hown hgrow)
              refine hK.out _ _ HBg.out.ck (fun hHeld => ?_)
              clear hK K hown hgrow
              simp only [Act.put, List.getElem_toArray, List.getElem_cons_succ, List.getElem_cons_zero, List.setIfInBounds_toArray, List.set_cons_succ, List.set_cons_zero]
              have bb := (HBg.out.b3 _ rfl)
              have e0 := bb.row 0 (by decide)
              have f0 := bb.fz 0 (by decide)
              have HLAI := Hid.mk' (HBg.out.lai rfl rfl rfl rfl HKB.out)
              clear bb
              refine wpAnyH_done (by kernel_rfl) ?_ _
              refine ahead_last rfl (fun K hK => ?_)
              go_simp
              refine hK _ _ ?_
              clear hK K
              go_wp2_with fail
              go_meet
              exact ⟨_, _, _, _, rfl, rfl, HLAI.out⟩
            exact AllReadyH.nil
          exact AllReadyH.nil
        refine AllReadyH.cons (i := 3) (rs := []) rfl (fun K hK => ?_) ?_
        · refine tstep_make _ rfl _ _ _ rfl 3 i1 _ Tryd.underlying35 HINI.out.1 HINI.out.2.1 HINI.out.2.2.1 k1 rfl rfl (by rw [HINI.out.2.2.2]; omega) (by unfold maxLen; omega) ?_
          intro wm72 hown hgrow
          have HBg := Hid.mk' (HBg.out.add1 hown hgrow)
          refine hK.out _ _ HBg.out.ck (fun hHeld => ?_)
          clear hK K hown hgrow
          simp only [Act.put, List.getElem_toArray, List.getElem_cons_succ, List.getElem_cons_zero, List.setIfInBounds_toArray, List.set_cons_succ, List.set_cons_zero]
          refine wpAnyH_ready (rs := [1]) (by kernel_rfl) (by simp) ?_
          refine AllReadyH.cons (i := 1) (rs := []) rfl (fun K hK => ?_) ?_
          · refine tstep_room _ rfl _ _ _ rfl 35 i0 _ Tryd.underlying28 HINF.out.1 HINF.out.2.1 HINF.out.2.2.1 c rfl rfl (by rw [HINF.out.2.2.2]; omega) (by unfold maxLen; omega) ?_
            intro wm73 hown hgrow
            have HBg := Hid.mk' (HBg.out.add0 hown hgrow)
            refine hK.out _ _ HBg.out.ck (fun hHeld => ?_)
            clear hK K hown hgrow
            simp only [Act.put, List.getElem_toArray, List.getElem_cons_succ, List.getElem_cons_zero, List.setIfInBounds_toArray, List.set_cons_succ, List.set_cons_zero]
            refine wpAnyH_ready (rs := [6]) (by kernel_rfl) (by simp) ?_
            refine AllReadyH.cons (i := 6) (rs := []) rfl (fun K hK => ?_) ?_
            · have bb := (HBg.out.b2 _ rfl)
              have e0 := bb.row 0 (by decide)
              have f0 := bb.fz 0 (by decide)
              have HBg := Hid.mk' (HBg.out.store rfl HKB.out (.slice (some ⟨wm72.heap.size, 0, none⟩) 0 c))
              go_simp
              refine hK.out _ _ HBg.out.ck (fun hHeld => ?_)
              clear hK K bb e0 f0
              generalize wm73.setCell ⟨Wd.heap.size, 0, none⟩ (.slice (some ⟨wm72.heap.size, 0, none⟩) 0 c) = wm74 at HBg hHeld ⊢
              (try simp only [Act.put, List.getElem_toArray, List.getElem_cons_succ, List.getElem_cons_zero, List.setIfInBounds_toArray, List.set_cons_succ, List.set_cons_zero])
              have bb := (HBg.out.b3 _ rfl)
              have e0 := bb.row 0 (by decide)
              have f0 := bb.fz 0 (by decide)
              have HLAI := Hid.mk' (HBg.out.lai rfl rfl rfl rfl HKB.out)
              clear bb
              refine wpAnyH_done (by kernel_rfl) ?_ _
              refine ahead_last rfl (fun K hK => ?_)
              go_simp
              refine hK _ _ ?_
              clear hK K
              go_wp2_with fail
              go_meet
              exact ⟨_, _, _, _, rfl, rfl, HLAI.out⟩
            exact AllReadyH.nil
          exact AllReadyH.nil
        exact AllReadyH.nil
      exact AllReadyH.nil
    refine AllReadyH.cons (i := 5) (rs := []) rfl (fun K hK => ?_) ?_
    · go_simp
      have HBg := Hid.mk' (HBg.out.add3 35)
      refine hK.out _ _ HBg.out.ck (fun hHeld => ?_)
      clear hK K
      generalize Wd.alloc (.cells #[.slice none 0 0] 35) = wm75 at HBg hHeld ⊢
      (try simp only [Act.put, List.getElem_toArray, List.getElem_cons_succ, List.getElem_cons_zero, List.setIfInBounds_toArray, List.set_cons_succ, List.set_cons_zero])
      refine wpAnyH_ready (rs := [1, 3, 4]) (by kernel_rfl) (by simp) ?_
      refine AllReadyH.cons (i := 1) (rs := [3, 4]) rfl (fun K hK => ?_) ?_
      · refine tstep_room _ rfl _ _ _ rfl 35 i0 _ Tryd.underlying28 HINF.out.1 HINF.out.2.1 HINF.out.2.2.1 c rfl rfl (by rw [HINF.out.2.2.2]; omega) (by unfold maxLen; omega) ?_
        intro wm76 hown hgrow
        have HBg := Hid.mk' (HBg.out.add0 hown hgrow)
        refine hK.out _ _ HBg.out.ck (fun hHeld => ?_)
        clear hK K hown hgrow
        simp only [Act.put, List.getElem_toArray, List.getElem_cons_succ, List.getElem_cons_zero, List.setIfInBounds_toArray, List.set_cons_succ, List.set_cons_zero]
        refine wpAnyH_ready (rs := [3, 4]) (by kernel_rfl) (by simp) ?_
        refine AllReadyH.cons (i := 3) (rs := [4]) rfl (fun K hK => ?_) ?_
        · refine tstep_make _ rfl _ _ _ rfl 3 i1 _ Tryd.underlying35 HINI.out.1 HINI.out.2.1 HINI.out.2.2.1 k1 rfl rfl (by rw [HINI.out.2.2.2]; omega) (by unfold maxLen; omega) ?_
          intro wm77 hown hgrow
          have HBg := Hid.mk' (HBg.out.add1 hown hgrow)
          refine hK.out _ _ HBg.out.ck (fun hHeld => ?_)
          clear hK K hown hgrow
          simp only [Act.put, List.getElem_toArray, List.getElem_cons_succ, List.getElem_cons_zero, List.setIfInBounds_toArray, List.set_cons_succ, List.set_cons_zero]
          refine wpAnyH_ready (rs := [4]) (by kernel_rfl) (by simp) ?_
          refine AllReadyH.cons (i := 4) (rs := []) rfl (fun K hK => ?_) ?_
          · go_simp
            have HBg := Hid.mk' (HBg.out.add2 28)
            refine hK.out _ _ HBg.out.ck (fun hHeld => ?_)
            clear hK K
            generalize wm77.alloc (.cells #[.slice none 0 0] 28) = wm78 at HBg hHeld ⊢
            (try simp only [Act.put, List.getElem_toArray, List.getElem_cons_succ, List.getElem_cons_zero, List.setIfInBounds_toArray, List.set_cons_succ, List.set_cons_zero])
            refine wpAnyH_ready (rs := [6]) (by kernel_rfl) (by simp) ?_
            refine AllReadyH.cons (i := 6) (rs := []) rfl (fun K hK => ?_) ?_
            · have bb := (HBg.out.b2 _ rfl)
              have e0 := bb.row 0 (by decide)
              have f0 := bb.fz 0 (by decide)
              have HBg := Hid.mk' (HBg.out.store rfl HKB.out (.slice (some ⟨wm75.heap.size, 0, none⟩) 0 c))
              go_simp
              refine hK.out _ _ HBg.out.ck (fun hHeld => ?_)
              clear hK K bb e0 f0
              generalize wm78.setCell ⟨wm77.heap.size, 0, none⟩ (.slice (some ⟨wm75.heap.size, 0, none⟩) 0 c) = wm79 at HBg hHeld ⊢
              (try simp only [Act.put, List.getElem_toArray, List.getElem_cons_succ, List.getElem_cons_zero, List.setIfInBounds_toArray, List.set_cons_succ, List.set_cons_zero])
              have bb := (HBg.out.b3 _ rfl)
              have e0 := bb.row 0 (by decide)
              have f0 := bb.fz 0 (by decide)
              have HLAI := Hid.mk' (HBg.out.lai rfl rfl rfl rfl HKB.out)
              clear bb
              refine wpAnyH_done (by kernel_rfl) ?_ _
              refine ahead_last rfl (fun K hK => ?_)
              go_simp
              refine hK _ _ ?_
              clear hK K
              go_wp2_with fail
              go_meet
              exact ⟨_, _, _, _, rfl, rfl, HLAI.out⟩
            exact AllReadyH.nil
          exact AllReadyH.nil
        refine AllReadyH.cons (i := 4) (rs := []) rfl (fun K hK => ?_) ?_
        · go_simp
          have HBg := Hid.mk' (HBg.out.add2 28)
          refine hK.out _ _ HBg.out.ck (fun hHeld => ?_)
          clear hK K
          generalize wm76.alloc (.cells #[.slice none 0 0] 28) = wm80 at HBg hHeld ⊢
          (try simp only [Act.put, List.getElem_toArray, List.getElem_cons_succ, List.getElem_cons_zero, List.setIfInBounds_toArray, List.set_cons_succ, List.set_cons_zero])
          refine wpAnyH_ready (rs := [3, 6]) (by kernel_rfl) (by simp) ?_
          refine AllReadyH.cons (i := 3) (rs := [6]) rfl (fun K hK => ?_) ?_
          · refine tstep_make _ rfl _ _ _ rfl 3 i1 _ Tryd.underlying35 HINI.out.1 HINI.out.2.1 HINI.out.2.2.1 k1 rfl rfl (by rw [HINI.out.2.2.2]; omega) (by unfold maxLen; omega) ?_
            intro wm81 hown hgrow
            have HBg := Hid.mk' (HBg.out.add1 hown hgrow)
            refine hK.out _ _ HBg.out.ck (fun hHeld => ?_)
            clear hK K hown hgrow
            simp only [Act.put, List.getElem_toArray, List.getElem_cons_succ, List.getElem_cons_zero, List.setIfInBounds_toArray, List.set_cons_succ, List.set_cons_zero]
            refine wpAnyH_ready (rs := [6]) (by kernel_rfl) (by simp) ?_
            refine AllReadyH.cons (i := 6) (rs := []) rfl (fun K hK => ?_) ?_
            · have bb := (HBg.out.b2 _ rfl)
              have e0 := bb.row 0 (by decide)
              have f0 := bb.fz 0 (by decide)
              have HBg := Hid.mk' (HBg.out.store rfl HKB.out (.slice (some ⟨wm75.heap.size, 0, none⟩) 0 c))
              go_simp
              refine hK.out _ _ HBg.out.ck (fun hHeld => ?_)
              clear hK K bb e0 f0
              generalize wm81.setCell ⟨wm76.heap.size, 0, none⟩ (.slice (some ⟨wm75.heap.size, 0, none⟩) 0 c) = wm82 at HBg hHeld ⊢
              (try simp only [Act.put, List.getElem_toArray, List.getElem_cons_succ, List.getElem_cons_zero, List.setIfInBounds_toArray, List.set_cons_succ, List.set_cons_zero])
              have bb := (HBg.out.b3 _ rfl)
              have e0 := bb.row 0 (by decide)
              have f0 := bb.fz 0 (by decide)
              have HLAI := Hid.mk' (HBg.out.lai rfl rfl rfl rfl HKB.out)
              clear bb
              refine wpAnyH_done (by kernel_rfl) ?_ _
              refine ahead_last rfl (fun K hK => ?_)
              go_simp
              refine hK _ _ ?_
              clear hK K
              go_wp2_with fail
              go_meet
              exact ⟨_, _, _, _, rfl, rfl, HLAI.out⟩
            exact AllReadyH.nil
          refine AllReadyH.cons (i := 6) (rs := []) rfl (fun K hK => ?_) ?_
          · have bb := (HBg.out.b2 _ rfl)
            have e0 := bb.row 0 (by decide)
            have f0 := bb.fz 0 (by decide)
            have HBg := Hid.mk' (HBg.out.store rfl HKB.out (.slice (some ⟨wm75.heap.size, 0, none⟩) 0 c))
            go_simp
            refine hK.out _ _ HBg.out.ck (fun hHeld => ?_)
            clear hK K bb e0 f0
            generalize wm80.setCell ⟨wm76.heap.size, 0, none⟩ (.slice (some ⟨wm75.heap.size, 0, none⟩) 0 c) = wm83 at HBg hHeld ⊢
            (try simp only [Act.put, List.getElem_toArray, List.getElem_cons_succ, List.getElem_cons_zero, List.setIfInBounds_toArray, List.set_cons_succ, List.set_cons_zero])
            refine wpAnyH_ready (rs := [3]) (by kernel_rfl) (by simp) ?_
            refine AllReadyH.cons (i := 3) (rs := []) rfl (fun K hK => ?_) ?_
            · refine tstep_make _ rfl _ _ _ rfl 3 i1 _ Tryd.underlying35 HINI.out.1 HINI.out.2.1 HINI.out.2.2.1 k1 rfl rfl (by rw [HINI.out.2.2.2]; omega) (by unfold maxLen; omega) ?_
              intro wm84 hown hgrow
              have HBg := Hid.mk' (HBg.out.add1 hown hgrow)
              refine hK.out _ _ HBg.out.ck (fun hHeld => ?_)
              clear hK K hown hgrow
              simp only [Act.put, List.getElem_toArray, List.getElem_cons_succ, List.getElem_cons_zero, List.setIfInBounds_toArray, List.set_cons_succ, List.set_cons_zero]
              have bb := (HBg.out.b3 _ rfl)
              have e0 := bb.row 0 (by decide)
              have f0 := bb.fz 0 (by decide)
              have HLAI := Hid.mk' (HBg.out.lai rfl rfl rfl rfl HKB.out)
              clear bb
              refine wpAnyH_done (by kernel_rfl) ?_ _
              refine ahead_last rfl (fun K hK => ?_)
              go_simp
              refine hK _ _ ?_
              clear hK K
              go_wp2_with fail
              go_meet
              exact ⟨_, _, _, _, rfl, rfl, HLAI.out⟩
            exact AllReadyH.nil
          exact AllReadyH.nil
        exact AllReadyH.nil
      refine AllReadyH.cons (i := 3) (rs := [4]) rfl (fun K hK => ?_) ?_
      · refine tstep_make _ rfl _ _ _ rfl 3 i1 _ Tryd.underlying35 HINI.out.1 HINI.out.2.1 HINI.out.2.2.1 k1 rfl rfl (by rw [HINI.out.2.2.2]; omega) (by unfold maxLen; omega) ?_
        intro wm85 hown hgrow
        have HBg := Hid.mk' (HBg.out.add1 hown hgrow)
        refine hK.out _ _ HBg.out.ck (fun hHeld => ?_)
        clear hK K hown hgrow
        simp only [Act.put, List.getElem_toArray, List.getElem_cons_succ, List.getElem_cons_zero, List.setIfInBounds_toArray, List.set_cons_succ, List.set_cons_zero]
        refine wpAnyH_ready (rs := [1, 4]) (by kernel_rfl) (by simp) ?_
        refine AllReadyH.cons (i := 1) (rs := [4]) rfl (fun K hK => ?_) ?_
        · refine tstep_room _ rfl _ _ _ rfl 35 i0 _ Tryd.underlying28 HINF.out.1 HINF.out.2.1 HINF.out.2.2.1 c rfl rfl (by rw [HINF.out.2.2.2]; omega) (by unfold maxLen; omega) ?_
          intro wm86 hown hgrow
          have HBg := Hid.mk' (HBg.out.add0 hown hgrow)
          refine hK.out _ _ HBg.out.ck (fun hHeld => ?_)
          clear hK K hown hgrow
          simp only [Act.put, List.getElem_toArray, List.getElem_cons_succ, List.getElem_cons_zero, List.setIfInBounds_toArray, List.set_cons_succ, List.set_cons_zero]
          refine wpAnyH_ready (rs := [4]) (by kernel_rfl) (by simp) ?_
          refine AllReadyH.cons (i := 4) (rs := []) rfl (fun K hK => ?_) ?_
          · go_simp
            have HBg := Hid.mk' (HBg.out.add2 28)
            refine hK.out _ _ HBg.out.ck (fun hHeld => ?_)
            clear hK K
            generalize wm86.alloc (.cells #[.slice none 0 0] 28) = wm87 at HBg hHeld ⊢
            (try simp only [Act.put, List.getElem_toArray, List.getElem_cons_succ, List.getElem_cons_zero, List.setIfInBounds_toArray, List.set_cons_succ, List.set_cons_zero])
            refine wpAnyH_ready (rs := [6]) (by kernel_rfl) (by simp) ?_
            refine AllReadyH.cons (i := 6) (rs := []) rfl (fun K hK => ?_) ?_
            · have bb := (HBg.out.b2 _ rfl)
              have e0 := bb.row 0 (by decide)
              have f0 := bb.fz 0 (by decide)
              have HBg := Hid.mk' (HBg.out.store rfl HKB.out (.slice (some ⟨wm85.heap.size, 0, none⟩) 0 c))
              go_simp
              refine hK.out _ _ HBg.out.ck (fun hHeld => ?_)
              clear hK K bb e0 f0
              generalize wm87.setCell ⟨wm86.heap.size, 0, none⟩ (.slice (some ⟨wm85.heap.size, 0, none⟩) 0 c) = wm88 at HBg hHeld ⊢
              (try simp only [Act.put, List.getElem_toArray, List.getElem_cons_succ, List.getElem_cons_zero, List.setIfInBounds_toArray, List.set_cons_succ, List.set_cons_zero])
              have bb := (HBg.out.b3 _ rfl)
              have e0 := bb.row 0 (by decide)
              have f0 := bb.fz 0 (by decide)
              have HLAI := Hid.mk' (HBg.out.lai rfl rfl rfl rfl HKB.out)
              clear bb
              refine wpAnyH_done (by kernel_rfl) ?_ _
              refine ahead_last rfl (fun K hK => ?_)
              go_simp
              refine hK _ _ ?_
              clear hK K
              go_wp2_with fail
              go_meet
              exact ⟨_, _, _, _, rfl, rfl, HLAI.out⟩
            exact AllReadyH.nil
          exact AllReadyH.nil
        refine AllReadyH.cons (i := 4) (rs := []) rfl (fun K hK => ?_) ?_
        · go_simp
          have HBg := Hid.mk' (HBg.out.add2 28)
          refine hK.out _ _ HBg.out.ck (fun hHeld => ?_)
          clear hK K
          generalize wm85.alloc (.cells #[.slice none 0 0] 28) = wm89 at HBg hHeld ⊢
          (try simp only [Act.put, List.getElem_toArray, List.getElem_cons_succ, List.getElem_cons_zero, List.setIfInBounds_toArray, List.set_cons_succ, List.set_cons_zero])
          refine wpAnyH_ready (rs := [1]) (by kernel_rfl) (by simp) ?_
          refine AllReadyH.cons (i := 1) (rs := []) rfl (fun K hK => ?_) ?_
          · refine tstep_room _ rfl _ _ _ rfl 35 i0 _ Tryd.underlying28 HINF.out.1 HINF.out.2.1 HINF.out.2.2.1 c rfl rfl (by rw [HINF.out.2.2.2]; omega) (by unfold maxLen; omega) ?_
            intro wm90 hown hgrow
            have HBg := Hid.mk' (HBg.out.add0 hown hgrow)
            refine hK.out _ _ HBg.out.ck (fun hHeld => ?_)
            clear hK K hown hgrow
            simp only [Act.put, List.getElem_toArray, List.getElem_cons_succ, List.getElem_cons_zero, List.setIfInBounds_toArray, List.set_cons_succ, List.set_cons_zero]
            refine wpAnyH_ready (rs := [6]) (by kernel_rfl) (by simp) ?_
            refine AllReadyH.cons (i := 6) (rs := []) rfl (fun K hK => ?_) ?_
            · have bb := (HBg.out.b2 _ rfl)
              have e0 := bb.row 0 (by decide)
              have f0 := bb.fz 0 (by decide)
              have HBg := Hid.mk' (HBg.out.store rfl HKB.out (.slice (some ⟨wm89.heap.size, 0, none⟩) 0 c))
              go_simp
              refine hK.out _ _ HBg.out.ck (fun hHeld => ?_)
              clear hK K bb e0 f0
              generalize wm90.setCell ⟨wm85.heap.size, 0, none⟩ (.slice (some ⟨wm89.heap.size, 0, none⟩) 0 c) = wm91 at HBg hHeld ⊢
              (try simp only [Act.put, List.getElem_toArray, List.getElem_cons_succ, List.getElem_cons_zero, List.setIfInBounds_toArray, List.set_cons_succ, List.set_cons_zero])
              have bb := (HBg.out.b3 _ rfl)
              have e0 := bb.row 0 (by decide)
              have f0 := bb.fz 0 (by decide)
              have HLAI := Hid.mk' (HBg.out.lai rfl rfl rfl rfl HKB.out)
              clear bb
              refine wpAnyH_done (by kernel_rfl) ?_ _
              refine ahead_last rfl (fun K hK => ?_)
              go_simp
              refine hK _ _ ?_
              clear hK K
              go_wp2_with fail
              go_meet
              exact ⟨_, _, _, _, rfl, rfl, HLAI.out⟩
            exact AllReadyH.nil
          exact AllReadyH.nil
        exact AllReadyH.nil
      refine AllReadyH.cons (i := 4) (rs := []) rfl (fun K hK => ?_) ?_
      · go_simp
        have HBg := Hid.mk' (HBg.out.add2 28)
        refine hK.out _ _ HBg.out.ck (fun hHeld => ?_)
        clear hK K
        generalize wm75.alloc (.cells #[.slice none 0 0] 28) = wm92 at HBg hHeld ⊢
        (try simp only [Act.put, List.getElem_toArray, List.getElem_cons_succ, List.getElem_cons_zero, List.setIfInBounds_toArray, List.set_cons_succ, List.set_cons_zero])
        refine wpAnyH_ready (rs := [1, 3]) (by kernel_rfl) (by simp) ?_
        refine AllReadyH.cons (i := 1) (rs := [3]) rfl (fun K hK => ?_) ?_
        · refine tstep_room _ rfl _ _ _ rfl 35 i0 _ Tryd.underlying28 HINF.out.1 HINF.out.2.1 HINF.out.2.2.1 c rfl rfl (by rw [HINF.out.2.2.2]; omega) (by unfold maxLen; omega) ?_
          intro wm93 hown hgrow
          have HBg := Hid.mk' (HBg.out.add0 hown hgrow)
          refine hK.out _ _ HBg.out.ck (fun hHeld => ?_)
          clear hK K hown hgrow
          simp only [Act.put, List.getElem_toArray, List.getElem_cons_succ, List.getElem_cons_zero, List.setIfInBounds_toArray, List.set_cons_succ, List.set_cons_zero]
          refine wpAnyH_ready (rs := [3, 6]) (by kernel_rfl) (by simp) ?_
          refine AllReadyH.cons (i := 3) (rs := [6]) rfl (fun K hK => ?_) ?_
          · refine tstep_make _ rfl _ _ _ rfl 3 i1 _ Tryd.underlying35 HINI.out.1 HINI.out.2.1 HINI.out.2.2.1 k1 rfl rfl (by rw [HINI.out.2.2.2]; omega) (by unfold maxLen; omega) ?_
            intro wm94 hown hgrow
            have HBg := Hid.mk' (HBg.out.add1 hown hgrow)
            refine hK.out _ _ HBg.out.ck (fun hHeld => ?_)
            clear hK K hown hgrow
            simp only [Act.put, List.getElem_toArray, List.getElem_cons_succ, List.getElem_cons_zero, List.setIfInBounds_toArray, List.set_cons_succ, List.set_cons_zero]
            refine wpAnyH_ready (rs := [6]) (by kernel_rfl) (by simp) ?_
            refine AllReadyH.cons (i := 6) (rs := []) rfl (fun K hK => ?_) ?_
            · have bb := (HBg.out.b2 _ rfl)
              have e0 := bb.row 0 (by decide)
              have f0 := bb.fz 0 (by decide)
              have HBg := Hid.mk' (HBg.out.store rfl HKB.out (.slice (some ⟨wm92.heap.size, 0, none⟩) 0 c))
              go_simp
              refine hK.out _ _ HBg.out.ck (fun hHeld => ?_)
              clear hK K bb e0 f0
              generalize wm94.setCell ⟨wm75.heap.size, 0, none⟩ (.slice (some ⟨wm92.heap.size, 0, none⟩) 0 c) = wm95 at HBg hHeld ⊢
              (try simp only [Act.put, List.getElem_toArray, List.getElem_cons_succ, List.getElem_cons_zero, List.setIfInBounds_toArray, List.set_cons_succ, List.set_cons_zero])
              have bb := (HBg.out.b3 _ rfl)
              have e0 := bb.row 0 (by decide)
              have f0 := bb.fz 0 (by decide)
              have HLAI := Hid.mk' (HBg.out.lai rfl rfl rfl rfl HKB.out)
              clear bb
              refine wpAnyH_done (by kernel_rfl) ?_ _
              refine ahead_last rfl (fun K hK => ?_)
              go_simp
              refine hK _ _ ?_
              clear hK K
              go_wp2_with fail
              go_meet
              exact ⟨_, _, _, _, rfl, rfl, HLAI.out⟩
            exact AllReadyH.nil
          refine AllReadyH.cons (i := 6) (rs := []) rfl (fun K hK => ?_) ?_
          · have bb := (HBg.out.b2 _ rfl)
            have e0 := bb.row 0 (by decide)
            have f0 := bb.fz 0 (by decide)
            have HBg := Hid.mk' (HBg.out.store rfl HKB.out (.slice (some ⟨wm92.heap.size, 0, none⟩) 0 c))
            go_simp
            refine hK.out _ _ HBg.out.ck (fun hHeld => ?_)
            clear hK K bb e0 f0
            generalize wm93.setCell ⟨wm75.heap.size, 0, none⟩ (.slice (some ⟨wm92.heap.size, 0, none⟩) 0 c) = wm96 at HBg hHeld ⊢
            (try simp only [Act.put, List.getElem_toArray, List.getElem_cons_succ, List.getElem_cons_zero, List.setIfInBounds_toArray, List.set_cons_succ, List.set_cons_zero])
            refine wpAnyH_ready (rs := [3]) (by kernel_rfl) (by simp) ?_
            refine AllReadyH.cons (i := 3) (rs := []) rfl (fun K hK => ?_) ?_
            · refine tstep_make _ rfl _ _ _ rfl 3 i1 _ Tryd.underlying35 HINI.out.1 HINI.out.2.1 HINI.out.2.2.1 k1 rfl rfl (by rw [HINI.out.2.2.2]; omega) (by unfold maxLen; omega) ?_
              intro wm97 hown hgrow
              have HBg := Hid.mk' (HBg.out.add1 hown hgrow)
              refine hK.out _ _ HBg.out.ck (fun hHeld => ?_)
              clear hK K hown hgrow
              simp only [Act.put, List.getElem_toArray, List.getElem_cons_succ, List.getElem_cons_zero, List.setIfInBounds_toArray, List.set_cons_succ, List.set_cons_zero]
              have bb := (HBg.out.b3 _ rfl)
              have e0 := bb.row 0 (by decide)
              have f0 := bb.fz 0 (by decide)
              have HLAI := Hid.mk' (HBg.out.lai rfl rfl rfl rfl HKB.out)
              clear bb
              refine wpAnyH_done (by kernel_rfl) ?_ _
              refine ahead_last rfl (fun K hK => ?_)
              go_simp
              refine hK _ _ ?_
              clear hK K
              go_wp2_with fail
              go_meet
              exact ⟨_, _, _, _, rfl, rfl, HLAI.out⟩
            exact AllReadyH.nil
          exact AllReadyH.nil
        refine AllReadyH.cons (i := 3) (rs := []) rfl (fun K hK => ?_) ?_
        · refine tstep_make _ rfl _ _ _ rfl 3 i1 _ Tryd.underlying35 HINI.out.1 HINI.out.2.1 HINI.out.2.2.1 k1 rfl rfl (by rw [HINI.out.2.2.2]; omega) (by unfold maxLen; omega) ?_
          intro wm98 hown hgrow
          have HBg := Hid.mk' (HBg.out.add1 hown hgrow)
          refine hK.out _ _ HBg.out.ck (fun hHeld => ?_)
          clear hK K hown hgrow
          simp only [Act.put, List.getElem_toArray, List.getElem_cons_succ, List.getElem_cons_zero, List.setIfInBounds_toArray, List.set_cons_succ, List.set_cons_zero]
          refine wpAnyH_ready (rs := [1]) (by kernel_rfl) (by simp) ?_
          refine AllReadyH.cons (i := 1) (rs := []) rfl (fun K hK => ?_) ?_
          · refine tstep_room _ rfl _ _ _ rfl 35 i0 _ Tryd.underlying28 HINF.out.1 HINF.out.2.1 HINF.out.2.2.1 c rfl rfl (by rw [HINF.out.2.2.2]; omega) (by unfold maxLen; omega) ?_
            intro wm99 hown hgrow
            have HBg := Hid.mk' (HBg.out.add0 hown hgrow)
            refine hK.out _ _ HBg.out.ck (fun hHeld => ?_)
            clear hK K hown hgrow
            simp only [Act.put, List.getElem_toArray, List.getElem_cons_succ, List.getElem_cons_zero, List.setIfInBounds_toArray, List.set_cons_succ, List.set_cons_zero]
            refine wpAnyH_ready (rs := [6]) (by kernel_rfl) (by simp) ?_
            refine AllReadyH.cons (i := 6) (rs := []) rfl (fun K hK => ?_) ?_
            · have bb := (HBg.out.b2 _ rfl)
              have e0 := bb.row 0 (by decide)
              have f0 := bb.fz 0 (by decide)
              have HBg := Hid.mk' (HBg.out.store rfl HKB.out (.slice (some ⟨wm98.heap.size, 0, none⟩) 0 c))
              go_simp
              refine hK.out _ _ HBg.out.ck (fun hHeld => ?_)
              clear hK K bb e0 f0
              generalize wm99.setCell ⟨wm75.heap.size, 0, none⟩ (.slice (some ⟨wm98.heap.size, 0, none⟩) 0 c) = wm100 at HBg hHeld ⊢
              (try simp only [Act.put, List.getElem_toArray, List.getElem_cons_succ, List.getElem_cons_zero, List.setIfInBounds_toArray, List.set_cons_succ, List.set_cons_zero])
              have bb := (HBg.out.b3 _ rfl)
              have e0 := bb.row 0 (by decide)
              have f0 := bb.fz 0 (by decide)
              have HLAI := Hid.mk' (HBg.out.lai rfl rfl rfl rfl HKB.out)
              clear bb
              refine wpAnyH_done (by kernel_rfl) ?_ _
              refine ahead_last rfl (fun K hK => ?_)
              go_simp
              refine hK _ _ ?_
              clear hK K
              go_wp2_with fail
              go_meet
              exact ⟨_, _, _, _, rfl, rfl, HLAI.out⟩
            exact AllReadyH.nil
          exact AllReadyH.nil
        exact AllReadyH.nil
      exact AllReadyH.nil
    exact AllReadyH.nil
  case rest =>
    obtain ⟨go, gt, bo, bt, rfl, rfl, HLAI⟩ := hcut
    clear ck0
    have HFIL := Hid.mk' (fun t => HLAI.out.fil HB0.out HKB.out (Nat.le_refl _) t)
    have HZ0 : Hid (w.heap.size ≤ wc.heap.size + 1) := Nat.le_succ_of_le (Nat.le_trans HB0.out.size HLAI.out.below.size)
    clear HLAI
    go_wp2_with fail
    refine (fill_any k 0 n w _ (wc.heap.size + 1) w.heap.size wc.heap.size bt bo gt k1 _ _ [] [] (by have := HK1.out; omega) (HFIL.out _) (by omega) hn (by have := HCN.out; simp only [List.length_nil]; omega) HZ0.out).mono ?_
    rintro e w5 ⟨rfl, ts5, ov5, vs5, h5, -⟩
    have HF5 := Hid.mk' h5
    have c5 := h5.co
    obtain ⟨a5, q5, hov⟩ := h5.own.form
    subst hov
    clear h5 HFIL
    go_wp2_with fail
    go_ret2
    refine ⟨_, rfl, ?_, HF5.out.below⟩
    have e6 := HF5.out.own.lol
    have e7 : ([] : List (List Int)) ++ (typT k n).map (fun r => rowL (fun _ => 0) 0 ++ r) = typT k n := by simp [rowL]
    rw [e7] at e6
    exact e6
end Go.Proofs.YteicjedmingplaaDoor

/- The document's types: how many, and all of them. -/
namespace Go.Proofs.YteicjedmingplaaDoor
open Go.RowKit

theorem two_heap1 (w : World) (X Y : Obj) : ((w.alloc X).alloc Y).heap[w.heap.size + 1]? = some Y := by
  show ((w.heap.push X).push Y)[w.heap.size + 1]? = some Y
  generalize w.heap = h
  have := Array.getElem?_push_size (xs := h.push X) (x := Y)
  rwa [Array.size_push] at this
theorem two_heap0 (w : World) (X Y : Obj) : ((w.alloc X).alloc Y).heap[w.heap.size]? = some X := by
  show ((w.heap.push X).push Y)[w.heap.size]? = some X
  generalize w.heap = h
  simp [Array.getElem?_push]
set_option maxRecDepth 100000 in
set_option maxHeartbeats 1000000 in
theorem FewError_bad (n k : Int) (w : World) (h : n < 0 ∨ 20 < n ∨ k < 1 ∨ 6 < k) : Calls Tryd.prog 8 #[.int .i64 n, .int .i64 k] w fun e w' => e = .returned (.int .i64 2) ∧ w' = w := by
  go_enter Tryd.func8, Tryd.ntmps8
  by_cases h1 : n < 0
  · clear h
    go_wp2_with fail
    go_ret
    exact ⟨rfl, rfl⟩
  · by_cases h2 : 20 < n
    · clear h
      go_wp2_with fail
      go_ret
      exact ⟨rfl, rfl⟩
    · by_cases h3 : k < 1
      · clear h
        go_wp2_with fail
        go_ret
        exact ⟨rfl, rfl⟩
      · have h4 : 6 < k := by omega
        clear h
        go_wp2_with fail
        go_ret
        exact ⟨rfl, rfl⟩
set_option maxRecDepth 100000 in
set_option maxHeartbeats 1000000 in
theorem FewError_ok (n k : Int) (w : World) (h1 : 0 ≤ n) (h2 : n ≤ 20) (h3 : 1 ≤ k) (h4 : k ≤ 6) : Calls Tryd.prog 8 #[.int .i64 n, .int .i64 k] w fun e w' => e = .returned (.int .i64 0) ∧ w' = w := by
  go_enter Tryd.func8, Tryd.ntmps8
  go_wp2_with fail
  go_ret
  exact ⟨rfl, rfl⟩

set_option maxRecDepth 100000 in
set_option maxHeartbeats 1000000 in
theorem CountOf_any : ∀ (k n : Nat) (w : World), k < 6 → n < 21 → Calls Tryd.prog 12 #[.int .i64 n, .int .i64 ((k : Int) + 1)] w fun e w' => e = .returned (.int .i64 (cntT k n : Nat)) ∧ Below w.heap.size w w'
  | 0, n, w, _, hn => by
    go_enter Tryd.func12, Tryd.ntmps12
    go_wp2_with fail
    go_ret
    exact ⟨rfl, Below.refl _ _⟩
  | k + 1, n, w, hk, hn => by
    have HI := Hid.mk' (fun (m : Nat) (W : World) (hm : m < 21) => CountOf_any k m W (by omega) hm)
    have HC := Hid.mk' (cntT_small hk hn)
    have HE : Hid (cntT (k + 1) n = cntS (fun i => cntT k (n - i)) (n + 1)) := rfl
    have hn0 : (0 : Int) ≤ (n : Int) := by omega
    have hn6 : (n : Int) < 21 := by omega
    rw [show (((k + 1 : Nat) : Int) + 1) = (k : Int) + 1 + 1 by omega]
    obtain ⟨K, hK⟩ : ∃ K : Int, K = (k : Int) + 1 + 1 := ⟨_, rfl⟩
    rw [← hK]
    rw [show (k : Int) + 1 = K - 1 by omega] at HI
    have hK2 : 2 ≤ K := by omega
    have hK6 : K ≤ 6 := by omega
    have hKb : (K == 1) = false := by simp; omega
    clear hK
    go_enter Tryd.func12, Tryd.ntmps12
    go_wp2_with fail
    go_loopw [5, 6] (fun s i wr => ∃ j : Nat, j ≤ n + 1 ∧ i = .int .i64 j ∧ s = .int .i64 (cntS (fun i => cntT k (n - i)) j : Nat) ∧ Hid (Below w.heap.size w wr)) (fun _ i _ => n + 1 - (intOf i).toNat)
    case atStart => exact ⟨0, Nat.zero_le _, rfl, rfl, Below.refl _ _⟩
    case round =>
      obtain ⟨j, hj, rfl, rfl, HB⟩ := hrel
      have hj0 : (0 : Int) ≤ (j : Int) := by omega
      rcases Nat.lt_or_ge j (n + 1) with h1 | h1
      · have hjn : (j : Int) ≤ (n : Int) := by omega
        have HJ := Hid.mk' (fun W => HI.out (n - j) W (by omega))
        have hb : cntS (fun i => cntT k (n - i)) (j + 1) ≤ 10000000 := by have h2 := cntS_le (fun i => cntT k (n - i)) (show j + 1 ≤ n + 1 from h1); have h3 := HC.out; rw [HE.out] at h3; omega
        have hs : cntS (fun i => cntT k (n - i)) (j + 1) = cntS (fun i => cntT k (n - i)) j + cntT k (n - j) := rfl
        have HSX := Hid.mk' hs
        rw [hs] at hb
        rw [show ((n - j : Nat) : Int) = (n : Int) - (j : Int) by omega] at HJ
        clear hs
        obtain ⟨x, hx⟩ : ∃ x, x = cntS (fun i => cntT k (n - i)) j := ⟨_, rfl⟩
        obtain ⟨y, hy⟩ : ∃ y, y = cntT k (n - j) := ⟨_, rfl⟩
        rw [← hx, ← hy] at HSX hb
        rw [← hx]
        rw [← hy] at HJ
        clear hx hy
        have hb2 : (x : Int) + (y : Int) ≤ 10000000 := by omega
        have hx0 : (0 : Int) ≤ (x : Int) := by omega
        have hy0 : (0 : Int) ≤ (y : Int) := by omega
        go_wp2_with fail
        refine (HJ.out _).mono ?_
        rintro e w4 ⟨rfl, hb4⟩
        have HB4 := Hid.mk' (below_chain HB.out hb4)
        clear hb4
        go_wp2_with fail
        refine ⟨⟨j + 1, h1, by go_num, ?_, HB4.out⟩, by simp [intOf]; omega⟩
        rw [HSX.out]
        go_num
      · obtain rfl : j = n + 1 := by omega
        have hjn : ¬ (((n + 1 : Nat) : Int) ≤ (n : Int)) := by omega
        go_wp2_with fail
        go_ret
        exact ⟨by rw [HE.out]; rfl, HB.out⟩

set_option maxRecDepth 100000 in
set_option maxHeartbeats 2000000 in
theorem TypesOf_any : ∀ (k n : Nat) (w : World), k < 6 → n < 21 → Calls Tryd.prog 14 #[.int .i64 n, .int .i64 ((k : Int) + 1)] w fun e w' => ∃ v, e = .returned v ∧ (∃ vs, LolOwn w.heap.size w.heap.size w' v (typT k n) vs) ∧ Below w.heap.size w w'
  | 0, n, w, _, hn => by
    go_enter Tryd.func14, Tryd.ntmps14
    go_wp2_with fail
    go_ret
    refine ⟨_, rfl, ⟨[.slice (some ⟨w.heap.size, 0, none⟩) 1 1], own_built (w := (w.alloc _).alloc _) (base := w.heap.size) (g := w.heap.size + 1) (t := 35) (cs := #[.slice (some ⟨w.heap.size, 0, none⟩) 1 1]) (by omega) (two_heap1 _ _ _) (by simp), fun i r hr => ?_⟩, ((Below.refl _ _).alloc (Nat.le_refl _) _).alloc (by simp) _⟩
    obtain ⟨rfl, rfl⟩ : i = 0 ∧ r = [(n : Int)] := by
      rcases i with _ | i
      · exact ⟨rfl, by simpa [typT] using hr.symm⟩
      · simp [typT] at hr
    exact ⟨_, rfl, own_built (w := (w.alloc _).alloc _) (base := w.heap.size) (g := w.heap.size) (t := 3) (cs := #[.int .i64 (n : Int)]) (Nat.le_refl _) (two_heap0 _ _ _) (by simp)⟩
  | k + 1, n, w, hk, hn => by
    obtain ⟨i0, hi, hz0, hz1, hz2⟩ := info_parts Tryd.infoInts
    have HINF : Hid (Tryd.prog.info? 35 = some i0 ∧ i0.zero = some (.slice none 0 0) ∧ i0.size = 1 ∧ i0.bytes = 24) := ⟨hi, hz0, hz1, hz2⟩
    clear hi hz0 hz1 hz2
    obtain ⟨i1, hi, hz0, hz1, hz2⟩ := info_parts Tryd.infoInt
    have HINI : Hid (Tryd.prog.info? 3 = some i1 ∧ i1.zero = some (.int .i64 0) ∧ i1.size = 1 ∧ i1.bytes = 8) := ⟨hi, hz0, hz1, hz2⟩
    clear hi hz0 hz1 hz2
    have HI := Hid.mk' (fun (m : Nat) (W : World) (hm : m < 21) => TypesOf_any k m W (by omega) hm)
    have HC := Hid.mk' (cntT_small hk hn)
    have HE : Hid (cntT (k + 1) n = cntS (fun i => cntT k (n - i)) (n + 1)) := rfl
    have HW := Hid.mk' (fun (m : Nat) r hr => typT_width k m r hr)
    have hn0 : (0 : Int) ≤ (n : Int) := by omega
    have hn6 : (n : Int) < 21 := by omega
    rw [show (((k + 1 : Nat) : Int) + 1) = (k : Int) + 1 + 1 by omega]
    obtain ⟨K, hK⟩ : ∃ K : Int, K = (k : Int) + 1 + 1 := ⟨_, rfl⟩
    rw [← hK]
    rw [show (k : Int) + 1 = K - 1 by omega] at HI
    have hK2 : 2 ≤ K := by omega
    have hK6 : K ≤ 6 := by omega
    have hKb : (K == 1) = false := by simp; omega
    clear hK
    go_enter Tryd.func14, Tryd.ntmps14
    go_wp2_with fail
    go_loopw [5, 6] (fun u i wr => ∃ (j : Nat) (vs : List Value), j ≤ n + 1 ∧ i = .int .i64 j ∧ Hid (LolOwn w.heap.size w.heap.size wr u (typS (fun i => typT k (n - i)) j) vs) ∧ Hid (Below w.heap.size w wr)) (fun _ i _ => n + 1 - (intOf i).toNat)
    case atStart => exact ⟨0, [], Nat.zero_le _, rfl, LolOwn.nil _ _ _, Below.refl _ _⟩
    case round =>
      obtain ⟨j, vs, hj, rfl, HO, HB⟩ := hrel
      have hj0 : (0 : Int) ≤ (j : Int) := by omega
      rcases Nat.lt_or_ge j (n + 1) with h1 | h1
      · have hjn : (j : Int) ≤ (n : Int) := by omega
        have HJ := Hid.mk' (fun W => HI.out (n - j) W (by omega))
        have HB2 : Hid ((typS (fun i => typT k (n - i)) j).length + (typT k (n - j)).length ≤ 10000000) := by
          have h2 : (typS (fun i => typT k (n - i)) (j + 1)).length ≤ 10000000 := by
            rw [typS_length]
            have h3 := cntS_le (fun i => cntT k (n - i)) (show j + 1 ≤ n + 1 from h1)
            have h4 := HC.out
            rw [HE.out] at h4
            rw [cntS_congr (g := fun i => cntT k (n - i)) (fun i _ => typT_length k (n - i))]
            omega
          show _ ≤ _
          simpa [typS] using h2
        rw [show ((n - j : Nat) : Int) = (n : Int) - (j : Int) by omega] at HJ
        have HWJ := Hid.mk' (HW.out (n - j))
        have HFIN : Hid (typS (fun i => typT k (n - i)) (j + 1) = typS (fun i => typT k (n - i)) j ++ (typT k (n - j)).map (fun r => (j : Int) :: r)) := rfl
        obtain ⟨L0, hL0⟩ : ∃ L0, L0 = typS (fun i => typT k (n - i)) j := ⟨_, rfl⟩
        obtain ⟨l, hl⟩ : ∃ l, l = typT k (n - j) := ⟨_, rfl⟩
        rw [← hL0] at HO HB2 HFIN
        rw [← hl] at HJ HWJ HB2 HFIN
        clear hL0 hl
        obtain ⟨au, cu, rfl⟩ := HO.out.form
        go_wp2_with fail
        refine (HJ.out _).mono ?_
        rintro e w4 ⟨v4, rfl, ⟨vs4, hl4⟩, hb4⟩
        have HOW : Hid (∀ g, (Value.slice au L0.length cu).ownBlock = some g → g < wr.heap.size ∨ w4.heap.size ≤ g) := fun g hg => Or.inl (by
          rcases HO.out.1.2 with ⟨e, _⟩ | ⟨g', cap', cur', e, _, hh, _⟩
          · rw [e] at hg; cases hg
          · rw [e] at hg
            obtain rfl : g' = g := by simpa [Value.ownBlock] using hg
            exact heap_lt hh)
        have HZ4 := Hid.mk' hb4.size
        have HO4 := Hid.mk' (HO.out.later hb4)
        have HB4 := Hid.mk' (below_chain HB.out hb4)
        have HL4 := Hid.mk' hl4
        obtain ⟨a4, c4, rfl⟩ := hl4.form
        clear hl4
        generalize wr.heap.size = B3 at *
        clear hb4 HO HB HJ
        go_wp2_with fail
        go_loopw [5, 8, 9] (fun u x _ wr => ∃ (m : Nat) (vs : List Value), m ≤ l.length ∧ x = .int .i64 m ∧ Hid (LolOwn w.heap.size w.heap.size wr u (L0 ++ (l.take m).map (fun r => (j : Int) :: r)) vs) ∧ Hid (∀ k, B3 ≤ k → k < w4.heap.size → wr.heap[k]? = w4.heap[k]?) ∧ Hid (∀ g, u.ownBlock = some g → g < B3 ∨ w4.heap.size ≤ g) ∧ Hid (w4.heap.size ≤ wr.heap.size) ∧ Hid (Below w.heap.size w wr)) (fun _ x _ _ => l.length - (intOf x).toNat)
        case atStart => exact ⟨0, vs, Nat.zero_le _, rfl, by show LolOwn _ _ _ _ _ _; simpa using HO4.out, fun k _ _ => rfl, HOW, Nat.le_refl _, HB4.out⟩
        case round =>
          clear HO4 HOW HB4
          obtain ⟨m, vs, hm, rfl, HO, HK, HOW, HZ, HB⟩ := hrel
          rcases Nat.lt_or_ge m l.length with h2 | h2
          · have hmI : (m : Int) < (l.length : Int) := by omega
            have hm0 : (0 : Int) ≤ (m : Int) := by omega
            have hll : (l.length : Int) ≤ 10000000 := by have := HB2.out; omega
            obtain ⟨_, _, e1, g1⟩ := (HL4.out.keep HK.out).lol
            obtain ⟨rfl, rfl⟩ : a4 = _ ∧ c4 = _ := by simpa using e1
            obtain ⟨b, o, x, rfl, c1, n1⟩ := g1 m _ (List.getElem?_eq_getElem h2)
            have HTK : Hid (l.take (m + 1) = l.take m ++ [l[m]]) := by show _ = _; rw [List.take_add_one, List.getElem?_eq_getElem h2]; rfl
            have hw := HWJ.out _ (List.getElem_mem h2)
            generalize l[m] = r at *
            rcases n1 with ⟨_, _, _, h0⟩ | ⟨b', o', q', rfl, hr0, hrow⟩
            · omega
            · have HR := Hid.mk' (fun (W : World) (hb : Below wr.heap.size wr W) => RowAt.later hrow hb)
              obtain ⟨au, cu, hu⟩ := HO.out.form
              subst hu
              have HLN : Hid ((L0 ++ (l.take m).map (fun r => (j : Int) :: r)).length ≤ 10000000) := by
                show _ ≤ _
                have := HB2.out
                simp only [List.length_append, List.length_map, List.length_take]
                omega
              obtain ⟨L, hL⟩ : ∃ L, L = L0 ++ (l.take m).map (fun r => (j : Int) :: r) := ⟨_, rfl⟩
              rw [← hL] at HO HLN ⊢
              have HLE := Hid.mk' hL
              clear hL e1 g1 hrow
              have hwr : r.length ≤ 6 := by omega
              clear hw
              have HBR := Hid.mk' HB.out.size
              have HCL : Hid ((cellL r).length = r.length * 1) := by show _ = _; rw [cellL_length, Nat.mul_one]
              have HCI : Hid (∀ u, u ∈ cellL r → u.oneCell' = true) := fun u hu => by rw [← numCells_list] at hu; obtain ⟨x, rfl⟩ := numCells_ints _ _ u hu; rfl
              go_wp2_with (at_builtin; go_must (first
                | (have hz6 := HR6; clear hz6; refine wpList_append_lies _ rfl _ _ _ rfl w.heap.size 35 i0 _ 1 24 Tryd.underlying28 HINF.out.1 HINF.out.2.1 HINF.out.2.2.1 HINF.out.2.2.2 rfl (by omega) (.slice au L.length cu) _ _ rfl (HO6.out.1.alloc _) ⟨w6.heap.size, 0, none⟩ 1 1 [.slice (some ⟨g6, 0, none⟩) (1 + r.length) cap6] rfl rfl (one_new _ _ _) (by simp [Value.oneCell']) (by omega) (by have := HLN.out; unfold maxLen; omega) (by have := HLN.out; omega) (by have := HZ6.out; simp; omega) _ rfl ?_; intro g7 cap7 w7 hown7 hgrow7 hat7 hlt7; have HO7 := Hid.mk' hown7; have HG7 := Hid.mk' hgrow7; have HA7 := Hid.mk' hat7; clear hown7 hgrow7 hat7)
                | (have hz5 := HR5; clear hz5; refine wpList_append_lies _ rfl _ _ _ rfl wr.heap.size 3 i1 _ 1 8 Tryd.underlying35 HINI.out.1 HINI.out.2.1 HINI.out.2.2.1 HINI.out.2.2.2 rfl (by omega) (.slice (some ⟨g5, 0, none⟩) 1 cap5) _ _ rfl HR5.out ⟨b', o', none⟩ r.length q' (cellL r) rfl HCL.out (fun j u hu => numCells_news (HR.out _ HB5.out) j u (by rw [numCells_list]; exact hu)) HCI.out hr0 (by unfold maxLen; omega) (by omega) (by have := HB5.out.size; omega) _ rfl ?_; intro g6 cap6 w6 hown6 hgrow6 hat6 hlt6; have HR6 := Hid.mk' hown6; have HB6 := Hid.mk' (HB5.out.grown hgrow6 HB5.out.size (fun k e => (HR5.out.lt k e).1)); have HZ6 := Hid.mk' (Nat.le_trans HBR.out HB6.out.size); have HO6 := Hid.mk' (HO.out.later HB6.out); clear hown6 hgrow6 hat6 hlt6)
                | (refine wpList_append_lies _ rfl _ _ _ rfl wr.heap.size 3 i1 _ 1 8 Tryd.underlying35 HINI.out.1 HINI.out.2.1 HINI.out.2.2.1 HINI.out.2.2.2 rfl (by omega) (.slice none 0 0) 0 [] rfl ⟨rfl, Or.inl ⟨rfl, rfl⟩⟩ ⟨wr.heap.size, 0, none⟩ 1 1 [.int .i64 (j : Int)] rfl rfl (one_new _ _ _) (by simp [Value.oneCell']) (by omega) (by unfold maxLen; omega) (by omega) (by simp) _ rfl ?_; intro g5 cap5 w5 hown5 hgrow5 hat5 hlt5; have HR5 : Hid (w5.ownsRow wr.heap.size 3 1 (.slice (some ⟨g5, 0, none⟩) 1 cap5) 1 [.int .i64 (j : Int)]) := hown5; have HB5 := Hid.mk' (((Below.refl wr.heap.size wr).alloc (Nat.le_refl _) _).grown hgrow5 (by simp) (fun k e => by cases e)); have c5 : w5.cell? ⟨b, o + m, none⟩ = some (.slice (some ⟨b', o', none⟩) r.length q') := (HB5.out.cell (cell_lt c1)).trans c1; clear hown5 hgrow5 hat5 hlt5)))
              have HW7 : Hid (∀ k, B3 ≤ k → k < w4.heap.size → w7.heap[k]? = w4.heap[k]?) := fun k e1 e2 => by
                have e3 : k < w6.heap.size := Nat.lt_of_lt_of_le e2 (Nat.le_trans HZ.out HB6.out.size)
                rw [HG7.out.block k (Nat.lt_of_lt_of_le e3 (by simp)) (fun e => ?_)]
                · have e4 : (w6.alloc (.cells #[.slice (some ⟨g6, 0, none⟩) (1 + r.length) cap6] 35)).heap[k]? = w6.heap[k]? := by
                    show (w6.heap.push _)[k]? = _
                    rw [Array.getElem?_push, if_neg (by omega)]
                  rw [e4, HB6.out.block k (Nat.lt_of_lt_of_le e2 HZ.out), HK.out k e1 e2]
                · have := HOW.out k (by rw [← HLE.out]; exact e.symm)
                  omega
              refine ⟨⟨m + 1, vs ++ [.slice (some ⟨g6, 0, none⟩) (1 + r.length) cap6], h2, by go_num, ?_, HW7, fun g hg => ?_, ?_, ?_⟩, by simp [intOf]; omega⟩
              · show LolOwn _ _ _ _ _ _
                have e5 : L0 ++ (l.take (m + 1)).map (fun r => (j : Int) :: r) = L ++ [(j : Int) :: r] := by rw [HTK.out, HLE.out]; simp
                rw [e5]
                refine (HO6.out.later ((Below.refl _ _).alloc (Nat.le_refl _) _)).push (u := .slice (some ⟨g6, 0, none⟩) (1 + r.length) cap6) ?_ HG7.out HO7.out
                have e6 := own_past (HR6.out.mono HBR.out) ((Below.refl w6.heap.size w6).alloc (Nat.le_refl _) (.cells #[.slice (some ⟨g6, 0, none⟩) (1 + r.length) cap6] 35))
                rw [List.length_cons, Nat.add_comm r.length 1]
                exact e6
              · obtain rfl : g7 = g := by simpa [Value.ownBlock] using hg
                rcases HA7.out with e | e
                · exact HOW.out g7 (by rw [← HLE.out]; exact e)
                · refine Or.inr ?_
                  rw [e]
                  exact Nat.le_trans HZ.out (Nat.le_trans HB6.out.size (by simp))
              · exact Nat.le_trans HZ.out (Nat.le_trans HB6.out.size (Nat.le_trans (by simp) HG7.out.size))
              · exact below_chain HB.out HB6.out |>.trans (((Below.refl w.heap.size w6).alloc (Nat.le_trans HBR.out HB6.out.size) _).grown HG7.out (by have := HZ6.out; simp; omega) (fun k e => ((HO6.out.1.alloc (.cells #[] 3)).lt k e).1))
          · obtain rfl : m = l.length := by omega
            have hmI : ¬ ((l.length : Int) < (l.length : Int)) := by omega
            go_wp2_with fail
            refine ⟨⟨j + 1, vs, h1, by go_num, ?_, HB.out⟩, by simp [intOf]; omega⟩
            show LolOwn _ _ _ _ _ _
            rw [HFIN.out]
            simpa using HO.out
      · obtain rfl : j = n + 1 := by omega
        have hjn : ¬ (((n + 1 : Nat) : Int) ≤ (n : Int)) := by omega
        obtain ⟨au, cu, rfl⟩ := HO.out.form
        go_wp2_with fail
        go_ret
        exact ⟨_, rfl, ⟨_, HO.out⟩, HB.out⟩

end Go.Proofs.YteicjedmingplaaDoor

/- coded of an error by its number. -/
namespace Go.Proofs.YteicjedmingplaaDoor
open Go.RowKit

theorem coded_errV (a : Nat → Addr) (c : Nat) (hc : c ≤ 8) (w : World) (h : Errs w a) :
    Calls Tryd.prog 11 #[errV a c, .int .i64 (c : Int)] w fun e w' => e = .returned (.bool true) ∧ Below w.heap.size w w' := by
  by_cases h0 : c = 0
  · subst h0
    rw [errV_zero]
    refine (coded_nil 0 w).mono ?_
    rintro e w' ⟨rfl, rfl⟩
    exact ⟨rfl, Below.refl _ _⟩
  · rw [errV_pos a h0]
    have h1 := coded_err a (c - 1) (by omega) (c : Int) w h
    have e : decide ((c : Int) = ((c - 1 : Nat) : Int) + 1) = true := decide_eq_true (by omega)
    rw [e] at h1
    exact h1
end Go.Proofs.YteicjedmingplaaDoor
