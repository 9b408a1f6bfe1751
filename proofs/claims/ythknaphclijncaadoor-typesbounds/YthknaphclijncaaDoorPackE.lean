/- types.All. -/
import Derived.Test.YthknaphclijncaaDoorPackC
import Derived.Test.YthknaphclijncaaDoorPackD
import Derived.Deep.Cut
import Derived.Laws.EntriesVeiled
import Derived.Test.YthknaphclijncaaDoorCode
import Derived.Test.YthknaphclijncaaDoorWeights
namespace Go.Proofs.YthknaphclijncaaDoor
open Go.RowKit

/-- The closure is made, and stored. -/
theorem Lai.fil {w W0 W : World} {kb k c go gt bo bt : Nat} (h : Lai W0 W kb k c go gt bo bt) (hb : Below w.heap.size w W0) (hkb : kb < W0.heap.size) (hkw : w.heap.size ≤ kb) (t : TypeId) :
    FilAt w (W.alloc (.cells #[.func (.func 52) #[] #[.pointer (some ⟨kb, 0, none⟩), .pointer (some ⟨bt, 0, none⟩), .pointer (some ⟨bo, 0, none⟩), .pointer (some ⟨W.heap.size, 0, none⟩)]] t)) (W.heap.size + 1) kb W.heap.size bt bo gt k (fun _ => 0) (.slice (some ⟨go, 0, none⟩) 0 c) [] [] := by
  have l := h.lt
  have g := h.ge
  have n := h.ne
  have hk : kb < W.heap.size := cell_lt h.ck
  have far : ∀ b j, b < W.heap.size → ∀ X, (W.alloc X).cell? ⟨b, j, none⟩ = W.cell? ⟨b, j, none⟩ := fun b j hb X => World.cell?_alloc_lt _ _ _ hb
  have ffz : ∀ b j, b < W.heap.size → ∀ X, (W.alloc X).frozen? ⟨b, j, none⟩ = W.frozen? ⟨b, j, none⟩ := fun b j hb X => ((Below.refl W.heap.size W).alloc (Nat.le_refl _) _).frozen hb
  have hs0 := hb.size
  refine ⟨(below_chain hb h.below).alloc (Nat.le_trans hs0 h.below.size) _, by omega, ⟨by omega, by omega, by omega, by omega, by omega, by simp⟩, by omega, by omega, ?_, ?_, ?_, ?_, ?_, fun i hi => ?_, fun i hi => ?_, ⟨?_, fun i r hr => by simp at hr⟩, fun g' hg' => ?_⟩
  · rw [far _ _ hk]; exact h.ck
  · rw [World.cell?_alloc_at _ _ _ _ rfl]; rfl
  · rw [far _ _ l.2.2.2]; exact h.ct.row 0 (by omega)
  · rw [far _ _ l.2.2.1]; exact h.co.row 0 (by omega)
  · rw [ffz _ _ l.2.2.1]; exact h.co.fz 0 (by omega)
  · rw [far _ _ l.2.1, Nat.zero_add]; exact h.row.row i hi
  · rw [ffz _ _ l.2.1]; exact h.row.fz i hi
  · exact own_past (h.own.mono hs0) ((Below.refl W.heap.size W).alloc (Nat.le_refl _) _)
  · obtain rfl : go = g' := by simpa [Value.ownBlock] using hg'
    omega

set_option maxRecDepth 100000 in
set_option maxHeartbeats 8000000 in
theorem All_ok (n k : Nat) (w : World) (hn : n < 21) (hk : k < 6) (hc : cntT k n ≤ 4000) : Calls Tryd.prog 22 #[.int .i64 n, .int .i64 ((k : Int) + 1)] w fun e w' => ∃ v, e = .returned (.tuple #[v, .nilIface]) ∧ LolAt w' v (typT k n) ∧ Below w.heap.size w w' := by
  obtain ⟨i0, hi, hz0, hz1, hz2⟩ := info_parts Tryd.infoInts
  have HINF : Hid (Tryd.prog.info? 22 = some i0 ∧ i0.zero = some (.slice none 0 0) ∧ i0.size = 1 ∧ i0.bytes = 24) := ⟨hi, hz0, hz1, hz2⟩
  clear hi hz0 hz1 hz2
  obtain ⟨i1, hi, hz0, hz1, hz2⟩ := info_parts Tryd.infoInt
  have HINI : Hid (Tryd.prog.info? 3 = some i1 ∧ i1.zero = some (.int .i64 0) ∧ i1.size = 1 ∧ i1.bytes = 8) := ⟨hi, hz0, hz1, hz2⟩
  clear hi hz0 hz1 hz2
  have HC := Hid.mk' (fun W => Count_ok n k W hn hk)
  have hnI : (n : Int) < 21 := by omega
  have hn0 : (0 : Int) ≤ (n : Int) := by omega
  obtain ⟨k1, hk1⟩ : ∃ k1, k1 = k + 1 := ⟨_, rfl⟩
  rw [show (k : Int) + 1 = (k1 : Int) by omega] at HC ⊢
  have hK1 : 1 ≤ k1 := by omega
  have hK6 : k1 ≤ 6 := by omega
  have HK1 := Hid.mk' hk1
  clear hk1
  have HCN := Hid.mk' hc
  have hcI : (cntT k n : Int) ≤ 4000 := by omega
  have hcI0 : 0 ≤ (cntT k n : Int) := by omega
  generalize cntT k n = c at hc hcI hcI0 HC
  go_enter Tryd.func22, Tryd.ntmps22
  go_wp2_with fail
  refine (HC.out _).mono ?_
  rintro e w1 ⟨rfl, hw1⟩
  rw [hw1]
  clear hw1 HC
  go_wp2_with fail
  have ck0 : (w.alloc (.cells #[.int .i64 (k1 : Int)] 3)).cell? ⟨w.heap.size, 0, none⟩ = some (.int .i64 (k1 : Int)) := by rw [World.cell?_alloc_at _ _ _ _ rfl]; rfl
  have HB0 : Hid (Below w.heap.size w (w.alloc (.cells #[.int .i64 (k1 : Int)] 3))) := (Below.refl _ _).alloc (Nat.le_refl _) _
  have HKB : Hid (w.heap.size < (w.alloc (.cells #[.int .i64 (k1 : Int)] 3)).heap.size) := cell_lt ck0
  generalize w.alloc (.cells #[.int .i64 (k1 : Int)] 3) = W0 at *
  go_cut [8, 9] from 23 (fun p q wx => ∃ go gt bo bt : Nat, p = .pointer (some ⟨bo, 0, none⟩) ∧ q = .pointer (some ⟨bt, 0, none⟩) ∧ Hid (Lai W0 wx w.heap.size k1 c go gt bo bt))
  case first =>
    have HBg := Hid.mk' (beg_start (w := W0) (W := W0.drew) (kb := w.heap.size) (k := k1) (c := c) (v := .slice none 0 0) (Below.refl _ _).drew ck0)
    refine region_but_last (n := 7) (S := fun W => W.cell? ⟨w.heap.size, 0, none⟩ = some (.int .i64 (k1 : Int))) (by kernel_rfl) (by kernel_rfl) (by kernel_rfl) HBg.out.ck (fun hHeld => ?_)
    clear ck0
    generalize W0.drew = Wd at *
    refine wpAnyH_take (i := 0) (v := ?v0z) rfl (by kernel_rfl) (by kernel_rfl) (by kernel_rfl) (fun _ _ _ h => h) (Or.inl ⟨by rfl, ?hy0z⟩) (by assumption) ?rest0z
    case hy0z => (intro w hSw; (try dsimp only at hSw); go_simp <;> (try with_reducible rfl))
    simp only [Act.put]
    refine wpAnyH_take (i := 2) (v := ?v2z) rfl (by kernel_rfl) (by kernel_rfl) (by kernel_rfl) (fun _ _ _ h => h) (Or.inl ⟨by rfl, ?hy2z⟩) (by assumption) ?rest2z
    case hy2z => (intro w hSw; (try dsimp only at hSw); go_simp <;> (try with_reducible rfl))
    simp only [Act.put]
    refine wpAnyH_ready (rs := [1, 3, 4, 5]) (by kernel_rfl) (by simp) ?_
    refine AllReadyH.cons (i := 1) (rs := [3, 4, 5]) rfl (fun K hK => ?_) ?_
    · refine tstep_room _ rfl _ _ _ rfl 22 i0 _ Tryd.underlying42 HINF.out.1 HINF.out.2.1 HINF.out.2.2.1 c rfl rfl (by rw [HINF.out.2.2.2]; omega) (by unfold maxLen; omega) ?_
      intro wm1 hown hgrow
      have HBg := Hid.mk' (HBg.out.add0 hown hgrow)
      refine hK.out _ _ HBg.out.ck (fun hHeld => ?_)
      clear hK K hown hgrow
      simp only [Act.put, List.getElem_toArray, List.getElem_cons_succ, List.getElem_cons_zero, List.setIfInBounds_toArray, List.set_cons_succ, List.set_cons_zero]
      refine wpAnyH_ready (rs := [3, 4, 5]) (by kernel_rfl) (by simp) ?_
      refine AllReadyH.cons (i := 3) (rs := [4, 5]) rfl (fun K hK => ?_) ?_
      · refine tstep_make _ rfl _ _ _ rfl 3 i1 _ Tryd.underlying22 HINI.out.1 HINI.out.2.1 HINI.out.2.2.1 k1 rfl rfl (by rw [HINI.out.2.2.2]; omega) (by unfold maxLen; omega) ?_
        intro wm2 hown hgrow
        have HBg := Hid.mk' (HBg.out.add1 hown hgrow)
        refine hK.out _ _ HBg.out.ck (fun hHeld => ?_)
        clear hK K hown hgrow
        simp only [Act.put, List.getElem_toArray, List.getElem_cons_succ, List.getElem_cons_zero, List.setIfInBounds_toArray, List.set_cons_succ, List.set_cons_zero]
        refine wpAnyH_ready (rs := [4, 5]) (by kernel_rfl) (by simp) ?_
        refine AllReadyH.cons (i := 4) (rs := [5]) rfl (fun K hK => ?_) ?_
        · go_simp
          have HBg := Hid.mk' (HBg.out.add2 42)
          refine hK.out _ _ HBg.out.ck (fun hHeld => ?_)
          clear hK K
          generalize wm2.alloc (.cells #[.slice none 0 0] 42) = wm3 at HBg hHeld ⊢
          (try simp only [Act.put, List.getElem_toArray, List.getElem_cons_succ, List.getElem_cons_zero, List.setIfInBounds_toArray, List.set_cons_succ, List.set_cons_zero])
          refine wpAnyH_ready (rs := [5]) (by kernel_rfl) (by simp) ?_
          refine AllReadyH.cons (i := 5) (rs := []) rfl (fun K hK => ?_) ?_
          · go_simp
            have HBg := Hid.mk' (HBg.out.add3 22)
            refine hK.out _ _ HBg.out.ck (fun hHeld => ?_)
            clear hK K
            generalize wm3.alloc (.cells #[.slice none 0 0] 22) = wm4 at HBg hHeld ⊢
            (try simp only [Act.put, List.getElem_toArray, List.getElem_cons_succ, List.getElem_cons_zero, List.setIfInBounds_toArray, List.set_cons_succ, List.set_cons_zero])
            refine wpAnyH_ready (rs := [6]) (by kernel_rfl) (by simp) ?_
            refine AllReadyH.cons (i := 6) (rs := []) rfl (fun K hK => ?_) ?_
            · have bb := (HBg.out.b2 _ rfl)
              have e0 := bb.row 0 (by decide)
              have f0 := bb.fz 0 (by decide)
              have HBg := Hid.mk' (HBg.out.store rfl HKB.out (.slice (some ⟨Wd.heap.size, 0, none⟩) 0 c))
              go_simp
              refine hK.out _ _ HBg.out.ck (fun hHeld => ?_)
              clear hK K bb e0 f0
              generalize wm4.setCell ⟨wm2.heap.size, 0, none⟩ (.slice (some ⟨Wd.heap.size, 0, none⟩) 0 c) = wm5 at HBg hHeld ⊢
              (try simp only [Act.put, List.getElem_toArray, List.getElem_cons_succ, List.getElem_cons_zero, List.setIfInBounds_toArray, List.set_cons_succ, List.set_cons_zero])
              have bb := (HBg.out.b3 _ rfl)
              have e0 := bb.row 0 (by decide)
              have f0 := bb.fz 0 (by decide)
              have HLAI := Hid.mk' (HBg.out.lai rfl rfl rfl rfl HKB.out)
              clear bb
              refine wpAnyH_done (by kernel_rfl) ?_ _
              refine ahead_last rfl (fun K hK => ?_)
              go_simp
              refine hK _ _ ?_
              clear hK K
              go_wp2_with fail
              go_meet
              exact ⟨_, _, _, _, rfl, rfl, HLAI.out⟩
            exact AllReadyH.nil
          exact AllReadyH.nil
        refine AllReadyH.cons (i := 5) (rs := []) rfl (fun K hK => ?_) ?_
        · go_simp
          have HBg := Hid.mk' (HBg.out.add3 22)
          refine hK.out _ _ HBg.out.ck (fun hHeld => ?_)
          clear hK K
          generalize wm2.alloc (.cells #[.slice none 0 0] 22) = wm6 at HBg hHeld ⊢
          (try simp only [Act.put, List.getElem_toArray, List.getElem_cons_succ, List.getElem_cons_zero, List.setIfInBounds_toArray, List.set_cons_succ, List.set_cons_zero])
          refine wpAnyH_ready (rs := [4]) (by kernel_rfl) (by simp) ?_
          refine AllReadyH.cons (i := 4) (rs := []) rfl (fun K hK => ?_) ?_
          · go_simp
            have HBg := Hid.mk' (HBg.out.add2 42)
            refine hK.out _ _ HBg.out.ck (fun hHeld => ?_)
            clear hK K
            generalize wm6.alloc (.cells #[.slice none 0 0] 42) = wm7 at HBg hHeld ⊢
            (try simp only [Act.put, List.getElem_toArray, List.getElem_cons_succ, List.getElem_cons_zero, List.setIfInBounds_toArray, List.set_cons_succ, List.set_cons_zero])
            refine wpAnyH_ready (rs := [6]) (by kernel_rfl) (by simp) ?_
            refine AllReadyH.cons (i := 6) (rs := []) rfl (fun K hK => ?_) ?_
            · have bb := (HBg.out.b2 _ rfl)
              have e0 := bb.row 0 (by decide)
              have f0 := bb.fz 0 (by decide)
              have HBg := Hid.mk' (HBg.out.store rfl HKB.out (.slice (some ⟨Wd.heap.size, 0, none⟩) 0 c))
              go_simp
              refine hK.out _ _ HBg.out.ck (fun hHeld => ?_)
              clear hK K bb e0 f0
              generalize wm7.setCell ⟨wm6.heap.size, 0, none⟩ (.slice (some ⟨Wd.heap.size, 0, none⟩) 0 c) = wm8 at HBg hHeld ⊢
              (try simp only [Act.put, List.getElem_toArray, List.getElem_cons_succ, List.getElem_cons_zero, List.setIfInBounds_toArray, List.set_cons_succ, List.set_cons_zero])
              have bb := (HBg.out.b3 _ rfl)
              have e0 := bb.row 0 (by decide)
              have f0 := bb.fz 0 (by decide)
              have HLAI := Hid.mk' (HBg.out.lai rfl rfl rfl rfl HKB.out)
              clear bb
              refine wpAnyH_done (by kernel_rfl) ?_ _
              refine ahead_last rfl (fun K hK => ?_)
              go_simp
              refine hK _ _ ?_
              clear hK K
              go_wp2_with fail
              go_meet
              exact ⟨_, _, _, _, rfl, rfl, HLAI.out⟩
            exact AllReadyH.nil
          exact AllReadyH.nil
        exact AllReadyH.nil
      refine AllReadyH.cons (i := 4) (rs := [5]) rfl (fun K hK => ?_) ?_
      · go_simp
        have HBg := Hid.mk' (HBg.out.add2 42)
        refine hK.out _ _ HBg.out.ck (fun hHeld => ?_)
        clear hK K
        generalize wm1.alloc (.cells #[.slice none 0 0] 42) = wm9 at HBg hHeld ⊢
        (try simp only [Act.put, List.getElem_toArray, List.getElem_cons_succ, List.getElem_cons_zero, List.setIfInBounds_toArray, List.set_cons_succ, List.set_cons_zero])
        refine wpAnyH_ready (rs := [3, 5]) (by kernel_rfl) (by simp) ?_
        refine AllReadyH.cons (i := 3) (rs := [5]) rfl (fun K hK => ?_) ?_
        · refine tstep_make _ rfl _ _ _ rfl 3 i1 _ Tryd.underlying22 HINI.out.1 HINI.out.2.1 HINI.out.2.2.1 k1 rfl rfl (by rw [HINI.out.2.2.2]; omega) (by unfold maxLen; omega) ?_
          intro wm10 hown hgrow
          have HBg := Hid.mk' (HBg.out.add1 hown hgrow)
          refine hK.out _ _ HBg.out.ck (fun hHeld => ?_)
          clear hK K hown hgrow
          simp only [Act.put, List.getElem_toArray, List.getElem_cons_succ, List.getElem_cons_zero, List.setIfInBounds_toArray, List.set_cons_succ, List.set_cons_zero]
          refine wpAnyH_ready (rs := [5]) (by kernel_rfl) (by simp) ?_
          refine AllReadyH.cons (i := 5) (rs := []) rfl (fun K hK => ?_) ?_
          · go_simp
            have HBg := Hid.mk' (HBg.out.add3 22)
            refine hK.out _ _ HBg.out.ck (fun hHeld => ?_)
            clear hK K
            generalize wm10.alloc (.cells #[.slice none 0 0] 22) = wm11 at HBg hHeld ⊢
            (try simp only [Act.put, List.getElem_toArray, List.getElem_cons_succ, List.getElem_cons_zero, List.setIfInBounds_toArray, List.set_cons_succ, List.set_cons_zero])
            refine wpAnyH_ready (rs := [6]) (by kernel_rfl) (by simp) ?_
            refine AllReadyH.cons (i := 6) (rs := []) rfl (fun K hK => ?_) ?_
            · have bb := (HBg.out.b2 _ rfl)
              have e0 := bb.row 0 (by decide)
              have f0 := bb.fz 0 (by decide)
              have HBg := Hid.mk' (HBg.out.store rfl HKB.out (.slice (some ⟨Wd.heap.size, 0, none⟩) 0 c))
              go_simp
              refine hK.out _ _ HBg.out.ck (fun hHeld => ?_)
              clear hK K bb e0 f0
              generalize wm11.setCell ⟨wm1.heap.size, 0, none⟩ (.slice (some ⟨Wd.heap.size, 0, none⟩) 0 c) = wm12 at HBg hHeld ⊢
              (try simp only [Act.put, List.getElem_toArray, List.getElem_cons_succ, List.getElem_cons_zero, List.setIfInBounds_toArray, List.set_cons_succ, List.set_cons_zero])
              have bb := (HBg.out.b3 _ rfl)
              have e0 := bb.row 0 (by decide)
              have f0 := bb.fz 0 (by decide)
              have HLAI := Hid.mk' (HBg.out.lai rfl rfl rfl rfl HKB.out)
              clear bb
              refine wpAnyH_done (by kernel_rfl) ?_ _
              refine ahead_last rfl (fun K hK => ?_)
              go_simp
              refine hK _ _ ?_
              clear hK K
              go_wp2_with fail
              go_meet
              exact ⟨_, _, _, _, rfl, rfl, HLAI.out⟩
            exact AllReadyH.nil
          exact AllReadyH.nil
        refine AllReadyH.cons (i := 5) (rs := []) rfl (fun K hK => ?_) ?_
        · go_simp
          have HBg := Hid.mk' (HBg.out.add3 22)
          refine hK.out _ _ HBg.out.ck (fun hHeld => ?_)
          clear hK K
          generalize wm9.alloc (.cells #[.slice none 0 0] 22) = wm13 at HBg hHeld ⊢
          (try simp only [Act.put, List.getElem_toArray, List.getElem_cons_succ, List.getElem_cons_zero, List.setIfInBounds_toArray, List.set_cons_succ, List.set_cons_zero])
          refine wpAnyH_ready (rs := [3, 6]) (by kernel_rfl) (by simp) ?_
          refine AllReadyH.cons (i := 3) (rs := [6]) rfl (fun K hK => ?_) ?_
          · refine tstep_make _ rfl _ _ _ rfl 3 i1 _ Tryd.underlying22 HINI.out.1 HINI.out.2.1 HINI.out.2.2.1 k1 rfl rfl (by rw [HINI.out.2.2.2]; omega) (by unfold maxLen; omega) ?_
            intro wm14 hown hgrow
            have HBg := Hid.mk' (HBg.out.add1 hown hgrow)
            refine hK.out _ _ HBg.out.ck (fun hHeld => ?_)
            clear hK K hown hgrow
            simp only [Act.put, List.getElem_toArray, List.getElem_cons_succ, List.getElem_cons_zero, List.setIfInBounds_toArray, List.set_cons_succ, List.set_cons_zero]
            refine wpAnyH_ready (rs := [6]) (by kernel_rfl) (by simp) ?_
            refine AllReadyH.cons (i := 6) (rs := []) rfl (fun K hK => ?_) ?_
            · have bb := (HBg.out.b2 _ rfl)
              have e0 := bb.row 0 (by decide)
              have f0 := bb.fz 0 (by decide)
              have HBg := Hid.mk' (HBg.out.store rfl HKB.out (.slice (some ⟨Wd.heap.size, 0, none⟩) 0 c))
              go_simp
              refine hK.out _ _ HBg.out.ck (fun hHeld => ?_)
              clear hK K bb e0 f0
              generalize wm14.setCell ⟨wm1.heap.size, 0, none⟩ (.slice (some ⟨Wd.heap.size, 0, none⟩) 0 c) = wm15 at HBg hHeld ⊢
              (try simp only [Act.put, List.getElem_toArray, List.getElem_cons_succ, List.getElem_cons_zero, List.setIfInBounds_toArray, List.set_cons_succ, List.set_cons_zero])
              have bb := (HBg.out.b3 _ rfl)
              have e0 := bb.row 0 (by decide)
              have f0 := bb.fz 0 (by decide)
              have HLAI := Hid.mk' (HBg.out.lai rfl rfl rfl rfl HKB.out)
              clear bb
              refine wpAnyH_done (by kernel_rfl) ?_ _
              refine ahead_last rfl (fun K hK => ?_)
              go_simp
              refine hK _ _ ?_
              clear hK K
              go_wp2_with fail
              go_meet
              exact ⟨_, _, _, _, rfl, rfl, HLAI.out⟩
            exact AllReadyH.nil
          refine AllReadyH.cons (i := 6) (rs := []) rfl (fun K hK => ?_) ?_
          · have bb := (HBg.out.b2 _ rfl)
            have e0 := bb.row 0 (by decide)
            have f0 := bb.fz 0 (by decide)
            have HBg := Hid.mk' (HBg.out.store rfl HKB.out (.slice (some ⟨Wd.heap.size, 0, none⟩) 0 c))
            go_simp
            refine hK.out _ _ HBg.out.ck (fun hHeld => ?_)
            clear hK K bb e0 f0
            generalize wm13.setCell ⟨wm1.heap.size, 0, none⟩ (.slice (some ⟨Wd.heap.size, 0, none⟩) 0 c) = wm16 at HBg hHeld ⊢
            (try simp only [Act.put, List.getElem_toArray, List.getElem_cons_succ, List.getElem_cons_zero, List.setIfInBounds_toArray, List.set_cons_succ, List.set_cons_zero])
            refine wpAnyH_ready (rs := [3]) (by kernel_rfl) (by simp) ?_
            refine AllReadyH.cons (i := 3) (rs := []) rfl (fun K hK => ?_) ?_
            · refine tstep_make _ rfl _ _ _ rfl 3 i1 _ Tryd.underlying22 HINI.out.1 HINI.out.2.1 HINI.out.2.2.1 k1 rfl rfl (by rw [HINI.out.2.2.2]; omega) (by unfold maxLen; omega) ?_
              intro wm17 hown hgrow
              have HBg := Hid.mk' (HBg.out.add1 hown hgrow)
              refine hK.out _ _ HBg.out.ck (fun hHeld => ?_)
              clear hK K hown hgrow
              simp only [Act.put, List.getElem_toArray, List.getElem_cons_succ, List.getElem_cons_zero, List.setIfInBounds_toArray, List.set_cons_succ, List.set_cons_zero]
              have bb := (HBg.out.b3 _ rfl)
              have e0 := bb.row 0 (by decide)
              have f0 := bb.fz 0 (by decide)
              have HLAI := Hid.mk' (HBg.out.lai rfl rfl rfl rfl HKB.out)
              clear bb
              refine wpAnyH_done (by kernel_rfl) ?_ _
              refine ahead_last rfl (fun K hK => ?_)
              go_simp
              refine hK _ _ ?_
              clear hK K
              go_wp2_with fail
              go_meet
              exact ⟨_, _, _, _, rfl, rfl, HLAI.out⟩
            exact AllReadyH.nil
          exact AllReadyH.nil
        exact AllReadyH.nil
      refine AllReadyH.cons (i := 5) (rs := []) rfl (fun K hK => ?_) ?_
      · go_simp
        have HBg := Hid.mk' (HBg.out.add3 22)
        refine hK.out _ _ HBg.out.ck (fun hHeld => ?_)
        clear hK K
        generalize wm1.alloc (.cells #[.slice none 0 0] 22) = wm18 at HBg hHeld ⊢
        (try simp only [Act.put, List.getElem_toArray, List.getElem_cons_succ, List.getElem_cons_zero, List.setIfInBounds_toArray, List.set_cons_succ, List.set_cons_zero])
        refine wpAnyH_ready (rs := [3, 4]) (by kernel_rfl) (by simp) ?_
        refine AllReadyH.cons (i := 3) (rs := [4]) rfl (fun K hK => ?_) ?_
        · refine tstep_make _ rfl _ _ _ rfl 3 i1 _ Tryd.underlying22 HINI.out.1 HINI.out.2.1 HINI.out.2.2.1 k1 rfl rfl (by rw [HINI.out.2.2.2]; omega) (by unfold maxLen; omega) ?_
          intro wm19 hown hgrow
          have HBg := Hid.mk' (HBg.out.add1 hown hgrow)
          refine hK.out _ _ HBg.out.ck (fun hHeld => ?_)
          clear hK K hown hgrow
          simp only [Act.put, List.getElem_toArray, List.getElem_cons_succ, List.getElem_cons_zero, List.setIfInBounds_toArray, List.set_cons_succ, List.set_cons_zero]
          refine wpAnyH_ready (rs := [4]) (by kernel_rfl) (by simp) ?_
          refine AllReadyH.cons (i := 4) (rs := []) rfl (fun K hK => ?_) ?_
          · go_simp
            have HBg := Hid.mk' (HBg.out.add2 42)
            refine hK.out _ _ HBg.out.ck (fun hHeld => ?_)
            clear hK K
            generalize wm19.alloc (.cells #[.slice none 0 0] 42) = wm20 at HBg hHeld ⊢
            (try simp only [Act.put, List.getElem_toArray, List.getElem_cons_succ, List.getElem_cons_zero, List.setIfInBounds_toArray, List.set_cons_succ, List.set_cons_zero])
            refine wpAnyH_ready (rs := [6]) (by kernel_rfl) (by simp) ?_
            refine AllReadyH.cons (i := 6) (rs := []) rfl (fun K hK => ?_) ?_
            · have bb := (HBg.out.b2 _ rfl)
              have e0 := bb.row 0 (by decide)
              have f0 := bb.fz 0 (by decide)
              have HBg := Hid.mk' (HBg.out.store rfl HKB.out (.slice (some ⟨Wd.heap.size, 0, none⟩) 0 c))
              go_simp
              refine hK.out _ _ HBg.out.ck (fun hHeld => ?_)
              clear hK K bb e0 f0
              generalize wm20.setCell ⟨wm19.heap.size, 0, none⟩ (.slice (some ⟨Wd.heap.size, 0, none⟩) 0 c) = wm21 at HBg hHeld ⊢
              (try simp only [Act.put, List.getElem_toArray, List.getElem_cons_succ, List.getElem_cons_zero, List.setIfInBounds_toArray, List.set_cons_succ, List.set_cons_zero])
              have bb := (HBg.out.b3 _ rfl)
              have e0 := bb.row 0 (by decide)
              have f0 := bb.fz 0 (by decide)
              have HLAI := Hid.mk' (HBg.out.lai rfl rfl rfl rfl HKB.out)
              clear bb
              refine wpAnyH_done (by kernel_rfl) ?_ _
              refine ahead_last rfl (fun K hK => ?_)
              go_simp
              refine hK _ _ ?_
              clear hK K
              go_wp2_with fail
              go_meet
              exact ⟨_, _, _, _, rfl, rfl, HLAI.out⟩
            exact AllReadyH.nil
          exact AllReadyH.nil
        refine AllReadyH.cons (i := 4) (rs := []) rfl (fun K hK => ?_) ?_
        · go_simp
          have HBg := Hid.mk' (HBg.out.add2 42)
          refine hK.out _ _ HBg.out.ck (fun hHeld => ?_)
          clear hK K
          generalize wm18.alloc (.cells #[.slice none 0 0] 42) = wm22 at HBg hHeld ⊢
          (try simp only [Act.put, List.getElem_toArray, List.getElem_cons_succ, List.getElem_cons_zero, List.setIfInBounds_toArray, List.set_cons_succ, List.set_cons_zero])
          refine wpAnyH_ready (rs := [3, 6]) (by kernel_rfl) (by simp) ?_
          refine AllReadyH.cons (i := 3) (rs := [6]) rfl (fun K hK => ?_) ?_
          · refine tstep_make _ rfl _ _ _ rfl 3 i1 _ Tryd.underlying22 HINI.out.1 HINI.out.2.1 HINI.out.2.2.1 k1 rfl rfl (by rw [HINI.out.2.2.2]; omega) (by unfold maxLen; omega) ?_
            intro wm23 hown hgrow
            have HBg := Hid.mk' (HBg.out.add1 hown hgrow)
            refine hK.out _ _ HBg.out.ck (fun hHeld => ?_)
            clear hK K hown hgrow
            simp only [Act.put, List.getElem_toArray, List.getElem_cons_succ, List.getElem_cons_zero, List.setIfInBounds_toArray, List.set_cons_succ, List.set_cons_zero]
            refine wpAnyH_ready (rs := [6]) (by kernel_rfl) (by simp) ?_
            refine AllReadyH.cons (i := 6) (rs := []) rfl (fun K hK => ?_) ?_
            · have bb := (HBg.out.b2 _ rfl)
              have e0 := bb.row 0 (by decide)
              have f0 := bb.fz 0 (by decide)
              have HBg := Hid.mk' (HBg.out.store rfl HKB.out (.slice (some ⟨Wd.heap.size, 0, none⟩) 0 c))
              go_simp
              refine hK.out _ _ HBg.out.ck (fun hHeld => ?_)
              clear hK K bb e0 f0
              generalize wm23.setCell ⟨wm18.heap.size, 0, none⟩ (.slice (some ⟨Wd.heap.size, 0, none⟩) 0 c) = wm24 at HBg hHeld ⊢
              (try simp only [Act.put, List.getElem_toArray, List.getElem_cons_succ, List.getElem_cons_zero, List.setIfInBounds_toArray, List.set_cons_succ, List.set_cons_zero])
              have bb := (HBg.out.b3 _ rfl)
              have e0 := bb.row 0 (by decide)
              have f0 := bb.fz 0 (by decide)
              have HLAI := Hid.mk' (HBg.out.lai rfl rfl rfl rfl HKB.out)
              clear bb
              refine wpAnyH_done (by kernel_rfl) ?_ _
              refine ahead_last rfl (fun K hK => ?_)
              go_simp
              refine hK _ _ ?_
              clear hK K
              go_wp2_with fail
              go_meet
              exact ⟨_, _, _, _, rfl, rfl, HLAI.out⟩
            exact AllReadyH.nil
          refine AllReadyH.cons (i := 6) (rs := []) rfl (fun K hK => ?_) ?_
          · have bb := (HBg.out.b2 _ rfl)
            have e0 := bb.row 0 (by decide)
            have f0 := bb.fz 0 (by decide)
            have HBg := Hid.mk' (HBg.out.store rfl HKB.out (.slice (some ⟨Wd.heap.size, 0, none⟩) 0 c))
            go_simp
            refine hK.out _ _ HBg.out.ck (fun hHeld => ?_)
            clear hK K bb e0 f0
            generalize wm22.setCell ⟨wm18.heap.size, 0, none⟩ (.slice (some ⟨Wd.heap.size, 0, none⟩) 0 c) = wm25 at HBg hHeld ⊢
            (try simp only [Act.put, List.getElem_toArray, List.getElem_cons_succ, List.getElem_cons_zero, List.setIfInBounds_toArray, List.set_cons_succ, List.set_cons_zero])
            refine wpAnyH_ready (rs := [3]) (by kernel_rfl) (by simp) ?_
            refine AllReadyH.cons (i := 3) (rs := []) rfl (fun K hK => ?_) ?_
            · refine tstep_make _ rfl _ _ _ rfl 3 i1 _ Tryd.underlying22 HINI.out.1 HINI.out.2.1 HINI.out.2.2.1 k1 rfl rfl (by rw [HINI.out.2.2.2]; omega) (by unfold maxLen; omega) ?_
              intro wm26 hown hgrow
              have HBg := Hid.mk' (HBg.out.add1 hown hgrow)
              refine hK.out _ _ HBg.out.ck (fun hHeld => ?_)
              clear hK K hown hgrow
              simp only [Act.put, List.getElem_toArray, List.getElem_cons_succ, List.getElem_cons_zero, List.setIfInBounds_toArray, List.set_cons_succ, List.set_cons_zero]
              have bb := (HBg.out.b3 _ rfl)
              have e0 := bb.row 0 (by decide)
              have f0 := bb.fz 0 (by decide)
              have HLAI := Hid.mk' (HBg.out.lai rfl rfl rfl rfl HKB.out)
              clear bb
              refine wpAnyH_done (by kernel_rfl) ?_ _
              refine ahead_last rfl (fun K hK => ?_)
              go_simp
              refine hK _ _ ?_
              clear hK K
              go_wp2_with fail
              go_meet
              exact ⟨_, _, _, _, rfl, rfl, HLAI.out⟩
            exact AllReadyH.nil
          exact AllReadyH.nil
        exact AllReadyH.nil
      exact AllReadyH.nil
    refine AllReadyH.cons (i := 3) (rs := [4, 5]) rfl (fun K hK => ?_) ?_
    · refine tstep_make _ rfl _ _ _ rfl 3 i1 _ Tryd.underlying22 HINI.out.1 HINI.out.2.1 HINI.out.2.2.1 k1 rfl rfl (by rw [HINI.out.2.2.2]; omega) (by unfold maxLen; omega) ?_
      intro wm27 hown hgrow
      have HBg := Hid.mk' (HBg.out.add1 hown hgrow)
      refine hK.out _ _ HBg.out.ck (fun hHeld => ?_)
      clear hK K hown hgrow
      simp only [Act.put, List.getElem_toArray, List.getElem_cons_succ, List.getElem_cons_zero, List.setIfInBounds_toArray, List.set_cons_succ, List.set_cons_zero]
      refine wpAnyH_ready (rs := [1, 4, 5]) (by kernel_rfl) (by simp) ?_
      refine AllReadyH.cons (i := 1) (rs := [4, 5]) rfl (fun K hK => ?_) ?_
      · refine tstep_room _ rfl _ _ _ rfl 22 i0 _ Tryd.underlying42 HINF.out.1 HINF.out.2.1 HINF.out.2.2.1 c rfl rfl (by rw [HINF.out.2.2.2]; omega) (by unfold maxLen; omega) ?_
        intro wm28 hown hgrow
        have HBg := Hid.mk' (HBg.out.add0 hown hgrow)
        refine hK.out _ _ HBg.out.ck (fun hHeld => ?_)
        clear hK K hown hgrow
        simp only [Act.put, List.getElem_toArray, List.getElem_cons_succ, List.getElem_cons_zero, List.setIfInBounds_toArray, List.set_cons_succ, List.set_cons_zero]
        refine wpAnyH_ready (rs := [4, 5]) (by kernel_rfl) (by simp) ?_
        refine AllReadyH.cons (i := 4) (rs := [5]) rfl (fun K hK => ?_) ?_
        · go_simp
          have HBg := Hid.mk' (HBg.out.add2 42)
          refine hK.out _ _ HBg.out.ck (fun hHeld => ?_)
          clear hK K
          generalize wm28.alloc (.cells #[.slice none 0 0] 42) = wm29 at HBg hHeld ⊢
          (try simp only [Act.put, List.getElem_toArray, List.getElem_cons_succ, List.getElem_cons_zero, List.setIfInBounds_toArray, List.set_cons_succ, List.set_cons_zero])
          refine wpAnyH_ready (rs := [5]) (by kernel_rfl) (by simp) ?_
          refine AllReadyH.cons (i := 5) (rs := []) rfl (fun K hK => ?_) ?_
          · go_simp
            have HBg := Hid.mk' (HBg.out.add3 22)
            refine hK.out _ _ HBg.out.ck (fun hHeld => ?_)
            clear hK K
            generalize wm29.alloc (.cells #[.slice none 0 0] 22) = wm30 at HBg hHeld ⊢
            (try simp only [Act.put, List.getElem_toArray, List.getElem_cons_succ, List.getElem_cons_zero, List.setIfInBounds_toArray, List.set_cons_succ, List.set_cons_zero])
            refine wpAnyH_ready (rs := [6]) (by kernel_rfl) (by simp) ?_
            refine AllReadyH.cons (i := 6) (rs := []) rfl (fun K hK => ?_) ?_
            · have bb := (HBg.out.b2 _ rfl)
              have e0 := bb.row 0 (by decide)
              have f0 := bb.fz 0 (by decide)
              have HBg := Hid.mk' (HBg.out.store rfl HKB.out (.slice (some ⟨wm27.heap.size, 0, none⟩) 0 c))
              go_simp
              refine hK.out _ _ HBg.out.ck (fun hHeld => ?_)
              clear hK K bb e0 f0
              generalize wm30.setCell ⟨wm28.heap.size, 0, none⟩ (.slice (some ⟨wm27.heap.size, 0, none⟩) 0 c) = wm31 at HBg hHeld ⊢
              (try simp only [Act.put, List.getElem_toArray, List.getElem_cons_succ, List.getElem_cons_zero, List.setIfInBounds_toArray, List.set_cons_succ, List.set_cons_zero])
              have bb := (HBg.out.b3 _ rfl)
              have e0 := bb.row 0 (by decide)
              have f0 := bb.fz 0 (by decide)
              have HLAI := Hid.mk' (HBg.out.lai rfl rfl rfl rfl HKB.out)
              clear bb
              refine wpAnyH_done (by kernel_rfl) ?_ _
              refine ahead_last rfl (fun K hK => ?_)
              go_simp
              refine hK _ _ ?_
              clear hK K
              go_wp2_with fail
              go_meet
              exact ⟨_, _, _, _, rfl, rfl, HLAI.out⟩
            exact AllReadyH.nil
          exact AllReadyH.nil
        refine AllReadyH.cons (i := 5) (rs := []) rfl (fun K hK => ?_) ?_
        · go_simp
          have HBg := Hid.mk' (HBg.out.add3 22)
          refine hK.out _ _ HBg.out.ck (fun hHeld => ?_)
          clear hK K
          generalize wm28.alloc (.cells #[.slice none 0 0] 22) = wm32 at HBg hHeld ⊢
          (try simp only [Act.put, List.getElem_toArray, List.getElem_cons_succ, List.getElem_cons_zero, List.setIfInBounds_toArray, List.set_cons_succ, List.set_cons_zero])
          refine wpAnyH_ready (rs := [4]) (by kernel_rfl) (by simp) ?_
          refine AllReadyH.cons (i := 4) (rs := []) rfl (fun K hK => ?_) ?_
          · go_simp
            have HBg := Hid.mk' (HBg.out.add2 42)
            refine hK.out _ _ HBg.out.ck (fun hHeld => ?_)
            clear hK K
            generalize wm32.alloc (.cells #[.slice none 0 0] 42) = wm33 at HBg hHeld ⊢
            (try simp only [Act.put, List.getElem_toArray, List.getElem_cons_succ, List.getElem_cons_zero, List.setIfInBounds_toArray, List.set_cons_succ, List.set_cons_zero])
            refine wpAnyH_ready (rs := [6]) (by kernel_rfl) (by simp) ?_
            refine AllReadyH.cons (i := 6) (rs := []) rfl (fun K hK => ?_) ?_
            · have bb := (HBg.out.b2 _ rfl)
              have e0 := bb.row 0 (by decide)
              have f0 := bb.fz 0 (by decide)
              have HBg := Hid.mk' (HBg.out.store rfl HKB.out (.slice (some ⟨wm27.heap.size, 0, none⟩) 0 c))
              go_simp
              refine hK.out _ _ HBg.out.ck (fun hHeld => ?_)
              clear hK K bb e0 f0
              generalize wm33.setCell ⟨wm32.heap.size, 0, none⟩ (.slice (some ⟨wm27.heap.size, 0, none⟩) 0 c) = wm34 at HBg hHeld ⊢
              (try simp only [Act.put, List.getElem_toArray, List.getElem_cons_succ, List.getElem_cons_zero, List.setIfInBounds_toArray, List.set_cons_succ, List.set_cons_zero])
              have bb := (HBg.out.b3 _ rfl)
              have e0 := bb.row 0 (by decide)
              have f0 := bb.fz 0 (by decide)
              have HLAI := Hid.mk' (HBg.out.lai rfl rfl rfl rfl HKB.out)
              clear bb
              refine wpAnyH_done (by kernel_rfl) ?_ _
              refine ahead_last rfl (fun K hK => ?_)
              go_simp
              refine hK _ _ ?_
              clear hK K
              go_wp2_with fail
              go_meet
              exact ⟨_, _, _, _, rfl, rfl, HLAI.out⟩
            exact AllReadyH.nil
          exact AllReadyH.nil
        exact AllReadyH.nil
      refine AllReadyH.cons (i := 4) (rs := [5]) rfl (fun K hK => ?_) ?_
      · go_simp
        have HBg := Hid.mk' (HBg.out.add2 42)
        refine hK.out _ _ HBg.out.ck (fun hHeld => ?_)
        clear hK K
        generalize wm27.alloc (.cells #[.slice none 0 0] 42) = wm35 at HBg hHeld ⊢
        (try simp only [Act.put, List.getElem_toArray, List.getElem_cons_succ, List.getElem_cons_zero, List.setIfInBounds_toArray, List.set_cons_succ, List.set_cons_zero])
        refine wpAnyH_ready (rs := [1, 5]) (by kernel_rfl) (by simp) ?_
        refine AllReadyH.cons (i := 1) (rs := [5]) rfl (fun K hK => ?_) ?_
        · refine tstep_room _ rfl _ _ _ rfl 22 i0 _ Tryd.underlying42 HINF.out.1 HINF.out.2.1 HINF.out.2.2.1 c rfl rfl (by rw [HINF.out.2.2.2]; omega) (by unfold maxLen; omega) ?_
          intro wm36 hown hgrow
          have HBg := Hid.mk' (HBg.out.add0 hown hgrow)
          refine hK.out _ _ HBg.out.ck (fun hHeld => ?_)
          clear hK K hown hgrow
          simp only [Act.put, List.getElem_toArray, List.getElem_cons_succ, List.getElem_cons_zero, List.setIfInBounds_toArray, List.set_cons_succ, List.set_cons_zero]
          refine wpAnyH_ready (rs := [5]) (by kernel_rfl) (by simp) ?_
          refine AllReadyH.cons (i := 5) (rs := []) rfl (fun K hK => ?_) ?_
          · go_simp
            have HBg := Hid.mk' (HBg.out.add3 22)
            refine hK.out _ _ HBg.out.ck (fun hHeld => ?_)
            clear hK K
            generalize wm36.alloc (.cells #[.slice none 0 0] 22) = wm37 at HBg hHeld ⊢
            (try simp only [Act.put, List.getElem_toArray, List.getElem_cons_succ, List.getElem_cons_zero, List.setIfInBounds_toArray, List.set_cons_succ, List.set_cons_zero])
            refine wpAnyH_ready (rs := [6]) (by kernel_rfl) (by simp) ?_
            refine AllReadyH.cons (i := 6) (rs := []) rfl (fun K hK => ?_) ?_
            · have bb := (HBg.out.b2 _ rfl)
              have e0 := bb.row 0 (by decide)
              have f0 := bb.fz 0 (by decide)
              have HBg := Hid.mk' (HBg.out.store rfl HKB.out (.slice (some ⟨wm35.heap.size, 0, none⟩) 0 c))
              go_simp
              refine hK.out _ _ HBg.out.ck (fun hHeld => ?_)
              clear hK K bb e0 f0
              generalize wm37.setCell ⟨wm27.heap.size, 0, none⟩ (.slice (some ⟨wm35.heap.size, 0, none⟩) 0 c) = wm38 at HBg hHeld ⊢
              (try simp only [Act.put, List.getElem_toArray, List.getElem_cons_succ, List.getElem_cons_zero, List.setIfInBounds_toArray, List.set_cons_succ, List.set_cons_zero])
              have bb := (HBg.out.b3 _ rfl)
              have e0 := bb.row 0 (by decide)
              have f0 := bb.fz 0 (by decide)
              have HLAI := Hid.mk' (HBg.out.lai rfl rfl rfl rfl HKB.out)
              clear bb
              refine wpAnyH_done (by kernel_rfl) ?_ _
              refine ahead_last rfl (fun K hK => ?_)
              go_simp
              refine hK _ _ ?_
              clear hK K
              go_wp2_with fail
              go_meet
              exact ⟨_, _, _, _, rfl, rfl, HLAI.out⟩
            exact AllReadyH.nil
          exact AllReadyH.nil
        refine AllReadyH.cons (i := 5) (rs := []) rfl (fun K hK => ?_) ?_
        · go_simp
          have HBg := Hid.mk' (HBg.out.add3 22)
          refine hK.out _ _ HBg.out.ck (fun hHeld => ?_)
          clear hK K
          generalize wm35.alloc (.cells #[.slice none 0 0] 22) = wm39 at HBg hHeld ⊢
          (try simp only [Act.put, List.getElem_toArray, List.getElem_cons_succ, List.getElem_cons_zero, List.setIfInBounds_toArray, List.set_cons_succ, List.set_cons_zero])
          refine wpAnyH_ready (rs := [1]) (by kernel_rfl) (by simp) ?_
          refine AllReadyH.cons (i := 1) (rs := []) rfl (fun K hK => ?_) ?_
          · refine tstep_room _ rfl _ _ _ rfl 22 i0 _ Tryd.underlying42 HINF.out.1 HINF.out.2.1 HINF.out.2.2.1 c rfl rfl (by rw [HINF.out.2.2.2]; omega) (by unfold maxLen; omega) ?_
            intro wm40 hown hgrow
            have HBg := Hid.mk' (HBg.out.add0 hown hgrow)
            refine hK.out _ _ HBg.out.ck (fun hHeld => ?_)
            clear hK K hown hgrow
            simp only [Act.put, List.getElem_toArray, List.getElem_cons_succ, List.getElem_cons_zero, List.setIfInBounds_toArray, List.set_cons_succ, List.set_cons_zero]
            refine wpAnyH_ready (rs := [6]) (by kernel_rfl) (by simp) ?_
            refine AllReadyH.cons (i := 6) (rs := []) rfl (fun K hK => ?_) ?_
            · have bb := (HBg.out.b2 _ rfl)
              have e0 := bb.row 0 (by decide)
              have f0 := bb.fz 0 (by decide)
              have HBg := Hid.mk' (HBg.out.store rfl HKB.out (.slice (some ⟨wm39.heap.size, 0, none⟩) 0 c))
              go_simp
              refine hK.out _ _ HBg.out.ck (fun hHeld => ?_)
              clear hK K bb e0 f0
              generalize wm40.setCell ⟨wm27.heap.size, 0, none⟩ (.slice (some ⟨wm39.heap.size, 0, none⟩) 0 c) = wm41 at HBg hHeld ⊢
              (try simp only [Act.put, List.getElem_toArray, List.getElem_cons_succ, List.getElem_cons_zero, List.setIfInBounds_toArray, List.set_cons_succ, List.set_cons_zero])
              have bb := (HBg.out.b3 _ rfl)
              have e0 := bb.row 0 (by decide)
              have f0 := bb.fz 0 (by decide)
              have HLAI := Hid.mk' (HBg.out.lai rfl rfl rfl rfl HKB.out)
              clear bb
              refine wpAnyH_done (by kernel_rfl) ?_ _
              refine ahead_last rfl (fun K hK => ?_)
              go_simp
              refine hK _ _ ?_
              clear hK K
              go_wp2_with fail
              go_meet
              exact ⟨_, _, _, _, rfl, rfl, HLAI.out⟩
            exact AllReadyH.nil
          exact AllReadyH.nil
        exact AllReadyH.nil
      refine AllReadyH.cons (i := 5) (rs := []) rfl (fun K hK => ?_) ?_
      · go_simp
        have HBg := Hid.mk' (HBg.out.add3 22)
        refine hK.out _ _ HBg.out.ck (fun hHeld => ?_)
        clear hK K
        generalize wm27.alloc (.cells #[.slice none 0 0] 22) = wm42 at HBg hHeld ⊢
        (try simp only [Act.put, List.getElem_toArray, List.getElem_cons_succ, List.getElem_cons_zero, List.setIfInBounds_toArray, List.set_cons_succ, List.set_cons_zero])
        refine wpAnyH_ready (rs := [1, 4]) (by kernel_rfl) (by simp) ?_
        refine AllReadyH.cons (i := 1) (rs := [4]) rfl (fun K hK => ?_) ?_
        · refine tstep_room _ rfl _ _ _ rfl 22 i0 _ Tryd.underlying42 HINF.out.1 HINF.out.2.1 HINF.out.2.2.1 c rfl rfl (by rw [HINF.out.2.2.2]; omega) (by unfold maxLen; omega) ?_
          intro wm43 hown hgrow
          have HBg := Hid.mk' (HBg.out.add0 hown hgrow)
          refine hK.out _ _ HBg.out.ck (fun hHeld => ?_)
          clear hK K hown hgrow
          simp only [Act.put, List.getElem_toArray, List.getElem_cons_succ, List.getElem_cons_zero, List.setIfInBounds_toArray, List.set_cons_succ, List.set_cons_zero]
          refine wpAnyH_ready (rs := [4]) (by kernel_rfl) (by simp) ?_
          refine AllReadyH.cons (i := 4) (rs := []) rfl (fun K hK => ?_) ?_
          · go_simp
            have HBg := Hid.mk' (HBg.out.add2 42)
            refine hK.out _ _ HBg.out.ck (fun hHeld => ?_)
            clear hK K
            generalize wm43.alloc (.cells #[.slice none 0 0] 42) = wm44 at HBg hHeld ⊢
            (try simp only [Act.put, List.getElem_toArray, List.getElem_cons_succ, List.getElem_cons_zero, List.setIfInBounds_toArray, List.set_cons_succ, List.set_cons_zero])
            refine wpAnyH_ready (rs := [6]) (by kernel_rfl) (by simp) ?_
            refine AllReadyH.cons (i := 6) (rs := []) rfl (fun K hK => ?_) ?_
            · have bb := (HBg.out.b2 _ rfl)
              have e0 := bb.row 0 (by decide)
              have f0 := bb.fz 0 (by decide)
              have HBg := Hid.mk' (HBg.out.store rfl HKB.out (.slice (some ⟨wm42.heap.size, 0, none⟩) 0 c))
              go_simp
              refine hK.out _ _ HBg.out.ck (fun hHeld => ?_)
              clear hK K bb e0 f0
              generalize wm44.setCell ⟨wm43.heap.size, 0, none⟩ (.slice (some ⟨wm42.heap.size, 0, none⟩) 0 c) = wm45 at HBg hHeld ⊢
              (try simp only [Act.put, List.getElem_toArray, List.getElem_cons_succ, List.getElem_cons_zero, List.setIfInBounds_toArray, List.set_cons_succ, List.set_cons_zero])
              have bb := (HBg.out.b3 _ rfl)
              have e0 := bb.row 0 (by decide)
              have f0 := bb.fz 0 (by decide)
              have HLAI := Hid.mk' (HBg.out.lai rfl rfl rfl rfl HKB.out)
              clear bb
              refine wpAnyH_done (by kernel_rfl) ?_ _
              refine ahead_last rfl (fun K hK => ?_)
              go_simp
              refine hK _ _ ?_
              clear hK K
              go_wp2_with fail
              go_meet
              exact ⟨_, _, _, _, rfl, rfl, HLAI.out⟩
            exact AllReadyH.nil
          exact AllReadyH.nil
        refine AllReadyH.cons (i := 4) (rs := []) rfl (fun K hK => ?_) ?_
        · go_simp
          have HBg := Hid.mk' (HBg.out.add2 42)
          refine hK.out _ _ HBg.out.ck (fun hHeld => ?_)
          clear hK K
          generalize wm42.alloc (.cells #[.slice none 0 0] 42) = wm46 at HBg hHeld ⊢
          (try simp only [Act.put, List.getElem_toArray, List.getElem_cons_succ, List.getElem_cons_zero, List.setIfInBounds_toArray, List.set_cons_succ, List.set_cons_zero])
          refine wpAnyH_ready (rs := [1]) (by kernel_rfl) (by simp) ?_
          refine AllReadyH.cons (i := 1) (rs := []) rfl (fun K hK => ?_) ?_
          · refine tstep_room _ rfl _ _ _ rfl 22 i0 _ Tryd.underlying42 HINF.out.1 HINF.out.2.1 HINF.out.2.2.1 c rfl rfl (by rw [HINF.out.2.2.2]; omega) (by unfold maxLen; omega) ?_
            intro wm47 hown hgrow
            have HBg := Hid.mk' (HBg.out.add0 hown hgrow)
            refine hK.out _ _ HBg.out.ck (fun hHeld => ?_)
            clear hK K hown hgrow
            simp only [Act.put, List.getElem_toArray, List.getElem_cons_succ, List.getElem_cons_zero, List.setIfInBounds_toArray, List.set_cons_succ, List.set_cons_zero]
            refine wpAnyH_ready (rs := [6]) (by kernel_rfl) (by simp) ?_
            refine AllReadyH.cons (i := 6) (rs := []) rfl (fun K hK => ?_) ?_
            · have bb := (HBg.out.b2 _ rfl)
              have e0 := bb.row 0 (by decide)
              have f0 := bb.fz 0 (by decide)
              have HBg := Hid.mk' (HBg.out.store rfl HKB.out (.slice (some ⟨wm46.heap.size, 0, none⟩) 0 c))
              go_simp
              refine hK.out _ _ HBg.out.ck (fun hHeld => ?_)
              clear hK K bb e0 f0
              generalize wm47.setCell ⟨wm42.heap.size, 0, none⟩ (.slice (some ⟨wm46.heap.size, 0, none⟩) 0 c) = wm48 at HBg hHeld ⊢
              (try simp only [Act.put, List.getElem_toArray, List.getElem_cons_succ, List.getElem_cons_zero, List.setIfInBounds_toArray, List.set_cons_succ, List.set_cons_zero])
              have bb := (HBg.out.b3 _ rfl)
              have e0 := bb.row 0 (by decide)
              have f0 := bb.fz 0 (by decide)
              have HLAI := Hid.mk' (HBg.out.lai rfl rfl rfl rfl HKB.out)
              clear bb
              refine wpAnyH_done (by kernel_rfl) ?_ _
              refine ahead_last rfl (fun K hK => ?_)
              go_simp
              refine hK _ _ ?_
              clear hK K
              go_wp2_with fail
              go_meet
              exact ⟨_, _, _, _, rfl, rfl, HLAI.out⟩
            exact AllReadyH.nil
          exact AllReadyH.nil
        exact AllReadyH.nil
      exact AllReadyH.nil
    refine AllReadyH.cons (i := 4) (rs := [5]) rfl (fun K hK => ?_) ?_
    · go_simp
      have HBg := Hid.mk' (HBg.out.add2 42)
      refine hK.out _ _ HBg.out.ck (fun hHeld => ?_)
      clear hK K
      generalize Wd.alloc (.cells #[.slice none 0 0] 42) = wm49 at HBg hHeld ⊢
      (try simp only [Act.put, List.getElem_toArray, List.getElem_cons_succ, List.getElem_cons_zero, List.setIfInBounds_toArray, List.set_cons_succ, List.set_cons_zero])
      refine wpAnyH_ready (rs := [1, 3, 5]) (by kernel_rfl) (by simp) ?_
      refine AllReadyH.cons (i := 1) (rs := [3, 5]) rfl (fun K hK => ?_) ?_
      · refine tstep_room _ rfl _ _ _ rfl 22 i0 _ Tryd.underlying42 HINF.out.1 HINF.out.2.1 HINF.out.2.2.1 c rfl rfl (by rw [HINF.out.2.2.2]; omega) (by unfold maxLen; omega) ?_
        intro wm50 hown hgrow
        have HBg := Hid.mk' (HBg.out.add0 hown hgrow)
        refine hK.out _ _ HBg.out.ck (fun hHeld => ?_)
        clear hK K hown hgrow
        simp only [Act.put, List.getElem_toArray, List.getElem_cons_succ, List.getElem_cons_zero, List.setIfInBounds_toArray, List.set_cons_succ, List.set_cons_zero]
        refine wpAnyH_ready (rs := [3, 5]) (by kernel_rfl) (by simp) ?_
        refine AllReadyH.cons (i := 3) (rs := [5]) rfl (fun K hK => ?_) ?_
        · refine tstep_make _ rfl _ _ _ rfl 3 i1 _ Tryd.underlying22 HINI.out.1 HINI.out.2.1 HINI.out.2.2.1 k1 rfl rfl (by rw [HINI.out.2.2.2]; omega) (by unfold maxLen; omega) ?_
          intro wm51 hown hgrow
          have HBg := Hid.mk' (HBg.out.add1 hown hgrow)
          refine hK.out _ _ HBg.out.ck (fun hHeld => ?_)
          clear hK K hown hgrow
          simp only [Act.put, List.getElem_toArray, List.getElem_cons_succ, List.getElem_cons_zero, List.setIfInBounds_toArray, List.set_cons_succ, List.set_cons_zero]
          refine wpAnyH_ready (rs := [5]) (by kernel_rfl) (by simp) ?_
          refine AllReadyH.cons (i := 5) (rs := []) rfl (fun K hK => ?_) ?_
          · go_simp
            have HBg := Hid.mk' (HBg.out.add3 22)
            refine hK.out _ _ HBg.out.ck (fun hHeld => ?_)
            clear hK K
            generalize wm51.alloc (.cells #[.slice none 0 0] 22) = wm52 at HBg hHeld ⊢
            (try simp only [Act.put, List.getElem_toArray, List.getElem_cons_succ, List.getElem_cons_zero, List.setIfInBounds_toArray, List.set_cons_succ, List.set_cons_zero])
            refine wpAnyH_ready (rs := [6]) (by kernel_rfl) (by simp) ?_
            refine AllReadyH.cons (i := 6) (rs := []) rfl (fun K hK => ?_) ?_
            · have bb := (HBg.out.b2 _ rfl)
              have e0 := bb.row 0 (by decide)
              have f0 := bb.fz 0 (by decide)
              have HBg := Hid.mk' (HBg.out.store rfl HKB.out (.slice (some ⟨wm49.heap.size, 0, none⟩) 0 c))
              go_simp
              refine hK.out _ _ HBg.out.ck (fun hHeld => ?_)
              clear hK K bb e0 f0
              generalize wm52.setCell ⟨Wd.heap.size, 0, none⟩ (.slice (some ⟨wm49.heap.size, 0, none⟩) 0 c) = wm53 at HBg hHeld ⊢
              (try simp only [Act.put, List.getElem_toArray, List.getElem_cons_succ, List.getElem_cons_zero, List.setIfInBounds_toArray, List.set_cons_succ, List.set_cons_zero])
              have bb := (HBg.out.b3 _ rfl)
              have e0 := bb.row 0 (by decide)
              have f0 := bb.fz 0 (by decide)
              have HLAI := Hid.mk' (HBg.out.lai rfl rfl rfl rfl HKB.out)
              clear bb
              refine wpAnyH_done (by kernel_rfl) ?_ _
              refine ahead_last rfl (fun K hK => ?_)
              go_simp
              refine hK _ _ ?_
              clear hK K
              go_wp2_with fail
              go_meet
              exact ⟨_, _, _, _, rfl, rfl, HLAI.out⟩
            exact AllReadyH.nil
          exact AllReadyH.nil
        refine AllReadyH.cons (i := 5) (rs := []) rfl (fun K hK => ?_) ?_
        · go_simp
          have HBg := Hid.mk' (HBg.out.add3 22)
          refine hK.out _ _ HBg.out.ck (fun hHeld => ?_)
          clear hK K
          generalize wm50.alloc (.cells #[.slice none 0 0] 22) = wm54 at HBg hHeld ⊢
          (try simp only [Act.put, List.getElem_toArray, List.getElem_cons_succ, List.getElem_cons_zero, List.setIfInBounds_toArray, List.set_cons_succ, List.set_cons_zero])
          refine wpAnyH_ready (rs := [3, 6]) (by kernel_rfl) (by simp) ?_
          refine AllReadyH.cons (i := 3) (rs := [6]) rfl (fun K hK => ?_) ?_
          · refine tstep_make _ rfl _ _ _ rfl 3 i1 _ Tryd.underlying22 HINI.out.1 HINI.out.2.1 HINI.out.2.2.1 k1 rfl rfl (by rw [HINI.out.2.2.2]; omega) (by unfold maxLen; omega) ?_
            intro wm55 hown hgrow
            have HBg := Hid.mk' (HBg.out.add1 hown hgrow)
            refine hK.out _ _ HBg.out.ck (fun hHeld => ?_)
            clear hK K hown hgrow
            simp only [Act.put, List.getElem_toArray, List.getElem_cons_succ, List.getElem_cons_zero, List.setIfInBounds_toArray, List.set_cons_succ, List.set_cons_zero]
            refine wpAnyH_ready (rs := [6]) (by kernel_rfl) (by simp) ?_
            refine AllReadyH.cons (i := 6) (rs := []) rfl (fun K hK => ?_) ?_
            · have bb := (HBg.out.b2 _ rfl)
              have e0 := bb.row 0 (by decide)
              have f0 := bb.fz 0 (by decide)
              have HBg := Hid.mk' (HBg.out.store rfl HKB.out (.slice (some ⟨wm49.heap.size, 0, none⟩) 0 c))
              go_simp
              refine hK.out _ _ HBg.out.ck (fun hHeld => ?_)
              clear hK K bb e0 f0
              generalize wm55.setCell ⟨Wd.heap.size, 0, none⟩ (.slice (some ⟨wm49.heap.size, 0, none⟩) 0 c) = wm56 at HBg hHeld ⊢
              (try simp only [Act.put, List.getElem_toArray, List.getElem_cons_succ, List.getElem_cons_zero, List.setIfInBounds_toArray, List.set_cons_succ, List.set_cons_zero])
              have bb := (HBg.out.b3 _ rfl)
              have e0 := bb.row 0 (by decide)
              have f0 := bb.fz 0 (by decide)
              have HLAI := Hid.mk' (HBg.out.lai rfl rfl rfl rfl HKB.out)
              clear bb
              refine wpAnyH_done (by kernel_rfl) ?_ _
              refine ahead_last rfl (fun K hK => ?_)
              go_simp
              refine hK _ _ ?_
              clear hK K
              go_wp2_with fail
              go_meet
              exact ⟨_, _, _, _, rfl, rfl, HLAI.out⟩
            exact AllReadyH.nil
          refine AllReadyH.cons (i := 6) (rs := []) rfl (fun K hK => ?_) ?_
          · have bb := (HBg.out.b2 _ rfl)
            have e0 := bb.row 0 (by decide)
            have f0 := bb.fz 0 (by decide)
            have HBg := Hid.mk' (HBg.out.store rfl HKB.out (.slice (some ⟨wm49.heap.size, 0, none⟩) 0 c))
            go_simp
            refine hK.out _ _ HBg.out.ck (fun hHeld => ?_)
            clear hK K bb e0 f0
            generalize wm54.setCell ⟨Wd.heap.size, 0, none⟩ (.slice (some ⟨wm49.heap.size, 0, none⟩) 0 c) = wm57 at HBg hHeld ⊢
            (try simp only [Act.put, List.getElem_toArray, List.getElem_cons_succ, List.getElem_cons_zero, List.setIfInBounds_toArray, List.set_cons_succ, List.set_cons_zero])
            refine wpAnyH_ready (rs := [3]) (by kernel_rfl) (by simp) ?_
            refine AllReadyH.cons (i := 3) (rs := []) rfl (fun K hK => ?_) ?_
            · refine tstep_make _ rfl _ _ _ rfl 3 i1 _ Tryd.underlying22 HINI.out.1 HINI.out.2.1 HINI.out.2.2.1 k1 rfl rfl (by rw [HINI.out.2.2.2]; omega) (by unfold maxLen; omega) ?_
              intro wm58 hown hgrow
              have HBg := Hid.mk' (HBg.out.add1 hown hgrow)
              refine hK.out _ _ HBg.out.ck (fun hHeld => ?_)
              clear hK K hown hgrow
              simp only [Act.put, List.getElem_toArray, List.getElem_cons_succ, List.getElem_cons_zero, List.setIfInBounds_toArray, List.set_cons_succ, List.set_cons_zero]
              have bb := (HBg.out.b3 _ rfl)
              have e0 := bb.row 0 (by decide)
              have f0 := bb.fz 0 (by decide)
              have HLAI := Hid.mk' (HBg.out.lai rfl rfl rfl rfl HKB.out)
              clear bb
              refine wpAnyH_done (by kernel_rfl) ?_ _
              refine ahead_last rfl (fun K hK => ?_)
              go_simp
              refine hK _ _ ?_
              clear hK K
              go_wp2_with fail
              go_meet
              exact ⟨_, _, _, _, rfl, rfl, HLAI.out⟩
            exact AllReadyH.nil
          exact AllReadyH.nil
        exact AllReadyH.nil
      refine AllReadyH.cons (i := 3) (rs := [5]) rfl (fun K hK => ?_) ?_
      · refine tstep_make _ rfl _ _ _ rfl 3 i1 _ Tryd.underlying22 HINI.out.1 HINI.out.2.1 HINI.out.2.2.1 k1 rfl rfl (by rw [HINI.out.2.2.2]; omega) (by unfold maxLen; omega) ?_
        intro wm59 hown hgrow
        have HBg := Hid.mk' (HBg.out.add1 hown hgrow)
        refine hK.out _ _ HBg.out.ck (fun hHeld => ?_)
        clear hK K hown hgrow
        simp only [Act.put, List.getElem_toArray, List.getElem_cons_succ, List.getElem_cons_zero, List.setIfInBounds_toArray, List.set_cons_succ, List.set_cons_zero]
        refine wpAnyH_ready (rs := [1, 5]) (by kernel_rfl) (by simp) ?_
        refine AllReadyH.cons (i := 1) (rs := [5]) rfl (fun K hK => ?_) ?_
        · refine tstep_room _ rfl _ _ _ rfl 22 i0 _ Tryd.underlying42 HINF.out.1 HINF.out.2.1 HINF.out.2.2.1 c rfl rfl (by rw [HINF.out.2.2.2]; omega) (by unfold maxLen; omega) ?_
          intro wm60 hown hgrow
          have HBg := Hid.mk' (HBg.out.add0 hown hgrow)
          refine hK.out _ _ HBg.out.ck (fun hHeld => ?_)
          clear hK K hown hgrow
          simp only [Act.put, List.getElem_toArray, List.getElem_cons_succ, List.getElem_cons_zero, List.setIfInBounds_toArray, List.set_cons_succ, List.set_cons_zero]
          refine wpAnyH_ready (rs := [5]) (by kernel_rfl) (by simp) ?_
          refine AllReadyH.cons (i := 5) (rs := []) rfl (fun K hK => ?_) ?_
          · go_simp
            have HBg := Hid.mk' (HBg.out.add3 22)
            refine hK.out _ _ HBg.out.ck (fun hHeld => ?_)
            clear hK K
            generalize wm60.alloc (.cells #[.slice none 0 0] 22) = wm61 at HBg hHeld ⊢
            (try simp only [Act.put, List.getElem_toArray, List.getElem_cons_succ, List.getElem_cons_zero, List.setIfInBounds_toArray, List.set_cons_succ, List.set_cons_zero])
            refine wpAnyH_ready (rs := [6]) (by kernel_rfl) (by simp) ?_
            refine AllReadyH.cons (i := 6) (rs := []) rfl (fun K hK => ?_) ?_
            · have bb := (HBg.out.b2 _ rfl)
              have e0 := bb.row 0 (by decide)
              have f0 := bb.fz 0 (by decide)
              have HBg := Hid.mk' (HBg.out.store rfl HKB.out (.slice (some ⟨wm59.heap.size, 0, none⟩) 0 c))
              go_simp
              refine hK.out _ _ HBg.out.ck (fun hHeld => ?_)
              clear hK K bb e0 f0
              generalize wm61.setCell ⟨Wd.heap.size, 0, none⟩ (.slice (some ⟨wm59.heap.size, 0, none⟩) 0 c) = wm62 at HBg hHeld ⊢
              (try simp only [Act.put, List.getElem_toArray, List.getElem_cons_succ, List.getElem_cons_zero, List.setIfInBounds_toArray, List.set_cons_succ, List.set_cons_zero])
              have bb := (HBg.out.b3 _ rfl)
              have e0 := bb.row 0 (by decide)
              have f0 := bb.fz 0 (by decide)
              have HLAI := Hid.mk' (HBg.out.lai rfl rfl rfl rfl HKB.out)
              clear bb
              refine wpAnyH_done (by kernel_rfl) ?_ _
              refine ahead_last rfl (fun K hK => ?_)
              go_simp
              refine hK _ _ ?_
              clear hK K
              go_wp2_with fail
              go_meet
              exact ⟨_, _, _, _, rfl, rfl, HLAI.out⟩
            exact AllReadyH.nil
          exact AllReadyH.nil
        refine AllReadyH.cons (i := 5) (rs := []) rfl (fun K hK => ?_) ?_
        · go_simp
          have HBg := Hid.mk' (HBg.out.add3 22)
          refine hK.out _ _ HBg.out.ck (fun hHeld => ?_)
          clear hK K
          generalize wm59.alloc (.cells #[.slice none 0 0] 22) = wm63 at HBg hHeld ⊢
          (try simp only [Act.put, List.getElem_toArray, List.getElem_cons_succ, List.getElem_cons_zero, List.setIfInBounds_toArray, List.set_cons_succ, List.set_cons_zero])
          refine wpAnyH_ready (rs := [1]) (by kernel_rfl) (by simp) ?_
          refine AllReadyH.cons (i := 1) (rs := []) rfl (fun K hK => ?_) ?_
          · refine tstep_room _ rfl _ _ _ rfl 22 i0 _ Tryd.underlying42 HINF.out.1 HINF.out.2.1 HINF.out.2.2.1 c rfl rfl (by rw [HINF.out.2.2.2]; omega) (by unfold maxLen; omega) ?_
            intro wm64 hown hgrow
            have HBg := Hid.mk' (HBg.out.add0 hown hgrow)
            refine hK.out _ _ HBg.out.ck (fun hHeld => ?_)
            clear hK K hown hgrow
            simp only [Act.put, List.getElem_toArray, List.getElem_cons_succ, List.getElem_cons_zero, List.setIfInBounds_toArray, List.set_cons_succ, List.set_cons_zero]
            refine wpAnyH_ready (rs := [6]) (by kernel_rfl) (by simp) ?_
            refine AllReadyH.cons (i := 6) (rs := []) rfl (fun K hK => ?_) ?_
            · have bb := (HBg.out.b2 _ rfl)
              have e0 := bb.row 0 (by decide)
              have f0 := bb.fz 0 (by decide)
              have HBg := Hid.mk' (HBg.out.store rfl HKB.out (.slice (some ⟨wm63.heap.size, 0, none⟩) 0 c))
              go_simp
              refine hK.out _ _ HBg.out.ck (fun hHeld => ?_)
              clear hK K bb e0 f0
              generalize wm64.setCell ⟨Wd.heap.size, 0, none⟩ (.slice (some ⟨wm63.heap.size, 0, none⟩) 0 c) = wm65 at HBg hHeld ⊢
              (try simp only [Act.put, List.getElem_toArray, List.getElem_cons_succ, List.getElem_cons_zero, List.setIfInBounds_toArray, List.set_cons_succ, List.set_cons_zero])
              have bb := (HBg.out.b3 _ rfl)
              have e0 := bb.row 0 (by decide)
              have f0 := bb.fz 0 (by decide)
              have HLAI := Hid.mk' (HBg.out.lai rfl rfl rfl rfl HKB.out)
              clear bb
              refine wpAnyH_done (by kernel_rfl) ?_ _
              refine ahead_last rfl (fun K hK => ?_)
              go_simp
              refine hK _ _ ?_
              clear hK K
              go_wp2_with fail
              go_meet
              exact ⟨_, _, _, _, rfl, rfl, HLAI.out⟩
            exact AllReadyH.nil
          exact AllReadyH.nil
        exact AllReadyH.nil
      refine AllReadyH.cons (i := 5) (rs := []) rfl (fun K hK => ?_) ?_
      · go_simp
        have HBg := Hid.mk' (HBg.out.add3 22)
        refine hK.out _ _ HBg.out.ck (fun hHeld => ?_)
        clear hK K
        generalize wm49.alloc (.cells #[.slice none 0 0] 22) = wm66 at HBg hHeld ⊢
        (try simp only [Act.put, List.getElem_toArray, List.getElem_cons_succ, List.getElem_cons_zero, List.setIfInBounds_toArray, List.set_cons_succ, List.set_cons_zero])
        refine wpAnyH_ready (rs := [1, 3]) (by kernel_rfl) (by simp) ?_
        refine AllReadyH.cons (i := 1) (rs := [3]) rfl (fun K hK => ?_) ?_
        · refine tstep_room _ rfl _ _ _ rfl 22 i0 _ Tryd.underlying42 HINF.out.1 HINF.out.2.1 HINF.out.2.2.1 c rfl rfl (by rw [HINF.out.2.2.2]; omega) (by unfold maxLen; omega) ?_
          intro wm67 hown hgrow
          have HBg := Hid.mk' (HBg.out.add0 hown hgrow)
          refine hK.out _ _ HBg.out.ck (fun hHeld => ?_)
          clear hK K hown hgrow
          simp only [Act.put, List.getElem_toArray, List.getElem_cons_succ, List.getElem_cons_zero, List.setIfInBounds_toArray, List.set_cons_succ, List.set_cons_zero]
          refine wpAnyH_ready (rs := [3, 6]) (by kernel_rfl) (by simp) ?_
          refine AllReadyH.cons (i := 3) (rs := [6]) rfl (fun K hK => ?_) ?_
          · refine tstep_make _ rfl _ _ _ rfl 3 i1 _ Tryd.underlying22 HINI.out.1 HINI.out.2.1 HINI.out.2.2.1 k1 rfl rfl (by rw [HINI.out.2.2.2]; omega) (by unfold maxLen; omega) ?_
            intro wm68 hown hgrow
            have HBg := Hid.mk' (HBg.out.add1 hown hgrow)
            refine hK.out _ _ HBg.out.ck (fun hHeld => ?_)
            clear hK K hown hgrow
            simp only [Act.put, List.getElem_toArray, List.getElem_cons_succ, List.getElem_cons_zero, List.setIfInBounds_toArray, List.set_cons_succ, List.set_cons_zero]
            refine wpAnyH_ready (rs := [6]) (by kernel_rfl) (by simp) ?_
            refine AllReadyH.cons (i := 6) (rs := []) rfl (fun K hK => ?_) ?_
            · have bb := (HBg.out.b2 _ rfl)
              have e0 := bb.row 0 (by decide)
              have f0 := bb.fz 0 (by decide)
              have HBg := Hid.mk' (HBg.out.store rfl HKB.out (.slice (some ⟨wm66.heap.size, 0, none⟩) 0 c))
              go_simp
              refine hK.out _ _ HBg.out.ck (fun hHeld => ?_)
              clear hK K bb e0 f0
              generalize wm68.setCell ⟨Wd.heap.size, 0, none⟩ (.slice (some ⟨wm66.heap.size, 0, none⟩) 0 c) = wm69 at HBg hHeld ⊢
              (try simp only [Act.put, List.getElem_toArray, List.getElem_cons_succ, List.getElem_cons_zero, List.setIfInBounds_toArray, List.set_cons_succ, List.set_cons_zero])
              have bb := (HBg.out.b3 _ rfl)
              have e0 := bb.row 0 (by decide)
              have f0 := bb.fz 0 (by decide)
              have HLAI := Hid.mk' (HBg.out.lai rfl rfl rfl rfl HKB.out)
              clear bb
              refine wpAnyH_done (by kernel_rfl) ?_ _
              refine ahead_last rfl (fun K hK => ?_)
              go_simp
              refine hK _ _ ?_
              clear hK K
              go_wp2_with fail
              go_meet
              exact ⟨_, _, _, _, rfl, rfl, HLAI.out⟩
            exact AllReadyH.nil
          refine AllReadyH.cons (i := 6) (rs := []) rfl (fun K hK => ?_) ?_
          · have bb := (HBg.out.b2 _ rfl)
            have e0 := bb.row 0 (by decide)
            have f0 := bb.fz 0 (by decide)
            have HBg := Hid.mk' (HBg.out.store rfl HKB.out (.slice (some ⟨wm66.heap.size, 0, none⟩) 0 c))
            go_simp
            refine hK.out _ _ HBg.out.ck (fun hHeld => ?_)
            clear hK K bb e0 f0
            generalize wm67.setCell ⟨Wd.heap.size, 0, none⟩ (.slice (some ⟨wm66.heap.size, 0, none⟩) 0 c) = wm70 at HBg hHeld ⊢
            (try simp only [Act.put, List.getElem_toArray, List.getElem_cons_succ, List.getElem_cons_zero, List.setIfInBounds_toArray, List.set_cons_succ, List.set_cons_zero])
            refine wpAnyH_ready (rs := [3]) (by kernel_rfl) (by simp) ?_
            refine AllReadyH.cons (i := 3) (rs := []) rfl (fun K hK => ?_) ?_
            · refine tstep_make _ rfl _ _ _ rfl 3 i1 _ Tryd.underlying22 HINI.out.1 HINI.out.2.1 HINI.out.2.2.1 k1 rfl rfl (by rw [HINI.out.2.2.2]; omega) (by unfold maxLen; omega) ?_
              intro wm71 hown hgrow
              have HBg := Hid.mk' (HBg.out.add1 hown hgrow)
              refine hK.out _ _ HBg.out.ck (fun hHeld => ?_)
              clear hK K hown hgrow
              simp only [Act.put, List.getElem_toArray, List.getElem_cons_succ, List.getElem_cons_zero, List.setIfInBounds_toArray, List.set_cons_succ, List.set_cons_zero]
              have bb := (HBg.out.b3 _ rfl)
              have e0 := bb.row 0 (by decide)
              have f0 := bb.fz 0 (by decide)
              have HLAI := Hid.mk' (HBg.out.lai rfl rfl rfl rfl HKB.out)
              clear bb
              refine wpAnyH_done (by kernel_rfl) ?_ _
              refine ahead_last rfl (fun K hK => ?_)
              go_simp
              refine hK _ _ ?_
              clear hK K
              go_wp2_with fail
              go_meet
              exact ⟨_, _, _, _, rfl, rfl, HLAI.out⟩
            exact AllReadyH.nil
          exact AllReadyH.nil
        refine AllReadyH.cons (i := 3) (rs := []) rfl (fun K hK => ?_) ?_
        · refine tstep_make _ rfl _ _ _ rfl 3 i1 _ Tryd.underlying22 HINI.out.1 HINI.out.2.1 HINI.out.2.2.1 k1 rfl rfl (by rw [HINI.out.2.2.2]; omega) (by unfold maxLen; omega) ?_
          intro wm72 hown hgrow
          have HBg := Hid.mk' (HBg.out.add1 hown hgrow)
          refine hK.out _ _ HBg.out.ck (fun hHeld => ?_)
          clear hK K hown hgrow
          simp only [Act.put, List.getElem_toArray, List.getElem_cons_succ, List.getElem_cons_zero, List.setIfInBounds_toArray, List.set_cons_succ, List.set_cons_zero]
          refine wpAnyH_ready (rs := [1]) (by kernel_rfl) (by simp) ?_
          refine AllReadyH.cons (i := 1) (rs := []) rfl (fun K hK => ?_) ?_
          · refine tstep_room _ rfl _ _ _ rfl 22 i0 _ Tryd.underlying42 HINF.out.1 HINF.out.2.1 HINF.out.2.2.1 c rfl rfl (by rw [HINF.out.2.2.2]; omega) (by unfold maxLen; omega) ?_
            intro wm73 hown hgrow
            have HBg := Hid.mk' (HBg.out.add0 hown hgrow)
            refine hK.out _ _ HBg.out.ck (fun hHeld => ?_)
            clear hK K hown hgrow
            simp only [Act.put, List.getElem_toArray, List.getElem_cons_succ, List.getElem_cons_zero, List.setIfInBounds_toArray, List.set_cons_succ, List.set_cons_zero]
            refine wpAnyH_ready (rs := [6]) (by kernel_rfl) (by simp) ?_
            refine AllReadyH.cons (i := 6) (rs := []) rfl (fun K hK => ?_) ?_
            · have bb := (HBg.out.b2 _ rfl)
              have e0 := bb.row 0 (by decide)
              have f0 := bb.fz 0 (by decide)
              have HBg := Hid.mk' (HBg.out.store rfl HKB.out (.slice (some ⟨wm72.heap.size, 0, none⟩) 0 c))
              go_simp
              refine hK.out _ _ HBg.out.ck (fun hHeld => ?_)
              clear hK K bb e0 f0
              generalize wm73.setCell ⟨Wd.heap.size, 0, none⟩ (.slice (some ⟨wm72.heap.size, 0, none⟩) 0 c) = wm74 at HBg hHeld ⊢
              (try simp only [Act.put, List.getElem_toArray, List.getElem_cons_succ, List.getElem_cons_zero, List.setIfInBounds_toArray, List.set_cons_succ, List.set_cons_zero])
              have bb := (HBg.out.b3 _ rfl)
              have e0 := bb.row 0 (by decide)
              have f0 := bb.fz 0 (by decide)
              have HLAI := Hid.mk' (HBg.out.lai rfl rfl rfl rfl HKB.out)
              clear bb
              refine wpAnyH_done (by kernel_rfl) ?_ _
              refine ahead_last rfl (fun K hK => ?_)
              go_simp
              refine hK _ _ ?_
              clear hK K
              go_wp2_with fail
              go_meet
              exact ⟨_, _, _, _, rfl, rfl, HLAI.out⟩
            exact AllReadyH.nil
          exact AllReadyH.nil
        exact AllReadyH.nil
      exact AllReadyH.nil
    refine AllReadyH.cons (i := 5) (rs := []) rfl (fun K hK => ?_) ?_
    · go_simp
      have HBg := Hid.mk' (HBg.out.add3 22)
      refine hK.out _ _ HBg.out.ck (fun hHeld => ?_)
      clear hK K
      generalize Wd.alloc (.cells #[.slice none 0 0] 22) = wm75 at HBg hHeld ⊢
      (try simp only [Act.put, List.getElem_toArray, List.getElem_cons_succ, List.getElem_cons_zero, List.setIfInBounds_toArray, List.set_cons_succ, List.set_cons_zero])
      refine wpAnyH_ready (rs := [1, 3, 4]) (by kernel_rfl) (by simp) ?_
      refine AllReadyH.cons (i := 1) (rs := [3, 4]) rfl (fun K hK => ?_) ?_
      · refine tstep_room _ rfl _ _ _ rfl 22 i0 _ Tryd.underlying42 HINF.out.1 HINF.out.2.1 HINF.out.2.2.1 c rfl rfl (by rw [HINF.out.2.2.2]; omega) (by unfold maxLen; omega) ?_
        intro wm76 hown hgrow
        have HBg := Hid.mk' (HBg.out.add0 hown hgrow)
        refine hK.out _ _ HBg.out.ck (fun hHeld => ?_)
        clear hK K hown hgrow
        simp only [Act.put, List.getElem_toArray, List.getElem_cons_succ, List.getElem_cons_zero, List.setIfInBounds_toArray, List.set_cons_succ, List.set_cons_zero]
        refine wpAnyH_ready (rs := [3, 4]) (by kernel_rfl) (by simp) ?_
        refine AllReadyH.cons (i := 3) (rs := [4]) rfl (fun K hK => ?_) ?_
        · refine tstep_make _ rfl _ _ _ rfl 3 i1 _ Tryd.underlying22 HINI.out.1 HINI.out.2.1 HINI.out.2.2.1 k1 rfl rfl (by rw [HINI.out.2.2.2]; omega) (by unfold maxLen; omega) ?_
          intro wm77 hown hgrow
          have HBg := Hid.mk' (HBg.out.add1 hown hgrow)
          refine hK.out _ _ HBg.out.ck (fun hHeld => ?_)
          clear hK K hown hgrow
          simp only [Act.put, List.getElem_toArray, List.getElem_cons_succ, List.getElem_cons_zero, List.setIfInBounds_toArray, List.set_cons_succ, List.set_cons_zero]
          refine wpAnyH_ready (rs := [4]) (by kernel_rfl) (by simp) ?_
          refine AllReadyH.cons (i := 4) (rs := []) rfl (fun K hK => ?_) ?_
          · go_simp
            have HBg := Hid.mk' (HBg.out.add2 42)
            refine hK.out _ _ HBg.out.ck (fun hHeld => ?_)
            clear hK K
            generalize wm77.alloc (.cells #[.slice none 0 0] 42) = wm78 at HBg hHeld ⊢
            (try simp only [Act.put, List.getElem_toArray, List.getElem_cons_succ, List.getElem_cons_zero, List.setIfInBounds_toArray, List.set_cons_succ, List.set_cons_zero])
            refine wpAnyH_ready (rs := [6]) (by kernel_rfl) (by simp) ?_
            refine AllReadyH.cons (i := 6) (rs := []) rfl (fun K hK => ?_) ?_
            · have bb := (HBg.out.b2 _ rfl)
              have e0 := bb.row 0 (by decide)
              have f0 := bb.fz 0 (by decide)
              have HBg := Hid.mk' (HBg.out.store rfl HKB.out (.slice (some ⟨wm75.heap.size, 0, none⟩) 0 c))
              go_simp
              refine hK.out _ _ HBg.out.ck (fun hHeld => ?_)
              clear hK K bb e0 f0
              generalize wm78.setCell ⟨wm77.heap.size, 0, none⟩ (.slice (some ⟨wm75.heap.size, 0, none⟩) 0 c) = wm79 at HBg hHeld ⊢
              (try simp only [Act.put, List.getElem_toArray, List.getElem_cons_succ, List.getElem_cons_zero, List.setIfInBounds_toArray, List.set_cons_succ, List.set_cons_zero])
              have bb := (HBg.out.b3 _ rfl)
              have e0 := bb.row 0 (by decide)
              have f0 := bb.fz 0 (by decide)
              have HLAI := Hid.mk' (HBg.out.lai rfl rfl rfl rfl HKB.out)
              clear bb
              refine wpAnyH_done (by kernel_rfl) ?_ _
              refine ahead_last rfl (fun K hK => ?_)
              go_simp
              refine hK _ _ ?_
              clear hK K
              go_wp2_with fail
              go_meet
              exact ⟨_, _, _, _, rfl, rfl, HLAI.out⟩
            exact AllReadyH.nil
          exact AllReadyH.nil
        refine AllReadyH.cons (i := 4) (rs := []) rfl (fun K hK => ?_) ?_
        · go_simp
          have HBg := Hid.mk' (HBg.out.add2 42)
          refine hK.out _ _ HBg.out.ck (fun hHeld => ?_)
          clear hK K
          generalize wm76.alloc (.cells #[.slice none 0 0] 42) = wm80 at HBg hHeld ⊢
          (try simp only [Act.put, List.getElem_toArray, List.getElem_cons_succ, List.getElem_cons_zero, List.setIfInBounds_toArray, List.set_cons_succ, List.set_cons_zero])
          refine wpAnyH_ready (rs := [3, 6]) (by kernel_rfl) (by simp) ?_
          refine AllReadyH.cons (i := 3) (rs := [6]) rfl (fun K hK => ?_) ?_
          · refine tstep_make _ rfl _ _ _ rfl 3 i1 _ Tryd.underlying22 HINI.out.1 HINI.out.2.1 HINI.out.2.2.1 k1 rfl rfl (by rw [HINI.out.2.2.2]; omega) (by unfold maxLen; omega) ?_
            intro wm81 hown hgrow
            have HBg := Hid.mk' (HBg.out.add1 hown hgrow)
            refine hK.out _ _ HBg.out.ck (fun hHeld => ?_)
            clear hK K hown hgrow
            simp only [Act.put, List.getElem_toArray, List.getElem_cons_succ, List.getElem_cons_zero, List.setIfInBounds_toArray, List.set_cons_succ, List.set_cons_zero]
            refine wpAnyH_ready (rs := [6]) (by kernel_rfl) (by simp) ?_
            refine AllReadyH.cons (i := 6) (rs := []) rfl (fun K hK => ?_) ?_
            · have bb := (HBg.out.b2 _ rfl)
              have e0 := bb.row 0 (by decide)
              have f0 := bb.fz 0 (by decide)
              have HBg := Hid.mk' (HBg.out.store rfl HKB.out (.slice (some ⟨wm75.heap.size, 0, none⟩) 0 c))
              go_simp
              refine hK.out _ _ HBg.out.ck (fun hHeld => ?_)
              clear hK K bb e0 f0
              generalize wm81.setCell ⟨wm76.heap.size, 0, none⟩ (.slice (some ⟨wm75.heap.size, 0, none⟩) 0 c) = wm82 at HBg hHeld ⊢
              (try simp only [Act.put, List.getElem_toArray, List.getElem_cons_succ, List.getElem_cons_zero, List.setIfInBounds_toArray, List.set_cons_succ, List.set_cons_zero])
              have bb := (HBg.out.b3 _ rfl)
              have e0 := bb.row 0 (by decide)
              have f0 := bb.fz 0 (by decide)
              have HLAI := Hid.mk' (HBg.out.lai rfl rfl rfl rfl HKB.out)
              clear bb
              refine wpAnyH_done (by kernel_rfl) ?_ _
              refine ahead_last rfl (fun K hK => ?_)
              go_simp
              refine hK _ _ ?_
              clear hK K
              go_wp2_with fail
              go_meet
              exact ⟨_, _, _, _, rfl, rfl, HLAI.out⟩
            exact AllReadyH.nil
          refine AllReadyH.cons (i := 6) (rs := []) rfl (fun K hK => ?_) ?_
          · have bb := (HBg.out.b2 _ rfl)
            have e0 := bb.row 0 (by decide)
            have f0 := bb.fz 0 (by decide)
            have HBg := Hid.mk' (HBg.out.store rfl HKB.out (.slice (some ⟨wm75.heap.size, 0, none⟩) 0 c))
            go_simp
            refine hK.out _ _ HBg.out.ck (fun hHeld => ?_)
            clear hK K bb e0 f0
            generalize wm80.setCell ⟨wm76.heap.size, 0, none⟩ (.slice (some ⟨wm75.heap.size, 0, none⟩) 0 c) = wm83 at HBg hHeld ⊢
            (try simp only [Act.put, List.getElem_toArray, List.getElem_cons_succ, List.getElem_cons_zero, List.setIfInBounds_toArray, List.set_cons_succ, List.set_cons_zero])
            refine wpAnyH_ready (rs := [3]) (by kernel_rfl) (by simp) ?_
            refine AllReadyH.cons (i := 3) (rs := []) rfl (fun K hK => ?_) ?_
            · refine tstep_make _ rfl _ _ _ rfl 3 i1 _ Tryd.underlying22 HINI.out.1 HINI.out.2.1 HINI.out.2.2.1 k1 rfl rfl (by rw [HINI.out.2.2.2]; omega) (by unfold maxLen; omega) ?_
              intro wm84 hown hgrow
              have HBg := Hid.mk' (HBg.out.add1 hown hgrow)
              refine hK.out _ _ HBg.out.ck (fun hHeld => ?_)
              clear hK K hown hgrow
              simp only [Act.put, List.getElem_toArray, List.getElem_cons_succ, List.getElem_cons_zero, List.setIfInBounds_toArray, List.set_cons_succ, List.set_cons_zero]
              have bb := (HBg.out.b3 _ rfl)
              have e0 := bb.row 0 (by decide)
              have f0 := bb.fz 0 (by decide)
              have HLAI := Hid.mk' (HBg.out.lai rfl rfl rfl rfl HKB.out)
              clear bb
              refine wpAnyH_done (by kernel_rfl) ?_ _
              refine ahead_last rfl (fun K hK => ?_)
              go_simp
              refine hK _ _ ?_
              clear hK K
              go_wp2_with fail
              go_meet
              exact ⟨_, _, _, _, rfl, rfl, HLAI.out⟩
            exact AllReadyH.nil
          exact AllReadyH.nil
        exact AllReadyH.nil
      refine AllReadyH.cons (i := 3) (rs := [4]) rfl (fun K hK => ?_) ?_
      · refine tstep_make _ rfl _ _ _ rfl 3 i1 _ Tryd.underlying22 HINI.out.1 HINI.out.2.1 HINI.out.2.2.1 k1 rfl rfl (by rw [HINI.out.2.2.2]; omega) (by unfold maxLen; omega) ?_
        intro wm85 hown hgrow
        have HBg := Hid.mk' (HBg.out.add1 hown hgrow)
        refine hK.out _ _ HBg.out.ck (fun hHeld => ?_)
        clear hK K hown hgrow
        simp only [Act.put, List.getElem_toArray, List.getElem_cons_succ, List.getElem_cons_zero, List.setIfInBounds_toArray, List.set_cons_succ, List.set_cons_zero]
        refine wpAnyH_ready (rs := [1, 4]) (by kernel_rfl) (by simp) ?_
        refine AllReadyH.cons (i := 1) (rs := [4]) rfl (fun K hK => ?_) ?_
        · refine tstep_room _ rfl _ _ _ rfl 22 i0 _ Tryd.underlying42 HINF.out.1 HINF.out.2.1 HINF.out.2.2.1 c rfl rfl (by rw [HINF.out.2.2.2]; omega) (by unfold maxLen; omega) ?_
          intro wm86 hown hgrow
          have HBg := Hid.mk' (HBg.out.add0 hown hgrow)
          refine hK.out _ _ HBg.out.ck (fun hHeld => ?_)
          clear hK K hown hgrow
          simp only [Act.put, List.getElem_toArray, List.getElem_cons_succ, List.getElem_cons_zero, List.setIfInBounds_toArray, List.set_cons_succ, List.set_cons_zero]
          refine wpAnyH_ready (rs := [4]) (by kernel_rfl) (by simp) ?_
          refine AllReadyH.cons (i := 4) (rs := []) rfl (fun K hK => ?_) ?_
          · go_simp
            have HBg := Hid.mk' (HBg.out.add2 42)
            refine hK.out _ _ HBg.out.ck (fun hHeld => ?_)
            clear hK K
            generalize wm86.alloc (.cells #[.slice none 0 0] 42) = wm87 at HBg hHeld ⊢
            (try simp only [Act.put, List.getElem_toArray, List.getElem_cons_succ, List.getElem_cons_zero, List.setIfInBounds_toArray, List.set_cons_succ, List.set_cons_zero])
            refine wpAnyH_ready (rs := [6]) (by kernel_rfl) (by simp) ?_
            refine AllReadyH.cons (i := 6) (rs := []) rfl (fun K hK => ?_) ?_
            · have bb := (HBg.out.b2 _ rfl)
              have e0 := bb.row 0 (by decide)
              have f0 := bb.fz 0 (by decide)
              have HBg := Hid.mk' (HBg.out.store rfl HKB.out (.slice (some ⟨wm85.heap.size, 0, none⟩) 0 c))
              go_simp
              refine hK.out _ _ HBg.out.ck (fun hHeld => ?_)
              clear hK K bb e0 f0
              generalize wm87.setCell ⟨wm86.heap.size, 0, none⟩ (.slice (some ⟨wm85.heap.size, 0, none⟩) 0 c) = wm88 at HBg hHeld ⊢
              (try simp only [Act.put, List.getElem_toArray, List.getElem_cons_succ, List.getElem_cons_zero, List.setIfInBounds_toArray, List.set_cons_succ, List.set_cons_zero])
              have bb := (HBg.out.b3 _ rfl)
              have e0 := bb.row 0 (by decide)
              have f0 := bb.fz 0 (by decide)
              have HLAI := Hid.mk' (HBg.out.lai rfl rfl rfl rfl HKB.out)
              clear bb
              refine wpAnyH_done (by kernel_rfl) ?_ _
              refine ahead_last rfl (fun K hK => ?_)
              go_simp
              refine hK _ _ ?_
              clear hK K
              go_wp2_with fail
              go_meet
              exact ⟨_, _, _, _, rfl, rfl, HLAI.out⟩
            exact AllReadyH.nil
          exact AllReadyH.nil
        refine AllReadyH.cons (i := 4) (rs := []) rfl (fun K hK => ?_) ?_
        · go_simp
          have HBg := Hid.mk' (HBg.out.add2 42)
          refine hK.out _ _ HBg.out.ck (fun hHeld => ?_)
          clear hK K
          generalize wm85.alloc (.cells #[.slice none 0 0] 42) = wm89 at HBg hHeld ⊢
          (try simp only [Act.put, List.getElem_toArray, List.getElem_cons_succ, List.getElem_cons_zero, List.setIfInBounds_toArray, List.set_cons_succ, List.set_cons_zero])
          refine wpAnyH_ready (rs := [1]) (by kernel_rfl) (by simp) ?_
          refine AllReadyH.cons (i := 1) (rs := []) rfl (fun K hK => ?_) ?_
          · refine tstep_room _ rfl _ _ _ rfl 22 i0 _ Tryd.underlying42 HINF.out.1 HINF.out.2.1 HINF.out.2.2.1 c rfl rfl (by rw [HINF.out.2.2.2]; omega) (by unfold maxLen; omega) ?_
            intro wm90 hown hgrow
            have HBg := Hid.mk' (HBg.out.add0 hown hgrow)
            refine hK.out _ _ HBg.out.ck (fun hHeld => ?_)
            clear hK K hown hgrow
            simp only [Act.put, List.getElem_toArray, List.getElem_cons_succ, List.getElem_cons_zero, List.setIfInBounds_toArray, List.set_cons_succ, List.set_cons_zero]
            refine wpAnyH_ready (rs := [6]) (by kernel_rfl) (by simp) ?_
            refine AllReadyH.cons (i := 6) (rs := []) rfl (fun K hK => ?_) ?_
            · have bb := (HBg.out.b2 _ rfl)
              have e0 := bb.row 0 (by decide)
              have f0 := bb.fz 0 (by decide)
              have HBg := Hid.mk' (HBg.out.store rfl HKB.out (.slice (some ⟨wm89.heap.size, 0, none⟩) 0 c))
              go_simp
              refine hK.out _ _ HBg.out.ck (fun hHeld => ?_)
              clear hK K bb e0 f0
              generalize wm90.setCell ⟨wm85.heap.size, 0, none⟩ (.slice (some ⟨wm89.heap.size, 0, none⟩) 0 c) = wm91 at HBg hHeld ⊢
              (try simp only [Act.put, List.getElem_toArray, List.getElem_cons_succ, List.getElem_cons_zero, List.setIfInBounds_toArray, List.set_cons_succ, List.set_cons_zero])
              have bb := (HBg.out.b3 _ rfl)
              have e0 := bb.row 0 (by decide)
              have f0 := bb.fz 0 (by decide)
              have HLAI := Hid.mk' (HBg.out.lai rfl rfl rfl rfl HKB.out)
              clear bb
              refine wpAnyH_done (by kernel_rfl) ?_ _
              refine ahead_last rfl (fun K hK => ?_)
              go_simp
              refine hK _ _ ?_
              clear hK K
              go_wp2_with fail
              go_meet
              exact ⟨_, _, _, _, rfl, rfl, HLAI.out⟩
            exact AllReadyH.nil
          exact AllReadyH.nil
        exact AllReadyH.nil
      refine AllReadyH.cons (i := 4) (rs := []) rfl (fun K hK => ?_) ?_
      · go_simp
        have HBg := Hid.mk' (HBg.out.add2 42)
        refine hK.out _ _ HBg.out.ck (fun hHeld => ?_)
        clear hK K
        generalize wm75.alloc (.cells #[.slice none 0 0] 42) = wm92 at HBg hHeld ⊢
        (try simp only [Act.put, List.getElem_toArray, List.getElem_cons_succ, List.getElem_cons_zero, List.setIfInBounds_toArray, List.set_cons_succ, List.set_cons_zero])
        refine wpAnyH_ready (rs := [1, 3]) (by kernel_rfl) (by simp) ?_
        refine AllReadyH.cons (i := 1) (rs := [3]) rfl (fun K hK => ?_) ?_
        · refine tstep_room _ rfl _ _ _ rfl 22 i0 _ Tryd.underlying42 HINF.out.1 HINF.out.2.1 HINF.out.2.2.1 c rfl rfl (by rw [HINF.out.2.2.2]; omega) (by unfold maxLen; omega) ?_
          intro wm93 hown hgrow
          have HBg := Hid.mk' (HBg.out.add0 hown hgrow)
          refine hK.out _ _ HBg.out.ck (fun hHeld => ?_)
          clear hK K hown hgrow
          simp only [Act.put, List.getElem_toArray, List.getElem_cons_succ, List.getElem_cons_zero, List.setIfInBounds_toArray, List.set_cons_succ, List.set_cons_zero]
          refine wpAnyH_ready (rs := [3, 6]) (by kernel_rfl) (by simp) ?_
          refine AllReadyH.cons (i := 3) (rs := [6]) rfl (fun K hK => ?_) ?_
          · refine tstep_make _ rfl _ _ _ rfl 3 i1 _ Tryd.underlying22 HINI.out.1 HINI.out.2.1 HINI.out.2.2.1 k1 rfl rfl (by rw [HINI.out.2.2.2]; omega) (by unfold maxLen; omega) ?_
            intro wm94 hown hgrow
            have HBg := Hid.mk' (HBg.out.add1 hown hgrow)
            refine hK.out _ _ HBg.out.ck (fun hHeld => ?_)
            clear hK K hown hgrow
            simp only [Act.put, List.getElem_toArray, List.getElem_cons_succ, List.getElem_cons_zero, List.setIfInBounds_toArray, List.set_cons_succ, List.set_cons_zero]
            refine wpAnyH_ready (rs := [6]) (by kernel_rfl) (by simp) ?_
            refine AllReadyH.cons (i := 6) (rs := []) rfl (fun K hK => ?_) ?_
            · have bb := (HBg.out.b2 _ rfl)
              have e0 := bb.row 0 (by decide)
              have f0 := bb.fz 0 (by decide)
              have HBg := Hid.mk' (HBg.out.store rfl HKB.out (.slice (some ⟨wm92.heap.size, 0, none⟩) 0 c))
              go_simp
              refine hK.out _ _ HBg.out.ck (fun hHeld => ?_)
              clear hK K bb e0 f0
              generalize wm94.setCell ⟨wm75.heap.size, 0, none⟩ (.slice (some ⟨wm92.heap.size, 0, none⟩) 0 c) = wm95 at HBg hHeld ⊢
              (try simp only [Act.put, List.getElem_toArray, List.getElem_cons_succ, List.getElem_cons_zero, List.setIfInBounds_toArray, List.set_cons_succ, List.set_cons_zero])
              have bb := (HBg.out.b3 _ rfl)
              have e0 := bb.row 0 (by decide)
              have f0 := bb.fz 0 (by decide)
              have HLAI := Hid.mk' (HBg.out.lai rfl rfl rfl rfl HKB.out)
              clear bb
              refine wpAnyH_done (by kernel_rfl) ?_ _
              refine ahead_last rfl (fun K hK => ?_)
              go_simp
              refine hK _ _ ?_
              clear hK K
              go_wp2_with fail
              go_meet
              exact ⟨_, _, _, _, rfl, rfl, HLAI.out⟩
            exact AllReadyH.nil
          refine AllReadyH.cons (i := 6) (rs := []) rfl (fun K hK => ?_) ?_
          · have bb := (HBg.out.b2 _ rfl)
            have e0 := bb.row 0 (by decide)
            have f0 := bb.fz 0 (by decide)
            have HBg := Hid.mk' (HBg.out.store rfl HKB.out (.slice (some ⟨wm92.heap.size, 0, none⟩) 0 c))
            go_simp
            refine hK.out _ _ HBg.out.ck (fun hHeld => ?_)
            clear hK K bb e0 f0
            generalize wm93.setCell ⟨wm75.heap.size, 0, none⟩ (.slice (some ⟨wm92.heap.size, 0, none⟩) 0 c) = wm96 at HBg hHeld ⊢
            (try simp only [Act.put, List.getElem_toArray, List.getElem_cons_succ, List.getElem_cons_zero, List.setIfInBounds_toArray, List.set_cons_succ, List.set_cons_zero])
            refine wpAnyH_ready (rs := [3]) (by kernel_rfl) (by simp) ?_
            refine AllReadyH.cons (i := 3) (rs := []) rfl (fun K hK => ?_) ?_
            · refine tstep_make _ rfl _ _ _ rfl 3 i1 _ Tryd.underlying22 HINI.out.1 HINI.out.2.1 HINI.out.2.2.1 k1 rfl rfl (by rw [HINI.out.2.2.2]; omega) (by unfold maxLen; omega) ?_
              intro wm97 hown hgrow
              have HBg := Hid.mk' (HBg.out.add1 hown hgrow)
              refine hK.out _ _ HBg.out.ck (fun hHeld => ?_)
              clear hK K hown hgrow
              simp only [Act.put, List.getElem_toArray, List.getElem_cons_succ, List.getElem_cons_zero, List.setIfInBounds_toArray, List.set_cons_succ, List.set_cons_zero]
              have bb := (HBg.out.b3 _ rfl)
              have e0 := bb.row 0 (by decide)
              have f0 := bb.fz 0 (by decide)
              have HLAI := Hid.mk' (HBg.out.lai rfl rfl rfl rfl HKB.out)
              clear bb
              refine wpAnyH_done (by kernel_rfl) ?_ _
              refine ahead_last rfl (fun K hK => ?_)
              go_simp
              refine hK _ _ ?_
              clear hK K
              go_wp2_with fail
              go_meet
              exact ⟨_, _, _, _, rfl, rfl, HLAI.out⟩
            exact AllReadyH.nil
          exact AllReadyH.nil
        refine AllReadyH.cons (i := 3) (rs := []) rfl (fun K hK => ?_) ?_
        · refine tstep_make _ rfl _ _ _ rfl 3 i1 _ Tryd.underlying22 HINI.out.1 HINI.out.2.1 HINI.out.2.2.1 k1 rfl rfl (by rw [HINI.out.2.2.2]; omega) (by unfold maxLen; omega) ?_
          intro wm98 hown hgrow
          have HBg := Hid.mk' (HBg.out.add1 hown hgrow)
          refine hK.out _ _ HBg.out.ck (fun hHeld => ?_)
          clear hK K hown hgrow
          simp only [Act.put, List.getElem_toArray, List.getElem_cons_succ, List.getElem_cons_zero, List.setIfInBounds_toArray, List.set_cons_succ, List.set_cons_zero]
          refine wpAnyH_ready (rs := [1]) (by kernel_rfl) (by simp) ?_
          refine AllReadyH.cons (i := 1) (rs := []) rfl (fun K hK => ?_) ?_
          · refine tstep_room _ rfl _ _ _ rfl 22 i0 _ Tryd.underlying42 HINF.out.1 HINF.out.2.1 HINF.out.2.2.1 c rfl rfl (by rw [HINF.out.2.2.2]; omega) (by unfold maxLen; omega) ?_
            intro wm99 hown hgrow
            have HBg := Hid.mk' (HBg.out.add0 hown hgrow)
            refine hK.out _ _ HBg.out.ck (fun hHeld => ?_)
            clear hK K hown hgrow
            simp only [Act.put, List.getElem_toArray, List.getElem_cons_succ, List.getElem_cons_zero, List.setIfInBounds_toArray, List.set_cons_succ, List.set_cons_zero]
            refine wpAnyH_ready (rs := [6]) (by kernel_rfl) (by simp) ?_
            refine AllReadyH.cons (i := 6) (rs := []) rfl (fun K hK => ?_) ?_
            · have bb := (HBg.out.b2 _ rfl)
              have e0 := bb.row 0 (by decide)
              have f0 := bb.fz 0 (by decide)
              have HBg := Hid.mk' (HBg.out.store rfl HKB.out (.slice (some ⟨wm98.heap.size, 0, none⟩) 0 c))
              go_simp
              refine hK.out _ _ HBg.out.ck (fun hHeld => ?_)
              clear hK K bb e0 f0
              generalize wm99.setCell ⟨wm75.heap.size, 0, none⟩ (.slice (some ⟨wm98.heap.size, 0, none⟩) 0 c) = wm100 at HBg hHeld ⊢
              (try simp only [Act.put, List.getElem_toArray, List.getElem_cons_succ, List.getElem_cons_zero, List.setIfInBounds_toArray, List.set_cons_succ, List.set_cons_zero])
              have bb := (HBg.out.b3 _ rfl)
              have e0 := bb.row 0 (by decide)
              have f0 := bb.fz 0 (by decide)
              have HLAI := Hid.mk' (HBg.out.lai rfl rfl rfl rfl HKB.out)
              clear bb
              refine wpAnyH_done (by kernel_rfl) ?_ _
              refine ahead_last rfl (fun K hK => ?_)
              go_simp
              refine hK _ _ ?_
              clear hK K
              go_wp2_with fail
              go_meet
              exact ⟨_, _, _, _, rfl, rfl, HLAI.out⟩
            exact AllReadyH.nil
          exact AllReadyH.nil
        exact AllReadyH.nil
      exact AllReadyH.nil
    exact AllReadyH.nil
  case rest =>
    obtain ⟨go, gt, bo, bt, rfl, rfl, HLAI⟩ := hcut
    clear ck0
    have HFIL := Hid.mk' (fun t => HLAI.out.fil HB0.out HKB.out (Nat.le_refl _) t)
    have HZ0 : Hid (w.heap.size ≤ wc.heap.size + 1) := Nat.le_succ_of_le (Nat.le_trans HB0.out.size HLAI.out.below.size)
    clear HLAI
    go_wp2_with fail
    refine (fill_any k 0 n w _ (wc.heap.size + 1) w.heap.size wc.heap.size bt bo gt k1 _ _ [] [] (by have := HK1.out; omega) (HFIL.out _) (by omega) hn (by have := HCN.out; simp only [List.length_nil]; omega) HZ0.out).mono ?_
    rintro e w5 ⟨rfl, ts5, ov5, vs5, h5, -⟩
    have HF5 := Hid.mk' h5
    have c5 := h5.co
    obtain ⟨a5, q5, hov⟩ := h5.own.form
    subst hov
    clear h5 HFIL
    go_wp2_with fail
    go_ret2
    refine ⟨_, rfl, ?_, HF5.out.below⟩
    have e6 := HF5.out.own.lol
    have e7 : ([] : List (List Int)) ++ (typT k n).map (fun r => rowL (fun _ => 0) 0 ++ r) = typT k n := by simp [rowL]
    rw [e7] at e6
    exact e6
end Go.Proofs.YthknaphclijncaaDoor

/- The document's types: how many, and all of them. -/
namespace Go.Proofs.YthknaphclijncaaDoor
open Go.RowKit

theorem two_heap1 (w : World) (X Y : Obj) : ((w.alloc X).alloc Y).heap[w.heap.size + 1]? = some Y := by
  show ((w.heap.push X).push Y)[w.heap.size + 1]? = some Y
  generalize w.heap = h
  have := Array.getElem?_push_size (xs := h.push X) (x := Y)
  rwa [Array.size_push] at this
theorem two_heap0 (w : World) (X Y : Obj) : ((w.alloc X).alloc Y).heap[w.heap.size]? = some X := by
  show ((w.heap.push X).push Y)[w.heap.size]? = some X
  generalize w.heap = h
  simp [Array.getElem?_push]
end Go.Proofs.YthknaphclijncaaDoor

/- coded of an error by its number. -/
namespace Go.Proofs.YthknaphclijncaaDoor
open Go.RowKit

end Go.Proofs.YthknaphclijncaaDoor

/- The law TypesAll. -/
namespace Go.Proofs.YthknaphclijncaaDoor
open Go.RowKit

set_option maxRecDepth 100000 in
set_option maxHeartbeats 1000000 in
theorem All_bad (n k : Int) (w : World) {a : Nat → Addr} (he : Errs w a) (h : n < 0 ∨ 20 < n ∨ k < 1 ∨ 6 < k) : Calls Tryd.prog 22 #[.int .i64 n, .int .i64 k] w fun e w' => e = .returned (.tuple #[.slice none 0 0, .iface 199 (.pointer (some (a 1)))]) ∧ Below w.heap.size w w' := by
  have HC := Hid.mk' (fun W (hb : Below w.heap.size w W) => Count_bad n k W (he.below hb) h)
  clear he h
  have HB0 : Hid (Below w.heap.size w (w.alloc (.cells #[.int .i64 k] 3))) := (Below.refl _ _).alloc (Nat.le_refl _) _
  have hc0 : ∀ W, Below (w.alloc (.cells #[.int .i64 k] 3)).heap.size (w.alloc (.cells #[.int .i64 k] 3)) W → W.cell? ⟨w.heap.size, 0, none⟩ = some (.int .i64 k) := fun W hb => by
    rw [hb.cell (by simp), World.cell?_alloc_at _ _ _ _ rfl]; rfl
  clear hc0
  go_enter Tryd.func22, Tryd.ntmps22
  go_wp2_with fail
  refine (HC.out _ HB0.out).mono ?_
  rintro e w1 ⟨rfl, hb1⟩
  have HB1 := Hid.mk' (below_chain HB0.out hb1)
  clear hb1 HB0
  go_wp2_with fail
  go_ret2
  exact ⟨rfl, HB1.out⟩
set_option maxRecDepth 100000 in
set_option maxHeartbeats 1000000 in
theorem All_many (n k : Nat) (w : World) {a : Nat → Addr} (he : Errs w a) (hn : n < 21) (hk : k < 6) (hc : 4000 < cntT k n) : Calls Tryd.prog 22 #[.int .i64 n, .int .i64 ((k : Int) + 1)] w fun e w' => e = .returned (.tuple #[.slice none 0 0, .iface 199 (.pointer (some (a 1)))]) ∧ Below w.heap.size w w' := by
  have HC := Hid.mk' (fun W => Count_ok n k W hn hk)
  have hcI : 4000 < (cntT k n : Int) := by omega
  generalize cntT k n = c at *
  obtain ⟨K, hK⟩ : ∃ K : Int, K = (k : Int) + 1 := ⟨_, rfl⟩
  rw [← hK] at HC ⊢
  clear hK
  have HB0 : Hid (Below w.heap.size w (w.alloc (.cells #[.int .i64 K] 3))) := (Below.refl _ _).alloc (Nat.le_refl _) _
  have c1 := (he.below HB0.out).c1
  clear he
  go_enter Tryd.func22, Tryd.ntmps22
  go_wp2_with fail
  refine (HC.out _).mono ?_
  rintro e w1 ⟨rfl, hw1⟩
  rw [hw1]
  clear hw1
  go_wp2_with fail
  go_region
  all_goals
    go_wp2_with fail
    go_ret2
    exact ⟨rfl, HB0.out.drew⟩
theorem four_lol (w : World) (t u : TypeId) : LolAt ((((w.alloc (.cells #[.int .i64 0, .int .i64 2] t)).alloc (.cells #[.int .i64 1, .int .i64 1] t)).alloc (.cells #[.int .i64 2, .int .i64 0] t)).alloc (.cells #[.slice (some ⟨w.heap.size, 0, none⟩) 2 2, .slice (some ⟨w.heap.size + 1, 0, none⟩) 2 2, .slice (some ⟨w.heap.size + 1 + 1, 0, none⟩) 2 2] u)) (.slice (some ⟨w.heap.size + 1 + 1 + 1, 0, none⟩) 3 3) (typT 1 2) := by
  have row : ∀ (W W' : World) (x y : Int), Below (W.alloc (.cells #[.int .i64 x, .int .i64 y] t)).heap.size (W.alloc (.cells #[.int .i64 x, .int .i64 y] t)) W' → NumsAt W' (.slice (some ⟨W.heap.size, 0, none⟩) 2 2) 2 (atF [x, y]) := fun W W' x y hb => by
    refine Or.inr ⟨_, _, _, rfl, by decide, fun j hj => ?_⟩
    rw [hb.cell (by simp), World.cell?_alloc_at _ _ _ _ rfl]
    rcases (show j = 0 ∨ j = 1 by omega) with rfl | rfl <;> rfl
  have al : ∀ (W : World) (X : Obj), Below W.heap.size W (W.alloc X) := fun W X => (Below.refl _ _).alloc (Nat.le_refl _) _
  have s1 : ∀ (W : World) (X : Obj), (W.alloc X).heap.size = W.heap.size + 1 := fun W X => by simp
  refine ⟨_, _, rfl, fun i r hr => ?_⟩
  have hL : typT 1 2 = [[0, 2], [1, 1], [2, 0]] := rfl
  rw [hL] at hr
  have r0 := row w _ 0 2 (below_chain (al _ (.cells #[.int .i64 1, .int .i64 1] t)) (below_chain (al _ (.cells #[.int .i64 2, .int .i64 0] t)) (al _ (.cells #[.slice (some ⟨w.heap.size, 0, none⟩) 2 2, .slice (some ⟨w.heap.size + 1, 0, none⟩) 2 2, .slice (some ⟨w.heap.size + 1 + 1, 0, none⟩) 2 2] u))))
  have r1 := row (w.alloc (.cells #[.int .i64 0, .int .i64 2] t)) _ 1 1 (below_chain (al _ (.cells #[.int .i64 2, .int .i64 0] t)) (al _ (.cells #[.slice (some ⟨w.heap.size, 0, none⟩) 2 2, .slice (some ⟨w.heap.size + 1, 0, none⟩) 2 2, .slice (some ⟨w.heap.size + 1 + 1, 0, none⟩) 2 2] u)))
  have r2 := row ((w.alloc (.cells #[.int .i64 0, .int .i64 2] t)).alloc (.cells #[.int .i64 1, .int .i64 1] t)) _ 2 0 (al _ (.cells #[.slice (some ⟨w.heap.size, 0, none⟩) 2 2, .slice (some ⟨w.heap.size + 1, 0, none⟩) 2 2, .slice (some ⟨w.heap.size + 1 + 1, 0, none⟩) 2 2] u))
  rw [s1] at r1
  rw [s1, s1] at r2
  have c : ∀ (W : World) (x y z : Value) (j : Nat), (W.alloc (.cells #[x, y, z] u)).cell? ⟨W.heap.size, 0 + j, none⟩ = #[x, y, z][j]? := fun W x y z j => by rw [World.cell?_alloc_at _ _ _ _ rfl, Nat.zero_add]
  have e3 : w.heap.size + 1 + 1 + 1 = (((w.alloc (.cells #[.int .i64 0, .int .i64 2] t)).alloc (.cells #[.int .i64 1, .int .i64 1] t)).alloc (.cells #[.int .i64 2, .int .i64 0] t)).heap.size := by rw [s1, s1, s1]
  rcases i with _ | _ | _ | i
  · obtain rfl : [0, 2] = r := by simpa using hr
    exact ⟨_, 0, _, rfl, by rw [e3, c]; rfl, r0⟩
  · obtain rfl : [1, 1] = r := by simpa using hr
    exact ⟨_, 0, _, rfl, by rw [e3, c]; rfl, r1⟩
  · obtain rfl : [2, 0] = r := by simpa using hr
    exact ⟨_, 0, _, rfl, by rw [e3, c]; rfl, r2⟩
  · simp at hr
set_option maxRecDepth 100000 in
set_option maxHeartbeats 2000000 in
theorem pair_any (w : World) : Calls Tryd.prog 5 #[] w fun e w' => e = .returned (.bool true) ∧ Below w.heap.size w w' := by
  have hP := All_ok 2 1 w (by decide) (by decide) (by decide)
  rw [show (((2 : Nat) : Int)) = 2 from rfl, show (((1 : Nat) : Int) + 1) = 2 from rfl] at hP
  go_enter Tryd.func5, Tryd.ntmps5
  go_wp2_with fail
  refine hP.mono ?_
  clear hP
  rintro e w1 ⟨v, rfl, hl, hb⟩
  have HL := Hid.mk' hl
  have HB := Hid.mk' hb
  obtain ⟨ad, cap, rfl, -⟩ := hl
  clear hb
  go_wp2_with fail
  have HB4 : Hid (Below w1.heap.size w1 ((((w1.alloc (.cells #[.int .i64 0, .int .i64 2] 3)).alloc (.cells #[.int .i64 1, .int .i64 1] 3)).alloc (.cells #[.int .i64 2, .int .i64 0] 3)).alloc (.cells #[.slice (some ⟨w1.heap.size, 0, none⟩) 2 2, .slice (some ⟨w1.heap.size + 1, 0, none⟩) 2 2, .slice (some ⟨w1.heap.size + 1 + 1, 0, none⟩) 2 2] 22))) := ((((Below.refl _ _).alloc (Nat.le_refl _) _).alloc (by simp) _).alloc (by simp; omega) _).alloc (by simp; omega) _
  refine (SameLists_any _ _ (typT 1 2) _ (HL.out.later HB4.out) (four_lol w1 3 22) (by decide) (fun r hr => by rw [typT_width _ _ r hr]; decide)).mono ?_
  rintro e w5 ⟨rfl, hb5⟩
  have HB5 := Hid.mk' (below_chain HB.out (below_chain HB4.out hb5))
  clear hb5
  go_wp2_with fail
  go_ret
  exact ⟨rfl, HB5.out⟩
end Go.Proofs.YthknaphclijncaaDoor
