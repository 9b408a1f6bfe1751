/- fold.Of, walked. -/
import Derived.Test.YtlnhpkmcinohdaaDoorPackB
import Derived.Test.YtlnhpkmcinohdaaDoorPackA
import Derived.Deep.DeepCutAuto
namespace Go.Proofs.YtlnhpkmcinohdaaDoor
open Go.RowKit

set_option maxRecDepth 100000 in
set_option maxHeartbeats 16000000 in
theorem Of_any (cv : Value) (N n : Nat) (zs : Nat → Nat → Int) (l : List Nat) (sb sc : Nat) (w : World) (hc : RowsAt w cv N zs) (hs : RowAt w sb 0 n (fun i => ((l.getD i 0 : Nat) : Int))) (hl : l.length = n) (hn0 : 0 < n) (hn : n ≤ 8) (hlN : ∀ x, x ∈ l → x < N) (hN : N ≤ 8) (hz : ∀ i, i < N → OkF (zs i) N) :
    Calls Tryd.prog 55 #[cv, .slice (some ⟨sb, 0, none⟩) n sc] w fun e w' => ∃ g rb cp f cl cc, e = .returned (.agg #[.slice (some ⟨cl, 0, none⟩) n cc, .int .i64 N, .slice (some ⟨g, 0, none⟩) n n, .slice (some ⟨rb n, 0, none⟩) n n, .slice (some ⟨rb (n + 1), 0, none⟩) n n]) ∧ FoldAt w w' n g rb cp f (downTo n (fold0 l zs N n) (n - 1) 1) ∧ RowAt w' cl 0 n (fun i => ((l.getD i 0 : Nat) : Int)) := by
  obtain ⟨i0, hi, hz0, hz1, hz2⟩ := info_parts Tryd.infoNat
  have HINF : Hid (Tryd.prog.info? 68 = some i0 ∧ i0.zero = some (.slice none 0 0) ∧ i0.size = 1 ∧ i0.bytes = 24) := ⟨hi, hz0, hz1, hz2⟩
  clear hi hz0 hz1 hz2
  obtain ⟨i1, hi, hz0, hz1, hz2⟩ := info_parts Tryd.infoNats
  have HINR : Hid (Tryd.prog.info? 86 = some i1 ∧ i1.zero = some (.slice none 0 0) ∧ i1.size = 1 ∧ i1.bytes = 24) := ⟨hi, hz0, hz1, hz2⟩
  clear hi hz0 hz1 hz2
  have hcl := fun (W : World) (hb : Below w.heap.size w W) => clone_own (.slice (some ⟨sb, 0, none⟩) n sc) n (fun i => ((l.getD i 0 : Nat) : Int)) W (Or.inr ⟨sb, sc, rfl, hs.later hb⟩) (by omega)
  have HCLN := Hid.mk' hcl
  have HSR : Hid (∀ W, Below w.heap.size w W → ∀ i, i < n → W.cell? ⟨sb, i, none⟩ = some (.int .i64 ((l.getD i 0 : Nat) : Int))) := fun W hb i hi => by
    have h1 := hs i hi
    rw [Nat.zero_add] at h1
    rw [hb.cell (cell_lt h1)]; exact h1
  have HLN : Hid (∀ i, i < n → l.getD i 0 < N) := fun i hi => hlN _ (by rw [List.getD_eq_getElem?_getD, List.getElem?_eq_getElem (by omega)]; simp)
  obtain ⟨cb, co, cc0, hcv, hcr⟩ := hc
  subst hcv
  have HC : Hid (∀ W, Below w.heap.size w W → ∀ i, i < N → ∃ b1 o1 cap1, W.cell? ⟨cb, co + i, none⟩ = some (.slice (some ⟨b1, o1, none⟩) N cap1) ∧ RowAt W b1 o1 N (zs i)) := fun W hb i hi => by
    obtain ⟨b1, o1, c1, h1, h2⟩ := hcr i hi
    exact ⟨b1, o1, c1, by rw [hb.cell (cell_lt h1)]; exact h1, fun k hk => by rw [hb.cell (cell_lt (h2 k hk))]; exact h2 k hk⟩
  have HZ := Hid.mk' hz
  clear hcr hz
  clear hcl
  obtain ⟨W0, hW0⟩ : ∃ W0, W0 = w.alloc (.cells #[.slice none 0 0, .int .i64 0, .slice none 0 0, .slice none 0 0, .slice none 0 0] 110) := ⟨_, rfl⟩
  have HB0 : Hid (Below w.heap.size w W0) := by rw [hW0]; exact (Below.refl _ _).alloc (Nat.le_refl _) _
  have HRC : Hid (RowIs W0 w.heap.size 5 bx0) := by rw [hW0]; exact box5_new w _
  go_enter Tryd.func55, Tryd.ntmps55
  go_upto_region 1 with fail
  rw [← hW0]
  clear hW0
  go_cut [5] from 24 (fun p wx => ∃ g gt go fb cl cc : Nat, p = .pointer (some ⟨fb, 0, none⟩) ∧ Hid (Laid5 W0 wx n g gt go fb cl (xB cl cc N g gt go n) (fun i => ((l.getD i 0 : Nat) : Int))))
  case first =>
    have hrel0 : Below w.heap.size w W0.drew := HB0.out.drew
    have HBL0 := Hid.mk' hrel0
    have hbW : Below W0.heap.size W0 W0.drew := (Below.refl _ _).drew
    have HBW := Hid.mk' hbW
    clear hrel0 hbW
    refine region_but_last (n := 15) (S := fun _ => True) (by kernel_rfl) (by kernel_rfl) (by kernel_rfl) trivial (fun hHeld => ?_)
    generalize W0.drew = Wd at *
    refine wpAnyH_take (i := 0) (v := ?v0z) rfl (by kernel_rfl) (by kernel_rfl) (by kernel_rfl) (fun _ _ _ h => h) (Or.inl ⟨by rfl, ?hy0z⟩) (by assumption) ?rest0z
    case hy0z => (intro w hSw; (try dsimp only at hSw); go_simp <;> (try with_reducible rfl))
    refine wpAnyH_take (i := 2) (v := ?v2z) rfl (by kernel_rfl) (by kernel_rfl) (by kernel_rfl) (fun _ _ _ h => h) (Or.inl ⟨by rfl, ?hy2z⟩) (by assumption) ?rest2z
    case hy2z => (intro w hSw; (try dsimp only at hSw); go_simp <;> (try with_reducible rfl))
    refine wpAnyH_take (i := 3) (v := ?v3z) rfl (by kernel_rfl) (by kernel_rfl) (by kernel_rfl) (fun _ _ _ h => h) (Or.inl ⟨by rfl, ?hy3z⟩) (by assumption) ?rest3z
    case hy3z => (intro w hSw; (try dsimp only at hSw); go_simp <;> (try with_reducible rfl))
    refine wpAnyH_take (i := 4) (v := ?v4z) rfl (by kernel_rfl) (by kernel_rfl) (by kernel_rfl) (fun _ _ _ h => h) (Or.inl ⟨by rfl, ?hy4z⟩) (by assumption) ?rest4z
    case hy4z => (intro w hSw; (try dsimp only at hSw); go_simp <;> (try with_reducible rfl))
    refine wpAnyH_take (i := 5) (v := ?v5z) rfl (by kernel_rfl) (by kernel_rfl) (by kernel_rfl) (fun _ _ _ h => h) (Or.inl ⟨by rfl, ?hy5z⟩) (by assumption) ?rest5z
    case hy5z => (intro w hSw; (try dsimp only at hSw); go_simp <;> (try with_reducible rfl))
    refine wpAnyH_take (i := 7) (v := ?v7z) rfl (by kernel_rfl) (by kernel_rfl) (by kernel_rfl) (fun _ _ _ h => h) (Or.inl ⟨by rfl, ?hy7z⟩) (by assumption) ?rest7z
    case hy7z => (intro w hSw; (try dsimp only at hSw); go_simp <;> (try with_reducible rfl))
    refine wpAnyH_take (i := 8) (v := ?v8z) rfl (by kernel_rfl) (by kernel_rfl) (by kernel_rfl) (fun _ _ _ h => h) (Or.inl ⟨by rfl, ?hy8z⟩) (by assumption) ?rest8z
    case hy8z => (intro w hSw; (try dsimp only at hSw); go_simp <;> (try with_reducible rfl))
    refine wpAnyH_take (i := 10) (v := ?v10z) rfl (by kernel_rfl) (by kernel_rfl) (by kernel_rfl) (fun _ _ _ h => h) (Or.inl ⟨by rfl, ?hy10z⟩) (by assumption) ?rest10z
    case hy10z => (intro w hSw; (try dsimp only at hSw); go_simp <;> (try with_reducible rfl))
    refine wpAnyH_take (i := 11) (v := ?v11z) rfl (by kernel_rfl) (by kernel_rfl) (by kernel_rfl) (fun _ _ _ h => h) (Or.inl ⟨by rfl, ?hy11z⟩) (by assumption) ?rest11z
    case hy11z => (intro w hSw; (try dsimp only at hSw); go_simp <;> (try with_reducible rfl))
    simp only [Act.put, List.getElem_toArray, List.getElem_cons_succ, List.getElem_cons_zero, List.setIfInBounds_toArray, List.set_cons_succ, List.set_cons_zero]
    refine wpAnyH_bits (k := 6) [12, 17, 20, 23, 24, 5] [1, 6, 9, 12, 13, 14] (fun b => #[true, b.testBit 0, true, true, true, true, b.testBit 1, true, true, b.testBit 2, true, true, b.testBit 3, b.testBit 4, b.testBit 5, true]) (fun b => !b.testBit 4 || b % 16 == 15) (fun j b => if j = 4 then b % 16 == 15 else (j == 5 || !b.testBit 4)) (fun b y W => ∃ bl, Five W0 W n N (fun i => ((l.getD i 0 : Nat) : Int)) b y bl) (fun _ => undef) (by kernel_rfl) (by kernel_rfl) (by kernel_rfl) (by decide) ⟨fun _ => 0, Five.start _ _ HBW.out⟩ ?_ ?_
    · rintro y W ⟨bl, h5⟩
      have h5 : Five W0 W n N (fun i => ((l.getD i 0 : Nat) : Int)) 63 y bl := h5
      obtain ⟨cc, hy0⟩ := (h5.cl (by decide)).1
      have HL := Hid.mk' (h5.laid cc)
      obtain ⟨hy1, hr1⟩ := h5.rows 1 (by decide) (by decide) (by decide)
      obtain ⟨hy2, hr2⟩ := h5.rows 2 (by decide) (by decide) (by decide)
      obtain ⟨hy3, hr3⟩ := h5.rows 3 (by decide) (by decide) (by decide)
      obtain ⟨hy5, hr5⟩ := h5.bx (by decide)
      have hy4 := h5.bd (by decide)
      rw [hy0, hy1, hy2, hy3] at hy4
      obtain ⟨e0, e1, e2, e3, e4⟩ := put5_steps (X := xB (bl 0) cc N (bl 1) (bl 2) (bl 3) n) hr5
      have f0 := hr5.fz 0 (by decide)
      have f1 := hr5.fz 1 (by decide)
      have f2 := hr5.fz 2 (by decide)
      have f3 := hr5.fz 3 (by decide)
      have f4 := hr5.fz 4 (by decide)
      simp only [xB, bx0] at e0 e1 e2 e3 e4
      have HY : Hid (y 0 = .slice (some ⟨bl 0, 0, none⟩) n cc ∧ y 1 = .slice (some ⟨bl 1, 0, none⟩) n n ∧ y 2 = .slice (some ⟨bl 2, 0, none⟩) n n ∧ y 3 = .slice (some ⟨bl 3, 0, none⟩) n n ∧ y 4 = _ ∧ y 5 = _) := ⟨hy0, hy1, hy2, hy3, hy4, hy5⟩
      simp only [putAll, Act.put, List.setIfInBounds_toArray, List.set_cons_succ, List.set_cons_zero]
      rw [HY.out.2.2.2.2.1, HY.out.2.2.2.2.2]
      clear h5 hr1 hr2 hr3 hr5 hy0 hy1 hy2 hy3 hy4 hy5
      refine ahead_last rfl (fun K hK => ?_)
      go_simp
      refine hK _ _ ?_
      clear hK K
      go_wp2_with fail
      go_meet
      exact ⟨_, _, _, _, _, _, rfl, HL.out⟩
    · rintro j hj b y W hb hok hbj hpre ⟨bl, h5⟩ K hK
      clear hok
      have HF5 := Hid.mk' h5
      have HPR := Hid.mk' hpre
      clear h5 hpre
      rcases (show j = 0 ∨ j = 1 ∨ j = 2 ∨ j = 3 ∨ j = 4 ∨ j = 5 by omega) with rfl | rfl | rfl | rfl | rfl | rfl
      · generalize hAA : putAll y [12, 17, 20, 23, 24, 5] 0 _ = AA
        refine step_of rfl ?_
        rw [← hAA]
        clear hAA AA
        simp only [putAll, Act.put, List.setIfInBounds_toArray, List.set_cons_succ, List.set_cons_zero] at hK ⊢
        clear hb hbj hj
        go_simp
        refine (HCLN.out W (below_chain HB0.out HF5.out.below)).mono ?_
        rintro e w' ⟨v', rfl, hF⟩
        obtain ⟨hbel, hv⟩ := hF
        rcases hv with ⟨_, h0⟩ | ⟨c, cap, rfl, hfil⟩
        · omega
        · have hn4 : b.testBit 4 = false := by simpa using HPR.out
          have hcl2 := hfil.row 0 hn0
          exact hK.out (updV y 0 (.slice (some ⟨c, 0, none⟩) n cap)) w' trivial ⟨_, HF5.out.add 0 (by decide) (by decide) (Or.inr hn4) _ c hbel ⟨hfil.hg, cell_lt hcl2⟩ (fun _ => ⟨⟨cap, rfl⟩, fun i hi => by have := hfil.row i hi; rw [Nat.zero_add] at this; exact this⟩) (fun h => by omega) (fun h => by omega)⟩
      · simp only [List.getD_cons_succ, List.getD_cons_zero, putAll, Act.put, List.setIfInBounds_toArray, List.set_cons_succ, List.set_cons_zero] at hK ⊢
        generalize hAA : Act.mk _ _ = AA
        refine step_of rfl ?_
        subst hAA
        refine step_make _ rfl _ _ _ rfl 86 i1 _ Tryd.underlying108 HINR.out.1 HINR.out.2.1 HINR.out.2.2.1 n rfl rfl (by rw [HINR.out.2.2.2]; omega) (by unfold maxLen; omega) ?_
        intro w' hown hgrow
        have hn4 : b.testBit 4 = false := by simpa using HPR.out
        simp only [Act.put, List.getElem_toArray, List.getElem_cons_succ, List.getElem_cons_zero, List.setIfInBounds_toArray, List.set_cons_succ, List.set_cons_zero]
        exact hK.out (updV y 1 (.slice (some ⟨W.heap.size, 0, none⟩) n n)) w' trivial ⟨_, HF5.out.add 1 (by decide) (by decide) (Or.inr hn4) _ W.heap.size (made_below hgrow) ⟨Nat.le_refl _, heap_of_row hown⟩ (fun h => by omega) (fun _ _ => ⟨rfl, rowIs_made hown (made_one (.slice none 0 0) rfl n)⟩) (fun h => by omega)⟩
      · simp only [List.getD_cons_succ, List.getD_cons_zero, putAll, Act.put, List.setIfInBounds_toArray, List.set_cons_succ, List.set_cons_zero] at hK ⊢
        generalize hAA : Act.mk _ _ = AA
        refine step_of rfl ?_
        subst hAA
        refine step_make _ rfl _ _ _ rfl 68 i0 _ Tryd.underlying86 HINF.out.1 HINF.out.2.1 HINF.out.2.2.1 n rfl rfl (by rw [HINF.out.2.2.2]; omega) (by unfold maxLen; omega) ?_
        intro w' hown hgrow
        have hn4 : b.testBit 4 = false := by simpa using HPR.out
        simp only [Act.put, List.getElem_toArray, List.getElem_cons_succ, List.getElem_cons_zero, List.setIfInBounds_toArray, List.set_cons_succ, List.set_cons_zero]
        exact hK.out (updV y 2 (.slice (some ⟨W.heap.size, 0, none⟩) n n)) w' trivial ⟨_, HF5.out.add 2 (by decide) (by decide) (Or.inr hn4) _ W.heap.size (made_below hgrow) ⟨Nat.le_refl _, heap_of_row hown⟩ (fun h => by omega) (fun _ _ => ⟨rfl, rowIs_made hown (made_one (.slice none 0 0) rfl n)⟩) (fun h => by omega)⟩
      · simp only [List.getD_cons_succ, List.getD_cons_zero, putAll, Act.put, List.setIfInBounds_toArray, List.set_cons_succ, List.set_cons_zero] at hK ⊢
        generalize hAA : Act.mk _ _ = AA
        refine step_of rfl ?_
        subst hAA
        refine step_make _ rfl _ _ _ rfl 68 i0 _ Tryd.underlying86 HINF.out.1 HINF.out.2.1 HINF.out.2.2.1 n rfl rfl (by rw [HINF.out.2.2.2]; omega) (by unfold maxLen; omega) ?_
        intro w' hown hgrow
        have hn4 : b.testBit 4 = false := by simpa using HPR.out
        simp only [Act.put, List.getElem_toArray, List.getElem_cons_succ, List.getElem_cons_zero, List.setIfInBounds_toArray, List.set_cons_succ, List.set_cons_zero]
        exact hK.out (updV y 3 (.slice (some ⟨W.heap.size, 0, none⟩) n n)) w' trivial ⟨_, HF5.out.add 3 (by decide) (by decide) (Or.inr hn4) _ W.heap.size (made_below hgrow) ⟨Nat.le_refl _, heap_of_row hown⟩ (fun h => by omega) (fun _ _ => ⟨rfl, rowIs_made hown (made_one (.slice none 0 0) rfl n)⟩) (fun h => by omega)⟩
      · generalize hAA : putAll y [12, 17, 20, 23, 24, 5] 0 _ = AA
        refine step_of rfl ?_
        rw [← hAA]
        clear hAA AA
        simp only [putAll, Act.put, List.setIfInBounds_toArray, List.set_cons_succ, List.set_cons_zero] at hK ⊢
        have hm : b % 2 ^ 4 = 15 := by simpa using HPR.out
        have htb : ∀ i, i < 4 → b.testBit i = true := fun i hi => by
          have h1 := Nat.testBit_mod_two_pow b 4 i
          rw [hm, decide_eq_true hi, Bool.true_and] at h1
          rw [← h1]
          rcases (show i = 0 ∨ i = 1 ∨ i = 2 ∨ i = 3 by omega) with rfl | rfl | rfl | rfl <;> decide
        obtain ⟨cc, hy0⟩ := (HF5.out.cl (htb 0 (by decide))).1
        have hy1 := (HF5.out.rows 1 (by decide) (by decide) (htb 1 (by decide))).1
        have hy2 := (HF5.out.rows 2 (by decide) (by decide) (htb 2 (by decide))).1
        have hy3 := (HF5.out.rows 3 (by decide) (by decide) (htb 3 (by decide))).1
        have h := hK.out (updV y 4 (.agg #[y 0, .int .i64 N, y 1, y 2, y 3])) W trivial ⟨bl, HF5.out.built⟩
        have hu : ∀ (v : Value) (i : Nat), i ≠ 4 → updV y 4 v i = y i := fun v i hi => by unfold updV; rw [if_neg hi]
        have hu4 : ∀ v : Value, updV y 4 v 4 = v := fun v => by unfold updV; rw [if_pos rfl]
        simp only [Nat.zero_add, Nat.reduceAdd] at h ⊢
        rw [hu _ 0 (by decide), hu _ 1 (by decide), hu _ 2 (by decide), hu _ 3 (by decide), hu _ 5 (by decide), hu4, hy0, hy1, hy2, hy3] at h
        rw [hy0, hy1, hy2, hy3]
        have HH := Hid.mk' h
        clear h hK hu hu4 hy0 hy1 hy2 hy3 htb hm hb hbj hj
        go_simp
        exact HH.out
      · generalize hAA : putAll y [12, 17, 20, 23, 24, 5] 0 _ = AA
        refine step_of rfl ?_
        rw [← hAA]
        clear hAA AA
        simp only [putAll, Act.put, List.setIfInBounds_toArray, List.set_cons_succ, List.set_cons_zero] at hK ⊢
        go_simp
        exact hK.out (updV y 5 (.pointer (some ⟨W.heap.size, 0, none⟩))) _ trivial ⟨_, HF5.out.add 5 (by decide) (by decide) (Or.inl rfl) _ W.heap.size ((Below.refl _ _).alloc (Nat.le_refl _) _) ⟨Nat.le_refl _, by simp⟩ (fun h => by omega) (fun _ h => by omega) (fun _ => ⟨rfl, box5_new W _⟩)⟩
  case rest =>
  obtain ⟨g, gt, go, fb, cl, cc, rfl, HL⟩ := hcut
  obtain ⟨X, hX⟩ : ∃ X, X = xB cl cc N g gt go n := ⟨_, rfl⟩
  have HX2 : Hid (X 0 = .slice (some ⟨cl, 0, none⟩) n cc ∧ X 1 = .int .i64 N ∧ X 2 = .slice (some ⟨g, 0, none⟩) n n ∧ X 3 = .slice (some ⟨gt, 0, none⟩) n n ∧ X 4 = .slice (some ⟨go, 0, none⟩) n n) := by rw [hX]; exact ⟨rfl, rfl, rfl, rfl, rfl⟩
  rw [← hX] at HL
  clear hX
  obtain ⟨V, hV⟩ : ∃ V, V = fold0 l zs N n := ⟨_, rfl⟩
  have HVD := Hid.mk' hV
  have HF := Hid.mk' HL.out.fixed
  have HBD := Hid.mk' (build_start HL.out (fun _ _ => .slice none 0 0) V)
  generalize wc.heap.size = B at *
  clear HL hV
  go_wp2_with fail
  go_loopw [27] (fun t wr => ∃ (i : Nat) (rv : Nat → Value) (f : Nat → Nat → Value) (tf : Nat → Value), i ≤ n ∧ t = .int .i64 i ∧ Hid (Build W0 wr B n g gt go fb cl X (fun i => ((l.getD i 0 : Nat) : Int)) (lenAt n i 0) rv f tf V (fun r => if r < i then V n r else 0))) (fun t _ => n - (intOf t).toNat)
  case atStart => exact ⟨0, _, _, _, Nat.zero_le _, rfl, by simpa using HBD⟩
  case round =>
    clear HBD
    obtain ⟨i, rv, f, tf, hi, rfl, HBD⟩ := hrel
    rcases Nat.lt_or_ge i n with h1 | h1
    · have hiI : (i : Int) < (n : Int) := by omega
      have hi0 : (0 : Int) ≤ (i : Int) := by omega
      have hst := HSR.out wr (below_chain HB0.out HBD.out.below) i h1
      have hfN := HLN.out i h1
      obtain ⟨from_, hfrom⟩ : ∃ from_, from_ = l.getD i 0 := ⟨_, rfl⟩
      have HFR := Hid.mk' hfrom
      rw [← hfrom] at hst hfN
      clear hfrom
      have hf0 : (0 : Int) ≤ (from_ : Int) := by omega
      have hfI : (from_ : Int) < (N : Int) := by omega
      go_wp2_with fail
      obtain ⟨Wr, hWr⟩ : ∃ Wr, Wr = wr := ⟨_, rfl⟩
      rw [← hWr] at HBD ⊢
      clear hWr hst
      go_loopw [34] (fun t wr => ∃ (k : Nat) (rv : Nat → Value) (f : Nat → Nat → Value), k ≤ n ∧ t = .int .i64 k ∧ Hid (Build W0 wr B n g gt go fb cl X (fun i => ((l.getD i 0 : Nat) : Int)) (lenAt n i k) rv f tf V (fun r => if r < i then V n r else 0))) (fun t _ => n - (intOf t).toNat)
      case atStart => exact ⟨0, _, _, Nat.zero_le _, rfl, HBD⟩
      case round =>
        clear HBD
        obtain ⟨k, rv, f, hk, rfl, HBD⟩ := hrel
        rcases Nat.lt_or_ge k n with h2 | h2
        · have hkI : (k : Int) < (n : Int) := by omega
          have hk0 : (0 : Int) ≤ (k : Int) := by omega
          have hst := HSR.out wr (below_chain HB0.out HBD.out.below) k h2
          have hkN := HLN.out k h2
          obtain ⟨kk, hkk⟩ : ∃ kk, kk = l.getD k 0 := ⟨_, rfl⟩
          have HKK := Hid.mk' hkk
          rw [← hkk] at hst hkN
          clear hkk
          have hq0 : (0 : Int) ≤ (kk : Int) := by omega
          have hqI : (kk : Int) < (N : Int) := by omega
          obtain ⟨b1, o1, cap1, y2w, hrow⟩ := HC.out w (Below.refl _ _) from_ hfN
          have hcb : cb < w.heap.size := cell_lt y2w
          have hb1 : b1 < w.heap.size := cell_lt (hrow kk hkN)
          have hWB : w.heap.size < B := Nat.lt_of_le_of_lt (Nat.le_trans HB0.out.size HF.out.ge.1) HF.out.lt.1
          have y2 : wr.cell? ⟨cb, co + from_, none⟩ = some (.slice (some ⟨b1, o1, none⟩) N cap1) := by rw [(below_chain HB0.out HBD.out.below).cell hcb]; exact y2w
          have y3 : wr.cell? ⟨b1, o1 + kk, none⟩ = some (.int .i64 (zs from_ kk)) := by rw [(below_chain HB0.out HBD.out.below).cell hb1]; exact hrow kk hkN
          have hzb := (HZ.out from_ hfN).lt hkN
          obtain ⟨x, hx⟩ : ∃ x : Nat, zs from_ kk = (x : Int) := ⟨(zs from_ kk).toNat, by omega⟩
          rw [hx] at y3 hzb
          have hx4 : x ≤ 20000 := by omega
          have HXV : Hid (V i k = x) := by show _ = _; rw [HVD.out]; unfold fold0; rw [if_pos h1, ← HFR.out, ← HKK.out, hx]; simp
          have hxw : IntKind.u64.wrap (x : Int) = (x : Int) := by rw [IntKind.wrap_u64]; omega
          have y0 : wr.cell? ⟨fb, 2, none⟩ = some (.slice (some ⟨g, 0, none⟩) n n) := by rw [HBD.out.cs 2 (by decide), HX2.out.2.2.1]
          have y1 := HBD.out.outer.row i h1
          have y5 := HBD.out.outer.fz i h1
          obtain ⟨ra, rl, rc, hre⟩ : ∃ ra rl rc, rv i = .slice ra rl rc := by
            rcases (HBD.out.own i h1).2 with ⟨e, _⟩ | ⟨_, _, _, e, _⟩ <;> exact ⟨_, _, _, e⟩
          have HRE := Hid.mk' hre
          rw [hre] at y1
          have HKS : Hid (∀ W, Below wr.heap.size wr W → (W.cell? ⟨fb, 2, none⟩ = some (.slice (some ⟨g, 0, none⟩) n n) ∧ W.cell? ⟨g, i, none⟩ = some (.slice ra rl rc) ∧ W.cell? ⟨cb, co + from_, none⟩ = some (.slice (some ⟨b1, o1, none⟩) N cap1) ∧ W.cell? ⟨b1, o1 + kk, none⟩ = some (.int .i64 (x : Int)))) := fun W hb => ⟨by rw [hb.cell (cell_lt y0)]; exact y0, by rw [hb.cell (cell_lt y1)]; exact y1, by rw [hb.cell (cell_lt y2)]; exact y2, by rw [hb.cell (cell_lt y3)]; exact y3⟩
          clear hrow hre hx y2w
          go_wp2_with fail
          have hcur : Below wr.heap.size wr wr.drew := (Below.refl _ _).drew
          clear y0 y1 y2 y3
          refine region_but_last (n := 20) (S := fun W => W.cell? ⟨fb, 2, none⟩ = some (.slice (some ⟨g, 0, none⟩) n n) ∧ W.cell? ⟨g, i, none⟩ = some (.slice ra rl rc) ∧ W.cell? ⟨cb, co + from_, none⟩ = some (.slice (some ⟨b1, o1, none⟩) N cap1) ∧ W.cell? ⟨b1, o1 + kk, none⟩ = some (.int .i64 (x : Int))) (by kernel_rfl) (by kernel_rfl) (by kernel_rfl) (HKS.out _ hcur) (fun hHeld => ?_)
          refine wpAnyH_take (i := 0) (v := ?v0g) rfl (by kernel_rfl) (by kernel_rfl) (by kernel_rfl) (fun _ _ _ h => h) (Or.inl ⟨by rfl, ?hy0g⟩) (by assumption) ?rest0g
          case hy0g => (intro w hSw; (try dsimp only at hSw); go_simp <;> (try with_reducible rfl))
          simp only [Act.put, List.getElem_toArray, List.getElem_cons_zero, List.setIfInBounds_toArray, List.set_cons_succ, List.set_cons_zero]
          refine wpAnyH_take (i := 1) (v := ?v1g) rfl (by kernel_rfl) (by kernel_rfl) (by kernel_rfl) (fun _ _ _ h => h) (Or.inl ⟨by rfl, ?hy1g⟩) (by assumption) ?rest1g
          case hy1g => (intro w hSw; (try dsimp only at hSw); go_simp <;> (try with_reducible rfl))
          simp only [Act.put, List.getElem_toArray, List.getElem_cons_succ, List.getElem_cons_zero, List.setIfInBounds_toArray, List.set_cons_succ, List.set_cons_zero]
          refine wpAnyH_take (i := 2) (v := ?v2g) rfl (by kernel_rfl) (by kernel_rfl) (by kernel_rfl) (fun _ _ _ h => h) (Or.inl ⟨by rfl, ?hy2g⟩) (by assumption) ?rest2g
          case hy2g => (intro w hSw; (try dsimp only at hSw); go_simp <;> (try with_reducible rfl))
          simp only [Act.put, List.getElem_toArray, List.getElem_cons_succ, List.getElem_cons_zero, List.setIfInBounds_toArray, List.set_cons_succ, List.set_cons_zero]
          refine wpAnyH_take (i := 3) (v := ?v3g) rfl (by kernel_rfl) (by kernel_rfl) (by kernel_rfl) (fun _ _ _ h => h) (Or.inl ⟨by rfl, ?hy3g⟩) (by assumption) ?rest3g
          case hy3g => (intro w hSw; (try dsimp only at hSw); go_simp <;> (try with_reducible rfl))
          simp only [Act.put, List.getElem_toArray, List.getElem_cons_succ, List.getElem_cons_zero, List.setIfInBounds_toArray, List.set_cons_succ, List.set_cons_zero]
          refine wpAnyH_take (i := 4) (v := ?v4g) rfl (by kernel_rfl) (by kernel_rfl) (by kernel_rfl) (fun _ _ _ h => h) (Or.inl ⟨by rfl, ?hy4g⟩) (by assumption) ?rest4g
          case hy4g => (intro w hSw; (try dsimp only at hSw); go_simp <;> (try with_reducible rfl))
          simp only [Act.put, List.getElem_toArray, List.getElem_cons_succ, List.getElem_cons_zero, List.setIfInBounds_toArray, List.set_cons_succ, List.set_cons_zero]
          refine wpAnyH_take (i := 5) (v := ?v5g) rfl (by kernel_rfl) (by kernel_rfl) (by kernel_rfl) (fun _ _ _ h => h) (Or.inl ⟨by rfl, ?hy5g⟩) (by assumption) ?rest5g
          case hy5g => (intro w hSw; (try dsimp only at hSw); go_simp <;> (try with_reducible rfl))
          simp only [Act.put, List.getElem_toArray, List.getElem_cons_succ, List.getElem_cons_zero, List.setIfInBounds_toArray, List.set_cons_succ, List.set_cons_zero]
          refine wpAnyH_take (i := 6) (v := ?v6g) rfl (by kernel_rfl) (by kernel_rfl) (by kernel_rfl) (fun _ _ _ h => h) (Or.inl ⟨by rfl, ?hy6g⟩) (by assumption) ?rest6g
          case hy6g => (intro w hSw; (try dsimp only at hSw); go_simp <;> (try with_reducible rfl))
          simp only [Act.put, List.getElem_toArray, List.getElem_cons_succ, List.getElem_cons_zero, List.setIfInBounds_toArray, List.set_cons_succ, List.set_cons_zero]
          refine wpAnyH_take (i := 7) (v := ?v7g) rfl (by kernel_rfl) (by kernel_rfl) (by kernel_rfl) (fun _ _ _ h => h) (Or.inl ⟨by rfl, ?hy7g⟩) (by assumption) ?rest7g
          case hy7g => (intro w hSw; (try dsimp only at hSw); go_simp <;> (try with_reducible rfl))
          simp only [Act.put, List.getElem_toArray, List.getElem_cons_succ, List.getElem_cons_zero, List.setIfInBounds_toArray, List.set_cons_succ, List.set_cons_zero]
          refine wpAnyH_take (i := 8) (v := ?v8g) rfl (by kernel_rfl) (by kernel_rfl) (by kernel_rfl) (fun _ _ _ h => h) (Or.inl ⟨by rfl, ?hy8g⟩) (by assumption) ?rest8g
          case hy8g => (intro w hSw; (try dsimp only at hSw); go_simp <;> (try with_reducible rfl))
          simp only [Act.put, List.getElem_toArray, List.getElem_cons_succ, List.getElem_cons_zero, List.setIfInBounds_toArray, List.set_cons_succ, List.set_cons_zero]
          refine wpAnyH_take (i := 9) (v := ?v9g) rfl (by kernel_rfl) (by kernel_rfl) (by kernel_rfl) (fun _ _ _ h => h) (Or.inl ⟨by rfl, ?hy9g⟩) (by assumption) ?rest9g
          case hy9g => (intro w hSw; (try dsimp only at hSw); go_simp <;> (try with_reducible rfl))
          simp only [Act.put, List.getElem_toArray, List.getElem_cons_succ, List.getElem_cons_zero, List.setIfInBounds_toArray, List.set_cons_succ, List.set_cons_zero]
          refine wpAnyH_take (i := 10) (v := ?v10g) rfl (by kernel_rfl) (by kernel_rfl) (by kernel_rfl) (fun _ _ _ h => h) (Or.inl ⟨by rfl, ?hy10g⟩) (by assumption) ?rest10g
          case hy10g => (intro w hSw; (try dsimp only at hSw); go_simp <;> (try with_reducible rfl))
          simp only [Act.put, List.getElem_toArray, List.getElem_cons_succ, List.getElem_cons_zero, List.setIfInBounds_toArray, List.set_cons_succ, List.set_cons_zero]
          refine wpAnyH_take (i := 11) (v := ?v11g) rfl (by kernel_rfl) (by kernel_rfl) (by kernel_rfl) (fun _ _ _ h => h) (Or.inl ⟨by rfl, ?hy11g⟩) (by assumption) ?rest11g
          case hy11g => (intro w hSw; (try dsimp only at hSw); go_simp <;> (try with_reducible rfl))
          simp only [Act.put, List.getElem_toArray, List.getElem_cons_succ, List.getElem_cons_zero, List.setIfInBounds_toArray, List.set_cons_succ, List.set_cons_zero]
          refine wpAnyH_take (i := 12) (v := ?v12g) rfl (by kernel_rfl) (by kernel_rfl) (by kernel_rfl) (fun _ _ _ h => h) (Or.inl ⟨by rfl, ?hy12g⟩) (by assumption) ?rest12g
          case hy12g => (intro w hSw; (try dsimp only at hSw); go_simp <;> (try with_reducible rfl))
          simp only [Act.put, List.getElem_toArray, List.getElem_cons_succ, List.getElem_cons_zero, List.setIfInBounds_toArray, List.set_cons_succ, List.set_cons_zero]
          refine wpAnyH_take (i := 13) (v := ?v13g) rfl (by kernel_rfl) (by kernel_rfl) (by kernel_rfl) (fun _ _ _ h => h) (Or.inl ⟨by rfl, ?hy13g⟩) (by assumption) ?rest13g
          case hy13g => (intro w hSw; (try dsimp only at hSw); go_simp <;> (try with_reducible rfl))
          simp only [Act.put, List.getElem_toArray, List.getElem_cons_succ, List.getElem_cons_zero, List.setIfInBounds_toArray, List.set_cons_succ, List.set_cons_zero]
          refine wpAnyH_take (i := 14) (v := ?v14g) rfl (by kernel_rfl) (by kernel_rfl) (by kernel_rfl) (fun _ _ _ h => h) (Or.inl ⟨by rfl, ?hy14g⟩) (by assumption) ?rest14g
          case hy14g => (intro w hSw; (try dsimp only at hSw); go_simp <;> (try with_reducible rfl))
          simp only [Act.put, List.getElem_toArray, List.getElem_cons_succ, List.getElem_cons_zero, List.setIfInBounds_toArray, List.set_cons_succ, List.set_cons_zero]
          refine wpAnyH_take (i := 15) (v := ?v15g) rfl (by kernel_rfl) (by kernel_rfl) (by kernel_rfl) (fun _ _ _ h => h) (Or.inl ⟨by rfl, ?hy15g⟩) (by assumption) ?rest15g
          case hy15g => (intro w hSw; (try dsimp only at hSw); go_simp <;> (try with_reducible rfl))
          simp only [Act.put, List.getElem_toArray, List.getElem_cons_succ, List.getElem_cons_zero, List.setIfInBounds_toArray, List.set_cons_succ, List.set_cons_zero]
          refine wpAnyH_ready (rs := [16]) (by kernel_rfl) (by simp) ?_
          refine AllReadyH.cons rfl (fun K hK => ?_) AllReadyH.nil
          go_simp
          refine (NatOf_new x _ (by omega)).mono ?_
          rintro e w5 ⟨y, rfl, hy, hb5⟩
          obtain ⟨ya, yl, yc, rfl⟩ := hy.1.isSlice
          have hcur := below_chain hcur hb5
          go_wp2_with fail
          refine hK.out _ _ ?_ (fun hHeld => ?_)
          · exact HKS.out _ hcur
          clear hK K
          refine wpAnyH_ready (rs := [17]) (by kernel_rfl) (by simp) ?_
          refine AllReadyH.cons rfl (fun K hK => ?_) AllReadyH.nil
          go_simp
          refine hK.out _ _ (HKS.out _ (hcur.alloc (Nat.le_trans (Nat.le_refl _) hcur.size) _)) (fun hHeld => ?_)
          clear hK K
          have hba : Below w5.heap.size w5 (w5.alloc (.cells #[.slice ya yl yc] 68)) := (Below.refl _ _).alloc (Nat.le_refl _) _
          have HBA := Hid.mk' (HBD.out.later (below_chain hcur hba))
          have hown := HBA.out.own i h1
          rw [HRE.out, lenAt_own] at hown
          have hyA := hy.1.later hba
          have hsz5 : B ≤ w5.heap.size := Nat.le_trans HBD.out.size hcur.size
          refine wpAnyH_ready (rs := [18]) (by kernel_rfl) (by simp) ?_
          refine AllReadyH.cons rfl (fun K hK => ?_) AllReadyH.nil
          refine step_append_lies _ rfl _ _ _ rfl B 68 i0 _ 1 24 Tryd.underlying86 HINF.out.1 HINF.out.2.1 HINF.out.2.2.1 HINF.out.2.2.2 rfl (by omega) _ _ _ rfl hown ⟨w5.heap.size, 0, none⟩ 1 1 [.slice ya yl yc] rfl rfl (one_new _ _ _) (by simp [Value.oneCell']) (by omega) (by unfold maxLen; omega) (by omega) (by simp; omega) _ rfl ?_
          intro g' cap' w6 hown6 hgrow6 hat6 hlt6
          have hko : ∀ q, q < B → some q ≠ (Value.slice ra rl rc).ownBlock := fun q hq e => by have := (own_ge hown e.symm).1; omega
          have hbk : ∀ q, q < B → w6.heap[q]? = (w5.alloc (.cells #[.slice ya yl yc] 68)).heap[q]? := fun q hq => hgrow6.block q (by simp; omega) (hko q hq)
          have hSA := HKS.out _ (below_chain hcur hba)
          have S6 : (fun W => W.cell? ⟨fb, 2, none⟩ = some (.slice (some ⟨g, 0, none⟩) n n) ∧ W.cell? ⟨g, i, none⟩ = some (.slice ra rl rc) ∧ W.cell? ⟨cb, co + from_, none⟩ = some (.slice (some ⟨b1, o1, none⟩) N cap1) ∧ W.cell? ⟨b1, o1 + kk, none⟩ = some (.int .i64 (x : Int))) w6 := ⟨by rw [World.cell?_of_block (a := ⟨fb, 2, none⟩) (hbk fb HF.out.lt.2.2.2)]; exact hSA.1, by rw [World.cell?_of_block (a := ⟨g, i, none⟩) (hbk g HF.out.lt.1)]; exact hSA.2.1, by rw [World.cell?_of_block (a := ⟨cb, co + from_, none⟩) (hbk cb (by omega))]; exact hSA.2.2.1, by rw [World.cell?_of_block (a := ⟨b1, o1 + kk, none⟩) (hbk b1 (by omega))]; exact hSA.2.2.2⟩
          have z1 := S6.2.1
          have z5 : w6.frozen? ⟨g, i, none⟩ = false := by
            rw [World.frozen?_of_block (a := ⟨g, i, none⟩) (hbk g HF.out.lt.1), (below_chain hcur hba).frozen (by have := HF.out.lt.1; have := HBD.out.size; show g < _; omega)]; exact y5
          refine hK.out _ _ S6 (fun hHeld => ?_)
          clear hK K
          simp only [Act.put, List.getElem_toArray, List.getElem_cons_succ, List.getElem_cons_zero, List.setIfInBounds_toArray, List.set_cons_succ, List.set_cons_zero]
          refine wpAnyH_take (i := 19) (v := ?v19g) rfl (by kernel_rfl) (by kernel_rfl) (by kernel_rfl) (fun _ _ _ h => h) (Or.inl ⟨by rfl, ?hy19g⟩) (by assumption) ?rest19g
          case hy19g => (intro w hSw; (try dsimp only at hSw); go_simp <;> (try with_reducible rfl))
          simp only [Act.put, List.getElem_toArray, List.getElem_cons_succ, List.getElem_cons_zero, List.setIfInBounds_toArray, List.set_cons_succ, List.set_cons_zero]
          refine wpAnyH_done (by kernel_rfl) ?_ _
          refine ahead_last rfl (fun K hK => ?_)
          go_simp
          refine hK _ _ ?_
          clear hK K
          go_wp2_with fail
          have hpush := HBA.out.push HF.out (i := i) (v := x) (y := .slice ya yl yc) (g' := g') (cap' := cap') (w3 := w6) h1 hyA (fun r' b hr' hb => hy.off (own_ge (HBD.out.own r' hr') hb).2) (by rw [HRE.out]; exact hgrow6) (by rw [lenAt_own]; exact hown6) (by rw [HRE.out]; exact hat6)
          rw [lenAt_own] at hpush
          refine ⟨⟨k + 1, _, _, h2, by go_num, hpush.congr (fun r => by rw [lenAt_next, lenAt_own]) (fun r c _ _ => ?_) (fun r _ => rfl)⟩, by simp [intOf]; omega⟩
          by_cases hrc : r = i ∧ c = k
          · rw [if_pos hrc, hrc.1, hrc.2]; exact HXV.out
          · rw [if_neg hrc]
        · obtain rfl : n = k := by omega
          obtain ⟨b1, o1, cap1, y2w, hrow⟩ := HC.out w (Below.refl _ _) from_ hfN
          have hcb : cb < w.heap.size := cell_lt y2w
          have y2 : wr.cell? ⟨cb, co + from_, none⟩ = some (.slice (some ⟨b1, o1, none⟩) N cap1) := by rw [(below_chain HB0.out HBD.out.below).cell hcb]; exact y2w
          have HRW : Hid (∀ W, Below wr.heap.size wr W → RowAt W b1 o1 N (zs from_)) := fun W hb => RowAt.later (RowAt.later hrow (below_chain HB0.out HBD.out.below)) hb
          have hok := HZ.out from_ hfN
          have hpt := hok.part (Nat.le_refl N)
          obtain ⟨x, hx⟩ : ∃ x : Nat, sumN (zs from_) N = (x : Int) := ⟨(sumN (zs from_) N).toNat, by omega⟩
          have hx4 : x ≤ 20000 := by omega
          have HXV : Hid (V n i = x) := by show _ = _; rw [HVD.out]; unfold fold0; rw [if_neg (by omega), if_pos rfl, ← HFR.out, hx]; simp
          have hxw : IntKind.u64.wrap (x : Int) = (x : Int) := by rw [IntKind.wrap_u64]; omega
          have HTO : Hid (∀ W, Below wr.heap.size wr W → Calls Tryd.prog 69 #[.slice (some ⟨b1, o1, none⟩) N cap1] W fun e w' => e = .returned (.int .i64 (x : Int)) ∧ w' = W) := fun W hb => by
            have := Total_some b1 o1 cap1 N (zs from_) W (HRW.out W hb) (fun k hk => by have := hok.part hk; omega) (fun k hk => by have := hok.lt hk; omega) (by omega)
            rw [hx] at this; exact this
          have y0 : wr.cell? ⟨fb, 3, none⟩ = some (.slice (some ⟨gt, 0, none⟩) n n) := by rw [HBD.out.cs 3 (by decide), HX2.out.2.2.2.1]
          have y1 := HBD.out.times.row i h1
          have y5 := HBD.out.times.fz i h1
          have HKS : Hid (∀ W, Below wr.heap.size wr W → (W.cell? ⟨fb, 3, none⟩ = some (.slice (some ⟨gt, 0, none⟩) n n) ∧ W.cell? ⟨cb, co + from_, none⟩ = some (.slice (some ⟨b1, o1, none⟩) N cap1))) := fun W hb => ⟨by rw [hb.cell (cell_lt y0)]; exact y0, by rw [hb.cell (cell_lt y2)]; exact y2⟩
          have HY1 := Hid.mk' (And.intro y1 y5)
          clear hrow hok hpt hx y2w y1 y5
          go_wp2_with fail
          have hcur : Below wr.heap.size wr wr.drew := (Below.refl _ _).drew
          clear y0 y2
          refine region_but_last (n := 11) (S := fun W => W.cell? ⟨fb, 3, none⟩ = some (.slice (some ⟨gt, 0, none⟩) n n) ∧ W.cell? ⟨cb, co + from_, none⟩ = some (.slice (some ⟨b1, o1, none⟩) N cap1)) (by kernel_rfl) (by kernel_rfl) (by kernel_rfl) (HKS.out _ hcur) (fun hHeld => ?_)
          refine wpAnyH_take (i := 0) (v := ?v0h) rfl (by kernel_rfl) (by kernel_rfl) (by kernel_rfl) (fun _ _ _ h => h) (Or.inl ⟨by rfl, ?hy0h⟩) (by assumption) ?rest0h
          case hy0h => (intro w hSw; (try dsimp only at hSw); go_simp <;> (try with_reducible rfl))
          simp only [Act.put, List.getElem_toArray, List.getElem_cons_zero, List.setIfInBounds_toArray, List.set_cons_succ, List.set_cons_zero]
          refine wpAnyH_take (i := 1) (v := ?v1h) rfl (by kernel_rfl) (by kernel_rfl) (by kernel_rfl) (fun _ _ _ h => h) (Or.inl ⟨by rfl, ?hy1h⟩) (by assumption) ?rest1h
          case hy1h => (intro w hSw; (try dsimp only at hSw); go_simp <;> (try with_reducible rfl))
          simp only [Act.put, List.getElem_toArray, List.getElem_cons_succ, List.getElem_cons_zero, List.setIfInBounds_toArray, List.set_cons_succ, List.set_cons_zero]
          refine wpAnyH_take (i := 2) (v := ?v2h) rfl (by kernel_rfl) (by kernel_rfl) (by kernel_rfl) (fun _ _ _ h => h) (Or.inl ⟨by rfl, ?hy2h⟩) (by assumption) ?rest2h
          case hy2h => (intro w hSw; (try dsimp only at hSw); go_simp <;> (try with_reducible rfl))
          simp only [Act.put, List.getElem_toArray, List.getElem_cons_succ, List.getElem_cons_zero, List.setIfInBounds_toArray, List.set_cons_succ, List.set_cons_zero]
          refine wpAnyH_take (i := 3) (v := ?v3h) rfl (by kernel_rfl) (by kernel_rfl) (by kernel_rfl) (fun _ _ _ h => h) (Or.inl ⟨by rfl, ?hy3h⟩) (by assumption) ?rest3h
          case hy3h => (intro w hSw; (try dsimp only at hSw); go_simp <;> (try with_reducible rfl))
          simp only [Act.put, List.getElem_toArray, List.getElem_cons_succ, List.getElem_cons_zero, List.setIfInBounds_toArray, List.set_cons_succ, List.set_cons_zero]
          refine wpAnyH_take (i := 4) (v := ?v4h) rfl (by kernel_rfl) (by kernel_rfl) (by kernel_rfl) (fun _ _ _ h => h) (Or.inl ⟨by rfl, ?hy4h⟩) (by assumption) ?rest4h
          case hy4h => (intro w hSw; (try dsimp only at hSw); go_simp <;> (try with_reducible rfl))
          simp only [Act.put, List.getElem_toArray, List.getElem_cons_succ, List.getElem_cons_zero, List.setIfInBounds_toArray, List.set_cons_succ, List.set_cons_zero]
          refine wpAnyH_take (i := 5) (v := ?v5h) rfl (by kernel_rfl) (by kernel_rfl) (by kernel_rfl) (fun _ _ _ h => h) (Or.inl ⟨by rfl, ?hy5h⟩) (by assumption) ?rest5h
          case hy5h => (intro w hSw; (try dsimp only at hSw); go_simp <;> (try with_reducible rfl))
          simp only [Act.put, List.getElem_toArray, List.getElem_cons_succ, List.getElem_cons_zero, List.setIfInBounds_toArray, List.set_cons_succ, List.set_cons_zero]
          refine wpAnyH_take (i := 6) (v := ?v6h) rfl (by kernel_rfl) (by kernel_rfl) (by kernel_rfl) (fun _ _ _ h => h) (Or.inl ⟨by rfl, ?hy6h⟩) (by assumption) ?rest6h
          case hy6h => (intro w hSw; (try dsimp only at hSw); go_simp <;> (try with_reducible rfl))
          simp only [Act.put, List.getElem_toArray, List.getElem_cons_succ, List.getElem_cons_zero, List.setIfInBounds_toArray, List.set_cons_succ, List.set_cons_zero]
          refine wpAnyH_ready (rs := [7]) (by kernel_rfl) (by simp) ?_
          refine AllReadyH.cons rfl (fun K hK => ?_) AllReadyH.nil
          go_simp
          refine (HTO.out _ hcur).mono ?_
          rintro e w4 ⟨rfl, hw4⟩
          rw [hw4]
          clear hw4
          go_wp2_with fail
          refine hK.out _ _ ?_ (fun hHeld => ?_)
          · exact HKS.out _ hcur
          clear hK K
          refine wpAnyH_take (i := 8) (v := ?v8h) rfl (by kernel_rfl) (by kernel_rfl) (by kernel_rfl) (fun _ _ _ h => h) (Or.inl ⟨by rfl, ?hy8h⟩) (by assumption) ?rest8h
          case hy8h => (intro w hSw; (try dsimp only at hSw); go_simp <;> (try with_reducible rfl))
          simp only [Act.put, List.getElem_toArray, List.getElem_cons_succ, List.getElem_cons_zero, List.setIfInBounds_toArray, List.set_cons_succ, List.set_cons_zero]
          refine wpAnyH_ready (rs := [9]) (by kernel_rfl) (by simp) ?_
          refine AllReadyH.cons rfl (fun K hK => ?_) AllReadyH.nil
          go_simp
          refine (NatOf_new x _ (by omega)).mono ?_
          rintro e w5 ⟨y, rfl, hy, hb5⟩
          obtain ⟨ya, yl, yc, rfl⟩ := hy.1.isSlice
          have hcur := below_chain hcur hb5
          go_wp2_with fail
          refine hK.out _ _ ?_ (fun hHeld => ?_)
          · exact HKS.out _ hcur
          clear hK K
          refine wpAnyH_take (i := 10) (v := ?v10h) rfl (by kernel_rfl) (by kernel_rfl) (by kernel_rfl) (fun _ _ _ h => h) (Or.inl ⟨by rfl, ?hy10h⟩) (by assumption) ?rest10h
          case hy10h => (intro w hSw; (try dsimp only at hSw); go_simp <;> (try with_reducible rfl))
          simp only [Act.put, List.getElem_toArray, List.getElem_cons_succ, List.getElem_cons_zero, List.setIfInBounds_toArray, List.set_cons_succ, List.set_cons_zero]
          refine wpAnyH_done (by kernel_rfl) ?_ _
          have z1 : w5.cell? ⟨gt, i, none⟩ = some (tf i) := by rw [hcur.cell (cell_lt HY1.out.1)]; exact HY1.out.1
          have z5 : w5.frozen? ⟨gt, i, none⟩ = false := by rw [hcur.frozen (cell_lt HY1.out.1)]; exact HY1.out.2
          refine ahead_last rfl (fun K hK => ?_)
          go_simp
          refine hK _ _ ?_
          clear hK K
          go_wp2_with fail
          have htm := (HBD.out.later hcur).time HF.out (i := i) (v := x) h1 hy.1 (fun r' b hr' hb => hy.off (own_ge (HBD.out.own r' hr') hb).2)
          refine ⟨⟨i + 1, _, _, _, h1, by go_num, htm.congr (fun r => lenAt_row n i r) (fun r c _ _ => rfl) (fun r _ => ?_)⟩, by simp [intOf]; omega⟩
          by_cases hri : r = i
          · rw [if_pos hri, hri, if_pos (by omega)]; exact HXV.out
          · rw [if_neg hri]
            by_cases hlt : r < i
            · rw [if_pos hlt, if_pos (by omega)]
            · rw [if_neg hlt, if_neg (by omega)]
    · obtain rfl : n = i := by omega
      obtain ⟨rb, cp, f2, hrn, hro, hfr, hfold⟩ := HBD.out.fold HF.out hn0 (fun k hk => by rw [HVD.out]; unfold fold0; rw [if_neg (by omega), if_neg (by omega)])
      have HFO := Hid.mk' hfold
      have HFR2 := Hid.mk' hfr
      have HX3 : Hid (X 0 = .slice (some ⟨cl, 0, none⟩) n cc ∧ X 1 = .int .i64 N ∧ X 2 = .slice (some ⟨g, 0, none⟩) n n ∧ X 3 = .slice (some ⟨rb n, 0, none⟩) n n ∧ X 4 = .slice (some ⟨rb (n + 1), 0, none⟩) n n) := by rw [hrn, hro]; exact HX2.out
      have HCB : Hid ((∀ j, j < 5 → wr.cell? ⟨fb, j, none⟩ = some (X j)) ∧ ∀ i, i < n → wr.cell? ⟨cl, i, none⟩ = some (.int .i64 ((l.getD i 0 : Nat) : Int))) := ⟨HBD.out.cs, HBD.out.st⟩
      have HVL : Hid (∀ c s, s + c ≤ n → c ≤ 7 → ∀ i k, i < n + 2 → k < n → downTo n V c s i k < 18446744073709551616 ^ 40) := fun c s h1 h2 i k hi hk => Nat.lt_trans (downTo_lt hn (fun i k hi hk => by rw [HVD.out]; exact fold0_lt HLN.out HZ.out i k hk) c s h1 i k hi hk) (bnd_room h2)
      have HCL := Hid.mk' HF.out.clp
      clear HBD hfold hfr hrn hro HX2
      go_wp2_with fail
      obtain ⟨Wr, hWr⟩ : ∃ Wr, Wr = wr := ⟨_, rfl⟩
      rw [← hWr] at HFO HCB ⊢
      clear hWr
      go_loopw [10] (fun t wr => ∃ (s c : Nat) (f' : Nat → Nat → Value), s + c + 1 = n ∧ t = .int .i64 s ∧ Hid (FoldAt W0 wr n g rb cp f' (downTo n V c (s + 1))) ∧ Hid ((∀ j, j < 5 → wr.cell? ⟨fb, j, none⟩ = some (X j)) ∧ ∀ i, i < n → wr.cell? ⟨cl, i, none⟩ = some (.int .i64 ((l.getD i 0 : Nat) : Int)))) (fun t _ => (intOf t).toNat)
      case atStart => exact ⟨n - 1, 0, f2, by omega, by congr 1; omega, HFO, HCB⟩
      case round =>
        clear HFO HCB
        obtain ⟨s, c, f3, hsc, rfl, HFO, HCB⟩ := hrel
        have q0 := HCB.out.1 0 (by decide)
        have q1 := HCB.out.1 1 (by decide)
        have q2 := HCB.out.1 2 (by decide)
        have q3 := HCB.out.1 3 (by decide)
        have q4 := HCB.out.1 4 (by decide)
        rw [HX3.out.1] at q0
        rw [HX3.out.2.1] at q1
        rw [HX3.out.2.2.1] at q2
        rw [HX3.out.2.2.2.1] at q3
        rw [HX3.out.2.2.2.2] at q4
        rcases Nat.eq_zero_or_pos s with hs0 | hs0
        · subst hs0
          have hrc := HRC.out.later HFO.out.below
          have p0 := hrc.fz 0 (by decide)
          have p1 := hrc.fz 1 (by decide)
          have p2 := hrc.fz 2 (by decide)
          have p3 := hrc.fz 3 (by decide)
          have p4 := hrc.fz 4 (by decide)
          have hst5 := put5_steps (X := X) hrc
          have hat5 := fun j hj => put5_at (X := X) hrc j hj
          have HAT := Hid.mk' hat5
          rw [HX3.out.1, HX3.out.2.1, HX3.out.2.2.1, HX3.out.2.2.2.1] at hst5
          simp only [bx0] at hst5
          obtain ⟨r0, r1, r2, r3, r4⟩ := hst5
          have hlt0 : w.heap.size < W0.heap.size := cell_lt (HRC.out.row 0 (by decide))
          have HP5 : Hid (put5 wr w.heap.size X = ((((wr.setCell ⟨w.heap.size, 0, none⟩ (.slice (some ⟨cl, 0, none⟩) n cc)).setCell ⟨w.heap.size, 1, none⟩ (.int .i64 N)).setCell ⟨w.heap.size, 2, none⟩ (.slice (some ⟨g, 0, none⟩) n n)).setCell ⟨w.heap.size, 3, none⟩ (.slice (some ⟨rb n, 0, none⟩) n n)).setCell ⟨w.heap.size, 4, none⟩ (.slice (some ⟨rb (n + 1), 0, none⟩) n n)) := by show _ = _; unfold put5; rw [HX3.out.1, HX3.out.2.1, HX3.out.2.2.1, HX3.out.2.2.2.1, HX3.out.2.2.2.2]
          have HFIN : Hid (FoldAt w (put5 wr w.heap.size X) n g rb cp f3 (downTo n (fold0 l zs N n) (n - 1) 1) ∧ RowAt (put5 wr w.heap.size X) cl 0 n (fun i => ((l.getD i 0 : Nat) : Int))) := by
            have hb := HFO.out.rebase HB0.out
            rw [HVD.out, show c = n - 1 by omega] at hb
            have hgp : g ≠ w.heap.size := by have := HFO.out.hg; omega
            have hrp : ∀ i, i < n + 2 → rb i ≠ w.heap.size := fun i hi => by have := (HFO.out.rge i hi).1; omega
            refine ⟨hb.put5 (Nat.le_refl _) hgp hrp hrc, fun i hi => ?_⟩
            rw [Nat.zero_add, put5_other (by have := HCL.out.1; show cl ≠ w.heap.size; omega)]
            exact HCB.out.2 i hi
          have HE5 : Hid ((put5 wr w.heap.size X).cell? ⟨w.heap.size, 0, none⟩ = some (.slice (some ⟨cl, 0, none⟩) n cc) ∧ (put5 wr w.heap.size X).cell? ⟨w.heap.size, 1, none⟩ = some (.int .i64 N) ∧ (put5 wr w.heap.size X).cell? ⟨w.heap.size, 2, none⟩ = some (.slice (some ⟨g, 0, none⟩) n n) ∧ (put5 wr w.heap.size X).cell? ⟨w.heap.size, 3, none⟩ = some (.slice (some ⟨rb n, 0, none⟩) n n) ∧ (put5 wr w.heap.size X).cell? ⟨w.heap.size, 4, none⟩ = some (.slice (some ⟨rb (n + 1), 0, none⟩) n n)) := ⟨by rw [HAT.out 0 (by decide), HX3.out.1], by rw [HAT.out 1 (by decide), HX3.out.2.1], by rw [HAT.out 2 (by decide), HX3.out.2.2.1], by rw [HAT.out 3 (by decide), HX3.out.2.2.2.1], by rw [HAT.out 4 (by decide), HX3.out.2.2.2.2]⟩
          clear hrc hat5 HAT
          go_wp2_with fail
          rw [← HP5.out]
          exact bodyPost_ret (v := .agg #[.slice (some ⟨cl, 0, none⟩) n cc, .int .i64 N, .slice (some ⟨g, 0, none⟩) n n, .slice (some ⟨rb n, 0, none⟩) n n, .slice (some ⟨rb (n + 1), 0, none⟩) n n]) (by simp [results, Tryd.results55, go_sem, HE5.out.1, HE5.out.2.1, HE5.out.2.2.1, HE5.out.2.2.2.1, HE5.out.2.2.2.2]) rfl ⟨g, rb, cp, f3, cl, cc, rfl, HFIN.out.1, HFIN.out.2⟩
        · have hsI : (0 : Int) < (s : Int) := by omega
          have htk := takeOut_any W0 wr (some ⟨cl, 0, none⟩) n cc N n s g rb cp f3 (downTo n V c (s + 1)) HFO.out (by omega) hn (HVL.out c (s + 1) (by omega) (by omega))
          go_wp2_with fail
          refine htk.mono ?_
          clear htk
          rintro e w7 ⟨rfl, ⟨f4, hf4⟩, hkp⟩
          have HF4 := Hid.mk' hf4
          have HC4 : Hid ((∀ j, j < 5 → w7.cell? ⟨fb, j, none⟩ = some (X j)) ∧ ∀ i, i < n → w7.cell? ⟨cl, i, none⟩ = some (.int .i64 ((l.getD i 0 : Nat) : Int))) := ⟨fun j hj => hkp.cell (HCB.out.1 j hj) (fun i hi => (HFR2.out i hi).1), fun i hi => hkp.cell (HCB.out.2 i hi) (fun k hk => (HFR2.out k hk).2)⟩
          clear hf4 hkp q0 q1 q2 q3 q4
          go_wp2_with fail
          refine ⟨⟨s - 1, c + 1, f4, by omega, by congr 1; omega, ?_, HC4⟩, by simp [intOf]; omega⟩
          rw [show s - 1 + 1 = s by omega]
          exact HF4
end Go.Proofs.YtlnhpkmcinohdaaDoor

/- What goOn comes to, in numbers. -/
namespace Go.Proofs.YtlnhpkmcinohdaaDoor
open Go.RowKit

/-- Over what number, behind c more states. -/
def denV (n : Nat) (V : Nat → Nat → Nat) (m : Nat) : Nat → Nat
  | 0 => 1
  | c + 1 => denV n V m c * V (n + 1) (m + c)
/-- What is told of each state, behind c more. -/
def nowV (n : Nat) (V : Nat → Nat → Nat) (m : Nat) (z0 : Nat → Nat) : Nat → Nat → Nat
  | 0, i => z0 i
  | c + 1, i => if i < m + c then nowV n V m z0 c i * V (n + 1) (m + c) else sumTo (fun k => nowV n V m z0 c k * V (m + c) k) (m + c)
theorem go_lt {n : Nat} {V : Nat → Nat → Nat} {m : Nat} {z0 : Nat → Nat} (hn : n ≤ 8) (hV : ∀ i k, i < n + 2 → k < n → V i k < 18446744073709551616 ^ 40) (hz : ∀ i, z0 i < 18446744073709551616) : ∀ c, m + c ≤ n → (∀ i, i < m + c → nowV n V m z0 c i < 18446744073709551616 ^ (42 * c + 1)) ∧ denV n V m c < 18446744073709551616 ^ (42 * c + 1)
  | 0, _ => ⟨fun i _ => by show z0 i < 18446744073709551616 ^ 1; rw [Nat.pow_one]; exact hz i, by show 1 < _; decide⟩
  | c + 1, h => by
    obtain ⟨i1, i2⟩ := go_lt (m := m) (z0 := z0) hn hV hz c (by omega)
    have e : 18446744073709551616 ^ (42 * (c + 1) + 1) = 18446744073709551616 ^ (42 * c + 1) * 18446744073709551616 ^ 40 * 18446744073709551616 * 18446744073709551616 := by rw [← Nat.pow_add, ← Nat.pow_succ, ← Nat.pow_succ]; congr 1
    rw [e]
    have h1 : ∀ k, k < n → V (m + c) k < 18446744073709551616 ^ 40 := fun k hk => hV _ k (by omega) hk
    have h2 := hV (n + 1) (m + c) (by omega) (by omega)
    have hp1 : 0 < 18446744073709551616 ^ (42 * c + 1) := Nat.pow_pos (by decide)
    have hp2 : 0 < 18446744073709551616 ^ 40 := Nat.pow_pos (by decide)
    generalize 18446744073709551616 ^ (42 * c + 1) = A at *
    generalize 18446744073709551616 ^ 40 = C at *
    have hp : 0 < A * C := Nat.mul_pos hp1 hp2
    have q1 : A * C * 18446744073709551616 ≤ A * C * 18446744073709551616 * 18446744073709551616 := Nat.le_mul_of_pos_right _ (by decide)
    have q2 : A * C ≤ A * C * 18446744073709551616 := Nat.le_mul_of_pos_right _ (by decide)
    have q3 := Nat.le_trans q2 q1
    refine ⟨fun i hi => ?_, ?_⟩
    · show (if i < m + c then _ else _) < _
      split
      · rename_i h3
        exact Nat.lt_of_lt_of_le (Nat.mul_lt_mul'' (i1 i h3) h2) q3
      · rcases sumTo_lt (z := fun k => nowV n V m z0 c k * V (m + c) k) (M := A * C) (n := m + c) (by omega) (fun k hk => Nat.mul_lt_mul'' (i1 k hk) (h1 k (by omega))) with h3 | h3
        · exact Nat.lt_of_lt_of_le h3 q1
        · exact absurd h3 (Nat.ne_of_gt hp)
    · show denV n V m c * V (n + 1) (m + c) < _
      exact Nat.lt_of_lt_of_le (Nat.mul_lt_mul'' i2 h2) q3
/-- Behind k of them: who has been asked is multiplied. -/
def nowAt (n : Nat) (V : Nat → Nat → Nat) (z : Nat → Nat) (s k j : Nat) : Nat := if j < k then z j * V (n + 1) s else z j
/-- Numbers at their states' places. -/
def inV (l : List Nat) (z : Nat → Nat) : Nat → Nat → Nat
  | 0, _ => 0
  | c + 1, s => if s = l.getD c 0 then z c else inV l z c s
theorem inV_at {l : List Nat} {z : Nat → Nat} : ∀ {c i : Nat}, i < c → (∀ a b, a < c → b < c → l.getD a 0 = l.getD b 0 → a = b) → inV l z c (l.getD i 0) = z i
  | 0, i, h, _ => by omega
  | c + 1, i, h, hd => by
    show (if _ then _ else _) = _
    by_cases e : l.getD i 0 = l.getD c 0
    · rw [if_pos e, hd i c h (by omega) e]
    · rw [if_neg e]
      have : i ≠ c := fun x => e (by rw [x])
      exact inV_at (by omega) (fun a b ha hb => hd a b (by omega) (by omega))
end Go.Proofs.YtlnhpkmcinohdaaDoor

/- (fold.Chain).inPlace, walked. -/
namespace Go.Proofs.YtlnhpkmcinohdaaDoor
open Go.RowKit

/-- A list of numbers without a bound. -/
def NatsIn (w : World) (v : Value) (n : Nat) (z : Nat → Nat) : Prop := ∃ (g : Nat) (f : Nat → Value), v = .slice (some ⟨g, 0, none⟩) n n ∧ ∀ i, i < n → w.cell? ⟨g, i, none⟩ = some (f i) ∧ NatAt w (f i) (z i)
theorem NatsIn.later {w w' : World} {v : Value} {n : Nat} {z : Nat → Nat} (h : NatsIn w v n z) (hb : Below w.heap.size w w') : NatsIn w' v n z := by
  obtain ⟨g, f, e, hc⟩ := h
  exact ⟨g, f, e, fun i hi => ⟨by rw [hb.cell (cell_lt (hc i hi).1)]; exact (hc i hi).1, (hc i hi).2.later hb⟩⟩

set_option maxRecDepth 100000 in
set_option maxHeartbeats 4000000 in
theorem inPlace_any (wq : World) (n N cl cc gb cap : Nat) (q2 q3 q4 : Value) (hq : (∃ a b c, q2 = .slice a b c) ∧ (∃ a b c, q3 = .slice a b c) ∧ ∃ a b c, q4 = .slice a b c) (l : List Nat) (fv : Nat → Value) (z : Nat → Nat)
    (hst : RowAt wq cl 0 n (fun i => ((l.getD i 0 : Nat) : Int))) (hr : ∀ i, i < n → wq.cell? ⟨gb, i, none⟩ = some (fv i) ∧ NatAt wq (fv i) (z i)) (hlen : l.length = n) (hlN : ∀ x, x ∈ l → x < N) (hN : N ≤ 8) (hn : n ≤ 8) :
    Calls Tryd.prog 75 #[.agg #[.slice (some ⟨cl, 0, none⟩) n cc, .int .i64 N, q2, q3, q4], .slice (some ⟨gb, 0, none⟩) n cap] wq fun e w' => ∃ r, e = .returned r ∧ NatsIn w' r N (inV l z n) ∧ Below wq.heap.size wq w' := by
  obtain ⟨⟨a2, b2, c2, rfl⟩, ⟨a3, b3, c3, rfl⟩, ⟨a4, b4, c4, rfl⟩⟩ := hq
  obtain ⟨i0, hi, hz0, hz1, hz2⟩ := info_parts Tryd.infoNat
  have HINF : Hid (Tryd.prog.info? 68 = some i0 ∧ i0.zero = some (.slice none 0 0) ∧ i0.size = 1 ∧ i0.bytes = 24) := ⟨hi, hz0, hz1, hz2⟩
  clear hi hz0 hz1 hz2
  obtain ⟨bx, hbx⟩ : ∃ bx, bx = wq.heap.size := ⟨_, rfl⟩
  obtain ⟨W1, hW1⟩ : ∃ W1, W1 = wq.alloc (.cells #[.slice (some ⟨cl, 0, none⟩) n cc, .int .i64 N, .slice a2 b2 c2, .slice a3 b3 c3, .slice a4 b4 c4] 110) := ⟨_, rfl⟩
  have hb1 : Below wq.heap.size wq W1 := by rw [hW1]; exact (Below.refl _ _).alloc (Nat.le_refl _) _
  have x0 : W1.cell? ⟨bx, 0, none⟩ = some (.slice (some ⟨cl, 0, none⟩) n cc) := by rw [hW1]; exact top_cell _ _ _ _ hbx
  have x1 : W1.cell? ⟨bx, 1, none⟩ = some (.int .i64 N) := by rw [hW1]; exact top_cell _ _ _ _ hbx
  have HX0 : Hid (∀ W, Below W1.heap.size W1 W → W.cell? ⟨bx, 0, none⟩ = some (.slice (some ⟨cl, 0, none⟩) n cc)) := fun W hb => by rw [hb.cell (cell_lt x0)]; exact x0
  have HST : Hid (∀ W, Below W1.heap.size W1 W → ∀ i, i < n → W.cell? ⟨cl, i, none⟩ = some (.int .i64 ((l.getD i 0 : Nat) : Int))) := fun W hb i hi => by
    have h1 := (hst.later hb1) i hi
    rw [Nat.zero_add] at h1
    rw [hb.cell (cell_lt h1)]; exact h1
  have HR : Hid (∀ W, Below W1.heap.size W1 W → ∀ i, i < n → W.cell? ⟨gb, i, none⟩ = some (fv i) ∧ NatAt W (fv i) (z i)) := fun W hb i hi => by
    obtain ⟨h1, h2⟩ := hr i hi
    have h3 : W1.cell? ⟨gb, i, none⟩ = some (fv i) := by rw [hb1.cell (cell_lt h1)]; exact h1
    exact ⟨by rw [hb.cell (cell_lt h3)]; exact h3, (h2.later hb1).later hb⟩
  have HLN : Hid (∀ i, i < n → l.getD i 0 < N) := fun i hi => hlN _ (by rw [List.getD_eq_getElem?_getD, List.getElem?_eq_getElem (by omega)]; simp)
  have HEND := Hid.mk' hb1
  clear hst hr hlN hb1 x0
  go_enter Tryd.func75, Tryd.ntmps75
  go_upto_region 1 with fail
  rw [← hW1, ← hbx]
  clear hW1 hbx
  go_wp2_with (at_make; go_must (refine wpList_make_full _ rfl _ _ _ rfl W1.heap.size 68 i0 _ 1 Tryd.underlying86 HINF.out.1 HINF.out.2.1 HINF.out.2.2.1 .i64 .i64 _ _ N rfl rfl rfl rfl (by rw [HINF.out.2.2.2]; omega) (by unfold maxLen; omega) (Nat.le_refl _) ?_; intro w2 hown2 hgrow2; have HF2 := Hid.mk' (rowIs_made hown2 (made_one (.slice none 0 0) rfl N)); have HB2 := Hid.mk' (made_below hgrow2); have y0 := HX0.out w2 (made_below hgrow2); clear hown2 hgrow2))
  obtain ⟨og, hog⟩ : ∃ og, og = W1.heap.size := ⟨_, rfl⟩
  rw [← hog] at HF2 ⊢
  have HOG : Hid (W1.heap.size ≤ og ∧ wq.heap.size ≤ og) := ⟨by omega, by have := HEND.out.size; omega⟩
  clear hog y0
  go_loopw [14] (fun t wr => ∃ (i : Nat) (F : Nat → Value), i ≤ n ∧ t = .int .i64 i ∧ Hid (RowIs wr og N F) ∧ Hid (∀ s, s < N → NatAt wr (F s) (inV l z i s)) ∧ Hid (Below W1.heap.size W1 wr)) (fun t _ => n - (intOf t).toNat)
  case atStart => exact ⟨0, _, Nat.zero_le _, rfl, HF2.out, fun s hs => natAt_none _, HB2.out⟩
  case round =>
    clear HF2 HB2
    obtain ⟨i, F, hi, rfl, HF, HN, HB⟩ := hrel
    rcases Nat.lt_or_ge i n with h1 | h1
    · have hiI : (i : Int) < (n : Int) := by omega
      have hi0 : (0 : Int) ≤ (i : Int) := by omega
      have y0 := HST.out wr HB.out i h1
      obtain ⟨y1, hnat⟩ := HR.out wr HB.out i h1
      have hs := HLN.out i h1
      have HNX : Hid (∀ s, inV l z (i + 1) s = if s = l.getD i 0 then z i else inV l z i s) := fun s => rfl
      obtain ⟨s, hse⟩ : ∃ s, s = l.getD i 0 := ⟨_, rfl⟩
      rw [← hse] at y0 hs HNX
      clear hse
      have hs0 : (0 : Int) ≤ (s : Int) := by omega
      have hsI : (s : Int) < (N : Int) := by omega
      have x2 := HF.out.row s hs
      have x3 := HF.out.fz s hs
      obtain ⟨a5, b5, c5, he⟩ := (HN.out s hs).isSlice
      rw [he] at x2
      have HFE := Hid.mk' he
      obtain ⟨a6, b6, c6, he6⟩ := hnat.isSlice
      rw [he6] at y1 hnat
      have HNV := Hid.mk' hnat
      have HX2 := Hid.mk' x2
      clear hnat he he6
      go_wp2_with fail
      refine ⟨⟨i + 1, fun j => if j = s then .slice a6 b6 c6 else F j, h1, by go_num, ⟨fun j hj => ?_, fun j hj => ?_⟩, fun j hj => ?_, HB.out.setCell HOG.out.1 _⟩, by simp [intOf]; omega⟩
      · rw [cell_put _ HX2.out]
        by_cases e : j = s
        · rw [e, if_pos rfl, if_pos rfl]
        · rw [if_neg (fun h => e (congrArg Addr.off h)), if_neg e]; exact HF.out.row j hj
      · rw [World.frozen?_setCell]; exact HF.out.fz j hj
      · rw [HNX.out]
        dsimp only
        by_cases e : j = s
        · rw [if_pos e, if_pos e]; exact HNV.out.putS HX2.out
        · rw [if_neg e, if_neg e]; exact (HN.out j hj).putS HX2.out
    · obtain rfl : n = i := by omega
      go_wp2_with fail
      go_ret
      exact ⟨_, rfl, ⟨og, F, rfl, fun i hi => ⟨HF.out.row i hi, HN.out i hi⟩⟩, below_chain HEND.out HB.out⟩
end Go.Proofs.YtlnhpkmcinohdaaDoor

/- (fold.Chain).goOn, walked: from what is told of the first m states to all. -/
namespace Go.Proofs.YtlnhpkmcinohdaaDoor
open Go.RowKit

theorem one_at {W : World} {bb : Nat} {v : Value} (h : W.cell? ⟨bb, 0, none⟩ = some v) (j : Nat) (u : Value) (hu : [v][j]? = some u) : W.cell? ((⟨bb, 0, none⟩ : Addr).add j) = some u := by
  rcases j with _ | j
  · obtain rfl : v = u := by simpa using hu
    exact h
  · simp at hu
/-- What lies beside the list that grows: the chain's box, what is given. -/
structure EnvG (W : World) (G bx gg n : Nat) (X : Nat → Value) : Prop where
  box : ∀ j, j < 5 → W.cell? ⟨bx, j, none⟩ = some (X j)
  giv : ∀ i, i < n → W.cell? ⟨gg, i, none⟩ = some (.slice none 0 0)
  ne : bx ≠ G ∧ gg ≠ G
  lt : bx < W.heap.size ∧ gg < W.heap.size
theorem EnvG.later {W W' : World} {G bx gg n : Nat} {X : Nat → Value} (h : EnvG W G bx gg n X) (hb : Below W.heap.size W W') : EnvG W' G bx gg n X :=
  ⟨fun j hj => by rw [hb.cell (cell_lt (h.box j hj))]; exact h.box j hj, fun i hi => by rw [hb.cell (cell_lt (h.giv i hi))]; exact h.giv i hi, h.ne, ⟨Nat.lt_of_lt_of_le h.lt.1 hb.size, Nat.lt_of_lt_of_le h.lt.2 hb.size⟩⟩
theorem EnvG.set {W : World} {G bx gg n : Nat} {X : Nat → Value} (h : EnvG W G bx gg n X) (i : Nat) (y : Value) : EnvG (W.setCell ⟨G, i, none⟩ y) G bx gg n X :=
  ⟨fun j hj => by rw [World.cell?_setCell_other _ _ _ _ (fun e => h.ne.1 (congrArg Addr.block e).symm)]; exact h.box j hj, fun j hj => by rw [World.cell?_setCell_other _ _ _ _ (fun e => h.ne.2 (congrArg Addr.block e).symm)]; exact h.giv j hj, h.ne, by simpa using h.lt⟩
theorem EnvG.grown {W W' : World} {G G' bx gg n : Nat} {X : Nat → Value} (h : EnvG W G bx gg n X) (hg : W.grownBy W' (some G)) (hG : G = G' ∨ G' = W.heap.size) : EnvG W' G' bx gg n X := by
  have h1 := h.lt
  have hs := hg.size
  refine ⟨fun j hj => ?_, fun i hi => ?_, ?_, ⟨by omega, by omega⟩⟩
  · rw [World.cell?_of_block (a := ⟨bx, j, none⟩) (hg.block bx h1.1 (fun e => h.ne.1 (Option.some.inj e)))]; exact h.box j hj
  · rw [World.cell?_of_block (a := ⟨gg, i, none⟩) (hg.block gg h1.2 (fun e => h.ne.2 (Option.some.inj e)))]; exact h.giv i hi
  · rcases hG with rfl | rfl
    · exact h.ne
    · exact ⟨by omega, by omega⟩

/-- The list, and what is beside it. -/
structure MidG (WF W : World) (G s cap : Nat) (fv : Nat → Value) (z : Nat → Nat) (bx gg n : Nat) (X : Nat → Value) : Prop where
  below : Below WF.heap.size WF W
  own : NatsOwn WF.heap.size W G s cap fv z
  env : EnvG W G bx gg n X
theorem MidG.later {WF W W' : World} {G s cap : Nat} {fv : Nat → Value} {z : Nat → Nat} {bx gg n : Nat} {X : Nat → Value} (h : MidG WF W G s cap fv z bx gg n X) (hb : Below W.heap.size W W') : MidG WF W' G s cap fv z bx gg n X :=
  ⟨below_chain h.below hb, ⟨own_past h.own.own hb, fun i hi => (h.own.nats i hi).later hb, h.own.off⟩, h.env.later hb⟩
theorem MidG.congr {WF W : World} {G s cap : Nat} {fv : Nat → Value} {z z' : Nat → Nat} {bx gg n : Nat} {X : Nat → Value} (h : MidG WF W G s cap fv z bx gg n X) (hz : ∀ i, i < s → z' i = z i) : MidG WF W G s cap fv z' bx gg n X :=
  ⟨h.below, ⟨h.own.own, fun i hi => by rw [hz i hi]; exact h.own.nats i hi, h.own.off⟩, h.env⟩
theorem MidG.set {WF W : World} {G s cap : Nat} {fv : Nat → Value} {z : Nat → Nat} {bx gg n : Nat} {X : Nat → Value} (h : MidG WF W G s cap fv z bx gg n X) {k : Nat} (hk : k < s) {y : Value} {v : Nat} (hy : NatAt W y v) (ho : Off G y) : MidG WF (W.setCell ⟨G, k, none⟩ y) G s cap (fun j => if j = k then y else fv j) (fun j => if j = k then v else z j) bx gg n X := by
  obtain ⟨hge, hlt, hc⟩ := ownsRow_cells h.own.own
  have hx := (hc k hk).1
  obtain ⟨a1, l1, c1, e1⟩ := (h.own.nats k hk).isSlice
  rw [e1] at hx
  refine ⟨h.below.setCell hge _, ⟨?_, fun j hj => ?_, fun j hj => ?_⟩, h.env.set _ _⟩
  · have := ownsRow_set (k := k) y h.own.own
    rw [rowV_set] at this
    exact this
  · by_cases e : j = k
    · rw [if_pos e, if_pos e]; exact hy.putS hx
    · rw [if_neg e, if_neg e]; exact (h.own.nats j hj).putS hx
  · by_cases e : j = k
    · rw [if_pos e]; exact ho
    · rw [if_neg e]; exact h.own.off j hj
theorem MidG.keep {WF W : World} {G s cap : Nat} {fv : Nat → Value} {z : Nat → Nat} {bx gg n : Nat} {X : Nat → Value} (h : MidG WF W G s cap fv z bx gg n X) {k : Nat} (hk : k < s) (y : Value) {u : Value} {m : Nat} (hu : NatAt W u m) : NatAt (W.setCell ⟨G, k, none⟩ y) u m := by
  obtain ⟨_, _, hc⟩ := ownsRow_cells h.own.own
  have hx := (hc k hk).1
  obtain ⟨a1, l1, c1, e1⟩ := (h.own.nats k hk).isSlice
  rw [e1] at hx
  exact hu.putS hx
/-- One more is told. -/
theorem MidG.push {WF W W' : World} {G G' s cap cap' : Nat} {fv : Nat → Value} {z : Nat → Nat} {bx gg n : Nat} {X : Nat → Value} (h : MidG WF W G s cap fv z bx gg n X) {y : Value} {v : Nat} (hy : NatAt W y v) (ho : Off G y)
    (hown : W'.ownsRow WF.heap.size 68 1 (.slice (some ⟨G', 0, none⟩) (s + 1) cap') (s + 1) (rowV fv s ++ [y])) (hg : W.grownBy W' (some G)) (hG : G = G' ∨ G' = W.heap.size) :
    MidG WF W' G' (s + 1) cap' (fun j => if j = s then y else fv j) (fun j => if j = s then v else z j) bx gg n X ∧ ∀ u m, NatAt W u m → Off G u → NatAt W' u m ∧ Off G' u := by
  have key : ∀ u m, NatAt W u m → Off G u → NatAt W' u m ∧ Off G' u := fun u m hu ho => by
    refine ⟨hu.grown hg ho, ?_⟩
    rcases hG with rfl | rfl
    · exact ho
    · exact hu.off (Nat.le_refl _)
  refine ⟨⟨h.below.grown hg h.below.size (fun k hk => by obtain rfl := Option.some.inj hk; exact (ownsRow_cells h.own.own).1), ⟨?_, fun j hj => ?_, fun j hj => ?_⟩, h.env.grown hg hG⟩, key⟩
  · rw [← rowV_push]; exact hown
  · by_cases e : j = s
    · rw [if_pos e, if_pos e]; exact (key y v hy ho).1
    · rw [if_neg e, if_neg e]; exact (key _ _ (h.own.nats j (by omega)) (h.own.off j (by omega))).1
  · by_cases e : j = s
    · rw [if_pos e]; exact (key y v hy ho).2
    · rw [if_neg e]; exact (key _ _ (h.own.nats j (by omega)) (h.own.off j (by omega))).2

set_option maxRecDepth 100000 in
set_option maxHeartbeats 8000000 in
theorem goOn_any (w WF wr : World) (n g N gg gc cl cc m gb cap : Nat) (rb cp : Nat → Nat) (f : Nat → Nat → Value) (V : Nat → Nat → Nat) (l : List Nat) (fv : Nat → Value) (z0 : Nat → Nat)
    (h : FoldAt w WF n g rb cp f V) (hst : RowAt WF cl 0 n (fun i => ((l.getD i 0 : Nat) : Int))) (hbW : Below WF.heap.size WF wr) (hO : NatsOwn WF.heap.size wr gb m cap fv z0) (hG : RowIs wr gg n (fun _ => .slice none 0 0)) (hgg : gg ≠ gb)
    (hm : 1 ≤ m) (hmn : m ≤ n) (hn : n ≤ 8) (hlen : l.length = n) (hlN : ∀ x, x ∈ l → x < N) (hN : N ≤ 8) (hV : ∀ i k, i < n + 2 → k < n → V i k < 18446744073709551616 ^ 40) (hz0 : ∀ i, z0 i < 18446744073709551616) :
    Calls Tryd.prog 71 #[.agg #[.slice (some ⟨cl, 0, none⟩) n cc, .int .i64 N, .slice (some ⟨g, 0, none⟩) n n, .slice (some ⟨rb n, 0, none⟩) n n, .slice (some ⟨rb (n + 1), 0, none⟩) n n], .slice (some ⟨gb, 0, none⟩) m cap, .slice (some ⟨gg, 0, none⟩) n gc] wr fun e w' => ∃ r d, e = .returned (.tuple #[r, d]) ∧ NatsIn w' r N (inV l (nowV n V m z0 (n - m)) n) ∧ NatAt w' d (denV n V m (n - m)) ∧ Below WF.heap.size WF w' := by
  obtain ⟨i0, hi, hz0', hz1, hz2⟩ := info_parts Tryd.infoNat
  have HINF : Hid (Tryd.prog.info? 68 = some i0 ∧ i0.zero = some (.slice none 0 0) ∧ i0.size = 1 ∧ i0.bytes = 24) := ⟨hi, hz0', hz1, hz2⟩
  clear hi hz0' hz1 hz2
  obtain ⟨X, hX⟩ : ∃ X : Nat → Value, X = xB cl cc N g (rb n) (rb (n + 1)) n := ⟨_, rfl⟩
  have HX2 : Hid (X 0 = .slice (some ⟨cl, 0, none⟩) n cc ∧ X 1 = .int .i64 N ∧ X 2 = .slice (some ⟨g, 0, none⟩) n n ∧ X 3 = .slice (some ⟨rb n, 0, none⟩) n n ∧ X 4 = .slice (some ⟨rb (n + 1), 0, none⟩) n n) := by rw [hX]; exact ⟨rfl, rfl, rfl, rfl, rfl⟩
  clear hX
  obtain ⟨bx, hbx⟩ : ∃ bx, bx = wr.heap.size := ⟨_, rfl⟩
  obtain ⟨W1, hW1⟩ : ∃ W1, W1 = wr.alloc (.cells #[.slice (some ⟨cl, 0, none⟩) n cc, .int .i64 N, .slice (some ⟨g, 0, none⟩) n n, .slice (some ⟨rb n, 0, none⟩) n n, .slice (some ⟨rb (n + 1), 0, none⟩) n n] 110) := ⟨_, rfl⟩
  have hb1 : Below wr.heap.size wr W1 := by rw [hW1]; exact (Below.refl _ _).alloc (Nat.le_refl _) _
  have hgb : gb < wr.heap.size := (ownsRow_cells hO.own).2.1
  have hggl : gg < wr.heap.size := cell_lt (hG.row 0 (by omega))
  have hM1 : MidG WF W1 gb m cap fv z0 bx gg n X := by
    refine ⟨below_chain hbW hb1, ⟨own_past hO.own hb1, fun i hi => (hO.nats i hi).later hb1, hO.off⟩, ⟨fun j hj => ?_, fun i hi => (hG.later hb1).row i hi, ⟨by omega, hgg⟩, ⟨by rw [hbx, hW1]; simp, Nat.lt_of_lt_of_le hggl hb1.size⟩⟩⟩
    rcases (show j = 0 ∨ j = 1 ∨ j = 2 ∨ j = 3 ∨ j = 4 by omega) with rfl | rfl | rfl | rfl | rfl
    · rw [HX2.out.1, hW1]; exact top_cell _ _ _ _ hbx
    · rw [HX2.out.2.1, hW1]; exact top_cell _ _ _ _ hbx
    · rw [HX2.out.2.2.1, hW1]; exact top_cell _ _ _ _ hbx
    · rw [HX2.out.2.2.2.1, hW1]; exact top_cell _ _ _ _ hbx
    · rw [HX2.out.2.2.2.2, hW1]; exact top_cell _ _ _ _ hbx
  have HF := Hid.mk' (fun (W : World) (hb : Below WF.heap.size WF W) => h.later hb)
  have HST := Hid.mk' (fun (W : World) (hb : Below WF.heap.size WF W) => RowAt.later hst hb)
  have HM1 := Hid.mk' hM1
  have HV := Hid.mk' hV
  have HGL := Hid.mk' (fun (c : Nat) (hc : m + c ≤ n) => go_lt (m := m) (z0 := z0) hn hV hz0 c hc)
  have HLN := Hid.mk' hlN
  have hone := NatOf_new 1 W1 (by decide)
  have hgs := hgb
  clear h hst hbW hO hG hgg hM1 hV hz0 hlN hb1 hggl hgb hgs
  go_enter Tryd.func71, Tryd.ntmps71
  go_wp2_with fail
  rw [← hW1, ← hbx]
  refine hone.mono ?_
  clear hone hW1 hbx
  rintro e w2 ⟨dv, rfl, hdv, hb2⟩
  have HM2 := Hid.mk' (HM1.out.later hb2)
  have HD2 : Hid (NatAt w2 dv (denV n V m 0) ∧ Off gb dv) := ⟨hdv.1, hdv.off (ownsRow_cells HM1.out.own.own).2.1⟩
  clear hdv hb2 HM1
  go_wp2_with fail
  go_loopw [1, 8, 9] (fun u d t wr => ∃ (c gb cap : Nat) (fv : Nat → Value), m + c ≤ n ∧ t = .int .i64 ((m + c : Nat) : Int) ∧ u = .slice (some ⟨gb, 0, none⟩) (m + c) cap ∧ Hid (MidG WF wr gb (m + c) cap fv (nowV n V m z0 c) bx gg n X) ∧ Hid (NatAt wr d (denV n V m c) ∧ Off gb d)) (fun _ _ t _ => n - (intOf t).toNat)
  case atStart => exact ⟨0, gb, cap, fv, by omega, rfl, rfl, HM2.out, HD2.out⟩
  case round =>
    clear HM2 HD2
    obtain ⟨c, gb, cap, fv, hcn, rfl, rfl, HM, HD⟩ := hrel
    have b4 := HM.out.env.box 4 (by decide)
    rw [HX2.out.2.2.2.2] at b4
    rcases Nat.lt_or_ge (m + c) n with h1 | h1
    · obtain ⟨s, hs⟩ : ∃ s, s = m + c := ⟨_, rfl⟩
      have HS := Hid.mk' hs
      have hsum : nowV n V m z0 (c + 1) s = sumTo (fun k => nowV n V m z0 c k * V s k) s := by show (if s < m + c then _ else _) = _; rw [if_neg (by omega), ← hs]
      have HSUM := Hid.mk' hsum
      obtain ⟨z, hz⟩ : ∃ z : Nat → Nat, z = nowV n V m z0 c := ⟨_, rfl⟩
      obtain ⟨D, hD⟩ : ∃ D, D = denV n V m c := ⟨_, rfl⟩
      have HNX : Hid (denV n V m (c + 1) = D * V (n + 1) s ∧ ∀ j, j < s + 1 → nowV n V m z0 (c + 1) j = if j = s then sumTo (fun k => z k * V s k) s else z j * V (n + 1) s) := by
        refine ⟨by rw [hD, hs]; rfl, fun j hj => ?_⟩
        by_cases e : j = s
        · rw [if_pos e, e, hsum, hz]
        · rw [if_neg e]; show (if j < m + c then _ else _) = _; rw [if_pos (by omega), hz, hs]
      have HBD := HGL.out c hcn
      rw [← hz, ← hs, ← hD] at HBD
      rw [← hs, ← hz] at HM
      rw [← hD] at HD
      rw [← hs] at h1
      rw [← hs]
      clear hsum hz hD hs
      have HBD := Hid.mk' HBD
      have hsI : (s : Int) < (n : Int) := by omega
      have hs0 : (0 : Int) ≤ (s : Int) := by omega
      have v1 := HM.out.env.giv s h1
      have hby0 := By_new (.slice none 0 0) u8 0 D (42 * c + 1) wr (natAt_none wr) HD.out.1 (Nat.pow_pos (by decide)) HBD.out.2 (by omega)
      rw [Nat.zero_mul] at hby0
      go_wp2_with fail
      refine hby0.mono ?_
      clear hby0
      rintro e w4 ⟨sv, rfl, hsv, hb4⟩
      have HM4 := Hid.mk' ((HM.out.later hb4).congr (z' := nowAt n V z s 0) (fun i _ => by unfold nowAt; rw [if_neg (by omega)]))
      have HD4 : Hid (NatAt w4 u8 D ∧ Off gb u8) := ⟨HD.out.1.later hb4, HD.out.2⟩
      have HS4 : Hid (NatAt w4 sv 0 ∧ Off gb sv) := ⟨hsv.1, hsv.off (ownsRow_cells HM.out.own.own).2.1⟩
      clear hsv hb4 HM HD b4 v1
      go_wp2_with fail
      obtain ⟨du, hdu⟩ : ∃ du, du = u8 := ⟨_, rfl⟩
      rw [← hdu] at HD4 ⊢
      clear hdu
      go_loopw [10, 29] (fun o t wr => ∃ (k : Nat) (fv : Nat → Value), k ≤ s ∧ t = .int .i64 k ∧ Hid (NatAt wr o (sumTo (fun j => z j * V s j) k) ∧ Off gb o) ∧ Hid (NatAt wr du D ∧ Off gb du) ∧ Hid (MidG WF wr gb s cap fv (nowAt n V z s k) bx gg n X)) (fun _ t _ => s - (intOf t).toNat)
      case atStart => exact ⟨0, fv, Nat.zero_le _, rfl, HS4.out, HD4.out, HM4.out⟩
      case round =>
        clear HS4 HD4 HM4
        obtain ⟨k, fv, hk, rfl, HSV, HDV, HM⟩ := hrel
        have HFr := Hid.mk' (HF.out wr HM.out.below)
        rcases Nat.lt_or_ge k s with h2 | h2
        · have hkI : (k : Int) < (s : Int) := by omega
          have hkN : (k : Int) < (n : Int) := by omega
          have hk0 : (0 : Int) ≤ (k : Int) := by omega
          obtain ⟨hgb1, hgb2, hcells⟩ := ownsRow_cells HM.out.own.own
          have y0 := (hcells k h2).1
          have y9 := (hcells k h2).2
          have y1 := HM.out.env.box 2 (by decide)
          rw [HX2.out.2.2.1] at y1
          have y2 := HFr.out.outer s h1
          have y3 := (HFr.out.rows s (by omega)).row k (by omega)
          have HN0 := Hid.mk' (HM.out.own.nats k h2)
          rw [show nowAt n V z s k k = z k by unfold nowAt; rw [if_neg (by omega)]] at HN0
          have HN3 := Hid.mk' (HFr.out.nats s k (by omega) (by omega))
          obtain ⟨E, hE⟩ : ∃ E : Nat, E = 400 := ⟨_, rfl⟩
          have hzk : ∀ j, j < s → z j < 18446744073709551616 ^ E := fun j hj => Nat.lt_of_lt_of_le (HBD.out.1 j hj) (Nat.pow_le_pow_right (by decide) (by omega))
          have hvk : ∀ i j, i < n + 2 → j < n → V i j < 18446744073709551616 ^ E := fun i j hi hj => Nat.lt_of_lt_of_le (HV.out i j hi hj) (Nat.pow_le_pow_right (by decide) (by omega))
          have HVB : Hid (z k < 18446744073709551616 ^ E ∧ V s k < 18446744073709551616 ^ E ∧ V (n + 1) s < 18446744073709551616 ^ E) := ⟨hzk k h2, hvk s k (by omega) (by omega), hvk (n + 1) s (by omega) h1⟩
          have HPB : Hid (z k * V s k < 18446744073709551616 ^ (E + E)) := by show _ < _; rw [Nat.pow_add]; exact Nat.mul_lt_mul'' HVB.out.1 HVB.out.2.1
          have HSB : Hid (sumTo (fun j => z j * V s j) k < 18446744073709551616 ^ (E + E + 1)) := by
            rcases sumTo_lt (z := fun j => z j * V s j) (M := 18446744073709551616 ^ (E + E)) (n := k) (by omega) (fun j hj => by rw [Nat.pow_add]; exact Nat.mul_lt_mul'' (hzk j (by omega)) (hvk s j (by omega) (by omega))) with h | h
            · show _ < _; rw [Nat.pow_succ]; exact h
            · exact absurd h (Nat.ne_of_gt (Nat.pow_pos (by decide)))
          have HSN : Hid (sumTo (fun j => z j * V s j) (k + 1) = sumTo (fun j => z j * V s j) k + z k * V s k) := rfl
          obtain ⟨na, nl, nc, hne⟩ := (HM.out.own.nats k h2).isSlice
          rw [hne] at y0 HN0
          generalize f s k = y at *
          have HKS : Hid (∀ W, Below wr.heap.size wr W → (W.cell? ⟨gb, k, none⟩ = some (.slice na nl nc) ∧ W.cell? ⟨bx, 2, none⟩ = some (.slice (some ⟨g, 0, none⟩) n n) ∧ W.cell? ⟨g, s, none⟩ = some (.slice (some ⟨rb s, 0, none⟩) n (cp s)) ∧ W.cell? ⟨rb s, k, none⟩ = some y)) := fun W hb => ⟨by rw [hb.cell (cell_lt y0)]; exact y0, by rw [hb.cell (cell_lt y1)]; exact y1, by rw [hb.cell (cell_lt y2)]; exact y2, by rw [hb.cell (cell_lt y3)]; exact y3⟩
          have HBY : Hid (∀ W, Below wr.heap.size wr W → Calls Tryd.prog 74 #[.slice na nl nc, y] W fun e w' => ∃ r, e = .returned r ∧ NatAt w' r (z k * V s k) ∧ Below W.heap.size W w') := fun W hb => By_any _ _ _ _ E W (HN0.out.later hb) (HN3.out.later hb) HVB.out.1 HVB.out.2.1 (by omega)
          have HPL : Hid (∀ W q, Below wr.heap.size wr W → NatAt W q (z k * V s k) → Calls Tryd.prog 42 #[u10, q] W fun e w' => ∃ r, e = .returned r ∧ NatNew W.heap.size w' r (sumTo (fun j => z j * V s j) (k + 1)) ∧ Below W.heap.size W w') := fun W q hb hq => by rw [HSN.out]; exact Plus_new u10 q _ _ (E + E + 1) W (HSV.out.1.later hb) hq HSB.out (Nat.lt_trans HPB.out (Nat.pow_lt_pow_right (by decide) (by omega))) (by omega)
          have hcur : Below wr.heap.size wr wr.drew := (Below.refl _ _).drew
          have HNK := Hid.mk' hne
          clear y1 y2 y3 hzk hvk hne
          go_wp2_with fail
          go_region_held3 (fun W => W.cell? ⟨gb, k, none⟩ = some (.slice na nl nc) ∧ W.cell? ⟨bx, 2, none⟩ = some (.slice (some ⟨g, 0, none⟩) n n) ∧ W.cell? ⟨g, s, none⟩ = some (.slice (some ⟨rb s, 0, none⟩) n (cp s)) ∧ W.cell? ⟨rb s, k, none⟩ = some y)
            (first | exact HKS.out _ hcur | (refine HKS.out _ ?_; assumption))
            (first
              | (go_at_call 42; refine (HPL.out _ _ hcur1 HXP.out).mono ?_; rintro e w7 ⟨rv, rfl, hrv, hb7⟩; have hcur2 := below_chain hcur1 hb7; have HRO := Hid.mk' (hrv.off (Nat.lt_of_lt_of_le hgb2 hcur1.size)); have HRV := Hid.mk' hrv.1; clear hrv)
              | (go_at_call 74; refine (HBY.out _ hcur).mono ?_; rintro e w5 ⟨rp, rfl, hrp, hb5⟩; have hcur1 := below_chain hcur hb5; have HXP := Hid.mk' hrp; clear hrp))
          go_wp2_with fail
          have HM7 := Hid.mk' (HM.out.later hcur2)
          have HD7 : Hid (NatAt w7 du D ∧ Off gb du) := ⟨HDV.out.1.later hcur2, HDV.out.2⟩
          have q0 : w7.cell? ⟨gb, k, none⟩ = some (.slice na nl nc) := (HKS.out _ hcur2).1
          have q9 : w7.frozen? ⟨gb, k, none⟩ = false := by rw [hcur2.frozen (cell_lt y0)]; exact y9
          have q1 := HM7.out.env.box 4 (by decide)
          rw [HX2.out.2.2.2.2] at q1
          have q2 := ((HFr.out.later hcur2).rows (n + 1) (by omega)).row s h1
          have HNO7 := Hid.mk' ((HFr.out.later hcur2).nats (n + 1) s (by omega) h1)
          have HN07 := Hid.mk' (HN0.out.later hcur2)
          generalize f (n + 1) s = y2 at *
          clear hcur HKS HBY HPL y0 y9
          have HKT : Hid (∀ W, Below w7.heap.size w7 W → (W.cell? ⟨gb, k, none⟩ = some (.slice na nl nc) ∧ W.cell? ⟨bx, 4, none⟩ = some (.slice (some ⟨rb (n + 1), 0, none⟩) n n) ∧ W.cell? ⟨rb (n + 1), s, none⟩ = some y2)) := fun W hb => ⟨by rw [hb.cell (cell_lt q0)]; exact q0, by rw [hb.cell (cell_lt q1)]; exact q1, by rw [hb.cell (cell_lt q2)]; exact q2⟩
          have HFZ : Hid (∀ W, Below w7.heap.size w7 W → W.frozen? ⟨gb, k, none⟩ = false) := fun W hb => by rw [hb.frozen (cell_lt q0)]; exact q9
          have HBZ : Hid (∀ W, Below w7.heap.size w7 W → Calls Tryd.prog 74 #[.slice na nl nc, y2] W fun e w' => ∃ r, e = .returned r ∧ NatNew W.heap.size w' r (z k * V (n + 1) s) ∧ Below W.heap.size W w') := fun W hb => By_new _ _ _ _ E W (HN07.out.later hb) (HNO7.out.later hb) HVB.out.1 HVB.out.2.2 (by omega)
          have hcur : Below w7.heap.size w7 w7.drew := (Below.refl _ _).drew
          clear q0 q9 q1 q2
          go_wp2_with fail
          refine region_but_last (n := 13) (S := fun W => W.cell? ⟨gb, k, none⟩ = some (.slice na nl nc) ∧ W.cell? ⟨bx, 4, none⟩ = some (.slice (some ⟨rb (n + 1), 0, none⟩) n n) ∧ W.cell? ⟨rb (n + 1), s, none⟩ = some y2) (by kernel_rfl) (by kernel_rfl) (by kernel_rfl) (HKT.out _ hcur) (fun hHeld => ?_)
          refine wpAnyH_take (i := 0) (v := ?v0) rfl (by kernel_rfl) (by kernel_rfl) (by kernel_rfl) (fun _ _ _ h => h) (Or.inl ⟨by rfl, ?hy0⟩) (by assumption) ?rest0
          case hy0 => (intro w hSw; (try dsimp only at hSw); go_simp <;> (try with_reducible rfl))
          simp only [Act.put]
          refine wpAnyH_take (i := 1) (v := ?v1) rfl (by kernel_rfl) (by kernel_rfl) (by kernel_rfl) (fun _ _ _ h => h) (Or.inl ⟨by rfl, ?hy1⟩) (by assumption) ?rest1
          case hy1 => (intro w hSw; (try dsimp only at hSw); go_simp <;> (try with_reducible rfl))
          simp only [Act.put]
          refine wpAnyH_take (i := 2) (v := ?v2) rfl (by kernel_rfl) (by kernel_rfl) (by kernel_rfl) (fun _ _ _ h => h) (Or.inl ⟨by rfl, ?hy2⟩) (by assumption) ?rest2
          case hy2 => (intro w hSw; (try dsimp only at hSw); go_simp <;> (try with_reducible rfl))
          simp only [Act.put]
          refine wpAnyH_take (i := 3) (v := ?v3) rfl (by kernel_rfl) (by kernel_rfl) (by kernel_rfl) (fun _ _ _ h => h) (Or.inl ⟨by rfl, ?hy3⟩) (by assumption) ?rest3
          case hy3 => (intro w hSw; (try dsimp only at hSw); go_simp <;> (try with_reducible rfl))
          simp only [Act.put]
          refine wpAnyH_take (i := 4) (v := ?v4) rfl (by kernel_rfl) (by kernel_rfl) (by kernel_rfl) (fun _ _ _ h => h) (Or.inl ⟨by rfl, ?hy4⟩) (by assumption) ?rest4
          case hy4 => (intro w hSw; (try dsimp only at hSw); go_simp <;> (try with_reducible rfl))
          simp only [Act.put]
          refine wpAnyH_take (i := 5) (v := ?v5) rfl (by kernel_rfl) (by kernel_rfl) (by kernel_rfl) (fun _ _ _ h => h) (Or.inl ⟨by rfl, ?hy5⟩) (by assumption) ?rest5
          case hy5 => (intro w hSw; (try dsimp only at hSw); go_simp <;> (try with_reducible rfl))
          simp only [Act.put]
          refine wpAnyH_take (i := 6) (v := ?v6) rfl (by kernel_rfl) (by kernel_rfl) (by kernel_rfl) (fun _ _ _ h => h) (Or.inl ⟨by rfl, ?hy6⟩) (by assumption) ?rest6
          case hy6 => (intro w hSw; (try dsimp only at hSw); go_simp <;> (try with_reducible rfl))
          simp only [Act.put]
          refine wpAnyH_take (i := 7) (v := ?v7) rfl (by kernel_rfl) (by kernel_rfl) (by kernel_rfl) (fun _ _ _ h => h) (Or.inl ⟨by rfl, ?hy7⟩) (by assumption) ?rest7
          case hy7 => (intro w hSw; (try dsimp only at hSw); go_simp <;> (try with_reducible rfl))
          simp only [Act.put]
          refine wpAnyH_take (i := 8) (v := ?v8) rfl (by kernel_rfl) (by kernel_rfl) (by kernel_rfl) (fun _ _ _ h => h) (Or.inl ⟨by rfl, ?hy8⟩) (by assumption) ?rest8
          case hy8 => (intro w hSw; (try dsimp only at hSw); go_simp <;> (try with_reducible rfl))
          simp only [Act.put]
          refine wpAnyH_take (i := 9) (v := ?v9) rfl (by kernel_rfl) (by kernel_rfl) (by kernel_rfl) (fun _ _ _ h => h) (Or.inl ⟨by rfl, ?hy9⟩) (by assumption) ?rest9
          case hy9 => (intro w hSw; (try dsimp only at hSw); go_simp <;> (try with_reducible rfl))
          simp only [Act.put]
          refine wpAnyH_take (i := 10) (v := ?v10) rfl (by kernel_rfl) (by kernel_rfl) (by kernel_rfl) (fun _ _ _ h => h) (Or.inl ⟨by rfl, ?hy10⟩) (by assumption) ?rest10
          case hy10 => (intro w hSw; (try dsimp only at hSw); go_simp <;> (try with_reducible rfl))
          simp only [Act.put]
          refine wpAnyH_ready (rs := [11]) (by kernel_rfl) (by simp) ?_
          refine AllReadyH.cons rfl (fun K hK => ?_) AllReadyH.nil
          go_simp
          refine (HBZ.out _ hcur).mono ?_
          rintro e w8 ⟨rz, rfl, hrz, hb8⟩
          obtain ⟨za, zl, zc, rfl⟩ := hrz.1.isSlice
          have hzo := hrz.off (show gb < _ from Nat.lt_of_lt_of_le (ownsRow_cells HM7.out.own.own).2.1 hcur.size)
          have hcur := below_chain hcur hb8
          have z5 := HFZ.out _ hcur
          have z3 := (HKT.out _ hcur).1
          go_wp2_with fail
          refine hK.out _ _ ?_ (fun hHeld => ?_)
          · exact HKT.out _ hcur
          clear hK K
          refine wpAnyH_take (i := 12) (v := ?v12) rfl (by kernel_rfl) (by kernel_rfl) (by kernel_rfl) (fun _ _ _ h => h) (Or.inl ⟨by rfl, ?hy12⟩) (by assumption) ?rest12
          case hy12 => (intro w hSw; (try dsimp only at hSw); go_simp <;> (try with_reducible rfl))
          simp only [Act.put]
          refine wpAnyH_done (by kernel_rfl) ?_ _
          refine ahead_last rfl (fun K hK => ?_)
          go_simp
          refine hK _ _ ?_
          clear hK K
          go_wp2_with fail
          have hM8 := HM7.out.later hcur
          refine ⟨⟨k + 1, _, h2, by go_num, ⟨hM8.keep h2 _ (HRV.out.later hcur), HRO.out⟩, ⟨hM8.keep h2 _ (HD7.out.1.later hcur), HD7.out.2⟩, (hM8.set h2 hrz.1 hzo).congr (fun j hj => ?_)⟩, by simp [intOf]; omega⟩
          unfold nowAt
          by_cases e : j = k
          · rw [if_pos e, e, if_pos (by omega)]
          · rw [if_neg e]
            by_cases e2 : j < k
            · rw [if_pos e2, if_pos (by omega)]
            · rw [if_neg e2, if_neg (by omega)]
        · obtain rfl : s = k := by omega
          have HMs := Hid.mk' (HM.out.congr (z' := fun j => z j * V (n + 1) s) (fun j hj => by unfold nowAt; rw [if_pos hj]))
          obtain ⟨sa, sl, sc, hse⟩ := HSV.out.1.isSlice
          subst hse
          have HVO := Hid.mk' (HFr.out.nats (n + 1) s (by omega) h1)
          obtain ⟨E, hE⟩ : ∃ E : Nat, E = 400 := ⟨_, rfl⟩
          have HBY : Hid (∀ W y, NatAt W du D → NatAt W y (V (n + 1) s) → Calls Tryd.prog 74 #[du, y] W fun e w' => ∃ r, e = .returned r ∧ NatNew W.heap.size w' r (D * V (n + 1) s) ∧ Below W.heap.size W w') := fun W y h1' h2' => By_new du y _ _ E W h1' h2' (Nat.lt_of_lt_of_le HBD.out.2 (Nat.pow_le_pow_right (by decide) (by omega))) (Nat.lt_of_lt_of_le (HV.out (n + 1) s (by omega) h1) (Nat.pow_le_pow_right (by decide) (by omega))) (by omega)
          have HNO : Hid (∀ W, Below WF.heap.size WF W → W.cell? ⟨rb (n + 1), s, none⟩ = some (f (n + 1) s) ∧ NatAt W (f (n + 1) s) (V (n + 1) s)) := fun W hb => ⟨((HF.out W hb).rows (n + 1) (by omega)).row s h1, (HF.out W hb).nats (n + 1) s (by omega) h1⟩
          have HMd := Hid.mk' (HMs.out.later ((Below.refl wr.heap.size wr).drew))
          have HSd : Hid (NatAt wr.drew (.slice sa sl sc) (sumTo (fun j => z j * V s j) s) ∧ Off gb (.slice sa sl sc)) := ⟨HSV.out.1.later (Below.refl _ _).drew, HSV.out.2⟩
          have HDd : Hid (NatAt wr.drew du D ∧ Off gb du) := ⟨HDV.out.1.later (Below.refl _ _).drew, HDV.out.2⟩
          generalize f (n + 1) s = yo at *
          have HSS : Hid (∀ W G S' cap' f' z', MidG WF W G S' cap' f' z' bx gg n X → W.cell? ⟨bx, 4, none⟩ = some (.slice (some ⟨rb (n + 1), 0, none⟩) n n) ∧ W.cell? ⟨rb (n + 1), s, none⟩ = some yo) := fun W G S' cap' f' z' hM => ⟨by rw [hM.env.box 4 (by decide), HX2.out.2.2.2.2], (HNO.out W hM.below).1⟩
          clear HMs HSV HDV HM HFr HVO HGL
          go_wp2_with fail
          refine region_but_last (n := 12) (S := fun W => W.cell? ⟨bx, 4, none⟩ = some (.slice (some ⟨rb (n + 1), 0, none⟩) n n) ∧ W.cell? ⟨rb (n + 1), s, none⟩ = some yo) (by kernel_rfl) (by kernel_rfl) (by kernel_rfl) (HSS.out _ _ _ _ _ _ HMd.out) (fun hHeld => ?_)
          generalize wr.drew = Wd at *
          refine wpAnyH_take (i := 0) (v := ?v0k) rfl (by kernel_rfl) (by kernel_rfl) (by kernel_rfl) (fun _ _ _ h => h) (Or.inl ⟨by rfl, ?hy0k⟩) (by assumption) ?rest0k
          case hy0k => (intro w hSw; (try dsimp only at hSw); go_simp <;> (try with_reducible rfl))
          simp only [Act.put]
          refine wpAnyH_take (i := 1) (v := ?v1k) rfl (by kernel_rfl) (by kernel_rfl) (by kernel_rfl) (fun _ _ _ h => h) (Or.inl ⟨by rfl, ?hy1k⟩) (by assumption) ?rest1k
          case hy1k => (intro w hSw; (try dsimp only at hSw); go_simp <;> (try with_reducible rfl))
          simp only [Act.put]
          refine wpAnyH_take (i := 4) (v := ?v4k) rfl (by kernel_rfl) (by kernel_rfl) (by kernel_rfl) (fun _ _ _ h => h) (Or.inl ⟨by rfl, ?hy4k⟩) (by assumption) ?rest4k
          case hy4k => (intro w hSw; (try dsimp only at hSw); go_simp <;> (try with_reducible rfl))
          simp only [Act.put]
          refine wpAnyH_take (i := 5) (v := ?v5k) rfl (by kernel_rfl) (by kernel_rfl) (by kernel_rfl) (fun _ _ _ h => h) (Or.inl ⟨by rfl, ?hy5k⟩) (by assumption) ?rest5k
          case hy5k => (intro w hSw; (try dsimp only at hSw); go_simp <;> (try with_reducible rfl))
          simp only [Act.put]
          refine wpAnyH_take (i := 6) (v := ?v6k) rfl (by kernel_rfl) (by kernel_rfl) (by kernel_rfl) (fun _ _ _ h => h) (Or.inl ⟨by rfl, ?hy6k⟩) (by assumption) ?rest6k
          case hy6k => (intro w hSw; (try dsimp only at hSw); go_simp <;> (try with_reducible rfl))
          simp only [Act.put]
          refine wpAnyH_take (i := 7) (v := ?v7k) rfl (by kernel_rfl) (by kernel_rfl) (by kernel_rfl) (fun _ _ _ h => h) (Or.inl ⟨by rfl, ?hy7k⟩) (by assumption) ?rest7k
          case hy7k => (intro w hSw; (try dsimp only at hSw); go_simp <;> (try with_reducible rfl))
          simp only [Act.put]
          refine wpAnyH_take (i := 8) (v := ?v8k) rfl (by kernel_rfl) (by kernel_rfl) (by kernel_rfl) (fun _ _ _ h => h) (Or.inl ⟨by rfl, ?hy8k⟩) (by assumption) ?rest8k
          case hy8k => (intro w hSw; (try dsimp only at hSw); go_simp <;> (try with_reducible rfl))
          simp only [Act.put]
          refine wpAnyH_take (i := 9) (v := ?v9k) rfl (by kernel_rfl) (by kernel_rfl) (by kernel_rfl) (fun _ _ _ h => h) (Or.inl ⟨by rfl, ?hy9k⟩) (by assumption) ?rest9k
          case hy9k => (intro w hSw; (try dsimp only at hSw); go_simp <;> (try with_reducible rfl))
          simp only [Act.put]
          refine wpAnyH_ready (rs := [2]) (by kernel_rfl) (by simp) ?_
          refine AllReadyH.cons rfl (fun K hK => ?_) AllReadyH.nil
          go_simp
          have hba : Below Wd.heap.size Wd (Wd.alloc (.cells #[.slice sa sl sc] 68)) := (Below.refl _ _).alloc (Nat.le_refl _) _
          have HMa := Hid.mk' (HMd.out.later hba)
          have HSa : Hid (NatAt _ (.slice sa sl sc) (sumTo (fun j => z j * V s j) s) ∧ Off gb (.slice sa sl sc)) := ⟨HSd.out.1.later hba, HSd.out.2⟩
          have HDa : Hid (NatAt _ du D ∧ Off gb du) := ⟨HDd.out.1.later hba, HDd.out.2⟩
          have HCa : Hid ((Wd.alloc (.cells #[.slice sa sl sc] 68)).cell? ⟨Wd.heap.size, 0, none⟩ = some (.slice sa sl sc)) := by show _ = _; simp
          refine hK.out _ _ (HSS.out _ _ _ _ _ _ HMa.out) (fun hHeld => ?_)
          clear hK K hba HMd HSd HDd
          generalize Wd.alloc (.cells #[.slice sa sl sc] 68) = Wa at *
          generalize Wd.heap.size = bb at *
          refine wpAnyH_ready (rs := [3]) (by kernel_rfl) (by simp) ?_
          refine AllReadyH.cons rfl (fun K hK => ?_) AllReadyH.nil
          refine step_append_lies _ rfl _ _ _ rfl WF.heap.size 68 i0 _ 1 24 Tryd.underlying86 HINF.out.1 HINF.out.2.1 HINF.out.2.2.1 HINF.out.2.2.2 rfl (by omega) _ _ _ rfl HMa.out.own.own ⟨bb, 0, none⟩ 1 1 [.slice sa sl sc] rfl rfl (one_at HCa.out) (by simp [Value.oneCell']) (by omega) (by unfold maxLen; omega) (by omega) HMa.out.below.size _ rfl ?_
          intro g' cap' w6 hown6 hgrow6 hat6 hlt6
          have hat7 : gb = g' ∨ g' = Wa.heap.size := by
            rcases hat6 with h | h
            · exact Or.inl (Option.some.inj h)
            · exact Or.inr h
          obtain ⟨hM6, key⟩ := HMa.out.push HSa.out.1 HSa.out.2 hown6 hgrow6 hat7
          have HM6 := Hid.mk' hM6
          have HD6 := Hid.mk' (key _ _ HDa.out.1 HDa.out.2)
          refine hK.out _ _ (HSS.out _ _ _ _ _ _ hM6) (fun hHeld => ?_)
          clear hK K hown6 hgrow6 hat6 hlt6 hat7 hM6 key HMa HSa HDa HCa
          simp only [Act.put, List.getElem_toArray, List.getElem_cons_succ, List.getElem_cons_zero, List.setIfInBounds_toArray, List.set_cons_succ, List.set_cons_zero]
          refine wpAnyH_ready (rs := [10]) (by kernel_rfl) (by simp) ?_
          refine AllReadyH.cons rfl (fun K hK => ?_) AllReadyH.nil
          go_simp
          refine (HBY.out w6 yo HD6.out.1 (HNO.out w6 HM6.out.below).2).mono ?_
          rintro e w7 ⟨r, rfl, hr, hb7⟩
          have HM7 := Hid.mk' (HM6.out.later hb7)
          have HR7 : Hid (NatAt w7 r (D * V (n + 1) s) ∧ Off g' r) := ⟨hr.1, hr.off (ownsRow_cells HM6.out.own.own).2.1⟩
          clear hr hb7
          go_wp2_with fail
          refine hK.out _ _ (HSS.out _ _ _ _ _ _ HM7.out) (fun hHeld => ?_)
          clear hK K HM6 HD6
          refine wpAnyH_take (i := 11) (v := ?v11k) rfl (by kernel_rfl) (by kernel_rfl) (by kernel_rfl) (fun _ _ _ h => h) (Or.inl ⟨by rfl, ?hy11k⟩) (by assumption) ?rest11k
          case hy11k => (intro w hSw; (try dsimp only at hSw); go_simp <;> (try with_reducible rfl))
          simp only [Act.put]
          refine wpAnyH_done (by kernel_rfl) ?_ _
          refine ahead_last rfl (fun K hK => ?_)
          go_simp
          refine hK _ _ ?_
          clear hK K
          go_wp2_with fail
          have e1 : m + (c + 1) = s + 1 := by have := HS.out; omega
          refine ⟨⟨c + 1, g', cap', fun j => if j = s then .slice sa sl sc else fv j, by omega, by rw [e1]; go_num, by rw [e1], by rw [e1]; exact HM7.out.congr (fun j hj => by rw [HNX.out.2 j hj]), by rw [HNX.out.1]; exact HR7.out⟩, by simp [intOf]; omega⟩
    · have hmc : m + c = n := by omega
      have HC : Hid (c = n - m) := by show _ = _; omega
      have hown := HM.out.own
      have henv := HM.out.env
      have hbel := HM.out.below
      rw [hmc] at hown ⊢
      have HBL := Hid.mk' hbel
      have HDD := Hid.mk' HD.out.1
      clear hmc hbel HM HD b4
      have b0 := henv.box 0 (by decide)
      have b1 := henv.box 1 (by decide)
      have b2 := henv.box 2 (by decide)
      have b3 := henv.box 3 (by decide)
      have b4 := henv.box 4 (by decide)
      rw [HX2.out.1] at b0
      rw [HX2.out.2.1] at b1
      rw [HX2.out.2.2.1] at b2
      rw [HX2.out.2.2.2.1] at b3
      rw [HX2.out.2.2.2.2] at b4
      have hcl := ownsRow_cells hown.own
      have hin := inPlace_any wr n N cl cc gb cap (.slice (some ⟨g, 0, none⟩) n n) (.slice (some ⟨rb n, 0, none⟩) n n) (.slice (some ⟨rb (n + 1), 0, none⟩) n n) ⟨⟨_, _, _, rfl⟩, ⟨_, _, _, rfl⟩, ⟨_, _, _, rfl⟩⟩ l fv (nowV n V m z0 c) (HST.out wr HBL.out) (fun i hi => ⟨(hcl.2.2 i hi).1, hown.nats i hi⟩) hlen HLN.out hN hn
      have HIN := Hid.mk' hin
      clear hin hcl hown henv
      go_wp2_with fail
      refine HIN.out.mono ?_
      rintro e w7 ⟨r, rfl, hr, hb7⟩
      have HR7 := Hid.mk' hr
      have HB7 := Hid.mk' hb7
      clear hr hb7
      go_wp2_with fail
      go_ret2
      refine ⟨_, _, rfl, ?_, ?_, below_chain HBL.out HB7.out⟩
      · rw [← HC.out]; exact HR7.out
      · rw [← HC.out]; exact HDD.out.later HB7.out
end Go.Proofs.YtlnhpkmcinohdaaDoor

/- (fold.Chain).Ahead, walked. -/
namespace Go.Proofs.YtlnhpkmcinohdaaDoor
open Go.RowKit

/-- 0 at the first state, 1 at the second. -/
def zA : Nat → Nat := fun i => if i = 1 then 1 else 0
/-- What Ahead has laid: 0 and 1 as numbers, their list, the list of what is given. -/
structure AhG (W0 W : World) (n : Nat) (b : Nat) (y : Nat → Value) : Prop where
  below : Below W0.heap.size W0 W
  n0 : b.testBit 0 = true → NatNew W0.heap.size W (y 0) 0
  n1 : b.testBit 1 = true → NatNew W0.heap.size W (y 1) 1
  ls : b.testBit 2 = true → ∃ gb, y 2 = .slice (some ⟨gb, 0, none⟩) 2 2 ∧ NatsOwn W0.heap.size W gb 2 2 (fun i => if i = 1 then y 1 else y 0) zA ∧ ∀ gg, b.testBit 3 = true → y 3 = .slice (some ⟨gg, 0, none⟩) n n → gg ≠ gb
  gv : b.testBit 3 = true → ∃ gg, y 3 = .slice (some ⟨gg, 0, none⟩) n n ∧ gg < W.heap.size ∧ RowIs W gg n (fun _ => .slice none 0 0)
theorem NatNew.laterA {B : Nat} {w w' : World} {v : Value} {n : Nat} (h : NatNew B w v n) (hb : Below w.heap.size w w') : NatNew B w' v n := ⟨h.1.later hb, h.2⟩
theorem NatNew.lowA {B B' : Nat} {w : World} {v : Value} {n : Nat} (h : NatNew B w v n) (hb : B' ≤ B) : NatNew B' w v n := ⟨h.1, fun b o l c hv hl => Nat.le_trans hb (h.2 b o l c hv hl)⟩
theorem AhG.later {W0 W W' : World} {n b : Nat} {y : Nat → Value} (h : AhG W0 W n b y) (hb : Below W.heap.size W W') : AhG W0 W' n b y :=
  ⟨below_chain h.below hb, fun h1 => (h.n0 h1).laterA hb, fun h1 => (h.n1 h1).laterA hb, fun h1 => by
    obtain ⟨gb, e, ho, hn⟩ := h.ls h1
    exact ⟨gb, e, ⟨own_past ho.own hb, fun i hi => (ho.nats i hi).later hb, ho.off⟩, hn⟩, fun h1 => by
    obtain ⟨gg, e, hl, hr⟩ := h.gv h1
    exact ⟨gg, e, Nat.lt_of_lt_of_le hl hb.size, hr.later hb⟩⟩

theorem AhG.num {W0 W W' : World} {n b : Nat} {y : Nat → Value} (h : AhG W0 W n b y) (hb : Below W.heap.size W W') (j : Nat) (hj : j < 2) (h2 : b.testBit 2 = false) {v : Value} (hv : NatNew W0.heap.size W' v j) : AhG W0 W' n (b ||| 2 ^ j) (updV y j v) := by
  have h' := h.later hb
  have up : ∀ i, i ≠ j → updV y j v i = y i := fun i hi => by unfold updV; rw [if_neg hi]
  have un : updV y j v j = v := by unfold updV; rw [if_pos rfl]
  have tb : ∀ i, i ≠ j → (b ||| 2 ^ j).testBit i = b.testBit i := fun i hi => by rw [tb_or, decide_eq_false (fun e => hi e.symm), Bool.or_false]
  refine ⟨h'.below, fun h1 => ?_, fun h1 => ?_, fun h1 => ?_, fun h1 => ?_⟩
  · by_cases e : (0 : Nat) = j
    · subst e; rw [un]; exact hv
    · rw [up 0 e]; rw [tb 0 e] at h1; exact h'.n0 h1
  · by_cases e : (1 : Nat) = j
    · subst e; rw [un]; exact hv
    · rw [up 1 e]; rw [tb 1 e] at h1; exact h'.n1 h1
  · rw [tb 2 (by omega), h2] at h1; cases h1
  · rw [up 3 (by omega)]; rw [tb 3 (by omega)] at h1; exact h'.gv h1
theorem AhG.lst {W0 W : World} {n b : Nat} {y : Nat → Value} (h : AhG W0 W n b y) (h0 : b.testBit 0 = true) (h1 : b.testBit 1 = true) : AhG W0 (W.alloc (.cells #[y 0, y 1] 68)) n (b ||| 2 ^ 2) (updV y 2 (.slice (some ⟨W.heap.size, 0, none⟩) 2 2)) := by
  have hb : Below W.heap.size W (W.alloc (.cells #[y 0, y 1] 68)) := (Below.refl _ _).alloc (Nat.le_refl _) _
  have h' := h.later hb
  have up : ∀ (v : Value) i, i ≠ 2 → updV y 2 v i = y i := fun v i hi => by unfold updV; rw [if_neg hi]
  have tb : ∀ i, i ≠ 2 → (b ||| 2 ^ 2).testBit i = b.testBit i := fun i hi => by rw [tb_or, decide_eq_false (fun e => hi e.symm), Bool.or_false]
  have hz := h.below.size
  refine ⟨h'.below, fun h3 => ?_, fun h3 => ?_, fun h3 => ?_, fun h3 => ?_⟩
  · rw [up _ 0 (by decide)]; rw [tb 0 (by decide)] at h3; exact h'.n0 h3
  · rw [up _ 1 (by decide)]; rw [tb 1 (by decide)] at h3; exact h'.n1 h3
  · refine ⟨W.heap.size, by unfold updV; rw [if_pos rfl], ?_, fun gg h4 h5 => ?_⟩
    · rw [up _ 0 (by decide), up _ 1 (by decide)]
      refine ⟨⟨rfl, Or.inr ⟨W.heap.size, 2, #[y 0, y 1], rfl, hz, ?_, by decide, by decide, rfl, rfl⟩⟩, fun i hi => ?_, fun i hi => ?_⟩
      · unfold World.alloc; simp
      · rcases (show i = 0 ∨ i = 1 by omega) with rfl | rfl
        · exact (h'.n0 (by rw [h0])).1
        · exact (h'.n1 (by rw [h1])).1
      · rcases (show i = 0 ∨ i = 1 by omega) with rfl | rfl
        · exact (h.n0 h0).1.off (Nat.le_refl _)
        · exact (h.n1 h1).1.off (Nat.le_refl _)
    · rw [up _ 3 (by decide)] at h5; rw [tb 3 (by decide)] at h4
      obtain ⟨g2, e2, hl2, _⟩ := h.gv h4
      rw [h5] at e2
      obtain rfl : gg = g2 := by simpa using e2
      omega
  · rw [up _ 3 (by decide)]; rw [tb 3 (by decide)] at h3; exact h'.gv h3
theorem AhG.giv {W0 W W' : World} {n b : Nat} {y : Nat → Value} (h : AhG W0 W n b y) (hb : Below W.heap.size W W') (hl : W.heap.size < W'.heap.size) (hr : RowIs W' W.heap.size n (fun _ => .slice none 0 0)) : AhG W0 W' n (b ||| 2 ^ 3) (updV y 3 (.slice (some ⟨W.heap.size, 0, none⟩) n n)) := by
  have h' := h.later hb
  have up : ∀ (v : Value) i, i ≠ 3 → updV y 3 v i = y i := fun v i hi => by unfold updV; rw [if_neg hi]
  have tb : ∀ i, i ≠ 3 → (b ||| 2 ^ 3).testBit i = b.testBit i := fun i hi => by rw [tb_or, decide_eq_false (fun e => hi e.symm), Bool.or_false]
  refine ⟨h'.below, fun h3 => ?_, fun h3 => ?_, fun h3 => ?_, fun h3 => ?_⟩
  · rw [up _ 0 (by decide)]; rw [tb 0 (by decide)] at h3; exact h'.n0 h3
  · rw [up _ 1 (by decide)]; rw [tb 1 (by decide)] at h3; exact h'.n1 h3
  · rw [tb 2 (by decide)] at h3
    obtain ⟨gb, e, ho, _⟩ := h'.ls h3
    refine ⟨gb, by rw [up _ 2 (by decide)]; exact e, by rw [up _ 0 (by decide), up _ 1 (by decide)]; exact ho, fun gg _ h5 => ?_⟩
    have h6 : updV y 3 (.slice (some ⟨W.heap.size, 0, none⟩) n n) 3 = .slice (some ⟨W.heap.size, 0, none⟩) n n := by unfold updV; rw [if_pos rfl]
    rw [h6] at h5
    obtain rfl : W.heap.size = gg := by simpa using h5
    obtain ⟨gb2, e2, ho2, _⟩ := h.ls h3
    rw [e] at e2
    obtain rfl : gb = gb2 := by simpa using e2
    have := (ownsRow_cells ho2.own).2.1
    omega
  · exact ⟨W.heap.size, by unfold updV; rw [if_pos rfl], hl, hr⟩

set_option maxRecDepth 100000 in
set_option maxHeartbeats 8000000 in
theorem Ahead_any (w wq : World) (n g N cl cc : Nat) (rb cp : Nat → Nat) (f : Nat → Nat → Value) (V : Nat → Nat → Nat) (l : List Nat)
    (h : FoldAt w wq n g rb cp f V) (hst : RowAt wq cl 0 n (fun i => ((l.getD i 0 : Nat) : Int))) (hn2 : 2 ≤ n) (hn : n ≤ 8) (hlen : l.length = n) (hlN : ∀ x, x ∈ l → x < N) (hN : N ≤ 8) (hV : ∀ i k, i < n + 2 → k < n → V i k < 18446744073709551616 ^ 40) :
    Calls Tryd.prog 56 #[.agg #[.slice (some ⟨cl, 0, none⟩) n cc, .int .i64 N, .slice (some ⟨g, 0, none⟩) n n, .slice (some ⟨rb n, 0, none⟩) n n, .slice (some ⟨rb (n + 1), 0, none⟩) n n]] wq fun e w' => ∃ r d, e = .returned (.tuple #[r, d]) ∧ NatsIn w' r N (inV l (nowV n V 2 zA (n - 2)) n) ∧ NatAt w' d (denV n V 2 (n - 2)) ∧ Below wq.heap.size wq w' := by
  obtain ⟨i0, hi, hz0', hz1, hz2⟩ := info_parts Tryd.infoNat
  have HINF : Hid (Tryd.prog.info? 68 = some i0 ∧ i0.zero = some (.slice none 0 0) ∧ i0.size = 1 ∧ i0.bytes = 24) := ⟨hi, hz0', hz1, hz2⟩
  clear hi hz0' hz1 hz2
  obtain ⟨bx, hbx⟩ : ∃ bx, bx = wq.heap.size := ⟨_, rfl⟩
  obtain ⟨W1, hW1⟩ : ∃ W1, W1 = wq.alloc (.cells #[.slice (some ⟨cl, 0, none⟩) n cc, .int .i64 N, .slice (some ⟨g, 0, none⟩) n n, .slice (some ⟨rb n, 0, none⟩) n n, .slice (some ⟨rb (n + 1), 0, none⟩) n n] 110) := ⟨_, rfl⟩
  have hb1 : Below wq.heap.size wq W1 := by rw [hW1]; exact (Below.refl _ _).alloc (Nat.le_refl _) _
  have HSB : Hid (∀ W, Below W1.heap.size W1 W → W.cell? ⟨bx, 0, none⟩ = some (.slice (some ⟨cl, 0, none⟩) n cc) ∧ W.cell? ⟨bx, 1, none⟩ = some (.int .i64 N) ∧ W.cell? ⟨bx, 2, none⟩ = some (.slice (some ⟨g, 0, none⟩) n n) ∧ W.cell? ⟨bx, 3, none⟩ = some (.slice (some ⟨rb n, 0, none⟩) n n) ∧ W.cell? ⟨bx, 4, none⟩ = some (.slice (some ⟨rb (n + 1), 0, none⟩) n n)) := fun W hb => by
    have x0 : W1.cell? ⟨bx, 0, none⟩ = some (.slice (some ⟨cl, 0, none⟩) n cc) := by rw [hW1]; exact top_cell _ _ _ _ hbx
    have x1 : W1.cell? ⟨bx, 1, none⟩ = some (.int .i64 N) := by rw [hW1]; exact top_cell _ _ _ _ hbx
    have x2 : W1.cell? ⟨bx, 2, none⟩ = some (.slice (some ⟨g, 0, none⟩) n n) := by rw [hW1]; exact top_cell _ _ _ _ hbx
    have x3 : W1.cell? ⟨bx, 3, none⟩ = some (.slice (some ⟨rb n, 0, none⟩) n n) := by rw [hW1]; exact top_cell _ _ _ _ hbx
    have x4 : W1.cell? ⟨bx, 4, none⟩ = some (.slice (some ⟨rb (n + 1), 0, none⟩) n n) := by rw [hW1]; exact top_cell _ _ _ _ hbx
    exact ⟨by rw [hb.cell (cell_lt x0)]; exact x0, by rw [hb.cell (cell_lt x1)]; exact x1, by rw [hb.cell (cell_lt x2)]; exact x2, by rw [hb.cell (cell_lt x3)]; exact x3, by rw [hb.cell (cell_lt x4)]; exact x4⟩
  have HGO : Hid (∀ W gb gg fv, Below W1.heap.size W1 W → NatsOwn W1.heap.size W gb 2 2 fv zA → RowIs W gg n (fun _ => .slice none 0 0) → gg ≠ gb → Calls Tryd.prog 71 #[.agg #[.slice (some ⟨cl, 0, none⟩) n cc, .int .i64 N, .slice (some ⟨g, 0, none⟩) n n, .slice (some ⟨rb n, 0, none⟩) n n, .slice (some ⟨rb (n + 1), 0, none⟩) n n], .slice (some ⟨gb, 0, none⟩) 2 2, .slice (some ⟨gg, 0, none⟩) n n] W fun e w' => ∃ r d, e = .returned (.tuple #[r, d]) ∧ NatsIn w' r N (inV l (nowV n V 2 zA (n - 2)) n) ∧ NatAt w' d (denV n V 2 (n - 2)) ∧ Below W1.heap.size W1 w') := fun W gb gg fv hb ho hr hne =>
    goOn_any w W1 W n g N gg n cl cc 2 gb 2 rb cp f V l fv zA (h.later hb1) (hst.later hb1) hb ho hr hne (by decide) hn2 hn hlen hlN hN hV (fun i => by unfold zA; split <;> decide)
  have HEND := Hid.mk' hb1
  clear h hst hb1 hV hlN
  go_enter Tryd.func56, Tryd.ntmps56
  go_upto_region 1 with fail
  rw [← hW1, ← hbx]
  clear hW1 hbx
  go_cut [2, 3] from 4 (fun r d wx => NatsIn wx r N (inV l (nowV n V 2 zA (n - 2)) n) ∧ NatAt wx d (denV n V 2 (n - 2)) ∧ Below W1.heap.size W1 wx)
  case first =>
    have hbd : Below W1.heap.size W1 W1.drew := (Below.refl _ _).drew
    have HBD := Hid.mk' hbd
    clear hbd
    refine region_but_last (n := 12) (S := fun W => W.cell? ⟨bx, 0, none⟩ = some (.slice (some ⟨cl, 0, none⟩) n cc) ∧ W.cell? ⟨bx, 1, none⟩ = some (.int .i64 N) ∧ W.cell? ⟨bx, 2, none⟩ = some (.slice (some ⟨g, 0, none⟩) n n) ∧ W.cell? ⟨bx, 3, none⟩ = some (.slice (some ⟨rb n, 0, none⟩) n n) ∧ W.cell? ⟨bx, 4, none⟩ = some (.slice (some ⟨rb (n + 1), 0, none⟩) n n)) (by kernel_rfl) (by kernel_rfl) (by kernel_rfl) (HSB.out _ HBD.out) (fun hHeld => ?_)
    generalize W1.drew = Wd at *
    refine wpAnyH_take (i := 0) (v := ?v0a) rfl (by kernel_rfl) (by kernel_rfl) (by kernel_rfl) (fun _ _ _ h => h) (Or.inl ⟨by rfl, ?hy0a⟩) (by assumption) ?rest0a
    case hy0a => (intro w hSw; (try dsimp only at hSw); go_simp <;> (try with_reducible rfl))
    refine wpAnyH_take (i := 4) (v := ?v4a) rfl (by kernel_rfl) (by kernel_rfl) (by kernel_rfl) (fun _ _ _ h => h) (Or.inl ⟨by rfl, ?hy4a⟩) (by assumption) ?rest4a
    case hy4a => (intro w hSw; (try dsimp only at hSw); go_simp <;> (try with_reducible rfl))
    refine wpAnyH_take (i := 5) (v := ?v5a) rfl (by kernel_rfl) (by kernel_rfl) (by kernel_rfl) (fun _ _ _ h => h) (Or.inl ⟨by rfl, ?hy5a⟩) (by assumption) ?rest5a
    case hy5a => (intro w hSw; (try dsimp only at hSw); go_simp <;> (try with_reducible rfl))
    refine wpAnyH_take (i := 6) (v := ?v6a) rfl (by kernel_rfl) (by kernel_rfl) (by kernel_rfl) (fun _ _ _ h => h) (Or.inl ⟨by rfl, ?hy6a⟩) (by assumption) ?rest6a
    case hy6a => (intro w hSw; (try dsimp only at hSw); go_simp <;> (try with_reducible rfl))
    simp only [Act.put, List.getElem_toArray, List.getElem_cons_succ, List.getElem_cons_zero, List.setIfInBounds_toArray, List.set_cons_succ, List.set_cons_zero]
    refine wpAnyH_bits2 (k := 4) (fe := 4) [5, 6, 7, 11] [1, 2, 3, 7] (fun b => #[true, b.testBit 0, b.testBit 1, b.testBit 2, true, true, true, b.testBit 3, false, false, false, false, true]) (fun b => (!b.testBit 1 || b.testBit 0) && (!b.testBit 2 || b.testBit 1)) (fun j b => if j = 1 then b.testBit 0 else if j = 2 then b.testBit 0 && b.testBit 1 else true)
      (fun b y W => AhG W1 W n b y) (fun _ => undef) (by kernel_rfl) (by kernel_rfl) (by kernel_rfl) (by decide) (by decide) ⟨HBD.out, fun h => by simp at h, fun h => by simp at h, fun h => by simp at h, fun h => by simp at h⟩ ?_ ?_
    · rintro y W hA
      have hA : AhG W1 W n 15 y := hA
      obtain ⟨gb, hy2, ho, hne⟩ := hA.ls (by decide)
      obtain ⟨gg, hy3, hgl, hr⟩ := hA.gv (by decide)
      have HC := Hid.mk' (HGO.out W gb gg _ hA.below ho hr (hne gg (by decide) hy3))
      have HS := HSB.out W hA.below
      clear hA ho hr hne hgl HBD
      simp only [putAll, Act.put, List.setIfInBounds_toArray, List.set_cons_succ, List.set_cons_zero, Nat.zero_add, Nat.reduceAdd]
      rw [hy2, hy3]
      clear hy2 hy3
      refine wpAnyH_ready (rs := [8]) (by kernel_rfl) (by simp) ?_
      refine AllReadyH.cons rfl (fun K hK => ?_) AllReadyH.nil
      go_simp
      refine HC.out.mono ?_
      clear HC HS
      rintro e w5 ⟨r, d, rfl, hr, hd, hb5⟩
      have HR := Hid.mk' (And.intro hr (And.intro hd hb5))
      clear hr hd hb5
      go_wp2_with fail
      refine hK.out _ _ (HSB.out _ HR.out.2.2) (fun hHeld => ?_)
      clear hK K
      refine wpAnyH_take (i := 9) (v := ?v9b) rfl (by kernel_rfl) (by kernel_rfl) (by kernel_rfl) (fun _ _ _ h => h) (Or.inl ⟨by rfl, ?hy9b⟩) (by assumption) ?rest9b
      case hy9b => (intro w hSw; (try dsimp only at hSw); go_simp <;> (try with_reducible rfl))
      refine wpAnyH_take (i := 10) (v := ?v10b) rfl (by kernel_rfl) (by kernel_rfl) (by kernel_rfl) (fun _ _ _ h => h) (Or.inl ⟨by rfl, ?hy10b⟩) (by assumption) ?rest10b
      case hy10b => (intro w hSw; (try dsimp only at hSw); go_simp <;> (try with_reducible rfl))
      refine wpAnyH_take (i := 11) (v := ?v11b) rfl (by kernel_rfl) (by kernel_rfl) (by kernel_rfl) (fun _ _ _ h => h) (Or.inl ⟨by rfl, ?hy11b⟩) (by assumption) ?rest11b
      case hy11b => (intro w hSw; (try dsimp only at hSw); go_simp <;> (try with_reducible rfl))
      refine wpAnyH_done (by kernel_rfl) ?_ _
      refine ahead_last rfl (fun K hK => ?_)
      go_simp
      refine hK _ _ ?_
      clear hK K
      go_wp2_with fail
      go_meet
      exact HR.out
    · rintro j hj b y W hb hok hbj hpre hA K hK
      have HA := Hid.mk' hA
      rcases (show j = 0 ∨ j = 1 ∨ j = 2 ∨ j = 3 by omega) with rfl | rfl | rfl | rfl
      · have h1 : b.testBit 1 = false := by rw [hbj] at hok; simp at hok; exact hok.1
        have h2 : b.testBit 2 = false := by rw [h1] at hok; simpa using hok
        have HB2 := Hid.mk' h2
        clear hA hpre hok hb hbj hj h1 h2
        simp only [List.getD_cons_zero, putAll, Act.put, List.setIfInBounds_toArray, List.set_cons_succ, List.set_cons_zero] at hK ⊢
        generalize hAA : Act.mk _ _ = AA
        refine step_of rfl ?_
        subst hAA
        go_simp
        refine (NatOf_new 0 W (by decide)).mono ?_
        rintro e w5 ⟨v, rfl, hv, hb5⟩
        have hA5 := HA.out.num hb5 0 (by decide) HB2.out (hv.lowA HA.out.below.size)
        exact hK.out (updV y 0 v) w5 (HSB.out _ hA5.below) hA5
      · have h2 : b.testBit 2 = false := by rw [hbj] at hok; simpa using hok
        have HB2 := Hid.mk' h2
        clear hA hpre hok hb hbj hj h2
        simp only [List.getD_cons_succ, List.getD_cons_zero, putAll, Act.put, List.setIfInBounds_toArray, List.set_cons_succ, List.set_cons_zero] at hK ⊢
        generalize hAA : Act.mk _ _ = AA
        refine step_of rfl ?_
        subst hAA
        go_simp
        refine (NatOf_new 1 W (by decide)).mono ?_
        rintro e w5 ⟨v, rfl, hv, hb5⟩
        have hA5 := HA.out.num hb5 1 (by decide) HB2.out (hv.lowA HA.out.below.size)
        exact hK.out (updV y 1 v) w5 (HSB.out _ hA5.below) hA5
      · have hp : b.testBit 0 = true ∧ b.testBit 1 = true := by simpa using hpre
        obtain ⟨a0, l0, c0, e0⟩ := (HA.out.n0 hp.1).1.isSlice
        obtain ⟨a1, l1, c1, e1⟩ := (HA.out.n1 hp.2).1.isSlice
        have hA5 := HA.out.lst hp.1 hp.2
        rw [e0, e1] at hA5
        have hfin := hK.out (updV y 2 (.slice (some ⟨W.heap.size, 0, none⟩) 2 2)) _ (HSB.out _ hA5.below) hA5
        have up : ∀ (v : Value) i, i ≠ 2 → updV y 2 v i = y i := fun v i hi => by unfold updV; rw [if_neg hi]
        have un : ∀ v : Value, updV y 2 v 2 = v := fun v => by unfold updV; rw [if_pos rfl]
        clear hA hpre hok hb hbj hj hp hK
        simp only [List.getD_cons_succ, List.getD_cons_zero, putAll, Act.put, List.setIfInBounds_toArray, List.set_cons_succ, List.set_cons_zero, Nat.zero_add, Nat.reduceAdd] at hfin ⊢
        rw [up _ 0 (by decide), up _ 1 (by decide), up _ 3 (by decide), un, e0, e1] at hfin
        rw [e0, e1]
        have HFI := Hid.mk' hfin
        clear hfin up un hA5 e0 e1
        generalize hAA : Act.mk _ _ = AA
        refine step_of rfl ?_
        subst hAA
        go_simp
        exact HFI.out
      · clear hA hpre hok hb hbj hj
        simp only [List.getD_cons_succ, List.getD_cons_zero, putAll, Act.put, List.setIfInBounds_toArray, List.set_cons_succ, List.set_cons_zero] at hK ⊢
        generalize hAA : Act.mk _ _ = AA
        refine step_of rfl ?_
        subst hAA
        refine step_make _ rfl _ _ _ rfl 68 i0 _ Tryd.underlying86 HINF.out.1 HINF.out.2.1 HINF.out.2.2.1 n rfl rfl (by rw [HINF.out.2.2.2]; omega) (by unfold maxLen; omega) ?_
        intro w5 hown hgrow
        have hA5 := HA.out.giv (made_below hgrow) (heap_of_row hown) (rowIs_made hown (made_one (.slice none 0 0) rfl n))
        simp only [Act.put, List.getElem_toArray, List.getElem_cons_succ, List.getElem_cons_zero, List.setIfInBounds_toArray, List.set_cons_succ, List.set_cons_zero]
        exact hK.out (updV y 3 (.slice (some ⟨W.heap.size, 0, none⟩) n n)) w5 (HSB.out _ hA5.below) hA5
  case rest =>
    obtain ⟨hr, hd, hb⟩ := hcut
    have HR := Hid.mk' (And.intro hr (And.intro hd hb))
    clear hr hd hb
    go_wp2_with fail
    go_ret2
    exact ⟨_, _, rfl, HR.out.1, HR.out.2.1, below_chain HEND.out HR.out.2.2⟩
end Go.Proofs.YtlnhpkmcinohdaaDoor
