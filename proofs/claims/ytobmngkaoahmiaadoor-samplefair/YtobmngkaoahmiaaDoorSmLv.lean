/- sample.leavesOf: the tree of weights. -/
import Derived.Test.YtobmngkaoahmiaaDoorSmTree
import Derived.Test.YtobmngkaoahmiaaDoorWords
import Derived.Test.YtobmngkaoahmiaaDoorLaysC
import Derived.Test.YtobmngkaoahmiaaDoorBhRt
import Derived.Test.YtobmngkaoahmiaaDoorGrainMath
import Derived.Test.YtobmngkaoahmiaaDoorIsBits
import Derived.Deep.CutRange
import Derived.Deep.RegionHeld3
import Derived.Deep.LoopGhost
namespace Go.Proofs.YtobmngkaoahmiaaDoor
open Go.RowKit

/-- How deep the tree of weights with the sum S is. -/
def dpT (S : Nat) : Nat := bitLen (S - 1)
theorem dpT_le {S : Nat} (h : S ≤ 4096) (h0 : 0 < S) : dpT S ≤ 12 := bitLen_le_of_lt (by
  have : (2 : Nat) ^ 12 = 4096 := by decide
  omega)
theorem dpT_ge (S : Nat) : S ≤ 2 ^ dpT S := by
  have := (bitLen_spec (S - 1)).1
  unfold dpT
  omega
theorem dpT_lt {S k : Nat} (hk : k < dpT S) : 2 ^ k < S := by
  have h0 : S - 1 ≠ 0 := fun e => by unfold dpT at hk; rw [e, bitLen_zero] at hk; omega
  have h1 := (bitLen_spec (S - 1)).2 h0
  have h2 : 2 ^ k ≤ 2 ^ (bitLen (S - 1) - 1) := Nat.pow_le_pow_right (by decide) (by unfold dpT at hk; omega)
  omega
theorem dpT_pow {S : Nat} (h : S ≤ 4096) (h0 : 0 < S) : 2 ^ dpT S ≤ 4096 := by
  have := Nat.pow_le_pow_right (n := 2) (by decide) (dpT_le h h0)
  exact Nat.le_trans this (by decide)
/-- The weights, and behind them that of `again`. -/
def xT (z : Nat → Int) (n S : Nat) (i : Nat) : Nat := if i < n then (z i).toNat else 2 ^ dpT S - S
theorem xT_sum {z : Nat → Int} {n S : Nat} (h : ∀ i, i < n → 0 ≤ z i) (hS : sumN z n = S) : sumX (xT z n S) (n + 1) = 2 ^ dpT S := by
  have h1 : ∀ k, k ≤ n → (sumX (xT z n S) k : Int) = sumN z k := fun k => by
    induction k with
    | zero => intro _; rfl
    | succ k ih =>
      intro hk
      have := ih (by omega)
      have h2 := h k (by omega)
      rw [sumX, sumN]
      have h3 : xT z n S k = (z k).toNat := if_pos (by omega)
      omega
  have h2 := h1 n (Nat.le_refl _)
  have h3 : xT z n S n = 2 ^ dpT S - S := if_neg (by omega)
  have h4 := dpT_ge S
  rw [sumX, h3]
  omega
theorem clone_at (b o n c : Nat) (z : Nat → Int) (w : World) (h : RowAt w b o n z) (hn : n ≤ 1000) :
    Calls Tryd.prog 73 #[.slice (some ⟨b, o, none⟩) n c] w fun e w' => ∃ v, e = .returned v ∧ w'.ownsRow w.heap.size 3 1 v n (cellL (rowL z n)) ∧ Below w.heap.size w w' := by
  refine (Any.slices_Clone_int (ρ := Tryd.cloneA_ren) Tryd.cloneA b o n c (rowL z n) w (by rw [rowL_length]; exact Nat.le_refl _) (by omega) (fun j hj => ?_)).mono ?_
  · rw [rowL_length] at hj
    rw [h j hj]
    simp [rowL, hj]
  · rintro e w' ⟨v', rfl, h1, _, h2⟩
    refine ⟨v', rfl, ?_, h2⟩
    rw [List.take_of_length_le (by rw [rowL_length]; exact Nat.le_refl _)] at h1
    exact h1
theorem cells_same {z y : Nat → Int} : ∀ {n : Nat}, (∀ i, i < n → z i = y i) → numCells z n = numCells y n
  | 0, _ => rfl
  | n + 1, h => by rw [numCells, numCells, cells_same (fun i hi => h i (by omega)), h n (by omega)]
/-- A digit of a number, as the program takes it. -/
theorem digit_facts (x D d : Nat) (hx : x ≤ 4096) : ∃ y u : Nat, (x : Int) / 2 ^ (D - d) = (y : Int) ∧ y ≤ x ∧ bits .and .i64 (y : Int) 1 = (u : Int) ∧ u = x / 2 ^ (D - d) % 2 := by
  refine ⟨x >>> (D - d), (x >>> (D - d)) &&& 1, shr_nat _ _, shr_le _ _, i64_andN _ 1 (by have := shr_le x (D - d); omega) (by omega), ?_⟩
  rw [Nat.and_one_is_mod, Nat.shiftRight_eq_div_pow]
set_option maxRecDepth 100000 in
set_option maxHeartbeats 4000000 in
theorem leavesOf_any (b o cap n S : Nat) (z : Nat → Int) (w : World) (h : RowAt w b o n z) (hok : OkW z n) (hS : sumN z n = S) (hn : n ≤ 16) :
    Calls Tryd.prog 38 #[.slice (some ⟨b, o, none⟩) n cap] w fun e w' => ∃ v vs, e = .returned v ∧ TabAt w' v (dpT S + 1) vs (fun d => (lvs (xT z n S) (dpT S - d) (n + 1)).length) (fun d i => (((lvs (xT z n S) (dpT S - d) (n + 1)).getD i 0 : Nat) : Int)) ∧ Below w.heap.size w w' := by
  obtain ⟨i0, hi, hz0, hz1, hz2⟩ := info_parts Tryd.infoInt
  have HINF : Hid (Tryd.prog.info? 3 = some i0 ∧ i0.zero = some (.int .i64 0) ∧ i0.size = 1 ∧ i0.bytes = 8) := ⟨hi, hz0, hz1, hz2⟩
  clear hi hz0 hz1 hz2
  obtain ⟨i1, hi, hz0, hz1, hz2⟩ := info_parts Tryd.infoInts
  have HINI : Hid (Tryd.prog.info? 22 = some i1 ∧ i1.zero = some (.slice none 0 0) ∧ i1.size = 1 ∧ i1.bytes = 24) := ⟨hi, hz0, hz1, hz2⟩
  clear hi hz0 hz1 hz2
  have hT := total_some b o cap n z w h (fun k hk => by have := hok.part hk; omega) (fun k hk => by have := hok.lt hk; omega) (by omega)
  rw [hS] at hT
  have hp := hok.pos
  have hl := hok.le
  have hS0 : 1 ≤ S := by omega
  have hS4 : S ≤ 4096 := by omega
  have HSP : Hid (1 ≤ S ∧ S ≤ 4096) := ⟨hS0, hS4⟩
  have HCL := Hid.mk' (fun (W : World) (hb : Below w.heap.size w W) => clone_at b o n cap z W (h.later hb) (by omega))
  have HLN := Hid.mk' (Len_any (S - 1) w (by omega))
  have HD := Hid.mk' (dpT_le hS4 hS0)
  have HG := Hid.mk' (dpT_ge S)
  have HP := Hid.mk' (dpT_pow hS4 hS0)
  have hD : dpT S = bitLen (S - 1) := rfl
  rw [← hD] at HLN
  clear h hp hl hD
  obtain ⟨s, rfl⟩ : ∃ s, S = s + 1 := ⟨S - 1, by omega⟩
  have HX : Hid (∀ i, i < n → z i = ((xT z n (s + 1) i : Nat) : Int)) := fun i hi => by
    have := hok.nn i hi
    show z i = ((if i < n then (z i).toNat else 2 ^ dpT (s + 1) - (s + 1) : Nat) : Int)
    rw [if_pos hi]; omega
  have HXN : Hid (xT z n (s + 1) n = 2 ^ dpT (s + 1) - (s + 1)) := if_neg (by omega)
  have HXL : Hid (∀ i, i < n + 1 → xT z n (s + 1) i ≤ 4096) := fun i hi => by
    have h1 := sumX_ge (x := xT z n (s + 1)) hi
    rw [xT_sum hok.nn hS] at h1
    have := HP.out
    omega
  have HRL := Hid.mk' (rowL_length z n)
  have HRA : Hid (∀ i, i < n → atF (rowL z n) i = z i) := fun i hi => by simp [atF, rowL, hi]
  generalize xT z n (s + 1) = x at *
  generalize hDD : dpT (s + 1) = D at *
  have hD12 := HD.out
  clear hDD hok hS HSP
  obtain ⟨P, hP⟩ : ∃ P, P = 2 ^ D := ⟨_, rfl⟩
  rw [← hP] at HG HP HXN
  have hPs := HG.out
  have hP4 := HP.out
  have e1 : IntKind.i64.wrap ((2 : Int) ^ D) = (P : Int) := by rw [show ((2 : Int) ^ D) = (P : Int) by rw [hP]; simp, IntKind.wrap_i64]; omega
  have e2 : IntKind.i64.wrap ((P : Int) - ((s : Int) + 1)) = (P : Int) - ((s : Int) + 1) := by rw [IntKind.wrap_i64]; omega
  clear hP HG HP HD
  go_enter Tryd.func38, Tryd.ntmps38
  go_wp2_with fail
  refine hT.mono ?_
  rintro e w2 ⟨rfl, hw2⟩
  rw [hw2]
  clear hw2 hT
  go_wp2_with fail
  refine HLN.out.mono ?_
  rintro e w2 ⟨rfl, hw2⟩
  rw [hw2]
  clear hw2 HLN
  go_upto_region 3 with fail
  go_cut [5] from 16 to 23 (fun t wx => ∃ (va : Option Addr) (vc : Nat), t = .slice va (n + 1) vc ∧ Hid (NumsAt wx (.slice va (n + 1) vc) (n + 1) (fun i => ((x i : Nat) : Int))) ∧ Hid (Below w.heap.size w wx))
  case first =>
    have hcur : Below w.heap.size w w.drew := (Below.refl _ _).drew
    have hcurA : Below w.heap.size w (w.drew.alloc (.cells #[.int .i64 ((P : Int) - ((s : Int) + 1))] 3)) := hcur.alloc hcur.size _
    have HNA : Hid (∀ W, Below (w.drew.alloc (.cells #[.int .i64 ((P : Int) - ((s : Int) + 1))] 3)).heap.size (w.drew.alloc (.cells #[.int .i64 ((P : Int) - ((s : Int) + 1))] 3)) W → ∀ j u, [Value.int .i64 ((P : Int) - ((s : Int) + 1))][j]? = some u → W.cell? ((⟨w.heap.size, 0, none⟩ : Addr).add j) = some u) := fun W hb j u hu => by
      have h9 := one_new w.drew (Value.int .i64 ((P : Int) - ((s : Int) + 1))) 3 j u hu
      rw [← h9]
      exact hb.cell (cell_lt h9)
    go_region_held3 (fun _ => True)
      (exact trivial)
      (first
        | (go_at_call 73; first | (refine (HCL.out _ hcur).mono ?_; rintro e w4 ⟨v4, rfl, h4, hb4⟩; have HNB : Hid (∀ W, Below w4.heap.size w4 W → True) := (fun _ _ => trivial); have hbw4 := below_chain hcur hb4; have HO4 := Hid.mk' (h4.mono (show w.heap.size ≤ _ from hcur.size)); obtain ⟨a4, c4, rfl, hnc4⟩ := row_shape h4; clear h4 hb4) | (refine (HCL.out _ hcurA).mono ?_; rintro e w4 ⟨v4, rfl, h4, hb4⟩; have HNB := Hid.mk' (HNA.out w4 hb4); have hbw4 := below_chain hcurA hb4; have HO4 := Hid.mk' (h4.mono (show w.heap.size ≤ _ from hcurA.size)); obtain ⟨a4, c4, rfl, hnc4⟩ := row_shape h4; clear h4 hb4))
        | (refine step_append_lies _ (by rfl) _ _ _ (by rfl) w.heap.size 3 i0 _ 1 8 Tryd.underlying22 HINF.out.1 HINF.out.2.1 HINF.out.2.2.1 HINF.out.2.2.2 rfl (by decide) (.slice a4 n c4) n _ (by rfl) HO4.out ⟨w.heap.size, 0, none⟩ 1 1 [.int .i64 ((P : Int) - ((s : Int) + 1))] (by rfl) rfl HNB.out (by simp [Value.oneCell']) (by omega) (by unfold maxLen; omega) (by omega) hbw4.size _ rfl ?_; intro g' cap' w6 hown6 hgrow6 hat6 hlt6; have HB6 := Hid.mk' (hbw4.grown hgrow6 hbw4.size (fun q e => (HO4.out.lt q e).1)); clear hat6 hgrow6)
        | (refine step_append_lies _ (by rfl) _ _ _ (by rfl) w.heap.size 3 i0 _ 1 8 Tryd.underlying22 HINF.out.1 HINF.out.2.1 HINF.out.2.2.1 HINF.out.2.2.2 rfl (by decide) (.slice a4 n c4) n _ (by rfl) (HO4.out.alloc _) ⟨w4.heap.size, 0, none⟩ 1 1 [.int .i64 ((P : Int) - ((s : Int) + 1))] (by rfl) rfl (one_new _ _ _) (by simp [Value.oneCell']) (by omega) (by unfold maxLen; omega) (by omega) (hbw4.alloc hbw4.size _).size _ rfl ?_; intro g' cap' w6 hown6 hgrow6 hat6 hlt6; have HB6 := Hid.mk' ((hbw4.alloc hbw4.size _).grown hgrow6 (hbw4.alloc hbw4.size _).size (fun q e => (HO4.out.lt q e).1)); clear hat6 hgrow6))
    all_goals
      go_wp2_with fail
      go_meet
      refine ⟨_, _, rfl, Hid.mk' ?_, HB6.out⟩
      refine numsAt_own (base := w.heap.size) ?_
      rw [numCells, ← cells_same HX.out, ← cellL_row]
      have hxn := HXN.out
      rw [show ((x n : Nat) : Int) = (P : Int) - ((s : Int) + 1) by omega]
      exact hown6
  case rest =>
  obtain ⟨va, vc, rfl, HV, HB⟩ := hcut
  obtain ⟨wq, hwq⟩ : ∃ wq, wq = wc := ⟨_, rfl⟩
  rw [← hwq] at HV HB ⊢
  clear hwq HCL HRL HRA HX HXN hPs hP4 e1 e2
  go_wp2_with (at_make; go_must (refine wpList_make_full _ rfl _ _ _ rfl wq.heap.size 22 i1 _ 1 Tryd.underlying48 HINI.out.1 HINI.out.2.1 HINI.out.2.2.1 .i64 .i64 _ _ (D + 1) rfl rfl rfl rfl (by rw [HINI.out.2.2.2]; omega) (by unfold maxLen; omega) (Nat.le_refl _) ?_; intro w1 hown2 hgrow2; have HT0 := Hid.mk' (tree_start (rowIs_made hown2 (made_one (.slice none 0 0) rfl (D + 1))) (made_below hgrow2) (Nat.le_refl _) (hown2.lt _ rfl).2); clear hown2 hgrow2))
  obtain ⟨bw, ow, cw, hvv, hrow⟩ : ∃ bw ow cw, Value.slice va (n + 1) vc = .slice (some ⟨bw, ow, none⟩) (n + 1) cw ∧ RowAt wq bw ow (n + 1) (fun i => ((x i : Nat) : Int)) := by
    rcases HV.out with ⟨_, _, _, h0⟩ | ⟨bw, ow, cw, h1, _, h2⟩
    · omega
    · exact ⟨bw, ow, cw, h1, h2⟩
  simp only [Value.slice.injEq, true_and] at hvv
  obtain ⟨rfl, rfl⟩ := hvv
  have HW : Hid (∀ W, Below wq.heap.size wq W → ∀ i, i < n + 1 → W.cell? ⟨bw, ow + i, none⟩ = some (.int .i64 ((x i : Nat) : Int))) := fun W hb i hi => by rw [hb.cell (cell_lt (hrow i hi))]; exact hrow i hi
  clear hrow HV HINI
  go_loopw [29] (fun t wr => ∃ (d : Nat) (vs : Nat → Value), d ≤ D + 1 ∧ t = .int .i64 d ∧ Hid (TreeS wq wr wq.heap.size w1.heap.size (D + 1) (fun e => if e < d then lvs x (D - e) (n + 1) else []) vs)) (fun t _ => D + 1 - (intOf t).toNat)
  case atStart => exact ⟨0, _, Nat.zero_le _, rfl, by simpa using HT0⟩
  case round =>
    clear HT0
    obtain ⟨d, vs, hd, rfl, HT⟩ := hrel
    rcases Nat.lt_or_ge d (D + 1) with h1 | h1
    · have hdI : (d : Int) < (D : Int) + 1 := by omega
      have hd0 : (0 : Int) ≤ (d : Int) := by omega
      have HTi : Hid (TreeS wq wr wq.heap.size w1.heap.size (D + 1) (fun e => if e < d then lvs x (D - e) (n + 1) else if e = d then lvs x (D - d) 0 else []) vs) := by
        have := HT.out
        refine this.congr fun e he => ?_
        by_cases h5 : e = d
        · subst h5; simp [lvs]
        · simp [h5]
      clear HT
      go_wp2_with fail
      go_loopw [34] (fun t wi => ∃ (i : Nat) (vs : Nat → Value), i ≤ n + 1 ∧ t = .int .i64 i ∧ Hid (TreeS wq wi wq.heap.size w1.heap.size (D + 1) (fun e => if e < d then lvs x (D - e) (n + 1) else if e = d then lvs x (D - d) i else []) vs)) (fun t _ => n + 1 - (intOf t).toNat)
      case atStart => exact ⟨0, vs, Nat.zero_le _, rfl, HTi⟩
      case round =>
        clear HTi
        obtain ⟨i, vs, hi, rfl, HT⟩ := hrel
        rcases Nat.lt_or_ge i (n + 1) with h2 | h2
        · have hiI : (i : Int) < (n : Int) + 1 := by omega
          have hi0 : (0 : Int) ≤ (i : Int) := by omega
          have hc := HW.out _ HT.out.below i h2
          obtain ⟨y, u, q1, q2, q3, q4⟩ := digit_facts (x i) D d (HXL.out i h2)
          have HU := Hid.mk' q4
          have hx4 := HXL.out i h2
          have hk : (D : Int) - (d : Int) = ((D - d : Nat) : Int) := by omega
          clear q4
          have HNX : Hid (lvs x (D - d) (i + 1) = lvs x (D - d) i ++ (if u = 1 then [i] else [])) := by show _ = _; rw [HU.out]; rfl
          have HLE := Hid.mk' (lvs_length (x := x) (k := D - d) i)
          clear HU
          generalize x i = xi at *
          by_cases hu : u = 1
          · subst hu
            have hcd := HT.out.cell d h1
            have hown := HT.out.rows d h1
            simp only [Nat.lt_irrefl, if_false, if_true] at hown
            obtain ⟨ad, cp, hvd, hle⟩ := row_shape hown
            rw [hvd] at hcd hown
            have hll : (lvs x (D - d) i).length ≤ 17 := by have := HLE.out; omega
            have HO := Hid.mk' (own_past hown ((Below.refl wr.heap.size wr).alloc (Nat.le_refl _) (.cells #[.int .i64 (i : Int)] 3)))
            have hszB : w1.heap.size ≤ wr.heap.size := HT.out.hg.2.2
            have HVD := Hid.mk' hvd
            have HGN : Hid (∀ (w3 : World) (g' cap2 : Nat), (wr.alloc (.cells #[.int .i64 (i : Int)] 3)).grownBy w3 (Value.slice ad (lvs x (D - d) i).length cp).ownBlock → w3.ownsRow w1.heap.size 3 1 (.slice (some ⟨g', 0, none⟩) ((lvs x (D - d) i).length + 1) cap2) ((lvs x (D - d) i).length + 1) (cellL (natL (lvs x (D - d) i)) ++ [.int .i64 (i : Int)]) → ((Value.slice ad (lvs x (D - d) i).length cp).ownBlock = some g' ∨ g' = (wr.alloc (.cells #[.int .i64 (i : Int)] 3)).heap.size) → (w3.cell? ⟨wq.heap.size, d, none⟩ = some (.slice ad (lvs x (D - d) i).length cp) ∧ w3.frozen? ⟨wq.heap.size, d, none⟩ = false) ∧ ∃ vs', TreeS wq (w3.setCell ⟨wq.heap.size, d, none⟩ (.slice (some ⟨g', 0, none⟩) ((lvs x (D - d) i).length + 1) cap2)) wq.heap.size w1.heap.size (D + 1) (fun e => if e < d then lvs x (D - e) (n + 1) else if e = d then lvs x (D - d) (i + 1) else []) vs') := fun w3 g' cap2 hgr how hat => by
              have ht := HT.out.later ((Below.refl wr.heap.size wr).alloc (Nat.le_refl _) (.cells #[.int .i64 (i : Int)] 3))
              have hne : (vs d).ownBlock ≠ some wq.heap.size := fun e => by have := ((ht.rows d h1).lt _ e).1; have := ht.hg.2.1; omega
              have hlt : wq.heap.size < (wr.alloc (.cells #[.int .i64 (i : Int)] 3)).heap.size := Nat.lt_of_lt_of_le ht.hg.2.1 ht.hg.2.2
              rw [← HVD.out] at hgr hat
              refine ⟨⟨?_, ?_⟩, fun e => if e = d then .slice (some ⟨g', 0, none⟩) ((lvs x (D - d) i).length + 1) cap2 else vs e, ?_⟩
              · rw [hgr.cell_far ⟨wq.heap.size, d, none⟩ hlt (fun q => hne q.symm), ht.cell d h1, HVD.out]
              · rw [hgr.frozen_far ⟨wq.heap.size, d, none⟩ hlt (fun q => hne q.symm), ht.fz d h1]
              · refine (ht.push (k := i) h1 hgr (by simpa using how) (fun b hb => ?_)).congr fun e he => ?_
                · have e1 : g' = b := by simpa [Value.ownBlock] using hb
                  subst e1
                  exact hat.imp id (fun e => Nat.le_of_eq e.symm)
                · by_cases hed : e = d
                  · subst hed; simp [HNX.out]
                  · simp [hed]
            have HLX := Hid.mk' (natL_length (lvs x (D - d) i))
            clear hvd hown HLE HNX HT HXL
            generalize hL : lvs x (D - d) i = LL at *
            clear hL
            generalize LL.length = ll at *
            go_wp2_with (at_builtin; go_must (refine wpList_append_lies _ rfl _ _ _ rfl w1.heap.size 3 i0 _ 1 8 Tryd.underlying22 HINF.out.1 HINF.out.2.1 HINF.out.2.2.1 HINF.out.2.2.2 rfl (by omega) (.slice ad ll cp) _ _ rfl HO.out ⟨wr.heap.size, 0, none⟩ 1 1 [.int .i64 (i : Int)] rfl rfl (one_new _ _ _) (by simp [Value.oneCell']) (by omega) (by unfold maxLen; omega) (by omega) (by simp; omega) _ rfl ?_; intro g' cap2 w3 hown3 hgrow3 hat3 hlt3; obtain ⟨⟨y3, y4⟩, vs', hts⟩ := HGN.out w3 g' cap2 hgrow3 hown3 hat3; have HTN := Hid.mk' hts; clear hown3 hgrow3 hat3 hts))
            exact ⟨⟨i + 1, vs', h2, by go_num, HTN.out⟩, by simp [intOf]; omega⟩
          · have hub : ((u : Int) == 1) = false := by rw [beq_eq_false_iff_ne]; omega
            have HTN : Hid (TreeS wq wr wq.heap.size w1.heap.size (D + 1) (fun e => if e < d then lvs x (D - e) (n + 1) else if e = d then lvs x (D - d) (i + 1) else []) vs) := by
              have := HT.out
              rw [HNX.out, if_neg hu, List.append_nil]
              exact this
            clear HNX hu HT
            go_wp2_with fail
            exact ⟨⟨i + 1, vs, h2, by go_num, HTN.out⟩, by simp [intOf]; omega⟩
        · obtain rfl : i = n + 1 := by omega
          have HTN : Hid (TreeS wq wr wq.heap.size w1.heap.size (D + 1) (fun e => if e < d + 1 then lvs x (D - e) (n + 1) else []) vs) := by
            refine HT.out.congr fun e he => ?_
            by_cases h5 : e = d
            · subst h5; simp
            · by_cases h6 : e < d
              · rw [if_pos h6, if_pos (by omega)]
              · rw [if_neg h6, if_neg h5, if_neg (by omega)]
          clear HT
          go_wp2_with fail
          exact ⟨⟨d + 1, vs, h1, by go_num, HTN.out⟩, by simp [intOf]; omega⟩
    · obtain rfl : d = D + 1 := by omega
      have HTN := Hid.mk' ((HT.out.congr (ls' := fun e => lvs x (D - e) (n + 1)) (fun e he => if_pos he)).tab (by omega) (D + 1))
      have HBE := Hid.mk' (below_chain HB.out HT.out.below)
      clear HT
      go_wp2_with fail
      go_ret
      exact ⟨_, _, rfl, HTN.out, HBE.out⟩
end Go.Proofs.YtobmngkaoahmiaaDoor
