/- sample.leavesOf: the tree of weights. -/
import Derived.Test.YtdafknhbiffaoaaDoorPackD
import Derived.Test.YtdafknhbiffaoaaDoorPackB
import Derived.Deep.AppendLies
import Derived.Deep.CutRange
import Derived.Deep.RegionHeld3
import Derived.Deep.LoopGhost
import Derived.Shelf.SlGeneric
import Derived.Shelf.Strings.SlTrimAscii
import Derived.Ground.NamesProg
import Derived.Test.YtdafknhbiffaoaaDoorProg
import Derived.Test.YtdafknhbiffaoaaDoorOwn
import Derived.Test.YtdafknhbiffaoaaDoorWeights
import Derived.Test.YtdafknhbiffaoaaDoorPackC
import Derived.Test.YtdafknhbiffaoaaDoorPackA
import Derived.Deep.Onto
import Derived.Test.YtdafknhbiffaoaaDoorPlus
import Derived.Test.YtdafknhbiffaoaaDoorWideMath
import Derived.Test.YtdafknhbiffaoaaDoorWLog
import Derived.Test.YtdafknhbiffaoaaDoorWTold
import Derived.Test.YtdafknhbiffaoaaDoorPutEnt
import Derived.Test.YtdafknhbiffaoaaDoorWToldW
namespace Go.Proofs.YtdafknhbiffaoaaDoor
open Go.RowKit

/-- How deep the tree of weights with the sum S is. -/
def dpT (S : Nat) : Nat := bitLen (S - 1)
theorem dpT_le {S : Nat} (h : S ≤ 4096) (h0 : 0 < S) : dpT S ≤ 12 := bitLen_le_of_lt (by
  have : (2 : Nat) ^ 12 = 4096 := by decide
  omega)
theorem dpT_ge (S : Nat) : S ≤ 2 ^ dpT S := by
  have := (bitLen_spec (S - 1)).1
  unfold dpT
  omega
theorem dpT_lt {S k : Nat} (hk : k < dpT S) : 2 ^ k < S := by
  have h0 : S - 1 ≠ 0 := fun e => by unfold dpT at hk; rw [e, bitLen_zero] at hk; omega
  have h1 := (bitLen_spec (S - 1)).2 h0
  have h2 : 2 ^ k ≤ 2 ^ (bitLen (S - 1) - 1) := Nat.pow_le_pow_right (by decide) (by unfold dpT at hk; omega)
  omega
theorem dpT_pow {S : Nat} (h : S ≤ 4096) (h0 : 0 < S) : 2 ^ dpT S ≤ 4096 := by
  have := Nat.pow_le_pow_right (n := 2) (by decide) (dpT_le h h0)
  exact Nat.le_trans this (by decide)
/-- The weights, and behind them that of `again`. -/
def xT (z : Nat → Int) (n S : Nat) (i : Nat) : Nat := if i < n then (z i).toNat else 2 ^ dpT S - S
theorem xT_sum {z : Nat → Int} {n S : Nat} (h : ∀ i, i < n → 0 ≤ z i) (hS : sumN z n = S) : sumX (xT z n S) (n + 1) = 2 ^ dpT S := by
  have h1 : ∀ k, k ≤ n → (sumX (xT z n S) k : Int) = sumN z k := fun k => by
    induction k with
    | zero => intro _; rfl
    | succ k ih =>
      intro hk
      have := ih (by omega)
      have h2 := h k (by omega)
      rw [sumX, sumN]
      have h3 : xT z n S k = (z k).toNat := if_pos (by omega)
      omega
  have h2 := h1 n (Nat.le_refl _)
  have h3 : xT z n S n = 2 ^ dpT S - S := if_neg (by omega)
  have h4 := dpT_ge S
  rw [sumX, h3]
  omega
theorem clone_at (b o n c : Nat) (z : Nat → Int) (w : World) (h : RowAt w b o n z) (hn : n ≤ 1000) :
    Calls Tryd.prog 28 #[.slice (some ⟨b, o, none⟩) n c] w fun e w' => ∃ v, e = .returned v ∧ w'.ownsRow w.heap.size 3 1 v n (cellL (rowL z n)) ∧ Below w.heap.size w w' := by
  refine (Any.slices_Clone_int (ρ := Tryd.cloneA_ren) Tryd.cloneA b o n c (rowL z n) w (by rw [rowL_length]; exact Nat.le_refl _) (by omega) (fun j hj => ?_)).mono ?_
  · rw [rowL_length] at hj
    rw [h j hj]
    simp [rowL, hj]
  · rintro e w' ⟨v', rfl, h1, _, h2⟩
    refine ⟨v', rfl, ?_, h2⟩
    rw [List.take_of_length_le (by rw [rowL_length]; exact Nat.le_refl _)] at h1
    exact h1
theorem cells_same {z y : Nat → Int} : ∀ {n : Nat}, (∀ i, i < n → z i = y i) → numCells z n = numCells y n
  | 0, _ => rfl
  | n + 1, h => by rw [numCells, numCells, cells_same (fun i hi => h i (by omega)), h n (by omega)]
/-- A digit of a number, as the program takes it. -/
theorem digit_facts (x D d : Nat) (hx : x ≤ 4096) : ∃ y u : Nat, (x : Int) / 2 ^ (D - d) = (y : Int) ∧ y ≤ x ∧ bits .and .i64 (y : Int) 1 = (u : Int) ∧ u = x / 2 ^ (D - d) % 2 := by
  refine ⟨x >>> (D - d), (x >>> (D - d)) &&& 1, shr_nat _ _, shr_le _ _, i64_andN _ 1 (by have := shr_le x (D - d); omega) (by omega), ?_⟩
  rw [Nat.and_one_is_mod, Nat.shiftRight_eq_div_pow]
set_option maxRecDepth 100000 in
set_option maxHeartbeats 4000000 in
theorem leavesOf_any (b o cap n S : Nat) (z : Nat → Int) (w : World) (h : RowAt w b o n z) (hok : OkW z n) (hS : sumN z n = S) (hn : n ≤ 16) :
    Calls Tryd.prog 15 #[.slice (some ⟨b, o, none⟩) n cap] w fun e w' => ∃ v vs, e = .returned v ∧ TabAt w' v (dpT S + 1) vs (fun d => (lvs (xT z n S) (dpT S - d) (n + 1)).length) (fun d i => (((lvs (xT z n S) (dpT S - d) (n + 1)).getD i 0 : Nat) : Int)) ∧ Below w.heap.size w w' := by
  obtain ⟨i0, hi, hz0, hz1, hz2⟩ := info_parts Tryd.infoInt
  have HINF : Hid (Tryd.prog.info? 3 = some i0 ∧ i0.zero = some (.int .i64 0) ∧ i0.size = 1 ∧ i0.bytes = 8) := ⟨hi, hz0, hz1, hz2⟩
  clear hi hz0 hz1 hz2
  obtain ⟨i1, hi, hz0, hz1, hz2⟩ := info_parts Tryd.infoInts
  have HINI : Hid (Tryd.prog.info? 22 = some i1 ∧ i1.zero = some (.slice none 0 0) ∧ i1.size = 1 ∧ i1.bytes = 24) := ⟨hi, hz0, hz1, hz2⟩
  clear hi hz0 hz1 hz2
  have hT := total_some b o cap n z w h (fun k hk => by have := hok.part hk; omega) (fun k hk => by have := hok.lt hk; omega) (by omega)
  rw [hS] at hT
  have hp := hok.pos
  have hl := hok.le
  have hS0 : 1 ≤ S := by omega
  have hS4 : S ≤ 4096 := by omega
  have HSP : Hid (1 ≤ S ∧ S ≤ 4096) := ⟨hS0, hS4⟩
  have HCL := Hid.mk' (fun (W : World) (hb : Below w.heap.size w W) => clone_at b o n cap z W (h.later hb) (by omega))
  have HLN := Hid.mk' (Len_any (S - 1) w (by omega))
  have HD := Hid.mk' (dpT_le hS4 hS0)
  have HG := Hid.mk' (dpT_ge S)
  have HP := Hid.mk' (dpT_pow hS4 hS0)
  have hD : dpT S = bitLen (S - 1) := rfl
  rw [← hD] at HLN
  clear h hp hl hD
  obtain ⟨s, rfl⟩ : ∃ s, S = s + 1 := ⟨S - 1, by omega⟩
  have HX : Hid (∀ i, i < n → z i = ((xT z n (s + 1) i : Nat) : Int)) := fun i hi => by
    have := hok.nn i hi
    show z i = ((if i < n then (z i).toNat else 2 ^ dpT (s + 1) - (s + 1) : Nat) : Int)
    rw [if_pos hi]; omega
  have HXN : Hid (xT z n (s + 1) n = 2 ^ dpT (s + 1) - (s + 1)) := if_neg (by omega)
  have HXL : Hid (∀ i, i < n + 1 → xT z n (s + 1) i ≤ 4096) := fun i hi => by
    have h1 := sumX_ge (x := xT z n (s + 1)) hi
    rw [xT_sum hok.nn hS] at h1
    have := HP.out
    omega
  have HRL := Hid.mk' (rowL_length z n)
  have HRA : Hid (∀ i, i < n → atF (rowL z n) i = z i) := fun i hi => by simp [atF, rowL, hi]
  generalize xT z n (s + 1) = x at *
  generalize hDD : dpT (s + 1) = D at *
  have hD12 := HD.out
  clear hDD hok hS HSP
  obtain ⟨P, hP⟩ : ∃ P, P = 2 ^ D := ⟨_, rfl⟩
  rw [← hP] at HG HP HXN
  have hPs := HG.out
  have hP4 := HP.out
  have e1 : IntKind.i64.wrap ((2 : Int) ^ D) = (P : Int) := by rw [show ((2 : Int) ^ D) = (P : Int) by rw [hP]; simp, IntKind.wrap_i64]; omega
  have e2 : IntKind.i64.wrap ((P : Int) - ((s : Int) + 1)) = (P : Int) - ((s : Int) + 1) := by rw [IntKind.wrap_i64]; omega
  clear hP HG HP HD
  go_enter Tryd.func15, Tryd.ntmps15
  go_wp2_with fail
  refine hT.mono ?_
  rintro e w2 ⟨rfl, hw2⟩
  rw [hw2]
  clear hw2 hT
  go_wp2_with fail
  refine HLN.out.mono ?_
  rintro e w2 ⟨rfl, hw2⟩
  rw [hw2]
  clear hw2 HLN
  go_upto_region 3 with fail
  go_cut [5] from 16 to 23 (fun t wx => ∃ (va : Option Addr) (vc : Nat), t = .slice va (n + 1) vc ∧ Hid (NumsAt wx (.slice va (n + 1) vc) (n + 1) (fun i => ((x i : Nat) : Int))) ∧ Hid (Below w.heap.size w wx))
  case first =>
    have hcur : Below w.heap.size w w.drew := (Below.refl _ _).drew
    have hcurA : Below w.heap.size w (w.drew.alloc (.cells #[.int .i64 ((P : Int) - ((s : Int) + 1))] 3)) := hcur.alloc hcur.size _
    have HNA : Hid (∀ W, Below (w.drew.alloc (.cells #[.int .i64 ((P : Int) - ((s : Int) + 1))] 3)).heap.size (w.drew.alloc (.cells #[.int .i64 ((P : Int) - ((s : Int) + 1))] 3)) W → ∀ j u, [Value.int .i64 ((P : Int) - ((s : Int) + 1))][j]? = some u → W.cell? ((⟨w.heap.size, 0, none⟩ : Addr).add j) = some u) := fun W hb j u hu => by
      have h9 := one_new w.drew (Value.int .i64 ((P : Int) - ((s : Int) + 1))) 3 j u hu
      rw [← h9]
      exact hb.cell (cell_lt h9)
    go_region_held3 (fun _ => True)
      (exact trivial)
      (first
        | (go_at_call 28; first | (refine (HCL.out _ hcur).mono ?_; rintro e w4 ⟨v4, rfl, h4, hb4⟩; have HNB : Hid (∀ W, Below w4.heap.size w4 W → True) := (fun _ _ => trivial); have hbw4 := below_chain hcur hb4; have HO4 := Hid.mk' (h4.mono (show w.heap.size ≤ _ from hcur.size)); obtain ⟨a4, c4, rfl, hnc4⟩ := row_shape h4; clear h4 hb4) | (refine (HCL.out _ hcurA).mono ?_; rintro e w4 ⟨v4, rfl, h4, hb4⟩; have HNB := Hid.mk' (HNA.out w4 hb4); have hbw4 := below_chain hcurA hb4; have HO4 := Hid.mk' (h4.mono (show w.heap.size ≤ _ from hcurA.size)); obtain ⟨a4, c4, rfl, hnc4⟩ := row_shape h4; clear h4 hb4))
        | (refine step_append_lies _ (by rfl) _ _ _ (by rfl) w.heap.size 3 i0 _ 1 8 Tryd.underlying22 HINF.out.1 HINF.out.2.1 HINF.out.2.2.1 HINF.out.2.2.2 rfl (by decide) (.slice a4 n c4) n _ (by rfl) HO4.out ⟨w.heap.size, 0, none⟩ 1 1 [.int .i64 ((P : Int) - ((s : Int) + 1))] (by rfl) rfl HNB.out (by simp [Value.oneCell']) (by omega) (by unfold maxLen; omega) (by omega) hbw4.size _ rfl ?_; intro g' cap' w6 hown6 hgrow6 hat6 hlt6; have HB6 := Hid.mk' (hbw4.grown hgrow6 hbw4.size (fun q e => (HO4.out.lt q e).1)); clear hat6 hgrow6)
        | (refine step_append_lies _ (by rfl) _ _ _ (by rfl) w.heap.size 3 i0 _ 1 8 Tryd.underlying22 HINF.out.1 HINF.out.2.1 HINF.out.2.2.1 HINF.out.2.2.2 rfl (by decide) (.slice a4 n c4) n _ (by rfl) (HO4.out.alloc _) ⟨w4.heap.size, 0, none⟩ 1 1 [.int .i64 ((P : Int) - ((s : Int) + 1))] (by rfl) rfl (one_new _ _ _) (by simp [Value.oneCell']) (by omega) (by unfold maxLen; omega) (by omega) (hbw4.alloc hbw4.size _).size _ rfl ?_; intro g' cap' w6 hown6 hgrow6 hat6 hlt6; have HB6 := Hid.mk' ((hbw4.alloc hbw4.size _).grown hgrow6 (hbw4.alloc hbw4.size _).size (fun q e => (HO4.out.lt q e).1)); clear hat6 hgrow6))
    all_goals
      go_wp2_with fail
      go_meet
      refine ⟨_, _, rfl, Hid.mk' ?_, HB6.out⟩
      refine numsAt_own (base := w.heap.size) ?_
      rw [numCells, ← cells_same HX.out, ← cellL_row]
      have hxn := HXN.out
      rw [show ((x n : Nat) : Int) = (P : Int) - ((s : Int) + 1) by omega]
      exact hown6
  case rest =>
  obtain ⟨va, vc, rfl, HV, HB⟩ := hcut
  obtain ⟨wq, hwq⟩ : ∃ wq, wq = wc := ⟨_, rfl⟩
  rw [← hwq] at HV HB ⊢
  clear hwq HCL HRL HRA HX HXN hPs hP4 e1 e2
  go_wp2_with (at_make; go_must (refine wpList_make_full _ rfl _ _ _ rfl wq.heap.size 22 i1 _ 1 Tryd.underlying45 HINI.out.1 HINI.out.2.1 HINI.out.2.2.1 .i64 .i64 _ _ (D + 1) rfl rfl rfl rfl (by rw [HINI.out.2.2.2]; omega) (by unfold maxLen; omega) (Nat.le_refl _) ?_; intro w1 hown2 hgrow2; have HT0 := Hid.mk' (tree_start (rowIs_made hown2 (made_one (.slice none 0 0) rfl (D + 1))) (made_below hgrow2) (Nat.le_refl _) (hown2.lt _ rfl).2); clear hown2 hgrow2))
  obtain ⟨bw, ow, cw, hvv, hrow⟩ : ∃ bw ow cw, Value.slice va (n + 1) vc = .slice (some ⟨bw, ow, none⟩) (n + 1) cw ∧ RowAt wq bw ow (n + 1) (fun i => ((x i : Nat) : Int)) := by
    rcases HV.out with ⟨_, _, _, h0⟩ | ⟨bw, ow, cw, h1, _, h2⟩
    · omega
    · exact ⟨bw, ow, cw, h1, h2⟩
  simp only [Value.slice.injEq, true_and] at hvv
  obtain ⟨rfl, rfl⟩ := hvv
  have HW : Hid (∀ W, Below wq.heap.size wq W → ∀ i, i < n + 1 → W.cell? ⟨bw, ow + i, none⟩ = some (.int .i64 ((x i : Nat) : Int))) := fun W hb i hi => by rw [hb.cell (cell_lt (hrow i hi))]; exact hrow i hi
  clear hrow HV HINI
  go_loopw [29] (fun t wr => ∃ (d : Nat) (vs : Nat → Value), d ≤ D + 1 ∧ t = .int .i64 d ∧ Hid (TreeS wq wr wq.heap.size w1.heap.size (D + 1) (fun e => if e < d then lvs x (D - e) (n + 1) else []) vs)) (fun t _ => D + 1 - (intOf t).toNat)
  case atStart => exact ⟨0, _, Nat.zero_le _, rfl, by simpa using HT0⟩
  case round =>
    clear HT0
    obtain ⟨d, vs, hd, rfl, HT⟩ := hrel
    rcases Nat.lt_or_ge d (D + 1) with h1 | h1
    · have hdI : (d : Int) < (D : Int) + 1 := by omega
      have hd0 : (0 : Int) ≤ (d : Int) := by omega
      have HTi : Hid (TreeS wq wr wq.heap.size w1.heap.size (D + 1) (fun e => if e < d then lvs x (D - e) (n + 1) else if e = d then lvs x (D - d) 0 else []) vs) := by
        have := HT.out
        refine this.congr fun e he => ?_
        by_cases h5 : e = d
        · subst h5; simp [lvs]
        · simp [h5]
      clear HT
      go_wp2_with fail
      go_loopw [34] (fun t wi => ∃ (i : Nat) (vs : Nat → Value), i ≤ n + 1 ∧ t = .int .i64 i ∧ Hid (TreeS wq wi wq.heap.size w1.heap.size (D + 1) (fun e => if e < d then lvs x (D - e) (n + 1) else if e = d then lvs x (D - d) i else []) vs)) (fun t _ => n + 1 - (intOf t).toNat)
      case atStart => exact ⟨0, vs, Nat.zero_le _, rfl, HTi⟩
      case round =>
        clear HTi
        obtain ⟨i, vs, hi, rfl, HT⟩ := hrel
        rcases Nat.lt_or_ge i (n + 1) with h2 | h2
        · have hiI : (i : Int) < (n : Int) + 1 := by omega
          have hi0 : (0 : Int) ≤ (i : Int) := by omega
          have hc := HW.out _ HT.out.below i h2
          obtain ⟨y, u, q1, q2, q3, q4⟩ := digit_facts (x i) D d (HXL.out i h2)
          have HU := Hid.mk' q4
          have hx4 := HXL.out i h2
          have hk : (D : Int) - (d : Int) = ((D - d : Nat) : Int) := by omega
          clear q4
          have HNX : Hid (lvs x (D - d) (i + 1) = lvs x (D - d) i ++ (if u = 1 then [i] else [])) := by show _ = _; rw [HU.out]; rfl
          have HLE := Hid.mk' (lvs_length (x := x) (k := D - d) i)
          clear HU
          generalize x i = xi at *
          by_cases hu : u = 1
          · subst hu
            have hcd := HT.out.cell d h1
            have hown := HT.out.rows d h1
            simp only [Nat.lt_irrefl, if_false, if_true] at hown
            obtain ⟨ad, cp, hvd, hle⟩ := row_shape hown
            rw [hvd] at hcd hown
            have hll : (lvs x (D - d) i).length ≤ 17 := by have := HLE.out; omega
            have HO := Hid.mk' (own_past hown ((Below.refl wr.heap.size wr).alloc (Nat.le_refl _) (.cells #[.int .i64 (i : Int)] 3)))
            have hszB : w1.heap.size ≤ wr.heap.size := HT.out.hg.2.2
            have HVD := Hid.mk' hvd
            have HGN : Hid (∀ (w3 : World) (g' cap2 : Nat), (wr.alloc (.cells #[.int .i64 (i : Int)] 3)).grownBy w3 (Value.slice ad (lvs x (D - d) i).length cp).ownBlock → w3.ownsRow w1.heap.size 3 1 (.slice (some ⟨g', 0, none⟩) ((lvs x (D - d) i).length + 1) cap2) ((lvs x (D - d) i).length + 1) (cellL (natL (lvs x (D - d) i)) ++ [.int .i64 (i : Int)]) → ((Value.slice ad (lvs x (D - d) i).length cp).ownBlock = some g' ∨ g' = (wr.alloc (.cells #[.int .i64 (i : Int)] 3)).heap.size) → (w3.cell? ⟨wq.heap.size, d, none⟩ = some (.slice ad (lvs x (D - d) i).length cp) ∧ w3.frozen? ⟨wq.heap.size, d, none⟩ = false) ∧ ∃ vs', TreeS wq (w3.setCell ⟨wq.heap.size, d, none⟩ (.slice (some ⟨g', 0, none⟩) ((lvs x (D - d) i).length + 1) cap2)) wq.heap.size w1.heap.size (D + 1) (fun e => if e < d then lvs x (D - e) (n + 1) else if e = d then lvs x (D - d) (i + 1) else []) vs') := fun w3 g' cap2 hgr how hat => by
              have ht := HT.out.later ((Below.refl wr.heap.size wr).alloc (Nat.le_refl _) (.cells #[.int .i64 (i : Int)] 3))
              have hne : (vs d).ownBlock ≠ some wq.heap.size := fun e => by have := ((ht.rows d h1).lt _ e).1; have := ht.hg.2.1; omega
              have hlt : wq.heap.size < (wr.alloc (.cells #[.int .i64 (i : Int)] 3)).heap.size := Nat.lt_of_lt_of_le ht.hg.2.1 ht.hg.2.2
              rw [← HVD.out] at hgr hat
              refine ⟨⟨?_, ?_⟩, fun e => if e = d then .slice (some ⟨g', 0, none⟩) ((lvs x (D - d) i).length + 1) cap2 else vs e, ?_⟩
              · rw [hgr.cell_far ⟨wq.heap.size, d, none⟩ hlt (fun q => hne q.symm), ht.cell d h1, HVD.out]
              · rw [hgr.frozen_far ⟨wq.heap.size, d, none⟩ hlt (fun q => hne q.symm), ht.fz d h1]
              · refine (ht.push (k := i) h1 hgr (by simpa using how) (fun b hb => ?_)).congr fun e he => ?_
                · have e1 : g' = b := by simpa [Value.ownBlock] using hb
                  subst e1
                  exact hat.imp id (fun e => Nat.le_of_eq e.symm)
                · by_cases hed : e = d
                  · subst hed; simp [HNX.out]
                  · simp [hed]
            have HLX := Hid.mk' (natL_length (lvs x (D - d) i))
            clear hvd hown HLE HNX HT HXL
            generalize hL : lvs x (D - d) i = LL at *
            clear hL
            generalize LL.length = ll at *
            go_wp2_with (at_builtin; go_must (refine wpList_append_lies _ rfl _ _ _ rfl w1.heap.size 3 i0 _ 1 8 Tryd.underlying22 HINF.out.1 HINF.out.2.1 HINF.out.2.2.1 HINF.out.2.2.2 rfl (by omega) (.slice ad ll cp) _ _ rfl HO.out ⟨wr.heap.size, 0, none⟩ 1 1 [.int .i64 (i : Int)] rfl rfl (one_new _ _ _) (by simp [Value.oneCell']) (by omega) (by unfold maxLen; omega) (by omega) (by simp; omega) _ rfl ?_; intro g' cap2 w3 hown3 hgrow3 hat3 hlt3; obtain ⟨⟨y3, y4⟩, vs', hts⟩ := HGN.out w3 g' cap2 hgrow3 hown3 hat3; have HTN := Hid.mk' hts; clear hown3 hgrow3 hat3 hts))
            exact ⟨⟨i + 1, vs', h2, by go_num, HTN.out⟩, by simp [intOf]; omega⟩
          · have hub : ((u : Int) == 1) = false := by rw [beq_eq_false_iff_ne]; omega
            have HTN : Hid (TreeS wq wr wq.heap.size w1.heap.size (D + 1) (fun e => if e < d then lvs x (D - e) (n + 1) else if e = d then lvs x (D - d) (i + 1) else []) vs) := by
              have := HT.out
              rw [HNX.out, if_neg hu, List.append_nil]
              exact this
            clear HNX hu HT
            go_wp2_with fail
            exact ⟨⟨i + 1, vs, h2, by go_num, HTN.out⟩, by simp [intOf]; omega⟩
        · obtain rfl : i = n + 1 := by omega
          have HTN : Hid (TreeS wq wr wq.heap.size w1.heap.size (D + 1) (fun e => if e < d + 1 then lvs x (D - e) (n + 1) else []) vs) := by
            refine HT.out.congr fun e he => ?_
            by_cases h5 : e = d
            · subst h5; simp
            · by_cases h6 : e < d
              · rw [if_pos h6, if_pos (by omega)]
              · rw [if_neg h6, if_neg h5, if_neg (by omega)]
          clear HT
          go_wp2_with fail
          exact ⟨⟨d + 1, vs, h1, by go_num, HTN.out⟩, by simp [intOf]; omega⟩
    · obtain rfl : d = D + 1 := by omega
      have HTN := Hid.mk' ((HT.out.congr (ls' := fun e => lvs x (D - e) (n + 1)) (fun e he => if_pos he)).tab (by omega) (D + 1))
      have HBE := Hid.mk' (below_chain HB.out HT.out.below)
      clear HT
      go_wp2_with fail
      go_ret
      exact ⟨_, _, rfl, HTN.out, HBE.out⟩
end Go.Proofs.YtdafknhbiffaoaaDoor

/- The library contract of strings.Trim laid at the numbers of this translation. -/
namespace Go.Proofs
open Go.Shelf
def Tryd.trimA_ren : Go.Shelf.Ren := ⟨fun | 160 => 39 | 232 => 53 | 231 => 52 | 227 => 54 | 234 => 56 | 233 => 55 | 236 => 58 | 235 => 57 | 228 => 67 | 271 => 70 | 151 => 69 | 197 => 68 | 120 => 76 | 152 => 75 | 260 => 74 | 137 => 86 | 119 => 87 | 224 => 88 | 225 => 89 | 217 => 95 | 266 => 97 | n => n, fun | 9 => 9 | 4 => 4 | 3 => 3 | 5 => 5 | 117 => 95 | 116 => 94 | 0 => 0 | 124 => 98 | 21 => 21 | 105 => 105 | 46 => 63 | 119 => 121 | 139 => 124 | 138 => 123 | n => n, fun | 3 => 4 | 4 => 5 | n => n⟩
theorem Tryd.trimA : Go.Proofs.Lays.n160 Tryd.prog Tryd.trimA_ren := {
  mixed := by kernel_rfl
  f119 := Tryd.func87.trans (congrArg some (by kernel_rfl))
  f120 := Tryd.func76.trans (congrArg some (by kernel_rfl))
  f137 := Tryd.func86.trans (congrArg some (by kernel_rfl))
  f151 := Tryd.func69.trans (congrArg some (by kernel_rfl))
  f152 := Tryd.func75.trans (congrArg some (by kernel_rfl))
  f160 := Tryd.func39.trans (congrArg some (by kernel_rfl))
  f197 := Tryd.func68.trans (congrArg some (by kernel_rfl))
  f217 := Tryd.func95.trans (congrArg some (by kernel_rfl))
  f224 := Tryd.func88.trans (congrArg some (by kernel_rfl))
  f225 := Tryd.func89.trans (congrArg some (by kernel_rfl))
  f227 := Tryd.func54.trans (congrArg some (by kernel_rfl))
  f228 := Tryd.func67.trans (congrArg some (by kernel_rfl))
  f231 := Tryd.func52.trans (congrArg some (by kernel_rfl))
  f232 := Tryd.func53.trans (congrArg some (by kernel_rfl))
  f233 := Tryd.func55.trans (congrArg some (by kernel_rfl))
  f234 := Tryd.func56.trans (congrArg some (by kernel_rfl))
  f235 := Tryd.func57.trans (congrArg some (by kernel_rfl))
  f236 := Tryd.func58.trans (congrArg some (by kernel_rfl))
  f260 := Tryd.func74.trans (congrArg some (by kernel_rfl))
  f266 := Tryd.func97.trans (congrArg some (by kernel_rfl))
  f271 := Tryd.func70.trans (congrArg some (by kernel_rfl))
  t0 := Tryd.underlying0
  a0 := Tryd.isAgg0
  z0 := Tryd.sizeOf0
  v0 := Tryd.zeroValue0
  t3 := Tryd.underlying3
  a3 := Tryd.isAgg3
  z3 := Tryd.sizeOf3
  v3 := Tryd.zeroValue3
  t4 := Tryd.underlying4
  a4 := Tryd.isAgg4
  z4 := Tryd.sizeOf4
  v4 := Tryd.zeroValue4
  t5 := Tryd.underlying5
  a5 := Tryd.isAgg5
  z5 := Tryd.sizeOf5
  v5 := Tryd.zeroValue5
  t9 := Tryd.underlying9
  a9 := Tryd.isAgg9
  z9 := Tryd.sizeOf9
  v9 := Tryd.zeroValue9
  t21 := Tryd.underlying21
  a21 := Tryd.isAgg21
  z21 := Tryd.sizeOf21
  v21 := Tryd.zeroValue21
  t46 := Tryd.underlying63
  a46 := Tryd.isAgg63
  z46 := Tryd.sizeOf63
  v46 := Tryd.zeroValue63
  t105 := Tryd.underlying105
  a105 := Tryd.isAgg105
  z105 := Tryd.sizeOf105
  v105 := Tryd.zeroValue105
  t116 := Tryd.underlying94
  a116 := Tryd.isAgg94
  z116 := Tryd.sizeOf94
  t117 := Tryd.underlying95
  a117 := Tryd.isAgg95
  z117 := Tryd.sizeOf95
  v117 := Tryd.zeroValue95
  t119 := Tryd.underlying121
  a119 := Tryd.isAgg121
  z119 := Tryd.sizeOf121
  t124 := Tryd.underlying98
  a124 := Tryd.isAgg98
  z124 := Tryd.sizeOf98
  v124 := Tryd.zeroValue98
  t138 := Tryd.underlying123
  a138 := Tryd.isAgg123
  z138 := Tryd.sizeOf123
  v138 := Tryd.zeroValue123
  t139 := Tryd.underlying124
  a139 := Tryd.isAgg124
  z139 := Tryd.sizeOf124
  v139 := Tryd.zeroValue124
  g3 := by kernel_rfl
  g4 := by kernel_rfl }
end Go.Proofs

/- Texts of 0 and 1: strings.Trim. -/
namespace Go.Proofs.YtdafknhbiffaoaaDoor
open Go.RowKit

/-- Is a text of 0 and 1 alone? -/
def bitB (s : ByteArray) : Bool := s.data.toList.all (fun c => [48, 49].contains c)
theorem drop_head (p : UInt8 → Bool) : ∀ (l : List UInt8) (a : UInt8) (t : List UInt8), l.dropWhile p = a :: t → p a = false
  | [], a, t, h => by simp at h
  | x :: l, a, t, h => by
    rw [List.dropWhile_cons] at h
    split at h
    · exact drop_head p l a t h
    · rename_i hx
      obtain ⟨rfl, -⟩ : x = a ∧ l = t := by simpa using h
      simpa using hx
theorem drop_nil (p : UInt8 → Bool) : ∀ (l : List UInt8), l.dropWhile p = [] ↔ ∀ x ∈ l, p x = true
  | [] => by simp
  | x :: l => by
    rw [List.dropWhile_cons]
    split
    · rename_i hx
      rw [drop_nil p l]
      simp [hx]
    · rename_i hx
      simp [hx]
theorem trim_all {l cs : List UInt8} (h : l.all (fun c => cs.contains c) = true) : Lib.trimS l cs = [] := by
  have h1 : Lib.trimRightS l cs = [] := by
    unfold Lib.trimRightS
    rw [List.reverse_eq_nil_iff, drop_nil]
    intro x hx
    exact List.all_eq_true.1 h x (List.mem_reverse.1 hx)
  unfold Lib.trimS
  rw [h1]; rfl
theorem trim_not {l cs : List UInt8} (h : l.all (fun c => cs.contains c) = false) : Lib.trimS l cs ≠ [] := by
  intro h1
  unfold Lib.trimS Lib.trimLeftS Lib.trimRightS at h1
  rw [drop_nil] at h1
  cases hm : l.reverse.dropWhile (cs.contains ·) with
  | nil =>
    rw [drop_nil] at hm
    have : l.all (fun c => cs.contains c) = true := List.all_eq_true.2 fun x hx => hm x (List.mem_reverse.2 hx)
    rw [this] at h; cases h
  | cons a t =>
    have h2 := drop_head _ _ a t hm
    have h3 := h1 a (by rw [hm]; simp)
    have h4 : cs.contains a = false := h2
    rw [h4] at h3; cases h3
theorem trim01 (s : ByteArray) (w : World) (hs : s.size ≤ 1000000) : Calls Tryd.prog 39 #[.string s, .string ⟨#[48, 49]⟩] w fun e w' => e = .returned (.string ⟨(Lib.trimS s.data.toList [48, 49]).toArray⟩) ∧ Below w.heap.size w w' :=
  Any.strings_Trim_laid Tryd.trimA (by kernel_rfl) s ⟨#[48, 49]⟩ w (by omega) (by decide) (ascii_of_all (by decide))
theorem trim_bits (s : ByteArray) (w : World) (hs : s.size ≤ 1000000) (hb : bitB s = true) : Calls Tryd.prog 39 #[.string s, .string ⟨#[48, 49]⟩] w fun e w' => e = .returned (.string ⟨#[]⟩) ∧ Below w.heap.size w w' := by
  have := trim01 s w hs
  rw [trim_all hb] at this
  exact this
theorem trim_other (s : ByteArray) (w : World) (hs : s.size ≤ 1000000) (hb : bitB s = false) : Calls Tryd.prog 39 #[.string s, .string ⟨#[48, 49]⟩] w fun e w' => ∃ t : ByteArray, e = .returned (.string t) ∧ t.toList.isEmpty = false ∧ Below w.heap.size w w' := by
  refine (trim01 s w hs).mono ?_
  rintro e w' ⟨rfl, h⟩
  refine ⟨_, rfl, ?_, h⟩
  rw [ByteArray.toList_eq]
  have := trim_not hb
  cases h2 : Lib.trimS s.data.toList [48, 49] with
  | nil => exact absurd h2 this
  | cons x l => rfl
end Go.Proofs.YtdafknhbiffaoaaDoor

/- The document's Bits and WordsError; the law's some and strs. -/
namespace Go.Proofs.YtdafknhbiffaoaaDoor
open Go.RowKit

theorem ret_bool2 {a b : Bool} (h : a = b) : Ending.returned (.bool a) = .returned (.bool b) := by rw [h]
theorem ret_nat4 {a b : Nat} (h : b = a) : Ending.returned (.int .i64 (a : Int)) = .returned (.int .i64 (b : Int)) := by rw [h]
theorem bit_at {s : ByteArray} {i : Nat} (h : i < s.size) (hb : bitB s = true) : (s[i]'h) = 48 ∨ (s[i]'h) = 49 := by
  have h1 : (s[i]'h) ∈ s.data.toList := by
    have h2 : i < s.data.size := h
    rw [Array.mem_toList_iff]
    exact Array.getElem_mem h2
  have := List.all_eq_true.1 hb _ h1
  simpa using this
theorem bit_all {s : ByteArray} (h : ∀ i (hi : i < s.size), (s[i]'hi) = 48 ∨ (s[i]'hi) = 49) : bitB s = true := by
  refine List.all_eq_true.2 fun x hx => ?_
  rw [Array.mem_toList_iff] at hx
  obtain ⟨i, hi, rfl⟩ := Array.getElem_of_mem hx
  have := h i hi
  have e : s.data[i] = (s[i]'hi) := rfl
  rw [e]
  simpa using this
end Go.Proofs.YtdafknhbiffaoaaDoor

/- sample.Draw. -/
namespace Go.Proofs.YtdafknhbiffaoaaDoor
open Go.RowKit

/-- What is wrong with weights and bits. -/
def dwE (z : Nat → Int) (n : Nat) (t : ByteArray) : Nat := if weightsErr z n = 0 then (if 4000 < t.size then 2 else if bitB t = true then 0 else 1) else weightsErr z n
theorem dwE_le (z : Nat → Int) (n : Nat) (t : ByteArray) : dwE z n t ≤ 8 := by
  have := weightsErr_le z n
  unfold dwE
  split
  · split
    · omega
    · split <;> omega
  · omega
theorem errV_1s (a : Nat → Addr) : errV a 1 = .iface 136 (.pointer (some (a 0))) := rfl
theorem errV_2s (a : Nat → Addr) : errV a 2 = .iface 136 (.pointer (some (a 1))) := rfl
theorem errV_6s (a : Nat → Addr) : errV a 6 = .iface 136 (.pointer (some (a 5))) := rfl
set_option maxRecDepth 100000 in
set_option maxHeartbeats 2000000 in
theorem drawError_any (a : Nat → Addr) (v : Value) (n : Nat) (z : Nat → Int) (t : ByteArray) (w : World) (hE : Errs w a) (h : NumsAt w v n z) (hn : n ≤ 1000000) (ht : t.size ≤ 9223372036854775807) :
    Calls Tryd.prog 24 #[v, .string t] w fun e w' => e = .returned (errV a (dwE z n t)) ∧ Below w.heap.size w w' := by
  have hV := Valid_weights a v n z w hE h hn
  obtain ⟨ad, cap, rfl⟩ := h.form
  have htI : (t.size : Int) ≤ 9223372036854775807 := by omega
  have c0 := hE.c0
  have c1 := hE.c1
  by_cases h0 : weightsErr z n = 0
  · rw [h0, errV_zero] at hV
    by_cases h4 : 4000 < t.size
    · have h4I : (4000 : Int) < (t.size : Int) := by omega
      rw [show dwE z n t = 2 by unfold dwE; rw [if_pos h0, if_pos h4], errV_2s]
      clear hE h
      go_enter Tryd.func24, Tryd.ntmps24
      go_wp2_with fail
      refine hV.mono ?_
      rintro e w2 ⟨rfl, hw2⟩
      rw [hw2]
      clear hw2 hV
      go_wp2_with fail
      go_ret
      exact ⟨rfl, Below.refl _ _⟩
    · have h4I : ¬ (4000 : Int) < (t.size : Int) := by omega
      by_cases hb : bitB t = true
      · rw [show dwE z n t = 0 by unfold dwE; rw [if_pos h0, if_neg h4, if_pos hb], errV_zero]
        have HT := Hid.mk' (trim_bits t w (by omega) hb)
        clear hE h
        go_enter Tryd.func24, Tryd.ntmps24
        go_wp2_with fail
        refine hV.mono ?_
        rintro e w2 ⟨rfl, hw2⟩
        rw [hw2]
        clear hw2 hV
        go_wp2_with fail
        refine HT.out.mono ?_
        rintro e w3 ⟨rfl, hb3⟩
        have HB3 := Hid.mk' hb3
        clear hb3 HT
        go_wp2_with fail
        go_ret
        exact ⟨rfl, HB3.out⟩
      · have hb' : bitB t = false := by simpa using hb
        rw [show dwE z n t = 1 by unfold dwE; rw [if_pos h0, if_neg h4, if_neg hb], errV_1s]
        have HT := Hid.mk' (trim_other t w (by omega) hb')
        have HE := Hid.mk' (fun (W : World) (hb : Below w.heap.size w W) => (hE.below hb).c0)
        clear hE h hb hb'
        go_enter Tryd.func24, Tryd.ntmps24
        go_wp2_with fail
        refine hV.mono ?_
        rintro e w2 ⟨rfl, hw2⟩
        rw [hw2]
        clear hw2 hV
        go_wp2_with fail
        refine HT.out.mono ?_
        rintro e w3 ⟨u, rfl, hu, hb3⟩
        have g0 := HE.out w3 hb3
        have HB3 := Hid.mk' hb3
        clear hb3 HT
        go_wp2_with fail
        go_ret
        exact ⟨rfl, HB3.out⟩
  · rw [show dwE z n t = weightsErr z n by unfold dwE; rw [if_neg h0]]
    rw [errV_pos a h0] at hV ⊢
    clear hE h
    go_enter Tryd.func24, Tryd.ntmps24
    go_wp2_with fail
    refine hV.mono ?_
    rintro e w2 ⟨rfl, hw2⟩
    rw [hw2]
    clear hw2 hV
    go_wp2_with fail
    go_ret
    exact ⟨rfl, Below.refl _ _⟩
theorem bits_of {t : ByteArray} (h : bitB t = true) : ∀ i (hi : i < t.size), (t[i]'hi) = 48 ∨ (t[i]'hi) = 49 := fun i hi => by
  have h1 := List.all_eq_true.1 h (t[i]'hi) (by
    rw [Array.mem_toList_iff]
    exact Array.getElem_mem hi)
  simpa using h1
theorem row_ofS {w : World} {v : Value} {n : Nat} {z : Nat → Int} (h : NumsAt w v n z) (h0 : 0 < n) : ∃ b o cap, v = .slice (some ⟨b, o, none⟩) n cap ∧ RowAt w b o n z := by
  rcases h with ⟨_, _, _, h1⟩ | ⟨b, o, cap, h1, _, h2⟩
  · omega
  · exact ⟨b, o, cap, h1, h2⟩
/-- What Draw gives. -/
def drawV (a : Nat → Addr) : Option (Nat × Nat) → Value
  | some (k, u) => .tuple #[.int .i64 (k : Int), .int .i64 (u : Int), .nilIface]
  | none => .tuple #[.int .i64 0, .int .i64 0, errV a 6]
set_option maxRecDepth 100000 in
set_option maxHeartbeats 4000000 in
theorem Draw_ok (a : Nat → Addr) (v : Value) (n S : Nat) (z : Nat → Int) (t : ByteArray) (w : World) (hE : Errs w a) (h : NumsAt w v n z) (hS : sumN z n = (S : Int)) (h0 : dwE z n t = 0) :
    Calls Tryd.prog 12 #[v, .string t] w fun e w' => (∃ r, e = .returned (drawV a r) ∧ Comes (xT z n S) n (dpT S) t.size (bitN t) 0 0 0 r) ∧ Below w.heap.size w w' := by
  have hw0 : weightsErr z n = 0 := by
    unfold dwE at h0
    split at h0
    · assumption
    · exact h0
  have ht : t.size ≤ 4000 ∧ bitB t = true := by
    unfold dwE at h0
    rw [if_pos hw0] at h0
    split at h0
    · cases h0
    · split at h0
      · next h1 h2 => exact ⟨by omega, h2⟩
      · cases h0
  obtain ⟨h16, hok⟩ := weightsErr_ok hw0
  obtain ⟨b, o, cap, rfl, hrow⟩ := row_ofS h hok.posN
  have hDE := drawError_any a _ n z t w hE h (by omega) (by omega)
  rw [h0, errV_zero] at hDE
  have hp := hok.pos
  have hl := hok.le
  have HLV := Hid.mk' (fun (W : World) (hb : Below w.heap.size w W) => leavesOf_any b o cap n S z W (hrow.later hb) hok hS h16)
  have hxs := xT_sum hok.nn hS
  have hxn : xT z n S n < 2 ^ dpT S := by
    unfold xT
    rw [if_neg (by omega)]
    have := Nat.two_pow_pos (dpT S)
    omega
  have hD := dpT_le (S := S) (by omega) (by omega)
  have HRD := Hid.mk' (fun (W : World) (u : Value) (p : Nat) (hu : LvsAt W u (xT z n S) n (dpT S)) (hp : p ≤ t.size) => readLeaf_any u (xT z n S) n (dpT S) p t W hu hxs hxn hD hp ht.1 (bits_of ht.2))
  have HE6 := Hid.mk' (fun (W : World) (hb : Below w.heap.size w W) => (hE.below hb).c5)
  have hts := ht.1
  clear hE h hrow hok hw0 h0 hS hxs hxn ht
  generalize xT z n S = x at *
  generalize dpT S = D at *
  go_enter Tryd.func12, Tryd.ntmps12
  go_wp2_with fail
  refine hDE.mono ?_
  rintro e w2 ⟨rfl, hb2⟩
  have HB2 := Hid.mk' hb2
  have HLV2 := Hid.mk' (HLV.out w2 hb2)
  clear hb2 hDE HLV
  go_wp2_with fail
  refine HLV2.out.mono ?_
  rintro e w3 ⟨u, vs, rfl, hu, hb3⟩
  obtain ⟨ua, uc, rfl⟩ := hu.form
  have HU : Hid (LvsAt w3 (.slice ua (D + 1) uc) x n D) := ⟨vs, hu⟩
  have HB3 := Hid.mk' (below_chain HB2.out hb3)
  clear hu hb3 HLV2
  go_wp2_with fail
  go_loopw [5] (fun q wr => ∃ p : Nat, p ≤ t.size ∧ q = .int .i64 p ∧ Hid (∀ r, Comes x n D t.size (bitN t) 0 0 p r → Comes x n D t.size (bitN t) 0 0 0 r) ∧ wr = w3) (fun q _ => t.size - (intOf q).toNat)
  case atStart => exact ⟨0, Nat.zero_le _, rfl, fun r h => h, rfl⟩
  case round =>
    obtain ⟨p, hp, rfl, HC, hwr⟩ := hrel
    rw [hwr]
    clear hwr
    have hpI : (p : Int) ≤ (t.size : Int) := by omega
    have hp0 : (0 : Int) ≤ (p : Int) := by omega
    have HR := Hid.mk' (HRD.out w3 _ p HU.out hp)
    have HE : Hid (t.extract p t.size = bhT t p) := rfl
    go_wp2_with fail
    rw [HE.out]
    refine HR.out.mono ?_
    rintro e w4 ⟨⟨lf, rd, ok, rfl, hno, hyes⟩, hw4⟩
    rw [hw4]
    clear hw4 HR HE
    cases ok with
    | false =>
      have HN := Hid.mk' (HC.out _ (hno rfl))
      have c5 := HE6.out _ HB3.out
      have c5d := HE6.out _ HB3.out.drew
      clear hno hyes HC
      go_wp2_with fail
      go_region
      all_goals
        go_wp2_with fail
        go_ret3
        exact ⟨⟨none, rfl, HN.out⟩, HB3.out.drew⟩
    | true =>
      obtain ⟨g1, g2, g3, g4⟩ := hyes rfl
      have HG3 : Hid (lf < n → Comes x n D t.size (bitN t) 0 0 p (some (lf, p + rd))) := g3
      have HG4 : Hid (lf = n → 0 < rd ∧ ∀ r, Comes x n D t.size (bitN t) 0 0 (p + rd) r → Comes x n D t.size (bitN t) 0 0 p r) := g4
      have g1I : (p : Int) + (rd : Int) ≤ 4000 := by omega
      have hrd0 : (0 : Int) ≤ (rd : Int) := by omega
      clear hno hyes g3 g4
      rcases Nat.lt_or_ge lf n with h5 | h5
      · have h5I : (lf : Int) < (n : Int) := by omega
        have HN := Hid.mk' (HC.out _ (HG3.out h5))
        clear HG3 HG4 HC
        go_wp2_with fail
        go_ret3
        exact ⟨⟨some (lf, p + rd), rfl, HN.out⟩, HB3.out⟩
      · have h5I : ¬ (lf : Int) < (n : Int) := by omega
        obtain ⟨hr0, hr1⟩ := HG4.out (by omega)
        have HN : Hid (∀ r, Comes x n D t.size (bitN t) 0 0 (p + rd) r → Comes x n D t.size (bitN t) 0 0 0 r) := fun r h => HC.out r (hr1 r h)
        clear HG3 HG4 HC hr1
        go_wp2_with fail
        exact ⟨⟨p + rd, g1, by rw [Int.natCast_add], HN, trivial⟩, by simp [intOf]; omega⟩
set_option maxRecDepth 100000 in
set_option maxHeartbeats 2000000 in
theorem Draw_bad (a : Nat → Addr) (v : Value) (n : Nat) (z : Nat → Int) (t : ByteArray) (w : World) (hE : Errs w a) (h : NumsAt w v n z) (hn : n ≤ 1000000) (ht : t.size ≤ 9223372036854775807) (h0 : dwE z n t ≠ 0) :
    Calls Tryd.prog 12 #[v, .string t] w fun e w' => e = .returned (.tuple #[.int .i64 0, .int .i64 0, errV a (dwE z n t)]) ∧ Below w.heap.size w w' := by
  have hDE := drawError_any a v n z t w hE h hn ht
  obtain ⟨ad, cap, rfl⟩ := h.form
  rw [errV_pos a h0] at hDE ⊢
  clear hE h
  go_enter Tryd.func12, Tryd.ntmps12
  go_wp2_with fail
  refine hDE.mono ?_
  rintro e w2 ⟨rfl, hb2⟩
  have HB2 := Hid.mk' hb2
  clear hb2 hDE
  go_wp2_with fail
  go_ret3
  exact ⟨rfl, HB2.out⟩
end Go.Proofs.YtdafknhbiffaoaaDoor

/- sample.Flips. -/
namespace Go.Proofs.YtdafknhbiffaoaaDoor
open Go.RowKit

/-- What all rounds read at the first k depths. -/
def flT (x : Nat → Nat) (n D : Nat) : Nat → Nat
  | 0 => 0
  | k + 1 => flT x n D k + k * ((lvs x (D - k) (n + 1)).length * 2 ^ (D - k))
theorem leaf_part (x : Nat → Nat) (k m : Nat) : (lvs x k m).length * 2 ^ k ≤ sumX x m := by
  have h1 := lowS_succ x k m
  have h2 := lowS_le x (k + 1) m
  omega
theorem flT_le {x : Nat → Nat} {n D : Nat} (h : sumX x (n + 1) ≤ 4096) : ∀ k, k ≤ 13 → flT x n D k ≤ k * 49152
  | 0, _ => Nat.le_refl _
  | k + 1, hk => by
    have h1 := flT_le (D := D) h k (by omega)
    have h2 := leaf_part x (D - k) (n + 1)
    have h3 : k * ((lvs x (D - k) (n + 1)).length * 2 ^ (D - k)) ≤ 12 * 4096 := Nat.mul_le_mul (by omega) (by omega)
    rw [flT, Nat.add_mul]
    omega
theorem put_twoS {W : World} {b : Nat} {x0 x1 : Value} (y0 y1 : Value) (h0 : W.cell? ⟨b, 0, none⟩ = some x0) (h1 : W.cell? ⟨b, 1, none⟩ = some x1) :
    (W.setCell ⟨b, 0, none⟩ y0).cell? ⟨b, 1, none⟩ = some x1 ∧ ((W.setCell ⟨b, 0, none⟩ y0).setCell ⟨b, 1, none⟩ y1).cell? ⟨b, 0, none⟩ = some y0 ∧ ((W.setCell ⟨b, 0, none⟩ y0).setCell ⟨b, 1, none⟩ y1).cell? ⟨b, 1, none⟩ = some y1 := by
  have e1 : (W.setCell ⟨b, 0, none⟩ y0).cell? ⟨b, 1, none⟩ = some x1 := by rw [put_cell _ h0, if_neg (by simp)]; exact h1
  have e0 : (W.setCell ⟨b, 0, none⟩ y0).cell? ⟨b, 0, none⟩ = some y0 := by rw [put_cell _ h0, if_pos rfl]
  exact ⟨e1, by rw [put_cell _ e1, if_neg (by simp)]; exact e0, by rw [put_cell _ e1, if_pos rfl]⟩
/-- What Flips gives. -/
def flipsV (R S : Nat) : Value := .agg #[.int .i64 ((R / Nat.gcd R S : Nat) : Int), .int .i64 ((S / Nat.gcd R S : Nat) : Int)]
set_option maxRecDepth 100000 in
set_option maxHeartbeats 4000000 in
theorem Flips_ok (a : Nat → Addr) (v : Value) (n S : Nat) (z : Nat → Int) (w : World) (hE : Errs w a) (h : NumsAt w v n z) (hS : sumN z n = (S : Int)) (hw0 : weightsErr z n = 0) :
    Calls Tryd.prog 6 #[v] w fun e w' => e = .returned (.tuple #[flipsV (flT (xT z n S) n (dpT S) (dpT S + 1)) S, .nilIface]) ∧ Below w.heap.size w w' := by
  obtain ⟨h16, hok⟩ := weightsErr_ok hw0
  obtain ⟨b, o, cap, rfl, hrow⟩ := row_ofS h hok.posN
  have hp := hok.pos
  have hl := hok.le
  obtain ⟨W0, hW0⟩ : ∃ W0, W0 = w.alloc (.cells #[.int .i64 0, .int .i64 0] 26) := ⟨_, rfl⟩
  have hb0 : Below w.heap.size w W0 := by rw [hW0]; exact (Below.refl _ _).alloc (Nat.le_refl _) _
  have c0 : W0.cell? ⟨w.heap.size, 0, none⟩ = some (.int .i64 0) := by rw [hW0]; simp
  have c1 : W0.cell? ⟨w.heap.size, 1, none⟩ = some (.int .i64 0) := by rw [hW0]; simp
  have f0 : W0.frozen? ⟨w.heap.size, 0, none⟩ = false := by rw [hW0]; simp
  have f1 : W0.frozen? ⟨w.heap.size, 1, none⟩ = false := by rw [hW0]; simp
  have HC : Hid (∀ W, Below W0.heap.size W0 W → (W.cell? ⟨w.heap.size, 0, none⟩ = some (.int .i64 0) ∧ W.cell? ⟨w.heap.size, 1, none⟩ = some (.int .i64 0)) ∧ W.frozen? ⟨w.heap.size, 0, none⟩ = false ∧ W.frozen? ⟨w.heap.size, 1, none⟩ = false) := fun W hb => ⟨⟨by rw [hb.cell (cell_lt c0)]; exact c0, by rw [hb.cell (cell_lt c1)]; exact c1⟩, by rw [hb.frozen (show w.heap.size < W0.heap.size from cell_lt c0)]; exact f0, by rw [hb.frozen (show w.heap.size < W0.heap.size from cell_lt c0)]; exact f1⟩
  have HEND : Hid (∀ W, Below W0.heap.size W0 W → Below w.heap.size w W) := fun W hb => hb0.trans (hb.mono hb0.size)
  have HV := Hid.mk' (Valid_weights a _ n z W0 (hE.below hb0) (h.later hb0) (by omega))
  rw [hw0, errV_zero] at HV
  have HLV := Hid.mk' (leavesOf_any b o cap n S z W0 (hrow.later hb0) hok hS h16)
  have HTO := Hid.mk' (fun (W : World) (hb : Below W0.heap.size W0 W) => by
    have h9 := total_some b o cap n z W ((hrow.later hb0).later hb) (fun k hk => by have := hok.part hk; omega) (fun k hk => by have := hok.lt hk; omega) (by omega)
    rw [hS] at h9
    exact h9)
  have hxs := xT_sum hok.nn hS
  have hP := dpT_pow (S := S) (by omega) (by omega)
  have HFL := Hid.mk' (fun k hk => flT_le (x := xT z n S) (n := n) (D := dpT S) (by omega) k hk)
  have HLP := Hid.mk' (fun k => leaf_part (xT z n S) k (n + 1))
  rw [hxs] at HLP
  have HPP := Hid.mk' hP
  have HD := Hid.mk' (dpT_le (S := S) (by omega) (by omega))
  have hS0 : 1 ≤ S := by omega
  have hS4 : S ≤ 4096 := by omega
  have HLO := Hid.mk' (fun (W : World) (R : Nat) (hR : R ≤ 1000000) => lowest_any (R : Int) S W (by omega) (by omega) hS0 (by omega) (Nat.gcd R S) rfl)
  have HTD : Hid (∀ R : Nat, ((R : Int).tdiv ((Nat.gcd R S : Nat) : Int)) = ((R / Nat.gcd R S : Nat) : Int)) := fun R => rfl
  have HFE : Hid (∀ k, flT (xT z n S) n (dpT S) (k + 1) = flT (xT z n S) n (dpT S) k + k * ((lvs (xT z n S) (dpT S - k) (n + 1)).length * 2 ^ (dpT S - k))) := fun k => rfl
  have HF0 : Hid (flT (xT z n S) n (dpT S) 0 = 0) := rfl
  have HW0 := Hid.mk' hW0
  clear hE h hrow hok hw0 hS hxs hb0 hW0 hP hp hl c0 c1 f0 f1
  generalize xT z n S = x at *
  generalize dpT S = D at *
  generalize flT x n D = fl at *
  have hD := HD.out
  go_enter Tryd.func6, Tryd.ntmps6
  go_upto_region 1 with fail
  rw [← HW0.out]
  go_wp2_with fail
  refine HV.out.mono ?_
  rintro e w2 ⟨rfl, hw2⟩
  rw [hw2]
  clear hw2 HV
  go_wp2_with fail
  refine HLV.out.mono ?_
  rintro e w3 ⟨u, vs, rfl, hu, hb3⟩
  obtain ⟨bu, ou, cu, rfl, hrows⟩ : ∃ bu ou cu, u = .slice (some ⟨bu, ou, none⟩) (D + 1) cu ∧ ∀ d, d < D + 1 → w3.cell? ⟨bu, ou + d, none⟩ = some (vs d) ∧ ∃ ad cap, vs d = .slice ad (lvs x (D - d) (n + 1)).length cap := by
    rcases hu with ⟨_, _, _, h0⟩ | ⟨b', o', c', h1, _, h2⟩
    · omega
    · exact ⟨b', o', c', h1, fun d hd => ⟨(h2 d hd).1, (h2 d hd).2.form⟩⟩
  have HR := Hid.mk' hrows
  have HB3 := Hid.mk' hb3
  clear hu hrows hb3 HLV
  go_wp2_with fail
  go_loopw [6, 20] (fun r t wr => ∃ d : Nat, d ≤ D + 1 ∧ r = .int .i64 (fl d : Int) ∧ t = .int .i64 d ∧ wr = w3) (fun _ t _ => D + 1 - (intOf t).toNat)
  case atStart => exact ⟨0, Nat.zero_le _, by rw [HF0.out]; rfl, rfl, rfl⟩
  case round =>
    obtain ⟨d, hd, rfl, rfl, hwr⟩ := hrel
    rw [hwr]
    clear hwr
    have hd0 : (0 : Int) ≤ (d : Int) := by omega
    rcases Nat.lt_or_ge d (D + 1) with h1 | h1
    · have hdI : (d : Int) < (D : Int) + 1 := by omega
      obtain ⟨hc, ra, rc, hv⟩ := HR.out d h1
      rw [hv] at hc
      have HN := Hid.mk' (HFE.out d)
      have h13 := HFL.out d (by omega)
      have hk : (D : Int) - (d : Int) = ((D - d : Nat) : Int) := by omega
      have hlp := HLP.out (D - d)
      have hpp := HPP.out
      obtain ⟨q, hq⟩ : ∃ q, (lvs x (D - d) (n + 1)).length * 2 ^ (D - d) = q := ⟨_, rfl⟩
      rw [hq] at HN hlp
      have hl1 : (lvs x (D - d) (n + 1)).length * 1 ≤ (lvs x (D - d) (n + 1)).length * 2 ^ (D - d) := Nat.mul_le_mul_left _ (Nat.two_pow_pos _)
      have hqI : ((lvs x (D - d) (n + 1)).length : Int) * 2 ^ (D - d) = (q : Int) := by rw [← hq]; simp
      have hq4 : q ≤ 4096 := by omega
      have hdq : d * q ≤ 12 * 4096 := Nat.mul_le_mul (by omega) hq4
      have hdqI : (d : Int) * (q : Int) ≤ 49152 := by rw [show (d : Int) * (q : Int) = ((d * q : Nat) : Int) by simp]; omega
      have hdqJ : (0 : Int) ≤ (d : Int) * (q : Int) := by rw [show (d : Int) * (q : Int) = ((d * q : Nat) : Int) by simp]; omega
      have hfl : fl d ≤ 700000 := by omega
      clear hv hq hlp hpp hdq h13
      generalize (lvs x (D - d) (n + 1)).length = ll at *
      generalize D - d = k at *
      obtain ⟨y, hy⟩ : ∃ y, fl d = y := ⟨_, rfl⟩
      rw [hy] at HN hfl ⊢
      clear hy
      go_wp2_with fail
      exact ⟨⟨d + 1, h1, by rw [HN.out, Int.natCast_add, Int.natCast_mul], by go_num, trivial⟩, by simp [intOf]; omega⟩
    · obtain rfl : d = D + 1 := by omega
      have hdI : ¬ ((D : Int) + 1 < (D : Int) + 1) := by omega
      have hfl : fl (D + 1) ≤ 1000000 := by have := HFL.out (D + 1) (by omega); omega
      have HT3 := Hid.mk' (HTO.out w3 HB3.out)
      have HL3 := Hid.mk' (HLO.out w3 (fl (D + 1)) hfl)
      have HTR := Hid.mk' (HTD.out (fl (D + 1)))
      have HFV : Hid (flipsV (fl (D + 1)) S = .agg #[.int .i64 ((fl (D + 1) / Nat.gcd (fl (D + 1)) S : Nat) : Int), .int .i64 ((S / Nat.gcd (fl (D + 1)) S : Nat) : Int)]) := rfl
      rw [HTR.out] at HL3
      clear HTR HLO HFL HFE HTO HR
      generalize S / Nat.gcd (fl (D + 1)) S = q2 at *
      generalize fl (D + 1) / Nat.gcd (fl (D + 1)) S = q1 at *
      obtain ⟨R, hR⟩ : ∃ R, R = fl (D + 1) := ⟨_, rfl⟩
      rw [← hR] at HL3 ⊢
      have HRE := Hid.mk' hR
      clear hR
      go_wp2_with fail
      refine HT3.out.mono ?_
      rintro e w4 ⟨rfl, hw4⟩
      rw [hw4]
      clear hw4 HT3
      go_wp2_with fail
      refine HL3.out.mono ?_
      rintro e w5 ⟨rfl, hb5⟩
      obtain ⟨⟨d0, d1⟩, d2, d3⟩ := HC.out w5 (below_chain HB3.out hb5)
      have HG := Hid.mk' (put_twoS (.int .i64 (q1 : Int)) (.int .i64 (q2 : Int)) d0 d1)
      have HBE : Hid (Below w.heap.size w ((w5.setCell ⟨w.heap.size, 0, none⟩ (.int .i64 (q1 : Int))).setCell ⟨w.heap.size, 1, none⟩ (.int .i64 (q2 : Int)))) := ((HEND.out w5 (below_chain HB3.out hb5)).setCell (Nat.le_refl _) _).setCell (Nat.le_refl _) _
      obtain ⟨q0, _, _⟩ := HG.out
      clear hb5 HL3
      go_wp2_with fail
      generalize (w5.setCell ⟨w.heap.size, 0, none⟩ (.int .i64 (q1 : Int))).setCell ⟨w.heap.size, 1, none⟩ (.int .i64 (q2 : Int)) = W9 at *
      exact bodyPost_ret (v := .tuple #[.agg #[.int .i64 (q1 : Int), .int .i64 (q2 : Int)], .nilIface]) (by simp [results, Tryd.results6, go_sem, HG.out.2.1, HG.out.2.2]) rfl ⟨by rw [HFV.out], HBE.out⟩
set_option maxRecDepth 100000 in
set_option maxHeartbeats 2000000 in
theorem Flips_bad (a : Nat → Addr) (v : Value) (n : Nat) (z : Nat → Int) (w : World) (hE : Errs w a) (h : NumsAt w v n z) (hn : n ≤ 1000000) (h0 : weightsErr z n ≠ 0) :
    Calls Tryd.prog 6 #[v] w fun e w' => e = .returned (.tuple #[.agg #[.int .i64 0, .int .i64 0], errV a (weightsErr z n)]) ∧ Below w.heap.size w w' := by
  obtain ⟨W0, hW0⟩ : ∃ W0, W0 = w.alloc (.cells #[.int .i64 0, .int .i64 0] 26) := ⟨_, rfl⟩
  have hb0 : Below w.heap.size w W0 := by rw [hW0]; exact (Below.refl _ _).alloc (Nat.le_refl _) _
  have c0 : W0.cell? ⟨w.heap.size, 0, none⟩ = some (.int .i64 0) := by rw [hW0]; simp
  have c1 : W0.cell? ⟨w.heap.size, 1, none⟩ = some (.int .i64 0) := by rw [hW0]; simp
  have f0 : W0.frozen? ⟨w.heap.size, 0, none⟩ = false := by rw [hW0]; simp
  have f1 : W0.frozen? ⟨w.heap.size, 1, none⟩ = false := by rw [hW0]; simp
  have HV := Hid.mk' (Valid_weights a _ n z W0 (hE.below hb0) (h.later hb0) hn)
  obtain ⟨ad, cap, rfl⟩ := h.form
  rw [errV_pos a h0] at HV ⊢
  have HG := Hid.mk' (put_twoS (.int .i64 0) (.int .i64 0) c0 c1)
  have HBE : Hid (Below w.heap.size w ((W0.setCell ⟨w.heap.size, 0, none⟩ (.int .i64 0)).setCell ⟨w.heap.size, 1, none⟩ (.int .i64 0))) := (hb0.setCell (Nat.le_refl _) _).setCell (Nat.le_refl _) _
  obtain ⟨q0, _, _⟩ := HG.out
  have HW0 := Hid.mk' hW0
  clear hE h hb0 hW0
  go_enter Tryd.func6, Tryd.ntmps6
  go_upto_region 1 with fail
  rw [← HW0.out]
  go_wp2_with fail
  refine HV.out.mono ?_
  rintro e w2 ⟨rfl, hw2⟩
  rw [hw2]
  clear hw2 HV
  go_wp2_with fail
  generalize (W0.setCell ⟨w.heap.size, 0, none⟩ (.int .i64 0)).setCell ⟨w.heap.size, 1, none⟩ (.int .i64 0) = W9 at *
  exact bodyPost_ret (v := .tuple #[.agg #[.int .i64 0, .int .i64 0], .iface 136 (.pointer (some (a (weightsErr z n - 1))))]) (by simp [results, Tryd.results6, go_sem, HG.out.2.1, HG.out.2.2]) rfl ⟨rfl, HBE.out⟩
end Go.Proofs.YtdafknhbiffaoaaDoor

/- The document's tree: PowerAbove, LeavesAt, DrawOf. -/
namespace Go.Proofs.YtdafknhbiffaoaaDoor
open Go.RowKit

set_option maxRecDepth 100000 in
set_option maxHeartbeats 1000000 in
theorem PowerAbove_any (S : Nat) (w : World) (h0 : 0 < S) (h4 : S ≤ 4096) :
    Calls Tryd.prog 10 #[.int .i64 S] w fun e w' => e = .returned (.tuple #[.int .i64 ((2 ^ dpT S : Nat) : Int), .int .i64 (dpT S : Int)]) ∧ w' = w := by
  have HG := Hid.mk' (dpT_ge S)
  have HL : Hid (∀ k, k < dpT S → 2 ^ k < S) := fun k hk => dpT_lt hk
  have HP := Hid.mk' (dpT_pow h4 h0)
  have HD := Hid.mk' (dpT_le h4 h0)
  generalize dpT S = D at *
  go_enter Tryd.func10, Tryd.ntmps10
  go_wp2_with fail
  go_loop [4, 5] (fun p k => ∃ j : Nat, j ≤ D ∧ p = .int .i64 ((2 ^ j : Nat) : Int) ∧ k = .int .i64 j) (fun _ k => D - (intOf k).toNat)
  case atStart => exact ⟨0, Nat.zero_le _, rfl, rfl⟩
  case round =>
    obtain ⟨j, hj, rfl, rfl⟩ := hrel
    have hD := HD.out
    have hPj : 2 ^ j ≤ 4096 := Nat.le_trans (Nat.pow_le_pow_right (by decide) hj) HP.out
    rcases Nat.lt_or_ge j D with h1 | h1
    · have h2 := HL.out j h1
      have HN : Hid (2 ^ (j + 1) = 2 ^ j * 2) := Nat.pow_succ 2 j
      have h3 : ((2 ^ j : Nat) : Int) < (S : Int) := by omega
      generalize 2 ^ j = P at *
      go_wp2_with fail
      exact ⟨⟨j + 1, h1, by rw [HN.out]; go_num, by go_num⟩, by simp [intOf] <;> omega⟩
    · obtain rfl : j = D := by omega
      have h3 : ¬ ((2 ^ j : Nat) : Int) < (S : Int) := by have := HG.out; omega
      obtain ⟨P, hP⟩ : ∃ P, P = 2 ^ j := ⟨_, rfl⟩
      have HPP := Hid.mk' hP
      rw [← hP] at hPj h3 ⊢
      clear HL HG HP hP
      go_wp2_with fail
      go_ret2
      exact ⟨by rw [show ((2 : Int) ^ j) = (P : Int) by rw [HPP.out]; simp]; rfl, rfl⟩

theorem pow_halfS (D j : Nat) : 2 ^ D / 2 ^ j / 2 = 2 ^ D / 2 ^ (j + 1) := by rw [Nat.div_div_eq_div_mul, ← Nat.pow_succ]
theorem pow_leS (D j : Nat) : 2 ^ D / 2 ^ j ≤ 2 ^ D := Nat.div_le_self _ _
theorem pow_partS {D d : Nat} (h : d ≤ D) : 2 ^ D / 2 ^ d = 2 ^ (D - d) := by rw [Nat.pow_div h (by decide)]
theorem sum_partsS {z : Nat → Int} {n : Nat} (hok : OkW z n) : (∀ k, k ≤ n → -1000000 ≤ sumN z k ∧ sumN z k ≤ 1000000) ∧ ∀ i, i < n → -1000000 ≤ z i ∧ z i ≤ 1000000 :=
  ⟨fun k hk => by have := hok.part hk; omega, fun k hk => by have := hok.lt hk; omega⟩
end Go.Proofs.YtdafknhbiffaoaaDoor

/- The closed fact at the head of all Sample laws: of three even outcomes, two bits. -/
namespace Go.Proofs.YtdafknhbiffaoaaDoor
open Go.RowKit

def thZ (_ : Nat) : Int := 1
def thT : ByteArray := ⟨#[49, 49, 49, 48]⟩
theorem th_err : dwE thZ 3 thT = 0 := by decide +kernel
theorem th_comes : Comes (xT thZ 3 3) 3 (dpT 3) thT.size (bitN thT) 0 0 0 (some (2, 4)) := ⟨10, by decide +kernel⟩
set_option maxRecDepth 100000 in
set_option maxHeartbeats 2000000 in
theorem third_any (a : Nat → Addr) (w : World) (hE : Errs w a) :
    Calls Tryd.prog 4 #[] w fun e w' => e = .returned (.bool true) ∧ Below w.heap.size w w' := by
  obtain ⟨W0, hW0⟩ : ∃ W0, W0 = w.alloc (.cells #[.int .i64 1, .int .i64 1, .int .i64 1] 3) := ⟨_, rfl⟩
  have hb0 : Below w.heap.size w W0 := by rw [hW0]; exact (Below.refl _ _).alloc (Nat.le_refl _) _
  have hN : NumsAt W0 (.slice (some ⟨w.heap.size, 0, none⟩) 3 3) 3 thZ := by
    refine Or.inr ⟨_, 0, 3, rfl, by decide, fun i hi => ?_⟩
    rw [hW0]
    rcases (show i = 0 ∨ i = 1 ∨ i = 2 by omega) with rfl | rfl | rfl <;> go_simp <;> rfl
  have HA := Hid.mk' (Draw_ok a _ 3 3 thZ thT W0 (hE.below hb0) hN rfl th_err)
  have HB0 := Hid.mk' hb0
  have HW0 := Hid.mk' hW0
  clear hE hb0 hN hW0
  go_enter Tryd.func4, Tryd.ntmps4
  go_wp2_with fail
  rw [← HW0.out]
  refine HA.out.mono ?_
  rintro e w2 ⟨⟨r, rfl, hr⟩, hb2⟩
  obtain rfl := hr.same th_comes
  have HB2 := Hid.mk' (below_chain HB0.out hb2)
  clear hr hb2 HA
  unfold drawV
  go_wp2_with fail
  go_ret
  exact ⟨rfl, HB2.out⟩
end Go.Proofs.YtdafknhbiffaoaaDoor

/- dist.Entropy at any weights. -/
namespace Go.Proofs.YtdafknhbiffaoaaDoor
open Go.RowKit Go.Maps

theorem new_one {w w1 : World} {x : Value} {t : TypeId} (hb : Below (w.alloc (.cells #[x] t)).heap.size (w.alloc (.cells #[x] t)) w1) : w1.cell? ⟨w.heap.size, 0, none⟩ = some x := by
  have c0 : (w.alloc (.cells #[x] t)).cell? ⟨w.heap.size, 0, none⟩ = some x := by rw [World.cell?_alloc_at _ _ _ _ rfl]; rfl
  exact (cell_past c0 hb).2

set_option maxRecDepth 100000 in
theorem Entropy_parts (den : Int) (mb B b o cap n : Nat) (z : Nat → Int) (w : World) (hown : w.ownsMap Tryd.prog 3 (plainElem (H := Unit) Tryd.prog 3) mb 0 (mapOf [])) (hB : w.cell? ⟨B, 0, none⟩ = some (.slice (some ⟨b, o, none⟩) n cap)) (h : RowAt w b o n z) (hz : ∀ i, i < n → 0 ≤ z i) (hs : sumN z n ≤ 4096) (hn : n ≤ 256) :
    Calls Tryd.prog 19 #[putV den mb, .pointer (some ⟨B, 0, none⟩)] w fun e w' => e = .returned (.tuple #[]) ∧ ∃ l nn, Puts w w' mb (fun x => sumN (entV z (sumN z n).toNat x) n) (2 * n) [] 0 l nn := by
  have hp := putEntropy_some den mb 0 b o cap n z [] w hown List.Pairwise.nil (fun e he => by cases he) (fun x => by simp [atL]) (by omega) h hz hs hn
  clear hown h hz hs
  unfold putV at hp ⊢
  go_enter Tryd.func19, Tryd.ntmps19
  go_wp2_with fail
  refine hp.mono ?_
  clear hp
  rintro e w1 ⟨rfl, l, nn, hpt⟩
  have HP := Hid.mk' hpt
  clear hpt
  go_wp2_with fail
  go_end0
  exact ⟨rfl, l, nn, HP.out⟩

theorem ent_bound {z : Nat → Int} {n N : Nat} (hz : ∀ i, i < n → 0 ≤ z i ∧ z i ≤ 4096) (hN : N ≤ 4096) (hn : n ≤ 256) (x : Int) : -1000000000 ≤ sumN (entV z N x) n ∧ sumN (entV z N x) n ≤ 1000000000 := by
  have h3 := sumN_bound (f := entV z N x) (B := 200000) (n := n) (fun i hi => entV_le x (hz i hi) hN)
  have : (n : Int) * 200000 ≤ 51200000 := by omega
  omega

set_option maxRecDepth 100000 in
set_option maxHeartbeats 1000000 in
theorem Entropy_ok (a : Nat → Addr) (b o cap n N : Nat) (z : Nat → Int) (w : World) (hE : Errs w a) (h : RowAt w b o n z) (h0 : weightsErr z n = 0) (hN : sumN z n = N) (hz : ∀ i, i < n → 0 ≤ z i) (hn : n ≤ 16) (hN1 : 1 ≤ N) (hN6 : N ≤ 4096) (h0n : 0 < n) :
    Calls Tryd.prog 8 #[.slice (some ⟨b, o, none⟩) n cap] w fun e w' => ∃ dn v, e = .returned (.tuple #[.agg #[.int .i64 dn, v], .nilIface]) ∧ LogBy w.heap.size N (fun x => sumN (entV z N x) n) w' dn v ∧ Below w.heap.size w w' := by
  have hzi : ∀ i, i < n → 0 ≤ z i ∧ z i ≤ 4096 := fun i hi => ⟨hz i hi, by have := sumN_ge hz hi; omega⟩
  have hle : ∀ k, k ≤ n → 0 ≤ sumN z k ∧ sumN z k ≤ 4096 := fun k hk => ⟨sumN_nonneg (fun i hi => hz i (by omega)), by have := sumN_mono hz hk; omega⟩
  obtain ⟨W0, hW0⟩ : ∃ W0, W0 = (w.alloc (.cells #[.slice (some ⟨b, o, none⟩) n cap] 22)).alloc (.cells #[.int .i64 0, .slice none 0 0] 34) := ⟨_, rfl⟩
  have hb0 : Below w.heap.size w W0 := by rw [hW0]; exact below_chain (new_below _ _) (new_below _ _)
  have hbox : W0.cell? ⟨w.heap.size, 0, none⟩ = some (.slice (some ⟨b, o, none⟩) n cap) := by rw [hW0]; exact new_one (new_below _ _)
  have hres : ∀ W, Below W0.heap.size W0 W → W.cell? ⟨w.heap.size + 1, 0, none⟩ = some (.int .i64 0) ∧ W.cell? ⟨w.heap.size + 1, 1, none⟩ = some (.slice none 0 0) ∧ W.frozen? ⟨w.heap.size + 1, 0, none⟩ = false ∧ W.frozen? ⟨w.heap.size + 1, 1, none⟩ = false := fun W hb => by
    rw [hW0] at hb
    have := res_past hb
    simpa using this
  have hv := Valid_weights a (.slice (some ⟨b, o, none⟩) n cap) n z W0 (hE.below hb0) (Or.inr ⟨b, o, cap, rfl, h0n, h.later hb0⟩) (by omega)
  rw [h0] at hv
  have ht := total_some b o cap n z W0 (h.later hb0) (fun k hk => by have := hle k hk; omega) (fun i hi => by have := hzi i hi; omega) (by omega)
  rw [hN] at ht
  have hso := sumOver_any 19 #[.pointer (some ⟨w.heap.size, 0, none⟩)] N (2 * n) (fun x => sumN (entV z N x) n) W0 (enters_of Tryd.func19 (by kernel_rfl) rfl) hN1 hN6 (by omega) (fun x => ent_bound hzi hN6 (by omega) x)
    (fun W mb hb ho => by
      have := Entropy_parts N mb w.heap.size b o cap n z W ho (cell_past hbox hb).2 ((h.later hb0).later hb) hz (by omega) (by omega)
      rw [hN, Int.toNat_natCast] at this
      exact this)
  have HB0 := Hid.mk' hb0
  have HRES := Hid.mk' hres
  have HW0 := Hid.mk' hW0
  have hlt : w.heap.size + 1 < W0.heap.size := by rw [hW0]; simp
  have HLT := Hid.mk' hlt
  clear hE h hb0 hres hW0 hzi hle hz hN h0 hlt
  go_enter Tryd.func8, Tryd.ntmps8
  go_upto_region 1 with fail
  rw [← HW0.out]
  go_wp2_with fail
  refine hv.mono ?_
  clear hv
  rintro e w1 ⟨rfl, hw1⟩
  rw [hw1]
  clear hw1
  rw [errV_zero]
  go_wp2_with (first
    | (go_at_call 17; refine ht.mono ?_; rintro e w2 ⟨rfl, hw2⟩; rw [hw2]; clear hw2)
    | (go_at_call 18; refine hso.mono ?_; rintro e w3 ⟨dn, v, rfl, hlb, hb3⟩; obtain ⟨c0, c1, q0, q1⟩ := HRES.out w3 hb3; have HBW := Hid.mk' (below_chain HB0.out hb3); have HLB := Hid.mk' hlb; obtain ⟨ad, n', c', rfl⟩ := hlb.form; clear hlb))
  refine bodyPost_ret (v := .tuple #[.agg #[.int .i64 dn, .slice ad n' c'], .nilIface]) (by simp [results, Tryd.results8, go_sem, c0, c1]) rfl ⟨_, .slice ad n' c', rfl, (HLB.out.set HLT.out _ _).lower (by have := HLT.out; omega), ?_⟩
  exact (HBW.out.setCell (by simp) _).setCell (by simp) _

set_option maxRecDepth 100000 in
set_option maxHeartbeats 1000000 in
theorem Entropy_bad (a : Nat → Addr) (v : Value) (n : Nat) (z : Nat → Int) (w : World) (hE : Errs w a) (h : NumsAt w v n z) (hn : n ≤ 400) (h0 : weightsErr z n ≠ 0) :
    Calls Tryd.prog 8 #[v] w fun e w' => e = .returned (.tuple #[.agg #[.int .i64 0, .slice none 0 0], errV a (weightsErr z n)]) ∧ Below w.heap.size w w' := by
  obtain ⟨ad, cap, rfl⟩ := h.form
  obtain ⟨W0, hW0⟩ : ∃ W0, W0 = (w.alloc (.cells #[.slice ad n cap] 22)).alloc (.cells #[.int .i64 0, .slice none 0 0] 34) := ⟨_, rfl⟩
  have hb0 : Below w.heap.size w W0 := by rw [hW0]; exact below_chain (new_below _ _) (new_below _ _)
  have hbox : W0.cell? ⟨w.heap.size, 0, none⟩ = some (.slice ad n cap) := by rw [hW0]; exact new_one (new_below _ _)
  have hres : W0.cell? ⟨w.heap.size + 1, 0, none⟩ = some (.int .i64 0) ∧ W0.cell? ⟨w.heap.size + 1, 1, none⟩ = some (.slice none 0 0) ∧ W0.frozen? ⟨w.heap.size + 1, 0, none⟩ = false ∧ W0.frozen? ⟨w.heap.size + 1, 1, none⟩ = false := by
    rw [hW0]
    simp
  have hv := Valid_weights a (.slice ad n cap) n z W0 (hE.below hb0) (h.later hb0) (by omega)
  rw [errV_pos a h0] at hv ⊢
  generalize a (weightsErr z n - 1) = ea at hv ⊢
  obtain ⟨c0, c1, q0, q1⟩ := hres
  have HB0 := Hid.mk' hb0
  have HW0 := Hid.mk' hW0
  clear hE h hb0 hW0 h0
  go_enter Tryd.func8, Tryd.ntmps8
  go_upto_region 1 with fail
  rw [← HW0.out]
  go_wp2_with (go_at_call 14; refine hv.mono ?_; rintro e w1 ⟨rfl, hw1⟩; rw [hw1]; clear hw1)
  refine bodyPost_ret (v := .tuple #[.agg #[.int .i64 0, .slice none 0 0], .iface 136 (.pointer (some ea))]) (by simp [results, Tryd.results8, go_sem, c0, c1]) rfl ⟨rfl, ?_⟩
  exact (HB0.out.setCell (by simp) _).setCell (by simp) _
end Go.Proofs.YtdafknhbiffaoaaDoor

/- GIBBS' inequality of tables. -/
namespace Go.Proofs.YtdafknhbiffaoaaDoor

theorem prod_le {f g : Nat → Nat} : ∀ {n : Nat}, (∀ i, i < n → f i ≤ g i) → prodA f n ≤ prodA g n
  | 0, _ => Nat.le_refl _
  | n + 1, h => Nat.mul_le_mul (prod_le fun i hi => h i (by omega)) (h n (by omega))
theorem prod_mul (f g : Nat → Nat) : ∀ n, prodA (fun i => f i * g i) n = prodA f n * prodA g n
  | 0 => rfl
  | n + 1 => by
    simp only [prodA]
    rw [prod_mul f g n]
    grind
theorem prod_congr {f g : Nat → Nat} : ∀ {n : Nat}, (∀ i, i < n → f i = g i) → prodA f n = prodA g n
  | 0, _ => rfl
  | n + 1, h => by
    simp only [prodA]
    rw [prod_congr (n := n) (fun i hi => h i (by omega)), h n (by omega)]
theorem sumA_congr {f g : Nat → Nat} : ∀ {n : Nat}, (∀ i, i < n → f i = g i) → sumA f n = sumA g n
  | 0, _ => rfl
  | n + 1, h => by
    simp only [sumA]
    rw [sumA_congr (n := n) (fun i hi => h i (by omega)), h n (by omega)]
theorem sumA_ge (f : Nat → Nat) : ∀ {n i : Nat}, i < n → f i ≤ sumA f n
  | 0, _, h => by omega
  | n + 1, i, h => by
    simp only [sumA]
    rcases Nat.lt_or_ge i n with h1 | h1
    · have := sumA_ge f h1
      omega
    · obtain rfl : i = n := by omega
      omega
theorem sumA_mul (k : Nat) (f : Nat → Nat) : ∀ n, sumA (fun i => k * f i) n = k * sumA f n
  | 0 => rfl
  | n + 1 => by
    simp only [sumA]
    rw [sumA_mul k f n]
    grind
theorem sumA_add (f g : Nat → Nat) : ∀ n, sumA (fun i => f i + g i) n = sumA f n + sumA g n
  | 0 => rfl
  | n + 1 => by
    simp only [sumA]
    rw [sumA_add f g n]
    omega
theorem sumA_swap (F : Nat → Nat → Nat) (C : Nat) : ∀ R, sumA (fun i => sumA (fun j => F i j) C) R = sumA (fun j => sumA (fun i => F i j) R) C
  | 0 => by
    simp only [sumA]
    have : ∀ n, sumA (fun _ => 0) n = 0 := by
      intro n
      induction n with
      | zero => rfl
      | succ n ih => simp only [sumA]; omega
    rw [this]
  | R + 1 => by
    simp only [sumA]
    rw [sumA_swap F C R, ← sumA_add]
/-- The sum of logarithms, of tables. -/
theorem sums2_le (a b : Nat → Nat → Nat) (C R : Nat) :
    sumA (fun i => sumA (a i) C) R ^ sumA (fun i => sumA (a i) C) R * prodA (fun i => prodA (fun j => b i j ^ a i j) C) R ≤ sumA (fun i => sumA (b i) C) R ^ sumA (fun i => sumA (a i) C) R * prodA (fun i => prodA (fun j => a i j ^ a i j) C) R := by
  have h1 := prod_le (n := R) (fun i _ => sums_le (a i) (b i) C)
  rw [prod_mul, prod_mul] at h1
  have h2 := sums_le (fun i => sumA (a i) C) (fun i => sumA (b i) C) R
  have hX : 0 < prodA (fun i => sumA (a i) C ^ sumA (a i) C) R := prod_pos fun i _ => self_pos _
  refine Nat.le_of_mul_le_mul_right (c := prodA (fun i => sumA (a i) C ^ sumA (a i) C) R) ?_ hX
  have h3 := Nat.mul_le_mul_left (sumA (fun i => sumA (a i) C) R ^ sumA (fun i => sumA (a i) C) R) h1
  have h4 := Nat.mul_le_mul_right (prodA (fun i => prodA (fun j => a i j ^ a i j) C) R) h2
  generalize sumA (fun i => sumA (a i) C) R ^ sumA (fun i => sumA (a i) C) R = A at *
  generalize sumA (fun i => sumA (b i) C) R ^ sumA (fun i => sumA (a i) C) R = B at *
  generalize prodA (fun i => sumA (a i) C ^ sumA (a i) C) R = X at *
  generalize prodA (fun i => sumA (b i) C ^ sumA (a i) C) R = Y at *
  generalize prodA (fun i => prodA (fun j => b i j ^ a i j) C) R = L at *
  generalize prodA (fun i => prodA (fun j => a i j ^ a i j) C) R = Q at *
  grind
/-- What rows and columns tell of each other is not below 0. -/
theorem told_le (a : Nat → Nat → Nat) (C R N : Nat) (hN : N = sumA (fun i => sumA (a i) C) R) (hN0 : 0 < N) :
    prodA (fun i => prodA (fun j => (sumA (a i) C * sumA (fun k => a k j) R) ^ a i j) C) R ≤ N ^ N * prodA (fun i => prodA (fun j => a i j ^ a i j) C) R := by
  have h := sums2_le a (fun i j => sumA (a i) C * sumA (fun k => a k j) R) C R
  have e1 : sumA (fun j => sumA (fun k => a k j) R) C = N := by rw [hN, sumA_swap]
  have e2 : sumA (fun i => sumA (fun j => sumA (a i) C * sumA (fun k => a k j) R) C) R = N * N := by
    have : sumA (fun i => sumA (fun j => sumA (a i) C * sumA (fun k => a k j) R) C) R = sumA (fun i => N * sumA (a i) C) R := sumA_congr fun i _ => by rw [sumA_mul, e1, Nat.mul_comm]
    rw [this, sumA_mul, ← hN]
  rw [e2, ← hN, Nat.mul_pow] at h
  refine Nat.le_of_mul_le_mul_left (c := N ^ N) ?_ (Nat.pow_pos hN0)
  generalize prodA (fun i => prodA (fun j => (sumA (a i) C * sumA (fun k => a k j) R) ^ a i j) C) R = L at *
  generalize prodA (fun i => prodA (fun j => a i j ^ a i j) C) R = Q at *
  generalize N ^ N = Z at *
  grind
end Go.Proofs.YtdafknhbiffaoaaDoor

/- The document's TableError; the law's copies of tables. -/
namespace Go.Proofs.YtdafknhbiffaoaaDoor
open Go.RowKit

theorem tabErr_many {R : Nat} {ns : Nat → Nat} {zs : Nat → Nat → Int} (h : 16 < R) : tabErr R ns zs = 2 := by unfold tabErr; exact if_pos h
theorem tabErr_long {R : Nat} {ns : Nat → Nat} {zs : Nat → Nat → Int} (h : ¬ 16 < R) (hl : longB ns R = true) : tabErr R ns zs = 2 := by unfold tabErr; rw [if_neg h, if_pos hl]
theorem tabErr_uneven {R : Nat} {ns : Nat → Nat} {zs : Nat → Nat → Int} (h : ¬ 16 < R) (hl : longB ns R = false) (hu : unevenB ns R = true) : tabErr R ns zs = 3 := by unfold tabErr; rw [if_neg h, if_neg (by rw [hl]; simp), if_pos hu]
theorem tabErr_even {R : Nat} {ns : Nat → Nat} {zs : Nat → Nat → Int} (h : ¬ 16 < R) (hl : longB ns R = false) (hu : unevenB ns R = false) : tabErr R ns zs = listErr (atF (flatL ns zs R)) (flatL ns zs R).length := by unfold tabErr; rw [if_neg h, if_neg (by rw [hl]; simp), if_neg (by rw [hu]; simp)]
theorem not_long {ns : Nat → Nat} : ∀ {n : Nat}, longB ns n = false → ∀ i, i < n → ns i ≤ 16
  | n, h, i, hi => by
    rcases Nat.lt_or_ge 16 (ns i) with h' | h'
    · rw [longB_mono hi h'] at h; cases h
    · exact h'
theorem sumT_le {ns : Nat → Nat} {B : Nat} : ∀ {n : Nat}, (∀ i, i < n → ns i ≤ B) → sumT ns n ≤ n * B
  | 0, _ => Nat.zero_le _
  | n + 1, h => by
    have h1 := sumT_le (ns := ns) (B := B) (n := n) (fun i hi => h i (by omega))
    have h2 := h n (by omega)
    show sumT ns n + ns n ≤ (n + 1) * B
    rw [Nat.add_mul]; omega
theorem sumT_small {ns : Nat → Nat} {R : Nat} (hR : ¬ 16 < R) (hl : longB ns R = false) : sumT ns R ≤ 256 := by
  have h1 := sumT_le (ns := ns) (B := 16) (not_long hl)
  have h2 : R * 16 ≤ 16 * 16 := Nat.mul_le_mul_right _ (by omega)
  omega

end Go.Proofs.YtdafknhbiffaoaaDoor

/- The law's copies of tables; the program's list of a table's weights. -/
namespace Go.Proofs.YtdafknhbiffaoaaDoor
open Go.RowKit

def rowV (vs : Nat → Value) (k : Nat) : List Value := (List.range k).map vs
theorem rowV_length (vs : Nat → Value) (k : Nat) : (rowV vs k).length = k := by simp [rowV]
theorem rowV_push (vs : Nat → Value) (k : Nat) (v : Value) : rowV vs k ++ [v] = rowV (fun i => if i = k then v else vs i) (k + 1) := by
  unfold rowV
  rw [List.range_succ, List.map_append]
  congr 1
  · refine List.map_congr_left (fun i hi => ?_)
    have := List.mem_range.1 hi
    rw [if_neg (by omega)]
  · simp
theorem tabAt_of_row {w : World} {base : Nat} {t : TypeId} {v : Value} {R : Nat} {vs : Nat → Value} {ns : Nat → Nat} {zs : Nat → Nat → Int} (h : w.ownsRow base t 1 v R (rowV vs R)) (hn : ∀ i, i < R → NumsAt w (vs i) (ns i) (zs i)) : TabAt w v R vs ns zs := by
  rcases h.2 with ⟨hv, h0⟩ | ⟨g, cap, cur, hv, _, hh, _, _, hs, ht⟩
  · exact Or.inl ⟨none, 0, hv, h0⟩
  · rcases Nat.eq_zero_or_pos R with h0 | h0
    · exact Or.inl ⟨_, _, by rw [hv, h0], h0⟩
    · refine Or.inr ⟨g, 0, cap, hv, h0, fun i hi => ⟨?_, hn i hi⟩⟩
      have h1 : (rowV vs R)[i]? = some (vs i) := by simp [rowV, hi]
      rw [← h1, ← ht, List.getElem?_take_of_lt (by omega)]
      simp [World.cell?, hh]
end Go.Proofs.YtdafknhbiffaoaaDoor

/- dist.cells and dist.Table. -/
namespace Go.Proofs.YtdafknhbiffaoaaDoor
open Go.RowKit

end Go.Proofs.YtdafknhbiffaoaaDoor

/- The document's differences. -/
namespace Go.Proofs.YtdafknhbiffaoaaDoor
open Go.RowKit

/-- What is less than nothing by a part of M. -/
theorem low_minus {M : Nat} (hM : 0 < M) (z : Int) : (0 * (lowD M z : Int) + -lowN M z * (1 : Nat)).tdiv ((Nat.gcd (0 * (lowD M z : Int) + -lowN M z * (1 : Nat)).natAbs (1 * lowD M z) : Nat) : Int) = lowN M (-z) ∧ 1 * lowD M z / Nat.gcd (0 * (lowD M z : Int) + -lowN M z * (1 : Nat)).natAbs (1 * lowD M z) = lowD M (-z) := by
  refine low_same hM (by have := lowD_pos hM z; omega) ?_
  have h1 := low_cross hM z
  rw [Nat.one_mul]
  generalize lowN M z = a at *
  generalize (lowD M z : Int) = c at *
  simp only [Int.zero_mul, Int.zero_add, Int.natCast_one, Int.mul_one]
  rw [Int.neg_mul, h1, Int.neg_mul]
/-- A part of a part: n of M times x of n is x of M. -/
theorem low_times {M n : Nat} (hM : 0 < M) (hn : 0 < n) (x : Int) : (lowN M n * lowN n x).tdiv ((Nat.gcd (lowN M n * lowN n x).natAbs (lowD M n * lowD n x) : Nat) : Int) = lowN M x ∧ lowD M n * lowD n x / Nat.gcd (lowN M n * lowN n x).natAbs (lowD M n * lowD n x) = lowD M x := by
  refine low_same hM (Nat.mul_pos (lowD_pos hM n) (lowD_pos hn x)) ?_
  have h1 := low_cross hM (n : Int)
  have h2 := low_cross hn x
  rw [Int.natCast_mul]
  generalize lowN M n = a at *
  generalize lowN n x = b at *
  generalize (lowD M n : Int) = c at *
  generalize (lowD n x : Int) = e at *
  calc a * b * (M : Int) = (a * (M : Int)) * b := by rw [Int.mul_assoc, Int.mul_comm b, ← Int.mul_assoc]
    _ = (b * (n : Int)) * c := by rw [h1, Int.mul_comm (n : Int) c, Int.mul_assoc, Int.mul_comm c, Int.mul_comm (n : Int) b]
    _ = x * (c * e) := by rw [h2, Int.mul_assoc, Int.mul_comm e c]
theorem low_self {M : Nat} (hM : 0 < M) : lowN M M = 1 ∧ lowD M M = 1 := by
  have h := low_same (M := M) (d := 1) (z := (M : Int)) (n := 1) hM (by decide) (by simp)
  simpa using And.intro h.1.symm h.2.symm
end Go.Proofs.YtdafknhbiffaoaaDoor

/- The document's Entropy of a Wide, and EntropyOf. -/
namespace Go.Proofs.YtdafknhbiffaoaaDoor
open Go.RowKit

/-- A fraction in a box. -/
structure RBox (W0 W : World) (B : Nat) (n : Int) (d : Nat) : Prop where
  below : Below W0.heap.size W0 W
  hB : W0.heap.size ≤ B
  box : ∃ s ad l cap ad' l' cap', W.cell? ⟨B, 0, none⟩ = some (.bool s) ∧ W.cell? ⟨B, 1, none⟩ = some (.slice ad l cap) ∧ W.cell? ⟨B, 2, none⟩ = some (.slice ad' l' cap') ∧ RatioAt W (.agg #[.bool s, .slice ad l cap, .slice ad' l' cap']) n d
theorem rBox_soon {W0 W : World} {B : Nat} {n : Int} {d : Nat} {s : Bool} {ad ad' : Option Addr} {l cap l' cap' : Nat} (h : Below W0.heap.size W0 W) (hr : RatioAt W (.agg #[.bool s, .slice ad l cap, .slice ad' l' cap']) n d) (hn : NewBox3 W0 W B) : RBox W0 (((W.setCell ⟨B, 0, none⟩ (.bool s)).setCell ⟨B, 1, none⟩ (.slice ad l cap)).setCell ⟨B, 2, none⟩ (.slice ad' l' cap')) B n d := by
  refine ⟨below_set3 h hn.hB _ _ _, hn.hB, s, ad, l, cap, ad', l', cap', ?_, ?_, ?_, ?_⟩
  · rw [World.cell?_setCell_other _ _ _ _ (by simp), World.cell?_setCell_other _ _ _ _ (by simp)]; exact World.cell?_setCell_same _ _ _ hn.c0
  · rw [World.cell?_setCell_other _ _ _ _ (by simp)]; exact World.cell?_setCell_same _ _ _ (by rw [World.cell?_setCell_other _ _ _ _ (by simp)]; exact hn.c1)
  · exact World.cell?_setCell_same _ _ _ (by rw [World.cell?_setCell_other _ _ _ _ (by simp), World.cell?_setCell_other _ _ _ _ (by simp)]; exact hn.c2)
  · obtain ⟨u, q, hv, hu, hq⟩ := hr
    have hv' := hv
    simp only [Value.agg.injEq, Array.mk.injEq, List.cons.injEq, and_true] at hv'
    obtain ⟨_, rfl, rfl⟩ := hv'
    exact ⟨_, _, hv, hu.set3 hn.no hn.c0 hn.c1, hq.set3 hn.no hn.c0 hn.c1⟩
theorem low_lt {M : Nat} (hM : 0 < M) {z : Int} (hM6 : M ≤ 4096) (hz : -1000000 ≤ z ∧ z ≤ 1000000) : (lowN M z).natAbs < 1000000 ^ 3 ∧ lowD M z < 1000000 ^ 3 := by
  have p3 : (1000000 : Nat) ^ 3 = 1000000000000000000 := by decide
  have h1 := lowN_le hM z
  have h2 := lowD_le M z
  rw [p3]
  omega
end Go.Proofs.YtdafknhbiffaoaaDoor

/- The document's Entropy of a Wide. -/
namespace Go.Proofs.YtdafknhbiffaoaaDoor
open Go.RowKit

theorem RowAt.kept {w w' : World} {b o n : Nat} {z : Nat → Int} (h : RowAt w b o n z) (hk : IntsKept w w') : RowAt w' b o n z := fun i hi => hk _ _ (h i hi)

end Go.Proofs.YtdafknhbiffaoaaDoor

/- The document's Told of a sum that has a form; EntropyOf. -/
namespace Go.Proofs.YtdafknhbiffaoaaDoor
open Go.RowKit

theorem row_form {w : World} {base : Nat} {t : TypeId} {sz : Nat} {v : Value} {n : Nat} {xs : List Value} (h : w.ownsRow base t sz v n xs) : ∃ ad cap, v = .slice ad n cap := by
  rcases h.2 with ⟨rfl, h0⟩ | ⟨gg, cap', cur', rfl, _⟩
  · exact ⟨none, 0, by rw [h0]⟩
  · exact ⟨_, _, rfl⟩
end Go.Proofs.YtdafknhbiffaoaaDoor

/- The law's closed fact: of a fair coin the entropy is 1. -/
namespace Go.Proofs.YtdafknhbiffaoaaDoor
open Go.RowKit Go.Maps

theorem pr_two' : Pr 2 := (isPr_iff 2).1 (by decide)
theorem coin_val (x : Int) : sumN (entV (fun _ => 3) 6 x) 2 = atL [((2 : Int), (6 : Int))] x := by
  have h := multI_step x (n := 6) (d := 2) (by decide) pr_two' (by decide)
  have e : 6 / 2 = 3 := by decide
  rw [e] at h
  show 0 + (3 * multI x 6 - 3 * multI x (3 : Int).toNat) + (3 * multI x 6 - 3 * multI x (3 : Int).toNat) = if (2 : Int) = x then 6 else 0
  have e3 : (3 : Int).toNat = 3 := rfl
  rw [e3, h]
  rw [show ((2 : Nat) : Int) = 2 from rfl]
  by_cases hx : x = 2
  · subst hx; simp; omega
  · rw [if_neg hx, if_neg (fun e => hx e.symm)]; omega
theorem coin_list {base : Nat} {w : World} {dn : Int} {v : Value} (h : LogBy base 6 (fun x => sumN (entV (fun _ => 3) 6 x) 2) w dn v) : dn = 1 ∧ OwnAt w v 1 (fun _ => 2) (fun _ => 1) := by
  obtain ⟨l, hr, hv, _, hd, hl⟩ := h.list
  have he : ∀ x, atL l x = atL [((2 : Int), (6 : Int))] x := fun x => by rw [hv, coin_val]
  have hr' : Rising [((2 : Int), (6 : Int))] := List.pairwise_singleton _ _
  rw [gList_same hr hr' he, over_same hr hr' he] at hl
  rw [gList_same hr hr' he] at hd
  have e1 : overL (gList 6 (List.map Prod.snd [((2 : Int), (6 : Int))])) [((2 : Int), (6 : Int))] = [(2, 1)] := by decide
  rw [e1] at hl
  refine ⟨by rw [hd]; decide, ?_⟩
  rcases hl with ⟨_, h0⟩ | ⟨g, cap, h1, h2⟩
  · cases h0
  · refine Or.inr ⟨g, cap, h1, fun k hk => ?_⟩
    obtain rfl : k = 0 := by omega
    exact h2 0 (by decide)

end Go.Proofs.YtdafknhbiffaoaaDoor

/- isLog at errors. -/
namespace Go.Proofs.YtdafknhbiffaoaaDoor
open Go.RowKit

/-- A result's box behind calls. -/
theorem box_past2 {w w1 : World} {x y : Value} {t : TypeId} (hb : Below (w.alloc (.cells #[x, y] t)).heap.size (w.alloc (.cells #[x, y] t)) w1) : w1.cell? ⟨w.heap.size, 0, none⟩ = some x ∧ w1.cell? ⟨w.heap.size, 1, none⟩ = some y ∧ w1.frozen? ⟨w.heap.size, 0, none⟩ = false ∧ w1.frozen? ⟨w.heap.size, 1, none⟩ = false := res_past hb

end Go.Proofs.YtdafknhbiffaoaaDoor

/- dist.Joint; the law DistJoint. -/
namespace Go.Proofs.YtdafknhbiffaoaaDoor
open Go.RowKit Go.Maps

theorem tabErr_ok {R : Nat} {ns : Nat → Nat} {zs : Nat → Nat → Int} (h : tabErr R ns zs = 0) : R ≤ 16 ∧ longB ns R = false ∧ unevenB ns R = false ∧ OkW (atF (flatL ns zs R)) (flatL ns zs R).length ∧ (flatL ns zs R).length ≤ 256 := by
  unfold tabErr at h
  by_cases h1 : 16 < R
  · rw [if_pos h1] at h; cases h
  rw [if_neg h1] at h
  cases h2 : longB ns R with
  | true => rw [h2, if_pos rfl] at h; cases h
  | false =>
    rw [h2, if_neg (by simp)] at h
    cases h3 : unevenB ns R with
    | true => rw [h3, if_pos rfl] at h; cases h
    | false =>
      rw [h3, if_neg (by simp)] at h
      exact ⟨by omega, rfl, rfl, listErr_ok h, by rw [flatL_length]; exact sumT_small h1 h2⟩
theorem tabErr_le (R : Nat) (ns : Nat → Nat) (zs : Nat → Nat → Int) : tabErr R ns zs ≤ 3 := by
  unfold tabErr listErr
  repeat (split; omega)
  omega
theorem row_some {w : World} {base : Nat} {v : Value} {n : Nat} {l : List Int} (h : w.ownsRow base 3 1 v n (cellL l)) (hl : l.length = n) (h0 : 0 < n) : ∃ g cap, v = .slice (some ⟨g, 0, none⟩) n cap ∧ RowAt w g 0 n (atF l) := by
  subst hl
  rcases numsAt_row h with ⟨_, _, _, h1⟩ | ⟨b, o, cap, hv, _, hr⟩
  · omega
  · rcases h.2 with ⟨hv', _⟩ | ⟨g, cap', cur, hv', _⟩
    · rw [hv] at hv'; simp at hv'
    · rw [hv] at hv'
      simp only [Value.slice.injEq, Option.some.injEq, Addr.mk.injEq, and_true, true_and] at hv'
      obtain ⟨⟨rfl, rfl⟩, rfl⟩ := hv'
      exact ⟨b, cap, hv, hr⟩

end Go.Proofs.YtdafknhbiffaoaaDoor

/- Right tables: rows, columns, all. -/
namespace Go.Proofs.YtdafknhbiffaoaaDoor

def lsum : List Int → Int
  | [] => 0
  | x :: r => x + lsum r
theorem lsum_append : ∀ l r : List Int, lsum (l ++ r) = lsum l + lsum r
  | [], r => by simp [lsum]
  | x :: l, r => by simp only [List.cons_append, lsum, lsum_append l r]; omega
theorem lsum_row (z : Nat → Int) : ∀ n, lsum (rowL z n) = sumN z n
  | 0 => rfl
  | n + 1 => by
    have ih := lsum_row z n
    unfold rowL at ih ⊢
    rw [List.range_succ, List.map_append, lsum_append, ih]
    simp [lsum, sumN]
theorem rowL_atF (l : List Int) : rowL (atF l) l.length = l := by
  refine List.ext_getElem (by simp [rowL]) (fun i h1 h2 => ?_)
  simp [rowL, atF, List.getD, List.getElem?_eq_getElem h2]
theorem sumN_list (l : List Int) : sumN (atF l) l.length = lsum l := by rw [← lsum_row, rowL_atF]
/-- A function's sum over a list, as over its places. -/
theorem sumN_map (g : Int → Int) (l : List Int) : sumN (fun i => g (atF l i)) l.length = lsum (l.map g) := by
  have h : rowL (fun i => g (atF l i)) l.length = l.map g := by
    refine List.ext_getElem (by simp [rowL]) (fun i h1 h2 => ?_)
    have h3 : i < l.length := by simpa using h2
    simp [rowL, atF, List.getD, List.getElem?_eq_getElem h3]
  rw [← lsum_row, h]
theorem lsum_flat (g : Int → Int) (ns : Nat → Nat) (zs : Nat → Nat → Int) : ∀ k, lsum ((flatL ns zs k).map g) = sumN (fun i => sumN (fun j => g (zs i j)) (ns i)) k
  | 0 => rfl
  | k + 1 => by
    show lsum ((flatL ns zs k ++ rowL (zs k) (ns k)).map g) = _
    rw [List.map_append, lsum_append, lsum_flat g ns zs k]
    have : (rowL (zs k) (ns k)).map g = rowL (fun j => g (zs k j)) (ns k) := by simp [rowL]
    rw [this, lsum_row]
    rfl
theorem mem_flat {ns : Nat → Nat} {zs : Nat → Nat → Int} : ∀ {k i j : Nat}, i < k → j < ns i → zs i j ∈ flatL ns zs k
  | k + 1, i, j, hi, hj => by
    show zs i j ∈ flatL ns zs k ++ rowL (zs k) (ns k)
    rw [List.mem_append]
    rcases Nat.lt_or_ge i k with h | h
    · exact Or.inl (mem_flat h hj)
    · obtain rfl : i = k := by omega
      exact Or.inr (List.mem_map.2 ⟨j, List.mem_range.2 hj, rfl⟩)
/-- A right table. -/
structure OkT (R : Nat) (ns : Nat → Nat) (zs : Nat → Nat → Int) (N : Nat) : Prop where
  r0 : 0 < R
  r16 : R ≤ 16
  c0 : 0 < ns 0
  c16 : ns 0 ≤ 16
  even : ∀ i, i < R → ns i = ns 0
  nn : ∀ i, i < R → ∀ j, j < ns i → 0 ≤ zs i j
  tot : sumN (fun i => sumN (zs i) (ns i)) R = N
  n1 : 1 ≤ N
  n6 : N ≤ 4096
theorem not_uneven {ns : Nat → Nat} {n i : Nat} (h : unevenB ns n = false) (hi : i < n) : ns i = ns 0 := by
  by_cases h' : ns i = ns 0
  · exact h'
  · rw [unevenB_mono hi h'] at h; cases h
theorem okT_of {R : Nat} {ns : Nat → Nat} {zs : Nat → Nat → Int} (h1 : R ≤ 16) (h2 : longB ns R = false) (h3 : unevenB ns R = false) (h4 : OkW (atF (flatL ns zs R)) (flatL ns zs R).length) : ∃ N, OkT R ns zs N ∧ sumN (atF (flatL ns zs R)) (flatL ns zs R).length = N := by
  obtain ⟨N, hN⟩ := Int.eq_ofNat_of_zero_le (Int.le_of_lt h4.pos)
  have hp := h4.posN
  rw [flatL_length] at hp
  have hr0 : 0 < R := Nat.pos_of_ne_zero (fun e => by subst e; simp [sumT] at hp)
  have hc0 : 0 < ns 0 := Nat.pos_of_ne_zero (fun e => by
    have := sumT_le (ns := ns) (B := 0) (n := R) (fun i hi => by have := not_uneven h3 hi; omega)
    omega)
  have h5 := h4.pos
  have h6 := h4.le
  have hsum : sumN (atF (flatL ns zs R)) (flatL ns zs R).length = sumN (fun i => sumN (zs i) (ns i)) R := by
    rw [sumN_list]
    have := lsum_flat id ns zs R
    simpa using this
  refine ⟨N, ⟨hr0, h1, hc0, not_long h2 0 hr0, fun i hi => not_uneven h3 hi, fun i hi j hj => ?_, by rw [← hsum]; exact hN, by omega, by omega⟩, hN⟩
  obtain ⟨q, hq⟩ := List.getElem?_of_mem (mem_flat (zs := zs) hi hj)
  have hql : q < (flatL ns zs R).length := by
    rcases Nat.lt_or_ge q (flatL ns zs R).length with h' | h'
    · exact h'
    · rw [List.getElem?_eq_none h'] at hq; cases hq
  have := h4.nn q hql
  unfold atF at this
  rw [List.getD_eq_getElem?_getD, hq] at this
  exact this
theorem OkT.row {R : Nat} {ns : Nat → Nat} {zs : Nat → Nat → Int} {N : Nat} (h : OkT R ns zs N) {i : Nat} (hi : i < R) : 0 ≤ sumN (zs i) (ns i) ∧ sumN (zs i) (ns i) ≤ N := by
  have h1 := sumN_nonneg (h.nn i hi)
  have h2 := sumN_ge (z := fun i => sumN (zs i) (ns i)) (n := R) (fun k hk => sumN_nonneg (h.nn k hk)) hi
  rw [h.tot] at h2
  exact ⟨h1, h2⟩
theorem OkT.cell {R : Nat} {ns : Nat → Nat} {zs : Nat → Nat → Int} {N : Nat} (h : OkT R ns zs N) {i j : Nat} (hi : i < R) (hj : j < ns i) : 0 ≤ zs i j ∧ zs i j ≤ 4096 := by
  have h1 := h.nn i hi j hj
  have h2 := sumN_ge (h.nn i hi) hj
  have h3 := (h.row hi).2
  have h4 := h.n6
  exact ⟨h1, by omega⟩
theorem OkT.part {R : Nat} {ns : Nat → Nat} {zs : Nat → Nat → Int} {N : Nat} (h : OkT R ns zs N) {i k : Nat} (hi : i < R) (hk : k ≤ ns i) : 0 ≤ sumN (zs i) k ∧ sumN (zs i) k ≤ 4096 := by
  have h1 := sumN_nonneg (z := zs i) (n := k) (fun j hj => h.nn i hi j (by omega))
  have h2 := sumN_mono (h.nn i hi) hk
  have h3 := (h.row hi).2
  have h4 := h.n6
  exact ⟨h1, by omega⟩
def colV (zs : Nat → Nat → Int) (k j : Nat) : Int := sumN (fun i => zs i j) k
theorem OkT.col {R : Nat} {ns : Nat → Nat} {zs : Nat → Nat → Int} {N : Nat} (h : OkT R ns zs N) {k j : Nat} (hk : k ≤ R) (hj : j < ns 0) : 0 ≤ colV zs k j ∧ colV zs k j ≤ 4096 := by
  have h1 : 0 ≤ colV zs k j := sumN_nonneg (fun i hi => h.nn i (by omega) j (by rw [h.even i (by omega)]; exact hj))
  have h2 : colV zs k j ≤ sumN (fun i => sumN (zs i) (ns i)) k := sumN_le (fun i hi => sumN_ge (h.nn i (by omega)) (by rw [h.even i (by omega)]; exact hj))
  have h3 := sumN_mono (z := fun i => sumN (zs i) (ns i)) (k := k) (n := R) (fun i hi => sumN_nonneg (h.nn i hi)) hk
  have h4 := h.tot
  have h5 := h.n6
  exact ⟨h1, by omega⟩
end Go.Proofs.YtdafknhbiffaoaaDoor

/- Rows' and columns' sums: the document's and the program's. -/
namespace Go.Proofs.YtdafknhbiffaoaaDoor
open Go.RowKit

def rowSum (ns : Nat → Nat) (zs : Nat → Nat → Int) (i : Nat) : Int := sumN (zs i) (ns i)
/-- A right table's rows, as the walk reads them. -/
theorem tab_rows {w : World} {ad : Option Addr} {R cap : Nat} {vs : Nat → Value} {ns : Nat → Nat} {zs : Nat → Nat → Int} {N : Nat} (h : TabAt w (.slice ad R cap) R vs ns zs) (hk : OkT R ns zs N) : ∃ b o, ad = some ⟨b, o, none⟩ ∧ ∀ W, Below w.heap.size w W → ∀ i, i < R → ∃ b1 o1 cap1, W.cell? ⟨b, o + i, none⟩ = some (.slice (some ⟨b1, o1, none⟩) (ns 0) cap1) ∧ RowAt W b1 o1 (ns 0) (zs i) := by
  rcases h with ⟨_, _, _, h0⟩ | ⟨b, o, c, hv, _, hr⟩
  · have := hk.r0; omega
  · simp only [Value.slice.injEq, true_and] at hv
    obtain ⟨rfl, rfl⟩ := hv
    refine ⟨b, o, rfl, fun W hb i hi => ?_⟩
    obtain ⟨h1, h2⟩ := hr i hi
    have he := hk.even i hi
    have hc := hk.c0
    rcases h2.later hb with ⟨_, _, _, h3⟩ | ⟨b1, o1, c1, hv1, _, hr1⟩
    · omega
    · rw [he] at hv1 hr1
      exact ⟨b1, o1, c1, by rw [hb.cell (cell_lt h1), h1, hv1], hr1⟩

end Go.Proofs.YtdafknhbiffaoaaDoor

/- dist.columnSums, Rows, Columns. -/
namespace Go.Proofs.YtdafknhbiffaoaaDoor
open Go.RowKit

theorem tabErr_okT {R : Nat} {ns : Nat → Nat} {zs : Nat → Nat → Int} (h : tabErr R ns zs = 0) : ∃ N, OkT R ns zs N ∧ sumN (atF (flatL ns zs R)) (flatL ns zs R).length = N := by
  unfold tabErr at h
  by_cases h1 : 16 < R
  · rw [if_pos h1] at h; cases h
  rw [if_neg h1] at h
  cases h2 : longB ns R with
  | true => rw [h2, if_pos rfl] at h; cases h
  | false =>
    rw [h2, if_neg (by simp)] at h
    cases h3 : unevenB ns R with
    | true => rw [h3, if_pos rfl] at h; cases h
    | false =>
      rw [h3, if_neg (by simp)] at h
      exact okT_of (by omega) h2 h3 (listErr_ok h)

end Go.Proofs.YtdafknhbiffaoaaDoor

/- Cells beside a map. -/
namespace Go.Proofs.YtdafknhbiffaoaaDoor
open Go.RowKit Go.Maps

/-- A cell beside a map's block. -/
theorem cell_side {w w' : World} {mb nn B o : Nat} {v : Value} {D : DataW Unit} {k : TypeId} {R : Value → Option (DataW Unit × List MemPlace)} (hm : w.ownsMap Tryd.prog k R mb nn D) (hg : w.grownBy w' (some mb)) (hc : w.cell? ⟨B, o, none⟩ = some v) : w'.cell? ⟨B, o, none⟩ = some v := by
  refine cell_beside hg hc ?_
  rintro rfl
  rw [map_no_cell hm] at hc
  cases hc

end Go.Proofs.YtdafknhbiffaoaaDoor

/- dist.Mutual: what it puts. -/
namespace Go.Proofs.YtdafknhbiffaoaaDoor
open Go.RowKit Go.Maps

/-- What a cell puts. -/
def mutV (z : Nat → Int) (r : Int) (cv : Nat → Int) (N : Nat) (x : Int) (j : Nat) : Int := z j * multI x (z j).toNat + z j * multI x N + -(z j) * multI x r.toNat + -(z j) * multI x (cv j).toNat
theorem mutV_le {z cv : Nat → Int} {r : Int} {N j : Nat} (x : Int) (hz : 0 ≤ z j ∧ z j ≤ 4096) (hr : 0 ≤ r ∧ r ≤ 4096) (hc : 0 ≤ cv j ∧ cv j ≤ 4096) (hN : N ≤ 4096) : -400000 ≤ mutV z r cv N x j ∧ mutV z r cv N x j ≤ 400000 := by
  unfold mutV
  have h1 := mul_weight (t := z j) (by omega) (multI_small x (n := (z j).toNat) (by omega))
  have h2 := mul_weight (t := z j) (by omega) (multI_small x (n := N) (by omega))
  have h3 := mul_weight (t := -(z j)) (by omega) (multI_small x (n := r.toNat) (by omega))
  have h4 := mul_weight (t := -(z j)) (by omega) (multI_small x (n := (cv j).toNat) (by omega))
  omega
/-- A table's numbers with what its rows and columns hold together. -/
structure OkM (R C N : Nat) (zs : Nat → Nat → Int) (rv cv : Nat → Int) : Prop where
  r16 : R ≤ 16
  c16 : C ≤ 16
  n1 : 1 ≤ N
  n6 : N ≤ 4096
  z : ∀ i, i < R → ∀ j, j < C → 0 ≤ zs i j ∧ zs i j ≤ 4096
  r : ∀ i, i < R → 0 ≤ rv i ∧ rv i ≤ 4096
  c : ∀ j, j < C → 0 ≤ cv j ∧ cv j ≤ 4096
  zr : ∀ i, i < R → ∀ j, j < C → zs i j ≤ rv i ∧ zs i j ≤ cv j
theorem mutR_le {R C N : Nat} {zs : Nat → Nat → Int} {rv cv : Nat → Int} (h : OkM R C N zs rv cv) (x : Int) {i m : Nat} (hi : i < R) (hm : m ≤ C) : -6400000 ≤ sumN (mutV (zs i) (rv i) cv N x) m ∧ sumN (mutV (zs i) (rv i) cv N x) m ≤ 6400000 := by
  have h3 := sumN_bound (f := mutV (zs i) (rv i) cv N x) (B := 400000) (n := m) (fun j hj => mutV_le x (h.z i hi j (by omega)) (h.r i hi) (h.c j (by omega)) h.n6)
  have h5 := h.c16
  have : (m : Int) * 400000 ≤ 6400000 := by omega
  omega
theorem mutT_le {R C N : Nat} {zs : Nat → Nat → Int} {rv cv : Nat → Int} (h : OkM R C N zs rv cv) (x : Int) {k : Nat} (hk : k ≤ R) : -102400000 ≤ sumN (fun i => sumN (mutV (zs i) (rv i) cv N x) C) k ∧ sumN (fun i => sumN (mutV (zs i) (rv i) cv N x) C) k ≤ 102400000 := by
  have h3 := sumN_bound (f := fun i => sumN (mutV (zs i) (rv i) cv N x) C) (B := 6400000) (n := k) (fun i hi => mutR_le h x (by omega) (Nat.le_refl _))
  have h5 := h.r16
  have : (k : Int) * 6400000 ≤ 102400000 := by omega
  omega

end Go.Proofs.YtdafknhbiffaoaaDoor

/- dist.Mutual. -/
namespace Go.Proofs.YtdafknhbiffaoaaDoor
open Go.RowKit Go.Maps

theorem okM_of {R N : Nat} {ns : Nat → Nat} {zs : Nat → Nat → Int} (h : OkT R ns zs N) : OkM R (ns 0) N zs (rowSum ns zs) (colV zs R) :=
  ⟨h.r16, h.c16, h.n1, h.n6, fun i hi j hj => h.cell hi (by rw [h.even i hi]; exact hj), fun i hi => by have h1 := h.row hi; have h2 := h.n6; unfold rowSum; omega, fun j hj => h.col (Nat.le_refl _) hj,
    fun i hi j hj => ⟨sumN_ge (h.nn i hi) (by rw [h.even i hi]; exact hj), sumN_ge (z := fun i => zs i j) (fun i hi => h.nn i hi j (by rw [h.even i hi]; exact hj)) hi⟩⟩
/-- Two rows, and the boxes of their slices. -/
structure TwoRows (W0 W : World) (B1 B2 g1 c1 n1 : Nat) (z1 : Nat → Int) (g2 c2 n2 : Nat) (z2 : Nat → Int) : Prop where
  below : Below W0.heap.size W0 W
  b1 : W.cell? ⟨B1, 0, none⟩ = some (.slice (some ⟨g1, 0, none⟩) n1 c1)
  b2 : W.cell? ⟨B2, 0, none⟩ = some (.slice (some ⟨g2, 0, none⟩) n2 c2)
  r1 : RowAt W g1 0 n1 z1
  r2 : RowAt W g2 0 n2 z2
theorem TwoRows.later {W0 W W' : World} {B1 B2 g1 c1 n1 g2 c2 n2 : Nat} {z1 z2 : Nat → Int} (h : TwoRows W0 W B1 B2 g1 c1 n1 z1 g2 c2 n2 z2) (hb : Below W.heap.size W W') : TwoRows W0 W' B1 B2 g1 c1 n1 z1 g2 c2 n2 z2 :=
  ⟨below_chain h.below hb, (cell_past h.b1 hb).2, (cell_past h.b2 hb).2, h.r1.later hb, h.r2.later hb⟩
/-- A new box with nothing in it. -/
structure NewRow (W0 W : World) (B : Nat) : Prop where
  c0 : W.cell? ⟨B, 0, none⟩ = some (.slice none 0 0)
  f0 : W.frozen? ⟨B, 0, none⟩ = false
  hB : W0.heap.size ≤ B
theorem NewRow.later {W0 W W' : World} {B : Nat} (h : NewRow W0 W B) (hb : Below W.heap.size W W') : NewRow W0 W' B := ⟨(cell_past h.c0 hb).2, (frozen_past h.c0 h.f0 hb).2, h.hB⟩
theorem newRow_new {W0 W : World} (h : Below W0.heap.size W0 W) : NewRow W0 (W.alloc (.cells #[.slice none 0 0] 22)) W.heap.size := ⟨by simp, by simp, h.size⟩

theorem NewRow.al {W0 W : World} {B : Nat} (h : NewRow W0 W B) : (∀ X, (W.alloc X).cell? ⟨B, 0, none⟩ = some (.slice none 0 0)) ∧ ∀ X, (W.alloc X).frozen? ⟨B, 0, none⟩ = false := ⟨fun X => (h.later (new_below _ X)).c0, fun X => (h.later (new_below _ X)).f0⟩
theorem NewRow.ne {W0 W : World} {B : Nat} (h : NewRow W0 W B) : (¬ B = W.heap.size) ∧ ¬ W.heap.size = B := by
  have hz := cell_lt h.c0
  simp only at hz
  exact ⟨by omega, by omega⟩
theorem newRow_of {W0 w w' : World} (h : Below W0.heap.size W0 w) {X : Obj} (hX : X = .cells #[.slice none 0 0] 22) (hb : Below (w.alloc X).heap.size (w.alloc X) w') : NewRow W0 w' w.heap.size := by
  subst hX
  exact (newRow_new h).later hb
theorem newRow_of2 {W0 w w' : World} (h : Below W0.heap.size W0 w) {X Y : Obj} (hX : X = .cells #[.slice none 0 0] 22) (hY : Y = .cells #[.slice none 0 0] 22) (hb : Below ((w.alloc X).alloc Y).heap.size ((w.alloc X).alloc Y) w') : NewRow W0 w' w.heap.size ∧ NewRow W0 w' (w.heap.size + 1) := by
  subst hX
  subst hY
  have h2 := (newRow_new (more_below h (.cells #[.slice none 0 0] 22))).later hb
  rw [World.size_alloc] at h2
  exact ⟨((newRow_new h).later (new_below _ _)).later hb, h2⟩
theorem row_not_box {W0 w : World} {g n B : Nat} {z : Nat → Int} (h : RowAt w g 0 n z) (h0 : 0 < n) (nb : NewRow W0 w B) : g ≠ B := fun e => by
  have h1 := h 0 h0
  rw [e, show (0 : Nat) + 0 = 0 from rfl, nb.c0] at h1
  cases h1
theorem row_set {w : World} {g n B : Nat} {z : Nat → Int} {v : Value} (h : RowAt w g 0 n z) (hne : g ≠ B) : RowAt (w.setCell ⟨B, 0, none⟩ v) g 0 n z := fun i hi => by
  rw [World.cell?_setCell_other _ _ _ _ (by simp <;> omega)]
  exact h i hi
theorem twoRows_a {W0 w : World} {g1 c1 n1 g2 c2 n2 : Nat} {z1 z2 : Nat → Int} (hb : Below W0.heap.size W0 w) (r1 : RowAt w g1 0 n1 z1) (r2 : RowAt w g2 0 n2 z2) : TwoRows W0 ((w.alloc (.cells #[.slice (some ⟨g1, 0, none⟩) n1 c1] 22)).alloc (.cells #[.slice (some ⟨g2, 0, none⟩) n2 c2] 22)) w.heap.size (w.heap.size + 1) g1 c1 n1 z1 g2 c2 n2 z2 :=
  ⟨more_below (more_below hb _) _, new_one (new_below _ _), by rw [World.cell?_alloc_at _ _ _ _ (by simp)]; rfl, (r1.later (new_below _ _)).later (new_below _ _), (r2.later (new_below _ _)).later (new_below _ _)⟩
theorem twoRows_b {W0 w : World} {g1 c1 n1 g2 c2 n2 : Nat} {z1 z2 : Nat → Int} (hb : Below W0.heap.size W0 w) (r1 : RowAt w g1 0 n1 z1) (r2 : RowAt w g2 0 n2 z2) : TwoRows W0 ((w.alloc (.cells #[.slice (some ⟨g2, 0, none⟩) n2 c2] 22)).alloc (.cells #[.slice (some ⟨g1, 0, none⟩) n1 c1] 22)) (w.heap.size + 1) w.heap.size g1 c1 n1 z1 g2 c2 n2 z2 :=
  ⟨more_below (more_below hb _) _, by rw [World.cell?_alloc_at _ _ _ _ (by simp)]; rfl, new_one (new_below _ _), (r1.later (new_below _ _)).later (new_below _ _), (r2.later (new_below _ _)).later (new_below _ _)⟩
theorem twoRows_d {W0 w : World} {B : Nat} {g1 c1 n1 g2 c2 n2 : Nat} {z1 z2 : Nat → Int} (hb : Below W0.heap.size W0 w) (r1 : RowAt w g1 0 n1 z1) (r2 : RowAt w g2 0 n2 z2) (p1 : 0 < n1) (p2 : 0 < n2) (nb : NewRow W0 w B) : TwoRows W0 ((w.alloc (.cells #[.slice (some ⟨g1, 0, none⟩) n1 c1] 22)).setCell ⟨B, 0, none⟩ (.slice (some ⟨g2, 0, none⟩) n2 c2)) w.heap.size B g1 c1 n1 z1 g2 c2 n2 z2 := by
  have hn := nb.later (new_below w (.cells #[.slice (some ⟨g1, 0, none⟩) n1 c1] 22))
  refine ⟨(more_below hb _).setCell hn.hB _, ?_, World.cell?_setCell_same _ _ _ hn.c0, row_set (r1.later (new_below _ _)) (row_not_box r1 p1 nb), row_set (r2.later (new_below _ _)) (row_not_box r2 p2 nb)⟩
  have := nb.ne
  rw [World.cell?_setCell_other _ _ _ _ (by simp <;> omega), World.cell?_alloc_at _ _ _ _ (by simp)]
  rfl
theorem twoRows_e {W0 w : World} {B B' : Nat} {g1 c1 n1 g2 c2 n2 : Nat} {z1 z2 : Nat → Int} (hb : Below W0.heap.size W0 w) (r1 : RowAt w g1 0 n1 z1) (r2 : RowAt w g2 0 n2 z2) (p1 : 0 < n1) (p2 : 0 < n2) (nb : NewRow W0 w B) (nb' : NewRow W0 w B') (hne : B ≠ B') : TwoRows W0 ((w.setCell ⟨B, 0, none⟩ (.slice (some ⟨g1, 0, none⟩) n1 c1)).setCell ⟨B', 0, none⟩ (.slice (some ⟨g2, 0, none⟩) n2 c2)) B B' g1 c1 n1 z1 g2 c2 n2 z2 := by
  have h1 : (w.setCell ⟨B, 0, none⟩ (.slice (some ⟨g1, 0, none⟩) n1 c1)).cell? ⟨B', 0, none⟩ = some (.slice none 0 0) := by rw [World.cell?_setCell_other _ _ _ _ (by simp <;> omega)]; exact nb'.c0
  refine ⟨(hb.setCell nb.hB _).setCell nb'.hB _, ?_, World.cell?_setCell_same _ _ _ h1, row_set (row_set r1 (row_not_box r1 p1 nb)) (row_not_box r1 p1 nb'), row_set (row_set r2 (row_not_box r2 p2 nb)) (row_not_box r2 p2 nb')⟩
  rw [World.cell?_setCell_other _ _ _ _ (by simp <;> omega)]
  exact World.cell?_setCell_same _ _ _ nb.c0
theorem twoRows_c {W0 w : World} {B : Nat} {g1 c1 n1 g2 c2 n2 : Nat} {z1 z2 : Nat → Int} (hb : Below W0.heap.size W0 w) (r1 : RowAt w g1 0 n1 z1) (r2 : RowAt w g2 0 n2 z2) (p1 : 0 < n1) (p2 : 0 < n2) (nb : NewRow W0 w B) : TwoRows W0 (((w.alloc (.cells #[.slice none 0 0] 22)).setCell ⟨B, 0, none⟩ (.slice (some ⟨g1, 0, none⟩) n1 c1)).setCell ⟨w.heap.size, 0, none⟩ (.slice (some ⟨g2, 0, none⟩) n2 c2)) B w.heap.size g1 c1 n1 z1 g2 c2 n2 z2 :=
  twoRows_e (more_below hb _) (r1.later (new_below _ _)) (r2.later (new_below _ _)) p1 p2 (nb.later (new_below _ _)) (newRow_new hb) nb.ne.1

end Go.Proofs.YtdafknhbiffaoaaDoor

/- dist.Given. -/
namespace Go.Proofs.YtdafknhbiffaoaaDoor
open Go.RowKit Go.Maps

/-- What a row puts. -/
def givV (ns : Nat → Nat) (zs : Nat → Nat → Int) (x : Int) (i : Nat) : Int := sumN (entV (zs i) (sumN (zs i) (ns i)).toNat x) (ns i)
theorem givV_le {R N : Nat} {ns : Nat → Nat} {zs : Nat → Nat → Int} (h : OkT R ns zs N) (x : Int) {i : Nat} (hi : i < R) : -3200000 ≤ givV ns zs x i ∧ givV ns zs x i ≤ 3200000 := by
  have h1 := h.row hi
  have h2 := h.n6
  have h3 := sumN_bound (f := entV (zs i) (sumN (zs i) (ns i)).toNat x) (B := 200000) (n := ns i) (fun j hj => entV_le x (h.cell hi hj) (by omega))
  have h4 := h.even i hi
  have h5 := h.c16
  have : ((ns i : Nat) : Int) * 200000 ≤ 3200000 := by omega
  unfold givV
  omega

theorem giv_bound {R N : Nat} {ns : Nat → Nat} {zs : Nat → Nat → Int} (h : OkT R ns zs N) (x : Int) : -1000000000 ≤ sumN (givV ns zs x) R ∧ sumN (givV ns zs x) R ≤ 1000000000 := by
  have h3 := sumN_bound (f := givV ns zs x) (B := 3200000) (n := R) (fun i hi => givV_le h x hi)
  have h4 := h.r16
  have : (R : Int) * 3200000 ≤ 51200000 := by omega
  omega

end Go.Proofs.YtdafknhbiffaoaaDoor
