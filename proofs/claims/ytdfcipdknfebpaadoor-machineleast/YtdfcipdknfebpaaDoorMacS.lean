/- machine.split: a program and its parts. -/
import Derived.Test.YtdfcipdknfebpaaDoorMacT
namespace Go.Proofs.YtdfcipdknfebpaaDoor
open Go.RowKit

theorem two_newM (w : World) (x y : Value) (t : TypeId) (j : Nat) (u : Value) (h : [x, y][j]? = some u) : (w.alloc (.cells #[x, y] t)).cell? ((⟨w.heap.size, 0, none⟩ : Addr).add j) = some u := by
  rw [Addr.add_lit, World.cell?_alloc_at _ _ _ _ rfl, Nat.zero_add]
  rcases j with _ | _ | j
  · simpa using h
  · simpa using h
  · simp at h
theorem one_two {a b : Value} (ha : a.oneCell' = true) (hb : b.oneCell' = true) : ∀ u ∈ [a, b], u.oneCell' = true := by
  intro u hu
  rcases List.mem_cons.1 hu with rfl | hu
  · exact ha
  · obtain rfl := List.mem_singleton.1 hu; exact hb
theorem below_pushM {B : Nat} {w wr w3 : World} {v : Value} {e : TypeId} {size n : Nat} {xs : List Value} {X : Obj} (hB : Below B w wr) (hb : B ≤ wr.heap.size) (hR : wr.ownsRow B e size v n xs) (hg : (wr.alloc X).grownBy w3 v.ownBlock) : Below B w w3 :=
  (hB.alloc hb _).grown hg (by simp; omega) (fun k e => (hR.lt k e).1)
theorem Tryd.infoPart : (Tryd.prog.info? 44).map (fun i => (i.zero, i.size, i.bytes)) = some (some (.agg #[.string ⟨#[]⟩, .nilFunc]), 2, 24) := by kernel_rfl
/-- The first of the words that fits. -/
theorem idx_six {r : List UInt8} {k : Fin 6} (h : (mW k).isPrefixOf r = true) : Lib.idxBy (fun _ y => (mW y).isPrefixOf r) (six.take 6) default = (k.val : Int) := by
  have h1 : ∀ j : Fin 6, (mW j).isPrefixOf r = decide (j = k) := fun j => by
    by_cases e : j = k
    · subst e; simpa using h
    · rw [decide_eq_false e]
      cases h2 : (mW j).isPrefixOf r with
      | false => rfl
      | true =>
        obtain ⟨c, hc⟩ := List.isPrefixOf_iff_prefix.1 h
        obtain ⟨d, hd⟩ := List.isPrefixOf_iff_prefix.1 h2
        exact absurd (mW_first (hd.trans hc.symm)).1 e
  have h2 : (fun (_ y : Fin 6) => (mW y).isPrefixOf r) = fun _ y => decide (y = k) := funext fun _ => funext h1
  rw [h2]
  exact all6 (P := fun k => Lib.idxBy (fun _ y : Fin 6 => decide (y = k)) (six.take 6) default = (k.val : Int)) (by decide) (by decide) (by decide) (by decide) (by decide) (by decide) k
theorem idx_none {r : List UInt8} (h : ∀ k : Fin 6, (mW k).isPrefixOf r = false) : Lib.idxBy (fun _ y => (mW y).isPrefixOf r) (six.take 6) default = -1 := by
  have h2 : (fun (_ y : Fin 6) => (mW y).isPrefixOf r) = fun _ _ => false := funext fun _ => funext h
  rw [h2]; decide

/-- How long the text in a box is. -/
def lenAt (b : Nat) (W : World) : Nat := match W.cell? ⟨b, 0, none⟩ with | some (.string s) => s.size | _ => 0
theorem lenAt_of {b : Nat} {W : World} {s : ByteArray} (h : W.cell? ⟨b, 0, none⟩ = some (.string s)) : lenAt b W = s.size := by unfold lenAt; rw [h]
theorem own_base {W : World} {B B' : Nat} {e : TypeId} {sz n : Nat} {v : Value} {xs : List Value} (h : W.ownsRow B e sz v n xs) (hb : B' ≤ B) : W.ownsRow B' e sz v n xs := by
  refine ⟨h.1, ?_⟩
  rcases h.2 with h2 | ⟨g, cap, cur, h1, h2, h3⟩
  · exact Or.inl h2
  · exact Or.inr ⟨g, cap, cur, h1, Nat.le_trans hb h2, h3⟩
theorem own_laterM {W W' : World} {B : Nat} {e : TypeId} {sz n : Nat} {v : Value} {xs : List Value} (h : W.ownsRow B e sz v n xs) (hb : Below W.heap.size W W') : W'.ownsRow B e sz v n xs := by
  refine ⟨h.1, ?_⟩
  rcases h.2 with h2 | ⟨g, cap, cur, h1, h2, h3, h4⟩
  · exact Or.inl h2
  · exact Or.inr ⟨g, cap, cur, h1, h2, by rw [hb.block g (by exact (Array.getElem?_eq_some_iff.1 h3).1)]; exact h3, h4⟩
theorem six_at {j : Nat} (hj : j < 6) : six[j]! = ⟨j, hj⟩ := by
  rcases j with _ | _ | _ | _ | _ | _ | j
  all_goals first | rfl | omega
theorem index_any (r : List UInt8) (Bp Bt : Nat) (W : World) (h : W.cell? ⟨Bp, 0, none⟩ = some (.string (bt r))) (hT : TabM W Bt) :
    Calls Tryd.prog 25 #[.slice (some ⟨Bt, 0, none⟩) 6 6, .func (.func 26) #[] #[.pointer (some ⟨Bp, 0, none⟩)]] W fun e w' => e = .returned (.int .i64 (Lib.idxBy (fun _ y => (mW y).isPrefixOf r) (six.take 6) default)) ∧ Below W.heap.size W w' :=
  AnyQ.slices_IndexFunc Tryd.indexA 2 Tryd.isAgg44 Tryd.sizeOf44 ptE (fun _ => rfl) (fun k => (mW k).isPrefixOf r) 26 #[.pointer (some ⟨Bp, 0, none⟩)] (enters_of Tryd.func26 (by kernel_rfl) rfl) Bt 0 6 6 six W
    (fun V x hb => (split1_any x r Bp V (by rw [hb.cell (cell_lt h)]; exact h)).mono fun e w' ⟨h1, h2⟩ => ⟨h1, hb.trans (h2.mono hb.size)⟩) (by decide) (by omega) (show Bt < _ from cell_lt (hT 0).1)
    (fun j hj i v hi => by
      have hj6 : j < 6 := hj
      rw [six_at hj6] at hi
      obtain ⟨h0, h1⟩ := hT ⟨j, hj6⟩
      rw [Nat.zero_add]
      rcases i with _ | _ | i
      · rw [Nat.add_zero]; rw [← hi]; exact h0
      · rw [← hi]; exact h1
      · simp [ptE] at hi)

set_option maxRecDepth 100000 in
set_option maxHeartbeats 4000000 in
theorem split_any (p : List UInt8) (v0 : Value) (w : World) (hp : p.length ≤ 40) (hv : w.cell? ⟨1, 0, none⟩ = some v0) :
    Calls Tryd.prog 17 #[.string (bt p)] w fun e w' =>
      ((∃ ks d, p = fla ks ∧ e = .returned (.tuple #[d, .nilIface]) ∧ w'.ownsRow w.heap.size 44 2 d ks.length (ptCells ks)) ∨ ((∀ ks, p ≠ fla ks) ∧ e = .returned (.tuple #[.slice none 0 0, v0]))) ∧ Below w.heap.size w w' := by
  obtain ⟨i0, hi, hz0, hz1, hz2⟩ := info_parts Tryd.infoPart
  have HINF : Hid (Tryd.prog.info? 44 = some i0 ∧ i0.zero = some (.agg #[.string ⟨#[]⟩, .nilFunc]) ∧ i0.size = 2 ∧ i0.bytes = 24) := ⟨hi, hz0, hz1, hz2⟩
  clear hi hz0 hz1 hz2
  obtain ⟨W0, hW0⟩ : ∃ W0, W0 = w.alloc (.cells #[.string (bt p)] 9) := ⟨_, rfl⟩
  have hs0 : W0.heap.size = w.heap.size + 1 := by rw [hW0]; simp
  have hB0 : Below w.heap.size w W0 := by rw [hW0]; exact (Below.refl _ _).alloc (Nat.le_refl _) _
  have hc0 : W0.cell? ⟨w.heap.size, 0, none⟩ = some (.string (bt p)) := by rw [hW0]; simp
  have hf0 : W0.frozen? ⟨w.heap.size, 0, none⟩ = false := by rw [hW0]; simp
  have hP := parts_any W0
  rw [hs0] at hP
  have HP := Hid.mk' hP
  clear hP
  go_enter Tryd.func17, Tryd.ntmps17
  go_wp2_with fail
  rw [← hW0]
  refine HP.out.mono ?_
  clear HP hW0
  rintro e W1 ⟨rfl, hT1, hB1, hs1⟩
  have HT1 := Hid.mk' hT1
  have HB1 : Hid (Below w.heap.size w W1) := hB0.trans (hB1.mono (by omega))
  have HC1 : Hid (W1.cell? ⟨w.heap.size, 0, none⟩ = some (.string (bt p)) ∧ W1.frozen? ⟨w.heap.size, 0, none⟩ = false) := ⟨by rw [hB1.cell (p := ⟨w.heap.size, 0, none⟩) (by show w.heap.size < _; omega)]; exact hc0, by rw [hB1.frozen (p := ⟨w.heap.size, 0, none⟩) (by show w.heap.size < _; omega)]; exact hf0⟩
  have HS1 := Hid.mk' hs1
  have HPL := Hid.mk' hp
  have HV : Hid (∀ W, Below w.heap.size w W → W.cell? ⟨1, 0, none⟩ = some v0) := fun W hb => by rw [hb.cell (cell_lt hv)]; exact hv
  clear hT1 hB1 hs1 hB0 hc0 hf0 hs0 hp hv
  go_wp2_with fail
  go_loopw [5] (fun d wr => ∃ (ks : Pg) (r : List UInt8), Hid (p = fla ks ++ r) ∧ Hid (wr.ownsRow (w.heap.size + 2) 44 2 d ks.length (ptCells ks)) ∧ wr.cell? ⟨w.heap.size, 0, none⟩ = some (.string (bt r)) ∧ wr.frozen? ⟨w.heap.size, 0, none⟩ = false ∧ Hid (TabM wr (w.heap.size + 1)) ∧ Hid (Below w.heap.size w wr) ∧ Hid (w.heap.size + 2 ≤ wr.heap.size)) (fun _ wr => lenAt w.heap.size wr)
  case atStart => exact ⟨[], p, rfl, ⟨rfl, Or.inl ⟨rfl, rfl⟩⟩, HC1.out.1, HC1.out.2, HT1, HB1, by show _ ≤ _; rw [HS1.out]; omega⟩
  case round =>
    obtain ⟨ks, r, HR, HO, hc, hf, HT, HB, HSZ⟩ := hrel
    by_cases hr : r = []
    · subst hr
      have hE := bt_none
      generalize bt ([] : List UInt8) = E at *
      go_wp2_with fail
      go_ret2
      refine ⟨Or.inl ⟨ks, _, ?_, rfl, own_base HO.out (by omega)⟩, HB.out⟩
      have := HR.out
      rwa [List.append_nil] at this
    · have hidx := index_any r w.heap.size (w.heap.size + 1) wr hc HT.out
      have hE := bt_some hr
      by_cases hk : ∃ k, (mW k).isPrefixOf r = true
      · obtain ⟨k, hk⟩ := hk
        rw [idx_six hk] at hidx
        obtain ⟨c, hcr⟩ := List.isPrefixOf_iff_prefix.1 hk
        have hlen : (mW k).length ≤ r.length := by rw [← hcr, List.length_append]; omega
        have hm := mW_pos k
        have hcut := bt_cut r (mW k).length r.length
        rw [List.take_length] at hcut
        have hzr := bt_size r
        have hzm := bt_size (mW k)
        have HKS : Hid (fla (ks ++ [k]) ++ r.drop (mW k).length = p) := by
          show _ = _
          rw [fla_snoc, HR.out, List.append_assoc, ← hcr, List.drop_left]
        have HPC := Hid.mk' (ptCells_snoc ks k)
        have HPE : Hid (ptE k = [.string (bt (mW k)), .func (.func (mFn k)) #[] #[]]) := rfl
        obtain ⟨R, hRd⟩ : ∃ R, R = bt r := ⟨_, rfl⟩
        obtain ⟨M, hMd⟩ : ∃ M, M = bt (mW k) := ⟨_, rfl⟩
        have HTT : Hid (∀ W, TabM W (w.heap.size + 1) → W.cell? ⟨w.heap.size + 1, k.val * 2, none⟩ = some (.string M) ∧ W.cell? ⟨w.heap.size + 1, k.val * 2 + 1, none⟩ = some (.func (.func (mFn k)) #[] #[])) := fun W h => by rw [hMd]; exact h k
        rw [← hRd] at hc hE hcut hzr
        rw [← hMd] at hzm HPE
        have hk5 : (k.val : Int) ≤ 5 := by have := k.isLt; omega
        have hk0 : (0 : Int) ≤ (k.val : Int) := by omega
        have HCUT := Hid.mk' hcut
        have HRD := Hid.mk' hRd
        have HMP : Hid (2 ≤ (mW k).length) := hm.1
        clear hcut hRd hMd hk hcr c hm
        generalize hmm : (mW k).length = m at *
        generalize hnn : r.length = n at *
        generalize k.val = kv at *
        have hfv : (Value.func (.func (mFn k)) #[] #[]).oneCell' = true := rfl
        generalize Value.func (.func (mFn k)) #[] #[] = fv at *
        have HFV := Hid.mk' hfv
        clear hfv
        go_wp2_with fail
        refine hidx.mono ?_
        clear hidx
        rintro e W2 ⟨rfl, hb2⟩
        obtain ⟨x0, x1⟩ := HTT.out W2 (HT.out.later hb2)
        have HO2 := Hid.mk' (own_laterM HO.out hb2)
        have HB2 := Hid.mk' (below_chain HB.out hb2)
        have HS2 : Hid (w.heap.size + 2 ≤ W2.heap.size) := Nat.le_trans HSZ.out hb2.size
        have HC2 : Hid (W2.cell? ⟨w.heap.size, 0, none⟩ = some (.string R) ∧ W2.frozen? ⟨w.heap.size, 0, none⟩ = false) := ⟨by rw [hb2.cell (cell_lt hc)]; exact hc, by rw [hb2.frozen (p := ⟨w.heap.size, 0, none⟩) (cell_lt hc)]; exact hf⟩
        have HT2 := Hid.mk' (HT.out.later hb2)
        have HLW : Hid (lenAt w.heap.size wr = n) := by show _ = _; rw [lenAt_of hc, hzr]
        have HLE : Hid (ks.length ≤ 20) := by
          show _ ≤ _
          have h1 := fla_len ks
          have h2 := HPL.out
          rw [HR.out, List.length_append] at h2
          omega
        clear hb2 hc hf HO HT HB HSZ
        go_wp2_with (at_builtin; go_must (refine wpList_append_lies _ rfl _ _ _ rfl (w.heap.size + 2) 44 i0 _ 2 24 Tryd.underlying40 HINF.out.1 HINF.out.2.1 HINF.out.2.2.1 HINF.out.2.2.2 rfl (by omega) u5 _ _ rfl (HO2.out.alloc _) ⟨W2.heap.size, 0, none⟩ 1 1 [.string M, fv] rfl rfl (two_newM _ _ _ _) (one_two rfl HFV.out) (by omega) (by have := HLE.out; unfold maxLen; omega) (by have := HLE.out; omega) (by have := HS2.out; simp; omega) _ rfl ?_; intro g' cap' w3 hown3 hgrow3 hat3 hlt3; have HO3 := Hid.mk' hown3; have HG3 := Hid.mk' hgrow3; clear hown3 hgrow3 hat3))
        have hne0 : ∀ q, u5.ownBlock = some q → w.heap.size + 2 ≤ q := fun q e => (HO2.out.lt q e).1
        have hlt2 : w.heap.size + 2 ≤ W2.heap.size := HS2.out
        have HB3 : Hid (Below w.heap.size w w3) := (HB2.out.alloc HB2.out.size _).grown HG3.out (by simp; omega) (fun q e => by have := hne0 q e; omega)
        have HB3b : Hid (Below (w.heap.size + 2) W2 w3) := ((Below.refl _ W2).alloc hlt2 _).grown HG3.out (by simp; omega) (fun q e => hne0 q e)
        have y0 : w3.cell? ⟨w.heap.size, 0, none⟩ = some (.string R) := by rw [HB3b.out.cell (p := ⟨w.heap.size, 0, none⟩) (by show w.heap.size < w.heap.size + 2; omega)]; exact HC2.out.1
        have yf : w3.frozen? ⟨w.heap.size, 0, none⟩ = false := by rw [HB3b.out.frozen (p := ⟨w.heap.size, 0, none⟩) (by show w.heap.size < w.heap.size + 2; omega)]; exact HC2.out.2
        have y1 : w3.cell? ⟨w.heap.size + 1, kv * 2, none⟩ = some (.string M) := by rw [HB3b.out.cell (p := ⟨w.heap.size + 1, kv * 2, none⟩) (by show w.heap.size + 1 < w.heap.size + 2; omega)]; exact x0
        have HT3 : Hid (TabM w3 (w.heap.size + 1)) := fun q => ⟨by rw [HB3b.out.cell (p := ⟨w.heap.size + 1, q.val * 2, none⟩) (by show w.heap.size + 1 < w.heap.size + 2; omega)]; exact (HT2.out q).1, by rw [HB3b.out.cell (p := ⟨w.heap.size + 1, q.val * 2 + 1, none⟩) (by show w.heap.size + 1 < w.heap.size + 2; omega)]; exact (HT2.out q).2⟩
        have HS3 : Hid (w.heap.size + 2 ≤ w3.heap.size) := Nat.le_trans hlt2 HB3b.out.size
        clear hne0 hlt2 x0 x1 hlt3
        go_region
        go_wp2_with fail
        go_roundw
        case rel =>
          refine ⟨ks ++ [k], r.drop m, HKS.out.symm, ?_, ?_, ?_, ?_, ?_, ?_⟩
          · show World.ownsRow (w3.setCell ⟨w.heap.size, 0, none⟩ _) _ _ _ _ _ _
            have h := HO3.out
            rw [HPC.out, HPE.out, List.length_append]
            exact ownsRow_setCell_below h (show w.heap.size < w.heap.size + 2 by omega) _
          · show World.cell? (w3.setCell ⟨w.heap.size, 0, none⟩ _) _ = _
            rw [World.cell?_setCell_same _ _ _ y0, HCUT.out]
          · show World.frozen? (w3.setCell ⟨w.heap.size, 0, none⟩ _) _ = _
            rw [World.frozen?_setCell]; exact yf
          · intro q
            refine ⟨?_, ?_⟩
            · show World.cell? (w3.setCell ⟨w.heap.size, 0, none⟩ _) _ = _
              rw [World.cell?_setCell_other _ _ _ _ (fun e => by have h9 := congrArg Addr.block e; dsimp only at h9; omega)]; exact (HT3.out q).1
            · show World.cell? (w3.setCell ⟨w.heap.size, 0, none⟩ _) _ = _
              rw [World.cell?_setCell_other _ _ _ _ (fun e => by have h9 := congrArg Addr.block e; dsimp only at h9; omega)]; exact (HT3.out q).2
          · exact (HB3.out.setCell (p := ⟨w.heap.size, 0, none⟩) (Nat.le_refl _) _).drew
          · exact Nat.le_trans HS3.out (by simp [World.setCell, World.drew])
        case measure =>
          show lenAt w.heap.size (w3.setCell ⟨w.heap.size, 0, none⟩ _) < lenAt w.heap.size wr
          rw [lenAt_of (World.cell?_setCell_same _ _ _ y0), HLW.out, HCUT.out, bt_size, List.length_drop, hnn]
          have := HMP.out
          omega
      · have hk2 : ∀ k, (mW k).isPrefixOf r = false := fun k => by
          cases h : (mW k).isPrefixOf r with
          | false => rfl
          | true => exact absurd ⟨k, h⟩ hk
        rw [idx_none hk2] at hidx
        have HNO : Hid (∀ ks, p ≠ fla ks) := fun q e => by
          obtain ⟨q', _, h2⟩ := fla_pre ks q r (by rw [← e]; exact HR.out)
          cases q' with
          | nil => exact hr h2
          | cons k t =>
            have h3 := hk2 k
            rw [h2, fla_cons] at h3
            exact absurd (List.isPrefixOf_iff_prefix.2 (List.prefix_append _ _)) (by rw [h3]; simp)
        clear hk hk2
        generalize bt r = R at *
        go_wp2_with fail
        refine hidx.mono ?_
        clear hidx
        rintro e W2 ⟨rfl, hb2⟩
        have HB2 := Hid.mk' (below_chain HB.out hb2)
        have hv2 := HV.out W2 HB2.out
        clear hb2
        go_wp2_with fail
        go_region
        all_goals (go_wp2_with fail; go_ret2; exact ⟨Or.inr ⟨HNO.out, rfl⟩, HB2.out.drew⟩)
end Go.Proofs.YtdfcipdknfebpaaDoor
