/- machine.fresh: the sort, and the first ones to write their text. -/
import Derived.Test.YtdfcipdknfebpaaDoorMacG
import Derived.Test.YtdfcipdknfebpaaDoorLaysS
import Derived.Maps.OwnOps
import Derived.Maps.Views
import Derived.Maps.OwnSet
import Derived.StringKeys
namespace Go.Proofs.YtdfcipdknfebpaaDoor
open Go.RowKit Go.Maps

def cfP (p q : Pg) : Int := Lib.compareBytes (fla p) (fla q)
theorem cfP_lt (p q : Pg) : ltOf cfP p q = ltP p q := ltU_cmp _ _
theorem cfP_swo : Sort.SWO (ltOf cfP) :=
  ⟨fun x => by rw [cfP_lt]; exact ltU_irrefl _, fun x y z h1 h2 => by rw [cfP_lt] at *; exact ltU_trans _ _ _ h1 h2, fun x y z h1 h2 => by rw [cfP_lt] at *; exact ltU_ntrans _ _ _ h1 h2⟩
theorem flat_wr (l : List Pg) : Sort.flatK wrE 2 l.toArray = (wrC l).toArray := by
  refine Array.ext (by rw [Sort.size_flatK]; simp [wrC_len]) fun t h1 h2 => ?_
  have h3 : t < l.toArray.size * 2 := by rwa [Sort.size_flatK] at h1
  have h4 := Sort.get_flatK wrE 2 l.toArray t h3
  rw [getElem!_pos (Sort.flatK wrE 2 l.toArray) t h1] at h4
  rw [h4]
  have h5 : t / 2 < l.length := by simp at h3; omega
  rw [getElem!_pos l.toArray (t / 2) (by simpa using h5)]
  obtain ⟨c0, c1⟩ := wrC_at l (t / 2) l[t / 2] (List.getElem?_eq_getElem h5)
  have h6 : (wrC l)[t]? = some ((wrC l).toArray[t]) := by rw [List.getElem?_eq_getElem (by rw [wrC_len]; simp at h3; exact h3)]; rfl
  rcases Nat.mod_two_eq_zero_or_one t with h7 | h7
  · rw [h7]
    rw [show t / 2 * 2 = t by omega] at c0
    have := h6.symm.trans c0
    rw [Option.some.inj this]; rfl
  · rw [h7]
    rw [show t / 2 * 2 + 1 = t by omega] at c1
    have := h6.symm.trans c1
    rw [Option.some.inj this]; rfl
theorem holds_wr {w : World} {base g n cap : Nat} {l : List Pg} (h : w.ownsRow base 79 2 (.slice (some ⟨g, 0, none⟩) n cap) l.length (wrC l)) : Sort.HoldsK wrE 2 w g 0 l.toArray := by
  unfold Sort.HoldsK
  rw [flat_wr]
  intro j hj
  have hj2 : j < l.length * 2 := by simpa [wrC_len] using hj
  have h1 := own_cell h hj2
  rw [Nat.zero_add]
  refine ⟨?_, ?_⟩
  · rw [h1, getElem!_pos (wrC l).toArray j hj]; rw [List.getElem?_eq_getElem (by rw [wrC_len]; exact hj2)]; rfl
  · rcases h.2 with ⟨h2, _⟩ | ⟨g', cap', cur, h2, _, h3, _⟩
    · cases h2
    · injection h2 with h5 _ _
      injection h5 with h5
      injection h5 with h5 _ _
      subst h5
      simp [World.frozen?, h3]
theorem sorted_own {w : World} {base g n cap q : Nat} {os : Array Obj} {l l' : List Pg} (h : w.ownsRow base 79 2 (.slice (some ⟨g, 0, none⟩) n cap) l.length (wrC l)) (hy : l'.length = l.length) :
    (sortWorldK wrE 2 w g 0 q l'.toArray os).ownsRow base 79 2 (.slice (some ⟨g, 0, none⟩) n cap) l'.length (wrC l') ∧ w.grownBy (sortWorldK wrE 2 w g 0 q l'.toArray os) (some g) := by
  unfold sortWorldK Sort.putRowK
  rw [flat_wr]
  rcases h.2 with ⟨h2, _⟩ | ⟨g', cap', cur, h2, hb, h3, h4, h5, h6, h7⟩
  · cases h2
  · injection h2 with e1 e2 e3
    injection e1 with e1
    injection e1 with e1 _ _
    subst e1 e2 e3
    have hgl : g < w.heap.size := (Array.getElem?_eq_some_iff.1 h3).1
    refine ⟨⟨wrC_len _, Or.inr ⟨g, cap, Sort.putCells id 0 (wrC l').toArray cur, by rw [hy], hb, ?_, by rw [hy]; exact h4, h5, by simpa [Sort.putCells] using h6, ?_⟩⟩, ?_⟩
    · show (w.heap.modify g (Sort.onCells (Sort.putCells id 0 (wrC l').toArray)) ++ os)[g]? = _
      rw [Array.getElem?_append_left (by rw [Array.size_modify]; exact hgl), Array.getElem?_modify, if_pos rfl, h3]; rfl
    · apply List.ext_getElem?
      intro j
      rw [List.getElem?_take]
      by_cases hj : j < l'.length * 2
      · have hjc : j < cur.size := by rw [h6]; rw [hy] at hj; have := Nat.mul_le_mul_right 2 h4; omega
        have hjw : j < (wrC l').length := by rw [wrC_len]; exact hj
        rw [if_pos hj, Array.getElem?_toList]
        simp only [Sort.putCells, Array.getElem?_mapIdx, Array.getElem?_eq_getElem hjc, Option.map_some]
        rw [if_pos (by simp [wrC_len]; omega), List.getElem?_eq_getElem hjw]
        simp [getElem!_pos, hjw]
      · rw [if_neg hj, List.getElem?_eq_none (by rw [wrC_len]; omega)]
    · refine ⟨rfl, rfl, rfl, by simp [Sort.grow, Sort.putRow, Sort.mapBlock, Sort.ahead], fun k hk hne => ?_⟩
      have hne2 : g ≠ k := fun e => hne (by rw [e])
      show (w.heap.modify g (Sort.onCells (Sort.putCells id 0 (wrC l').toArray)) ++ os)[k]? = _
      rw [Array.getElem?_append_left (by rw [Array.size_modify]; exact hk), Array.getElem?_modify, if_neg hne2]
theorem grow_two (W : World) (X Y : Obj) : (W.alloc X).alloc Y = Sort.grow (W.drewN 0) #[X, Y] := by
  have e : W.heap ++ #[X, Y] = (W.heap.push X).push Y := by
    apply Array.toList_inj.1
    simp
  show _ = { W with heap := W.heap ++ #[X, Y] }
  rw [e]; rfl
set_option maxRecDepth 100000 in
theorem fresh1_any (x y : Pg) (W : World) : Calls Tryd.prog 58 #[.agg (wrE x).toArray, .agg (wrE y).toArray] W fun e w' => e = .returned (.int .i64 (cfP x y)) ∧ ∃ q os', w' = Sort.grow (W.drewN q) os' := by
  have HC : Hid (∀ W, Calls Tryd.prog 59 #[.string (bt (fla x)), .string (bt (fla y))] W fun e w' => e = .returned (.int .i64 (cfP x y)) ∧ w' = W) := fun W => by
    have := Any.strings_Compare Tryd.strCompareA (bt (fla x)) (bt (fla y)) W
    rw [bt_list, bt_list] at this
    exact this
  unfold wrE
  generalize cfP x y = z at *
  generalize bt (fla x) = X at *
  generalize bt (fla y) = Y at *
  generalize bt (stp x) = X2 at *
  generalize bt (stp y) = Y2 at *
  obtain ⟨W2, hW2⟩ : ∃ W2, W2 = (W.alloc (.cells #[.string X, .string X2] 79)).alloc (.cells #[.string Y, .string Y2] 79) := ⟨_, rfl⟩
  have x0 : ((W.alloc (.cells #[.string X, .string X2] 79)).alloc (.cells #[.string Y, .string Y2] 79)).cell? ⟨W.heap.size, 0, none⟩ = some (.string X) := by rw [World.cell?_alloc_lt _ _ _ (by simp)]; simp
  have x1 : ((W.alloc (.cells #[.string X, .string X2] 79)).alloc (.cells #[.string Y, .string Y2] 79)).cell? ⟨W.heap.size + 1, 0, none⟩ = some (.string Y) := by
    rw [World.cell?_alloc_at _ _ _ _ (by simp)]; rfl
  have HG : Hid (W2 = Sort.grow (W.drewN 0) #[.cells #[.string X, .string X2] 79, .cells #[.string Y, .string Y2] 79]) := by
    rw [hW2]
    exact grow_two W _ _
  go_enter Tryd.func58, Tryd.ntmps58
  go_wp2_with fail
  refine (HC.out _).mono ?_
  rintro e w' ⟨rfl, rfl⟩
  go_wp2_with fail
  go_ret
  exact ⟨rfl, 0, _, by rw [← hW2]; exact HG.out⟩
/-- slices.SortFunc at a level that is to be looked through. -/
theorem sort_any (l : List Pg) (v : Value) (B : Nat) (w : World) (h : OwnW w B v l) (hn : l.length ≤ 100000) :
    Calls Tryd.prog 57 #[v, .func (.func 58) #[] #[]] w fun e w' => e = .returned (.tuple #[]) ∧ OwnW w' B v (l.mergeSort fun x y => !ltP y x) ∧ Below B w w' := by
  rcases h.2 with ⟨h1, h2⟩ | ⟨g, cap, cur, h1, h2, h3, _⟩
  · have hl : l = [] := List.eq_nil_of_length_eq_zero h2
    subst hl
    subst h1
    refine (AnyF.slices_SortFunc_none Tryd.sortFuncA none 0 _ w).mono ?_
    rintro e w' ⟨rfl, rfl⟩
    exact ⟨rfl, by rw [List.mergeSort_nil]; exact h, Below.refl _ _⟩
  · subst h1
    have hgl : g < w.heap.size := (Array.getElem?_eq_some_iff.1 h3).1
    have hs := AnyQ.slices_SortFunc_total Tryd.sortFuncA 2 Tryd.isAgg79 Tryd.sizeOf79 wrE (fun _ => rfl) (fun x v hv => by
      rcases List.mem_cons.1 hv with rfl | hv
      · rfl
      · obtain rfl := List.mem_singleton.1 hv; rfl) cfP cfP_swo 58 #[] g 0 cap l.toArray w (enters_of Tryd.func58 (by kernel_rfl) rfl)
      (fun m os dk _ x y => fresh1_any x y _) (holds_wr h) hgl (by simp; omega) (fun x y h1 h2 => by rw [cfP_lt] at h1 h2; exact fla_inj (ltU_total _ _ h1 h2))
    have e1 : (fun x y => !(ltOf cfP) y x) = fun x y => !ltP y x := by funext x y; rw [cfP_lt]
    have e2 : l.toArray.toList = l := rfl
    rw [e1, e2] at hs
    refine hs.mono ?_
    rintro e w' ⟨rfl, q, os, rfl⟩
    obtain ⟨k1, k2⟩ := sorted_own (q := q) (os := os) h (l' := l.mergeSort fun x y => !ltP y x) (List.length_mergeSort _)
    refine ⟨rfl, k1, ⟨k2.os, k2.tape, k2.output, k2.size, fun k hk => k2.block k (by omega) (fun e => by injection e with e; omega)⟩⟩
end Go.Proofs.YtdfcipdknfebpaaDoor
