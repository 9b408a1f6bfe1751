/- The law's copies of tables; the program's list of a table's weights. -/
import Derived.Test.YtiegobkbinojeaaDoorTabErr
import Derived.Deep.Onto
namespace Go.Proofs.YtiegobkbinojeaaDoor
open Go.RowKit

theorem Tryd.infoInts : (Tryd.prog.info? 39).map (fun i => (i.zero, i.size, i.bytes)) = some (some (.slice none 0 0), 1, 24) := by kernel_rfl
def rowV (vs : Nat → Value) (k : Nat) : List Value := (List.range k).map vs
theorem rowV_length (vs : Nat → Value) (k : Nat) : (rowV vs k).length = k := by simp [rowV]
theorem rowV_push (vs : Nat → Value) (k : Nat) (v : Value) : rowV vs k ++ [v] = rowV (fun i => if i = k then v else vs i) (k + 1) := by
  unfold rowV
  rw [List.range_succ, List.map_append]
  congr 1
  · refine List.map_congr_left (fun i hi => ?_)
    have := List.mem_range.1 hi
    rw [if_neg (by omega)]
  · simp
theorem tabAt_of_row {w : World} {base : Nat} {t : TypeId} {v : Value} {R : Nat} {vs : Nat → Value} {ns : Nat → Nat} {zs : Nat → Nat → Int} (h : w.ownsRow base t 1 v R (rowV vs R)) (hn : ∀ i, i < R → NumsAt w (vs i) (ns i) (zs i)) : TabAt w v R vs ns zs := by
  rcases h.2 with ⟨hv, h0⟩ | ⟨g, cap, cur, hv, _, hh, _, _, hs, ht⟩
  · exact Or.inl ⟨none, 0, hv, h0⟩
  · rcases Nat.eq_zero_or_pos R with h0 | h0
    · exact Or.inl ⟨_, _, by rw [hv, h0], h0⟩
    · refine Or.inr ⟨g, 0, cap, hv, h0, fun i hi => ⟨?_, hn i hi⟩⟩
      have h1 : (rowV vs R)[i]? = some (vs i) := by simp [rowV, hi]
      rw [← h1, ← ht, List.getElem?_take_of_lt (by omega)]
      simp [World.cell?, hh]
theorem own_past {w w' : World} {base : Nat} {t : TypeId} {sz : Nat} {v : Value} {n : Nat} {xs : List Value} (h : w.ownsRow base t sz v n xs) (hb : Below w.heap.size w w') : w'.ownsRow base t sz v n xs := by
  obtain ⟨hl, hr⟩ := h
  refine ⟨hl, ?_⟩
  rcases hr with hr | ⟨g, cap, cur, hv, hb1, hh, rest⟩
  · exact Or.inl hr
  · exact Or.inr ⟨g, cap, cur, hv, hb1, by rw [hb.block g (heap_lt hh)]; exact hh, rest⟩
/-- A row of another kind beside the one that is grown. -/
theorem own_beside {w w' : World} {b1 b2 : Nat} {t1 t2 : TypeId} {v u : Value} {n m s1 s2 : Nat} {xs ys : List Value} (h : w.ownsRow b1 t1 s1 v n xs) (k : w.ownsRow b2 t2 s2 u m ys) (ht : t1 ≠ t2) (hg : w.grownBy w' u.ownBlock) : w'.ownsRow b1 t1 s1 v n xs := by
  obtain ⟨hl, hr⟩ := h
  refine ⟨hl, ?_⟩
  rcases hr with hr | ⟨g, cap, cur, hv, hb1, hh, rest⟩
  · exact Or.inl hr
  · refine Or.inr ⟨g, cap, cur, hv, hb1, ?_, rest⟩
    rw [hg.block g (heap_lt hh) (fun e => ?_)]
    · exact hh
    · rcases k.2 with ⟨rfl, _⟩ | ⟨g', cap', cur', rfl, _, hh', _⟩
      · cases e
      · obtain rfl : g = g' := by simpa [Value.ownBlock] using e
        rw [hh] at hh'
        simp at hh'
        exact ht hh'.2
set_option maxRecDepth 100000 in
set_option maxHeartbeats 2000000 in
theorem lists_own (v : Value) (R : Nat) (vs : Nat → Value) (ns : Nat → Nat) (zs : Nat → Nat → Int) (w : World) (h : TabAt w v R vs ns zs) (hR : R ≤ 70) (hs : sumT ns R ≤ 1200) :
    Calls Tryd.prog 29 #[v] w fun e w' => ∃ v' vs', e = .returned v' ∧ w'.ownsRow w.heap.size 39 1 v' R (rowV vs' R) ∧ (∀ i, i < R → w'.ownsRow w.heap.size 3 1 (vs' i) (ns i) (numCells (zs i) (ns i))) ∧ Below w.heap.size w w' := by
  rcases h with ⟨ad, cap, rfl, rfl⟩ | ⟨b, o, cap, rfl, h0, hr⟩
  · go_enter Tryd.func29, Tryd.ntmps29
    go_wp2_with fail
    refine wp_loop_rounds 1 ?_
    rw [rounds_succ]
    go_wp2_with fail
    go_ret
    exact ⟨_, vs, rfl, ⟨rfl, Or.inl ⟨rfl, rfl⟩⟩, (fun i hi => by omega), Below.refl _ _⟩
  · obtain ⟨i0, hi, hz0, hz1, hz2⟩ := info_parts Tryd.infoInts
    have HINF : Hid (Tryd.prog.info? 39 = some i0 ∧ i0.zero = some (.slice none 0 0) ∧ i0.size = 1 ∧ i0.bytes = 24) := ⟨hi, hz0, hz1, hz2⟩
    have HR := Hid.mk' hr
    have HN : Hid (∀ i, i < R → ns i ≤ 1200) := fun i hi => by have h2 : sumT ns i + ns i ≤ sumT ns R := sumT_mono ns hi; omega
    clear hi hz0 hz1 hz2 hr
    go_enter Tryd.func29, Tryd.ntmps29
    go_wp2_with fail
    go_loopw [3, 4] (fun u i wr => ∃ (k : Nat) (us : Nat → Value), k ≤ R ∧ i = .int .i64 k ∧ Hid (wr.ownsRow w.heap.size 39 1 u k (rowV us k)) ∧ Hid (∀ i, i < k → wr.ownsRow w.heap.size 3 1 (us i) (ns i) (numCells (zs i) (ns i))) ∧ Hid (Below w.heap.size w wr)) (fun _ i _ => R - (intOf i).toNat)
    case atStart => exact ⟨0, vs, Nat.zero_le _, rfl, ⟨rfl, Or.inl ⟨rfl, rfl⟩⟩, (fun i hi => by omega), Below.refl _ _⟩
    case round =>
      obtain ⟨k, us, hk, rfl, HO, HNA, HB⟩ := hrel
      rcases Nat.lt_or_ge k R with h1 | h1
      · have hc := (HR.out k h1).1
        have hc' : wr.cell? ⟨b, o + k, none⟩ = some (vs k) := by rw [HB.out.cell (cell_lt hc)]; exact hc
        have hnums := (HR.out k h1).2.later HB.out
        have hints := ints_row (vs k) (ns k) (zs k) wr hnums (by have := HN.out k h1; omega)
        obtain ⟨ad1, cap1, hv1⟩ := hnums.form
        rw [hv1] at hc' hints
        have hkn : (k : Int) < (R : Int) := by omega
        clear hc hnums hv1
        go_wp2_with fail
        refine hints.mono ?_
        clear hints hc'
        rintro e w4 ⟨v4, rfl, hv4, hb4⟩
        have HO4 := Hid.mk' (own_past HO.out hb4)
        have HB4 := Hid.mk' (HB.out.trans (hb4.mono HB.out.size))
        have HA4 : Hid (∀ i, i < k → w4.ownsRow w.heap.size 3 1 (us i) (ns i) (numCells (zs i) (ns i))) := fun i hi => own_past (HNA.out i hi) hb4
        have HV4 : Hid (w4.ownsRow w.heap.size 3 1 v4 (ns k) (numCells (zs k) (ns k))) := hv4.mono HB.out.size
        obtain ⟨ad4, cap4, rfl, _⟩ := row_shape hv4
        have hz4 := HB4.out.size
        clear hv4 hb4
        go_wp2_with (at_builtin; go_must (refine wpList_append_lies _ rfl _ _ _ rfl w.heap.size 39 i0 _ 1 24 Tryd.underlying22 HINF.out.1 HINF.out.2.1 HINF.out.2.2.1 HINF.out.2.2.2 rfl (by omega) u3 _ _ rfl (HO4.out.alloc _) ⟨w4.heap.size, 0, none⟩ 1 1 [.slice ad4 (ns k) cap4] rfl rfl (one_new _ _ _) (by simp [Value.oneCell']) (by omega) (by unfold maxLen; omega) (by omega) (by simp; omega) _ rfl ?_; intro g' cap2 w5 hown5 hgrow5 hat5 hlt5; have HO5 := Hid.mk' hown5; have HG5 := Hid.mk' hgrow5; clear hown5 hgrow5 hat5))
        refine ⟨⟨k + 1, fun i => if i = k then .slice ad4 (ns k) cap4 else us i, h1, by go_num, ?_, fun i hi => ?_, below_push HB4.out HO4.out HG5.out⟩, by simp [intOf]; omega⟩
        · rw [← rowV_push]
          exact HO5
        · show World.ownsRow _ _ _ _ _ _ _
          dsimp only
          by_cases hik : i = k
          · subst hik
            rw [if_pos rfl]
            exact own_beside (own_past HV4.out ((Below.refl _ _).alloc (Nat.le_refl _) _)) (HO4.out.alloc _) (by decide) HG5.out
          · rw [if_neg hik]
            exact own_beside (own_past (HA4.out i (by omega)) ((Below.refl _ _).alloc (Nat.le_refl _) _)) (HO4.out.alloc _) (by decide) HG5.out
      · obtain rfl : k = R := by omega
        go_wp2_with fail
        go_ret
        exact ⟨_, us, rfl, HO.out, HNA.out, HB.out⟩
theorem lists_any (v : Value) (R : Nat) (vs : Nat → Value) (ns : Nat → Nat) (zs : Nat → Nat → Int) (w : World) (h : TabAt w v R vs ns zs) (hR : R ≤ 70) (hs : sumT ns R ≤ 1200) :
    Calls Tryd.prog 29 #[v] w fun e w' => ∃ v' vs', e = .returned v' ∧ TabAt w' v' R vs' ns zs ∧ Below w.heap.size w w' := by
  refine (lists_own v R vs ns zs w h hR hs).mono ?_
  rintro e w' ⟨v', us, rfl, h1, h2, h3⟩
  exact ⟨_, us, rfl, tabAt_of_row h1 (fun i hi => numsAt_own (h2 i hi)), h3⟩

end Go.Proofs.YtiegobkbinojeaaDoor
