/- Rows of fractions, and slices.Concat of them. -/
import Derived.Test.YtnihclkaaglnjaaGreatDoorCnFr
import Derived.Test.YtnihclkaaglnjaaGreatDoorLaysGF
import Derived.Test.YtnihclkaaglnjaaGreatDoorTabCopy
namespace Go.Proofs.YtnihclkaaglnjaaGreatDoor
open Go.RowKit

/-- The first m of n rows are made, of C elements and K cells each. -/
structure FG (w wr : World) (g n C K m : Nat) (rb : Nat → Nat) (F : Nat → Nat → Value) : Prop where
  below : Below w.heap.size w wr
  hg : w.heap.size ≤ g
  outer : ∀ i, i < n → ∃ x, wr.cell? ⟨g, i, none⟩ = some x
  made : ∀ i, i < m → wr.cell? ⟨g, i, none⟩ = some (.slice (some ⟨rb i, 0, none⟩) C C)
  ofz : ∀ i, i < n → wr.frozen? ⟨g, i, none⟩ = false
  rne : ∀ i, i < m → rb i ≠ g
  rows : ∀ i, i < m → RowIs wr (rb i) K (F i)
theorem FG.later {w wr wn : World} {g n C K m : Nat} {rb : Nat → Nat} {F : Nat → Nat → Value} (h : FG w wr g n C K m rb F) (hb : Below wr.heap.size wr wn) : FG w wn g n C K m rb F := by
  refine ⟨h.below.trans (hb.mono h.below.size), h.hg, fun i hi => ?_, fun i hi => ?_, fun i hi => ?_, h.rne, fun i hi => (h.rows i hi).later hb⟩
  · obtain ⟨x, hx⟩ := h.outer i hi
    exact ⟨x, by rw [hb.cell (cell_lt hx)]; exact hx⟩
  · rw [hb.cell (cell_lt (h.made i hi))]; exact h.made i hi
  · obtain ⟨x, hx⟩ := h.outer i hi
    rw [hb.frozen (cell_lt hx)]; exact h.ofz i hi
theorem fg_start {w w2 : World} {g n C K : Nat} {z : Value} (h : RowIs w2 g n (fun _ => z)) (hb : Below w.heap.size w w2) (hg : w.heap.size ≤ g) (rb : Nat → Nat) (F : Nat → Nat → Value) : FG w w2 g n C K 0 rb F :=
  ⟨hb, hg, fun i hi => ⟨z, h.row i hi⟩, fun i hi => by omega, fun i hi => h.fz i hi, fun i hi => by omega, fun i hi => by omega⟩
theorem FG.push {w wr w2 : World} {g n C K m r : Nat} {rb : Nat → Nat} {F : Nat → Nat → Value} (h : FG w wr g n C K m rb F) (hm : m < n) (hb : Below wr.heap.size wr w2) (hr : wr.heap.size ≤ r) (hz : RowIs w2 r K (F m)) :
    FG w (w2.setCell ⟨g, m, none⟩ (.slice (some ⟨r, 0, none⟩) C C)) g n C K (m + 1) (fun i => if i = m then r else rb i) F := by
  have h2 := h.later hb
  obtain ⟨x, hx⟩ := h2.outer m hm
  obtain ⟨x0, hx0⟩ := h.outer m hm
  have hgl : g < wr.heap.size := cell_lt hx0
  have hgr : r ≠ g := by omega
  refine ⟨h2.below.setCell h.hg _, h.hg, fun i hi => ?_, fun i hi => ?_, fun i hi => ?_, fun i hi => ?_, fun i hi => ?_⟩
  · rw [put_cell _ hx]
    split
    · exact ⟨_, rfl⟩
    · exact h2.outer i hi
  · rw [put_cell _ hx]
    by_cases him : i = m
    · subst him; rw [if_pos rfl, if_pos rfl]
    · rw [if_neg (fun e => him (by simpa using congrArg Addr.off e)), if_neg him]
      exact h2.made i (by omega)
  · rw [World.frozen?_setCell]; exact h2.ofz i hi
  · by_cases him : i = m
    · rw [if_pos him]; exact hgr
    · rw [if_neg him]; exact h2.rne i (by omega)
  · refine ⟨fun k hk => ?_, fun k hk => ?_⟩
    · rw [put_cell _ hx]
      by_cases him : i = m
      · subst him
        rw [if_pos rfl, if_neg (fun e => hgr (congrArg Addr.block e))]
        exact hz.row k hk
      · rw [if_neg him, if_neg (fun e => h2.rne i (by omega) (congrArg Addr.block e))]
        exact (h2.rows i (by omega)).row k hk
    · rw [World.frozen?_setCell]
      by_cases him : i = m
      · subst him; rw [if_pos rfl]; exact hz.fz k hk
      · rw [if_neg him]; exact (h2.rows i (by omega)).fz k hk

/-- Fractions as cells. -/
def frL : List (Nat × Nat) → List Value
  | [] => []
  | p :: r => .int .i64 (p.1 : Int) :: .int .i64 (p.2 : Int) :: frL r
theorem frL_append : ∀ a b, frL (a ++ b) = frL a ++ frL b
  | [], b => rfl
  | p :: a, b => by simp [frL, frL_append a b]
theorem frL_length : ∀ l, (frL l).length = l.length * 2
  | [] => rfl
  | p :: r => by simp [frL, frL_length r]; omega
theorem frL_at : ∀ (l : List (Nat × Nat)) (i : Nat) (p : Nat × Nat), l[i]? = some p → (frL l)[i * 2]? = some (.int .i64 (p.1 : Int)) ∧ (frL l)[i * 2 + 1]? = some (.int .i64 (p.2 : Int))
  | [], i, p, h => by simp at h
  | d :: r, 0, p, h => by
    obtain rfl : d = p := by simpa using h
    exact ⟨rfl, rfl⟩
  | d :: r, i + 1, p, h => by
    obtain ⟨h0, h1⟩ := frL_at r i p (by simpa using h)
    have e : ∀ k, (frL (d :: r))[(i + 1) * 2 + k]? = (frL r)[i * 2 + k]? := fun k => by
      rw [show (i + 1) * 2 + k = i * 2 + k + 1 + 1 by omega]
      rfl
    exact ⟨by rw [show (i + 1) * 2 = (i + 1) * 2 + 0 by omega, e 0]; exact h0, by rw [e 1]; exact h1⟩
theorem frL_one {l : List (Nat × Nat)} {u : Value} (h : u ∈ frL l) : u.oneCell' = true := by
  induction l with
  | nil => simp [frL] at h
  | cons p r ih =>
    simp only [frL, List.mem_cons] at h
    rcases h with rfl | rfl | h
    · rfl
    · rfl
    · exact ih h
theorem fcAt_row {w : World} {base : Nat} {t : TypeId} {v : Value} {l : List (Nat × Nat)} (h : w.ownsRow base t 2 v l.length (frL l)) : FcAt w v l := by
  obtain ⟨hl, hr⟩ := h
  rcases hr with ⟨rfl, hx⟩ | ⟨g, cap, cur, rfl, hb, hh, _, _, hs, ht⟩
  · have h0 : l = [] := by
      cases l with
      | nil => rfl
      | cons p r => simp at hx
    subst h0
    exact ⟨none, 0, rfl, fun i p hp => by simp at hp⟩
  · refine ⟨_, cap, rfl, fun i p hp => ?_⟩
    obtain ⟨h0, h1⟩ := frL_at l i p hp
    have hi : i < l.length := (List.getElem?_eq_some_iff.mp hp).1
    have hcell : ∀ j, j < l.length * 2 → w.cell? ⟨g, 0 + j, none⟩ = (frL l)[j]? := fun j hj => by
      rw [← ht, List.getElem?_take_of_lt hj]
      simp [World.cell?, hh]
    exact ⟨g, 0, rfl, by rw [hcell _ (by omega)]; exact h0, by rw [show 0 + i * 2 + 1 = 0 + (i * 2 + 1) by omega, hcell _ (by omega)]; exact h1⟩
theorem row_news {w : World} {b C : Nat} {f : Nat → Nat × Nat} (h : RowIs w b (2 * C) (frC f)) (j : Nat) (u : Value) (hu : (frL ((List.range C).map f))[j]? = some u) : w.cell? ((⟨b, 0, none⟩ : Addr).add j) = some u := by
  have hj : j < C * 2 := by
    have := (List.getElem?_eq_some_iff.mp hu).1
    rw [frL_length] at this
    simpa using this
  have hk : ((List.range C).map f)[j / 2]? = some (f (j / 2)) := by
    rw [List.getElem?_map, List.getElem?_range (by omega)]; rfl
  obtain ⟨h0, h1⟩ := frL_at _ _ _ hk
  rw [add_plain, Nat.zero_add, h.row j (by omega), ← hu]
  rcases (show j % 2 = 0 ∨ j % 2 = 1 by omega) with e | e
  · rw [show (frL ((List.range C).map f))[j]? = (frL ((List.range C).map f))[j / 2 * 2]? by congr 1; omega, h0]
    unfold frC
    rw [if_pos e]
  · rw [show (frL ((List.range C).map f))[j]? = (frL ((List.range C).map f))[j / 2 * 2 + 1]? by congr 1; omega, h1]
    unfold frC
    rw [if_neg (by omega)]

theorem growF_none (n : Nat) (w : World) (h0 : 0 < n) (hn : n ≤ 1000) :
    Calls Tryz.prog 54 #[.slice none 0 0, .int .i64 n] w fun e w' => ∃ v, e = .returned v ∧ w'.ownsRow w.heap.size 67 2 v 0 [] ∧ Below w.heap.size w w' := by
  obtain ⟨i0, hi, hz0, hz1, hz2⟩ := info_parts Tryz.infoFc
  refine (Any8.slices_Grow_grow (ρ := Tryz.growF_ren) Tryz.growF i0 (.agg #[.int .i64 0, .int .i64 0]) hi hz0 (by rw [hz1]; decide) none 0 0 n [] w (Nat.le_refl _) (by omega) (by rw [hz2]; omega) (by omega) (by simp) (fun _ => rfl) (fun a ha => by cases ha)).mono ?_
  rintro e w' ⟨rfl, hw⟩
  have hge := grownCap_ge w (0 + n) 0 (Tryz.growF_ren.t 25)
  have hle := grownCap_le_maxLen w (0 + n) 0 (Tryz.growF_ren.t 25) (by unfold maxLen; omega)
  generalize grownCap w (0 + n) 0 (Tryz.growF_ren.t 25) = gc at hge hle hw ⊢
  obtain ⟨cur, hcs, hw2⟩ : ∃ cur : Array Value, cur.size = gc * 2 ∧ w' = w.drew.alloc (.cells cur 67) := ⟨_, by simp [Builtin.zeroCells, Value.cells]; omega, hw⟩
  rw [hw2]
  refine ⟨_, rfl, ⟨rfl, Or.inr ⟨w.heap.size, gc, cur, rfl, Nat.le_refl _, ?_, Nat.zero_le _, hle, hcs, by simp⟩⟩, (Below.refl _ _).drew.alloc (by simp) _⟩
  show (w.heap.push (Obj.cells cur 67))[w.heap.size]? = some _
  simp
theorem rowF_shape {w : World} {base : Nat} {t : TypeId} {sz : Nat} {v : Value} {n : Nat} {xs : List Value} (h : w.ownsRow base t sz v n xs) : ∃ ao c, v = .slice ao n c ∧ n ≤ c := by
  rcases h.2 with ⟨rfl, hx⟩ | ⟨g, cap, cur, rfl, _, _, hc, _⟩
  · exact ⟨none, 0, by have := h.1; simp_all, by have := h.1; simp_all⟩
  · exact ⟨_, cap, rfl, hc⟩

set_option maxRecDepth 100000 in
set_option maxHeartbeats 2000000 in
theorem ConcatF_some (g R C : Nat) (rb : Nat → Nat) (f : Nat → Nat → Nat × Nat) (w : World) (h0 : 0 < R) (hC : 0 < C) (hr : ∀ i, i < R → w.cell? ⟨g, i, none⟩ = some (.slice (some ⟨rb i, 0, none⟩) C C) ∧ RowIs w (rb i) (2 * C) (frC (f i))) (hR : R ≤ 16) (hC16 : C ≤ 16) :
    Calls Tryz.prog 30 #[.slice (some ⟨g, 0, none⟩) R R] w fun e w' => ∃ v', e = .returned v' ∧ w'.ownsRow w.heap.size 67 2 v' (flatF C f R).length (frL (flatF C f R)) ∧ Below w.heap.size w w' := by
  obtain ⟨i0, hi, hz0, hz1, hz2⟩ := info_parts Tryz.infoFc
  have HINF : Hid (Tryz.prog.info? 67 = some i0 ∧ i0.zero = some (.agg #[.int .i64 0, .int .i64 0]) ∧ i0.size = 2 ∧ i0.bytes = 16) := ⟨hi, hz0, hz1, hz2⟩
  have HR : Hid (∀ W, Below w.heap.size w W → ∀ i, i < R → W.cell? ⟨g, i, none⟩ = some (.slice (some ⟨rb i, 0, none⟩) C C) ∧ RowIs W (rb i) (2 * C) (frC (f i))) := fun W hb i hi => ⟨by rw [hb.cell (cell_lt (hr i hi).1)]; exact (hr i hi).1, ⟨fun k hk => by rw [hb.cell (cell_lt ((hr i hi).2.row k hk))]; exact (hr i hi).2.row k hk, fun k hk => by rw [hb.frozen (cell_lt ((hr i hi).2.row k hk))]; exact (hr i hi).2.fz k hk⟩⟩
  have hRC : R * C ≤ 256 := Nat.le_trans (Nat.mul_le_mul hR hC16) (by decide)
  have hRC0 : 0 < R * C := Nat.mul_pos h0 hC
  have HG := Hid.mk' (growF_none (R * C) w hRC0 (by omega))
  clear hi hz0 hz1 hz2 hr
  go_enter Tryz.func30, Tryz.ntmps30
  go_wp2_with fail
  go_loopw [3, 5, 11] (fun s _ i wr => ∃ k : Nat, k ≤ R ∧ s = .int .i64 ((k * C : Nat) : Int) ∧ i = .int .i64 k ∧ wr = w) (fun _ _ i _ => R - (intOf i).toNat)
  case atStart => exact ⟨0, Nat.zero_le _, by simp, rfl, rfl⟩
  case round =>
    obtain ⟨k, hk, rfl, rfl, hwr⟩ := hrel
    rw [hwr]
    clear hwr
    rcases Nat.lt_or_ge k R with h1 | h1
    · have hc := (HR.out w (Below.refl _ _) k h1).1
      have hkn : (k : Int) < (R : Int) := by omega
      have hm : k * C + C ≤ R * C := by rw [← Nat.succ_mul]; exact Nat.mul_le_mul_right _ h1
      have HE : Hid ((k + 1) * C = k * C + C) := Nat.succ_mul k C
      generalize R * C = M at *
      generalize k * C = sk at *
      go_wp2_with fail
      exact ⟨⟨k + 1, h1, by rw [HE.out]; go_num, by go_num, trivial⟩, by simp [intOf]; omega⟩
    · obtain rfl : k = R := by omega
      generalize hM : k * C = M at *
      have HM := Hid.mk' hM
      clear hM
      go_wp2_with fail
      refine HG.out.mono ?_
      rintro e w1 ⟨v1, rfl, hown1, hb1⟩
      have HO1 := Hid.mk' hown1
      have HB1 := Hid.mk' hb1
      clear hown1 hb1
      go_wp2_with fail
      go_loopw [6, 8, 27] (fun u _ i wr => ∃ j : Nat, j ≤ k ∧ i = .int .i64 j ∧ Hid (wr.ownsRow w.heap.size 67 2 u (flatF C f j).length (frL (flatF C f j))) ∧ Hid (Below w.heap.size w wr)) (fun _ _ i _ => k - (intOf i).toNat)
      case atStart => exact ⟨0, Nat.zero_le _, rfl, HO1, HB1⟩
      case round =>
        obtain ⟨j, hj, rfl, HO, HB⟩ := hrel
        rcases Nat.lt_or_ge j k with h2 | h2
        · obtain ⟨hc', hri⟩ := HR.out wr HB.out j h2
          have hkn : (j : Int) < (k : Int) := by omega
          have hm2 : j * C + C ≤ M := by rw [← HM.out, ← Nat.succ_mul]; exact Nat.mul_le_mul_right _ h2
          have hfb : (flatF C f j).length ≤ 1000 ∧ (flatF C f j).length + C ≤ 1000 := by rw [flatF_length]; omega
          have HR1 := Hid.mk' hri
          have HL : Hid ((frL ((List.range C).map (f j))).length = C * 2) := by show _ = _; rw [frL_length]; simp
          have HE : Hid (frL (flatF C f (j + 1)) = frL (flatF C f j) ++ frL ((List.range C).map (f j)) ∧ (flatF C f (j + 1)).length = (flatF C f j).length + C) := by
            refine ⟨?_, ?_⟩
            · show frL (flatF C f j ++ (List.range C).map (f j)) = _
              rw [frL_append]
            · show (flatF C f j ++ (List.range C).map (f j)).length = _
              rw [List.length_append]; simp
          have hzB := HB.out.size
          clear hri hm2
          go_wp2_with (at_builtin; go_must (refine wpList_append_lies _ rfl _ _ _ rfl w.heap.size 67 i0 _ 2 16 Tryz.underlying52 HINF.out.1 HINF.out.2.1 HINF.out.2.2.1 HINF.out.2.2.2 rfl (by omega) u6 _ _ rfl HO.out ⟨rb j, 0, none⟩ C C (frL ((List.range C).map (f j))) rfl HL.out (fun j u hu => row_news HR1.out j u hu) (fun u hu => frL_one hu) (by omega) (by unfold maxLen; omega) (by omega) (by omega) _ rfl ?_; intro g' cap2 w3 hown3 hgrow3 hat3 hlt3; have HO3 := Hid.mk' hown3; have HG3 := Hid.mk' hgrow3; clear hown3 hgrow3 hat3))
          refine ⟨⟨j + 1, h2, by go_num, ?_, below_grow HB.out HO.out HG3.out⟩, by simp [intOf]; omega⟩
          rw [HE.out.1, HE.out.2]
          exact HO3
        · obtain rfl : j = k := by omega
          go_wp2_with fail
          go_ret
          exact ⟨_, rfl, HO.out, HB.out⟩
end Go.Proofs.YtnihclkaaglnjaaGreatDoor
