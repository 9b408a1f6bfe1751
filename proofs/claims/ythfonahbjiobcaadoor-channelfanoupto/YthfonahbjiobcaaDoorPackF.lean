/- Rows of fractions, and slices.Concat of them. -/
import Derived.Test.YthfonahbjiobcaaDoorPackE
import Derived.Test.YthfonahbjiobcaaDoorPackD
import Derived.Test.YthfonahbjiobcaaDoorCode
import Derived.Test.YthfonahbjiobcaaDoorWeights
import Derived.Laws.EntriesVeiled
import Derived.Deep.CutRange
import Derived.Deep.DeepCutAuto
import Derived.Test.YthfonahbjiobcaaDoorInts
import Derived.BigQuiet
import Derived.Test.YthfonahbjiobcaaDoorValidWalk
import Derived.Deep.RegionHeld3
namespace Go.Proofs.YthfonahbjiobcaaDoor
open Go.RowKit

/-- The first m of n rows are made, of C elements and K cells each. -/
structure FG (w wr : World) (g n C K m : Nat) (rb : Nat → Nat) (F : Nat → Nat → Value) : Prop where
  below : Below w.heap.size w wr
  hg : w.heap.size ≤ g
  outer : ∀ i, i < n → ∃ x, wr.cell? ⟨g, i, none⟩ = some x
  made : ∀ i, i < m → wr.cell? ⟨g, i, none⟩ = some (.slice (some ⟨rb i, 0, none⟩) C C)
  ofz : ∀ i, i < n → wr.frozen? ⟨g, i, none⟩ = false
  rne : ∀ i, i < m → rb i ≠ g
  rows : ∀ i, i < m → RowIs wr (rb i) K (F i)
theorem FG.later {w wr wn : World} {g n C K m : Nat} {rb : Nat → Nat} {F : Nat → Nat → Value} (h : FG w wr g n C K m rb F) (hb : Below wr.heap.size wr wn) : FG w wn g n C K m rb F := by
  refine ⟨h.below.trans (hb.mono h.below.size), h.hg, fun i hi => ?_, fun i hi => ?_, fun i hi => ?_, h.rne, fun i hi => (h.rows i hi).later hb⟩
  · obtain ⟨x, hx⟩ := h.outer i hi
    exact ⟨x, by rw [hb.cell (cell_lt hx)]; exact hx⟩
  · rw [hb.cell (cell_lt (h.made i hi))]; exact h.made i hi
  · obtain ⟨x, hx⟩ := h.outer i hi
    rw [hb.frozen (cell_lt hx)]; exact h.ofz i hi
theorem fg_start {w w2 : World} {g n C K : Nat} {z : Value} (h : RowIs w2 g n (fun _ => z)) (hb : Below w.heap.size w w2) (hg : w.heap.size ≤ g) (rb : Nat → Nat) (F : Nat → Nat → Value) : FG w w2 g n C K 0 rb F :=
  ⟨hb, hg, fun i hi => ⟨z, h.row i hi⟩, fun i hi => by omega, fun i hi => h.fz i hi, fun i hi => by omega, fun i hi => by omega⟩
theorem FG.push {w wr w2 : World} {g n C K m r : Nat} {rb : Nat → Nat} {F : Nat → Nat → Value} (h : FG w wr g n C K m rb F) (hm : m < n) (hb : Below wr.heap.size wr w2) (hr : wr.heap.size ≤ r) (hz : RowIs w2 r K (F m)) :
    FG w (w2.setCell ⟨g, m, none⟩ (.slice (some ⟨r, 0, none⟩) C C)) g n C K (m + 1) (fun i => if i = m then r else rb i) F := by
  have h2 := h.later hb
  obtain ⟨x, hx⟩ := h2.outer m hm
  obtain ⟨x0, hx0⟩ := h.outer m hm
  have hgl : g < wr.heap.size := cell_lt hx0
  have hgr : r ≠ g := by omega
  refine ⟨h2.below.setCell h.hg _, h.hg, fun i hi => ?_, fun i hi => ?_, fun i hi => ?_, fun i hi => ?_, fun i hi => ?_⟩
  · rw [put_cell _ hx]
    split
    · exact ⟨_, rfl⟩
    · exact h2.outer i hi
  · rw [put_cell _ hx]
    by_cases him : i = m
    · subst him; rw [if_pos rfl, if_pos rfl]
    · rw [if_neg (fun e => him (by simpa using congrArg Addr.off e)), if_neg him]
      exact h2.made i (by omega)
  · rw [World.frozen?_setCell]; exact h2.ofz i hi
  · by_cases him : i = m
    · rw [if_pos him]; exact hgr
    · rw [if_neg him]; exact h2.rne i (by omega)
  · refine ⟨fun k hk => ?_, fun k hk => ?_⟩
    · rw [put_cell _ hx]
      by_cases him : i = m
      · subst him
        rw [if_pos rfl, if_neg (fun e => hgr (congrArg Addr.block e))]
        exact hz.row k hk
      · rw [if_neg him, if_neg (fun e => h2.rne i (by omega) (congrArg Addr.block e))]
        exact (h2.rows i (by omega)).row k hk
    · rw [World.frozen?_setCell]
      by_cases him : i = m
      · subst him; rw [if_pos rfl]; exact hz.fz k hk
      · rw [if_neg him]; exact (h2.rows i (by omega)).fz k hk

/-- Fractions as cells. -/
def frL : List (Nat × Nat) → List Value
  | [] => []
  | p :: r => .int .i64 (p.1 : Int) :: .int .i64 (p.2 : Int) :: frL r
theorem frL_append : ∀ a b, frL (a ++ b) = frL a ++ frL b
  | [], b => rfl
  | p :: a, b => by simp [frL, frL_append a b]
theorem frL_length : ∀ l, (frL l).length = l.length * 2
  | [] => rfl
  | p :: r => by simp [frL, frL_length r]; omega
theorem frL_at : ∀ (l : List (Nat × Nat)) (i : Nat) (p : Nat × Nat), l[i]? = some p → (frL l)[i * 2]? = some (.int .i64 (p.1 : Int)) ∧ (frL l)[i * 2 + 1]? = some (.int .i64 (p.2 : Int))
  | [], i, p, h => by simp at h
  | d :: r, 0, p, h => by
    obtain rfl : d = p := by simpa using h
    exact ⟨rfl, rfl⟩
  | d :: r, i + 1, p, h => by
    obtain ⟨h0, h1⟩ := frL_at r i p (by simpa using h)
    have e : ∀ k, (frL (d :: r))[(i + 1) * 2 + k]? = (frL r)[i * 2 + k]? := fun k => by
      rw [show (i + 1) * 2 + k = i * 2 + k + 1 + 1 by omega]
      rfl
    exact ⟨by rw [show (i + 1) * 2 = (i + 1) * 2 + 0 by omega, e 0]; exact h0, by rw [e 1]; exact h1⟩
theorem frL_one {l : List (Nat × Nat)} {u : Value} (h : u ∈ frL l) : u.oneCell' = true := by
  induction l with
  | nil => simp [frL] at h
  | cons p r ih =>
    simp only [frL, List.mem_cons] at h
    rcases h with rfl | rfl | h
    · rfl
    · rfl
    · exact ih h
theorem fcAt_row {w : World} {base : Nat} {t : TypeId} {v : Value} {l : List (Nat × Nat)} (h : w.ownsRow base t 2 v l.length (frL l)) : FcAt w v l := by
  obtain ⟨hl, hr⟩ := h
  rcases hr with ⟨rfl, hx⟩ | ⟨g, cap, cur, rfl, hb, hh, _, _, hs, ht⟩
  · have h0 : l = [] := by
      cases l with
      | nil => rfl
      | cons p r => simp at hx
    subst h0
    exact ⟨none, 0, rfl, fun i p hp => by simp at hp⟩
  · refine ⟨_, cap, rfl, fun i p hp => ?_⟩
    obtain ⟨h0, h1⟩ := frL_at l i p hp
    have hi : i < l.length := (List.getElem?_eq_some_iff.mp hp).1
    have hcell : ∀ j, j < l.length * 2 → w.cell? ⟨g, 0 + j, none⟩ = (frL l)[j]? := fun j hj => by
      rw [← ht, List.getElem?_take_of_lt hj]
      simp [World.cell?, hh]
    exact ⟨g, 0, rfl, by rw [hcell _ (by omega)]; exact h0, by rw [show 0 + i * 2 + 1 = 0 + (i * 2 + 1) by omega, hcell _ (by omega)]; exact h1⟩
theorem row_news {w : World} {b C : Nat} {f : Nat → Nat × Nat} (h : RowIs w b (2 * C) (frC f)) (j : Nat) (u : Value) (hu : (frL ((List.range C).map f))[j]? = some u) : w.cell? ((⟨b, 0, none⟩ : Addr).add j) = some u := by
  have hj : j < C * 2 := by
    have := (List.getElem?_eq_some_iff.mp hu).1
    rw [frL_length] at this
    simpa using this
  have hk : ((List.range C).map f)[j / 2]? = some (f (j / 2)) := by
    rw [List.getElem?_map, List.getElem?_range (by omega)]; rfl
  obtain ⟨h0, h1⟩ := frL_at _ _ _ hk
  rw [add_plain, Nat.zero_add, h.row j (by omega), ← hu]
  rcases (show j % 2 = 0 ∨ j % 2 = 1 by omega) with e | e
  · rw [show (frL ((List.range C).map f))[j]? = (frL ((List.range C).map f))[j / 2 * 2]? by congr 1; omega, h0]
    unfold frC
    rw [if_pos e]
  · rw [show (frL ((List.range C).map f))[j]? = (frL ((List.range C).map f))[j / 2 * 2 + 1]? by congr 1; omega, h1]
    unfold frC
    rw [if_neg (by omega)]

theorem growF_none (n : Nat) (w : World) (h0 : 0 < n) (hn : n ≤ 1000) :
    Calls Tryd.prog 45 #[.slice none 0 0, .int .i64 n] w fun e w' => ∃ v, e = .returned v ∧ w'.ownsRow w.heap.size 58 2 v 0 [] ∧ Below w.heap.size w w' := by
  obtain ⟨i0, hi, hz0, hz1, hz2⟩ := info_parts Tryd.infoFc
  refine (Any8.slices_Grow_grow (ρ := Tryd.growF_ren) Tryd.growF i0 (.agg #[.int .i64 0, .int .i64 0]) hi hz0 (by rw [hz1]; decide) none 0 0 n [] w (Nat.le_refl _) (by omega) (by rw [hz2]; omega) (by omega) (by simp) (fun _ => rfl) (fun a ha => by cases ha)).mono ?_
  rintro e w' ⟨rfl, hw⟩
  have hge := grownCap_ge w (0 + n) 0 (Tryd.growF_ren.t 25)
  have hle := grownCap_le_maxLen w (0 + n) 0 (Tryd.growF_ren.t 25) (by unfold maxLen; omega)
  generalize grownCap w (0 + n) 0 (Tryd.growF_ren.t 25) = gc at hge hle hw ⊢
  obtain ⟨cur, hcs, hw2⟩ : ∃ cur : Array Value, cur.size = gc * 2 ∧ w' = w.drew.alloc (.cells cur 58) := ⟨_, by simp [Builtin.zeroCells, Value.cells]; omega, hw⟩
  rw [hw2]
  refine ⟨_, rfl, ⟨rfl, Or.inr ⟨w.heap.size, gc, cur, rfl, Nat.le_refl _, ?_, Nat.zero_le _, hle, hcs, by simp⟩⟩, (Below.refl _ _).drew.alloc (by simp) _⟩
  show (w.heap.push (Obj.cells cur 58))[w.heap.size]? = some _
  simp
theorem rowF_shape {w : World} {base : Nat} {t : TypeId} {sz : Nat} {v : Value} {n : Nat} {xs : List Value} (h : w.ownsRow base t sz v n xs) : ∃ ao c, v = .slice ao n c ∧ n ≤ c := by
  rcases h.2 with ⟨rfl, hx⟩ | ⟨g, cap, cur, rfl, _, _, hc, _⟩
  · exact ⟨none, 0, by have := h.1; simp_all, by have := h.1; simp_all⟩
  · exact ⟨_, cap, rfl, hc⟩

set_option maxRecDepth 100000 in
set_option maxHeartbeats 2000000 in
theorem ConcatF_some (g R C : Nat) (rb : Nat → Nat) (f : Nat → Nat → Nat × Nat) (w : World) (h0 : 0 < R) (hC : 0 < C) (hr : ∀ i, i < R → w.cell? ⟨g, i, none⟩ = some (.slice (some ⟨rb i, 0, none⟩) C C) ∧ RowIs w (rb i) (2 * C) (frC (f i))) (hR : R ≤ 16) (hC16 : C ≤ 16) :
    Calls Tryd.prog 23 #[.slice (some ⟨g, 0, none⟩) R R] w fun e w' => ∃ v', e = .returned v' ∧ w'.ownsRow w.heap.size 58 2 v' (flatF C f R).length (frL (flatF C f R)) ∧ Below w.heap.size w w' := by
  obtain ⟨i0, hi, hz0, hz1, hz2⟩ := info_parts Tryd.infoFc
  have HINF : Hid (Tryd.prog.info? 58 = some i0 ∧ i0.zero = some (.agg #[.int .i64 0, .int .i64 0]) ∧ i0.size = 2 ∧ i0.bytes = 16) := ⟨hi, hz0, hz1, hz2⟩
  have HR : Hid (∀ W, Below w.heap.size w W → ∀ i, i < R → W.cell? ⟨g, i, none⟩ = some (.slice (some ⟨rb i, 0, none⟩) C C) ∧ RowIs W (rb i) (2 * C) (frC (f i))) := fun W hb i hi => ⟨by rw [hb.cell (cell_lt (hr i hi).1)]; exact (hr i hi).1, ⟨fun k hk => by rw [hb.cell (cell_lt ((hr i hi).2.row k hk))]; exact (hr i hi).2.row k hk, fun k hk => by rw [hb.frozen (cell_lt ((hr i hi).2.row k hk))]; exact (hr i hi).2.fz k hk⟩⟩
  have hRC : R * C ≤ 256 := Nat.le_trans (Nat.mul_le_mul hR hC16) (by decide)
  have hRC0 : 0 < R * C := Nat.mul_pos h0 hC
  have HG := Hid.mk' (growF_none (R * C) w hRC0 (by omega))
  clear hi hz0 hz1 hz2 hr
  go_enter Tryd.func23, Tryd.ntmps23
  go_wp2_with fail
  go_loopw [3, 5, 11] (fun s _ i wr => ∃ k : Nat, k ≤ R ∧ s = .int .i64 ((k * C : Nat) : Int) ∧ i = .int .i64 k ∧ wr = w) (fun _ _ i _ => R - (intOf i).toNat)
  case atStart => exact ⟨0, Nat.zero_le _, by simp, rfl, rfl⟩
  case round =>
    obtain ⟨k, hk, rfl, rfl, hwr⟩ := hrel
    rw [hwr]
    clear hwr
    rcases Nat.lt_or_ge k R with h1 | h1
    · have hc := (HR.out w (Below.refl _ _) k h1).1
      have hkn : (k : Int) < (R : Int) := by omega
      have hm : k * C + C ≤ R * C := by rw [← Nat.succ_mul]; exact Nat.mul_le_mul_right _ h1
      have HE : Hid ((k + 1) * C = k * C + C) := Nat.succ_mul k C
      generalize R * C = M at *
      generalize k * C = sk at *
      go_wp2_with fail
      exact ⟨⟨k + 1, h1, by rw [HE.out]; go_num, by go_num, trivial⟩, by simp [intOf]; omega⟩
    · obtain rfl : k = R := by omega
      generalize hM : k * C = M at *
      have HM := Hid.mk' hM
      clear hM
      go_wp2_with fail
      refine HG.out.mono ?_
      rintro e w1 ⟨v1, rfl, hown1, hb1⟩
      have HO1 := Hid.mk' hown1
      have HB1 := Hid.mk' hb1
      clear hown1 hb1
      go_wp2_with fail
      go_loopw [6, 8, 27] (fun u _ i wr => ∃ j : Nat, j ≤ k ∧ i = .int .i64 j ∧ Hid (wr.ownsRow w.heap.size 58 2 u (flatF C f j).length (frL (flatF C f j))) ∧ Hid (Below w.heap.size w wr)) (fun _ _ i _ => k - (intOf i).toNat)
      case atStart => exact ⟨0, Nat.zero_le _, rfl, HO1, HB1⟩
      case round =>
        obtain ⟨j, hj, rfl, HO, HB⟩ := hrel
        rcases Nat.lt_or_ge j k with h2 | h2
        · obtain ⟨hc', hri⟩ := HR.out wr HB.out j h2
          have hkn : (j : Int) < (k : Int) := by omega
          have hm2 : j * C + C ≤ M := by rw [← HM.out, ← Nat.succ_mul]; exact Nat.mul_le_mul_right _ h2
          have hfb : (flatF C f j).length ≤ 1000 ∧ (flatF C f j).length + C ≤ 1000 := by rw [flatF_length]; omega
          have HR1 := Hid.mk' hri
          have HL : Hid ((frL ((List.range C).map (f j))).length = C * 2) := by show _ = _; rw [frL_length]; simp
          have HE : Hid (frL (flatF C f (j + 1)) = frL (flatF C f j) ++ frL ((List.range C).map (f j)) ∧ (flatF C f (j + 1)).length = (flatF C f j).length + C) := by
            refine ⟨?_, ?_⟩
            · show frL (flatF C f j ++ (List.range C).map (f j)) = _
              rw [frL_append]
            · show (flatF C f j ++ (List.range C).map (f j)).length = _
              rw [List.length_append]; simp
          have hzB := HB.out.size
          clear hri hm2
          go_wp2_with (at_builtin; go_must (refine wpList_append_lies _ rfl _ _ _ rfl w.heap.size 58 i0 _ 2 16 Tryd.underlying53 HINF.out.1 HINF.out.2.1 HINF.out.2.2.1 HINF.out.2.2.2 rfl (by omega) u6 _ _ rfl HO.out ⟨rb j, 0, none⟩ C C (frL ((List.range C).map (f j))) rfl HL.out (fun j u hu => row_news HR1.out j u hu) (fun u hu => frL_one hu) (by omega) (by unfold maxLen; omega) (by omega) (by omega) _ rfl ?_; intro g' cap2 w3 hown3 hgrow3 hat3 hlt3; have HO3 := Hid.mk' hown3; have HG3 := Hid.mk' hgrow3; clear hown3 hgrow3 hat3))
          refine ⟨⟨j + 1, h2, by go_num, ?_, below_grow HB.out HO.out HG3.out⟩, by simp [intOf]; omega⟩
          rw [HE.out.1, HE.out.2]
          exact HO3
        · obtain rfl : j = k := by omega
          go_wp2_with fail
          go_ret
          exact ⟨_, rfl, HO.out, HB.out⟩
end Go.Proofs.YthfonahbjiobcaaDoor

/- No error is told by a number here. -/

/- Right chains: the document's and the program's. -/
namespace Go.Proofs.YthfonahbjiobcaaDoor
open Go.RowKit

/-- A row among the first k that is of another length, below 0 or nothing; one that is too great. -/
def shapeB (n : Nat) (ns : Nat → Nat) (zs : Nat → Nat → Int) : Nat → Bool
  | 0 => false
  | k + 1 => shapeB n ns zs k || decide (ns k ≠ n ∨ listErr (zs k) (ns k) = 3)
def boundB (ns : Nat → Nat) (zs : Nat → Nat → Int) : Nat → Bool
  | 0 => false
  | k + 1 => boundB ns zs k || decide (listErr (zs k) (ns k) ≠ 0)
def chainErr (n : Nat) (ns : Nat → Nat) (zs : Nat → Nat → Int) : Nat := if 8 < n then 2 else if n = 0 then 3 else if shapeB n ns zs n = true then 3 else if boundB ns zs n = true then 2 else 0
theorem shapeB_at {n : Nat} {ns : Nat → Nat} {zs : Nat → Nat → Int} {k : Nat} : ∀ {m : Nat}, k < m → (ns k ≠ n ∨ listErr (zs k) (ns k) = 3) → shapeB n ns zs m = true
  | 0, h, _ => by omega
  | m + 1, h, hb => by
    rw [shapeB]
    rcases Nat.lt_or_ge k m with h1 | h1
    · rw [shapeB_at h1 hb]; rfl
    · obtain rfl : k = m := by omega
      rw [decide_eq_true hb]; simp
theorem shapeB_none {n : Nat} {ns : Nat → Nat} {zs : Nat → Nat → Int} : ∀ {m : Nat}, shapeB n ns zs m = false → ∀ k, k < m → ns k = n ∧ listErr (zs k) (ns k) ≠ 3
  | 0, _, k, h => by omega
  | m + 1, h, k, hk => by
    rw [shapeB, Bool.or_eq_false_iff] at h
    rcases Nat.lt_or_ge k m with h1 | h1
    · exact shapeB_none h.1 k h1
    · obtain rfl : k = m := by omega
      have := of_decide_eq_false h.2
      exact ⟨by omega, by omega⟩
theorem boundB_none {ns : Nat → Nat} {zs : Nat → Nat → Int} : ∀ {m : Nat}, boundB ns zs m = false → ∀ k, k < m → listErr (zs k) (ns k) = 0
  | 0, _, k, h => by omega
  | m + 1, h, k, hk => by
    rw [boundB, Bool.or_eq_false_iff] at h
    rcases Nat.lt_or_ge k m with h1 | h1
    · exact boundB_none h.1 k h1
    · obtain rfl : k = m := by omega
      have := of_decide_eq_false h.2
      omega
theorem listErr_cases (z : Nat → Int) (n : Nat) : listErr z n = 0 ∨ listErr z n = 2 ∨ listErr z n = 3 := by
  unfold listErr
  split
  · exact Or.inr (Or.inr rfl)
  · split
    · exact Or.inr (Or.inl rfl)
    · exact Or.inl rfl
theorem chainErr_le (n : Nat) (ns : Nat → Nat) (zs : Nat → Nat → Int) : chainErr n ns zs ≤ 3 := by
  unfold chainErr; split; omega; split; omega; split; omega; split <;> omega
/-- What a right chain is. -/
theorem chainErr_ok {n : Nat} {ns : Nat → Nat} {zs : Nat → Nat → Int} (h : chainErr n ns zs = 0) : 0 < n ∧ n ≤ 8 ∧ (∀ i, i < n → ns i = n) ∧ ∀ i, i < n → OkW (zs i) n := by
  unfold chainErr at h
  by_cases h1 : 8 < n
  · rw [if_pos h1] at h; cases h
  rw [if_neg h1] at h
  by_cases h2 : n = 0
  · rw [if_pos h2] at h; cases h
  rw [if_neg h2] at h
  cases h3 : shapeB n ns zs n with
  | true => rw [h3, if_pos rfl] at h; cases h
  | false =>
    rw [h3, if_neg (by simp)] at h
    cases h4 : boundB ns zs n with
    | true => rw [h4, if_pos rfl] at h; cases h
    | false =>
      refine ⟨by omega, by omega, fun i hi => (shapeB_none h3 i hi).1, fun i hi => ?_⟩
      have := listErr_ok (boundB_none h4 i hi)
      rw [(shapeB_none h3 i hi).1] at this
      exact this

end Go.Proofs.YthfonahbjiobcaaDoor

/- Right channels: the program's. -/
namespace Go.Proofs.YthfonahbjiobcaaDoor
open Go.RowKit

theorem weightsErr_fewC {z : Nat → Int} {n : Nat} (h : n ≤ 16) : weightsErr z n = listErr z n := by unfold weightsErr; rw [if_neg (by omega)]
/-- A row among the first k whose sum is above 256. -/
def greatC (ns : Nat → Nat) (zs : Nat → Nat → Int) : Nat → Bool
  | 0 => false
  | k + 1 => greatC ns zs k || decide (256 < sumN (zs k) (ns k))
def chanErr (R : Nat) (ns : Nat → Nat) (zs : Nat → Nat → Int) : Nat := if 16 < R then 2 else if longB ns R = true then 2 else if R = 0 then 3 else if shapeB (ns 0) ns zs R = true then 3 else if greatC ns zs R = true then 2 else 0
theorem chanErr_le (n : Nat) (ns : Nat → Nat) (zs : Nat → Nat → Int) : chanErr n ns zs ≤ 3 := by
  unfold chanErr; split; omega; split; omega; split; omega; split; omega; split <;> omega
theorem greatC_none {ns : Nat → Nat} {zs : Nat → Nat → Int} : ∀ {m : Nat}, greatC ns zs m = false → ∀ k, k < m → sumN (zs k) (ns k) ≤ 256
  | 0, _, k, h => by omega
  | m + 1, h, k, hk => by
    rw [greatC, Bool.or_eq_false_iff] at h
    rcases Nat.lt_or_ge k m with h1 | h1
    · exact greatC_none h.1 k h1
    · obtain rfl : k = m := by omega
      have := of_decide_eq_false h.2
      omega
theorem listErr_not3 {z : Nat → Int} {n : Nat} (h : listErr z n ≠ 3) : negB z n = false ∧ someB z n = true := by
  unfold listErr at h
  constructor
  · cases hn : negB z n with
    | false => rfl
    | true => rw [hn, if_pos (Or.inl rfl)] at h; exact absurd rfl h
  · cases hs : someB z n with
    | true => rfl
    | false => rw [hs, if_pos (Or.inr rfl)] at h; exact absurd rfl h
/-- What a right channel is. -/
theorem chanErr_ok {n : Nat} {ns : Nat → Nat} {zs : Nat → Nat → Int} (h : chanErr n ns zs = 0) : 0 < n ∧ n ≤ 16 ∧ 0 < ns 0 ∧ ns 0 ≤ 16 ∧ (∀ i, i < n → ns i = ns 0) ∧ (∀ i, i < n → OkW (zs i) (ns 0)) ∧ ∀ i, i < n → sumN (zs i) (ns 0) ≤ 256 := by
  unfold chanErr at h
  by_cases h1 : 16 < n
  · rw [if_pos h1] at h; cases h
  rw [if_neg h1] at h
  cases hl : longB ns n with
  | true => rw [hl, if_pos rfl] at h; cases h
  | false =>
  rw [hl, if_neg (by simp)] at h
  by_cases h2 : n = 0
  · rw [if_pos h2] at h; cases h
  rw [if_neg h2] at h
  cases h3 : shapeB (ns 0) ns zs n with
  | true => rw [h3, if_pos rfl] at h; cases h
  | false =>
    rw [h3, if_neg (by simp)] at h
    cases h4 : greatC ns zs n with
    | true => rw [h4, if_pos rfl] at h; cases h
    | false =>
      have hok : ∀ i, i < n → OkW (zs i) (ns 0) := fun i hi => by
        obtain ⟨e, h5⟩ := shapeB_none h3 i hi
        have h6 := greatC_none h4 i hi
        obtain ⟨h7, h8⟩ := listErr_not3 h5
        rw [e] at h6 h7 h8
        refine listErr_ok (listErr_none0 h7 h8 (by omega))
      have hlen := not_long hl
      exact ⟨by omega, by omega, (hok 0 (by omega)).posN, hlen 0 (by omega), fun i hi => (shapeB_none h3 i hi).1, hok, fun i hi => by have := greatC_none h4 i hi; rw [(shapeB_none h3 i hi).1] at this; exact this⟩

theorem isLong_any (ad : Option Addr) (n cap : Nat) (w : World) (hn : n ≤ 1000000) :
    Calls Tryd.prog 43 #[.slice ad n cap] w fun e w' => e = .returned (.bool (decide (16 < n))) ∧ w' = w := by
  by_cases h : 16 < n
  · have hI : (16 : Int) < (n : Int) := by omega
    rw [decide_eq_true h]
    go_enter Tryd.func43, Tryd.ntmps43
    go_wp2_with fail
    go_ret
    exact ⟨rfl, rfl⟩
  · have hI : ¬ (16 : Int) < (n : Int) := by omega
    rw [decide_eq_false h]
    go_enter Tryd.func43, Tryd.ntmps43
    go_wp2_with fail
    go_ret
    exact ⟨rfl, rfl⟩

/-- Where a long row is, or -1. -/
def longAt (ns : Nat → Nat) : Nat → Nat → Int
  | 0, _ => -1
  | m + 1, k => if 16 < ns k then (k : Int) else longAt ns m (k + 1)
set_option maxRecDepth 100000 in
set_option maxHeartbeats 1000000 in
theorem IndexFunc_long (v : Value) (n : Nat) (vs : Nat → Value) (ns : Nat → Nat) (zs : Nat → Nat → Int) (w : World) (h : TabAt w v n vs ns zs) (hn : n ≤ 16) (hns : ∀ i, i < n → ns i ≤ 1000000) :
    Calls Tryd.prog 54 #[v, .func (.func 43) #[] #[]] w fun e w' => (∃ x : Int, e = .returned (.int .i64 x) ∧ ((0 ≤ x ↔ longB ns n = true) ∧ -1 ≤ x ∧ x ≤ 16)) ∧ w' = w := by
  obtain ⟨ad, cap, rfl⟩ := h.form
  have HT := Hid.mk' h
  have HNS := Hid.mk' hns
  clear h hns
  go_enter Tryd.func54, Tryd.ntmps54
  go_wp2_with fail
  go_loop [8] (fun t => ∃ k : Nat, k ≤ n ∧ t = .int .i64 k ∧ Hid (longB ns k = false)) (fun t => n - (intOf t).toNat)
  case atStart => exact ⟨0, Nat.zero_le _, rfl, rfl⟩
  case round =>
    obtain ⟨k, hk, rfl, HS⟩ := hrel
    rcases Nat.lt_or_ge k n with h1 | h1
    · have hkI : (k : Int) < (n : Int) := by omega
      have hk0 : (0 : Int) ≤ (k : Int) := by omega
      obtain ⟨b, o, rfl, hc, hnum⟩ : ∃ b o, ad = some ⟨b, o, none⟩ ∧ w.cell? ⟨b, o + k, none⟩ = some (vs k) ∧ NumsAt w (vs k) (ns k) (zs k) := by
        rcases HT.out with ⟨_, _, h1', h2'⟩ | ⟨b, o, c, h1', _, h2⟩
        · omega
        · simp only [Value.slice.injEq, true_and] at h1'
          exact ⟨b, o, h1'.1, h2 k h1⟩
      obtain ⟨rad, rcap, hre⟩ := hnum.form
      rw [hre] at hc
      have hnk := HNS.out k h1
      have hlg := isLong_any rad (ns k) rcap w hnk
      have HX : Hid (16 < ns k → longB ns n = true) := fun hl => longB_mono h1 hl
      have HL : Hid (longB ns (k + 1) = decide (16 < ns k)) := by show (longB ns k || _) = _; rw [HS.out, Bool.false_or]
      clear hre hnum
      generalize ns k = nk at *
      rcases Nat.lt_or_ge 16 nk with h5 | h5
      · rw [decide_eq_true h5] at hlg
        have HX' := Hid.mk' (HX.out h5)
        go_wp2_with fail
        refine hlg.mono ?_
        clear hlg
        rintro e w2 ⟨rfl, hw2⟩
        go_wp2_with fail
        go_ret
        exact ⟨⟨_, rfl, ⟨fun _ => HX'.out, fun _ => hk0⟩, by omega, by omega⟩, rfl⟩
      · rw [decide_eq_false (by omega)] at hlg
        have HL' : Hid (longB ns (k + 1) = false) := by show _ = _; rw [HL.out]; exact decide_eq_false (by omega)
        go_wp2_with fail
        refine hlg.mono ?_
        clear hlg
        rintro e w2 ⟨rfl, hw2⟩
        go_wp2_with fail
        exact ⟨⟨k + 1, h1, by go_num, HL'⟩, by simp [intOf]; omega⟩
    · obtain rfl : n = k := by omega
      go_wp2_with fail
      go_ret
      exact ⟨⟨_, rfl, ⟨(fun h => by omega), (fun h => by rw [HS.out] at h; cases h)⟩, by omega, by omega⟩, rfl⟩
set_option maxRecDepth 100000 in
theorem ContainsFunc_long (v : Value) (n : Nat) (vs : Nat → Value) (ns : Nat → Nat) (zs : Nat → Nat → Int) (w : World) (h : TabAt w v n vs ns zs) (hn : n ≤ 16) (hns : ∀ i, i < n → ns i ≤ 1000000) :
    Calls Tryd.prog 42 #[v, .func (.func 43) #[] #[]] w fun e w' => e = .returned (.bool (longB ns n)) ∧ w' = w := by
  have hI := IndexFunc_long v n vs ns zs w h hn hns
  obtain ⟨ad, cap, rfl⟩ := h.form
  clear h
  go_enter Tryd.func42, Tryd.ntmps42
  go_wp2_with fail
  refine hI.mono ?_
  clear hI
  rintro e w2 ⟨⟨x, rfl, hx, hx1, hx2⟩, hw2⟩
  have HX := Hid.mk' hx
  clear hx
  cases hl : longB ns n with
  | true =>
    have h0 : 0 ≤ x := HX.out.2 hl
    have HL := Hid.mk' hl
    clear hl
    go_wp2_with fail
    go_ret
    exact ⟨by rw [HL.out]; rfl, rfl⟩
  | false =>
    have h0 : decide (0 ≤ x) = false := decide_eq_false fun h => by rw [HX.out.1 h] at hl; cases hl
    have HL := Hid.mk' hl
    clear hl
    go_wp2_with fail
    go_ret
    exact ⟨by rw [HL.out]; rfl, rfl⟩
set_option maxRecDepth 100000 in
set_option maxHeartbeats 4000000 in
theorem chanValid_any (a : Nat → Addr) (v : Value) (n : Nat) (vs : Nat → Value) (ns : Nat → Nat) (zs : Nat → Nat → Int) (w : World) (hE : Errs w a) (h : TabAt w v n vs ns zs) (hn : n ≤ 1000000) (hns : ∀ i, i < n → ns i ≤ 1000000) :
    Calls Tryd.prog 18 #[v] w fun e w' => e = .returned (errV a (chanErr n ns zs)) ∧ w' = w := by
  by_cases h8 : 16 < n
  · obtain ⟨ad, cap, rfl⟩ := h.form
    have cB := hE.c1
    have hI : (16 : Int) < (n : Int) := by omega
    have he : chanErr n ns zs = 2 := by unfold chanErr; rw [if_pos h8]
    rw [he, errV_two]
    clear h hE hns
    go_enter Tryd.func18, Tryd.ntmps18
    go_wp2_with fail
    go_ret
    exact ⟨rfl, rfl⟩
  have hCF := ContainsFunc_long v n vs ns zs w h (by omega) hns
  obtain ⟨ad, cap, rfl⟩ := h.form
  have HT := Hid.mk' h
  have cB := hE.c1
  have cS := hE.c2
  obtain ⟨i, hi, hcmp⟩ := Option.map_eq_some_iff.1 Tryd.isComp
  obtain ⟨j, hj, hjs⟩ := Option.map_eq_some_iff.1 Tryd.isSize
  have heq := run_eql_iface_ptr_same (P := Tryd.prog) w (a 2) Tryd.underlying27 Tryd.underlying131 hi hcmp hj
  obtain ⟨ca, ta, hca⟩ := hE.row 1 (by decide)
  obtain ⟨cb, tb, hcb⟩ := hE.row 2 (by decide)
  have hne2 := run_eql_iface_ptr_other (P := Tryd.prog) w Tryd.underlying27 Tryd.underlying131 hi hcmp hj (by rw [hjs]; decide) (hE.ne 1 2 (by decide) (by decide) (by decide)) hca hcb
  have hnl := run_eql_iface_nil_left (P := Tryd.prog) (w := w) 131 (.pointer (some (a 2))) Tryd.underlying27
  have HEE := Hid.mk' hE
  clear h hca hcb hi hcmp hj hjs hE
  have hI : decide ((16 : Int) < (n : Int)) = false := decide_eq_false (by omega)
  cases hlg : longB ns n with
  | true =>
    have he : chanErr n ns zs = 2 := by unfold chanErr; rw [if_neg h8, if_pos hlg]
    rw [he, errV_two]
    rw [hlg] at hCF
    clear hlg he
    go_enter Tryd.func18, Tryd.ntmps18
    go_wp2_with fail
    refine hCF.mono ?_
    clear hCF
    rintro e w2 ⟨rfl, hw2⟩
    rw [hw2]
    clear hw2
    go_wp2_with fail
    go_ret
    exact ⟨rfl, rfl⟩
  | false =>
  rw [hlg] at hCF
  rcases Nat.eq_zero_or_pos n with h0 | h0
  · subst h0
    have he : chanErr 0 ns zs = 3 := by unfold chanErr; rw [if_neg h8, hlg, if_neg (by simp), if_pos rfl]
    rw [he, errV_three]
    clear hlg he
    go_enter Tryd.func18, Tryd.ntmps18
    go_wp2_with fail
    refine hCF.mono ?_
    clear hCF
    rintro e w2 ⟨rfl, hw2⟩
    rw [hw2]
    clear hw2
    go_wp2_with fail
    go_ret
    exact ⟨rfl, rfl⟩
  have hz : ((n : Int) == 0) = false := by rw [beq_eq_false_iff_ne]; omega
  obtain ⟨b, o, rfl, hrows⟩ : ∃ b o, ad = some ⟨b, o, none⟩ ∧ ∀ i, i < n → w.cell? ⟨b, o + i, none⟩ = some (vs i) ∧ NumsAt w (vs i) (ns i) (zs i) := by
    rcases HT.out with ⟨_, _, _, h1⟩ | ⟨b, o, c, h1, _, h2⟩
    · omega
    · simp only [Value.slice.injEq, true_and] at h1
      exact ⟨b, o, h1.1, h2⟩
  have HR := Hid.mk' hrows
  have HE : Hid (chanErr n ns zs = if shapeB (ns 0) ns zs n = true then 3 else if greatC ns zs n = true then 2 else 0) := by show _ = _; unfold chanErr; rw [if_neg h8, hlg, if_neg (by simp), if_neg (by omega)]
  have HLN := Hid.mk' (not_long hlg)
  obtain ⟨rad0, rcap0, hre0⟩ := (hrows 0 h0).2.form
  have hc0 : w.cell? ⟨b, o, none⟩ = some (.slice rad0 (ns 0) rcap0) := by have := (hrows 0 h0).1; rw [hre0, Nat.add_zero] at this; exact this
  have hn0 := not_long hlg 0 h0
  clear hrows hns hlg hre0
  go_enter Tryd.func18, Tryd.ntmps18
  go_wp2_with fail
  refine hCF.mono ?_
  clear hCF
  rintro e w2 ⟨rfl, hw2⟩
  rw [hw2]
  clear hw2
  go_wp2_with fail
  go_loop [3, 21] (fun s t => ∃ k : Nat, k ≤ n ∧ t = .int .i64 k ∧ s = errV a (if greatC ns zs k = true then 2 else 0) ∧ Hid (shapeB (ns 0) ns zs k = false)) (fun _ t => n - (intOf t).toNat)
  case atStart => exact ⟨0, Nat.zero_le _, rfl, rfl, rfl⟩
  case round =>
    obtain ⟨k, hk, rfl, hsl, HS⟩ := hrel
    have HSL := Hid.mk' hsl
    clear hsl
    rcases Nat.lt_or_ge k n with h1 | h1
    · have hkI : (k : Int) < (n : Int) := by omega
      have hk0 : (0 : Int) ≤ (k : Int) := by omega
      obtain ⟨hc, hnum⟩ := HR.out k h1
      obtain ⟨rad, rcap, hre⟩ := hnum.form
      rw [hre] at hc hnum
      have hnk := HLN.out k h1
      by_cases hsh : ns k = ns 0
      · have hle := Valid_weights a _ (ns k) (zs k) w HEE.out hnum (by omega)
        rw [weightsErr_fewC (by omega)] at hle
        have HS' : Hid (listErr (zs k) (ns k) ≠ 3 → shapeB (ns 0) ns zs (k + 1) = false) := fun h5 => by rw [shapeB, HS.out, decide_eq_false (by rw [hsh] at h5 ⊢; omega)]; rfl
        have HG : Hid (greatC ns zs (k + 1) = (greatC ns zs k || decide (256 < sumN (zs k) (ns k)))) := rfl
        rcases listErr_cases (zs k) (ns k) with h5 | h5 | h5
        · have hok := listErr_ok h5
          obtain ⟨rb, ro, rfl, hrow⟩ : ∃ rb ro, rad = some ⟨rb, ro, none⟩ ∧ RowAt w rb ro (ns k) (zs k) := by
            rcases hnum with ⟨_, _, _, h6⟩ | ⟨rb, ro, c, h6, _, h7⟩
            · have := hok.posN; omega
            · simp only [Value.slice.injEq, true_and] at h6
              exact ⟨rb, ro, h6.1, h7⟩
          have htot := total_some rb ro rcap (ns k) (zs k) w hrow (fun m hm => by have := hok.part hm; omega) (fun m hm => by have := hok.lt hm; omega) (by omega)
          have hsm := hok.part (Nat.le_refl (ns k))
          have HS2 := Hid.mk' (HS'.out (by rw [h5]; decide))
          rw [h5, errV_zero] at hle
          rw [hsh] at hle hc htot hsm HG
          have hnn : ((ns 0 : Int) != (ns 0 : Int)) = false := by simp
          generalize sumN (zs k) (ns 0) = sk at *
          clear h5 hsh hre hnum hok hrow HS'
          by_cases hg : 256 < sk
          · have HG' : Hid (greatC ns zs (k + 1) = true) := by show _ = _; rw [HG.out, decide_eq_true hg]; simp
            go_wp2_with fail
            refine hle.mono ?_
            clear hle
            rintro e w2 ⟨rfl, hw2⟩
            rw [hw2]
            clear hw2
            go_wp2_with fail
            refine htot.mono ?_
            clear htot
            rintro e w2 ⟨rfl, hw2⟩
            rw [hw2]
            clear hw2
            go_wp2_with fail
            exact ⟨⟨k + 1, h1, by go_num, by rw [HG'.out, if_pos rfl, errV_two], HS2⟩, by simp [intOf]; omega⟩
          · have hgd : decide (256 < sk) = false := decide_eq_false hg
            have HG' : Hid (greatC ns zs (k + 1) = greatC ns zs k) := by show _ = _; rw [HG.out, hgd]; simp
            go_wp2_with fail
            refine hle.mono ?_
            clear hle
            rintro e w2 ⟨rfl, hw2⟩
            rw [hw2]
            clear hw2
            go_wp2_with fail
            refine htot.mono ?_
            clear htot
            rintro e w2 ⟨rfl, hw2⟩
            rw [hw2]
            clear hw2
            go_wp2_with fail
            exact ⟨⟨k + 1, h1, by go_num, by rw [HG'.out]; exact HSL.out, HS2⟩, by simp [intOf]; omega⟩
        · have hgr : 256 < sumN (zs k) (ns k) := by
            have h6 := listErr_not3 (z := zs k) (n := ns k) (by rw [h5]; decide)
            rcases Int.lt_or_le 256 (sumN (zs k) (ns k)) with h7 | h7
            · exact h7
            · rw [listErr_none0 h6.1 h6.2 (by omega)] at h5; cases h5
          have HS2 := Hid.mk' (HS'.out (by rw [h5]; decide))
          have HG' : Hid (greatC ns zs (k + 1) = true) := by show _ = _; rw [HG.out, decide_eq_true hgr]; simp
          rw [h5, errV_two] at hle
          rw [hsh] at hle hc
          have hnn : ((ns 0 : Int) != (ns 0 : Int)) = false := by simp
          clear h5 hsh hre hnum hgr HS' HG
          go_wp2_with (first
            | (go_at_call 19; refine hle.mono ?_; rintro e w2 ⟨rfl, hw2⟩; rw [hw2]; clear hw2))
          exact ⟨⟨k + 1, h1, by go_num, by rw [HG'.out, if_pos rfl, errV_two], HS2⟩, by simp [intOf]; omega⟩
        · rw [h5, errV_three] at hle
          have HV : Hid (chanErr n ns zs = 3) := by show _ = _; rw [HE.out, if_pos (shapeB_at h1 (Or.inr h5))]
          rw [hsh] at hle hc
          have hnn : ((ns 0 : Int) != (ns 0 : Int)) = false := by simp
          clear h5 hsh hre hnum HS' HG
          go_wp2_with (first
            | (go_at_call 19; refine hle.mono ?_; rintro e w2 ⟨rfl, hw2⟩; rw [hw2]; clear hw2))
          go_ret
          exact ⟨by rw [HV.out, errV_three]; rfl, rfl⟩
      · have hne : ((ns k : Int) != (ns 0 : Int)) = true := by rw [bne_iff_ne]; omega
        have HV : Hid (chanErr n ns zs = 3) := by show _ = _; rw [HE.out, if_pos (shapeB_at h1 (Or.inl hsh))]
        clear hsh hre hnum
        go_wp2_with fail
        go_ret
        exact ⟨by rw [HV.out, errV_three]; rfl, rfl⟩
    · obtain rfl : n = k := by omega
      have HV : Hid (chanErr n ns zs = if greatC ns zs n = true then 2 else 0) := by show _ = _; rw [HE.out, HS.out, if_neg (by simp)]
      go_wp2_with fail
      go_ret
      exact ⟨by rw [HV.out, ← HSL.out]; rfl, rfl⟩
end Go.Proofs.YthfonahbjiobcaaDoor

/- channel.Table. -/
namespace Go.Proofs.YthfonahbjiobcaaDoor
open Go.RowKit

/-- What is wrong with what goes in; the chances; their least common denominator; the table's error. -/
def inErr (n : Nat) (z : Nat → Int) (R : Nat) (ns : Nat → Nat) (zs : Nat → Nat → Int) : Nat := if chanErr R ns zs ≠ 0 then chanErr R ns zs else if weightsErr z n ≠ 0 then weightsErr z n else if n ≠ R then 3 else 0
def inF (n : Nat) (z : Nat → Int) (C : Nat) (zs : Nat → Nat → Int) (i k : Nat) : Nat × Nat := chaF (fun i => (z i).toNat) (sumN z n).toNat (fun i k => (zs i k).toNat) (fun i => (sumN (zs i) C).toNat) i k
def inL (n : Nat) (z : Nat → Int) (R C : Nat) (zs : Nat → Nat → Int) : Nat := lcmP (flatF C (inF n z C zs) R)
def outZ (n : Nat) (z : Nat → Int) (R C : Nat) (zs : Nat → Nat → Int) (i k : Nat) : Int := (wholeP (inL n z R C zs) (inF n z C zs i k) : Int)
def taErr (n : Nat) (z : Nat → Int) (R : Nat) (ns : Nat → Nat) (zs : Nat → Nat → Int) : Nat := if inErr n z R ns zs ≠ 0 then inErr n z R ns zs else if 4096 < inL n z R (ns 0) zs then 2 else 0
theorem inErr_ok {n : Nat} {z : Nat → Int} {R : Nat} {ns : Nat → Nat} {zs : Nat → Nat → Int} (h : inErr n z R ns zs = 0) : chanErr R ns zs = 0 ∧ weightsErr z n = 0 ∧ n = R := by
  unfold inErr at h
  by_cases h1 : chanErr R ns zs ≠ 0
  · rw [if_pos h1] at h; exact absurd h h1
  rw [if_neg h1] at h
  by_cases h2 : weightsErr z n ≠ 0
  · rw [if_pos h2] at h; exact absurd h h2
  rw [if_neg h2] at h
  by_cases h3 : n ≠ R
  · rw [if_pos h3] at h; cases h
  exact ⟨by omega, by omega, by omega⟩
theorem inErr_le (n : Nat) (z : Nat → Int) (R : Nat) (ns : Nat → Nat) (zs : Nat → Nat → Int) : inErr n z R ns zs ≤ 3 := by
  have h1 := chanErr_le R ns zs
  have h2 := weightsErr_le z n
  unfold inErr
  split
  · exact h1
  · split
    · exact h2
    · split <;> omega
theorem taErr_le (n : Nat) (z : Nat → Int) (R : Nat) (ns : Nat → Nat) (zs : Nat → Nat → Int) : taErr n z R ns zs ≤ 3 := by
  have := inErr_le n z R ns zs
  unfold taErr
  split
  · exact this
  · split <;> omega

/-- What a right input is, in numbers from 0 on. -/
structure InOk (n : Nat) (z : Nat → Int) (R C : Nat) (zs : Nat → Nat → Int) : Prop where
  n0 : 0 < R
  n16 : R ≤ 16
  c0 : 0 < C
  c16 : C ≤ 16
  nR : n = R
  okp : OkW z R
  okc : ∀ i, i < R → OkW (zs i) C
  le : ∀ i, i < R → sumN (zs i) C ≤ 256
theorem inOk_of {n : Nat} {z : Nat → Int} {R : Nat} {ns : Nat → Nat} {zs : Nat → Nat → Int} (h : inErr n z R ns zs = 0) : InOk n z R (ns 0) zs ∧ ∀ i, i < R → ns i = ns 0 := by
  obtain ⟨h1, h2, rfl⟩ := inErr_ok h
  obtain ⟨a, b, c, d, e, f, g⟩ := chanErr_ok h1
  exact ⟨⟨a, b, c, d, rfl, (weightsErr_ok h2).2, f, g⟩, e⟩
theorem sumN_toNat {z : Nat → Int} : ∀ {n : Nat}, (∀ i, i < n → 0 ≤ z i) → (sumN z n).toNat = sumW (fun i => (z i).toNat) n
  | 0, _ => rfl
  | n + 1, h => by
    have h1 := sumN_toNat (n := n) fun i hi => h i (by omega)
    have h2 := sumN_nonneg (n := n) fun i hi => h i (by omega)
    have h3 := h n (by omega)
    show (sumN z n + z n).toNat = sumW _ n + (z n).toNat
    omega
theorem InOk.sums {n : Nat} {z : Nat → Int} {R C : Nat} {zs : Nat → Nat → Int} (h : InOk n z R C zs) : (sumN z n).toNat = sumW (fun i => (z i).toNat) R ∧ 0 < (sumN z n).toNat ∧ ∀ i, i < R → (sumN (zs i) C).toNat = sumW (fun k => (zs i k).toNat) C ∧ 0 < (sumN (zs i) C).toNat := by
  have e := h.nR
  subst e
  refine ⟨sumN_toNat fun i hi => (h.okp.lt hi).1, by have := h.okp.pos; omega, fun i hi => ⟨sumN_toNat fun k hk => ((h.okc i hi).lt hk).1, by have := (h.okc i hi).pos; omega⟩⟩
theorem InOk.gcd {n : Nat} {z : Nat → Int} {R C : Nat} {zs : Nat → Nat → Int} (h : InOk n z R C zs) : gcdP (inL n z R C zs) (flatF C (inF n z C zs) R) = 1 := by
  obtain ⟨h1, h2, h3⟩ := h.sums
  exact chaF_gcd h1 h2 h3
theorem InOk.sum {n : Nat} {z : Nat → Int} {R C : Nat} {zs : Nat → Nat → Int} (h : InOk n z R C zs) : sumP (inL n z R C zs) (flatF C (inF n z C zs) R) = inL n z R C zs := by
  obtain ⟨h1, h2, h3⟩ := h.sums
  exact chaF_sum h1 h2 h3
theorem InOk.low {n : Nat} {z : Nat → Int} {R C : Nat} {zs : Nat → Nat → Int} (h : InOk n z R C zs) {i : Nat} (hi : i < R) (k : Nat) : LowP (inF n z C zs i k) := by
  obtain ⟨h1, h2, h3⟩ := h.sums
  exact lowP_low (Nat.mul_pos h2 (h3 i hi).2)
theorem InOk.bounds {n : Nat} {z : Nat → Int} {R C : Nat} {zs : Nat → Nat → Int} (h : InOk n z R C zs) {i k : Nat} (hi : i < R) (hk : k < C) : (z i).toNat ≤ 4096 ∧ (zs i k).toNat ≤ 256 ∧ (sumN z n).toNat ≤ 4096 ∧ (sumN (zs i) C).toNat ≤ 256 ∧ 0 < (inF n z C zs i k).2 ∧ (inF n z C zs i k).2 ≤ 1048576 ∧ (inF n z C zs i k).1 ≤ 1048576 := by
  have h1 := h.okp.lt hi
  have h2 := sumN_ge (fun k hk => ((h.okc i hi).lt hk).1) hk
  have h3 := h.le i hi
  have h4 := h.okp.part (Nat.le_refl _)
  rw [← h.nR] at h4
  have hc : (zs i k).toNat ≤ 256 := by omega
  have hp : (z i).toNat ≤ 4096 := by omega
  have hS : (sumN z n).toNat ≤ 4096 := by omega
  have hT : (sumN (zs i) C).toNat ≤ 256 := by omega
  refine ⟨hp, hc, hS, hT, (h.low hi k).1, ?_, ?_⟩
  · exact Nat.le_trans (Nat.div_le_self _ _) (Nat.le_trans (Nat.mul_le_mul hS hT) (by decide))
  · exact Nat.le_trans (Nat.div_le_self _ _) (Nat.le_trans (Nat.mul_le_mul hc hp) (by decide))
theorem toNat_row {w : World} {b o n : Nat} {z : Nat → Int} (h : RowAt w b o n z) (h0 : ∀ i, i < n → 0 ≤ z i) : RowAt w b o n (fun i => ((z i).toNat : Int)) := fun i hi => by
  rw [h i hi]
  have := h0 i hi
  congr 2
  show z i = ((z i).toNat : Int)
  omega

set_option maxRecDepth 100000 in
theorem Table_chan (a : Nat → Addr) (ad : Option Addr) (n cap : Nat) (v : Value) (R : Nat) (vs : Nat → Value) (ns : Nat → Nat) (zs : Nat → Nat → Int) (w : World) (hE : Errs w a) (h : TabAt w v R vs ns zs) (hR : R ≤ 40) (hns : ∀ i, i < R → ns i ≤ 400) (he : chanErr R ns zs ≠ 0) :
    Calls Tryd.prog 6 #[.slice ad n cap, v] w fun e w' => e = .returned (.tuple #[.slice none 0 0, errV a (chanErr R ns zs)]) ∧ w' = w := by
  have hV := chanValid_any a v R vs ns zs w hE h (by omega) (fun i hi => by have := hns i hi; omega)
  obtain ⟨ad', cap', rfl⟩ := h.form
  rw [errV_pos a he] at hV ⊢
  generalize a (chanErr R ns zs - 1) = pa at *
  clear h hE hns
  go_enter Tryd.func6, Tryd.ntmps6
  go_wp2_with fail
  refine hV.mono ?_
  clear hV
  rintro e w2 ⟨rfl, hw2⟩
  rw [hw2]
  clear hw2
  go_wp2_with fail
  go_ret2
  exact ⟨rfl, rfl⟩
set_option maxRecDepth 100000 in
theorem Table_weights (a : Nat → Addr) (u : Value) (n : Nat) (z : Nat → Int) (v : Value) (R : Nat) (vs : Nat → Value) (ns : Nat → Nat) (zs : Nat → Nat → Int) (w : World) (hE : Errs w a) (hu : NumsAt w u n z) (h : TabAt w v R vs ns zs) (hn : n ≤ 1000) (hR : R ≤ 40) (hns : ∀ i, i < R → ns i ≤ 400) (he : chanErr R ns zs = 0) (hwe : weightsErr z n ≠ 0) :
    Calls Tryd.prog 6 #[u, v] w fun e w' => e = .returned (.tuple #[.slice none 0 0, errV a (weightsErr z n)]) ∧ w' = w := by
  have hV := chanValid_any a v R vs ns zs w hE h (by omega) (fun i hi => by have := hns i hi; omega)
  have hW := Valid_weights a u n z w hE hu (by omega)
  obtain ⟨ad', cap', rfl⟩ := h.form
  obtain ⟨ad, cap, rfl⟩ := hu.form
  rw [he, errV_zero] at hV
  rw [errV_pos a hwe] at hW ⊢
  generalize a (weightsErr z n - 1) = pa at *
  clear h hE hns hu he
  go_enter Tryd.func6, Tryd.ntmps6
  go_wp2_with fail
  refine hV.mono ?_
  clear hV
  rintro e w2 ⟨rfl, hw2⟩
  rw [hw2]
  clear hw2
  go_wp2_with fail
  refine hW.mono ?_
  clear hW
  rintro e w2 ⟨rfl, hw2⟩
  rw [hw2]
  clear hw2
  go_wp2_with fail
  go_ret2
  exact ⟨rfl, rfl⟩
set_option maxRecDepth 100000 in
theorem Table_lens (a : Nat → Addr) (u : Value) (n : Nat) (z : Nat → Int) (v : Value) (R : Nat) (vs : Nat → Value) (ns : Nat → Nat) (zs : Nat → Nat → Int) (w : World) (hE : Errs w a) (hu : NumsAt w u n z) (h : TabAt w v R vs ns zs) (hn : n ≤ 1000) (hR : R ≤ 40) (hns : ∀ i, i < R → ns i ≤ 400) (he : chanErr R ns zs = 0) (hwe : weightsErr z n = 0) (hne : n ≠ R) :
    Calls Tryd.prog 6 #[u, v] w fun e w' => e = .returned (.tuple #[.slice none 0 0, errV a 3]) ∧ Below w.heap.size w w' := by
  have hV := chanValid_any a v R vs ns zs w hE h (by omega) (fun i hi => by have := hns i hi; omega)
  have hW := Valid_weights a u n z w hE hu (by omega)
  obtain ⟨ad', cap', rfl⟩ := h.form
  obtain ⟨ad, cap, rfl⟩ := hu.form
  rw [he, errV_zero] at hV
  rw [hwe, errV_zero] at hW
  rw [errV_three]
  have cS := hE.c2
  have hnb : ((n : Int) != (R : Int)) = true := by rw [bne_iff_ne]; omega
  clear h hE hns hu he hwe hne
  go_enter Tryd.func6, Tryd.ntmps6
  go_wp2_with fail
  refine hV.mono ?_
  clear hV
  rintro e w2 ⟨rfl, hw2⟩
  rw [hw2]
  clear hw2
  go_wp2_with fail
  refine hW.mono ?_
  clear hW
  rintro e w2 ⟨rfl, hw2⟩
  rw [hw2]
  clear hw2
  go_wp2_with fail
  go_region
  all_goals
    go_wp2_with fail
    go_ret2
    exact ⟨rfl, (Below.refl _ _).drew⟩

theorem wrapc_nat {x : Int} (h0 : 0 ≤ x) (h : x ≤ 1152921504606846976) : IntKind.i64.wrap x = x := by
  simp only [IntKind.wrap_i64]
  omega
theorem Tryd.infoFcs : (Tryd.prog.info? 53).map (fun i => (i.zero, i.size, i.bytes)) = some (some (.slice none 0 0), 1, 24) := by kernel_rfl

set_option maxRecDepth 100000 in
set_option maxHeartbeats 8000000 in
theorem Table_main (a : Nat → Addr) (u : Value) (n : Nat) (z : Nat → Int) (v : Value) (R : Nat) (vs : Nat → Value) (ns : Nat → Nat) (zs : Nat → Nat → Int) (w : World) (hE : Errs w a) (hu : NumsAt w u n z) (h : TabAt w v R vs ns zs) (he : inErr n z R ns zs = 0) :
    Calls Tryd.prog 6 #[u, v] w fun e w' => (inL n z R (ns 0) zs ≤ 4096 → ∃ g rb, e = .returned (.tuple #[.slice (some ⟨g, 0, none⟩) R R, .nilIface]) ∧ FG w w' g R (ns 0) (ns 0) R rb (fun i k => .int .i64 (outZ n z R (ns 0) zs i k))) ∧ (4096 < inL n z R (ns 0) zs → e = .returned (.tuple #[.slice none 0 0, errV a 2])) ∧ Below w.heap.size w w' := by
  obtain ⟨hok, hev⟩ := inOk_of he
  obtain ⟨hch, hwe, _⟩ := inErr_ok he
  have hV := chanValid_any a v R vs ns zs w hE h (by have := hok.n16; omega) (fun i hi => by rw [hev i hi]; have := hok.c16; omega)
  have hW := Valid_weights a u n z w hE hu (by have := hok.n16; have := hok.nR; omega)
  rw [hch, errV_zero] at hV
  rw [hwe, errV_zero] at hW
  obtain rfl := hok.nR
  have HOK := Hid.mk' hok
  obtain ⟨pb, po, cap, rfl, hp⟩ : ∃ pb po cap, u = .slice (some ⟨pb, po, none⟩) n cap ∧ RowAt w pb po n z := by
    rcases hu with ⟨_, _, _, h1⟩ | ⟨pb, po, cap, h1, _, h2⟩
    · have := hok.n0; omega
    · exact ⟨pb, po, cap, h1, h2⟩
  obtain ⟨b, o, cap', rfl, hr⟩ : ∃ b o cap', v = .slice (some ⟨b, o, none⟩) n cap' ∧ ∀ i, i < n → ∃ rb ro rc, w.cell? ⟨b, o + i, none⟩ = some (.slice (some ⟨rb, ro, none⟩) (ns 0) rc) ∧ RowAt w rb ro (ns 0) (zs i) := by
    rcases h with ⟨_, _, _, h1⟩ | ⟨b, o, cap', h1, _, h2⟩
    · have := hok.n0; omega
    · refine ⟨b, o, cap', h1, fun i hi => ?_⟩
      obtain ⟨h3, h4⟩ := h2 i hi
      rw [hev i hi] at h4
      rcases h4 with ⟨_, _, _, h5⟩ | ⟨rb, ro, rc, h5, _, h6⟩
      · have := hok.c0; omega
      · exact ⟨rb, ro, rc, by rw [h3, h5], h6⟩
  obtain ⟨i0, hi, hz0, hz1, hz2⟩ := info_parts Tryd.infoFcs
  have HINF : Hid (Tryd.prog.info? 53 = some i0 ∧ i0.zero = some (.slice none 0 0) ∧ i0.size = 1 ∧ i0.bytes = 24) := ⟨hi, hz0, hz1, hz2⟩
  clear hi hz0 hz1 hz2
  obtain ⟨i1, hi, hz0, hz1, hz2⟩ := info_parts Tryd.infoInts
  have HINI : Hid (Tryd.prog.info? 22 = some i1 ∧ i1.zero = some (.slice none 0 0) ∧ i1.size = 1 ∧ i1.bytes = 24) := ⟨hi, hz0, hz1, hz2⟩
  clear hi hz0 hz1 hz2
  have cB := hE.c1
  have HE := Hid.mk' hE
  have HP : Hid (∀ W, Below w.heap.size w W → RowAt W pb po n z) := fun W hb => hp.later hb
  have HR : Hid (∀ W, Below w.heap.size w W → ∀ i, i < n → ∃ rb ro rc, W.cell? ⟨b, o + i, none⟩ = some (.slice (some ⟨rb, ro, none⟩) (ns 0) rc) ∧ RowAt W rb ro (ns 0) (zs i)) := fun W hb i hi => by
    obtain ⟨rb, ro, rc, h1, h2⟩ := hr i hi
    exact ⟨rb, ro, rc, by rw [hb.cell (cell_lt h1)]; exact h1, h2.later hb⟩
  have h16 := hok.n16
  have h0 := hok.n0
  have hC16 := hok.c16
  have hC0 := hok.c0
  have HTP : Hid (∀ W, Below w.heap.size w W → Calls Tryd.prog 20 #[.slice (some ⟨pb, po, none⟩) n cap] W fun e w' => e = .returned (.int .i64 ((sumN z n).toNat : Int)) ∧ w' = W) := fun W hb => by
    refine (total_some pb po cap n z W (hp.later hb) (fun m hm => by have := hok.okp.part hm; omega) (fun m hm => by have := hok.okp.lt hm; omega) (by omega)).mono ?_
    rintro e w1 ⟨rfl, rfl⟩
    exact ⟨by have := hok.okp.pos; congr 2; omega, rfl⟩
  have HS : Hid ((sumN z n).toNat ≤ 4096 ∧ 0 < (sumN z n).toNat) := ⟨by have := hok.okp.le; omega, by have := hok.okp.pos; omega⟩
  obtain ⟨fF, hfF⟩ : ∃ fF, fF = inF n z (ns 0) zs := ⟨_, rfl⟩
  have HFF := Hid.mk' hfF
  have HLL : Hid (inL n z n (ns 0) zs = lcmP (flatF (ns 0) fF n)) := by show _ = _; rw [hfF]; rfl
  have HOZ : Hid (∀ i k, outZ n z n (ns 0) zs i k = (wholeP (inL n z n (ns 0) zs) (fF i k) : Int)) := fun i k => by rw [hfF]; rfl
  have HFB : Hid (∀ i k, i < n → k < ns 0 → 0 < (fF i k).2 ∧ (fF i k).2 ≤ 1048576 ∧ (fF i k).1 ≤ 1048576) := fun i k hi hk => by
    rw [hfF]
    obtain ⟨_, _, _, _, h5, h6, h7⟩ := hok.bounds hi hk
    exact ⟨h5, h6, h7⟩
  have hnb : ((n : Int) != (n : Int)) = false := by simp
  generalize inL n z n (ns 0) zs = L at *
  clear hE hu h he hok hev hch hwe hp hr hfF
  generalize ns 0 = C at *
  have hS := HS.out
  generalize hSe : (sumN z n).toNat = S at *
  have HSE := Hid.mk' hSe
  clear hSe HS
  have hcur0 : Below w.heap.size w w := Below.refl _ _
  have hcur : Below w.heap.size w w.drew := (Below.refl _ _).drew
  go_enter Tryd.func6, Tryd.ntmps6
  go_wp2_with fail
  refine hV.mono ?_
  clear hV
  rintro e w2 ⟨rfl, hw2⟩
  rw [hw2]
  clear hw2
  go_wp2_with fail
  refine hW.mono ?_
  clear hW
  rintro e w2 ⟨rfl, hw2⟩
  rw [hw2]
  clear hw2
  go_wp2_with fail
  obtain ⟨w2, hmk, hown2, hgrow2⟩ := run_make_full (P := Tryd.prog) w.drew w.drew.heap.size 52 53 i0 _ 1 Tryd.underlying52 HINF.out.1 HINF.out.2.1 HINF.out.2.2.1 .i64 .i64 n (by rw [HINF.out.2.2.2]; omega) (by unfold maxLen; omega) (Nat.le_refl _)
  have HF2 : Hid (RowIs w2 w.heap.size n (fun _ => .slice none 0 0)) := rowIs_made hown2 (made_one (.slice none 0 0) rfl n)
  have HB2 : Hid (Below w.heap.size w w2) := (Below.refl _ _).drew.trans (made_below hgrow2)
  clear hown2 hgrow2
  go_cut [8, 9] from 33 (fun s r wx => s = .int .i64 (S : Int) ∧ r = .slice (some ⟨w.heap.size, 0, none⟩) n n ∧ Hid (RowIs wx w.heap.size n (fun _ => .slice none 0 0)) ∧ Hid (Below w.heap.size w wx))
  case first =>
    go_region_held3 (fun _ => True) (exact trivial) (first
      | (go_at_call 20; refine (HTP.out _ (by first | exact HB2.out | exact hcur | exact hcur0)).mono ?_; rintro e w3 ⟨rfl, hw3⟩; rw [hw3]; clear hw3))
    all_goals
      go_wp2_with fail
      go_meet
      exact ⟨rfl, rfl, HF2, HB2⟩
  case rest =>
  clear hmk HF2 HB2
  obtain ⟨rfl, rfl, HF2, HB2⟩ := hcut
  go_wp2_with fail
  go_loopw [40] (fun t wr => ∃ (i : Nat) (rb : Nat → Nat), i ≤ n ∧ t = .int .i64 i ∧ Hid (FG w wr w.heap.size n C (2 * C) i rb (fun i => frC (fF i)))) (fun t _ => n - (intOf t).toNat)
  case atStart => exact ⟨0, fun _ => 0, Nat.zero_le _, rfl, fg_start HF2.out HB2.out (Nat.le_refl _) _ _⟩
  case round =>
    clear HF2 HB2
    obtain ⟨i, rb, hi, rfl, HG⟩ := hrel
    rcases Nat.lt_or_ge i n with h1 | h1
    · have hiI : (i : Int) < (n : Int) := by omega
      have hi0 : (0 : Int) ≤ (i : Int) := by omega
      obtain ⟨kb, ko, kc, hc, hrow⟩ := HR.out wr HG.out.below i h1
      have HBd : Hid (Below w.heap.size w wr.drew) := HG.out.below.drew
      have hokc := HOK.out.okc i h1
      have hT : (sumN (zs i) C).toNat ≤ 256 ∧ 0 < (sumN (zs i) C).toNat := ⟨by have := HOK.out.le i h1; omega, by have := hokc.pos; omega⟩
      have hpz := HOK.out.okp.lt h1
      have HTR : Hid (Calls Tryd.prog 20 #[.slice (some ⟨kb, ko, none⟩) C kc] wr.drew fun e w' => e = .returned (.int .i64 ((sumN (zs i) C).toNat : Int)) ∧ w' = wr.drew) := by
        refine (total_some kb ko kc C (zs i) wr.drew (hrow.later (Below.refl _ _).drew) (fun m hm => by have := hokc.part hm; omega) (fun m hm => by have := hokc.lt hm; omega) (by omega)).mono ?_
        rintro e w1 ⟨rfl, rfl⟩
        exact ⟨by have := hokc.pos; congr 2; omega, rfl⟩
      have HPT : Hid (Calls Tryd.prog 21 #[.slice (some ⟨kb, ko, none⟩) C kc, .int .i64 ((z i).toNat : Int), .int .i64 ((S * (sumN (zs i) C).toNat : Nat) : Int)] wr.drew fun e w' => e = .returned (.slice (some ⟨wr.heap.size, 0, none⟩) C C) ∧ RowIs w' wr.heap.size (2 * C) (frC (fF i)) ∧ Below wr.heap.size wr w') := by
        refine (parts_any kb ko kc C (z i).toNat (S * (sumN (zs i) C).toNat) (fun k => (zs i k).toNat) wr.drew (toNat_row (hrow.later (Below.refl _ _).drew) (fun k hk => (hokc.lt hk).1)) hC16 (fun k hk => (HOK.out.bounds h1 hk).2.1) (by omega) (Nat.mul_pos hS.2 hT.2) (Nat.le_trans (Nat.mul_le_mul hS.1 hT.1) (by decide))).mono ?_
        rintro e w1 ⟨rfl, h5, h6⟩
        refine ⟨rfl, ?_, (Below.refl _ _).drew.trans h6⟩
        have e5 : fF i = fun k => lowP ((zs i k).toNat * (z i).toNat) (S * (sumN (zs i) C).toNat) := by rw [HFF.out, ← HSE.out]; rfl
        rw [e5]
        exact h5
      have HPC : Hid (∀ W, Below w.heap.size w W → W.cell? ⟨pb, po + i, none⟩ = some (.int .i64 ((z i).toNat : Int))) := fun W hb => by rw [HP.out W hb i h1]; congr 2; omega
      have hpc := HPC.out wr HG.out.below
      have hcast : (S : Int) * ((sumN (zs i) C).toNat : Int) = ((S * (sumN (zs i) C).toNat : Nat) : Int) := by simp
      have hST : S * (sumN (zs i) C).toNat ≤ 1048576 := Nat.le_trans (Nat.mul_le_mul hS.1 hT.1) (by decide)
      have hpn : (z i).toNat ≤ 4096 := by omega
      clear hokc hrow hpz
      generalize (sumN (zs i) C).toNat = T at *
      generalize (z i).toNat = p at *
      generalize S * T = ST at *
      have hwr : IntKind.i64.wrap (ST : Int) = (ST : Int) := wrapc_nat (by omega) (by omega)
      go_wp2_with fail
      go_region_held3 (fun W => W.cell? ⟨pb, po + i, none⟩ = some (.int .i64 (p : Int)))
        (first | exact HPC.out _ HBd.out | exact HPC.out _ HG.out.below | exact HPC.out _ hbw4 | exact HPC.out _ (hbw4.setCell (Nat.le_refl _) _))
        (first
          | (go_at_call 20; refine HTR.out.mono ?_; rintro e w3 ⟨rfl, hw3⟩; rw [hw3]; clear hw3)
          | (go_at_call 21; refine HPT.out.mono ?_; rintro e w4 ⟨rfl, hrow4, hb4⟩; have HROW4 := Hid.mk' hrow4; have HB4 := Hid.mk' hb4; have hbw4 := below_chain HG.out.below hb4; obtain ⟨x4, hx4⟩ := (HG.out.later hb4).outer i h1; have hf4 := (HG.out.later hb4).ofz i h1; clear hrow4 hb4))
      go_wp2_with fail
      exact ⟨⟨i + 1, _, h1, by go_num, HG.out.push h1 HB4.out (Nat.le_refl _) HROW4.out⟩, by simp [intOf]; omega⟩
    · obtain rfl : n = i := by omega
      have HCAT := Hid.mk' (ConcatF_some w.heap.size n C rb fF wr h0 hC0 (fun i hi => ⟨HG.out.made i hi, HG.out.rows i hi⟩) h16 hC16)
      have HLF : Hid (∀ p, p ∈ flatF C fF n → 0 < p.2 ∧ p.2 ≤ 1048576) := fun p hp => by
        obtain ⟨i, k, hi, hk, rfl⟩ := flatF_mem hp
        have := HFB.out i k hi hk
        exact ⟨this.1, this.2.1⟩
      have HFL : Hid ((flatF C fF n).length ≤ 1000) := by
        show _ ≤ _
        rw [flatF_length]
        exact Nat.le_trans (Nat.mul_le_mul h16 hC16) (by decide)
      go_wp2_with fail
      refine HCAT.out.mono ?_
      rintro e w5 ⟨v5, rfl, hown5, hb5⟩
      have hls := leastSum_any v5 (flatF C fF n) 4096 w5 (fcAt_row hown5) HLF.out HFL.out (by omega) (by omega)
      obtain ⟨a5, c5, hv5, _⟩ := rowF_shape hown5
      have HB5 := Hid.mk' (below_chain HG.out.below hb5)
      have HG5 := Hid.mk' (HG.out.later hb5)
      rw [← HLL.out] at hls
      rw [hv5] at hls ⊢
      generalize (flatF C fF n).length = fl at *
      clear hown5 hb5 hv5 HCAT
      go_wp2_with fail
      refine hls.mono ?_
      clear hls
      rintro e w6 ⟨hok6, hbig6, hb6⟩
      have HB6 := Hid.mk' (below_chain HB5.out hb6)
      have HG6 := Hid.mk' (HG5.out.later hb6)
      clear hb6
      by_cases hfit : L ≤ 4096
      · have e6 := hok6 hfit
        subst e6
        have HFIT := Hid.mk' hfit
        clear hok6 hbig6
        go_wp2_with (at_make; go_must (refine wpList_make_full _ rfl _ _ _ rfl w6.heap.size 22 i1 _ 1 Tryd.underlying23 HINI.out.1 HINI.out.2.1 HINI.out.2.2.1 .i64 .i64 _ _ n rfl rfl rfl rfl (by rw [HINI.out.2.2.2]; omega) (by unfold maxLen; omega) (Nat.le_refl _) ?_; intro w7 hown7 hgrow7; have HF7 := Hid.mk' (rowIs_made hown7 (made_one (.slice none 0 0) rfl n)); have HB7 := Hid.mk' (made_below hgrow7); clear hown7 hgrow7))
        go_loopw [73] (fun t wr => ∃ (j : Nat) (rb2 : Nat → Nat), j ≤ n ∧ t = .int .i64 j ∧ Hid (FG w6 wr w6.heap.size n C C j rb2 (fun i k => .int .i64 (wholeP L (fF i k) : Int)))) (fun t _ => n - (intOf t).toNat)
        case atStart => exact ⟨0, fun _ => 0, Nat.zero_le _, rfl, fg_start HF7.out HB7.out (Nat.le_refl _) _ _⟩
        case round =>
          clear HF7 HB7
          obtain ⟨j, rb2, hj, rfl, HH⟩ := hrel
          rcases Nat.lt_or_ge j n with h2 | h2
          · have hjI : (j : Int) < (n : Int) := by omega
            have hj0 : (0 : Int) ≤ (j : Int) := by omega
            have HGj := Hid.mk' (HG6.out.later HH.out.below)
            have hcj := HGj.out.made j h2
            have hof := ofSum_any (rb j) C C L (fF j) wr (HGj.out.rows j h2) hC16 (fun k hk => HFB.out j k h2 hk) HFIT.out
            generalize rb j = r at hcj hof
            go_wp2_with fail
            refine hof.mono ?_
            clear hof
            rintro e w8 ⟨rfl, hrow8, hb8⟩
            have HROW8 := Hid.mk' hrow8
            have HB8 := Hid.mk' hb8
            obtain ⟨x8, hx8⟩ := (HH.out.later hb8).outer j h2
            have hf8 := (HH.out.later hb8).ofz j h2
            clear hrow8 hb8
            go_wp2_with fail
            exact ⟨⟨j + 1, _, h2, by go_num, HH.out.push h2 HB8.out (Nat.le_refl _) HROW8.out⟩, by simp [intOf]; omega⟩
          · obtain rfl : n = j := by omega
            go_wp2_with fail
            go_ret2
            refine ⟨fun _ => ⟨w6.heap.size, rb2, rfl, ?_⟩, fun h => ?_, below_chain HB6.out HH.out.below⟩
            · have e9 : (fun i k => Value.int .i64 (outZ n z n C zs i k)) = fun i k => .int .i64 (wholeP L (fF i k) : Int) := by funext i k; rw [HOZ.out]
              rw [e9]
              exact ⟨below_chain HB6.out HH.out.below, HB6.out.size, HH.out.outer, HH.out.made, HH.out.ofz, HH.out.rne, HH.out.rows⟩
            · have := HFIT.out; omega
      · have e6 := hbig6 (by omega)
        subst e6
        have HFIT := Hid.mk' hfit
        have cB6 := (HE.out.below HB6.out).c1
        clear hok6 hbig6 hfit
        go_wp2_with fail
        go_region
        all_goals
          go_wp2_with fail
          go_ret2
          exact ⟨fun h => absurd h HFIT.out, fun _ => rfl, HB6.out.drew⟩
end Go.Proofs.YthfonahbjiobcaaDoor

/- The document's chances of what goes in and comes out. -/
namespace Go.Proofs.YthfonahbjiobcaaDoor
open Go.RowKit

theorem three_newR (w : World) (x0 x1 x2 : Value) (t : TypeId) (j : Nat) (u : Value) (h : [x0, x1, x2][j]? = some u) : (w.alloc (.cells #[x0, x1, x2] t)).cell? ((⟨w.heap.size, 0, none⟩ : Addr).add j) = some u := by
  rw [add_plain, World.cell?_alloc_at _ _ _ _ rfl, Nat.zero_add]
  rcases j with _ | _ | _ | j
  · simpa using h
  · simpa using h
  · simpa using h
  · simp at h
theorem tdiv_nat (a g : Nat) : ((a : Nat) : Int).tdiv (g : Int) = ((a / g : Nat) : Int) := by rw [Int.tdiv_eq_ediv_of_nonneg (by omega)]; simp
theorem lowP_le (a b : Nat) : (lowP a b).1 ≤ a ∧ (lowP a b).2 ≤ b := ⟨Nat.div_le_self _ _, Nat.div_le_self _ _⟩
end Go.Proofs.YthfonahbjiobcaaDoor

/- The document's least whole numbers with the ratios of fractions. -/
namespace Go.Proofs.YthfonahbjiobcaaDoor
open Go.RowKit

theorem lcmP_small (l : List (Nat × Nat)) : (∀ p, p ∈ l → 0 < p.2 ∧ p.2 ≤ 1000000000) → lcmP l < 1000000 ^ (2 * l.length + 1) := by
  refine snoc_ind (P := fun l => (∀ p, p ∈ l → 0 < p.2 ∧ p.2 ≤ 1000000000) → lcmP l < 1000000 ^ (2 * l.length + 1)) ?_ ?_ l
  · intro _; decide
  · intro l p ih h
    have h1 := ih fun q hq => h q (by simp [hq])
    have h2 := (h p (by simp)).2
    rw [lcmP_snoc]
    have h3 : Nat.lcm (lcmP l) p.2 ≤ lcmP l * p.2 := Nat.div_le_self _ _
    have h4 : lcmP l * p.2 ≤ lcmP l * 1000000000 := Nat.mul_le_mul_left _ h2
    have h5 : (1000000 : Nat) ^ (2 * (l ++ [p]).length + 1) = 1000000 ^ (2 * l.length + 1) * 1000000000000 := by
      rw [show 2 * (l ++ [p]).length + 1 = (2 * l.length + 1) + 2 by simp; omega, Nat.pow_add]
    rw [h5]
    omega
theorem lcmP_small_take (l : List (Nat × Nat)) (h : ∀ p, p ∈ l → 0 < p.2 ∧ p.2 ≤ 1000000000) (hl : l.length ≤ 1000) (K : Nat) (hK : 2001 ≤ K) (k : Nat) : lcmP (l.take k) < 1000000 ^ K :=
  Nat.lt_of_lt_of_le (lcmP_small (l.take k) fun p hp => h p (List.mem_of_mem_take hp)) (Nat.pow_le_pow_right (by decide) (by simp; omega))
theorem wholeP_small {L a : Nat} {p : Nat × Nat} (hL : L < 1000000 ^ a) (hp : p.1 ≤ 1000000000) : wholeP L p < 1000000 ^ (a + 2) := by
  have h1 : L / p.2 ≤ L := Nat.div_le_self _ _
  have h2 : p.1 * (L / p.2) ≤ 1000000000 * L := Nat.mul_le_mul hp h1
  unfold wholeP
  rw [Nat.pow_add]
  generalize (1000000 : Nat) ^ a = A at *
  have : (1000000 : Nat) ^ 2 = 1000000000000 := by decide
  omega
theorem gcdP_small {L B : Nat} (hB : 0 < B) (l : List (Nat × Nat)) : (∀ p, p ∈ l → wholeP L p < B) → gcdP L l < B := by
  refine snoc_ind (P := fun l => (∀ p, p ∈ l → wholeP L p < B) → gcdP L l < B) ?_ ?_ l
  · intro _; exact hB
  · intro l p ih h
    rw [gcdP_snoc]
    have h1 := ih fun q hq => h q (by simp [hq])
    have h2 := h p (by simp)
    rcases Nat.eq_zero_or_pos (wholeP L p) with e | e
    · rw [e, Nat.gcd_zero_right]; exact h1
    · have := Nat.gcd_le_right (gcdP L l) e
      omega
/-- What one fraction's cells are. -/
theorem RtAt.cellsAt {w : World} {ad : Option Addr} {n cap : Nat} {l : List (Nat × Nat)} (h : RtAt w (.slice ad n cap) l) {i : Nat} {p : Nat × Nat} (hp : l[i]? = some p) : ∃ b o a1 l1 c1 a2 l2 c2, ad = some ⟨b, o, none⟩ ∧ w.cell? ⟨b, o + i * 3 + 1, none⟩ = some (.slice a1 l1 c1) ∧ w.cell? ⟨b, o + i * 3 + 2, none⟩ = some (.slice a2 l2 c2) ∧ BigAt w (.slice a1 l1 c1) p.1 ∧ BigAt w (.slice a2 l2 c2) p.2 := by
  obtain ⟨ad', cap', hv, hr⟩ := h
  simp only [Value.slice.injEq] at hv
  obtain ⟨rfl, _, rfl⟩ := hv
  obtain ⟨b, o, u, q, e, h0, h1, h2, h3, h4⟩ := hr i p hp
  obtain ⟨a1, l1, c1, rfl, _⟩ := h3.len
  obtain ⟨a2, l2, c2, rfl, _⟩ := h4.len
  exact ⟨b, o, a1, l1, c1, a2, l2, c2, e, h1, h2, h3, h4⟩
/-- The numbers as a list. -/
def whL (l : List (Nat × Nat)) : List Int := l.map fun p => (wholeP (lcmP l) p : Int)
def whT (L : Nat) (l : List (Nat × Nat)) (k : Nat) : List Int := (l.take k).map fun p => (wholeP L p : Int)
theorem whT_succ {L : Nat} {l : List (Nat × Nat)} {k : Nat} {p : Nat × Nat} (h : l[k]? = some p) : whT L l (k + 1) = whT L l k ++ [(wholeP L p : Int)] := by
  unfold whT; rw [take_snocP h]; simp
theorem whT_length {L : Nat} {l : List (Nat × Nat)} {k : Nat} (h : k ≤ l.length) : (whT L l k).length = k := by
  unfold whT; simp; omega

end Go.Proofs.YthfonahbjiobcaaDoor

/- Right channels: the document's. -/
namespace Go.Proofs.YthfonahbjiobcaaDoor
open Go.RowKit

theorem sumN_256 {z : Nat → Int} : ∀ {m : Nat}, (∀ i, i < m → z i ≤ 256) → sumN z m ≤ 256 * (m : Int)
  | 0, _ => by simp [sumN]
  | m + 1, h => by
    have h1 := sumN_256 (m := m) fun i hi => h i (by omega)
    have h2 := h m (by omega)
    show sumN z m + z m ≤ _
    omega
structure InRow (z : Nat → Int) (G : Bool) (m : Nat) (y : Int) (sb gb : Bool) : Prop where
  neg : negB z m = false
  some : sb = someB z m
  yes : gb = true → G = true ∨ ∃ i, i < m ∧ 256 < z i
  no : gb = false → G = false ∧ (∀ i, i < m → z i ≤ 256) ∧ y = sumN z m
theorem InRow.step {z : Nat → Int} {G : Bool} {m : Nat} {y : Int} {sb gb : Bool} (h : InRow z G m y sb gb) (h0 : 0 ≤ z m) {x : Int} (hx : x = z m) : InRow z G (m + 1) (if gb = true ∨ 256 < x then y else y + x) (sb || decide (0 < x)) (gb || decide (256 < x)) := by
  subst hx
  refine ⟨?_, ?_, fun e => ?_, fun e => ?_⟩
  · show (negB z m || decide (z m < 0)) = false
    rw [h.neg, Bool.false_or]; exact decide_eq_false (by omega)
  · show _ = (someB z m || decide (0 < z m))
    rw [h.some]
  · rcases Bool.or_eq_true_iff.mp e with e | e
    · rcases h.yes e with h1 | ⟨i, hi, h1⟩
      · exact Or.inl h1
      · exact Or.inr ⟨i, by omega, h1⟩
    · exact Or.inr ⟨m, by omega, of_decide_eq_true e⟩
  · obtain ⟨e1, e2⟩ := Bool.or_eq_false_iff.mp e
    obtain ⟨h1, h2, h3⟩ := h.no e1
    have h4 := of_decide_eq_false e2
    refine ⟨h1, fun i hi => ?_, ?_⟩
    · rcases Nat.lt_or_ge i m with h5 | h5
      · exact h2 i h5
      · obtain rfl : i = m := by omega
        omega
    · rw [if_neg (by rw [e1]; simp; omega), h3]; rfl
theorem InRow.close {ns : Nat → Nat} {zs : Nat → Nat → Int} {k : Nat} {y : Int} {sb gb : Bool} (h : InRow (zs k) (greatC ns zs k) (ns k) y sb gb) : greatC ns zs (k + 1) = (gb || decide (256 < y)) ∨ (gb = true ∧ greatC ns zs (k + 1) = true) := by
  show (greatC ns zs k || decide (256 < sumN (zs k) (ns k))) = _ ∨ (_ ∧ (greatC ns zs k || decide (256 < sumN (zs k) (ns k))) = true)
  cases gb with
  | true =>
    refine Or.inr ⟨rfl, ?_⟩
    rcases h.yes rfl with h1 | ⟨i, hi, h1⟩
    · rw [h1]; rfl
    · have := sumN_ge (not_neg h.neg) hi
      rw [decide_eq_true (by omega)]; simp
  | false =>
    obtain ⟨h1, _, h3⟩ := h.no rfl
    exact Or.inl (by rw [h1, h3])
theorem shape_neg {z : Nat → Int} {n m : Nat} (hm : m < n) (h : z m < 0) : listErr z n = 3 := listErr_neg hm h

end Go.Proofs.YthfonahbjiobcaaDoor

/- The document's SameInts at equal ones. -/
namespace Go.Proofs.YthfonahbjiobcaaDoor
open Go.RowKit

set_option maxRecDepth 100000 in
set_option maxHeartbeats 1000000 in
theorem SameInts_any (v u : Value) (n : Nat) (z : Nat → Int) (w : World) (h : NumsAt w v n z) (k : NumsAt w u n z) (hn : n ≤ 1000000) :
    Calls Tryd.prog 41 #[v, u] w fun e w' => e = .returned (.bool true) ∧ Below w.heap.size w w' := by
  rcases h with ⟨ad, cap, rfl, rfl⟩ | ⟨b, o, cap, rfl, h0, hr⟩
  · obtain ⟨ad', cap', rfl⟩ := k.form
    clear k
    go_enter Tryd.func41, Tryd.ntmps41
    go_wp2_with fail
    refine wp_loop_rounds 1 ?_
    rw [rounds_succ]
    go_wp2_with fail
    go_ret
    exact ⟨rfl, Below.refl _ _⟩
  · rcases k with ⟨_, _, _, h1⟩ | ⟨b', o', cap', rfl, _, kr⟩
    · omega
    · have HR := Hid.mk' hr
      have HK := Hid.mk' kr
      clear hr kr
      go_enter Tryd.func41, Tryd.ntmps41
      go_wp2_with fail
      go_loopw [5] (fun i wr => ∃ k : Nat, k ≤ n ∧ i = .int .i64 k ∧ Hid (Below w.heap.size w wr)) (fun i _ => n - (intOf i).toNat)
      case atStart => exact ⟨0, Nat.zero_le _, rfl, Below.refl _ _⟩
      case round =>
        obtain ⟨k, hk, rfl, HB⟩ := hrel
        rcases Nat.lt_or_ge k n with h1 | h1
        · have hc := (HR.out.later HB.out) k h1
          have hd := (HK.out.later HB.out) k h1
          have hkn : (k : Int) < (n : Int) := by omega
          go_wp2_with fail
          go_region
          all_goals
            go_wp2_with fail
            exact ⟨⟨k + 1, h1, by go_num, HB.out.drew⟩, by simp [intOf]; omega⟩
        · obtain rfl : k = n := by omega
          go_wp2_with fail
          go_ret
          exact ⟨rfl, HB.out⟩
end Go.Proofs.YthfonahbjiobcaaDoor

/- Lists of lists of numbers in memory. -/
namespace Go.Proofs.YthfonahbjiobcaaDoor
open Go.RowKit

theorem own_put {w : World} {base : Nat} {t : TypeId} {sz : Nat} {v : Value} {n : Nat} {xs : List Value} (h : w.ownsRow base t sz v n xs) (a : Addr) (x : Value) (hne : v.ownBlock ≠ some a.block) : (w.setCell a x).ownsRow base t sz v n xs := by
  refine ⟨h.1, ?_⟩
  rcases h.2 with hn | ⟨g, cap, cur, hv, hg, hh, rest⟩
  · exact Or.inl hn
  · refine Or.inr ⟨g, cap, cur, hv, hg, ?_, rest⟩
    rw [Below.heap_setCell _ _ _ _ (fun e => hne (by rw [hv, ← e]; rfl))]
    exact hh

/-- A list of lists, to be read. -/
def LolAt (w : World) (v : Value) (L : List (List Int)) : Prop := ∃ ad cap, v = .slice ad L.length cap ∧ ∀ (i : Nat) (r : List Int), L[i]? = some r → ∃ b o u, ad = some ⟨b, o, none⟩ ∧ w.cell? ⟨b, o + i, none⟩ = some u ∧ NumsAt w u r.length (atF r)
theorem LolAt.later {w w' : World} {v : Value} {L : List (List Int)} (h : LolAt w v L) (hb : Below w.heap.size w w') : LolAt w' v L := by
  obtain ⟨ad, cap, rfl, h⟩ := h
  refine ⟨ad, cap, rfl, fun i r hr => ?_⟩
  obtain ⟨b, o, u, h1, h2, h3⟩ := h i r hr
  exact ⟨b, o, u, h1, by rw [hb.cell (cell_lt h2)]; exact h2, h3.later hb⟩
/-- One that is made: the list's own row, and that of each of its lists. -/
def LolOwn (Bo Br : Nat) (w : World) (v : Value) (L : List (List Int)) (vs : List Value) : Prop := w.ownsRow Bo 22 1 v L.length vs ∧ ∀ (i : Nat) (r : List Int), L[i]? = some r → ∃ u, vs[i]? = some u ∧ w.ownsRow Br 3 1 u r.length (cellL r)
theorem LolOwn.nil (Bo Br : Nat) (w : World) : LolOwn Bo Br w (.slice none 0 0) [] [] := ⟨⟨rfl, Or.inl ⟨rfl, rfl⟩⟩, fun i r h => by simp at h⟩
theorem LolOwn.later {Bo Br : Nat} {w w' : World} {v : Value} {L : List (List Int)} {vs : List Value} (h : LolOwn Bo Br w v L vs) (hb : Below w.heap.size w w') : LolOwn Bo Br w' v L vs :=
  ⟨own_past h.1 hb, fun i r hr => by obtain ⟨u, h1, h2⟩ := h.2 i r hr; exact ⟨u, h1, own_past h2 hb⟩⟩
theorem own_keep {w w' : World} {base : Nat} {t : TypeId} {sz : Nat} {v : Value} {n : Nat} {xs : List Value} (h : w.ownsRow base t sz v n xs) (hk : ∀ k, base ≤ k → k < w.heap.size → w'.heap[k]? = w.heap[k]?) : w'.ownsRow base t sz v n xs := by
  obtain ⟨hl, hr⟩ := h
  refine ⟨hl, ?_⟩
  rcases hr with hr | ⟨g, cap, cur, hv, hb1, hh, rest⟩
  · exact Or.inl hr
  · exact Or.inr ⟨g, cap, cur, hv, hb1, by rw [hk g hb1 (heap_lt hh)]; exact hh, rest⟩
theorem LolOwn.keep {B : Nat} {w w' : World} {v : Value} {L : List (List Int)} {vs : List Value} (h : LolOwn B B w v L vs) (hk : ∀ k, B ≤ k → k < w.heap.size → w'.heap[k]? = w.heap[k]?) : LolOwn B B w' v L vs :=
  ⟨own_keep h.1 hk, fun i r hr => by obtain ⟨u, h1, h2⟩ := h.2 i r hr; exact ⟨u, h1, own_keep h2 hk⟩⟩
theorem LolOwn.lol {Bo Br : Nat} {w : World} {v : Value} {L : List (List Int)} {vs : List Value} (h : LolOwn Bo Br w v L vs) : LolAt w v L := by
  obtain ⟨⟨hl, hr⟩, hv⟩ := h
  rcases hr with ⟨hv0, h0⟩ | ⟨g, cap, cur, hv0, _, hh, _, _, hs, ht⟩
  · rw [h0] at hl
    obtain rfl : L = [] := List.length_eq_zero_iff.1 h0
    exact ⟨none, 0, hv0, fun i r hr => by simp at hr⟩
  · refine ⟨_, cap, hv0, fun i r hr => ?_⟩
    obtain ⟨u, h1, h2⟩ := hv i r hr
    refine ⟨g, 0, u, rfl, ?_, numsAt_row h2⟩
    have hi : i < L.length := (List.getElem?_eq_some_iff.1 hr).1
    rw [← h1, ← ht, List.getElem?_take_of_lt (by omega), Nat.zero_add]
    simp [World.cell?, hh]
/-- Behind an append. -/
theorem LolOwn.push {Bo Br : Nat} {w w' : World} {v v' u : Value} {L : List (List Int)} {vs : List Value} {r : List Int} (h : LolOwn Bo Br w v L vs) (hr : w.ownsRow Br 3 1 u r.length (cellL r)) (hg : w.grownBy w' v.ownBlock) (ho : w'.ownsRow Bo 22 1 v' (L.length + 1) (vs ++ [u])) : LolOwn Bo Br w' v' (L ++ [r]) (vs ++ [u]) := by
  have hvl : vs.length = L.length := by have := h.1.1; simpa using this
  refine ⟨by rw [List.length_append]; exact ho, fun i q hq => ?_⟩
  rcases Nat.lt_or_ge i L.length with h1 | h1
  · rw [List.getElem?_append_left h1] at hq
    obtain ⟨x, h2, h3⟩ := h.2 i q hq
    exact ⟨x, by rw [List.getElem?_append_left (by omega)]; exact h2, own_beside h3 h.1 (by decide) hg⟩
  · rw [List.getElem?_append_right h1] at hq
    obtain ⟨rfl, h5⟩ : r = q ∧ i - L.length = 0 := by
      rcases hk : i - L.length with _ | k
      · rw [hk] at hq; exact ⟨by simpa using hq, rfl⟩
      · rw [hk] at hq; simp at hq
    exact ⟨u, by rw [List.getElem?_append_right (by omega), hvl, h5]; rfl, own_beside hr h.1 (by decide) hg⟩
theorem LolOwn.form {Bo Br : Nat} {w : World} {v : Value} {L : List (List Int)} {vs : List Value} (h : LolOwn Bo Br w v L vs) : ∃ ad cap, v = .slice ad L.length cap := by
  rcases h.1.2 with ⟨rfl, h0⟩ | ⟨g, cap, cur, rfl, _⟩
  · exact ⟨none, 0, by rw [h0]⟩
  · exact ⟨_, _, rfl⟩
theorem LolOwn.put {Bo Br : Nat} {w : World} {v : Value} {L : List (List Int)} {vs : List Value} (h : LolOwn Bo Br w v L vs) (a : Addr) (x : Value) (h1 : v.ownBlock ≠ some a.block) (h2 : a.block < Br) : LolOwn Bo Br (w.setCell a x) v L vs := by
  refine ⟨own_put h.1 a x h1, fun i r hr => ?_⟩
  obtain ⟨u, h3, h4⟩ := h.2 i r hr
  refine ⟨u, h3, own_put h4 a x (fun e => ?_)⟩
  rcases h4.2 with ⟨rfl, _⟩ | ⟨g, cap, cur, rfl, hge, _⟩
  · cases e
  · have : g = a.block := by simpa [Value.ownBlock] using e
    omega

theorem own_built {w : World} {base g : Nat} {t : TypeId} {cs : Array Value} (hg : base ≤ g) (hh : w.heap[g]? = some (.cells cs t)) (hc : cs.size ≤ 1000) : w.ownsRow base t 1 (.slice (some ⟨g, 0, none⟩) cs.size cs.size) cs.size cs.toList :=
  ⟨by simp, Or.inr ⟨g, cs.size, cs, rfl, hg, hh, Nat.le_refl _, by unfold maxLen; omega, by simp, by rw [Nat.mul_one, ← Array.length_toList, List.take_length]⟩⟩

set_option maxRecDepth 100000 in
set_option maxHeartbeats 1000000 in
theorem SameLists_any (v u : Value) (L : List (List Int)) (w : World) (h : LolAt w v L) (k : LolAt w u L) (hL : L.length ≤ 1000000) (hr : ∀ r, r ∈ L → r.length ≤ 1000) :
    Calls Tryd.prog 16 #[v, u] w fun e w' => e = .returned (.bool true) ∧ Below w.heap.size w w' := by
  have HA := Hid.mk' (fun (W : World) (hb : Below w.heap.size w W) => h.later hb)
  have HK := Hid.mk' (fun (W : World) (hb : Below w.heap.size w W) => k.later hb)
  have HR := Hid.mk' hr
  obtain ⟨ad, cap, rfl, -⟩ := h
  obtain ⟨ad', cap', rfl, -⟩ := k
  clear hr
  go_enter Tryd.func16, Tryd.ntmps16
  go_wp2_with fail
  go_loopw [5] (fun i wr => ∃ k : Nat, k ≤ L.length ∧ i = .int .i64 k ∧ Hid (Below w.heap.size w wr)) (fun i _ => L.length - (intOf i).toNat)
  case atStart => exact ⟨0, Nat.zero_le _, rfl, Below.refl _ _⟩
  case round =>
    obtain ⟨k, hk, rfl, HB⟩ := hrel
    rcases Nat.lt_or_ge k L.length with h1 | h1
    · have hkn : (k : Int) < (L.length : Int) := by omega
      have hk0 : (0 : Int) ≤ (k : Int) := by omega
      obtain ⟨_, _, e1, g1⟩ := HA.out _ HB.out
      obtain ⟨_, _, e2, g2⟩ := HK.out _ HB.out
      obtain ⟨rfl, rfl⟩ : ad = _ ∧ cap = _ := by simpa using e1
      obtain ⟨rfl, rfl⟩ : ad' = _ ∧ cap' = _ := by simpa using e2
      obtain ⟨b, o, x, rfl, c1, n1⟩ := g1 k _ (List.getElem?_eq_getElem h1)
      obtain ⟨b', o', x', rfl, c2, n2⟩ := g2 k _ (List.getElem?_eq_getElem h1)
      have HS := Hid.mk' (fun (W : World) (hb : Below wr.heap.size wr W) => SameInts_any x x' _ _ W (n1.later hb) (n2.later hb) (by have := HR.out _ (List.getElem_mem h1); omega))
      obtain ⟨a1, q1, hx1⟩ := n1.form
      obtain ⟨a2, q2, hx2⟩ := n2.form
      rw [hx1] at c1 HS
      rw [hx2] at c2 HS
      clear n1 n2 hx1 hx2 g1 g2 e1 e2
      generalize L[k].length = m at *
      have hcur0 : Below wr.heap.size wr wr := Below.refl _ _
      have hcur : Below wr.heap.size wr wr.drew := (Below.refl _ _).drew
      have HX : Hid (∀ W, Below wr.heap.size wr W → (W.cell? ⟨b, o + k, none⟩ = some (.slice a1 m q1) ∧ W.cell? ⟨b', o' + k, none⟩ = some (.slice a2 m q2))) := fun W hb => ⟨by rw [hb.cell (cell_lt c1)]; exact c1, by rw [hb.cell (cell_lt c2)]; exact c2⟩
      go_wp2_with fail
      go_region_held3 (fun W => W.cell? ⟨b, o + k, none⟩ = some (.slice a1 m q1) ∧ W.cell? ⟨b', o' + k, none⟩ = some (.slice a2 m q2))
        (first | exact HX.out _ hcur0 | exact HX.out _ hcur | exact HX.out _ hbw5)
        (first
          | (go_at_call 41; refine (HS.out _ hcur).mono ?_; rintro e w5 ⟨rfl, hb5⟩; have hbw5 := below_chain hcur hb5; clear hb5))
      all_goals
        go_wp2_with fail
        exact ⟨⟨k + 1, h1, by go_num, below_chain HB.out hbw5⟩, by simp [intOf]; omega⟩
    · obtain rfl : k = L.length := by omega
      go_wp2_with fail
      go_ret
      exact ⟨rfl, HB.out⟩
end Go.Proofs.YthfonahbjiobcaaDoor

/- channel.Table in all cases, and the laws' closed fact: two even symbols, one in four of which is changed. -/
namespace Go.Proofs.YthfonahbjiobcaaDoor
open Go.RowKit

theorem FG.tab {w wr : World} {g n C : Nat} {rb : Nat → Nat} {Z : Nat → Nat → Int} (h : FG w wr g n C C n rb (fun i k => .int .i64 (Z i k))) (h0 : 0 < n) (hC : 0 < C) : TabAt wr (.slice (some ⟨g, 0, none⟩) n n) n (fun i => .slice (some ⟨rb i, 0, none⟩) C C) (fun _ => C) Z := by
  refine Or.inr ⟨g, 0, n, rfl, h0, fun i hi => ⟨by rw [Nat.zero_add]; exact h.made i hi, Or.inr ⟨rb i, 0, C, rfl, hC, fun k hk => ?_⟩⟩⟩
  rw [Nat.zero_add]
  exact (h.rows i hi).row k hk
/-- The rows of a table as lists. -/
def tabL (R : Nat) (ns : Nat → Nat) (zs : Nat → Nat → Int) : List (List Int) := (List.range R).map fun i => rowL (zs i) (ns i)
theorem atF_rowL {z : Nat → Int} {n i : Nat} (hi : i < n) : atF (rowL z n) i = z i := by
  unfold atF rowL
  rw [List.getD_eq_getElem?_getD, List.getElem?_map, List.getElem?_range hi]; rfl
theorem tab_lol {w : World} {v : Value} {R : Nat} {vs : Nat → Value} {ns : Nat → Nat} {zs : Nat → Nat → Int} (h : TabAt w v R vs ns zs) : LolAt w v (tabL R ns zs) := by
  have hl : (tabL R ns zs).length = R := by simp [tabL]
  rcases h with ⟨ad, cap, rfl, rfl⟩ | ⟨b, o, cap, rfl, h0, hr⟩
  · exact ⟨ad, cap, by simp [tabL], fun i r hr => by simp [tabL] at hr⟩
  · refine ⟨some ⟨b, o, none⟩, cap, by rw [hl], fun i r hi => ?_⟩
    have hiR : i < R := by rw [← hl]; exact (List.getElem?_eq_some_iff.mp hi).1
    have e : r = rowL (zs i) (ns i) := by
      unfold tabL at hi
      rw [List.getElem?_map, List.getElem?_range hiR] at hi
      exact (Option.some.inj hi).symm
    subst e
    refine ⟨b, o, vs i, rfl, (hr i hiR).1, ?_⟩
    rw [rowL_length]
    exact (hr i hiR).2.congr fun k hk => (atF_rowL hk).symm
theorem tabL_same {R : Nat} {ns ns' : Nat → Nat} {zs zs' : Nat → Nat → Int} (h1 : ∀ i, i < R → ns i = ns' i) (h2 : ∀ i k, i < R → k < ns i → zs i k = zs' i k) : tabL R ns zs = tabL R ns' zs' := by
  refine List.map_congr_left fun i hi => ?_
  have hi' := List.mem_range.mp hi
  rw [← h1 i hi']
  exact List.map_congr_left fun k hk => h2 i k hi' (List.mem_range.mp hk)
theorem tabL_row {R : Nat} {ns : Nat → Nat} {zs : Nat → Nat → Int} {B : Nat} (h : ∀ i, i < R → ns i ≤ B) (r : List Int) (hr : r ∈ tabL R ns zs) : r.length ≤ B := by
  obtain ⟨i, hi, rfl⟩ := List.mem_map.mp hr
  rw [rowL_length]
  exact h i (List.mem_range.mp hi)

theorem chTable_any (a : Nat → Addr) (u : Value) (n : Nat) (z : Nat → Int) (v : Value) (R : Nat) (vs : Nat → Value) (ns : Nat → Nat) (zs : Nat → Nat → Int) (w : World) (hE : Errs w a) (hu : NumsAt w u n z) (h : TabAt w v R vs ns zs) (hn : n ≤ 1000) (hR : R ≤ 40) (hns : ∀ i, i < R → ns i ≤ 400) :
    Calls Tryd.prog 6 #[u, v] w fun e w' => ∃ t', e = .returned (.tuple #[t', errV a (taErr n z R ns zs)]) ∧ (taErr n z R ns zs ≠ 0 → t' = .slice none 0 0) ∧ (taErr n z R ns zs = 0 → ∃ vs', TabAt w' t' R vs' (fun _ => ns 0) (outZ n z R (ns 0) zs)) ∧ Below w.heap.size w w' := by
  by_cases h1 : inErr n z R ns zs = 0
  · refine (Table_main a u n z v R vs ns zs w hE hu h h1).mono ?_
    rintro e w' ⟨hA, hB, hb⟩
    obtain ⟨hok, _⟩ := inOk_of h1
    by_cases h2 : 4096 < inL n z R (ns 0) zs
    · have ht : taErr n z R ns zs = 2 := by unfold taErr; rw [if_neg (by omega), if_pos h2]
      refine ⟨_, by rw [hB h2, ht], fun _ => rfl, fun h => ?_, hb⟩
      rw [ht] at h; cases h
    · have ht : taErr n z R ns zs = 0 := by unfold taErr; rw [if_neg (by omega), if_neg h2]
      obtain ⟨g, rb, he, hF⟩ := hA (by omega)
      exact ⟨_, by rw [he, ht]; rfl, fun h => absurd ht h, fun _ => ⟨_, hF.tab hok.n0 hok.c0⟩, hb⟩
  · have ht : taErr n z R ns zs = inErr n z R ns zs := by unfold taErr; rw [if_pos h1]
    by_cases h2 : chanErr R ns zs ≠ 0
    · have ht2 : taErr n z R ns zs = chanErr R ns zs := by rw [ht]; unfold inErr; rw [if_pos h2]
      obtain ⟨ad, cap, rfl⟩ := hu.form
      refine (Table_chan a ad n cap v R vs ns zs w hE h hR hns h2).mono ?_
      rintro e w' ⟨rfl, rfl⟩
      exact ⟨_, by rw [ht2], fun _ => rfl, fun h => by rw [ht2] at h; exact absurd h h2, Below.refl _ _⟩
    · by_cases h3 : weightsErr z n ≠ 0
      · have ht2 : taErr n z R ns zs = weightsErr z n := by rw [ht]; unfold inErr; rw [if_neg h2, if_pos h3]
        refine (Table_weights a u n z v R vs ns zs w hE hu h hn hR hns (by omega) h3).mono ?_
        rintro e w' ⟨rfl, rfl⟩
        exact ⟨_, by rw [ht2], fun _ => rfl, fun h => by rw [ht2] at h; exact absurd h h3, Below.refl _ _⟩
      · have hne : n ≠ R := fun e => h1 (by unfold inErr; rw [if_neg h2, if_neg h3, if_neg (by omega)])
        have ht2 : taErr n z R ns zs = 3 := by rw [ht]; unfold inErr; rw [if_neg h2, if_neg h3, if_pos hne]
        refine (Table_lens a u n z v R vs ns zs w hE hu h hn hR hns (by omega) (by omega) hne).mono ?_
        rintro e w' ⟨rfl, hb⟩
        exact ⟨_, by rw [ht2], fun _ => rfl, (fun h => by rw [ht2] at h; cases h), hb⟩

/-- The two rows of the closed fact. -/
def noisZ (i k : Nat) : Int := if i = k then 3 else 1
theorem noisy_err : inErr 2 (fun _ => 1) 2 (fun _ => 2) noisZ = 0 := by decide
theorem noisy_ta : taErr 2 (fun _ => 1) 2 (fun _ => 2) noisZ = 0 := by decide +kernel
theorem noisy_out (i k : Nat) (hi : i < 2) (hk : k < 2) : outZ 2 (fun _ => 1) 2 2 noisZ i k = noisZ i k := by
  rcases (show i = 0 ∨ i = 1 by omega) with rfl | rfl <;> rcases (show k = 0 ∨ k = 1 by omega) with rfl | rfl <;> decide +kernel
theorem topc_cell (W : World) (c : Array Value) (t : TypeId) {b : Nat} (j : Nat) (hb : b = W.heap.size) : (W.alloc (.cells c t)).cell? ⟨b, j, none⟩ = c[j]? := by subst hb; simp
theorem noisy_table (w : World) (t1 t2 : TypeId) : TabAt (((w.alloc (.cells #[.int .i64 3, .int .i64 1] t1)).alloc (.cells #[.int .i64 1, .int .i64 3] t1)).alloc (.cells #[.slice (some ⟨w.heap.size, 0, none⟩) 2 2, .slice (some ⟨w.heap.size + 1, 0, none⟩) 2 2] t2)) (.slice (some ⟨w.heap.size + 1 + 1, 0, none⟩) 2 2) 2 (fun i => .slice (some ⟨w.heap.size + i, 0, none⟩) 2 2) (fun _ => 2) noisZ := by
  refine Or.inr ⟨_, _, _, rfl, by decide, fun i hi => ⟨?_, Or.inr ⟨_, _, _, rfl, (by show 0 < 2; decide), fun k hk => ?_⟩⟩⟩
  · rcases (show i = 0 ∨ i = 1 by omega) with rfl | rfl
    · exact topc_cell _ _ _ _ (by simp)
    · exact topc_cell _ _ _ _ (by simp)
  · have hk2 : k < 2 := hk
    rcases (show i = 0 ∨ i = 1 by omega) with rfl | rfl
    · rw [World.cell?_alloc_lt _ _ _ (by simp; omega), World.cell?_alloc_lt _ _ _ (by simp)]
      rcases (show k = 0 ∨ k = 1 by omega) with rfl | rfl
      · exact topc_cell _ _ _ _ rfl
      · exact topc_cell _ _ _ _ rfl
    · rw [World.cell?_alloc_lt _ _ _ (by simp)]
      rcases (show k = 0 ∨ k = 1 by omega) with rfl | rfl
      · exact topc_cell _ _ _ _ (by simp)
      · exact topc_cell _ _ _ _ (by simp)

set_option maxRecDepth 100000 in
set_option maxHeartbeats 4000000 in
theorem noisy_any (a : Nat → Addr) (w : World) (hE : Errs w a) : Calls Tryd.prog 4 #[] w fun e w' => e = .returned (.bool true) ∧ Below w.heap.size w w' := by
  obtain ⟨W0, hW0⟩ : ∃ W0, W0 = w.alloc (.cells #[.int .i64 1, .int .i64 1] 3) := ⟨_, rfl⟩
  obtain ⟨W3, hW3⟩ : ∃ W3, W3 = ((W0.alloc (.cells #[.int .i64 3, .int .i64 1] 3)).alloc (.cells #[.int .i64 1, .int .i64 3] 3)).alloc (.cells #[.slice (some ⟨W0.heap.size, 0, none⟩) 2 2, .slice (some ⟨W0.heap.size + 1, 0, none⟩) 2 2] 22) := ⟨_, rfl⟩
  have hs0 : W0.heap.size = w.heap.size + 1 := by rw [hW0]; simp
  have hb0 : Below w.heap.size w W0 := by rw [hW0]; exact (Below.refl _ _).alloc (Nat.le_refl _) _
  have hb3 : Below W0.heap.size W0 W3 := by rw [hW3]; exact (((Below.refl _ _).alloc (Nat.le_refl _) _).alloc (by simp) _).alloc (by simp; omega) _
  have htab : TabAt W3 (.slice (some ⟨W0.heap.size + 1 + 1, 0, none⟩) 2 2) 2 (fun i => .slice (some ⟨W0.heap.size + i, 0, none⟩) 2 2) (fun _ => 2) noisZ := by rw [hW3]; exact noisy_table W0 _ _
  have hnum : NumsAt W0 (.slice (some ⟨w.heap.size, 0, none⟩) 2 2) 2 (fun _ => 1) := by
    refine Or.inr ⟨_, _, _, rfl, by decide, fun i hi => ?_⟩
    rw [hW0]
    rcases (show i = 0 ∨ i = 1 by omega) with rfl | rfl
    · exact topc_cell _ _ _ _ rfl
    · exact topc_cell _ _ _ _ rfl
  have hT := chTable_any a _ 2 (fun _ => 1) _ 2 _ (fun _ => 2) noisZ W3 (hE.below (below_chain hb0 hb3)) (hnum.later hb3) htab (by decide) (by decide) (fun _ _ => by decide)
  rw [noisy_ta, errV_zero] at hT
  have HB3 := Hid.mk' (below_chain hb0 hb3)
  rw [hW3, hs0, hW0] at hT
  clear htab hnum hb0 hb3 hE
  go_enter Tryd.func4, Tryd.ntmps4
  go_wp2_with fail
  refine hT.mono ?_
  clear hT
  rintro e w5 ⟨t5, rfl, _, ht5, hb5⟩
  obtain ⟨vs5, ht5⟩ := ht5 trivial
  rw [← hs0, ← hW0, ← hW3] at hb5
  obtain ⟨ad5, cap5, rfl⟩ := ht5.form
  have HL5 : Hid (LolAt w5 (.slice ad5 2 cap5) (tabL 2 (fun _ => 2) noisZ)) := by
    have := tab_lol ht5
    rw [tabL_same (ns' := fun _ => 2) (zs' := noisZ) (fun _ _ => rfl) (fun i k hi hk => noisy_out i k hi hk)] at this
    exact this
  have HB5 := Hid.mk' (below_chain HB3.out hb5)
  clear ht5 hb5 hs0 hW0 hW3
  go_wp2_with fail
  have HB6 : Hid (Below w5.heap.size w5 (((w5.alloc (.cells #[.int .i64 3, .int .i64 1] 3)).alloc (.cells #[.int .i64 1, .int .i64 3] 3)).alloc (.cells #[.slice (some ⟨w5.heap.size, 0, none⟩) 2 2, .slice (some ⟨w5.heap.size + 1, 0, none⟩) 2 2] 22))) := (((Below.refl _ _).alloc (Nat.le_refl _) _).alloc (by simp) _).alloc (by simp; omega) _
  refine (SameLists_any _ _ (tabL 2 (fun _ => 2) noisZ) _ (HL5.out.later HB6.out) (tab_lol (noisy_table w5 3 22)) (by decide) (fun r hr => Nat.le_trans (tabL_row (B := 2) (fun _ _ => Nat.le_refl _) r hr) (by decide))).mono ?_
  rintro e w7 ⟨rfl, hb7⟩
  have HB7 := Hid.mk' (below_chain HB5.out (below_chain HB6.out hb7))
  clear hb7
  go_wp2_with fail
  go_ret
  exact ⟨rfl, HB7.out⟩
end Go.Proofs.YthfonahbjiobcaaDoor

/- The document's table of what goes in and comes out. -/
namespace Go.Proofs.YthfonahbjiobcaaDoor
open Go.RowKit

/-- The lists of both sides are one. -/
theorem whL_flat (C : Nat) (f : Nat → Nat → Nat × Nat) (L : Nat) : ∀ R, (flatF C f R).map (fun p => (wholeP L p : Int)) = flatL (fun _ => C) (fun i k => (wholeP L (f i k) : Int)) R
  | 0 => rfl
  | R + 1 => by
    have h := whL_flat C f L R
    show (flatF C f R ++ (List.range C).map (f R)).map _ = flatL (fun _ => C) _ R ++ rowL _ C
    rw [List.map_append, h, List.map_map]
    rfl
theorem whL_out (n : Nat) (z : Nat → Int) (R C : Nat) (zs : Nat → Nat → Int) : whL (flatF C (inF n z C zs) R) = flatL (fun _ => C) (outZ n z R C zs) R := whL_flat C _ _ R
theorem sumN_listC : ∀ l : List Int, sumN (atF l) l.length = l.sum := by
  have h : ∀ n, ∀ l : List Int, l.length = n → sumN (atF l) l.length = l.sum := by
    intro n
    induction n with
    | zero => intro l hl; rw [List.length_eq_zero_iff.mp hl]; rfl
    | succ n ih =>
      intro l hl
      have hne : l ≠ [] := fun e => by rw [e] at hl; simp at hl
      have e := List.dropLast_concat_getLast hne
      have hd : l.dropLast.length = n := by simp; omega
      have h1 := ih _ hd
      have h2 : sumN (atF l) (n + 1) = sumN (atF l) n + atF l n := rfl
      have h3 : sumN (atF l) n = sumN (atF l.dropLast) n := sumN_congr fun i hi => by
        unfold atF
        rw [List.getD_eq_getElem?_getD, List.getD_eq_getElem?_getD, List.getElem?_dropLast, if_pos (by omega)]
      have h4 : atF l n = l.getLast hne := by
        unfold atF
        rw [List.getD_eq_getElem?_getD, List.getLast_eq_getElem]
        simp [hl]
      rw [hl, h2, h3, h4]
      rw [hd] at h1
      rw [h1]
      conv => rhs; rw [← e]
      simp
  exact fun l => h _ l rfl
theorem sum_cast (L : Nat) : ∀ l : List (Nat × Nat), (l.map (fun p => (wholeP L p : Int))).sum = ((sumP L l : Nat) : Int)
  | [] => rfl
  | p :: r => by
    have h := sum_cast L r
    have e : sumP L (p :: r) = wholeP L p + sumP L r := by simp [sumP]
    rw [e, List.map_cons, List.sum_cons, h]
    simp
theorem wholeP_le_sum {L : Nat} : ∀ {l : List (Nat × Nat)} {p : Nat × Nat}, p ∈ l → wholeP L p ≤ sumP L l
  | q :: r, p, h => by
    have e : sumP L (q :: r) = wholeP L q + sumP L r := by simp [sumP]
    rw [e]
    rcases List.mem_cons.mp h with rfl | h
    · omega
    · have := wholeP_le_sum (L := L) h
      omega
theorem longB_const {C : Nat} (hC : C ≤ 16) : ∀ R, longB (fun _ => C) R = false
  | 0 => rfl
  | R + 1 => by show (longB (fun _ => C) R || decide (16 < C)) = false; rw [longB_const hC R, decide_eq_false (by omega)]; rfl
theorem unevenB_const (C : Nat) : ∀ R, unevenB (fun _ => C) R = false
  | 0 => rfl
  | R + 1 => by show (unevenB (fun _ => C) R || _) = false; rw [unevenB_const C R]; simp
theorem sumT_constC (C : Nat) : ∀ R, sumT (fun _ => C) R = R * C
  | 0 => by simp [sumT]
  | R + 1 => by show sumT (fun _ => C) R + C = _; rw [sumT_constC C R, Nat.succ_mul]
/-- The table's own error: only its sum can be too great. -/
theorem tabErr_out {n : Nat} {z : Nat → Int} {R C : Nat} {zs : Nat → Nat → Int} (h : InOk n z R C zs) : tabErr R (fun _ => C) (outZ n z R C zs) = if 4096 < inL n z R C zs then 2 else 0 := by
  have h16 := h.n16
  rw [tabErr_even (by omega) (longB_const h.c16 R) (unevenB_const C R)]
  have hs : sumN (atF (flatL (fun _ => C) (outZ n z R C zs) R)) (flatL (fun _ => C) (outZ n z R C zs) R).length = (inL n z R C zs : Int) := by
    rw [sumN_listC, ← whL_out]
    unfold whL
    rw [sum_cast]
    have := h.sum
    unfold inL at this ⊢
    rw [this]
  have hnn : ∀ i, i < (flatL (fun _ => C) (outZ n z R C zs) R).length → 0 ≤ atF (flatL (fun _ => C) (outZ n z R C zs) R) i := fun i hi => by
    rw [← whL_out] at hi ⊢
    unfold atF whL at *
    rw [List.getD_eq_getElem?_getD, List.getElem?_map]
    cases e : (flatF C (inF n z C zs) R)[i]? with
    | none => simp
    | some p => simp
  have hneg : negB (atF (flatL (fun _ => C) (outZ n z R C zs) R)) (flatL (fun _ => C) (outZ n z R C zs) R).length = false := by
    cases e : negB (atF (flatL (fun _ => C) (outZ n z R C zs) R)) (flatL (fun _ => C) (outZ n z R C zs) R).length with
    | false => rfl
    | true =>
      obtain ⟨i, hi, hn⟩ := (negB_iff _ _).1 e
      have := hnn i hi
      omega
  have hLp : 0 < inL n z R C zs := lcmP_pos _ fun p hp => by
    obtain ⟨i, k, hi, hk, rfl⟩ := flatF_mem hp
    exact (h.low hi k).1
  have hsome : someB (atF (flatL (fun _ => C) (outZ n z R C zs) R)) (flatL (fun _ => C) (outZ n z R C zs) R).length = true := by
    cases e : someB (atF (flatL (fun _ => C) (outZ n z R C zs) R)) (flatL (fun _ => C) (outZ n z R C zs) R).length with
    | true => rfl
    | false =>
      exfalso
      have hz : ∀ i, i < (flatL (fun _ => C) (outZ n z R C zs) R).length → atF (flatL (fun _ => C) (outZ n z R C zs) R) i = (fun _ => 0) i := fun i hi => by
        have h1 := hnn i hi
        have h2 : ¬ 0 < atF (flatL (fun _ => C) (outZ n z R C zs) R) i := fun hp => by
          have := (someB_iff _ _).2 ⟨i, hi, hp⟩
          rw [e] at this; cases this
        show _ = (0 : Int)
        omega
      rw [sumN_congr hz] at hs
      have h0 : ∀ m, sumN (fun _ => 0) m = 0 := by
        intro m
        induction m with
        | zero => rfl
        | succ m ih => show sumN (fun _ => 0) m + 0 = 0; rw [ih]; rfl
      rw [h0] at hs
      omega
  by_cases hg : 4096 < inL n z R C zs
  · rw [if_pos hg]
    exact listErr_great hneg hsome (by rw [hs]; omega)
  · rw [if_neg hg]
    exact listErr_none0 hneg hsome (by rw [hs]; omega)

/-- A table, whatever its rows' slices are. -/
def TabIs (w : World) (v : Value) (R : Nat) (ns : Nat → Nat) (zs : Nat → Nat → Int) : Prop := ∃ vs, TabAt w v R vs ns zs
theorem flatL_at {C : Nat} {Z : Nat → Nat → Int} : ∀ {R i k : Nat}, i < R → k < C → atF (flatL (fun _ => C) Z R) (i * C + k) = Z i k
  | R + 1, i, k, hi, hk => by
    have hl : (flatL (fun _ => C) Z R).length = R * C := by rw [flatL_length, sumT_constC]
    unfold atF
    show (flatL (fun _ => C) Z R ++ rowL (Z R) C).getD (i * C + k) 0 = _
    rw [List.getD_eq_getElem?_getD]
    rcases Nat.lt_or_ge i R with h | h
    · have h5 : i * C + C ≤ R * C := by rw [← Nat.succ_mul]; exact Nat.mul_le_mul_right _ h
      rw [List.getElem?_append_left (by rw [hl]; omega), ← List.getD_eq_getElem?_getD]
      exact flatL_at h hk
    · obtain rfl : i = R := by omega
      rw [List.getElem?_append_right (by rw [hl]; omega), hl, show i * C + k - i * C = k by omega, ← List.getD_eq_getElem?_getD]
      exact atF_rowL hk
end Go.Proofs.YthfonahbjiobcaaDoor

/- channel.Guess. -/
namespace Go.Proofs.YthfonahbjiobcaaDoor
open Go.RowKit

def outN (n : Nat) (z : Nat → Int) (R C : Nat) (zs : Nat → Nat → Int) (i k : Nat) : Nat := wholeP (inL n z R C zs) (inF n z C zs i k)
theorem outZ_N (n : Nat) (z : Nat → Int) (R C : Nat) (zs : Nat → Nat → Int) (i k : Nat) : outZ n z R C zs i k = (outN n z R C zs i k : Int) := rfl
theorem InOk.all {n : Nat} {z : Nat → Int} {R C : Nat} {zs : Nat → Nat → Int} (h : InOk n z R C zs) : allN (outN n z R C zs) R C = inL n z R C zs := by
  have := allN_whole (inL n z R C zs) C (inF n z C zs) R
  rw [h.sum] at this
  exact this
theorem tab_rowsAt {w : World} {v : Value} {R C : Nat} {Z : Nat → Nat → Int} (h : TabIs w v R (fun _ => C) Z) (h0 : 0 < R) (hC : 0 < C) : ∃ b o cap, v = .slice (some ⟨b, o, none⟩) R cap ∧ ∀ i, i < R → ∃ rb ro rc, ∀ W, Below w.heap.size w W → W.cell? ⟨b, o + i, none⟩ = some (.slice (some ⟨rb, ro, none⟩) C rc) ∧ ∀ k, k < C → W.cell? ⟨rb, ro + k, none⟩ = some (.int .i64 (Z i k)) := by
  obtain ⟨vs, hv⟩ := h
  rcases hv with ⟨_, _, _, h1⟩ | ⟨b, o, cap, h1, _, h2⟩
  · omega
  · refine ⟨b, o, cap, h1, fun i hi => ?_⟩
    obtain ⟨h3, h4⟩ := h2 i hi
    rcases h4 with ⟨_, _, _, h5⟩ | ⟨rb, ro, rc, h5, _, h6⟩
    · have h5' : C = 0 := h5
      omega
    · refine ⟨rb, ro, rc, fun W hb => ⟨?_, fun k hk => ?_⟩⟩
      · rw [hb.cell (cell_lt h3), h3, h5]
      · rw [hb.cell (cell_lt (h6 k hk))]; exact h6 k hk

set_option maxRecDepth 100000 in
set_option maxHeartbeats 4000000 in
theorem Guess_ok (a : Nat → Addr) (u : Value) (n : Nat) (z : Nat → Int) (v : Value) (R : Nat) (vs : Nat → Value) (ns : Nat → Nat) (zs : Nat → Nat → Int) (w : World) (hE : Errs w a) (hu : NumsAt w u n z) (h : TabAt w v R vs ns zs) (hn : n ≤ 1000) (hR : R ≤ 40) (hns : ∀ i, i < R → ns i ≤ 400) (h0 : taErr n z R ns zs = 0) (S : Nat) (hS : S = rightN (outN n z R (ns 0) zs) R (ns 0)) :
    Calls Tryd.prog 9 #[u, v] w fun e w' => ∃ g, e = .returned (.tuple #[.slice (some ⟨g, 0, none⟩) (ns 0) (ns 0), .agg #[.int .i64 ((lowP (inL n z R (ns 0) zs - S) (inL n z R (ns 0) zs)).1 : Int), .int .i64 ((lowP (inL n z R (ns 0) zs - S) (inL n z R (ns 0) zs)).2 : Int)], .nilIface]) ∧ RowIs w' g (ns 0) (fun k => .int .i64 (lkN (outN n z R (ns 0) zs) k R)) ∧ Below w.heap.size w w' := by
  obtain ⟨W0, hW0⟩ : ∃ W0, W0 = w.alloc (.cells #[.int .i64 0, .int .i64 0] 33) := ⟨_, rfl⟩
  have hb0 : Below w.heap.size w W0 := by rw [hW0]; exact (Below.refl _ _).alloc (Nat.le_refl _) _
  have hres : ∀ W, Below W0.heap.size W0 W → W.cell? ⟨w.heap.size, 0, none⟩ = some (.int .i64 0) ∧ W.cell? ⟨w.heap.size, 1, none⟩ = some (.int .i64 0) ∧ W.frozen? ⟨w.heap.size, 0, none⟩ = false ∧ W.frozen? ⟨w.heap.size, 1, none⟩ = false := fun W hb => by
    rw [hW0] at hb
    exact res_past hb
  have ht := chTable_any a u n z v R vs ns zs W0 (hE.below hb0) (hu.later hb0) (h.later hb0) hn hR hns
  obtain ⟨he, hL4⟩ : inErr n z R ns zs = 0 ∧ inL n z R (ns 0) zs ≤ 4096 := by
    unfold taErr at h0
    by_cases h1 : inErr n z R ns zs ≠ 0
    · rw [if_pos h1] at h0; exact absurd h0 h1
    · rw [if_neg h1] at h0
      by_cases h2 : 4096 < inL n z R (ns 0) zs
      · rw [if_pos h2] at h0; cases h0
      · exact ⟨by omega, by omega⟩
  obtain ⟨hok, _⟩ := inOk_of he
  have hall := hok.all
  have hR0 := hok.n0
  have hR16 := hok.n16
  have hC0 := hok.c0
  have hC16 := hok.c16
  have hLp : 0 < inL n z R (ns 0) zs := lcmP_pos _ fun p hp => by
    obtain ⟨i, k, hi, hk, rfl⟩ := flatF_mem hp
    exact (hok.low hi k).1
  obtain ⟨i0, hi, hz0, hz1, hz2⟩ := info_parts Tryd.infoInt
  have HINF : Hid (Tryd.prog.info? 3 = some i0 ∧ i0.zero = some (.int .i64 0) ∧ i0.size = 1 ∧ i0.bytes = 8) := ⟨hi, hz0, hz1, hz2⟩
  clear hi hz0 hz1 hz2
  rw [h0, errV_zero] at ht
  have HZZ : Hid (∀ i k, outZ n z R (ns 0) zs i k = (outN n z R (ns 0) zs i k : Int)) := fun i k => rfl
  generalize outN n z R (ns 0) zs = Z at *
  generalize inL n z R (ns 0) zs = L at *
  obtain ⟨ad, cap, rfl⟩ := hu.form
  obtain ⟨ad', cap', rfl⟩ := h.form
  have HB0 := Hid.mk' hb0
  have HRES := Hid.mk' hres
  have HW0 := Hid.mk' hW0
  clear hE h hu hb0 hres hW0 hns hok he
  generalize ns 0 = C at *
  have HALL := Hid.mk' hall
  have HSS := Hid.mk' hS
  have HSL : Hid (S ≤ L) := by show _ ≤ _; rw [hS, ← hall]; exact rightN_le Z R C
  have HLOW := Hid.mk' (fun (W : World) => lowest_any ((L - S : Nat) : Int) L W (by omega) (by omega) (by omega) (by omega) (Nat.gcd (L - S) L) (by rw [Int.natAbs_natCast]))
  clear hall hS
  go_enter Tryd.func9, Tryd.ntmps9
  go_upto_region 1 with fail
  rw [← HW0.out]
  go_wp2_with fail
  refine ht.mono ?_
  clear ht
  rintro e w1 ⟨t1, rfl, _, ht1, hb1⟩
  obtain ⟨b, o, cap1, rfl, hrows⟩ := tab_rowsAt (ht1 (by trivial)) hR0 hC0
  have HROW : Hid (∀ i, i < R → ∃ rb ro rc, ∀ W, Below w1.heap.size w1 W → W.cell? ⟨b, o + i, none⟩ = some (.slice (some ⟨rb, ro, none⟩) C rc) ∧ ∀ k, k < C → W.cell? ⟨rb, ro + k, none⟩ = some (.int .i64 (Z i k : Int))) := fun i hi => by
    obtain ⟨rb, ro, rc, h5⟩ := hrows i hi
    exact ⟨rb, ro, rc, fun W hb => ⟨(h5 W hb).1, fun k hk => by rw [(h5 W hb).2 k hk, HZZ.out]⟩⟩
  have HB1 := Hid.mk' hb1
  obtain ⟨rb0, ro0, rc0, hrow0⟩ := HROW.out 0 hR0
  have hc0 := (hrow0 w1 (Below.refl _ _)).1
  rw [Nat.add_zero] at hc0
  clear ht1 hb1 hrows hrow0 HZZ
  go_wp2_with (at_make; go_must (refine wpList_make_full _ rfl _ _ _ rfl w1.heap.size 3 i0 _ 1 Tryd.underlying22 HINF.out.1 HINF.out.2.1 HINF.out.2.2.1 .i64 .i64 _ _ C rfl rfl rfl rfl (by rw [HINF.out.2.2.2]; omega) (by unfold maxLen; omega) (Nat.le_refl _) ?_; intro w2 hown2 hgrow2; have HF2 := Hid.mk' (rowIs_made hown2 (made_one (.int .i64 0) rfl C)); have HB2 := Hid.mk' (made_below hgrow2); clear hown2 hgrow2))
  clear hc0
  go_loopw [10, 11, 34] (fun r s t wr => ∃ (k : Nat) (f : Nat → Value), k ≤ C ∧ t = .int .i64 k ∧ r = .int .i64 (rightN Z R k : Int) ∧ s = .int .i64 (allN Z R k : Int) ∧ Hid (RowIs wr w1.heap.size C f ∧ ∀ j, j < k → f j = .int .i64 (lkN Z j R)) ∧ Hid (Below w1.heap.size w1 wr)) (fun _ _ t _ => C - (intOf t).toNat)
  case atStart => exact ⟨0, _, Nat.zero_le _, rfl, rfl, rfl, ⟨HF2.out, fun j hj => by omega⟩, HB2⟩
  case round =>
    clear HF2 HB2
    obtain ⟨k, f, hk, rfl, rfl, rfl, HF, HB⟩ := hrel
    rcases Nat.lt_or_ge k C with h1 | h1
    · have hkI : (k : Int) < (C : Int) := by omega
      have hk0 : (0 : Int) ≤ (k : Int) := by omega
      have HAK : Hid (allN Z R (k + 1) = allN Z R k + colN Z R k) := rfl
      have HRK : Hid (rightN Z R (k + 1) = rightN Z R k + mxN Z k R) := rfl
      have hakL : allN Z R k + colN Z R k ≤ L := by
        have h5 : allN Z R (k + 1) ≤ allN Z R C := sumW_le h1
        rw [HALL.out, HAK.out] at h5
        exact h5
      have hrkL : rightN Z R k + mxN Z k R ≤ L := by
        have h5 := rightN_le Z R (k + 1)
        rw [HAK.out, HRK.out] at h5
        omega
      go_wp2_with fail
      obtain ⟨wo, hwo⟩ : ∃ wo, wo = wr := ⟨_, rfl⟩
      rw [← hwo] at HF HB ⊢
      clear hwo
      go_loopw [11, 13, 14, 39] (fun s l m t wr => ∃ i : Nat, i ≤ R ∧ t = .int .i64 i ∧ s = .int .i64 ((allN Z R k + colN Z i k : Nat) : Int) ∧ l = .int .i64 (lkN Z k i) ∧ m = .int .i64 (mxN Z k i : Int) ∧ Hid (Below wo.heap.size wo wr)) (fun _ _ _ t _ => R - (intOf t).toNat)
      case atStart => exact ⟨0, Nat.zero_le _, rfl, rfl, rfl, rfl, Below.refl _ _⟩
      case round =>
        obtain ⟨i, hi, rfl, rfl, rfl, rfl, HC⟩ := hrel
        rcases Nat.lt_or_ge i R with h2 | h2
        · have hiI : (i : Int) < (R : Int) := by omega
          have hi0 : (0 : Int) ≤ (i : Int) := by omega
          obtain ⟨rb, ro, rc, hrow⟩ := HROW.out i h2
          obtain ⟨hcr, hce⟩ := hrow wr (below_chain HB.out HC.out)
          have hcc := hce k h1
          have hcrd := (hrow wr.drew (below_chain HB.out HC.out.drew)).1
          have hccd := (hrow wr.drew (below_chain HB.out HC.out.drew)).2 k h1
          have HCS : Hid (colN Z (i + 1) k = colN Z i k + Z i k) := rfl
          have hcl : colN Z i k + Z i k ≤ colN Z R k := sumW_le (f := fun i => Z i k) (k := i + 1) h2
          have hml := mxN_le Z k i
          have HMS : Hid (mxN Z k (i + 1) = if mxN Z k i < Z i k then Z i k else mxN Z k i) := rfl
          have HLS : Hid (lkN Z k (i + 1) = if mxN Z k i < Z i k then (i : Int) else lkN Z k i) := rfl
          clear hrow hce
          generalize allN Z R k = A at *
          generalize colN Z R k = cR at *
          generalize colN Z i k = ci at *
          generalize mxN Z k i = mi at *
          generalize lkN Z k i = li at *
          generalize Z i k = x at *
          by_cases hgt : mi < x
          · have hgI : (mi : Int) < (x : Int) := by omega
            rw [if_pos hgt] at HMS HLS
            go_wp2_with fail
            go_region
            all_goals
              go_wp2_with fail
              exact ⟨⟨i + 1, h2, by go_num, by rw [HCS.out]; go_num, by rw [HLS.out], by rw [HMS.out], HC.out.drew⟩, by simp [intOf]; omega⟩
          · have hgI : ¬ (mi : Int) < (x : Int) := by omega
            rw [if_neg hgt] at HMS HLS
            go_wp2_with fail
            exact ⟨⟨i + 1, h2, by go_num, by rw [HCS.out]; go_num, by rw [HLS.out], by rw [HMS.out], HC⟩, by simp [intOf]; omega⟩
        · obtain rfl : i = R := by omega
          have hF := HF.out.1.later HC.out
          have y0 := hF.row k h1
          have z0 := hF.fz k h1
          have HS : Hid (RowIs (wr.setCell ⟨w1.heap.size, k, none⟩ (.int .i64 (lkN Z k i))) w1.heap.size C (fun j => if j = k then .int .i64 (lkN Z k i) else f j)) := hF.setF h1 _ (fun _ _ => rfl)
          have HBB : Hid (Below w1.heap.size w1 (wr.setCell ⟨w1.heap.size, k, none⟩ (.int .i64 (lkN Z k i)))) := (below_chain HB.out HC.out).setCell (Nat.le_refl _) _
          have HFF : Hid (∀ j, j < k + 1 → (if j = k then Value.int .i64 (lkN Z k i) else f j) = .int .i64 (lkN Z j i)) := fun j hj => by
            by_cases hjk : j = k
            · rw [if_pos hjk, hjk]
            · rw [if_neg hjk]; exact HF.out.2 j (by omega)
          clear hF
          generalize hlk : lkN Z k i = li at y0 z0 HS HBB HFF ⊢
          clear hlk
          generalize rightN Z i k = rk at *
          generalize allN Z i k = ak at *
          generalize mxN Z k i = mk at *
          generalize colN Z i k = ck at *
          go_wp2_with fail
          exact ⟨⟨k + 1, _, h1, by go_num, by rw [HRK.out]; go_num, by rw [HAK.out], ⟨HS.out, HFF.out⟩, HBB⟩, by simp [intOf]; omega⟩
    · obtain rfl : k = C := by omega
      rw [HALL.out, ← HSS.out]
      have hsl := HSL.out
      have hcast : (L : Int) - (S : Int) = ((L - S : Nat) : Int) := by omega
      have hlw := HLOW.out wr
      have hq : ((L - S : Nat) : Int).tdiv (Nat.gcd (L - S) L : Int) = ((L - S) / Nat.gcd (L - S) L : Nat) := by rw [Int.tdiv_eq_ediv_of_nonneg (by omega)]; simp
      rw [hq] at hlw
      have HE1 : Hid ((lowP (L - S) L).1 = (L - S) / Nat.gcd (L - S) L ∧ (lowP (L - S) L).2 = L / Nat.gcd (L - S) L) := ⟨rfl, rfl⟩
      generalize (L - S) / Nat.gcd (L - S) L = pp at *
      generalize L / Nat.gcd (L - S) L = qq at *
      generalize hD : L - S = D at *
      have HDD := Hid.mk' hD
      clear hq hD
      go_wp2_with fail
      refine hlw.mono ?_
      clear hlw
      rintro e w9 ⟨rfl, hb9⟩
      obtain ⟨x0, x1, q0, q1⟩ := HRES.out w9 (below_chain HB1.out (below_chain HB.out hb9))
      have hF := HF.out.1.later hb9
      have HF9 := Hid.mk' hF
      have HB9 := Hid.mk' (below_chain HB0.out (below_chain HB1.out (below_chain HB.out hb9)))
      have HNE : Hid (w1.heap.size ≠ w.heap.size) := by
        have h5 : w.heap.size < W0.heap.size := by rw [HW0.out]; simp
        have := HB1.out.size
        show _ ≠ _
        omega
      clear hb9 hF
      go_wp2_with fail
      refine bodyPost_ret (v := .tuple #[.slice (some ⟨w1.heap.size, 0, none⟩) k k, .agg #[.int .i64 (pp : Int), .int .i64 (qq : Int)], .nilIface]) (by simp [results, Tryd.results9, go_sem, x0, x1]) rfl ⟨w1.heap.size, by rw [HDD.out, HE1.out.1, HE1.out.2], ⟨fun j hj => ?_, fun j hj => ?_⟩, ?_⟩
      · rw [World.cell?_setCell_other _ _ _ _ (fun e => HNE.out (congrArg Addr.block e).symm), World.cell?_setCell_other _ _ _ _ (fun e => HNE.out (congrArg Addr.block e).symm), HF9.out.row j hj, HF.out.2 j hj]
      · rw [World.frozen?_setCell, World.frozen?_setCell]; exact HF9.out.fz j hj
      · exact (HB9.out.setCell (by simp) _).setCell (by simp) _
set_option maxRecDepth 100000 in
set_option maxHeartbeats 1000000 in
theorem Guess_bad (a : Nat → Addr) (u : Value) (n : Nat) (z : Nat → Int) (v : Value) (R : Nat) (vs : Nat → Value) (ns : Nat → Nat) (zs : Nat → Nat → Int) (w : World) (hE : Errs w a) (hu : NumsAt w u n z) (h : TabAt w v R vs ns zs) (hn : n ≤ 1000) (hR : R ≤ 40) (hns : ∀ i, i < R → ns i ≤ 400) (h0 : taErr n z R ns zs ≠ 0) :
    Calls Tryd.prog 9 #[u, v] w fun e w' => e = .returned (.tuple #[.slice none 0 0, .agg #[.int .i64 0, .int .i64 0], errV a (taErr n z R ns zs)]) ∧ Below w.heap.size w w' := by
  obtain ⟨W0, hW0⟩ : ∃ W0, W0 = w.alloc (.cells #[.int .i64 0, .int .i64 0] 33) := ⟨_, rfl⟩
  have hb0 : Below w.heap.size w W0 := by rw [hW0]; exact (Below.refl _ _).alloc (Nat.le_refl _) _
  have hres : ∀ W, Below W0.heap.size W0 W → W.cell? ⟨w.heap.size, 0, none⟩ = some (.int .i64 0) ∧ W.cell? ⟨w.heap.size, 1, none⟩ = some (.int .i64 0) ∧ W.frozen? ⟨w.heap.size, 0, none⟩ = false ∧ W.frozen? ⟨w.heap.size, 1, none⟩ = false := fun W hb => by
    rw [hW0] at hb
    exact res_past hb
  have ht := chTable_any a u n z v R vs ns zs W0 (hE.below hb0) (hu.later hb0) (h.later hb0) hn hR hns
  rw [errV_pos a h0] at ht ⊢
  generalize a (taErr n z R ns zs - 1) = ea at ht ⊢
  obtain ⟨ad, cap, rfl⟩ := hu.form
  obtain ⟨ad', cap', rfl⟩ := h.form
  have HB0 := Hid.mk' hb0
  have HRES := Hid.mk' hres
  have HW0 := Hid.mk' hW0
  clear hE h hu hb0 hres hW0 hns
  go_enter Tryd.func9, Tryd.ntmps9
  go_upto_region 1 with fail
  rw [← HW0.out]
  go_wp2_with fail
  refine ht.mono ?_
  clear ht
  rintro e w1 ⟨t1, rfl, ht1, _, hb1⟩
  obtain rfl := ht1 h0
  obtain ⟨x0, x1, q0, q1⟩ := HRES.out w1 hb1
  have HB1 := Hid.mk' (below_chain HB0.out hb1)
  clear ht1 hb1 h0
  go_wp2_with fail
  refine bodyPost_ret (v := .tuple #[.slice none 0 0, .agg #[.int .i64 0, .int .i64 0], .iface 131 (.pointer (some ea))]) (by simp [results, Tryd.results9, go_sem, x0, x1]) rfl ⟨rfl, ?_⟩
  exact (HB1.out.setCell (by simp) _).setCell (by simp) _
end Go.Proofs.YthfonahbjiobcaaDoor
