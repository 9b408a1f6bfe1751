/- The document's SignsOf. -/
import Derived.Test.YtdlbnolnkmhdcaaDoorSkCe
import Derived.Test.YtdlbnolnkmhdcaaDoorSkWays
namespace Go.Proofs.YtdlbnolnkmhdcaaDoor
open Go.RowKit

/-- A table whose rows lie in blocks of their own, each with its room. -/
structure GridC (w wr : World) (g n C : Nat) (rb cp : Nat → Nat) (f : Nat → Nat → Value) : Prop where
  below : Below w.heap.size w wr
  made : ∀ i, i < n → wr.cell? ⟨g, i, none⟩ = some (.slice (some ⟨rb i, 0, none⟩) C (cp i))
  rge : ∀ i, i < n → w.heap.size ≤ rb i ∧ rb i ≠ g
  inj : ∀ i j, i < n → j < n → rb i = rb j → i = j
  rows : ∀ i, i < n → RowIs wr (rb i) C (f i)
theorem GridC.later {w wr wn : World} {g n C : Nat} {rb cp : Nat → Nat} {f : Nat → Nat → Value} (h : GridC w wr g n C rb cp f) (hb : Below wr.heap.size wr wn) : GridC w wn g n C rb cp f :=
  ⟨below_chS h.below hb, fun i hi => by rw [hb.cell (cell_lt (h.made i hi))]; exact h.made i hi, h.rge, h.inj, fun i hi => (h.rows i hi).later hb⟩
theorem GridC.base {w w1 wr : World} {g n C : Nat} {rb cp : Nat → Nat} {f : Nat → Nat → Value} (h : GridC w1 wr g n C rb cp f) (hb : Below w.heap.size w w1) : GridC w wr g n C rb cp f :=
  ⟨below_chS hb h.below, h.made, fun i hi => ⟨Nat.le_trans hb.size (h.rge i hi).1, (h.rge i hi).2⟩, h.inj, h.rows⟩
theorem GridC.set {w wr : World} {g n C : Nat} {rb cp : Nat → Nat} {f : Nat → Nat → Value} (h : GridC w wr g n C rb cp f) {i k : Nat} (hi : i < n) (hk : k < C) (y : Value) {f' : Nat → Nat → Value} (hf : ∀ i' k', i' < n → k' < C → f' i' k' = if i' = i ∧ k' = k then y else f i' k') :
    GridC w (wr.setCell ⟨rb i, k, none⟩ y) g n C rb cp f' := by
  have hx := (h.rows i hi).row k hk
  have hne := (h.rge i hi).2
  refine ⟨h.below.setCell (h.rge i hi).1 _, fun j hj => ?_, h.rge, h.inj, fun j hj => ⟨fun c hc => ?_, fun c hc => ?_⟩⟩
  · rw [put_cell _ hx, if_neg (fun e => hne (congrArg Addr.block e).symm)]
    exact h.made j hj
  · rw [put_cell _ hx, hf j c hj hc]
    by_cases hjc : j = i ∧ c = k
    · obtain ⟨rfl, rfl⟩ := hjc
      rw [if_pos rfl, if_pos ⟨rfl, rfl⟩]
    · rw [if_neg hjc, if_neg (fun e => hjc ⟨h.inj j i hj hi (congrArg Addr.block e), congrArg Addr.off e⟩)]
      exact (h.rows j hj).row c hc
  · rw [World.frozen?_setCell]; exact (h.rows j hj).fz c hc
theorem GridC.cast {w wr : World} {g n C : Nat} {rb cp : Nat → Nat} {f f' : Nat → Nat → Value} (h : GridC w wr g n C rb cp f) (hf : ∀ i k, i < n → k < C → f' i k = f i k) : GridC w wr g n C rb cp f' :=
  ⟨h.below, h.made, h.rge, h.inj, fun i hi => ⟨fun k hk => by rw [hf i k hi hk]; exact (h.rows i hi).row k hk, (h.rows i hi).fz⟩⟩
theorem GridC.tab {w wr : World} {g n C cap : Nat} {rb cp : Nat → Nat} {Z : Nat → Nat → Int} (h : GridC w wr g n C rb cp (fun i k => .int .i64 (Z i k))) (h0 : 0 < n) (hC : 0 < C) : TabAt wr (.slice (some ⟨g, 0, none⟩) n cap) n (fun i => .slice (some ⟨rb i, 0, none⟩) C (cp i)) (fun _ => C) Z := by
  refine Or.inr ⟨g, 0, cap, rfl, h0, fun i hi => ⟨by rw [Nat.zero_add]; exact h.made i hi, Or.inr ⟨rb i, 0, cp i, rfl, hC, fun k hk => ?_⟩⟩⟩
  rw [Nat.zero_add]
  exact (h.rows i hi).row k hk
/-- Rows as they are appended, one behind the other. -/
structure RowsC (w wr : World) (m C : Nat) (rb cp : Nat → Nat) (f : Nat → Nat → Int) : Prop where
  own : ∀ i, i < m → wr.ownsRow w.heap.size 3 1 (.slice (some ⟨rb i, 0, none⟩) C (cp i)) C (numCells (f i) C)
  lt : ∀ i, i < m → rb i < wr.heap.size
  inj : ∀ i j, i < m → j < m → rb i = rb j → i = j
theorem RowsC.later {w wr wn : World} {m C : Nat} {rb cp : Nat → Nat} {f : Nat → Nat → Int} (h : RowsC w wr m C rb cp f) (hb : Below wr.heap.size wr wn) : RowsC w wn m C rb cp f :=
  ⟨fun i hi => own_past (h.own i hi) hb, fun i hi => Nat.lt_of_lt_of_le (h.lt i hi) hb.size, h.inj⟩
theorem own_cells {w : World} {b g n c : Nat} {t : TypeId} {xs : List Value} (h : w.ownsRow b t 1 (.slice (some ⟨g, 0, none⟩) n c) n xs) : ∃ cur, w.heap[g]? = some (.cells cur t (0, 0)) ∧ b ≤ g := by
  rcases h.2 with ⟨hx, _⟩ | ⟨g', cap', cur, hv, hge, hh, _⟩
  · cases hx
  · obtain ⟨rfl, _⟩ : g = g' ∧ _ := by simpa using hv
    exact ⟨cur, hh, hge⟩
theorem RowsC.grid {w wr : World} {g gc n C : Nat} {rb cp : Nat → Nat} {f : Nat → Nat → Int} (h : RowsC w wr n C rb cp f) (ho : wr.ownsRow w.heap.size 22 1 (.slice (some ⟨g, 0, none⟩) n gc) n (rowV (fun i => .slice (some ⟨rb i, 0, none⟩) C (cp i)) n)) (hb : Below w.heap.size w wr) : GridC w wr g n C rb cp (fun i k => .int .i64 (f i k)) := by
  obtain ⟨cur, hg, _⟩ := own_cells ho
  refine ⟨hb, fun i hi => ?_, fun i hi => ?_, h.inj, fun i hi => ?_⟩
  · rcases ho.2 with ⟨hx, _⟩ | ⟨g', cap', cur', hv, _, hh, _, _, hs, ht⟩
    · cases hx
    · obtain ⟨rfl, rfl⟩ : g = g' ∧ gc = cap' := by simpa using hv
      have h1 : (rowV (fun i => Value.slice (some ⟨rb i, 0, none⟩) C (cp i)) n)[i]? = some (.slice (some ⟨rb i, 0, none⟩) C (cp i)) := by unfold rowV; rw [List.getElem?_map, List.getElem?_range hi]; rfl
      rw [← h1, ← ht, List.getElem?_take_of_lt (by omega)]
      simp [World.cell?, hh]
  · obtain ⟨cur2, h2, h3⟩ := own_cells (h.own i hi)
    refine ⟨h3, fun e => ?_⟩
    rw [e, hg] at h2
    simp at h2
  · have h2 := rowAt_of_row (h.own i hi)
    obtain ⟨cur2, h3, _⟩ := own_cells (h.own i hi)
    exact ⟨fun k hk => by have := h2 k hk; rwa [Nat.zero_add] at this, fun k hk => by simp [World.frozen?, h3]⟩
theorem RowsC.push {w wk wr w3 : World} {m C q c : Nat} {rb cp : Nat → Nat} {f : Nat → Nat → Int} {u : Value} {nn : Nat} {xs : List Value} {X : Obj} (h : RowsC w wr m C rb cp f) (hlt : ∀ i, i < m → rb i < wk.heap.size) (hwk : w.heap.size ≤ wk.heap.size) (hr : wr.ownsRow wk.heap.size 3 1 (.slice (some ⟨q, 0, none⟩) C c) C (numCells (f m) C)) (ho : wr.ownsRow w.heap.size 22 1 u nn xs) (hg : (wr.alloc X).grownBy w3 u.ownBlock) :
    RowsC w w3 (m + 1) C (fun i => if i = m then q else rb i) (fun i => if i = m then c else cp i) f := by
  have hz := hg.size
  obtain ⟨cur, hq, hqk⟩ := own_cells hr
  have hql := heap_lt hq
  have hsz : wr.heap.size ≤ w3.heap.size := by
    have h5 : wr.heap.size ≤ (wr.alloc X).heap.size := by simp
    exact Nat.le_trans h5 hz
  refine ⟨fun i hi => ?_, fun i hi => ?_, fun i j hi hj e => ?_⟩
  · by_cases e : i = m
    · subst e
      rw [if_pos rfl, if_pos rfl]
      exact own_beside (own_past (hr.mono hwk) ((Below.refl _ _).alloc (Nat.le_refl _) _)) (ho.alloc _) (by decide) hg
    · rw [if_neg e, if_neg e]
      exact own_beside (own_past (h.own i (by omega)) ((Below.refl _ _).alloc (Nat.le_refl _) _)) (ho.alloc _) (by decide) hg
  · split
    · omega
    · have := h.lt i (by omega); omega
  · by_cases e1 : i = m
    · by_cases e2 : j = m
      · omega
      · rw [if_pos e1, if_neg e2] at e
        have := hlt j (by omega); omega
    · by_cases e2 : j = m
      · rw [if_neg e1, if_pos e2] at e
        have := hlt i (by omega); omega
      · rw [if_neg e1, if_neg e2] at e
        exact h.inj i j (by omega) (by omega) e

/-- The greatest of t and the first j numbers. -/
def rmx (t : Int) (z : Nat → Int) : Nat → Int
  | 0 => t
  | j + 1 => if rmx t z j < z j then z j else rmx t z j
theorem rmx_max (t : Int) (z : Nat → Int) : ∀ j, rmx t z (j + 1) = if t < maxTo z j then maxTo z j else t
  | 0 => rfl
  | j + 1 => by
    have ih := rmx_max t z j
    have e : rmx t z (j + 1 + 1) = if rmx t z (j + 1) < z (j + 1) then z (j + 1) else rmx t z (j + 1) := rfl
    have e2 : maxTo z (j + 1) = if maxTo z j < z (j + 1) then z (j + 1) else maxTo z j := by simp only [maxTo]
    rw [e, ih, e2]
    grind
theorem rmx_top {C : Nat} {zs : Nat → Nat → Int} {k : Nat} (hC : 0 < C) (h0 : 0 ≤ maxTo (zs k) (C - 1)) : rmx ((topN C zs k - 1 : Nat) : Int) (zs k) C = ((topN C zs (k + 1) - 1 : Nat) : Int) := by
  have h1 := rmx_max ((topN C zs k - 1 : Nat) : Int) (zs k) (C - 1)
  rw [Nat.sub_add_cancel hC] at h1
  rw [h1]
  simp only [topN]
  split <;> (split <;> omega)
theorem rmx_bound {t : Int} {z : Nat → Int} {n : Nat} (ht : 0 ≤ t ∧ t < 16) (hz : ∀ i, i < n → 0 ≤ z i ∧ z i < 16) : ∀ j, j ≤ n → 0 ≤ rmx t z j ∧ rmx t z j < 16
  | 0, _ => ht
  | j + 1, h => by
    have ih := rmx_bound ht hz j (by omega)
    have := hz j (by omega)
    simp only [rmx]; split <;> omega

set_option maxRecDepth 100000 in
set_option maxHeartbeats 8000000 in
theorem SignsOf_any (kv lv : Value) (n : Nat) (z : Nat → Int) (R : Nat) (vs : Nat → Value) (ns : Nat → Nat) (zs : Nat → Nat → Int) (w : World) (hk : NumsAt w kv n z) (hl : TabAt w lv R vs ns zs) (hok : OkC n z R ns zs) :
    Calls Tryd.prog 9 #[.agg #[kv, lv]] w fun e w' => ∃ g gc rb cp, e = .returned (.slice (some ⟨g, 0, none⟩) (ns 0) gc) ∧ GridC w w' g (ns 0) (topN (ns 0) zs n) rb cp (fun i s => .int .i64 (wayZ z zs i s n)) := by
  obtain rfl := hok.same
  have h0 := hok.w.posN
  have h16 := hok.few
  have hC0 := hok.len0
  have hC16 : ns 0 ≤ 16 := rowB_short (hok.row 0 h0)
  obtain ⟨pb, po, kc, rfl, hp⟩ : ∃ pb po cap, kv = .slice (some ⟨pb, po, none⟩) R cap ∧ RowAt w pb po R z := by
    rcases hk with ⟨_, _, _, h1⟩ | ⟨pb, po, cap, h1, _, h2⟩
    · omega
    · exact ⟨pb, po, cap, h1, h2⟩
  obtain ⟨b, o, lc, rfl, hr⟩ : ∃ b o cap', lv = .slice (some ⟨b, o, none⟩) R cap' ∧ ∀ i, i < R → ∃ rb ro rc, w.cell? ⟨b, o + i, none⟩ = some (.slice (some ⟨rb, ro, none⟩) (ns 0) rc) ∧ RowAt w rb ro (ns 0) (zs i) := by
    rcases hl with ⟨_, _, _, h1⟩ | ⟨b, o, cap', h1, _, h2⟩
    · omega
    · refine ⟨b, o, cap', h1, fun i hi => ?_⟩
      obtain ⟨h3, h4⟩ := h2 i hi
      rw [hok.len i hi] at h4
      rcases h4 with ⟨_, _, _, h5⟩ | ⟨rb, ro, rc, h5, _, h6⟩
      · omega
      · exact ⟨rb, ro, rc, by rw [h3, h5], h6⟩
  obtain ⟨w1, hw1⟩ : ∃ w1, w1 = w.alloc (.cells #[.slice (some ⟨pb, po, none⟩) R kc, .slice (some ⟨b, o, none⟩) R lc] 25) := ⟨_, rfl⟩
  have hb1 : Below w.heap.size w w1 := by rw [hw1]; exact (Below.refl _ _).alloc (Nat.le_refl _) _
  have hc0 : w1.cell? ⟨w.heap.size, 0, none⟩ = some (.slice (some ⟨pb, po, none⟩) R kc) := by rw [hw1]; go_simp
  have hc1 : w1.cell? ⟨w.heap.size, 1, none⟩ = some (.slice (some ⟨b, o, none⟩) R lc) := by rw [hw1]; go_simp
  have HB1 := Hid.mk' hb1
  have HW1 := Hid.mk' hw1
  have HC : Hid (∀ W, Below w1.heap.size w1 W → W.cell? ⟨w.heap.size, 0, none⟩ = some (.slice (some ⟨pb, po, none⟩) R kc) ∧ W.cell? ⟨w.heap.size, 1, none⟩ = some (.slice (some ⟨b, o, none⟩) R lc)) := fun W hb => ⟨by rw [hb.cell (cell_lt hc0)]; exact hc0, by rw [hb.cell (cell_lt hc1)]; exact hc1⟩
  have HP : Hid (∀ W, Below w1.heap.size w1 W → RowAt W pb po R z) := fun W hb => (hp.later hb1).later hb
  have HR : Hid (∀ i, i < R → ∃ rb ro rc, ∀ W, Below w1.heap.size w1 W → W.cell? ⟨b, o + i, none⟩ = some (.slice (some ⟨rb, ro, none⟩) (ns 0) rc) ∧ RowAt W rb ro (ns 0) (zs i)) := fun i hi => by
    obtain ⟨rb, ro, rc, h1, h2⟩ := hr i hi
    exact ⟨rb, ro, rc, fun W hb => ⟨by rw [(below_chS hb1 hb).cell (cell_lt h1)]; exact h1, h2.later (below_chS hb1 hb)⟩⟩
  have HTL : Hid (∀ k, k ≤ R → topN (ns 0) zs k ≤ 16) := fun k hk => topN_le hok.row hC0 k hk
  have HMX : Hid (∀ i, i < R → 0 ≤ maxTo (zs i) (ns 0 - 1) ∧ maxTo (zs i) (ns 0 - 1) < 16) := fun i hi => row_max (hok.row i hi) hC0
  have HZS : Hid (∀ i m, i < R → m < ns 0 → 0 ≤ zs i m ∧ zs i m < 16) := fun i m hi hm => ((rowB_iff _ _).1 (hok.row i hi) m hm).1
  have HWL : Hid (∀ m s k, k ≤ R → 0 ≤ wayZ z zs m s k ∧ wayZ z zs m s k ≤ 4096) := fun m s k hk => by
    have h1 := wayZ_le (zs := zs) (m := m) (s := s) hok.w.nn k hk
    have h2 := (hok.w.part hk).2
    exact ⟨h1.1, by omega⟩
  have HZ : Hid (∀ i, i < R → 0 ≤ z i ∧ z i ≤ 4096) := fun i hi => hok.w.lt hi
  have HTP : Hid (0 < topN (ns 0) zs R) := Nat.lt_of_le_of_lt (Nat.zero_le _) (topN_at (i := 0) (m := 0) h0 hC0)
  obtain ⟨i0, hi, hz0, hz1, hz2⟩ := info_parts Tryd.infoInt
  have HINI : Hid (Tryd.prog.info? 3 = some i0 ∧ i0.zero = some (.int .i64 0) ∧ i0.size = 1 ∧ i0.bytes = 8) := ⟨hi, hz0, hz1, hz2⟩
  clear hi hz0 hz1 hz2
  obtain ⟨j0, hi, hz0, hz1, hz2⟩ := info_parts Tryd.infoIntsS
  have HINS : Hid (Tryd.prog.info? 22 = some j0 ∧ j0.zero = some (.slice none 0 0) ∧ j0.size = 1 ∧ j0.bytes = 24) := ⟨hi, hz0, hz1, hz2⟩
  clear hi hz0 hz1 hz2
  have hRI : (0 : Int) < (R : Int) := by omega
  clear hk hl hok hp hr hb1 hw1 hc0
  generalize ns 0 = C at *
  have hCI : (C : Int) ≤ 16 := by omega
  have hC0I : (0 : Int) < (C : Int) := by omega
  go_enter Tryd.func9, Tryd.ntmps9
  go_wp2_with fail
  rw [← HW1.out]
  go_loopw [3, 4] (fun s t wr => ∃ k : Nat, k ≤ R ∧ t = .int .i64 k ∧ s = .int .i64 ((topN C zs k - 1 : Nat) : Int) ∧ wr = w1) (fun _ t _ => R - (intOf t).toNat)
  case atStart => exact ⟨0, Nat.zero_le _, rfl, rfl, rfl⟩
  case round =>
    obtain ⟨k, hk, rfl, rfl, hwr⟩ := hrel
    rw [hwr]
    clear hwr wr
    have htk := HTL.out k hk
    rcases Nat.lt_or_ge k R with h1 | h1
    · have hkI : (k : Int) < (R : Int) := by omega
      have hk0 : (0 : Int) ≤ (k : Int) := by omega
      obtain ⟨rb, ro, rc, hrow⟩ := HR.out k h1
      obtain ⟨hcr, hrw⟩ := hrow w1 (Below.refl _ _)
      have HRW := Hid.mk' hrw
      have HTOP := Hid.mk' (rmx_top (zs := zs) (k := k) hC0 (HMX.out k h1).1)
      have HRB := Hid.mk' (rmx_bound (t := ((topN C zs k - 1 : Nat) : Int)) (z := zs k) (n := C) (by omega) (fun i hi => HZS.out k i h1 hi))
      generalize ((topN C zs k - 1 : Nat) : Int) = t0 at *
      clear hrow hrw
      go_wp2_with fail
      go_loopw [3, 5] (fun s t wr => ∃ j : Nat, j ≤ C ∧ t = .int .i64 j ∧ s = .int .i64 (rmx t0 (zs k) j) ∧ wr = w1) (fun _ t _ => C - (intOf t).toNat)
      case atStart => exact ⟨0, Nat.zero_le _, rfl, rfl, rfl⟩
      case round =>
        obtain ⟨j, hj, rfl, rfl, hwr⟩ := hrel
        rw [hwr]
        clear hwr wr
        rcases Nat.lt_or_ge j C with h2 | h2
        · have hjI : (j : Int) < (C : Int) := by omega
          have hj0 : (0 : Int) ≤ (j : Int) := by omega
          have hcj := HRW.out j h2
          have HN : Hid (rmx t0 (zs k) (j + 1) = if rmx t0 (zs k) j < zs k j then zs k j else rmx t0 (zs k) j) := rfl
          generalize rmx t0 (zs k) j = t1 at *
          generalize zs k j = x at *
          by_cases hx : t1 < x
          · rw [if_pos hx] at HN
            go_wp2_with fail
            exact ⟨⟨j + 1, h2, by go_num, by rw [HN.out], trivial⟩, by simp [intOf]; omega⟩
          · rw [if_neg hx] at HN
            go_wp2_with fail
            exact ⟨⟨j + 1, h2, by go_num, by rw [HN.out], trivial⟩, by simp [intOf]; omega⟩
        · obtain rfl : j = C := by omega
          go_wp2_with fail
          exact ⟨⟨k + 1, h1, by go_num, by rw [HTOP.out], trivial⟩, by simp [intOf]; omega⟩
    · obtain rfl : R = k := by omega
      obtain ⟨T, hTe⟩ : ∃ T, T + 1 = topN C zs R := ⟨topN C zs R - 1, by have := HTP.out; omega⟩
      rw [← hTe] at htk ⊢
      rw [show T + 1 - 1 = T by omega]
      have HTE := Hid.mk' hTe
      have hTI : (T : Int) < 16 := by omega
      obtain ⟨rb0, ro0, rc0, hrow0⟩ := HR.out 0 h0
      have HCZ : Hid (∀ W, Below w1.heap.size w1 W → W.cell? ⟨b, o, none⟩ = some (.slice (some ⟨rb0, ro0, none⟩) C rc0)) := fun W hb => by have := (hrow0 W hb).1; rwa [Nat.add_zero] at this
      clear hrow0 hTe
      go_wp2_with fail
      go_loopw [6, 7] (fun u t wr => ∃ (m : Nat) (rb cp : Nat → Nat), m ≤ C ∧ t = .int .i64 m ∧ Hid (wr.ownsRow w1.heap.size 22 1 u m (rowV (fun i => .slice (some ⟨rb i, 0, none⟩) (T + 1) (cp i)) m)) ∧ Hid (RowsC w1 wr m (T + 1) rb cp (fun i s => wayZ z zs i s R)) ∧ Hid (Below w1.heap.size w1 wr)) (fun _ t _ => C - (intOf t).toNat)
      case atStart => exact ⟨0, fun _ => 0, fun _ => 0, Nat.zero_le _, rfl, ⟨rfl, Or.inl ⟨rfl, rfl⟩⟩, ⟨fun i hi => by omega, fun i hi => by omega, fun i j hi => by omega⟩, Below.refl _ _⟩
      case round =>
        obtain ⟨m, rb, cp, hm, rfl, HO, HRS, HB⟩ := hrel
        have hc1 := (HC.out wr HB.out).2
        have hcz := HCZ.out wr HB.out
        rcases Nat.lt_or_ge m C with h2 | h2
        · have hmI : (m : Int) < (C : Int) := by omega
          have hm0 : (0 : Int) ≤ (m : Int) := by omega
          obtain ⟨wk, hwk⟩ : ∃ wk, wk = wr := ⟨_, rfl⟩
          rw [← hwk] at HO HRS HB hc1 hcz ⊢
          clear hwk
          go_wp2_with fail
          clear hc1 hcz
          go_loopw [8, 9, 10, 11] (fun v t _ _ wr => ∃ s : Nat, s ≤ T + 1 ∧ t = .int .i64 s ∧ Hid (wr.ownsRow wk.heap.size 3 1 v s (numCells (fun s => wayZ z zs m s R) s)) ∧ Hid (Below wk.heap.size wk wr)) (fun _ t _ _ _ => T + 1 - (intOf t).toNat)
          case atStart => exact ⟨0, Nat.zero_le _, rfl, ⟨rfl, Or.inl ⟨rfl, rfl⟩⟩, Below.refl _ _⟩
          case round =>
            obtain ⟨s, hs, rfl, HPO, HBN⟩ := hrel
            have HBW := Hid.mk' (below_chS HB.out HBN.out)
            rcases Nat.lt_or_ge s (T + 1) with h3 | h3
            · have hsI : (s : Int) ≤ (T : Int) := by omega
              obtain ⟨ws, hws⟩ : ∃ ws, ws = wr := ⟨_, rfl⟩
              rw [← hws] at HPO HBN HBW ⊢
              clear hws
              go_wp2_with fail
              go_loopw [10, 11] (fun y t wr => ∃ i : Nat, i ≤ R ∧ t = .int .i64 i ∧ y = .int .i64 (wayZ z zs m s i) ∧ wr = ws) (fun _ t _ => R - (intOf t).toNat)
              case atStart => exact ⟨0, Nat.zero_le _, rfl, rfl, rfl⟩
              case round =>
                obtain ⟨i, hi, rfl, rfl, hwr⟩ := hrel
                rw [hwr]
                clear hwr wr
                have hc1 := (HC.out ws HBW.out).2
                have hc0 := (HC.out ws HBW.out).1
                have hwl := HWL.out m s i hi
                rcases Nat.lt_or_ge i R with h4 | h4
                · have hiI : (i : Int) < (R : Int) := by omega
                  have hi0 : (0 : Int) ≤ (i : Int) := by omega
                  obtain ⟨rb5, ro5, rc5, hrow5⟩ := HR.out i h4
                  obtain ⟨hcr, hrw⟩ := hrow5 ws HBW.out
                  have hcm := hrw m h2
                  have hck := HP.out ws HBW.out i h4
                  have hzi := HZ.out i h4
                  have HN : Hid (wayZ z zs m s (i + 1) = wayZ z zs m s i + if zs i m = (s : Int) then z i else 0) := rfl
                  clear hrow5 hrw
                  generalize wayZ z zs m s i = y at *
                  generalize zs i m = x at *
                  generalize z i = k1 at *
                  by_cases hx : x = (s : Int)
                  · rw [if_pos hx] at HN
                    have hxb : (x == (s : Int)) = true := by rw [beq_iff_eq]; exact hx
                    clear hx
                    go_wp2_with fail
                    exact ⟨⟨i + 1, h4, by go_num, by rw [HN.out], trivial⟩, by simp [intOf]; omega⟩
                  · rw [if_neg hx, Int.add_zero] at HN
                    have hxb : (x == (s : Int)) = false := by rw [beq_eq_false_iff_ne]; exact hx
                    clear hx
                    go_wp2_with fail
                    exact ⟨⟨i + 1, h4, by go_num, by rw [HN.out], trivial⟩, by simp [intOf]; omega⟩
                · obtain rfl : R = i := by omega
                  have hzB := HBN.out.size
                  go_wp2_with (at_builtin; go_must (refine wpList_append_lies _ rfl _ _ _ rfl wk.heap.size 3 i0 _ 1 8 Tryd.underlying22 HINI.out.1 HINI.out.2.1 HINI.out.2.2.1 HINI.out.2.2.2 rfl (by omega) u8 _ _ rfl (HPO.out.alloc _) ⟨ws.heap.size, 0, none⟩ 1 1 [.int .i64 (wayZ z zs m s R)] rfl rfl (one_new _ _ _) (by simp [Value.oneCell']) (by omega) (by unfold maxLen; omega) (by omega) (by simp; omega) _ rfl ?_; intro g' cap2 w5 hown5 hgrow5 hat5 hlt5; have HO5 := Hid.mk' hown5; have HG5 := Hid.mk' hgrow5; clear hown5 hgrow5 hat5))
                  exact ⟨⟨s + 1, h3, by go_num, HO5, below_push HBN.out HPO.out HG5.out⟩, by simp [intOf]; omega⟩
            · obtain rfl : s = T + 1 := by omega
              have hsI : ¬ ((T + 1 : Nat) : Int) ≤ (T : Int) := by omega
              have HO4 := Hid.mk' (own_past HO.out HBN.out)
              have HB4 := HBW
              have HRS4 := Hid.mk' (HRS.out.later HBN.out)
              have HLT : Hid (∀ i, i < m → rb i < wk.heap.size) := fun i hi => HRS.out.lt i hi
              have HWK : Hid (w1.heap.size ≤ wk.heap.size) := HB.out.size
              obtain ⟨q, c4, hue⟩ : ∃ q c, u8 = .slice (some ⟨q, 0, none⟩) (T + 1) c := by
                rcases HPO.out.2 with ⟨_, h0'⟩ | ⟨g9, cap9, cur, hv, _⟩
                · omega
                · exact ⟨g9, cap9, hv⟩
              rw [hue] at HPO ⊢
              have hz4 := HB4.out.size
              clear HO HRS HB HBN hue
              go_wp2_with (at_builtin; go_must (refine wpList_append_lies _ rfl _ _ _ rfl w1.heap.size 22 j0 _ 1 24 Tryd.underlying23 HINS.out.1 HINS.out.2.1 HINS.out.2.2.1 HINS.out.2.2.2 rfl (by omega) u6 _ _ rfl (HO4.out.alloc _) ⟨wr.heap.size, 0, none⟩ 1 1 [.slice (some ⟨q, 0, none⟩) (T + 1) c4] rfl rfl (one_new _ _ _) (by simp [Value.oneCell']) (by omega) (by unfold maxLen; omega) (by omega) (by simp; omega) _ rfl ?_; intro g' cap2 w5 hown5 hgrow5 hat5 hlt5; have HO5 := Hid.mk' hown5; have HG5 := Hid.mk' hgrow5; clear hown5 hgrow5 hat5))
              refine ⟨⟨m + 1, fun i => if i = m then q else rb i, fun i => if i = m then c4 else cp i, h2, by go_num, ?_, HRS4.out.push HLT.out HWK.out HPO.out HO4.out HG5.out, below_push HB4.out HO4.out HG5.out⟩, by simp [intOf]; omega⟩
              have h9 := HO5.out
              rw [rowV_push] at h9
              have e9 : (fun i => if i = m then Value.slice (some ⟨q, 0, none⟩) (T + 1) c4 else Value.slice (some ⟨rb i, 0, none⟩) (T + 1) (cp i)) = fun i => Value.slice (some ⟨if i = m then q else rb i, 0, none⟩) (T + 1) (if i = m then c4 else cp i) := by
                funext i
                by_cases e : i = m <;> simp [e]
              rw [e9] at h9
              exact h9
        · obtain rfl : m = C := by omega
          obtain ⟨g9, gc, hue⟩ : ∃ g gc, u6 = .slice (some ⟨g, 0, none⟩) m gc := by
            rcases HO.out.2 with ⟨_, h0'⟩ | ⟨g9, cap9, cur, hv, _⟩
            · omega
            · exact ⟨g9, cap9, hv⟩
          rw [hue] at HO ⊢
          clear hue
          go_wp2_with fail
          go_ret
          refine ⟨g9, gc, rb, cp, rfl, ?_⟩
          rw [← HTE.out]
          exact (HRS.out.grid HO.out HB.out).base HB1.out
end Go.Proofs.YtdlbnolnkmhdcaaDoor
