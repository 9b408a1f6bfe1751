/- arith.Interval. -/
import Derived.Test.YtncgpldfenkiiaaGreatDoorCutP
namespace Go.Proofs.YtncgpldfenkiiaaGreatDoor
open Go.RowKit

/-- Can a fraction be told? -/
def canTell (N D : Nat) : Bool := decide (N / Nat.gcd N D ≤ 4611686018427387904 ∧ D / Nat.gcd N D ≤ 4611686018427387904)
def fracV (N D : Nat) : Value := .agg #[.int .i64 ((N / Nat.gcd N D : Nat) : Int), .int .i64 ((D / Nat.gcd N D : Nat) : Int)]
theorem toldV_can {a : Nat → Addr} {N D : Nat} (h : canTell N D = true) : toldV a N D = .tuple #[.agg #[.int .i64 ((N / Nat.gcd N D : Nat) : Int), .int .i64 ((D / Nat.gcd N D : Nat) : Int)], .nilIface] := if_pos (of_decide_eq_true h)
theorem toldV_not {a : Nat → Addr} {N D : Nat} (h : canTell N D = false) : toldV a N D = .tuple #[.agg #[.int .i64 0, .int .i64 0], .iface 150 (.pointer (some (a 1)))] := if_neg (of_decide_eq_false h)
def zeroF : Value := .agg #[.int .i64 0, .int .i64 0]

/-- The boxes of two results. -/
structure TwoBox (w W : World) : Prop where
  below : Below w.heap.size w W
  size : w.heap.size + 1 < W.heap.size
  p : ∀ j, j < 2 → ∃ x, W.cell? ⟨w.heap.size, j, none⟩ = some (.int .i64 x)
  q : ∀ j, j < 2 → ∃ x, W.cell? ⟨w.heap.size + 1, j, none⟩ = some (.int .i64 x)
  fp : ∀ j, j < 2 → W.frozen? ⟨w.heap.size, j, none⟩ = false
  fq : ∀ j, j < 2 → W.frozen? ⟨w.heap.size + 1, j, none⟩ = false
theorem TwoBox.later {w W W' : World} (h : TwoBox w W) (hb : Below W.heap.size W W') : TwoBox w W' := by
  have h0 := h.size
  have h1 := hb.size
  refine ⟨below_chain h.below hb, by omega, fun j hj => ?_, fun j hj => ?_, fun j hj => ?_, fun j hj => ?_⟩
  · obtain ⟨x, hx⟩ := h.p j hj; exact ⟨x, by rw [hb.cell (cell_lt hx)]; exact hx⟩
  · obtain ⟨x, hx⟩ := h.q j hj; exact ⟨x, by rw [hb.cell (cell_lt hx)]; exact hx⟩
  · rw [hb.frozen (show w.heap.size < W.heap.size by omega)]; exact h.fp j hj
  · rw [hb.frozen (show w.heap.size + 1 < W.heap.size by omega)]; exact h.fq j hj
theorem TwoBox.fresh (w : World) : TwoBox w ((w.alloc (.cells #[.int .i64 0, .int .i64 0] 36)).alloc (.cells #[.int .i64 0, .int .i64 0] 36)) := by
  refine ⟨((Below.refl _ _).alloc (Nat.le_refl _) _).alloc (by simp) _, by simp, fun j hj => ?_, fun j hj => ?_, fun j hj => ?_, fun j hj => ?_⟩
  · rcases (show j = 0 ∨ j = 1 by omega) with rfl | rfl <;> exact ⟨0, by rw [World.cell?_alloc_lt _ _ _ (by simp)]; simp⟩
  · rcases (show j = 0 ∨ j = 1 by omega) with rfl | rfl <;> exact ⟨0, by rw [top_cell _ _ _ _ (by simp)]; simp⟩
  · rw [World.frozen?_alloc_old _ _ _ (by simp)]; simp
  · exact top_frozen _ _ _ _ (by simp)
def put2 (W : World) (b : Nat) (x y : Value) : World := (W.setCell ⟨b, 0, none⟩ x).setCell ⟨b, 1, none⟩ y
theorem put2_cell {W : World} {b : Nat} {x0 x1 : Value} (y0 y1 : Value) (h0 : W.cell? ⟨b, 0, none⟩ = some x0) (h1 : W.cell? ⟨b, 1, none⟩ = some x1) (q : Addr) :
    (put2 W b y0 y1).cell? q = if q = ⟨b, 1, none⟩ then some y1 else if q = ⟨b, 0, none⟩ then some y0 else W.cell? q := by
  have e1 : (W.setCell ⟨b, 0, none⟩ y0).cell? ⟨b, 1, none⟩ = some x1 := by rw [cell_put _ h0, if_neg (by simp)]; exact h1
  unfold put2
  rw [cell_put _ e1, cell_put _ h0]
theorem TwoBox.put {w W : World} (h : TwoBox w W) {b : Nat} (hb : b = w.heap.size ∨ b = w.heap.size + 1) (x y : Int) : TwoBox w (put2 W b (.int .i64 x) (.int .i64 y)) ∧ (put2 W b (.int .i64 x) (.int .i64 y)).cell? ⟨b, 0, none⟩ = some (.int .i64 x) ∧ (put2 W b (.int .i64 x) (.int .i64 y)).cell? ⟨b, 1, none⟩ = some (.int .i64 y) := by
  obtain ⟨x0, h0⟩ : ∃ x, W.cell? ⟨b, 0, none⟩ = some (.int .i64 x) := by rcases hb with rfl | rfl; exact h.p 0 (by decide); exact h.q 0 (by decide)
  obtain ⟨x1, h1⟩ : ∃ x, W.cell? ⟨b, 1, none⟩ = some (.int .i64 x) := by rcases hb with rfl | rfl; exact h.p 1 (by decide); exact h.q 1 (by decide)
  have hc := put2_cell (.int .i64 x) (.int .i64 y) h0 h1
  have hsz := h.size
  refine ⟨⟨?_, ?_, fun j hj => ?_, fun j hj => ?_, fun j hj => ?_, fun j hj => ?_⟩, ?_, ?_⟩
  · unfold put2; exact (h.below.setCell (by show w.heap.size ≤ b; omega) _).setCell (by show w.heap.size ≤ b; omega) _
  · unfold put2; simpa using hsz
  · obtain ⟨q, hq⟩ := h.p j hj
    rw [hc]; split
    · exact ⟨y, rfl⟩
    · split
      · exact ⟨x, rfl⟩
      · exact ⟨q, hq⟩
  · obtain ⟨q, hq⟩ := h.q j hj
    rw [hc]; split
    · exact ⟨y, rfl⟩
    · split
      · exact ⟨x, rfl⟩
      · exact ⟨q, hq⟩
  · unfold put2; rw [World.frozen?_setCell, World.frozen?_setCell]; exact h.fp j hj
  · unfold put2; rw [World.frozen?_setCell, World.frozen?_setCell]; exact h.fq j hj
  · rw [hc, if_neg (by simp), if_pos rfl]
  · rw [hc, if_pos rfl]
theorem NatAt.put2 {w W : World} (h : TwoBox w W) {b : Nat} (hb : b = w.heap.size ∨ b = w.heap.size + 1) {v x y : Value} {n : Nat} (hn : NatAt W v n) : NatAt (put2 W b x y) v n := by
  obtain ⟨x0, h0⟩ : ∃ x, W.cell? ⟨b, 0, none⟩ = some (.int .i64 x) := by rcases hb with rfl | rfl; exact h.p 0 (by decide); exact h.q 0 (by decide)
  obtain ⟨x1, h1⟩ : ∃ x, W.cell? ⟨b, 1, none⟩ = some (.int .i64 x) := by rcases hb with rfl | rfl; exact h.p 1 (by decide); exact h.q 1 (by decide)
  unfold Go.Proofs.YtncgpldfenkiiaaGreatDoor.put2
  exact (hn.put h0).put (z := x1) (by rw [cell_put _ h0, if_neg (by simp)]; exact h1)

/-- What is told of the interval. -/
def ivV (a : Nat → Addr) (L W D : Nat) : Value := if canTell L D = true ∧ canTell W D = true then .tuple #[fracV L D, fracV W D, .nilIface] else .tuple #[zeroF, zeroF, errV a 2]
/-- Both boxes filled. -/
theorem TwoBox.both {w W : World} (h : TwoBox w W) (x y x' y' : Int) : TwoBox w (put2 (put2 W w.heap.size (.int .i64 x) (.int .i64 y)) (w.heap.size + 1) (.int .i64 x') (.int .i64 y')) ∧
    (put2 (put2 W w.heap.size (.int .i64 x) (.int .i64 y)) (w.heap.size + 1) (.int .i64 x') (.int .i64 y')).cell? ⟨w.heap.size, 0, none⟩ = some (.int .i64 x) ∧ (put2 (put2 W w.heap.size (.int .i64 x) (.int .i64 y)) (w.heap.size + 1) (.int .i64 x') (.int .i64 y')).cell? ⟨w.heap.size, 1, none⟩ = some (.int .i64 y) ∧
    (put2 (put2 W w.heap.size (.int .i64 x) (.int .i64 y)) (w.heap.size + 1) (.int .i64 x') (.int .i64 y')).cell? ⟨w.heap.size + 1, 0, none⟩ = some (.int .i64 x') ∧ (put2 (put2 W w.heap.size (.int .i64 x) (.int .i64 y)) (w.heap.size + 1) (.int .i64 x') (.int .i64 y')).cell? ⟨w.heap.size + 1, 1, none⟩ = some (.int .i64 y') := by
  obtain ⟨h1, h2, h3⟩ := h.put (Or.inl rfl) x y
  obtain ⟨h4, h5, h6⟩ := h1.put (Or.inr rfl) x' y'
  obtain ⟨q0, e0⟩ := h1.q 0 (by decide)
  obtain ⟨q1, e1⟩ := h1.q 1 (by decide)
  refine ⟨h4, ?_, ?_, h5, h6⟩
  · rw [put2_cell _ _ e0 e1, if_neg (by simp), if_neg (by simp)]; exact h2
  · rw [put2_cell _ _ e0 e1, if_neg (by simp), if_neg (by simp)]; exact h3
theorem ErrIs.iface {a : Nat → Addr} {w : World} {v : Value} {c : Nat × Int} (h : ErrIs a w v c) (h0 : c.1 ≠ 0) : ∃ t x, v = .iface t x := by
  rcases h with ⟨rfl, _, _⟩ | ⟨pb, rfl, _⟩
  · rw [errV_pos a h0]; exact ⟨_, _, rfl⟩
  · exact ⟨_, _, rfl⟩
theorem ErrIs.nil0 {a : Nat → Addr} {w : World} {v : Value} {c : Nat × Int} (h : ErrIs a w v c) (h0 : c.1 = 0) : v = .nilIface := by
  rcases h with ⟨rfl, _, _⟩ | ⟨pb, rfl, _, _, h1, _⟩
  · rw [h0, errV_zero]
  · omega
theorem ErrIs.put {a : Nat → Addr} {w W : World} {v : Value} {c : Nat × Int} (h : ErrIs a W v c) {b : Nat} (hB : TwoBox w W) (hb : b = w.heap.size ∨ b = w.heap.size + 1) (x y : Value) : ErrIs a (put2 W b x y) v c := by
  rcases h with h | ⟨pb, h1, h2, h3, h4⟩
  · exact Or.inl h
  · obtain ⟨x0, h0⟩ : ∃ x, W.cell? ⟨b, 0, none⟩ = some (.int .i64 x) := by rcases hb with rfl | rfl; exact hB.p 0 (by decide); exact hB.q 0 (by decide)
    obtain ⟨x1, h1'⟩ : ∃ x, W.cell? ⟨b, 1, none⟩ = some (.int .i64 x) := by rcases hb with rfl | rfl; exact hB.p 1 (by decide); exact hB.q 1 (by decide)
    have hne : pb ≠ b := fun e => by rw [e, h1'] at h3; cases h3
    refine Or.inr ⟨pb, h1, ?_, ?_, h4⟩
    · rw [put2_cell _ _ h0 h1', if_neg (by simp), if_neg (fun e => hne (congrArg Addr.block e))]; exact h2
    · rw [put2_cell _ _ h0 h1', if_neg (fun e => hne (congrArg Addr.block e)), if_neg (by simp)]; exact h3
set_option maxRecDepth 100000 in
set_option maxHeartbeats 1000000 in
theorem Interval_bad (a : Nat → Addr) (vw vl : Value) (n m : Nat) (z l : Nat → Int) (w : World) (hE : Errs w a) (hw : NumsAt w vw n z) (hl : NumsAt w vl m l) (hn : n ≤ 1000000) (hm : m ≤ 1000000) (hb : (mesE z n m l).1 ≠ 0) :
    Calls Tryz.prog 12 #[vw, vl] w fun e w' => ∃ v, e = .returned (.tuple #[zeroF, zeroF, v]) ∧ ErrIs a w' v (mesE z n m l) ∧ Below w.heap.size w w' := by
  have hB0 := TwoBox.fresh w
  have hC := checkMessage_any a vw vl n m z l _ (hE.below hB0.below) (hw.later hB0.below) (hl.later hB0.below) hn hm
  have HB0 := Hid.mk' hB0
  clear hB0 hE hw hl
  generalize hW0 : (w.alloc (.cells #[.int .i64 0, .int .i64 0] 36)).alloc (.cells #[.int .i64 0, .int .i64 0] 36) = W0 at *
  go_enter Tryz.func12, Tryz.ntmps12
  go_wp2_with fail
  clear hW0
  refine hC.mono ?_
  clear hC
  rintro e w1 ⟨v, rfl, hv, hb1⟩
  obtain ⟨t, x, hve⟩ := hv.iface hb
  have hB1 := HB0.out.later hb1
  have hA := hB1.put (Or.inl rfl) 0 0
  have hA2 := hA.1.put (Or.inr rfl) 0 0
  have HV := Hid.mk' ((hv.put hB1 (Or.inl rfl) (.int .i64 0) (.int .i64 0)).put hA.1 (Or.inr rfl) (.int .i64 0) (.int .i64 0))
  subst hve
  obtain ⟨p0, y0⟩ := hB1.p 0 (by decide)
  obtain ⟨p1, y1⟩ := hB1.p 1 (by decide)
  obtain ⟨p2, y2⟩ := hA.1.q 0 (by decide)
  obtain ⟨p3, y3⟩ := hA.1.q 1 (by decide)
  have f0 := hB1.fp 0 (by decide)
  have f1 := hB1.fp 1 (by decide)
  have f2 := hA.1.fq 0 (by decide)
  have f3 := hA.1.fq 1 (by decide)
  have HA2 := Hid.mk' (hB1.both 0 0 0 0)
  clear hA hA2 hv hb1 hB1
  unfold put2 at y2 y3 f2 f3 HA2 HV
  go_wp2_with fail
  exact bodyPost_ret (v := .tuple #[zeroF, zeroF, .iface t x]) (by simp [results, Tryz.results12, go_sem, HA2.out.2.1, HA2.out.2.2.1, HA2.out.2.2.2.1, HA2.out.2.2.2.2, zeroF]) rfl ⟨_, rfl, HV.out, HA2.out.1.below⟩

theorem mesE_ok {z : Nat → Int} {n m : Nat} {l : Nat → Int} (h : (mesE z n m l).1 = 0) : weightsErr z n = 0 ∧ OkW z n ∧ n ≤ 16 ∧ m ≤ 200 ∧ (∀ i, i < m → 0 ≤ l i ∧ l i < (n : Int)) ∧ (∀ i, i < m → 0 < z (l i).toNat) := by
  unfold mesE at h
  by_cases h0 : weightsErr z n = 0
  · rw [if_pos h0] at h
    unfold msgE at h
    by_cases h1 : 200 < m
    · rw [if_pos h1] at h; simp at h
    · rw [if_neg h1] at h
      by_cases h2 : fstB (badS n l) m < m
      · rw [if_pos h2] at h; simp at h
      · rw [if_neg h2] at h
        by_cases h3 : fstB (zerS z l) m < m
        · rw [if_pos h3] at h; simp at h
        · have e2 := fstB_none (Nat.le_antisymm (fstB_le _ _) (Nat.le_of_not_lt h2))
          have e3 := fstB_none (Nat.le_antisymm (fstB_le _ _) (Nat.le_of_not_lt h3))
          have hn16 : n ≤ 16 := by
            unfold weightsErr at h0
            by_cases h6 : 16 < n
            · rw [if_pos h6] at h0; simp at h0
            · omega
          have hW : OkW z n := by
            unfold weightsErr at h0
            rw [if_neg (by omega)] at h0
            exact listErr_ok h0
          have hl : ∀ i, i < m → 0 ≤ l i ∧ l i < (n : Int) := fun i hi => by
            have h7 : ¬ (l i < 0 ∨ (n : Int) ≤ l i) := of_decide_eq_false (e2 i hi)
            omega
          refine ⟨h0, hW, hn16, by omega, hl, fun i hi => ?_⟩
          have h7 : ¬ z (l i).toNat = 0 := of_decide_eq_false (e3 i hi)
          have h8 := hl i hi
          have h9 := hW.nn (l i).toNat (by omega)
          omega
  · rw [if_neg h0] at h
    exact absurd h h0

set_option maxRecDepth 100000 in
set_option maxHeartbeats 1000000 in
theorem Interval_ok (a : Nat → Addr) (b o cap : Nat) (vl : Value) (n m S : Nat) (z l : Nat → Int) (w : World) (hE : Errs w a) (hrw : RowAt w b o n z) (hcap : n ≤ cap) (hl : NumsAt w vl m l) (hS : sumN z n = (S : Int)) (hok : (mesE z n m l).1 = 0) :
    Calls Tryz.prog 12 #[.slice (some ⟨b, o, none⟩) n cap, vl] w fun e w' => e = .returned (ivV a (cutL z l S m) (cutW z l m) (S ^ m)) ∧ Below w.heap.size w w' := by
  obtain ⟨hwe, hz, hn, hm, hli, hpos⟩ := mesE_ok hok
  have hB0 := TwoBox.fresh w
  have hw : NumsAt w (.slice (some ⟨b, o, none⟩) n cap) n z := Or.inr ⟨b, o, cap, rfl, hz.posN, hrw⟩
  have hC := checkMessage_any a _ vl n m z l _ (hE.below hB0.below) (hw.later hB0.below) (hl.later hB0.below) (by omega) (by omega)
  have HS4 : Hid (0 < S ∧ S ≤ 4096) := by have h1 := hz.pos; have h2 := hz.le; rw [hS] at h1 h2; exact ⟨by omega, by omega⟩
  have HBL := Hid.mk' (cut_le hz hS hli m (Nat.le_refl _))
  have HRM := Hid.mk' (pow_room (j := m) HS4.out.2 (by omega))
  have HD0 : Hid (0 < S ^ m) := Nat.pow_pos HS4.out.1
  have HCUT : Hid (∀ W, Below w.heap.size w W → Calls Tryz.prog 32 #[.slice (some ⟨b, o, none⟩) n cap, vl] W fun e w' => ∃ u0 u1 u2, e = .returned (.agg #[u0, u1, u2]) ∧ NatAt w' u0 (cutL z l S m) ∧ NatAt w' u1 (cutW z l m) ∧ NatAt w' u2 (S ^ m) ∧ Below W.heap.size W w') := fun W hb => cut_any b o cap vl n m S z l W (hrw.later hb) hcap (hl.later hb) hz (by omega) hm hS hli
  have HTL : Hid (∀ W u v N, Below w.heap.size w W → NatAt W u N → NatAt W v (S ^ m) → N ≤ S ^ m → Calls Tryz.prog 33 #[u, v] W fun e w' => e = .returned (toldV a N (S ^ m)) ∧ Below W.heap.size W w') := fun W u v N hb hu hv hN => Told_any a u v N (S ^ m) 250 W (hE.below hb) hu hv HD0.out (Nat.lt_of_le_of_lt hN HRM.out) HRM.out (by decide)
  have HB0 := Hid.mk' hB0
  have HNL : Hid (cutL z l S m ≤ S ^ m ∧ cutW z l m ≤ S ^ m) := by have := HBL.out; exact ⟨by omega, by omega⟩
  generalize cutL z l S m = NL at *
  generalize cutW z l m = NW at *
  generalize S ^ m = ND at *
  clear hB0 hE hw hz hli hpos hwe hrw HBL HRM HS4
  generalize hW0 : (w.alloc (.cells #[.int .i64 0, .int .i64 0] 36)).alloc (.cells #[.int .i64 0, .int .i64 0] 36) = W0 at *
  go_enter Tryz.func12, Tryz.ntmps12
  go_wp2_with fail
  clear hW0
  refine hC.mono ?_
  clear hC
  rintro e w1 ⟨v, rfl, hv, hb1⟩
  obtain rfl := hv.nil0 hok
  have HB1 := Hid.mk' (HB0.out.later hb1)
  clear hv hb1
  go_wp2_with fail
  refine (HCUT.out _ HB1.out.below).mono ?_
  rintro e w2 ⟨u0, u1, u2, rfl, hu0, hu1, hu2, hb2⟩
  obtain ⟨a0, l0, c0, rfl⟩ := hu0.isSl
  obtain ⟨a1, l1, c1, rfl⟩ := hu1.isSl
  obtain ⟨a2, l2, c2, rfl⟩ := hu2.isSl
  have hB2 := HB1.out.later hb2
  have hb3 : Below w2.heap.size w2 (w2.alloc (.cells #[.slice a0 l0 c0, .slice a1 l1 c1, .slice a2 l2 c2] 65)) := (Below.refl _ _).alloc (Nat.le_refl _) _
  have HB3 := Hid.mk' (hB2.later hb3)
  have HU0 := Hid.mk' (hu0.later hb3)
  have HU1 := Hid.mk' (hu1.later hb3)
  have HU2 := Hid.mk' (hu2.later hb3)
  have s0 : (w2.alloc (.cells #[.slice a0 l0 c0, .slice a1 l1 c1, .slice a2 l2 c2] 65)).cell? ⟨w2.heap.size, 0, none⟩ = some (.slice a0 l0 c0) := by simp
  have s1 : (w2.alloc (.cells #[.slice a0 l0 c0, .slice a1 l1 c1, .slice a2 l2 c2] 65)).cell? ⟨w2.heap.size, 1, none⟩ = some (.slice a1 l1 c1) := by simp
  have s2 : (w2.alloc (.cells #[.slice a0 l0 c0, .slice a1 l1 c1, .slice a2 l2 c2] 65)).cell? ⟨w2.heap.size, 2, none⟩ = some (.slice a2 l2 c2) := by simp
  have HSZ : Hid (w.heap.size + 1 < w2.heap.size) := hB2.size
  clear hb2 hb3 hu0 hu1 hu2 hB2
  go_wp2_with fail
  generalize hW3 : w2.alloc (.cells #[.slice a0 l0 c0, .slice a1 l1 c1, .slice a2 l2 c2] 65) = W3 at *
  clear hW3
  generalize w2.heap.size = B at *
  refine (HTL.out _ _ _ _ HB3.out.below HU0.out HU2.out HNL.out.1).mono ?_
  rintro e w4 ⟨rfl, hb4⟩
  have hB4 := HB3.out.later hb4
  obtain ⟨p0, y0⟩ := hB4.p 0 (by decide)
  obtain ⟨p1, y1⟩ := hB4.p 1 (by decide)
  have f0 := hB4.fp 0 (by decide)
  have f1 := hB4.fp 1 (by decide)
  have HB4 := Hid.mk' hB4
  have HU1 := Hid.mk' (HU1.out.later hb4)
  have HU2 := Hid.mk' (HU2.out.later hb4)
  have S1 : Hid (w4.cell? ⟨B, 1, none⟩ = some (.slice a1 l1 c1)) := by show _ = _; rw [hb4.cell (cell_lt s1)]; exact s1
  have S2 : Hid (w4.cell? ⟨B, 2, none⟩ = some (.slice a2 l2 c2)) := by show _ = _; rw [hb4.cell (cell_lt s2)]; exact s2
  clear hB4 hb4 s0 s1 s2
  cases hcl : canTell NL ND with
  | false =>
    have HIV : Hid (ivV a NL NW ND = .tuple #[zeroF, zeroF, errV a 2]) := by show _ = _; unfold ivV; rw [if_neg (by rw [hcl]; simp)]
    rw [toldV_not hcl]
    have hP := (HB4.out.put (Or.inl rfl) 0 0).1
    obtain ⟨g0, y2⟩ := hP.p 0 (by decide)
    obtain ⟨g1, y3⟩ := hP.p 1 (by decide)
    have f2 := hP.fp 0 (by decide)
    have f3 := hP.fp 1 (by decide)
    have hP2 := (hP.put (Or.inl rfl) 0 0).1
    obtain ⟨g2, y4⟩ := hP2.q 0 (by decide)
    obtain ⟨g3, y5⟩ := hP2.q 1 (by decide)
    have f4 := hP2.fq 0 (by decide)
    have f5 := hP2.fq 1 (by decide)
    have HA2 := Hid.mk' (hP.both 0 0 0 0)
    clear hP hP2
    unfold put2 at y2 y3 y4 y5 f2 f3 f4 f5 HA2
    go_wp2_with fail
    exact bodyPost_ret (v := .tuple #[zeroF, zeroF, errV a 2]) (by simp [results, Tryz.results12, go_sem, HA2.out.2.1, HA2.out.2.2.1, HA2.out.2.2.2.1, HA2.out.2.2.2.2, zeroF, errV_two]) rfl ⟨by rw [HIV.out], HA2.out.1.below⟩
  | true =>
    rw [toldV_can hcl]
    generalize hx : ((NL / Nat.gcd NL ND : Nat) : Int) = x at *
    generalize hy : ((ND / Nat.gcd NL ND : Nat) : Int) = y at *
    obtain ⟨hP, r0, r1⟩ := HB4.out.put (Or.inl rfl) x y
    have HN1 := Hid.mk' (NatAt.put2 HB4.out (Or.inl rfl) (x := .int .i64 x) (y := .int .i64 y) HU1.out)
    have HN2 := Hid.mk' (NatAt.put2 HB4.out (Or.inl rfl) (x := .int .i64 x) (y := .int .i64 y) HU2.out)
    have t1 : (put2 w4 w.heap.size (.int .i64 x) (.int .i64 y)).cell? ⟨B, 1, none⟩ = some (.slice a1 l1 c1) := by
      have h5 := HSZ.out
      rw [put2_cell _ _ y0 y1, if_neg (fun e => by have := congrArg Addr.block e; simp at this; omega), if_neg (by simp)]; exact S1.out
    have t2 : (put2 w4 w.heap.size (.int .i64 x) (.int .i64 y)).cell? ⟨B, 2, none⟩ = some (.slice a2 l2 c2) := by
      rw [put2_cell _ _ y0 y1, if_neg (by simp), if_neg (by simp)]; exact S2.out
    have HT2 := Hid.mk' (HTL.out _ _ _ _ hP.below HN1.out HN2.out HNL.out.2)
    have HP := Hid.mk' hP
    have HR0 := Hid.mk' r0
    have HR1 := Hid.mk' r1
    clear hP r0 r1 HN1 HN2 S1 S2
    unfold put2 at t1 t2 HT2 HP HR0 HR1
    go_wp2_with fail
    refine HT2.out.mono ?_
    clear HT2
    rintro e w5 ⟨rfl, hb5⟩
    have hB5 := HP.out.later hb5
    have R0 : Hid (w5.cell? ⟨w.heap.size, 0, none⟩ = some (.int .i64 x)) := by show _ = _; rw [hb5.cell (cell_lt HR0.out)]; exact HR0.out
    have R1 : Hid (w5.cell? ⟨w.heap.size, 1, none⟩ = some (.int .i64 y)) := by show _ = _; rw [hb5.cell (cell_lt HR1.out)]; exact HR1.out
    clear hb5 HR0 HR1 t1 t2 HP y0 y1 f0 f1
    have HB5 := Hid.mk' hB5
    obtain ⟨p2, y2⟩ := hB5.q 0 (by decide)
    obtain ⟨p3, y3⟩ := hB5.q 1 (by decide)
    have f2 := hB5.fq 0 (by decide)
    have f3 := hB5.fq 1 (by decide)
    clear hB5
    cases hcw : canTell NW ND with
    | false =>
      have HIV : Hid (ivV a NL NW ND = .tuple #[zeroF, zeroF, errV a 2]) := by show _ = _; unfold ivV; rw [if_neg (by rw [hcw]; simp)]
      rw [toldV_not hcw]
      have hP := (HB5.out.put (Or.inr rfl) 0 0).1
      obtain ⟨g0, y4⟩ := hP.p 0 (by decide)
      obtain ⟨g1, y5⟩ := hP.p 1 (by decide)
      have f4 := hP.fp 0 (by decide)
      have f5 := hP.fp 1 (by decide)
      have hP2 := (hP.put (Or.inl rfl) 0 0).1
      obtain ⟨g2, y6⟩ := hP2.q 0 (by decide)
      obtain ⟨g3, y7⟩ := hP2.q 1 (by decide)
      have f6 := hP2.fq 0 (by decide)
      have f7 := hP2.fq 1 (by decide)
      have HA2 := Hid.mk' (hP.both 0 0 0 0)
      clear hP hP2
      unfold put2 at y4 y5 y6 y7 f4 f5 f6 f7 HA2
      go_wp2_with fail
      exact bodyPost_ret (v := .tuple #[zeroF, zeroF, errV a 2]) (by simp [results, Tryz.results12, go_sem, HA2.out.2.1, HA2.out.2.2.1, HA2.out.2.2.2.1, HA2.out.2.2.2.2, zeroF, errV_two]) rfl ⟨by rw [HIV.out], HA2.out.1.below⟩
    | true =>
      have HIV : Hid (ivV a NL NW ND = .tuple #[fracV NL ND, fracV NW ND, .nilIface]) := by show _ = _; unfold ivV; rw [if_pos ⟨hcl, hcw⟩]
      rw [toldV_can hcw]
      have HFX : Hid (fracV NL ND = .agg #[.int .i64 x, .int .i64 y]) := by show _ = _; unfold fracV; rw [hx, hy]
      have HFY : Hid (fracV NW ND = .agg #[.int .i64 ((NW / Nat.gcd NW ND : Nat) : Int), .int .i64 ((ND / Nat.gcd NW ND : Nat) : Int)]) := rfl
      generalize ((NW / Nat.gcd NW ND : Nat) : Int) = x' at *
      generalize ((ND / Nat.gcd NW ND : Nat) : Int) = y' at *
      clear hx hy hcl hcw
      obtain ⟨hP, k2, k3⟩ := HB5.out.put (Or.inr rfl) x' y'
      have k0 : (put2 w5 (w.heap.size + 1) (.int .i64 x') (.int .i64 y')).cell? ⟨w.heap.size, 0, none⟩ = some (.int .i64 x) := by rw [put2_cell _ _ y2 y3, if_neg (by simp), if_neg (by simp)]; exact R0.out
      have k1 : (put2 w5 (w.heap.size + 1) (.int .i64 x') (.int .i64 y')).cell? ⟨w.heap.size, 1, none⟩ = some (.int .i64 y) := by rw [put2_cell _ _ y2 y3, if_neg (by simp), if_neg (by simp)]; exact R1.out
      have f4 := hP.fp 0 (by decide)
      have f5 := hP.fp 1 (by decide)
      have f6 := hP.fq 0 (by decide)
      have f7 := hP.fq 1 (by decide)
      have HP := Hid.mk' hP
      clear hP
      unfold put2 at k0 k1 k2 k3 f4 f5 f6 f7 HP
      go_wp2_with fail
      generalize (w5.setCell ⟨w.heap.size + 1, 0, none⟩ (.int .i64 x')).setCell ⟨w.heap.size + 1, 1, none⟩ (.int .i64 y') = W6 at *
      clear y2 y3 f2 f3 R0 R1
      go_region
      have HA2 := Hid.mk' (HP.out.both x y x' y')
      unfold put2 at HA2
      go_wp2_with fail
      exact bodyPost_ret (v := .tuple #[.agg #[.int .i64 x, .int .i64 y], .agg #[.int .i64 x', .int .i64 y'], .nilIface]) (by simp [results, Tryz.results12, go_sem, HA2.out.2.1, HA2.out.2.2.1, HA2.out.2.2.2.1, HA2.out.2.2.2.2]) rfl ⟨by rw [HIV.out, HFX.out, HFY.out], HA2.out.1.below.drew⟩
end Go.Proofs.YtncgpldfenkiiaaGreatDoor
