/- A fraction of two numbers without a bound, as it is told. -/
import Derived.Test.YtlnhpkmcinohdaaDoorNatOver
import Derived.Test.YtlnhpkmcinohdaaDoorWeights
import Derived.Deep.LoopGhost
namespace Go.Proofs.YtlnhpkmcinohdaaDoor
open Go.RowKit

theorem fitsTold_any (a b c : Nat) (w : World) (_ : a ≤ 4611686018427387904) (hb : b ≤ 4611686018427387904) (hc : c ≤ 4611686018427387904) :
    Calls Tryd.prog 39 #[.int .i64 a, .int .i64 b, .int .i64 c] w fun e w' => e = .returned (.bool (decide (a * b + c ≤ 4611686018427387904))) ∧ w' = w := by
  rcases Nat.eq_zero_or_pos b with rfl | h0
  · rw [show decide (a * 0 + c ≤ 4611686018427387904) = true by simp; exact hc]
    go_enter Tryd.func39, Tryd.ntmps39
    go_wp2_with fail
    go_ret
    exact ⟨rfl, rfl⟩
  · have hbz : ((b : Int) == 0) = false := by rw [beq_eq_false_iff_ne]; omega
    have hbn : ¬ b = 0 := by omega
    have hq : wrap64 (((4611686018427387904 : Int) - (c : Int)).tdiv (b : Int)) = (((4611686018427387904 - c) / b : Nat) : Int) := by
      have e : (4611686018427387904 : Int) - (c : Int) = ((4611686018427387904 - c : Nat) : Int) := by omega
      rw [e]
      have h1 : (4611686018427387904 - c) / b ≤ 4611686018427387904 := Nat.le_trans (Nat.div_le_self _ _) (by omega)
      have h2 : ((4611686018427387904 - c : Nat) : Int).tdiv (b : Int) = (((4611686018427387904 - c) / b : Nat) : Int) := by simp
      rw [h2]
      generalize (4611686018427387904 - c) / b = q at h1
      rw [w64 _ (by omega)]
    have hiff : a ≤ (4611686018427387904 - c) / b ↔ a * b + c ≤ 4611686018427387904 := by
      rw [Nat.le_div_iff_mul_le h0]; omega
    go_enter Tryd.func39, Tryd.ntmps39
    go_wp2_with fail
    go_ret
    refine ⟨?_, rfl⟩
    have e : ((a : Int) ≤ (4611686018427387904 - (c : Int)) / (b : Int)) ↔ a ≤ (4611686018427387904 - c) / b := by
      have e1 : (4611686018427387904 : Int) - (c : Int) = ((4611686018427387904 - c : Nat) : Int) := by omega
      have e2 : ((4611686018427387904 - c : Nat) : Int) / (b : Int) = (((4611686018427387904 - c) / b : Nat) : Int) := by simp
      rw [e1, e2]
      omega
    exact congrArg Ending.returned (congrArg Value.bool (decide_eq_decide.2 (e.trans hiff)))

theorem top_cell (W : World) (c : Array Value) (t : TypeId) {b : Nat} (j : Nat) (hb : b = W.heap.size) : (W.alloc (.cells c t)).cell? ⟨b, j, none⟩ = c[j]? := by subst hb; simp
theorem top_frozen (W : World) (c : Array Value) (t : TypeId) {b : Nat} (j : Nat) (hb : b = W.heap.size) : (W.alloc (.cells c t)).frozen? ⟨b, j, none⟩ = false := by subst hb; simp
/-- Two cells of one block, put one behind the other. -/
theorem put_two {W : World} {b : Nat} {x0 x1 : Value} (y0 y1 : Value) (h0 : W.cell? ⟨b, 0, none⟩ = some x0) (h1 : W.cell? ⟨b, 1, none⟩ = some x1) :
    (W.setCell ⟨b, 0, none⟩ y0).cell? ⟨b, 0, none⟩ = some y0 ∧ ((W.setCell ⟨b, 0, none⟩ y0).setCell ⟨b, 1, none⟩ y1).cell? ⟨b, 0, none⟩ = some y0 ∧ ((W.setCell ⟨b, 0, none⟩ y0).setCell ⟨b, 1, none⟩ y1).cell? ⟨b, 1, none⟩ = some y1 := by
  have e0 := World.cell?_setCell_same W ⟨b, 0, none⟩ y0 h0
  have e1 : (W.setCell ⟨b, 0, none⟩ y0).cell? ⟨b, 1, none⟩ = some x1 := by
    rw [World.cell?_setCell_other _ _ _ _ (fun e => by have := congrArg Addr.off e; simp at this)]; exact h1
  refine ⟨e0, ?_, World.cell?_setCell_same _ _ _ e1⟩
  rw [World.cell?_setCell_other _ _ _ _ (fun e => by have := congrArg Addr.off e; simp at this)]; exact e0
/-- What lies in memory while a fraction is put together. -/
structure Boxes (w wr : World) (p0 q0 p1 q1 : Nat) : Prop where
  below : Below w.heap.size w wr
  size : w.heap.size + 3 ≤ wr.heap.size
  r0 : ∃ x, wr.cell? ⟨w.heap.size, 0, none⟩ = some x
  r1 : ∃ x, wr.cell? ⟨w.heap.size, 1, none⟩ = some x
  b0 : wr.cell? ⟨w.heap.size + 1, 0, none⟩ = some (.int .i64 p0)
  b1 : wr.cell? ⟨w.heap.size + 1, 1, none⟩ = some (.int .i64 q0)
  n0 : wr.cell? ⟨w.heap.size + 1 + 1, 0, none⟩ = some (.int .i64 p1)
  n1 : wr.cell? ⟨w.heap.size + 1 + 1, 1, none⟩ = some (.int .i64 q1)
  f : ∀ b j, b = w.heap.size ∨ b = w.heap.size + 1 ∨ b = w.heap.size + 1 + 1 → j < 2 → wr.frozen? ⟨b, j, none⟩ = false
theorem Boxes.later {w wr wn : World} {p0 q0 p1 q1 : Nat} (h : Boxes w wr p0 q0 p1 q1) (hb : Below wr.heap.size wr wn) : Boxes w wn p0 q0 p1 q1 := by
  have hs := hb.size
  have hw := h.size
  obtain ⟨x0, h0⟩ := h.r0
  obtain ⟨x1, h1⟩ := h.r1
  exact ⟨below_chain h.below hb, by omega, ⟨x0, by rw [hb.cell (cell_lt h0)]; exact h0⟩, ⟨x1, by rw [hb.cell (cell_lt h1)]; exact h1⟩, by rw [hb.cell (cell_lt h.b0)]; exact h.b0, by rw [hb.cell (cell_lt h.b1)]; exact h.b1, by rw [hb.cell (cell_lt h.n0)]; exact h.n0, by rw [hb.cell (cell_lt h.n1)]; exact h.n1, fun i j hi hj => by rw [hb.frozen (show i < wr.heap.size by omega)]; exact h.f i j hi hj⟩

theorem cell_put {W : World} {p : Addr} {x : Value} (y : Value) (h : W.cell? p = some x) (q : Addr) : (W.setCell p y).cell? q = if q = p then some y else W.cell? q := by
  split
  · rename_i e; subst e; exact World.cell?_setCell_same _ _ _ h
  · rename_i e; exact World.cell?_setCell_other _ _ _ _ (fun e' => e e'.symm)
theorem WordsAt.put {W : World} {v y : Value} {l : List Nat} {p : Addr} {z : Int} (h : WordsAt W v l) (hc : W.cell? p = some (.int .i64 z)) : WordsAt (W.setCell p y) v l := by
  rcases h with h | ⟨b, o, cap, h1, h2, h3, h4⟩
  · exact Or.inl h
  · refine Or.inr ⟨b, o, cap, h1, h2, h3, fun i hi => ?_⟩
    rw [cell_put y hc, if_neg (fun e => ?_)]
    · exact h4 i hi
    · have := h4 i hi
      rw [e, hc] at this
      simp at this
theorem NatAt.put {W : World} {v y : Value} {n : Nat} {p : Addr} {z : Int} (h : NatAt W v n) (hc : W.cell? p = some (.int .i64 z)) : NatAt (W.setCell p y) v n := by
  obtain ⟨l, h1, h2, h3, h4⟩ := h
  exact ⟨l, h1, h2, h3, h4.put hc⟩
/-- What was put together last, and what comes next. -/
def movedW (w W : World) (p1 q1 P Q : Int) : World := (((W.setCell ⟨w.heap.size + 1, 0, none⟩ (.int .i64 p1)).setCell ⟨w.heap.size + 1, 1, none⟩ (.int .i64 q1)).setCell ⟨w.heap.size + 1 + 1, 0, none⟩ (.int .i64 P)).setCell ⟨w.heap.size + 1 + 1, 1, none⟩ (.int .i64 Q)
theorem moved_chain {w W : World} {p0 q0 p1 q1 : Nat} (h : Boxes w W p0 q0 p1 q1) (P Q : Int) :
    (W.setCell ⟨w.heap.size + 1, 0, none⟩ (.int .i64 p1)).cell? ⟨w.heap.size + 1, 1, none⟩ = some (.int .i64 q0) ∧
    ((W.setCell ⟨w.heap.size + 1, 0, none⟩ (.int .i64 p1)).setCell ⟨w.heap.size + 1, 1, none⟩ (.int .i64 q1)).cell? ⟨w.heap.size + 1 + 1, 0, none⟩ = some (.int .i64 p1) ∧
    (((W.setCell ⟨w.heap.size + 1, 0, none⟩ (.int .i64 p1)).setCell ⟨w.heap.size + 1, 1, none⟩ (.int .i64 q1)).setCell ⟨w.heap.size + 1 + 1, 0, none⟩ (.int .i64 P)).cell? ⟨w.heap.size + 1 + 1, 1, none⟩ = some (.int .i64 q1) ∧
    ∀ x, (movedW w W p1 q1 P Q).cell? x = if x = ⟨w.heap.size + 1 + 1, 1, none⟩ then some (.int .i64 Q) else if x = ⟨w.heap.size + 1 + 1, 0, none⟩ then some (.int .i64 P) else if x = ⟨w.heap.size + 1, 1, none⟩ then some (.int .i64 q1) else if x = ⟨w.heap.size + 1, 0, none⟩ then some (.int .i64 p1) else W.cell? x := by
  have e1 : (W.setCell ⟨w.heap.size + 1, 0, none⟩ (.int .i64 p1)).cell? ⟨w.heap.size + 1, 1, none⟩ = some (.int .i64 q0) := by rw [cell_put _ h.b0, if_neg (by simp)]; exact h.b1
  have e2 : ((W.setCell ⟨w.heap.size + 1, 0, none⟩ (.int .i64 p1)).setCell ⟨w.heap.size + 1, 1, none⟩ (.int .i64 q1)).cell? ⟨w.heap.size + 1 + 1, 0, none⟩ = some (.int .i64 p1) := by rw [cell_put _ e1, if_neg (by simp), cell_put _ h.b0, if_neg (by simp)]; exact h.n0
  have e3 : (((W.setCell ⟨w.heap.size + 1, 0, none⟩ (.int .i64 p1)).setCell ⟨w.heap.size + 1, 1, none⟩ (.int .i64 q1)).setCell ⟨w.heap.size + 1 + 1, 0, none⟩ (.int .i64 P)).cell? ⟨w.heap.size + 1 + 1, 1, none⟩ = some (.int .i64 q1) := by rw [cell_put _ e2, if_neg (by simp), cell_put _ e1, if_neg (by simp), cell_put _ h.b0, if_neg (by simp)]; exact h.n1
  exact ⟨e1, e2, e3, fun x => by unfold movedW; rw [cell_put _ e3, cell_put _ e2, cell_put _ e1, cell_put _ h.b0]⟩
theorem Boxes.moved {w W : World} {p0 q0 p1 q1 : Nat} (h : Boxes w W p0 q0 p1 q1) (P Q : Nat) : Boxes w (movedW w W p1 q1 P Q) p1 q1 P Q := by
  obtain ⟨_, _, _, hx⟩ := moved_chain h P Q
  obtain ⟨x0, h0⟩ := h.r0
  obtain ⟨x1, h1⟩ := h.r1
  refine ⟨?_, ?_, ⟨x0, ?_⟩, ⟨x1, ?_⟩, ?_, ?_, ?_, ?_, fun b j hb hj => ?_⟩
  · exact (((h.below.setCell (by simp) _).setCell (by simp) _).setCell (by simp; omega) _).setCell (by simp; omega) _
  · unfold movedW; simpa using h.size
  · rw [hx]; simp; exact h0
  · rw [hx]; simp; exact h1
  · rw [hx]; simp
  · rw [hx]; simp
  · rw [hx]; simp
  · rw [hx]; simp
  · unfold movedW
    rw [World.frozen?_setCell, World.frozen?_setCell, World.frozen?_setCell, World.frozen?_setCell]
    exact h.f b j hb hj
theorem NatAt.moved {w W : World} {p0 q0 p1 q1 : Nat} (h : Boxes w W p0 q0 p1 q1) (P Q : Int) {v : Value} {n : Nat} (hn : NatAt W v n) : NatAt (movedW w W p1 q1 P Q) v n := by
  obtain ⟨e1, e2, e3, _⟩ := moved_chain h P Q
  exact (((hn.put h.b0).put e1).put e2).put e3
theorem Boxes.drew {w W : World} {p0 q0 p1 q1 : Nat} (h : Boxes w W p0 q0 p1 q1) : Boxes w W.drew p0 q0 p1 q1 := ⟨h.below.drew, h.size, h.r0, h.r1, h.b0, h.b1, h.n0, h.n1, h.f⟩
theorem NatAt.drew {W : World} {v : Value} {n : Nat} (h : NatAt W v n) : NatAt W.drew v n := h.later (Below.refl _ _).drew

/-- What is told of a fraction. -/
def toldV (a : Nat → Addr) (N D : Nat) : Value := if N / Nat.gcd N D ≤ 4611686018427387904 ∧ D / Nat.gcd N D ≤ 4611686018427387904 then .tuple #[.agg #[.int .i64 ((N / Nat.gcd N D : Nat) : Int), .int .i64 ((D / Nat.gcd N D : Nat) : Int)], .nilIface] else .tuple #[.agg #[.int .i64 0, .int .i64 0], errV a 2]

set_option maxRecDepth 10000 in
set_option maxHeartbeats 4000000 in
theorem Told_any (a : Nat → Addr) (u v : Value) (N D k : Nat) (w : World) (hE : Errs w a) (hN : NatAt w u N) (hD : NatAt w v D) (hD0 : 0 < D) (hkN : N < 18446744073709551616 ^ k) (hkD : D < 18446744073709551616 ^ k) (hk : k ≤ 100000) :
    Calls Tryd.prog 30 #[u, v] w fun e w' => e = .returned (toldV a N D) ∧ Below w.heap.size w w' := by
  have hB0 : Boxes w (((w.alloc (.cells #[.int .i64 0, .int .i64 0] 52)).alloc (.cells #[.int .i64 0, .int .i64 1] 52)).alloc (.cells #[.int .i64 1, .int .i64 0] 52)) 0 1 1 0 := by
    have e : ((w.alloc (.cells #[.int .i64 0, .int .i64 0] 52)).alloc (.cells #[.int .i64 0, .int .i64 1] 52)).heap.size = w.heap.size + 1 + 1 := by simp
    refine ⟨(((Below.refl _ _).alloc (Nat.le_refl _) _).alloc (by simp) _).alloc (by simp; omega) _, by simp, ⟨.int .i64 0, ?_⟩, ⟨.int .i64 0, ?_⟩, ?_, ?_, ?_, ?_, fun i j hi hj => ?_⟩
    · rw [World.cell?_alloc_lt _ _ _ (by simp; omega)]; simp
    · rw [World.cell?_alloc_lt _ _ _ (by simp; omega)]; simp
    · rw [World.cell?_alloc_lt _ _ _ (by simp)]; simp
    · rw [World.cell?_alloc_lt _ _ _ (by simp)]; simp
    · exact top_cell _ _ _ _ e.symm
    · exact top_cell _ _ _ _ e.symm
    · rcases hi with rfl | rfl | rfl
      · rw [World.frozen?_alloc_old _ _ _ (by simp; omega), World.frozen?_alloc_old _ _ _ (by simp)]; simp
      · rw [World.frozen?_alloc_old _ _ _ (by simp)]; simp
      · exact top_frozen _ _ _ _ e.symm
  have HB0 := Hid.mk' hB0
  have HN := Hid.mk' (hN.later hB0.below)
  have HD := Hid.mk' (hD.later hB0.below)
  have HE := Hid.mk' hE
  have HKN := Hid.mk' hkN
  have HKD := Hid.mk' hkD
  clear hB0 hN hD hE hkN hkD
  go_enter Tryd.func30, Tryd.ntmps30
  go_wp2_with fail
  go_loopg [0, 1] D (fun gk s r wr => ∃ (nm p0 q0 p1 q1 : Nat), Hid (NatAt wr s nm) ∧ Hid (NatAt wr r gk) ∧ Hid (nm < 18446744073709551616 ^ k ∧ gk < 18446744073709551616 ^ k) ∧ Hid (Cont N D nm gk p0 q0 p1 q1) ∧ p0 ≤ 4611686018427387904 ∧ q0 ≤ 4611686018427387904 ∧ p1 ≤ 4611686018427387904 ∧ q1 ≤ 4611686018427387904 ∧ Hid (Boxes w wr p0 q0 p1 q1))
  case atStart => exact ⟨N, 0, 1, 1, 0, HN, HD, ⟨HKN.out, HKD.out⟩, cont_start N D, by decide, by decide, by decide, by decide, HB0⟩
  case round =>
    clear HN HD HB0
    obtain ⟨nm, p0, q0, p1, q1, HN, HD, HK, HC, hp0, hq0, hp1, hq1, HB⟩ := hrel
    rcases Nat.eq_zero_or_pos gk with h0 | hpos
    · subst h0
      obtain ⟨ad, cap, rfl⟩ := HD.out.nought
      obtain ⟨e1, e2, _⟩ := cont_end hD0 HC.out
      have c0 := HB.out.n0
      have c1 := HB.out.n1
      obtain ⟨x0, r0⟩ := HB.out.r0
      obtain ⟨x1, r1⟩ := HB.out.r1
      have f0 := HB.out.f _ 0 (Or.inl rfl) (by decide)
      have f1 := HB.out.f _ 1 (Or.inl rfl) (by decide)
      have HV : Hid (toldV a N D = .tuple #[.agg #[.int .i64 p1, .int .i64 q1], .nilIface]) := by
        show _ = _
        unfold toldV
        rw [← e1, ← e2, if_pos ⟨hp1, hq1⟩]
      clear e1 e2
      obtain ⟨g0, g1, g2⟩ := put_two (.int .i64 p1) (.int .i64 q1) r0 r1
      have G0 := Hid.mk' g0
      have G1 := Hid.mk' g1
      have G2 := Hid.mk' g2
      clear g0 g1 g2
      go_wp2_with fail
      refine bodyPost_ret (v := .tuple #[.agg #[.int .i64 p1, .int .i64 q1], .nilIface]) (by simp [results, Tryd.results30, go_sem, G0.out, G2.out]) rfl ⟨by rw [HV.out], ?_⟩
      exact (HB.out.below.setCell (Nat.le_refl _) _).setCell (Nat.le_refl _) _
    · obtain ⟨x, hx1, hx2, hxv, hxw⟩ := HD.out
      obtain ⟨ad, cap, hu1⟩ := hxw.form
      have hxl : (0 : Int) < (x.length : Int) := by
        rcases Nat.eq_zero_or_pos x.length with h0 | h0
        · rw [List.eq_nil_of_length_eq_zero h0] at hxv; simp [wv] at hxv; omega
        · omega
      have hov := Over_any u0 u1 nm gk k wr HN.out HD.out hpos HK.out.1 HK.out.2 hk
      clear hx1 hx2 hxv hxw
      subst hu1
      go_wp2_with fail
      refine hov.mono ?_
      clear hov
      rintro e w2 ⟨t, r, f, rfl, hf1, hf2, hb2⟩
      have hst := cont_step HC.out hpos
      have hB2 := HB.out.later hb2
      have b0 := hB2.b0
      have b1 := hB2.b1
      have n0 := hB2.n0
      have n1 := hB2.n1
      have HB2 := Hid.mk' hB2
      have HST := Hid.mk' hst
      have HN2 := Hid.mk' (HD.out.later hb2)
      have hE2 := HE.out.below HB2.out.below
      have ce := hE2.c1
      clear hst hB2 hE2
      have HBAD : Hid ((4611686018427387904 < N / Nat.gcd N D ∨ 4611686018427387904 < D / Nat.gcd N D) → toldV a N D = .tuple #[.agg #[.int .i64 0, .int .i64 0], errV a 2]) := fun h => by
        unfold toldV
        rw [if_neg (by omega)]
      obtain ⟨x0, r0⟩ := HB2.out.r0
      obtain ⟨x1, r1⟩ := HB2.out.r1
      have f0 := HB2.out.f _ 0 (Or.inl rfl) (by decide)
      have f1 := HB2.out.f _ 1 (Or.inl rfl) (by decide)
      obtain ⟨g0, g1, g2⟩ := put_two (.int .i64 0) (.int .i64 0) r0 r1
      have G0 := Hid.mk' g0
      have G1 := Hid.mk' g1
      have G2 := Hid.mk' g2
      have hgl : 0 < w.heap.size := cell_lt HE.out.c1
      have cs : ((w2.setCell ⟨w.heap.size, 0, none⟩ (.int .i64 0)).setCell ⟨w.heap.size, 1, none⟩ (.int .i64 0)).cell? ⟨0, 0, none⟩ = some (.iface 143 (.pointer (some (a 1)))) := by
        rw [World.cell?_setCell_other _ _ _ _ (fun e => by have h7 : w.heap.size = 0 := congrArg Addr.block e; omega), World.cell?_setCell_other _ _ _ _ (fun e => by have h7 : w.heap.size = 0 := congrArg Addr.block e; omega)]; exact ce
      clear g0 g1 g2 hgl
      cases f with
      | false =>
        have HV := Hid.mk' (HBAD.out (cont_times (by decide) HC.out hpos hD0 (hf2 rfl)))
        clear hf1 hf2 HBAD
        go_wp2_with fail
        go_region
        all_goals (
          go_wp2_with fail
          exact bodyPost_ret (v := .tuple #[.agg #[.int .i64 0, .int .i64 0], errV a 2]) (by simp [results, Tryd.results30, go_sem, G0.out, G2.out, errV_two]) rfl ⟨by rw [HV.out], by first | exact ((HB2.out.below.setCell (Nat.le_refl _) _).setCell (Nat.le_refl _) _).drew | exact ((HB2.out.below.drew.setCell (Nat.le_refl _) _).setCell (Nat.le_refl _) _) | exact (below_drewsN ((HB2.out.below.setCell (Nat.le_refl _) _).setCell (Nat.le_refl _) _) _) | exact (((below_drewsN HB2.out.below _).setCell (Nat.le_refl _) _).setCell (Nat.le_refl _) _)⟩)
      | true =>
        obtain ⟨ht, htb, hrn⟩ := hf1 rfl
        clear hf1 hf2
        have HRN := Hid.mk' hrn
        have HT := Hid.mk' ht
        clear hrn
        by_cases htM : 4611686018427387904 < t
        · have HV := Hid.mk' (HBAD.out (cont_times (by decide) HC.out hpos hD0 (by rw [← ht]; exact htM)))
          have htI : (4611686018427387904 : Int) < (t : Int) := by omega
          clear HBAD ht htM
          go_wp2_with fail
          go_region
          all_goals (
            go_wp2_with fail
            exact bodyPost_ret (v := .tuple #[.agg #[.int .i64 0, .int .i64 0], errV a 2]) (by simp [results, Tryd.results30, go_sem, G0.out, G2.out, errV_two]) rfl ⟨by rw [HV.out], by first | exact ((HB2.out.below.setCell (Nat.le_refl _) _).setCell (Nat.le_refl _) _).drew | exact ((HB2.out.below.drew.setCell (Nat.le_refl _) _).setCell (Nat.le_refl _) _) | exact (below_drewsN ((HB2.out.below.setCell (Nat.le_refl _) _).setCell (Nat.le_refl _) _) _) | exact (((below_drewsN HB2.out.below _).setCell (Nat.le_refl _) _).setCell (Nat.le_refl _) _)⟩)
        · have htI : ¬ (4611686018427387904 : Int) < (t : Int) := by omega
          have htw : wrap64 (t : Int) = (t : Int) := w64 _ (by omega)
          have hf1 := fitsTold_any t p1 p0 w2 (Nat.le_of_not_lt htM) hp1 hp0
          have hf2 := fitsTold_any t q1 q0 w2 (Nat.le_of_not_lt htM) hq1 hq0
          by_cases hb1 : t * p1 + p0 ≤ 4611686018427387904
          · rw [decide_eq_true hb1] at hf1
            by_cases hb2' : t * q1 + q0 ≤ 4611686018427387904
            · rw [decide_eq_true hb2'] at hf2
              clear HBAD ht htM cs
              have hp2 : (0 : Int) ≤ (t : Int) * (p1 : Int) + (p0 : Int) ∧ (t : Int) * (p1 : Int) + (p0 : Int) ≤ 4611686018427387904 ∧ (0 : Int) ≤ (t : Int) * (p1 : Int) := by
                have e1 : (t : Int) * (p1 : Int) = ((t * p1 : Nat) : Int) := by simp
                rw [e1]; omega
              have hq2 : (0 : Int) ≤ (t : Int) * (q1 : Int) + (q0 : Int) ∧ (t : Int) * (q1 : Int) + (q0 : Int) ≤ 4611686018427387904 ∧ (0 : Int) ≤ (t : Int) * (q1 : Int) := by
                have e1 : (t : Int) * (q1 : Int) = ((t * q1 : Nat) : Int) := by simp
                rw [e1]; omega
              have hsz2 := HB2.out.size
              obtain ⟨hp3, hp4, hp5⟩ := hp2
              obtain ⟨hq3, hq4, hq5⟩ := hq2
              have hp6 : (t : Int) * (p1 : Int) ≤ 4611686018427387904 := by omega
              have hq6 : (t : Int) * (q1 : Int) ≤ 4611686018427387904 := by omega
              go_wp2_with fail
              refine hf1.mono ?_
              clear hf1
              rintro e w3 ⟨rfl, hw3⟩
              go_wp2_with fail
              refine hf2.mono ?_
              clear hf2
              rintro e w4 ⟨rfl, hw4⟩
              go_wp2_with fail
              have hb3 : Below w2.heap.size w2 (w2.alloc (.cells #[.int .i64 ((t : Int) * (p1 : Int) + (p0 : Int)), .int .i64 ((t : Int) * (q1 : Int) + (q0 : Int))] 52)) := (Below.refl _ _).alloc (Nat.le_refl _) _
              have HB3 := Hid.mk' (HB2.out.later hb3)
              have m0 := HB3.out.n0
              have m1 := HB3.out.n1
              have l0 := HB3.out.b0
              have l1 := HB3.out.b1
              have k0 := HB3.out.f _ 0 (Or.inr (Or.inl rfl)) (by decide)
              have k1 := HB3.out.f _ 1 (Or.inr (Or.inl rfl)) (by decide)
              have k2 := HB3.out.f _ 0 (Or.inr (Or.inr rfl)) (by decide)
              have k3 := HB3.out.f _ 1 (Or.inr (Or.inr rfl)) (by decide)
              have y0 := top_cell w2 #[.int .i64 ((t : Int) * (p1 : Int) + (p0 : Int)), .int .i64 ((t : Int) * (q1 : Int) + (q0 : Int))] 52 0 rfl
              have y1 := top_cell w2 #[.int .i64 ((t : Int) * (p1 : Int) + (p0 : Int)), .int .i64 ((t : Int) * (q1 : Int) + (q0 : Int))] 52 1 rfl
              have HBX := Hid.mk' (HB3.out.moved (t * p1 + p0) (t * q1 + q0)).drew
              have HN3 := Hid.mk' (((HN2.out.later hb3).moved HB3.out ((t * p1 + p0 : Nat) : Int) ((t * q1 + q0 : Nat) : Int)).drew)
              have HR3 := Hid.mk' (((HRN.out.later hb3).moved HB3.out ((t * p1 + p0 : Nat) : Int) ((t * q1 + q0 : Nat) : Int)).drew)
              have ep : ((t * p1 + p0 : Nat) : Int) = (t : Int) * (p1 : Int) + (p0 : Int) := by simp
              have eq : ((t * q1 + q0 : Nat) : Int) = (t : Int) * (q1 : Int) + (q0 : Int) := by simp
              rw [ep, eq] at HBX HN3 HR3
              unfold movedW at HBX HN3 HR3
              clear ep eq hb3
              generalize w2.alloc (.cells #[.int .i64 ((t : Int) * (p1 : Int) + (p0 : Int)), .int .i64 ((t : Int) * (q1 : Int) + (q0 : Int))] 52) = W3 at *
              go_region
              go_wp2_with fail
              go_roundg (nm % gk)
              case measure => exact Nat.mod_lt _ hpos
              case rel => exact ⟨gk, p1, q1, t * p1 + p0, t * q1 + q0, HN3.out, HR3.out, ⟨HK.out.2, Nat.lt_trans (Nat.mod_lt _ hpos) HK.out.2⟩, by rw [HT.out]; exact HST.out, hp1, hq1, hb1, hb2', HBX.out⟩
            · have HV := Hid.mk' (HBAD.out (cont_great (by decide) HST.out hD0 (by rw [← ht]; omega)))
              rw [decide_eq_false hb2'] at hf2
              clear HBAD ht htM hb1 hb2'
              go_wp2_with fail
              refine hf1.mono ?_
              clear hf1
              rintro e w3 ⟨rfl, hw3⟩
              go_wp2_with fail
              refine hf2.mono ?_
              clear hf2
              rintro e w4 ⟨rfl, hw4⟩
              go_wp2_with fail
              go_region
              all_goals (
                go_wp2_with fail
                exact bodyPost_ret (v := .tuple #[.agg #[.int .i64 0, .int .i64 0], errV a 2]) (by simp [results, Tryd.results30, go_sem, G0.out, G2.out, errV_two]) rfl ⟨by rw [HV.out], by first | exact ((HB2.out.below.setCell (Nat.le_refl _) _).setCell (Nat.le_refl _) _).drew | exact ((HB2.out.below.drew.setCell (Nat.le_refl _) _).setCell (Nat.le_refl _) _) | exact (below_drewsN ((HB2.out.below.setCell (Nat.le_refl _) _).setCell (Nat.le_refl _) _) _) | exact (((below_drewsN HB2.out.below _).setCell (Nat.le_refl _) _).setCell (Nat.le_refl _) _)⟩)
          · have HV := Hid.mk' (HBAD.out (cont_great (by decide) HST.out hD0 (by rw [← ht]; omega)))
            rw [decide_eq_false hb1] at hf1
            clear HBAD ht htM hb1 hf2
            go_wp2_with fail
            refine hf1.mono ?_
            clear hf1
            rintro e w3 ⟨rfl, hw3⟩
            go_wp2_with fail
            go_region
            all_goals (
              go_wp2_with fail
              exact bodyPost_ret (v := .tuple #[.agg #[.int .i64 0, .int .i64 0], errV a 2]) (by simp [results, Tryd.results30, go_sem, G0.out, G2.out, errV_two]) rfl ⟨by rw [HV.out], by first | exact ((HB2.out.below.setCell (Nat.le_refl _) _).setCell (Nat.le_refl _) _).drew | exact ((HB2.out.below.drew.setCell (Nat.le_refl _) _).setCell (Nat.le_refl _) _) | exact (below_drewsN ((HB2.out.below.setCell (Nat.le_refl _) _).setCell (Nat.le_refl _) _) _) | exact (((below_drewsN HB2.out.below _).setCell (Nat.le_refl _) _).setCell (Nat.le_refl _) _)⟩)
end Go.Proofs.YtlnhpkmcinohdaaDoor
