/- ZeroStrong: the law. -/
import Derived.Test.YtojljmapdafmaaaDoorZeSD
namespace Go.Proofs.YtojljmapdafmaaaDoor
open Go.RowKit

theorem box2A {W w' : World} {x y : Value} {t : TypeId} (hb : Below (W.alloc (.cells #[x, y] t)).heap.size (W.alloc (.cells #[x, y] t)) w') : (w'.cell? ⟨W.heap.size, 0, none⟩ = some x ∧ w'.cell? ⟨W.heap.size, 1, none⟩ = some y) ∧ (w'.frozen? ⟨W.heap.size, 0, none⟩ = false ∧ w'.frozen? ⟨W.heap.size, 1, none⟩ = false) := by
  refine ⟨⟨?_, ?_⟩, ⟨?_, ?_⟩⟩
  · rw [hb.cell (p := ⟨W.heap.size, 0, none⟩) (by simp)]; go_simp
  · rw [hb.cell (p := ⟨W.heap.size, 1, none⟩) (by simp)]; go_simp
  · rw [hb.frozen (p := ⟨W.heap.size, 0, none⟩) (by simp)]; go_simp
  · rw [hb.frozen (p := ⟨W.heap.size, 1, none⟩) (by simp)]; go_simp
theorem box2K {W w' : World} {b : Nat} {x y : Value} (h : (W.cell? ⟨b, 0, none⟩ = some x ∧ W.cell? ⟨b, 1, none⟩ = some y) ∧ (W.frozen? ⟨b, 0, none⟩ = false ∧ W.frozen? ⟨b, 1, none⟩ = false)) (hb : Below W.heap.size W w') : (w'.cell? ⟨b, 0, none⟩ = some x ∧ w'.cell? ⟨b, 1, none⟩ = some y) ∧ (w'.frozen? ⟨b, 0, none⟩ = false ∧ w'.frozen? ⟨b, 1, none⟩ = false) :=
  ⟨⟨by rw [hb.cell (cell_lt h.1.1)]; exact h.1.1, by rw [hb.cell (cell_lt h.1.2)]; exact h.1.2⟩, ⟨by rw [hb.frozen (p := ⟨b, 0, none⟩) (cell_lt h.1.1)]; exact h.2.1, by rw [hb.frozen (p := ⟨b, 1, none⟩) (cell_lt h.1.2)]; exact h.2.2⟩⟩
theorem setB1Z {B b : Nat} {a w : World} (h : Below B a w) (hb : B ≤ b) (x : Value) : Below B a (w.setCell ⟨b, 1, none⟩ x) := h.setCell hb x
theorem stE_le (N1 : Int) (m1 : Nat) (p1 q1 : Nat → Int) (N2 : Int) (m2 : Nat) (p2 q2 : Nat → Int) : stE N1 m1 p1 q1 N2 m2 p2 q2 ≤ 8 := by
  have h1 : ∀ N m p q, grE N m p q ≤ 8 := fun N m p q => by
    unfold grE
    split
    · decide
    · split <;> decide
  unfold stE
  split
  · exact h1 _ _ _ _
  · split
    · exact h1 _ _ _ _
    · split <;> decide

theorem edAt_nil {w : World} {base : Nat} {ax : Option Addr} {kx : Nat} (_ : w.ownsRow base 51 2 (.slice ax 0 kx) 0 (pairCells [])) : EdAt w (.slice ax 0 kx) 0 (fun _ => 0) (fun _ => 0) := ⟨ax, kx, rfl, Or.inl rfl⟩

set_option maxRecDepth 100000 in
set_option maxHeartbeats 16000000 in
theorem ZeroStrong_all (a : Nat → Addr) (N1 : Int) (m1 : Nat) (e1 : Value) (p1 q1 : Nat → Int) (N2 : Int) (m2 : Nat) (e2 : Value) (p2 q2 : Nat → Int) (w : World) (hE : Errs w a) (hT : TzAt w) (hG1 : EdAt w e1 m1 p1 q1) (hm1 : m1 ≤ maxLen) (hG2 : EdAt w e2 m2 p2 q2) (hm2 : m2 ≤ maxLen) :
    Calls Tryd.prog 5 #[.agg #[.int .i64 N1, e1], .agg #[.int .i64 N2, e2]] w fun e w' => e = .returned (.bool true) ∧ Below w.heap.size w w' := by
  obtain ⟨ad1, cap1, rfl, -⟩ := id hG1
  obtain ⟨ad2, cap2, rfl, -⟩ := id hG2
  obtain ⟨w1, hw1⟩ : ∃ w1, w1 = (w.alloc (.cells #[.int .i64 N1, .slice ad1 m1 cap1] 24)).alloc (.cells #[.int .i64 N2, .slice ad2 m2 cap2] 24) := ⟨_, rfl⟩
  have hb1 : Below w.heap.size w w1 := by rw [hw1]; exact ((Below.refl _ _).alloc (Nat.le_refl _) _).alloc (by simp) _
  have a0 : w1.cell? ⟨w.heap.size, 0, none⟩ = some (.int .i64 N1) := by rw [hw1]; go_simp
  have a1 : w1.cell? ⟨w.heap.size, 1, none⟩ = some (.slice ad1 m1 cap1) := by rw [hw1]; go_simp
  have b0 : w1.cell? ⟨w.heap.size + 1, 0, none⟩ = some (.int .i64 N2) := by rw [hw1]; go_simp
  have b1 : w1.cell? ⟨w.heap.size + 1, 1, none⟩ = some (.slice ad2 m2 cap2) := by rw [hw1]; go_simp
  have HS : Hid (∀ W, Below w1.heap.size w1 W → (W.cell? ⟨w.heap.size, 0, none⟩ = some (.int .i64 N1) ∧ W.cell? ⟨w.heap.size, 1, none⟩ = some (.slice ad1 m1 cap1)) ∧ (W.cell? ⟨w.heap.size + 1, 0, none⟩ = some (.int .i64 N2) ∧ W.cell? ⟨w.heap.size + 1, 1, none⟩ = some (.slice ad2 m2 cap2))) := fun W hb => ⟨⟨by rw [hb.cell (cell_lt a0)]; exact a0, by rw [hb.cell (cell_lt a1)]; exact a1⟩, ⟨by rw [hb.cell (cell_lt b0)]; exact b0, by rw [hb.cell (cell_lt b1)]; exact b1⟩⟩
  have HE : Hid (∀ W, Below w1.heap.size w1 W → Errs W a) := fun W hb => (hE.below hb1).below hb
  have HG1 : Hid (∀ W, Below w1.heap.size w1 W → EdAt W (.slice ad1 m1 cap1) m1 p1 q1) := fun W hb => (hG1.later hb1).later hb
  have HG2 : Hid (∀ W, Below w1.heap.size w1 W → EdAt W (.slice ad2 m2 cap2) m2 p2 q2) := fun W hb => (hG2.later hb1).later hb
  have HW1 := Hid.mk' hw1
  have HEND : Hid (∀ W, Below w1.heap.size w1 W → Below w.heap.size w W) := fun W hb => hb1.trans (hb.mono hb1.size)
  have HPE := Hid.mk' (pentagon_any a w1 (hE.below hb1) (hT.below hb1))
  have HM1 := Hid.mk' hm1
  have HM2 := Hid.mk' hm2
  clear hE hT hG1 hG2 hb1 hw1 a0 a1 b0 b1 hm1 hm2
  go_enter Tryd.func5, Tryd.ntmps5
  go_upto_region 1 with fail
  rw [← HW1.out]
  go_wp2_with fail
  refine HPE.out.mono ?_
  rintro e w2 ⟨rfl, hb2⟩
  have HB2 := Hid.mk' hb2
  obtain ⟨⟨a0, a1⟩, ⟨b0, b1⟩⟩ := HS.out _ hb2
  clear hb2 HPE
  have HLI := Hid.mk' (little_any N1 ad1 m1 cap1 HM1.out w2)
  by_cases h200 : m1 ≤ 200
  · rw [decide_eq_true h200] at HLI
    go_wp2_with fail
    refine HLI.out.mono ?_
    rintro e w3 ⟨rfl, hb3⟩
    have HB3 := Hid.mk' (HB2.out.trans (hb3.mono HB2.out.size))
    clear hb3 HLI HB2 a0 a1 b0 b1
    obtain ⟨⟨a0, a1⟩, ⟨b0, b1⟩⟩ := HS.out _ HB3.out
    have HLJ := Hid.mk' (little_any N2 ad2 m2 cap2 HM2.out w3)
    by_cases h201 : m2 ≤ 200
    · rw [decide_eq_true h201] at HLJ
      go_wp2_with fail
      refine HLJ.out.mono ?_
      rintro e w4 ⟨rfl, hb4⟩
      have HB4 := Hid.mk' (HB3.out.trans (hb4.mono HB3.out.size))
      clear hb4 HLJ HB3 a0 a1 b0 b1
      obtain ⟨⟨a0, a1⟩, ⟨b0, b1⟩⟩ := HS.out _ HB4.out
      have hk1 : m1 ≤ 1000 := by omega
      have hk2 : m2 ≤ 1000 := by omega
      have HGE1 := Hid.mk' (GraphError_any N1 m1 _ p1 q1 w4 (HG1.out _ HB4.out) hk1)
      have HGE2 : Hid (∀ W, Below w1.heap.size w1 W → Calls Tryd.prog 13 #[.agg #[.int .i64 N2, .slice ad2 m2 cap2]] W fun e w' => e = .returned (.int .i64 (grE N2 m2 p2 q2 : Nat)) ∧ Below W.heap.size W w') := fun W hb => GraphError_any N2 m2 _ p2 q2 W (HG2.out _ hb) hk2
      have HGR1 : Hid (∀ W, Below w1.heap.size w1 W → Calls Tryd.prog 12 #[.agg #[.int .i64 N1, .slice ad1 m1 cap1]] W fun e w' => ∃ v, e = .returned (.agg #[.int .i64 N1, v]) ∧ EdAt w' v m1 p1 q1 ∧ Below W.heap.size W w') := fun W hb => graph_any N1 m1 _ p1 q1 W (HG1.out _ hb) hk1
      have HGR2 : Hid (∀ W, Below w1.heap.size w1 W → Calls Tryd.prog 12 #[.agg #[.int .i64 N2, .slice ad2 m2 cap2]] W fun e w' => ∃ v, e = .returned (.agg #[.int .i64 N2, v]) ∧ EdAt w' v m2 p2 q2 ∧ Below W.heap.size W w') := fun W hb => graph_any N2 m2 _ p2 q2 W (HG2.out _ hb) hk2
      have HST : Hid (∀ (W : World) (u v : Value), Below w1.heap.size w1 W → EdAt W u m1 p1 q1 → EdAt W v m2 p2 q2 → Calls Tryd.prog 24 #[.agg #[.int .i64 N1, u], .agg #[.int .i64 N2, v]] W fun e w' => ∃ v, e = .returned (.tuple #[.agg #[.int .i64 (stN N1 m1 p1 q1 N2 m2 p2 q2 : Nat), v], errV a (stE N1 m1 p1 q1 N2 m2 p2 q2)]) ∧ w'.ownsRow W.heap.size 51 2 v (stL N1 m1 p1 q1 N2 m2 p2 q2).length (pairCells (stL N1 m1 p1 q1 N2 m2 p2 q2)) ∧ Below W.heap.size W w') := fun W u v hb hu hv => Strong_any a N1 m1 u p1 q1 N2 m2 v p2 q2 W (HE.out _ hb) hu hv hk1 hk2
      have HCD : Hid (∀ W, Below w1.heap.size w1 W → Calls Tryd.prog 10 #[errV a (stE N1 m1 p1 q1 N2 m2 p2 q2), .int .i64 (stE N1 m1 p1 q1 N2 m2 p2 q2 : Nat)] W fun e w' => e = .returned (.bool true) ∧ Below W.heap.size W w') := fun W hb => coded_errV a _ (stE_le N1 m1 p1 q1 N2 m2 p2 q2) W (HE.out _ hb)
      have HSE : Hid (stE N1 m1 p1 q1 N2 m2 p2 q2 = if grE N1 m1 p1 q1 ≠ 0 then grE N1 m1 p1 q1 else if grE N2 m2 p2 q2 ≠ 0 then grE N2 m2 p2 q2 else if 16 < N1 * N2 then 2 else 0) := rfl
      have HNL : Hid (stE N1 m1 p1 q1 N2 m2 p2 q2 ≠ 0 → stN N1 m1 p1 q1 N2 m2 p2 q2 = 0 ∧ stL N1 m1 p1 q1 N2 m2 p2 q2 = []) := fun h => ⟨if_neg h, if_neg h⟩
      go_wp2_with fail
      refine HGE1.out.mono ?_
      rintro e w5 ⟨rfl, hb5⟩
      have HB5 := Hid.mk' (HB4.out.trans (hb5.mono HB4.out.size))
      clear hb5 HGE1 HB4 a0 a1 b0 b1
      by_cases h1 : grE N1 m1 p1 q1 = 0
      · rw [h1]
        obtain ⟨⟨a0, a1⟩, ⟨b0, b1⟩⟩ := HS.out _ HB5.out
        go_wp2_with fail
        refine (HGE2.out _ HB5.out).mono ?_
        rintro e w6 ⟨rfl, hb6⟩
        have HB6 := Hid.mk' (HB5.out.trans (hb6.mono HB5.out.size))
        clear hb6 HGE2 HB5 a0 a1 b0 b1
        obtain ⟨⟨a0, a1⟩, ⟨b0, b1⟩⟩ := HS.out _ HB6.out
        by_cases h2 : grE N2 m2 p2 q2 = 0
        · rw [h2]
          obtain ⟨n1, rfl⟩ : ∃ n : Nat, N1 = n := ⟨N1.toNat, by have := grE_zero h1; omega⟩
          obtain ⟨n2, rfl⟩ : ∃ n : Nat, N2 = n := ⟨N2.toNat, by have := grE_zero h2; omega⟩
          have hn1 : n1 ≤ 16 := by have := grE_zero h1; omega
          have hn2 : n2 ≤ 16 := by have := grE_zero h2; omega
          have hmul : (n1 : Int) * (n2 : Int) = ((n1 * n2 : Nat) : Int) := by simp
          have hbig : n1 * n2 ≤ 256 := Nat.mul_le_mul hn1 hn2
          have hmI : ((n1 * n2 : Nat) : Int) ≤ 256 := by omega
          by_cases h3 : n1 * n2 ≤ 16
          · have hst : stE n1 m1 p1 q1 n2 m2 p2 q2 = 0 := by
              rw [HSE.out, if_neg (by simp [h1]), if_neg (by simp [h2]), if_neg (by rw [hmul]; omega)]
            have d1 := ed_nat h1
            have d2 := ed_nat h2
            have eN : stN n1 m1 p1 q1 n2 m2 p2 q2 = n1 * n2 := by rw [stN, if_pos hst]; rfl
            have eL : stL n1 m1 p1 q1 n2 m2 p2 q2 = edTo (bothJ (nrB (nP p1) (nP q1) m1) (nrB (nP p2) (nP q2) m2) n2) (n1 * n2) (n1 * n2) := by rw [stL, if_pos hst]; rfl
            have HSO : Hid (∀ W, Below w1.heap.size w1 W → Calls Tryd.prog 23 #[.agg #[.int .i64 n1, .slice ad1 m1 cap1], .agg #[.int .i64 n2, .slice ad2 m2 cap2]] W fun e w' => ∃ v, e = .returned (.agg #[.int .i64 (n1 * n2 : Nat), v]) ∧ w'.ownsRow W.heap.size 51 2 v (stL n1 m1 p1 q1 n2 m2 p2 q2).length (pairCells (stL n1 m1 p1 q1 n2 m2 p2 q2)) ∧ Below W.heap.size W w') := fun W hb => by
              rw [eL]
              exact StrongOf_any n1 n2 m1 m2 _ _ (nP p1) (nP q1) (nP p2) (nP q2) W ((HG1.out _ hb).congr fun k hk => ⟨(d1 k hk).2.2.1, (d1 k hk).2.2.2⟩) ((HG2.out _ hb).congr fun k hk => ⟨(d2 k hk).2.2.1, (d2 k hk).2.2.2⟩) hn2 h3 hk1 hk2 (fun k hk => ⟨(d1 k hk).1, by have := (d1 k hk).2.1; simpa using this⟩) (fun k hk => ⟨(d2 k hk).1, by have := (d2 k hk).2.1; simpa using this⟩)
            have HLL : Hid ((stL n1 m1 p1 q1 n2 m2 p2 q2).length ≤ 1000) := by
              rw [eL]
              have g1 := edTo_length (bothJ (nrB (nP p1) (nP q1) m1) (nrB (nP p2) (nP q2) m2) n2) (n1 * n2) (n1 * n2)
              have g2 : n1 * n2 * (n1 * n2) ≤ 16 * 16 := Nat.mul_le_mul h3 h3
              show _ ≤ _
              omega
            rw [eN, hst, errV_zero] at HST
            rw [hst, errV_zero] at HCD
            have hcmp : ¬ ((16 : Int) < ((n1 * n2 : Nat) : Int)) := by omega
            clear hst eN eL d1 d2 HSE HNL h1 h2
            generalize stL n1 m1 p1 q1 n2 m2 p2 q2 = E at *
            generalize hMM : n1 * n2 = M at *
            have hcmp2 : ¬ (16 < M) := by omega
            clear hMM
            obtain ⟨W10, hW10⟩ : ∃ W, W = w6.alloc (.cells #[.int .i64 0, .slice none 0 0] 24) := ⟨_, rfl⟩
            have hb10 : Below w6.heap.size w6 W10 := by rw [hW10]; exact (Below.refl _ _).alloc (Nat.le_refl _) _
            have z0 : W10.cell? ⟨w6.heap.size, 0, none⟩ = some (.int .i64 0) := by rw [hW10]; go_simp
            have z1 : W10.cell? ⟨w6.heap.size, 1, none⟩ = some (.slice none 0 0) := by rw [hW10]; go_simp
            have zf0 : W10.frozen? ⟨w6.heap.size, 0, none⟩ = false := by rw [hW10]; go_simp
            have zf1 : W10.frozen? ⟨w6.heap.size, 1, none⟩ = false := by rw [hW10]; go_simp
            have HB10 : Hid (Below w1.heap.size w1 W10) := HB6.out.trans (hb10.mono HB6.out.size)
            have HCF := Hid.mk' (HSO.out W10 HB10.out)
            have HW10 := Hid.mk' hW10
            have HZ : Hid (∀ W, Below W10.heap.size W10 W → W.cell? ⟨w6.heap.size, 0, none⟩ = some (.int .i64 0) ∧ W.cell? ⟨w6.heap.size, 1, none⟩ = some (.slice none 0 0) ∧ W.frozen? ⟨w6.heap.size, 0, none⟩ = false ∧ W.frozen? ⟨w6.heap.size, 1, none⟩ = false) := fun W hb => ⟨by rw [hb.cell (cell_lt z0)]; exact z0, by rw [hb.cell (cell_lt z1)]; exact z1, by rw [hb.frozen (p := ⟨w6.heap.size, 0, none⟩) (cell_lt z0)]; exact zf0, by rw [hb.frozen (p := ⟨w6.heap.size, 1, none⟩) (cell_lt z1)]; exact zf1⟩
            have HLZ : Hid (w6.heap.size < W10.heap.size) := cell_lt z0
            have HSX := Hid.mk' (HS.out _ HB10.out)
            clear z0 z1 zf0 zf1 hb10 hW10
            go_upto_region 11 with fail
            rw [← HW10.out]
            clear a0 a1 b0 b1
            obtain ⟨⟨a0, a1⟩, ⟨b0, b1⟩⟩ := HSX.out
            go_wp2_with fail
            refine HCF.out.mono ?_
            rintro e w11 ⟨u11, rfl, h11, hb11⟩
            obtain ⟨z0, z1, zf0, zf1⟩ := HZ.out _ hb11
            obtain ⟨ao, co, rfl, _⟩ := row_shape2 h11
            obtain ⟨W12, hW12⟩ : ∃ W, W = (w11.setCell ⟨w6.heap.size, 0, none⟩ (.int .i64 (M : Int))).setCell ⟨w6.heap.size, 1, none⟩ (.slice ao E.length co) := ⟨_, rfl⟩
            have HW12 := Hid.mk' hW12
            have hb12 : Below w6.heap.size w6 W12 := by
              rw [hW12]
              have h3 : Below w6.heap.size w6 W10 := by rw [HW10.out]; exact (Below.refl _ _).alloc (Nat.le_refl _) _
              exact ((h3.trans (hb11.mono h3.size)).setCell (Nat.le_refl _) _).setCell (Nat.le_refl _) _
            have y0 : W12.cell? ⟨w6.heap.size, 0, none⟩ = some (.int .i64 (M : Int)) := by
              rw [hW12, World.cell?_setCell_other _ _ _ _ (by simp), World.cell?_setCell_same _ _ _ z0]
            have y1 : W12.cell? ⟨w6.heap.size, 1, none⟩ = some (.slice ao E.length co) := by
              rw [hW12]
              exact World.cell?_setCell_same _ _ _ (by rw [World.cell?_setCell_other _ _ _ _ (by simp)]; exact z1)
            have HY : Hid (∀ W, Below W12.heap.size W12 W → W.cell? ⟨w6.heap.size, 0, none⟩ = some (.int .i64 (M : Int)) ∧ W.cell? ⟨w6.heap.size, 1, none⟩ = some (.slice ao E.length co)) := fun W hb => ⟨by rw [hb.cell (cell_lt y0)]; exact y0, by rw [hb.cell (cell_lt y1)]; exact y1⟩
            have HR12 : Hid (EdAt W12 (.slice ao E.length co) E.length (fun i => ((E.getD i (0, 0)).1 : Nat)) (fun i => ((E.getD i (0, 0)).2 : Nat))) := by
              rw [hW12]
              exact edAt_row (ownsRow_setCell_below (ownsRow_setCell_below h11 (a := ⟨w6.heap.size, 0, none⟩) HLZ.out _) (a := ⟨w6.heap.size, 1, none⟩) HLZ.out _)
            have HB12 : Hid (Below w1.heap.size w1 W12) := HB6.out.trans (hb12.mono HB6.out.size)
            clear h11 hb11 hW12 hb12 y0 y1 HCF HZ HW10 HB10 HB6 a0 a1 b0 b1
            go_wp2_with fail
            rw [← HW12.out]
            clear z0 z1 zf0 zf1 HW12
            have hcur0 : Below W12.heap.size W12 W12 := Below.refl _ _
            have hcur : Below W12.heap.size W12 W12.drew := hcur0.drew
            have HSB : Hid (∀ W, Below W12.heap.size W12 W → Below w1.heap.size w1 W) := fun W hb => HB12.out.trans (hb.mono HB12.out.size)
            have HSS : Hid (∀ W, Below W12.heap.size W12 W → (W.cell? ⟨w.heap.size, 0, none⟩ = some (.int .i64 n1) ∧ W.cell? ⟨w.heap.size, 1, none⟩ = some (.slice ad1 m1 cap1)) ∧ (W.cell? ⟨w.heap.size + 1, 0, none⟩ = some (.int .i64 n2) ∧ W.cell? ⟨w.heap.size + 1, 1, none⟩ = some (.slice ad2 m2 cap2))) := fun W hb => HS.out _ (HSB.out _ hb)
            go_cut [8, 9] from 46 (fun s8 s9 wx => ∃ (Bx : Nat) (ax : Option Addr) (kx : Nat), s8 = .pointer (some ⟨Bx, 0, none⟩) ∧ s9 = .nilIface ∧ Hid (Below W12.heap.size W12 wx) ∧ Hid (wx.cell? ⟨Bx, 0, none⟩ = some (.int .i64 (M : Int))) ∧ Hid (wx.cell? ⟨Bx, 1, none⟩ = some (.slice ax E.length kx)) ∧ Hid (EdAt wx (.slice ax E.length kx) E.length (fun i => ((E.getD i (0, 0)).1 : Nat)) (fun i => ((E.getD i (0, 0)).2 : Nat))))
            case first =>
              go_region_held3 (fun W => (W.cell? ⟨w.heap.size, 0, none⟩ = some (.int .i64 n1) ∧ W.cell? ⟨w.heap.size, 1, none⟩ = some (.slice ad1 m1 cap1)) ∧ (W.cell? ⟨w.heap.size + 1, 0, none⟩ = some (.int .i64 n2) ∧ W.cell? ⟨w.heap.size + 1, 1, none⟩ = some (.slice ad2 m2 cap2)))
                ((refine HSS.out _ ?_; repeat (first | exact hcur0 | exact hcur | exact hB9 | exact hB8 | exact hB7 | refine Below.drew ?_ | refine more_belowZ ?_ (Nat.le_refl _) _ | refine setBZ ?_ (by (try have h7s := hB7.size); (try have h8s := hB8.size); (try have h9s := hB9.size); omega) _ | refine setB1Z ?_ (by (try have h7s := hB7.size); (try have h8s := hB8.size); (try have h9s := hB9.size); omega) _)))
                (first
                  | (go_at_call 24; refine (HST.out _ _ _ ?hcw ?hg1 ?hg2).mono ?_; (case hcw => refine HSB.out _ ?_; repeat (first | exact hB8 | refine more_belowZ ?_ (Nat.le_refl _) _)); (case hg1 => first | exact HV7.out.later hQ8 | exact HV7.out.later (more_belowZ hQ8 (Nat.le_refl _) _)); (case hg2 => first | exact HV8.out | exact HV8.out.later ((Below.refl _ _).alloc (Nat.le_refl _) _)); rintro e w9 ⟨u9, rfl, h9, hb9⟩; have hQ9 : Below w8.heap.size w8 w9 := Below.trans (by repeat (first | exact Below.refl _ _ | refine more_belowZ ?_ (Nat.le_refl _) _)) (hb9.mono (by first | exact Nat.le_refl _ | (simp; done) | (simp; omega))); (try (have hj1 := box2K ⟨⟨hk1a, hk1b⟩, ⟨hk1c, hk1d⟩⟩ (hQ8.trans (hQ9.mono hQ8.size)); obtain ⟨⟨hj1a, hj1b⟩, ⟨hj1c, hj1d⟩⟩ := hj1; have hj1l := cell_lt hj1a; (try simp only at hj1l))); (try (have hj2 := box2K ⟨⟨hk2a, hk2b⟩, ⟨hk2c, hk2d⟩⟩ hQ9; obtain ⟨⟨hj2a, hj2b⟩, ⟨hj2c, hj2d⟩⟩ := hj2; have hj2l := cell_lt hj2a; (try simp only at hj2l))); (try (have hk3 := box2A hb9; obtain ⟨⟨hk3a, hk3b⟩, ⟨hk3c, hk3d⟩⟩ := hk3; have hk3l := cell_lt hk3a; (try simp only at hk3l))); have hB9 : Below W12.heap.size W12 w9 := hB8.trans (hQ9.mono hB8.size); have HO9 := Hid.mk' h9; obtain ⟨a9, k9, rfl, _⟩ := row_shape2 h9; clear h9)
                  | (go_at_call 12; (have hz7 := hB7; clear hz7); refine (HGR2.out _ ?hcw).mono ?_; (case hcw => refine HSB.out _ ?_; repeat (first | exact hB7 | refine more_belowZ ?_ (Nat.le_refl _) _)); rintro e w8 ⟨u8, rfl, h8, hb8⟩; have hQ8 : Below w7.heap.size w7 w8 := Below.trans (by repeat (first | exact Below.refl _ _ | refine more_belowZ ?_ (Nat.le_refl _) _)) (hb8.mono (by first | exact Nat.le_refl _ | (simp; done) | (simp; omega))); (try (have hk2 := box2A hb8; obtain ⟨⟨hk2a, hk2b⟩, ⟨hk2c, hk2d⟩⟩ := hk2; have hk2l := cell_lt hk2a; (try simp only at hk2l))); have hB8 : Below W12.heap.size W12 w8 := hB7.trans (hQ8.mono hB7.size); have HV8 := Hid.mk' h8; obtain ⟨a8, k8, rfl, -⟩ := h8)
                  | (go_at_call 12; refine (HGR1.out _ ?hcw).mono ?_; (case hcw => refine HSB.out _ ?_; repeat (first | exact hcur0 | exact hcur | refine Below.drew ?_ | refine more_belowZ ?_ (Nat.le_refl _) _)); rintro e w7 ⟨u7, rfl, h7, hb7⟩; have hB7 : Below W12.heap.size W12 w7 := Below.trans (by repeat (first | exact hcur0 | exact hcur | refine Below.drew ?_ | refine more_belowZ ?_ (Nat.le_refl _) _)) (hb7.mono (by first | exact Nat.le_refl _ | (simp; done) | (simp; omega))); (try (have hk1 := box2A (undrew hb7); obtain ⟨⟨hk1a, hk1b⟩, ⟨hk1c, hk1d⟩⟩ := hk1; have hk1l := cell_lt hk1a; (try simp only at hk1l))); have HV7 := Hid.mk' h7; obtain ⟨a7, k7, rfl, -⟩ := h7))
              all_goals
                go_wp2_with fail
                go_meet
                have h7s := hB7.size
                have h8s := hQ8.size
                have h9s := hQ9.size
                refine ⟨_, a9, k9, rfl, rfl, ?_, ?_, ?_, ?_⟩
                · show Below _ _ _
                  repeat (first | exact hB9 | refine Below.drew ?_ | refine more_belowZ ?_ (Nat.le_refl _) _ | refine setBZ ?_ (by omega) _ | refine setB1Z ?_ (by omega) _)
                · show _ = _
                  go_simp
                · show _ = _
                  go_simp
                · first
                    | exact edAt_row (own_past HO9.out ((Below.refl _ _).alloc (Nat.le_refl _) _))
                    | exact edAt_row (ownsRow_setCell_below (ownsRow_setCell_below HO9.out (a := ⟨_, 0, none⟩) (by (try simp only [World.size_alloc]); (show _ < _); omega) _) (a := ⟨_, 1, none⟩) (by (try simp only [World.size_alloc]); (show _ < _); omega) _)
            case rest =>
              obtain ⟨Bx, ax, kx, rfl, hs9, HBX, HX0, HX1, HEX⟩ := hcut
              rw [hs9]
              clear hs9
              rename World => W15
              have HB15 := Hid.mk' (HSB.out _ HBX.out)
              have HF15 := Hid.mk' (HR12.out.later HBX.out)
              clear HST HGR1 HGR2
              have HXX : Hid (∀ W, Below W15.heap.size W15 W → (W.cell? ⟨Bx, 0, none⟩ = some (.int .i64 (M : Int)) ∧ W.cell? ⟨Bx, 1, none⟩ = some (.slice ax E.length kx)) ∧ (W.cell? ⟨w6.heap.size, 0, none⟩ = some (.int .i64 (M : Int)) ∧ W.cell? ⟨w6.heap.size, 1, none⟩ = some (.slice ao E.length co))) := fun W hb => ⟨⟨by rw [hb.cell (cell_lt HX0.out)]; exact HX0.out, by rw [hb.cell (cell_lt HX1.out)]; exact HX1.out⟩, HY.out _ (HBX.out.trans (hb.mono HBX.out.size))⟩
              have HSG : Hid (∀ W, Below W15.heap.size W15 W → Calls Tryd.prog 18 #[.agg #[.int .i64 (M : Int), .slice ax E.length kx], .agg #[.int .i64 (M : Int), .slice ao E.length co]] W fun e w' => e = .returned (.bool true) ∧ Below W.heap.size W w') := fun W hb => SameGraph_any (M : Int) E.length _ _ _ _ W (HEX.out.later hb) (HF15.out.later hb) HLL.out
              have hcur0 : Below W15.heap.size W15 W15 := Below.refl _ _
              have hcur : Below W15.heap.size W15 W15.drew := hcur0.drew
              have HCD2 : Hid (∀ W, Below W15.heap.size W15 W → Calls Tryd.prog 10 #[.nilIface, .int .i64 0] W fun e w' => e = .returned (.bool true) ∧ Below W.heap.size W w') := fun W hb => HCD.out W (HB15.out.trans (hb.mono HB15.out.size))
              clear HX0 HX1 HY HCD
              go_wp2_with fail
              go_region_held3 (fun W => (W.cell? ⟨Bx, 0, none⟩ = some (.int .i64 (M : Int)) ∧ W.cell? ⟨Bx, 1, none⟩ = some (.slice ax E.length kx)) ∧ (W.cell? ⟨w6.heap.size, 0, none⟩ = some (.int .i64 (M : Int)) ∧ W.cell? ⟨w6.heap.size, 1, none⟩ = some (.slice ao E.length co)))
                (first | exact HXX.out _ hcur | exact HXX.out _ hcur0 | exact HXX.out _ hB16 | exact HXX.out _ hB17 | exact HXX.out _ hB18)
                (first
                  | (go_at_call 18; refine (HSG.out _ hB17).mono ?_; rintro e w18 ⟨rfl, hb18⟩; have hB18 := hB17.trans (hb18.mono hB17.size); clear hb18)
                  | (go_at_call 19; refine (back_any _ _ _ _ _).mono ?_; rintro e w17 ⟨rfl, hb17⟩; have hB17 := hB16.trans (hb17.mono hB16.size); clear hb17)
                  | (go_at_call 10; refine (HCD2.out _ hcur).mono ?_; rintro e w16 ⟨rfl, hb16⟩; have hB16 := hcur.trans (hb16.mono hcur.size); clear hb16))
              go_wp2_with fail
              go_ret
              exact ⟨rfl, HEND.out _ (HB15.out.trans (hB18.mono HB15.out.size))⟩
          · have hst : stE n1 m1 p1 q1 n2 m2 p2 q2 = 2 := by
              rw [HSE.out, if_neg (by simp [h1]), if_neg (by simp [h2]), if_pos (by rw [hmul]; omega)]
            have hne0 : stE n1 m1 p1 q1 n2 m2 p2 q2 ≠ 0 := by rw [hst]; decide
            obtain ⟨eN, eL⟩ := HNL.out hne0
            have hEV := errV_pos a hne0
            have hne : (((2 : Nat) : Int) == 0) = false := by decide
            rw [eN, eL, hEV] at HST
            rw [hEV] at HCD
            rw [hst] at HST HCD
            generalize hEVV : Value.iface 118 (.pointer (some (a (2 - 1)))) = EV at *
            have hcmp : (16 : Int) < ((n1 * n2 : Nat) : Int) := by omega
            clear hst hne0 eN eL hEV hEVV HSE HNL h1 h2
            generalize n1 * n2 = M at *
            have hcmp2 : 16 < M := by omega
            clear hne
            obtain ⟨W12, hW12⟩ : ∃ W, W = w6.alloc (.cells #[.int .i64 0, .slice none 0 0] 24) := ⟨_, rfl⟩
            have hb12 : Below w6.heap.size w6 W12 := by rw [hW12]; exact (Below.refl _ _).alloc (Nat.le_refl _) _
            have y0 : W12.cell? ⟨w6.heap.size, 0, none⟩ = some (.int .i64 0) := by rw [hW12]; go_simp
            have y1 : W12.cell? ⟨w6.heap.size, 1, none⟩ = some (.slice none 0 0) := by rw [hW12]; go_simp
            have HY : Hid (∀ W, Below W12.heap.size W12 W → W.cell? ⟨w6.heap.size, 0, none⟩ = some (.int .i64 (0 : Int)) ∧ W.cell? ⟨w6.heap.size, 1, none⟩ = some (.slice none 0 0)) := fun W hb => ⟨by rw [hb.cell (cell_lt y0)]; exact y0, by rw [hb.cell (cell_lt y1)]; exact y1⟩
            have HR12 : Hid (EdAt W12 (.slice none 0 0) 0 (fun _ => 0) (fun _ => 0)) := ⟨none, 0, rfl, Or.inl rfl⟩
            have HB12 : Hid (Below w1.heap.size w1 W12) := HB6.out.trans (hb12.mono HB6.out.size)
            have HW12 := Hid.mk' hW12
            clear hW12 hb12 y0 y1 HB6
            go_wp2_with fail
            rw [← HW12.out]
            clear HW12
            have hcur0 : Below W12.heap.size W12 W12 := Below.refl _ _
            have hcur : Below W12.heap.size W12 W12.drew := hcur0.drew
            have HSB : Hid (∀ W, Below W12.heap.size W12 W → Below w1.heap.size w1 W) := fun W hb => HB12.out.trans (hb.mono HB12.out.size)
            have HSS : Hid (∀ W, Below W12.heap.size W12 W → (W.cell? ⟨w.heap.size, 0, none⟩ = some (.int .i64 n1) ∧ W.cell? ⟨w.heap.size, 1, none⟩ = some (.slice ad1 m1 cap1)) ∧ (W.cell? ⟨w.heap.size + 1, 0, none⟩ = some (.int .i64 n2) ∧ W.cell? ⟨w.heap.size + 1, 1, none⟩ = some (.slice ad2 m2 cap2))) := fun W hb => HS.out _ (HSB.out _ hb)
            go_cut [8, 9] from 46 (fun s8 s9 wx => ∃ (Bx : Nat) (ax : Option Addr) (kx : Nat), s8 = .pointer (some ⟨Bx, 0, none⟩) ∧ s9 = EV ∧ Hid (Below W12.heap.size W12 wx) ∧ Hid (wx.cell? ⟨Bx, 0, none⟩ = some (.int .i64 (0 : Int))) ∧ Hid (wx.cell? ⟨Bx, 1, none⟩ = some (.slice ax 0 kx)) ∧ Hid (EdAt wx (.slice ax 0 kx) 0 (fun _ => 0) (fun _ => 0)))
            case first =>
              go_region_held3 (fun W => (W.cell? ⟨w.heap.size, 0, none⟩ = some (.int .i64 n1) ∧ W.cell? ⟨w.heap.size, 1, none⟩ = some (.slice ad1 m1 cap1)) ∧ (W.cell? ⟨w.heap.size + 1, 0, none⟩ = some (.int .i64 n2) ∧ W.cell? ⟨w.heap.size + 1, 1, none⟩ = some (.slice ad2 m2 cap2)))
                ((refine HSS.out _ ?_; repeat (first | exact hcur0 | exact hcur | exact hB9 | exact hB8 | exact hB7 | refine Below.drew ?_ | refine more_belowZ ?_ (Nat.le_refl _) _ | refine setBZ ?_ (by (try have h7s := hB7.size); (try have h8s := hB8.size); (try have h9s := hB9.size); omega) _ | refine setB1Z ?_ (by (try have h7s := hB7.size); (try have h8s := hB8.size); (try have h9s := hB9.size); omega) _)))
                (first
                  | (go_at_call 24; refine (HST.out _ _ _ ?hcw ?hg1 ?hg2).mono ?_; (case hcw => refine HSB.out _ ?_; repeat (first | exact hB8 | refine more_belowZ ?_ (Nat.le_refl _) _)); (case hg1 => first | exact HV7.out.later hQ8 | exact HV7.out.later (more_belowZ hQ8 (Nat.le_refl _) _)); (case hg2 => first | exact HV8.out | exact HV8.out.later ((Below.refl _ _).alloc (Nat.le_refl _) _)); rintro e w9 ⟨u9, rfl, h9, hb9⟩; have hQ9 : Below w8.heap.size w8 w9 := Below.trans (by repeat (first | exact Below.refl _ _ | refine more_belowZ ?_ (Nat.le_refl _) _)) (hb9.mono (by first | exact Nat.le_refl _ | (simp; done) | (simp; omega))); (try (have hj1 := box2K ⟨⟨hk1a, hk1b⟩, ⟨hk1c, hk1d⟩⟩ (hQ8.trans (hQ9.mono hQ8.size)); obtain ⟨⟨hj1a, hj1b⟩, ⟨hj1c, hj1d⟩⟩ := hj1; have hj1l := cell_lt hj1a; (try simp only at hj1l))); (try (have hj2 := box2K ⟨⟨hk2a, hk2b⟩, ⟨hk2c, hk2d⟩⟩ hQ9; obtain ⟨⟨hj2a, hj2b⟩, ⟨hj2c, hj2d⟩⟩ := hj2; have hj2l := cell_lt hj2a; (try simp only at hj2l))); (try (have hk3 := box2A hb9; obtain ⟨⟨hk3a, hk3b⟩, ⟨hk3c, hk3d⟩⟩ := hk3; have hk3l := cell_lt hk3a; (try simp only at hk3l))); have hB9 : Below W12.heap.size W12 w9 := hB8.trans (hQ9.mono hB8.size); have HO9 := Hid.mk' h9; obtain ⟨a9, k9, rfl, _⟩ := row_shape2 h9; clear h9)
                  | (go_at_call 12; (have hz7 := hB7; clear hz7); refine (HGR2.out _ ?hcw).mono ?_; (case hcw => refine HSB.out _ ?_; repeat (first | exact hB7 | refine more_belowZ ?_ (Nat.le_refl _) _)); rintro e w8 ⟨u8, rfl, h8, hb8⟩; have hQ8 : Below w7.heap.size w7 w8 := Below.trans (by repeat (first | exact Below.refl _ _ | refine more_belowZ ?_ (Nat.le_refl _) _)) (hb8.mono (by first | exact Nat.le_refl _ | (simp; done) | (simp; omega))); (try (have hk2 := box2A hb8; obtain ⟨⟨hk2a, hk2b⟩, ⟨hk2c, hk2d⟩⟩ := hk2; have hk2l := cell_lt hk2a; (try simp only at hk2l))); have hB8 : Below W12.heap.size W12 w8 := hB7.trans (hQ8.mono hB7.size); have HV8 := Hid.mk' h8; obtain ⟨a8, k8, rfl, -⟩ := h8)
                  | (go_at_call 12; refine (HGR1.out _ ?hcw).mono ?_; (case hcw => refine HSB.out _ ?_; repeat (first | exact hcur0 | exact hcur | refine Below.drew ?_ | refine more_belowZ ?_ (Nat.le_refl _) _)); rintro e w7 ⟨u7, rfl, h7, hb7⟩; have hB7 : Below W12.heap.size W12 w7 := Below.trans (by repeat (first | exact hcur0 | exact hcur | refine Below.drew ?_ | refine more_belowZ ?_ (Nat.le_refl _) _)) (hb7.mono (by first | exact Nat.le_refl _ | (simp; done) | (simp; omega))); (try (have hk1 := box2A (undrew hb7); obtain ⟨⟨hk1a, hk1b⟩, ⟨hk1c, hk1d⟩⟩ := hk1; have hk1l := cell_lt hk1a; (try simp only at hk1l))); have HV7 := Hid.mk' h7; obtain ⟨a7, k7, rfl, -⟩ := h7))
              all_goals
                go_wp2_with fail
                go_meet
                have h7s := hB7.size
                have h8s := hQ8.size
                have h9s := hQ9.size
                refine ⟨_, a9, k9, rfl, rfl, ?_, ?_, ?_, ?_⟩
                · show Below _ _ _
                  repeat (first | exact hB9 | refine Below.drew ?_ | refine more_belowZ ?_ (Nat.le_refl _) _ | refine setBZ ?_ (by omega) _ | refine setB1Z ?_ (by omega) _)
                · show _ = _
                  go_simp
                · show _ = _
                  go_simp
                · first
                    | exact edAt_nil (own_past HO9.out ((Below.refl _ _).alloc (Nat.le_refl _) _))
                    | exact edAt_nil (ownsRow_setCell_below (ownsRow_setCell_below HO9.out (a := ⟨_, 0, none⟩) (by (try simp only [World.size_alloc]); (show _ < _); omega) _) (a := ⟨_, 1, none⟩) (by (try simp only [World.size_alloc]); (show _ < _); omega) _)
            case rest =>
              obtain ⟨Bx, ax, kx, rfl, hs9, HBX, HX0, HX1, HEX⟩ := hcut
              rw [hs9]
              clear hs9
              rename World => W15
              have HB15 := Hid.mk' (HSB.out _ HBX.out)
              have HF15 := Hid.mk' (HR12.out.later HBX.out)
              clear HST HGR1 HGR2
              have HXX : Hid (∀ W, Below W15.heap.size W15 W → (W.cell? ⟨Bx, 0, none⟩ = some (.int .i64 (0 : Int)) ∧ W.cell? ⟨Bx, 1, none⟩ = some (.slice ax 0 kx)) ∧ (W.cell? ⟨w6.heap.size, 0, none⟩ = some (.int .i64 (0 : Int)) ∧ W.cell? ⟨w6.heap.size, 1, none⟩ = some (.slice none 0 0))) := fun W hb => ⟨⟨by rw [hb.cell (cell_lt HX0.out)]; exact HX0.out, by rw [hb.cell (cell_lt HX1.out)]; exact HX1.out⟩, HY.out _ (HBX.out.trans (hb.mono HBX.out.size))⟩
              have HSG : Hid (∀ W, Below W15.heap.size W15 W → Calls Tryd.prog 18 #[.agg #[.int .i64 (0 : Int), .slice ax 0 kx], .agg #[.int .i64 (0 : Int), .slice none 0 0]] W fun e w' => e = .returned (.bool true) ∧ Below W.heap.size W w') := fun W hb => SameGraph_any (0 : Int) 0 _ _ _ _ W (HEX.out.later hb) (HF15.out.later hb) (by decide)
              have hcur0 : Below W15.heap.size W15 W15 := Below.refl _ _
              have hcur : Below W15.heap.size W15 W15.drew := hcur0.drew
              have HCD2 : Hid (∀ W, Below W15.heap.size W15 W → Calls Tryd.prog 10 #[EV, .int .i64 2] W fun e w' => e = .returned (.bool true) ∧ Below W.heap.size W w') := fun W hb => HCD.out W (HB15.out.trans (hb.mono HB15.out.size))
              clear HX0 HX1 HY HCD
              go_wp2_with fail
              go_region_held3 (fun W => (W.cell? ⟨Bx, 0, none⟩ = some (.int .i64 (0 : Int)) ∧ W.cell? ⟨Bx, 1, none⟩ = some (.slice ax 0 kx)) ∧ (W.cell? ⟨w6.heap.size, 0, none⟩ = some (.int .i64 (0 : Int)) ∧ W.cell? ⟨w6.heap.size, 1, none⟩ = some (.slice none 0 0)))
                (first | exact HXX.out _ hcur | exact HXX.out _ hcur0 | exact HXX.out _ hB16 | exact HXX.out _ hB17 | exact HXX.out _ hB18)
                (first
                  | (go_at_call 18; refine (HSG.out _ hB17).mono ?_; rintro e w18 ⟨rfl, hb18⟩; have hB18 := hB17.trans (hb18.mono hB17.size); clear hb18)
                  | (go_at_call 19; refine (back_any _ _ _ _ _).mono ?_; rintro e w17 ⟨rfl, hb17⟩; have hB17 := hB16.trans (hb17.mono hB16.size); clear hb17)
                  | (go_at_call 10; refine (HCD2.out _ hcur).mono ?_; rintro e w16 ⟨rfl, hb16⟩; have hB16 := hcur.trans (hb16.mono hcur.size); clear hb16))
              go_wp2_with fail
              go_ret
              exact ⟨rfl, HEND.out _ (HB15.out.trans (hB18.mono HB15.out.size))⟩
        · have hst : stE N1 m1 p1 q1 N2 m2 p2 q2 = grE N2 m2 p2 q2 := by
            rw [HSE.out, if_neg (by simp [h1]), if_pos h2]
          have hne0 : stE N1 m1 p1 q1 N2 m2 p2 q2 ≠ 0 := by rw [hst]; exact h2
          obtain ⟨eN, eL⟩ := HNL.out hne0
          have hEV := errV_pos a hne0
          have hne : (((grE N2 m2 p2 q2 : Nat) : Int) == 0) = false := by simp; omega
          rw [eN, eL, hEV] at HST
          rw [hEV] at HCD
          rw [hst] at HST HCD
          generalize hEVV : Value.iface 118 (.pointer (some (a (grE N2 m2 p2 q2 - 1)))) = EV at *
          generalize grE N2 m2 p2 q2 = EC at *
          clear hst hne0 eN eL hEV hEVV HSE HNL h1 h2
          obtain ⟨W12, hW12⟩ : ∃ W, W = w6.alloc (.cells #[.int .i64 0, .slice none 0 0] 24) := ⟨_, rfl⟩
          have hb12 : Below w6.heap.size w6 W12 := by rw [hW12]; exact (Below.refl _ _).alloc (Nat.le_refl _) _
          have y0 : W12.cell? ⟨w6.heap.size, 0, none⟩ = some (.int .i64 0) := by rw [hW12]; go_simp
          have y1 : W12.cell? ⟨w6.heap.size, 1, none⟩ = some (.slice none 0 0) := by rw [hW12]; go_simp
          have HY : Hid (∀ W, Below W12.heap.size W12 W → W.cell? ⟨w6.heap.size, 0, none⟩ = some (.int .i64 (0 : Int)) ∧ W.cell? ⟨w6.heap.size, 1, none⟩ = some (.slice none 0 0)) := fun W hb => ⟨by rw [hb.cell (cell_lt y0)]; exact y0, by rw [hb.cell (cell_lt y1)]; exact y1⟩
          have HR12 : Hid (EdAt W12 (.slice none 0 0) 0 (fun _ => 0) (fun _ => 0)) := ⟨none, 0, rfl, Or.inl rfl⟩
          have HB12 : Hid (Below w1.heap.size w1 W12) := HB6.out.trans (hb12.mono HB6.out.size)
          have HW12 := Hid.mk' hW12
          clear hW12 hb12 y0 y1 HB6
          go_wp2_with fail
          rw [← HW12.out]
          clear HW12
          have hcur0 : Below W12.heap.size W12 W12 := Below.refl _ _
          have hcur : Below W12.heap.size W12 W12.drew := hcur0.drew
          have HSB : Hid (∀ W, Below W12.heap.size W12 W → Below w1.heap.size w1 W) := fun W hb => HB12.out.trans (hb.mono HB12.out.size)
          have HSS : Hid (∀ W, Below W12.heap.size W12 W → (W.cell? ⟨w.heap.size, 0, none⟩ = some (.int .i64 N1) ∧ W.cell? ⟨w.heap.size, 1, none⟩ = some (.slice ad1 m1 cap1)) ∧ (W.cell? ⟨w.heap.size + 1, 0, none⟩ = some (.int .i64 N2) ∧ W.cell? ⟨w.heap.size + 1, 1, none⟩ = some (.slice ad2 m2 cap2))) := fun W hb => HS.out _ (HSB.out _ hb)
          go_cut [8, 9] from 46 (fun s8 s9 wx => ∃ (Bx : Nat) (ax : Option Addr) (kx : Nat), s8 = .pointer (some ⟨Bx, 0, none⟩) ∧ s9 = EV ∧ Hid (Below W12.heap.size W12 wx) ∧ Hid (wx.cell? ⟨Bx, 0, none⟩ = some (.int .i64 (0 : Int))) ∧ Hid (wx.cell? ⟨Bx, 1, none⟩ = some (.slice ax 0 kx)) ∧ Hid (EdAt wx (.slice ax 0 kx) 0 (fun _ => 0) (fun _ => 0)))
          case first =>
            go_region_held3 (fun W => (W.cell? ⟨w.heap.size, 0, none⟩ = some (.int .i64 N1) ∧ W.cell? ⟨w.heap.size, 1, none⟩ = some (.slice ad1 m1 cap1)) ∧ (W.cell? ⟨w.heap.size + 1, 0, none⟩ = some (.int .i64 N2) ∧ W.cell? ⟨w.heap.size + 1, 1, none⟩ = some (.slice ad2 m2 cap2)))
              ((refine HSS.out _ ?_; repeat (first | exact hcur0 | exact hcur | exact hB9 | exact hB8 | exact hB7 | refine Below.drew ?_ | refine more_belowZ ?_ (Nat.le_refl _) _ | refine setBZ ?_ (by (try have h7s := hB7.size); (try have h8s := hB8.size); (try have h9s := hB9.size); omega) _ | refine setB1Z ?_ (by (try have h7s := hB7.size); (try have h8s := hB8.size); (try have h9s := hB9.size); omega) _)))
              (first
                | (go_at_call 24; refine (HST.out _ _ _ ?hcw ?hg1 ?hg2).mono ?_; (case hcw => refine HSB.out _ ?_; repeat (first | exact hB8 | refine more_belowZ ?_ (Nat.le_refl _) _)); (case hg1 => first | exact HV7.out.later hQ8 | exact HV7.out.later (more_belowZ hQ8 (Nat.le_refl _) _)); (case hg2 => first | exact HV8.out | exact HV8.out.later ((Below.refl _ _).alloc (Nat.le_refl _) _)); rintro e w9 ⟨u9, rfl, h9, hb9⟩; have hQ9 : Below w8.heap.size w8 w9 := Below.trans (by repeat (first | exact Below.refl _ _ | refine more_belowZ ?_ (Nat.le_refl _) _)) (hb9.mono (by first | exact Nat.le_refl _ | (simp; done) | (simp; omega))); (try (have hj1 := box2K ⟨⟨hk1a, hk1b⟩, ⟨hk1c, hk1d⟩⟩ (hQ8.trans (hQ9.mono hQ8.size)); obtain ⟨⟨hj1a, hj1b⟩, ⟨hj1c, hj1d⟩⟩ := hj1; have hj1l := cell_lt hj1a; (try simp only at hj1l))); (try (have hj2 := box2K ⟨⟨hk2a, hk2b⟩, ⟨hk2c, hk2d⟩⟩ hQ9; obtain ⟨⟨hj2a, hj2b⟩, ⟨hj2c, hj2d⟩⟩ := hj2; have hj2l := cell_lt hj2a; (try simp only at hj2l))); (try (have hk3 := box2A hb9; obtain ⟨⟨hk3a, hk3b⟩, ⟨hk3c, hk3d⟩⟩ := hk3; have hk3l := cell_lt hk3a; (try simp only at hk3l))); have hB9 : Below W12.heap.size W12 w9 := hB8.trans (hQ9.mono hB8.size); have HO9 := Hid.mk' h9; obtain ⟨a9, k9, rfl, _⟩ := row_shape2 h9; clear h9)
                | (go_at_call 12; (have hz7 := hB7; clear hz7); refine (HGR2.out _ ?hcw).mono ?_; (case hcw => refine HSB.out _ ?_; repeat (first | exact hB7 | refine more_belowZ ?_ (Nat.le_refl _) _)); rintro e w8 ⟨u8, rfl, h8, hb8⟩; have hQ8 : Below w7.heap.size w7 w8 := Below.trans (by repeat (first | exact Below.refl _ _ | refine more_belowZ ?_ (Nat.le_refl _) _)) (hb8.mono (by first | exact Nat.le_refl _ | (simp; done) | (simp; omega))); (try (have hk2 := box2A hb8; obtain ⟨⟨hk2a, hk2b⟩, ⟨hk2c, hk2d⟩⟩ := hk2; have hk2l := cell_lt hk2a; (try simp only at hk2l))); have hB8 : Below W12.heap.size W12 w8 := hB7.trans (hQ8.mono hB7.size); have HV8 := Hid.mk' h8; obtain ⟨a8, k8, rfl, -⟩ := h8)
                | (go_at_call 12; refine (HGR1.out _ ?hcw).mono ?_; (case hcw => refine HSB.out _ ?_; repeat (first | exact hcur0 | exact hcur | refine Below.drew ?_ | refine more_belowZ ?_ (Nat.le_refl _) _)); rintro e w7 ⟨u7, rfl, h7, hb7⟩; have hB7 : Below W12.heap.size W12 w7 := Below.trans (by repeat (first | exact hcur0 | exact hcur | refine Below.drew ?_ | refine more_belowZ ?_ (Nat.le_refl _) _)) (hb7.mono (by first | exact Nat.le_refl _ | (simp; done) | (simp; omega))); (try (have hk1 := box2A (undrew hb7); obtain ⟨⟨hk1a, hk1b⟩, ⟨hk1c, hk1d⟩⟩ := hk1; have hk1l := cell_lt hk1a; (try simp only at hk1l))); have HV7 := Hid.mk' h7; obtain ⟨a7, k7, rfl, -⟩ := h7))
            all_goals
              go_wp2_with fail
              go_meet
              have h7s := hB7.size
              have h8s := hQ8.size
              have h9s := hQ9.size
              refine ⟨_, a9, k9, rfl, rfl, ?_, ?_, ?_, ?_⟩
              · show Below _ _ _
                repeat (first | exact hB9 | refine Below.drew ?_ | refine more_belowZ ?_ (Nat.le_refl _) _ | refine setBZ ?_ (by omega) _ | refine setB1Z ?_ (by omega) _)
              · show _ = _
                go_simp
              · show _ = _
                go_simp
              · first
                  | exact edAt_nil (own_past HO9.out ((Below.refl _ _).alloc (Nat.le_refl _) _))
                  | exact edAt_nil (ownsRow_setCell_below (ownsRow_setCell_below HO9.out (a := ⟨_, 0, none⟩) (by (try simp only [World.size_alloc]); (show _ < _); omega) _) (a := ⟨_, 1, none⟩) (by (try simp only [World.size_alloc]); (show _ < _); omega) _)
          case rest =>
            obtain ⟨Bx, ax, kx, rfl, hs9, HBX, HX0, HX1, HEX⟩ := hcut
            rw [hs9]
            clear hs9
            rename World => W15
            have HB15 := Hid.mk' (HSB.out _ HBX.out)
            have HF15 := Hid.mk' (HR12.out.later HBX.out)
            clear HST HGR1 HGR2
            have HXX : Hid (∀ W, Below W15.heap.size W15 W → (W.cell? ⟨Bx, 0, none⟩ = some (.int .i64 (0 : Int)) ∧ W.cell? ⟨Bx, 1, none⟩ = some (.slice ax 0 kx)) ∧ (W.cell? ⟨w6.heap.size, 0, none⟩ = some (.int .i64 (0 : Int)) ∧ W.cell? ⟨w6.heap.size, 1, none⟩ = some (.slice none 0 0))) := fun W hb => ⟨⟨by rw [hb.cell (cell_lt HX0.out)]; exact HX0.out, by rw [hb.cell (cell_lt HX1.out)]; exact HX1.out⟩, HY.out _ (HBX.out.trans (hb.mono HBX.out.size))⟩
            have HSG : Hid (∀ W, Below W15.heap.size W15 W → Calls Tryd.prog 18 #[.agg #[.int .i64 (0 : Int), .slice ax 0 kx], .agg #[.int .i64 (0 : Int), .slice none 0 0]] W fun e w' => e = .returned (.bool true) ∧ Below W.heap.size W w') := fun W hb => SameGraph_any (0 : Int) 0 _ _ _ _ W (HEX.out.later hb) (HF15.out.later hb) (by decide)
            have hcur0 : Below W15.heap.size W15 W15 := Below.refl _ _
            have hcur : Below W15.heap.size W15 W15.drew := hcur0.drew
            have HCD2 : Hid (∀ W, Below W15.heap.size W15 W → Calls Tryd.prog 10 #[EV, .int .i64 (EC : Nat)] W fun e w' => e = .returned (.bool true) ∧ Below W.heap.size W w') := fun W hb => HCD.out W (HB15.out.trans (hb.mono HB15.out.size))
            clear HX0 HX1 HY HCD
            go_wp2_with fail
            go_region_held3 (fun W => (W.cell? ⟨Bx, 0, none⟩ = some (.int .i64 (0 : Int)) ∧ W.cell? ⟨Bx, 1, none⟩ = some (.slice ax 0 kx)) ∧ (W.cell? ⟨w6.heap.size, 0, none⟩ = some (.int .i64 (0 : Int)) ∧ W.cell? ⟨w6.heap.size, 1, none⟩ = some (.slice none 0 0)))
              (first | exact HXX.out _ hcur | exact HXX.out _ hcur0 | exact HXX.out _ hB16 | exact HXX.out _ hB17 | exact HXX.out _ hB18)
              (first
                | (go_at_call 18; refine (HSG.out _ hB17).mono ?_; rintro e w18 ⟨rfl, hb18⟩; have hB18 := hB17.trans (hb18.mono hB17.size); clear hb18)
                | (go_at_call 19; refine (back_any _ _ _ _ _).mono ?_; rintro e w17 ⟨rfl, hb17⟩; have hB17 := hB16.trans (hb17.mono hB16.size); clear hb17)
                | (go_at_call 10; refine (HCD2.out _ hcur).mono ?_; rintro e w16 ⟨rfl, hb16⟩; have hB16 := hcur.trans (hb16.mono hcur.size); clear hb16))
            go_wp2_with fail
            go_ret
            exact ⟨rfl, HEND.out _ (HB15.out.trans (hB18.mono HB15.out.size))⟩
      · have hst : stE N1 m1 p1 q1 N2 m2 p2 q2 = grE N1 m1 p1 q1 := by
          rw [HSE.out, if_pos h1]
        have hne0 : stE N1 m1 p1 q1 N2 m2 p2 q2 ≠ 0 := by rw [hst]; exact h1
        obtain ⟨eN, eL⟩ := HNL.out hne0
        have hEV := errV_pos a hne0
        have hne : (((grE N1 m1 p1 q1 : Nat) : Int) == 0) = false := by simp; omega
        rw [eN, eL, hEV] at HST
        rw [hEV] at HCD
        rw [hst] at HST HCD
        generalize hEVV : Value.iface 118 (.pointer (some (a (grE N1 m1 p1 q1 - 1)))) = EV at *
        generalize grE N1 m1 p1 q1 = EC at *
        clear hst hne0 eN eL hEV hEVV HSE HNL h1 HGE2
        obtain ⟨W12, hW12⟩ : ∃ W, W = w5.alloc (.cells #[.int .i64 0, .slice none 0 0] 24) := ⟨_, rfl⟩
        have hb12 : Below w5.heap.size w5 W12 := by rw [hW12]; exact (Below.refl _ _).alloc (Nat.le_refl _) _
        have y0 : W12.cell? ⟨w5.heap.size, 0, none⟩ = some (.int .i64 0) := by rw [hW12]; go_simp
        have y1 : W12.cell? ⟨w5.heap.size, 1, none⟩ = some (.slice none 0 0) := by rw [hW12]; go_simp
        have HY : Hid (∀ W, Below W12.heap.size W12 W → W.cell? ⟨w5.heap.size, 0, none⟩ = some (.int .i64 (0 : Int)) ∧ W.cell? ⟨w5.heap.size, 1, none⟩ = some (.slice none 0 0)) := fun W hb => ⟨by rw [hb.cell (cell_lt y0)]; exact y0, by rw [hb.cell (cell_lt y1)]; exact y1⟩
        have HR12 : Hid (EdAt W12 (.slice none 0 0) 0 (fun _ => 0) (fun _ => 0)) := ⟨none, 0, rfl, Or.inl rfl⟩
        have HB12 : Hid (Below w1.heap.size w1 W12) := HB5.out.trans (hb12.mono HB5.out.size)
        have HW12 := Hid.mk' hW12
        clear hW12 hb12 y0 y1 HB5
        go_wp2_with fail
        rw [← HW12.out]
        clear HW12
        have hcur0 : Below W12.heap.size W12 W12 := Below.refl _ _
        have hcur : Below W12.heap.size W12 W12.drew := hcur0.drew
        have HSB : Hid (∀ W, Below W12.heap.size W12 W → Below w1.heap.size w1 W) := fun W hb => HB12.out.trans (hb.mono HB12.out.size)
        have HSS : Hid (∀ W, Below W12.heap.size W12 W → (W.cell? ⟨w.heap.size, 0, none⟩ = some (.int .i64 N1) ∧ W.cell? ⟨w.heap.size, 1, none⟩ = some (.slice ad1 m1 cap1)) ∧ (W.cell? ⟨w.heap.size + 1, 0, none⟩ = some (.int .i64 N2) ∧ W.cell? ⟨w.heap.size + 1, 1, none⟩ = some (.slice ad2 m2 cap2))) := fun W hb => HS.out _ (HSB.out _ hb)
        go_cut [8, 9] from 46 (fun s8 s9 wx => ∃ (Bx : Nat) (ax : Option Addr) (kx : Nat), s8 = .pointer (some ⟨Bx, 0, none⟩) ∧ s9 = EV ∧ Hid (Below W12.heap.size W12 wx) ∧ Hid (wx.cell? ⟨Bx, 0, none⟩ = some (.int .i64 (0 : Int))) ∧ Hid (wx.cell? ⟨Bx, 1, none⟩ = some (.slice ax 0 kx)) ∧ Hid (EdAt wx (.slice ax 0 kx) 0 (fun _ => 0) (fun _ => 0)))
        case first =>
          go_region_held3 (fun W => (W.cell? ⟨w.heap.size, 0, none⟩ = some (.int .i64 N1) ∧ W.cell? ⟨w.heap.size, 1, none⟩ = some (.slice ad1 m1 cap1)) ∧ (W.cell? ⟨w.heap.size + 1, 0, none⟩ = some (.int .i64 N2) ∧ W.cell? ⟨w.heap.size + 1, 1, none⟩ = some (.slice ad2 m2 cap2)))
            ((refine HSS.out _ ?_; repeat (first | exact hcur0 | exact hcur | exact hB9 | exact hB8 | exact hB7 | refine Below.drew ?_ | refine more_belowZ ?_ (Nat.le_refl _) _ | refine setBZ ?_ (by (try have h7s := hB7.size); (try have h8s := hB8.size); (try have h9s := hB9.size); omega) _ | refine setB1Z ?_ (by (try have h7s := hB7.size); (try have h8s := hB8.size); (try have h9s := hB9.size); omega) _)))
            (first
              | (go_at_call 24; refine (HST.out _ _ _ ?hcw ?hg1 ?hg2).mono ?_; (case hcw => refine HSB.out _ ?_; repeat (first | exact hB8 | refine more_belowZ ?_ (Nat.le_refl _) _)); (case hg1 => first | exact HV7.out.later hQ8 | exact HV7.out.later (more_belowZ hQ8 (Nat.le_refl _) _)); (case hg2 => first | exact HV8.out | exact HV8.out.later ((Below.refl _ _).alloc (Nat.le_refl _) _)); rintro e w9 ⟨u9, rfl, h9, hb9⟩; have hQ9 : Below w8.heap.size w8 w9 := Below.trans (by repeat (first | exact Below.refl _ _ | refine more_belowZ ?_ (Nat.le_refl _) _)) (hb9.mono (by first | exact Nat.le_refl _ | (simp; done) | (simp; omega))); (try (have hj1 := box2K ⟨⟨hk1a, hk1b⟩, ⟨hk1c, hk1d⟩⟩ (hQ8.trans (hQ9.mono hQ8.size)); obtain ⟨⟨hj1a, hj1b⟩, ⟨hj1c, hj1d⟩⟩ := hj1; have hj1l := cell_lt hj1a; (try simp only at hj1l))); (try (have hj2 := box2K ⟨⟨hk2a, hk2b⟩, ⟨hk2c, hk2d⟩⟩ hQ9; obtain ⟨⟨hj2a, hj2b⟩, ⟨hj2c, hj2d⟩⟩ := hj2; have hj2l := cell_lt hj2a; (try simp only at hj2l))); (try (have hk3 := box2A hb9; obtain ⟨⟨hk3a, hk3b⟩, ⟨hk3c, hk3d⟩⟩ := hk3; have hk3l := cell_lt hk3a; (try simp only at hk3l))); have hB9 : Below W12.heap.size W12 w9 := hB8.trans (hQ9.mono hB8.size); have HO9 := Hid.mk' h9; obtain ⟨a9, k9, rfl, _⟩ := row_shape2 h9; clear h9)
              | (go_at_call 12; (have hz7 := hB7; clear hz7); refine (HGR2.out _ ?hcw).mono ?_; (case hcw => refine HSB.out _ ?_; repeat (first | exact hB7 | refine more_belowZ ?_ (Nat.le_refl _) _)); rintro e w8 ⟨u8, rfl, h8, hb8⟩; have hQ8 : Below w7.heap.size w7 w8 := Below.trans (by repeat (first | exact Below.refl _ _ | refine more_belowZ ?_ (Nat.le_refl _) _)) (hb8.mono (by first | exact Nat.le_refl _ | (simp; done) | (simp; omega))); (try (have hk2 := box2A hb8; obtain ⟨⟨hk2a, hk2b⟩, ⟨hk2c, hk2d⟩⟩ := hk2; have hk2l := cell_lt hk2a; (try simp only at hk2l))); have hB8 : Below W12.heap.size W12 w8 := hB7.trans (hQ8.mono hB7.size); have HV8 := Hid.mk' h8; obtain ⟨a8, k8, rfl, -⟩ := h8)
              | (go_at_call 12; refine (HGR1.out _ ?hcw).mono ?_; (case hcw => refine HSB.out _ ?_; repeat (first | exact hcur0 | exact hcur | refine Below.drew ?_ | refine more_belowZ ?_ (Nat.le_refl _) _)); rintro e w7 ⟨u7, rfl, h7, hb7⟩; have hB7 : Below W12.heap.size W12 w7 := Below.trans (by repeat (first | exact hcur0 | exact hcur | refine Below.drew ?_ | refine more_belowZ ?_ (Nat.le_refl _) _)) (hb7.mono (by first | exact Nat.le_refl _ | (simp; done) | (simp; omega))); (try (have hk1 := box2A (undrew hb7); obtain ⟨⟨hk1a, hk1b⟩, ⟨hk1c, hk1d⟩⟩ := hk1; have hk1l := cell_lt hk1a; (try simp only at hk1l))); have HV7 := Hid.mk' h7; obtain ⟨a7, k7, rfl, -⟩ := h7))
          all_goals
            go_wp2_with fail
            go_meet
            have h7s := hB7.size
            have h8s := hQ8.size
            have h9s := hQ9.size
            refine ⟨_, a9, k9, rfl, rfl, ?_, ?_, ?_, ?_⟩
            · show Below _ _ _
              repeat (first | exact hB9 | refine Below.drew ?_ | refine more_belowZ ?_ (Nat.le_refl _) _ | refine setBZ ?_ (by omega) _ | refine setB1Z ?_ (by omega) _)
            · show _ = _
              go_simp
            · show _ = _
              go_simp
            · first
                | exact edAt_nil (own_past HO9.out ((Below.refl _ _).alloc (Nat.le_refl _) _))
                | exact edAt_nil (ownsRow_setCell_below (ownsRow_setCell_below HO9.out (a := ⟨_, 0, none⟩) (by (try simp only [World.size_alloc]); (show _ < _); omega) _) (a := ⟨_, 1, none⟩) (by (try simp only [World.size_alloc]); (show _ < _); omega) _)
        case rest =>
          obtain ⟨Bx, ax, kx, rfl, hs9, HBX, HX0, HX1, HEX⟩ := hcut
          rw [hs9]
          clear hs9
          rename World => W15
          have HB15 := Hid.mk' (HSB.out _ HBX.out)
          have HF15 := Hid.mk' (HR12.out.later HBX.out)
          clear HST HGR1 HGR2
          have HXX : Hid (∀ W, Below W15.heap.size W15 W → (W.cell? ⟨Bx, 0, none⟩ = some (.int .i64 (0 : Int)) ∧ W.cell? ⟨Bx, 1, none⟩ = some (.slice ax 0 kx)) ∧ (W.cell? ⟨w5.heap.size, 0, none⟩ = some (.int .i64 (0 : Int)) ∧ W.cell? ⟨w5.heap.size, 1, none⟩ = some (.slice none 0 0))) := fun W hb => ⟨⟨by rw [hb.cell (cell_lt HX0.out)]; exact HX0.out, by rw [hb.cell (cell_lt HX1.out)]; exact HX1.out⟩, HY.out _ (HBX.out.trans (hb.mono HBX.out.size))⟩
          have HSG : Hid (∀ W, Below W15.heap.size W15 W → Calls Tryd.prog 18 #[.agg #[.int .i64 (0 : Int), .slice ax 0 kx], .agg #[.int .i64 (0 : Int), .slice none 0 0]] W fun e w' => e = .returned (.bool true) ∧ Below W.heap.size W w') := fun W hb => SameGraph_any (0 : Int) 0 _ _ _ _ W (HEX.out.later hb) (HF15.out.later hb) (by decide)
          have hcur0 : Below W15.heap.size W15 W15 := Below.refl _ _
          have hcur : Below W15.heap.size W15 W15.drew := hcur0.drew
          have HCD2 : Hid (∀ W, Below W15.heap.size W15 W → Calls Tryd.prog 10 #[EV, .int .i64 (EC : Nat)] W fun e w' => e = .returned (.bool true) ∧ Below W.heap.size W w') := fun W hb => HCD.out W (HB15.out.trans (hb.mono HB15.out.size))
          clear HX0 HX1 HY HCD
          go_wp2_with fail
          go_region_held3 (fun W => (W.cell? ⟨Bx, 0, none⟩ = some (.int .i64 (0 : Int)) ∧ W.cell? ⟨Bx, 1, none⟩ = some (.slice ax 0 kx)) ∧ (W.cell? ⟨w5.heap.size, 0, none⟩ = some (.int .i64 (0 : Int)) ∧ W.cell? ⟨w5.heap.size, 1, none⟩ = some (.slice none 0 0)))
            (first | exact HXX.out _ hcur | exact HXX.out _ hcur0 | exact HXX.out _ hB16 | exact HXX.out _ hB17 | exact HXX.out _ hB18)
            (first
              | (go_at_call 18; refine (HSG.out _ hB17).mono ?_; rintro e w18 ⟨rfl, hb18⟩; have hB18 := hB17.trans (hb18.mono hB17.size); clear hb18)
              | (go_at_call 19; refine (back_any _ _ _ _ _).mono ?_; rintro e w17 ⟨rfl, hb17⟩; have hB17 := hB16.trans (hb17.mono hB16.size); clear hb17)
              | (go_at_call 10; refine (HCD2.out _ hcur).mono ?_; rintro e w16 ⟨rfl, hb16⟩; have hB16 := hcur.trans (hb16.mono hcur.size); clear hb16))
          go_wp2_with fail
          go_ret
          exact ⟨rfl, HEND.out _ (HB15.out.trans (hB18.mono HB15.out.size))⟩
    · rw [decide_eq_false h201] at HLJ
      go_wp2_with fail
      refine HLJ.out.mono ?_
      rintro e w4 ⟨rfl, hb4⟩
      have HB4 := Hid.mk' (HB3.out.trans (hb4.mono HB3.out.size))
      clear hb4 HLJ HB3 a0 a1 b0 b1
      go_wp2_with fail
      go_ret
      exact ⟨rfl, HEND.out _ HB4.out⟩
  · rw [decide_eq_false h200] at HLI
    go_wp2_with fail
    refine HLI.out.mono ?_
    rintro e w3 ⟨rfl, hb3⟩
    have HB3 := Hid.mk' (HB2.out.trans (hb3.mono HB2.out.size))
    clear hb3 HLI HB2 a0 a1 b0 b1
    go_wp2_with fail
    go_ret
    exact ⟨rfl, HEND.out _ HB3.out⟩
end Go.Proofs.YtojljmapdafmaaaDoor
