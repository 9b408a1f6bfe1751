/- ZeroShannon: the law. -/
import Derived.Test.YtojljmapdafmaaaDoorZeShE
namespace Go.Proofs.YtojljmapdafmaaaDoor
open Go.RowKit

theorem box2A {W w' : World} {x y : Value} {t : TypeId} (hb : Below (W.alloc (.cells #[x, y] t)).heap.size (W.alloc (.cells #[x, y] t)) w') : (w'.cell? ⟨W.heap.size, 0, none⟩ = some x ∧ w'.cell? ⟨W.heap.size, 1, none⟩ = some y) ∧ (w'.frozen? ⟨W.heap.size, 0, none⟩ = false ∧ w'.frozen? ⟨W.heap.size, 1, none⟩ = false) := by
  refine ⟨⟨?_, ?_⟩, ⟨?_, ?_⟩⟩
  · rw [hb.cell (p := ⟨W.heap.size, 0, none⟩) (by simp)]; go_simp
  · rw [hb.cell (p := ⟨W.heap.size, 1, none⟩) (by simp)]; go_simp
  · rw [hb.frozen (p := ⟨W.heap.size, 0, none⟩) (by simp)]; go_simp
  · rw [hb.frozen (p := ⟨W.heap.size, 1, none⟩) (by simp)]; go_simp
theorem box2K {W w' : World} {b : Nat} {x y : Value} (h : (W.cell? ⟨b, 0, none⟩ = some x ∧ W.cell? ⟨b, 1, none⟩ = some y) ∧ (W.frozen? ⟨b, 0, none⟩ = false ∧ W.frozen? ⟨b, 1, none⟩ = false)) (hb : Below W.heap.size W w') : (w'.cell? ⟨b, 0, none⟩ = some x ∧ w'.cell? ⟨b, 1, none⟩ = some y) ∧ (w'.frozen? ⟨b, 0, none⟩ = false ∧ w'.frozen? ⟨b, 1, none⟩ = false) :=
  ⟨⟨by rw [hb.cell (cell_lt h.1.1)]; exact h.1.1, by rw [hb.cell (cell_lt h.1.2)]; exact h.1.2⟩, ⟨by rw [hb.frozen (p := ⟨b, 0, none⟩) (cell_lt h.1.1)]; exact h.2.1, by rw [hb.frozen (p := ⟨b, 1, none⟩) (cell_lt h.1.2)]; exact h.2.2⟩⟩
theorem setB1Z {B b : Nat} {a w : World} (h : Below B a w) (hb : B ≤ b) (x : Value) : Below B a (w.setCell ⟨b, 1, none⟩ x) := h.setCell hb x
set_option maxRecDepth 100000 in
set_option maxHeartbeats 16000000 in
theorem ZeroShannon_all (a : Nat → Addr) (N1 : Int) (m1 : Nat) (e1 : Value) (p1 q1 : Nat → Int) (N2 : Int) (m2 : Nat) (e2 : Value) (p2 q2 : Nat → Int) (w : World) (hE : Errs w a) (hT : TzAt w) (hG1 : EdAt w e1 m1 p1 q1) (hm1 : m1 ≤ maxLen) (hG2 : EdAt w e2 m2 p2 q2) (hm2 : m2 ≤ maxLen) :
    Calls Tryd.prog 6 #[.agg #[.int .i64 N1, e1], .agg #[.int .i64 N2, e2]] w fun e w' => e = .returned (.bool true) ∧ Below w.heap.size w w' := by
  obtain ⟨ad1, cap1, rfl, -⟩ := id hG1
  obtain ⟨ad2, cap2, rfl, -⟩ := id hG2
  obtain ⟨w1, hw1⟩ : ∃ w1, w1 = (w.alloc (.cells #[.int .i64 N1, .slice ad1 m1 cap1] 24)).alloc (.cells #[.int .i64 N2, .slice ad2 m2 cap2] 24) := ⟨_, rfl⟩
  have hb1 : Below w.heap.size w w1 := by rw [hw1]; exact ((Below.refl _ _).alloc (Nat.le_refl _) _).alloc (by simp) _
  have a0 : w1.cell? ⟨w.heap.size, 0, none⟩ = some (.int .i64 N1) := by rw [hw1]; go_simp
  have a1 : w1.cell? ⟨w.heap.size, 1, none⟩ = some (.slice ad1 m1 cap1) := by rw [hw1]; go_simp
  have b0 : w1.cell? ⟨w.heap.size + 1, 0, none⟩ = some (.int .i64 N2) := by rw [hw1]; go_simp
  have b1 : w1.cell? ⟨w.heap.size + 1, 1, none⟩ = some (.slice ad2 m2 cap2) := by rw [hw1]; go_simp
  have HS : Hid (∀ W, Below w1.heap.size w1 W → (W.cell? ⟨w.heap.size, 0, none⟩ = some (.int .i64 N1) ∧ W.cell? ⟨w.heap.size, 1, none⟩ = some (.slice ad1 m1 cap1)) ∧ (W.cell? ⟨w.heap.size + 1, 0, none⟩ = some (.int .i64 N2) ∧ W.cell? ⟨w.heap.size + 1, 1, none⟩ = some (.slice ad2 m2 cap2))) := fun W hb => ⟨⟨by rw [hb.cell (cell_lt a0)]; exact a0, by rw [hb.cell (cell_lt a1)]; exact a1⟩, ⟨by rw [hb.cell (cell_lt b0)]; exact b0, by rw [hb.cell (cell_lt b1)]; exact b1⟩⟩
  have HT : Hid (∀ W, Below w1.heap.size w1 W → TzAt W) := fun W hb => (hT.below hb1).below hb
  have HE : Hid (∀ W, Below w1.heap.size w1 W → Errs W a) := fun W hb => (hE.below hb1).below hb
  have HG1 : Hid (∀ W, Below w1.heap.size w1 W → EdAt W (.slice ad1 m1 cap1) m1 p1 q1) := fun W hb => (hG1.later hb1).later hb
  have HG2 : Hid (∀ W, Below w1.heap.size w1 W → EdAt W (.slice ad2 m2 cap2) m2 p2 q2) := fun W hb => (hG2.later hb1).later hb
  have HW1 := Hid.mk' hw1
  have HEND : Hid (∀ W, Below w1.heap.size w1 W → Below w.heap.size w W) := fun W hb => hb1.trans (hb.mono hb1.size)
  have HPE := Hid.mk' (pentagon_any a w1 (hE.below hb1) (hT.below hb1))
  have HM1 := Hid.mk' hm1
  have HM2 := Hid.mk' hm2
  clear hE hT hG1 hG2 hb1 hw1 a0 a1 b0 b1 hm1 hm2
  go_enter Tryd.func6, Tryd.ntmps6
  go_upto_region 1 with fail
  rw [← HW1.out]
  go_wp2_with fail
  refine HPE.out.mono ?_
  rintro e w2 ⟨rfl, hb2⟩
  have HB2 := Hid.mk' hb2
  obtain ⟨⟨a0, a1⟩, ⟨b0, b1⟩⟩ := HS.out _ hb2
  clear hb2 HPE
  have HLI := Hid.mk' (little_any N1 ad1 m1 cap1 HM1.out w2)
  by_cases h200 : m1 ≤ 200
  · rw [decide_eq_true h200] at HLI
    go_wp2_with fail
    refine HLI.out.mono ?_
    rintro e w3 ⟨rfl, hb3⟩
    have HB3 := Hid.mk' (HB2.out.trans (hb3.mono HB2.out.size))
    clear hb3 HLI HB2 a0 a1 b0 b1
    obtain ⟨⟨a0, a1⟩, ⟨b0, b1⟩⟩ := HS.out _ HB3.out
    have HLJ := Hid.mk' (little_any N2 ad2 m2 cap2 HM2.out w3)
    by_cases h201 : m2 ≤ 200
    · rw [decide_eq_true h201] at HLJ
      go_wp2_with fail
      refine HLJ.out.mono ?_
      rintro e w4 ⟨rfl, hb4⟩
      have HB4 := Hid.mk' (HB3.out.trans (hb4.mono HB3.out.size))
      clear hb4 HLJ HB3 a0 a1 b0 b1
      obtain ⟨⟨a0, a1⟩, ⟨b0, b1⟩⟩ := HS.out _ HB4.out
      have hk1 : m1 ≤ 1000 := by omega
      have hk2 : m2 ≤ 1000 := by omega
      have HGR1 : Hid (∀ W, Below w1.heap.size w1 W → Calls Tryd.prog 12 #[.agg #[.int .i64 N1, .slice ad1 m1 cap1]] W fun e w' => ∃ v, e = .returned (.agg #[.int .i64 N1, v]) ∧ EdAt w' v m1 p1 q1 ∧ Below W.heap.size W w') := fun W hb => graph_any N1 m1 _ p1 q1 W (HG1.out _ hb) hk1
      have HGR2 : Hid (∀ W, Below w1.heap.size w1 W → Calls Tryd.prog 12 #[.agg #[.int .i64 N2, .slice ad2 m2 cap2]] W fun e w' => ∃ v, e = .returned (.agg #[.int .i64 N2, v]) ∧ EdAt w' v m2 p2 q2 ∧ Below W.heap.size W w') := fun W hb => graph_any N2 m2 _ p2 q2 W (HG2.out _ hb) hk2
      have HST : Hid (∀ (W : World) (u v : Value), Below w1.heap.size w1 W → EdAt W u m1 p1 q1 → EdAt W v m2 p2 q2 → Calls Tryd.prog 24 #[.agg #[.int .i64 N1, u], .agg #[.int .i64 N2, v]] W fun e w' => ∃ v, e = .returned (.tuple #[.agg #[.int .i64 (stN N1 m1 p1 q1 N2 m2 p2 q2 : Nat), v], errV a (stE N1 m1 p1 q1 N2 m2 p2 q2)]) ∧ w'.ownsRow W.heap.size 51 2 v (stL N1 m1 p1 q1 N2 m2 p2 q2).length (pairCells (stL N1 m1 p1 q1 N2 m2 p2 q2)) ∧ Below W.heap.size W w') := fun W u v hb hu hv => Strong_any a N1 m1 u p1 q1 N2 m2 v p2 q2 W (HE.out _ hb) hu hv hk1 hk2
      have HA1 : Hid (∀ (W : World) (u : Value), Below w1.heap.size w1 W → EdAt W u m1 p1 q1 → Calls Tryd.prog 21 #[.agg #[.int .i64 N1, u]] W fun e w' => ∃ v, e = .returned (.tuple #[v, errV a (grE N1 m1 p1 q1)]) ∧ w'.ownsRow W.heap.size 3 1 v (alL N1 m1 p1 q1).length (digCells (alL N1 m1 p1 q1)) ∧ Below W.heap.size W w') := fun W u hb hu => Alone_any a N1 m1 u p1 q1 W (HE.out _ hb) (HT.out _ hb) hu hk1
      have HA2 : Hid (∀ (W : World) (u : Value), Below w1.heap.size w1 W → EdAt W u m2 p2 q2 → Calls Tryd.prog 21 #[.agg #[.int .i64 N2, u]] W fun e w' => ∃ v, e = .returned (.tuple #[v, errV a (grE N2 m2 p2 q2)]) ∧ w'.ownsRow W.heap.size 3 1 v (alL N2 m2 p2 q2).length (digCells (alL N2 m2 p2 q2)) ∧ Below W.heap.size W w') := fun W u hb hu => Alone_any a N2 m2 u p2 q2 W (HE.out _ hb) (HT.out _ hb) hu hk2
      have HA3 : Hid (∀ (W : World) (u : Value) (n l : Nat) (p q : Nat → Int), Below w1.heap.size w1 W → EdAt W u l p q → l ≤ 1000 → Calls Tryd.prog 21 #[.agg #[.int .i64 (n : Nat), u]] W fun e w' => ∃ v, e = .returned (.tuple #[v, errV a (grE n l p q)]) ∧ w'.ownsRow W.heap.size 3 1 v (alL n l p q).length (digCells (alL n l p q)) ∧ Below W.heap.size W w') := fun W u n l p q hb hu hl => Alone_any a n l u p q W (HE.out _ hb) (HT.out _ hb) hu hl
      have HZ0 : Hid (stE N1 m1 p1 q1 N2 m2 p2 q2 = 0 → ∃ n1 n2 : Nat, N1 = n1 ∧ N2 = n2 ∧ grE N1 m1 p1 q1 = 0 ∧ grE N2 m2 p2 q2 = 0 ∧ n1 * n2 ≤ 16 ∧ stN N1 m1 p1 q1 N2 m2 p2 q2 = n1 * n2 ∧ stL N1 m1 p1 q1 N2 m2 p2 q2 = edTo (stJ m1 p1 q1 n2 m2 p2 q2) (n1 * n2) (n1 * n2)) := fun h => by
        obtain ⟨g1, g2, g3⟩ := stE_zero h
        have b1 := grE_zero g1
        have b2 := grE_zero g2
        have eN : stN N1 m1 p1 q1 N2 m2 p2 q2 = N1.toNat * N2.toNat := if_pos h
        have eL : stL N1 m1 p1 q1 N2 m2 p2 q2 = edTo (stJ m1 p1 q1 N2 m2 p2 q2) (N1.toNat * N2.toNat) (N1.toNat * N2.toNat) := if_pos h
        obtain ⟨n1, rfl⟩ : ∃ n : Nat, N1 = n := ⟨N1.toNat, by omega⟩
        obtain ⟨n2, rfl⟩ : ∃ n : Nat, N2 = n := ⟨N2.toNat, by omega⟩
        have e3 : (n1 : Int) * (n2 : Int) = ((n1 * n2 : Nat) : Int) := by simp
        rw [e3] at g3
        exact ⟨n1, n2, rfl, rfl, g1, g2, by omega, eN, eL⟩
      obtain ⟨EV, hEV⟩ : ∃ EV, EV = errV a (stE N1 m1 p1 q1 N2 m2 p2 q2) := ⟨_, rfl⟩
      rw [← hEV] at HST
      have HEV := Hid.mk' hEV
      clear hEV
      obtain ⟨SN, hSN⟩ : ∃ SN, SN = stN N1 m1 p1 q1 N2 m2 p2 q2 := ⟨_, rfl⟩
      obtain ⟨E, hLL⟩ : ∃ E, E = stL N1 m1 p1 q1 N2 m2 p2 q2 := ⟨_, rfl⟩
      rw [← hSN, ← hLL] at HST
      have HSN := Hid.mk' hSN
      have HEE := Hid.mk' hLL
      clear hSN hLL
      clear a0 a1 b0 b1
      go_wp2_with fail
      have hcur0 : Below w4.heap.size w4 w4 := Below.refl _ _
      have hcur : Below w4.heap.size w4 w4.drew := hcur0.drew
      have HSB : Hid (∀ W, Below w4.heap.size w4 W → Below w1.heap.size w1 W) := fun W hb => HB4.out.trans (hb.mono HB4.out.size)
      have HSS : Hid (∀ W, Below w4.heap.size w4 W → (W.cell? ⟨w.heap.size, 0, none⟩ = some (.int .i64 N1) ∧ W.cell? ⟨w.heap.size, 1, none⟩ = some (.slice ad1 m1 cap1)) ∧ (W.cell? ⟨w.heap.size + 1, 0, none⟩ = some (.int .i64 N2) ∧ W.cell? ⟨w.heap.size + 1, 1, none⟩ = some (.slice ad2 m2 cap2))) := fun W hb => HS.out _ (HSB.out _ hb)
      go_cut [6, 7] from 28 (fun s8 s9 wx => ∃ (Bx : Nat) (ax : Option Addr) (kx : Nat), s8 = .pointer (some ⟨Bx, 0, none⟩) ∧ s9 = EV ∧ Hid (Below w4.heap.size w4 wx) ∧ Hid (wx.cell? ⟨Bx, 0, none⟩ = some (.int .i64 (SN : Nat))) ∧ Hid (wx.cell? ⟨Bx, 1, none⟩ = some (.slice ax E.length kx)) ∧ Hid (EdAt wx (.slice ax E.length kx) E.length (pE E) (qE E)))
      case first =>
        go_region_held3 (fun W => (W.cell? ⟨w.heap.size, 0, none⟩ = some (.int .i64 N1) ∧ W.cell? ⟨w.heap.size, 1, none⟩ = some (.slice ad1 m1 cap1)) ∧ (W.cell? ⟨w.heap.size + 1, 0, none⟩ = some (.int .i64 N2) ∧ W.cell? ⟨w.heap.size + 1, 1, none⟩ = some (.slice ad2 m2 cap2)))
          ((refine HSS.out _ ?_; repeat (first | exact hcur0 | exact hcur | exact hB9 | exact hB8 | exact hB7 | refine Below.drew ?_ | refine more_belowZ ?_ (Nat.le_refl _) _ | refine setBZ ?_ (by (try have h7s := hB7.size); (try have h8s := hB8.size); (try have h9s := hB9.size); omega) _ | refine setB1Z ?_ (by (try have h7s := hB7.size); (try have h8s := hB8.size); (try have h9s := hB9.size); omega) _)))
          (first
            | (go_at_call 24; refine (HST.out _ _ _ ?hcw ?hg1 ?hg2).mono ?_; (case hcw => refine HSB.out _ ?_; repeat (first | exact hB8 | refine more_belowZ ?_ (Nat.le_refl _) _)); (case hg1 => first | exact HV7.out.later hQ8 | exact HV7.out.later (more_belowZ hQ8 (Nat.le_refl _) _)); (case hg2 => first | exact HV8.out | exact HV8.out.later ((Below.refl _ _).alloc (Nat.le_refl _) _)); rintro e w9 ⟨u9, rfl, h9, hb9⟩; have hQ9 : Below w8.heap.size w8 w9 := Below.trans (by repeat (first | exact Below.refl _ _ | refine more_belowZ ?_ (Nat.le_refl _) _)) (hb9.mono (by first | exact Nat.le_refl _ | (simp; done) | (simp; omega))); (try (have hj1 := box2K ⟨⟨hk1a, hk1b⟩, ⟨hk1c, hk1d⟩⟩ (hQ8.trans (hQ9.mono hQ8.size)); obtain ⟨⟨hj1a, hj1b⟩, ⟨hj1c, hj1d⟩⟩ := hj1; have hj1l := cell_lt hj1a; (try simp only at hj1l))); (try (have hj2 := box2K ⟨⟨hk2a, hk2b⟩, ⟨hk2c, hk2d⟩⟩ hQ9; obtain ⟨⟨hj2a, hj2b⟩, ⟨hj2c, hj2d⟩⟩ := hj2; have hj2l := cell_lt hj2a; (try simp only at hj2l))); (try (have hk3 := box2A hb9; obtain ⟨⟨hk3a, hk3b⟩, ⟨hk3c, hk3d⟩⟩ := hk3; have hk3l := cell_lt hk3a; (try simp only at hk3l))); have hB9 : Below w4.heap.size w4 w9 := hB8.trans (hQ9.mono hB8.size); have HO9 := Hid.mk' h9; obtain ⟨a9, k9, rfl, _⟩ := row_shape2 h9; clear h9)
            | (go_at_call 12; (have hz7 := hB7; clear hz7); refine (HGR2.out _ ?hcw).mono ?_; (case hcw => refine HSB.out _ ?_; repeat (first | exact hB7 | refine more_belowZ ?_ (Nat.le_refl _) _)); rintro e w8 ⟨u8, rfl, h8, hb8⟩; have hQ8 : Below w7.heap.size w7 w8 := Below.trans (by repeat (first | exact Below.refl _ _ | refine more_belowZ ?_ (Nat.le_refl _) _)) (hb8.mono (by first | exact Nat.le_refl _ | (simp; done) | (simp; omega))); (try (have hk2 := box2A hb8; obtain ⟨⟨hk2a, hk2b⟩, ⟨hk2c, hk2d⟩⟩ := hk2; have hk2l := cell_lt hk2a; (try simp only at hk2l))); have hB8 : Below w4.heap.size w4 w8 := hB7.trans (hQ8.mono hB7.size); have HV8 := Hid.mk' h8; obtain ⟨a8, k8, rfl, -⟩ := h8)
            | (go_at_call 12; refine (HGR1.out _ ?hcw).mono ?_; (case hcw => refine HSB.out _ ?_; repeat (first | exact hcur0 | exact hcur | refine Below.drew ?_ | refine more_belowZ ?_ (Nat.le_refl _) _)); rintro e w7 ⟨u7, rfl, h7, hb7⟩; have hB7 : Below w4.heap.size w4 w7 := Below.trans (by repeat (first | exact hcur0 | exact hcur | refine Below.drew ?_ | refine more_belowZ ?_ (Nat.le_refl _) _)) (hb7.mono (by first | exact Nat.le_refl _ | (simp; done) | (simp; omega))); (try (have hk1 := box2A (undrew hb7); obtain ⟨⟨hk1a, hk1b⟩, ⟨hk1c, hk1d⟩⟩ := hk1; have hk1l := cell_lt hk1a; (try simp only at hk1l))); have HV7 := Hid.mk' h7; obtain ⟨a7, k7, rfl, -⟩ := h7))
        all_goals
          go_wp2_with fail
          go_meet
          have h7s := hB7.size
          have h8s := hQ8.size
          have h9s := hQ9.size
          refine ⟨_, a9, k9, rfl, rfl, ?_, ?_, ?_, ?_⟩
          · show Below _ _ _
            repeat (first | exact hB9 | refine Below.drew ?_ | refine more_belowZ ?_ (Nat.le_refl _) _ | refine setBZ ?_ (by omega) _ | refine setB1Z ?_ (by omega) _)
          · show _ = _
            go_simp
          · show _ = _
            go_simp
          · first
              | exact edAt_row (own_past HO9.out ((Below.refl _ _).alloc (Nat.le_refl _) _))
              | exact edAt_row (ownsRow_setCell_below (ownsRow_setCell_below HO9.out (a := ⟨_, 0, none⟩) (by (try simp only [World.size_alloc]); (show _ < _); omega) _) (a := ⟨_, 1, none⟩) (by (try simp only [World.size_alloc]); (show _ < _); omega) _)
      case rest =>
        obtain ⟨Bx, ax, kx, rfl, hs9, HBX, HX0, HX1, HEX⟩ := hcut
        rw [hs9]
        clear hs9
        rename World => W15
        have HB15 := Hid.mk' (HSB.out _ HBX.out)
        clear HST
        by_cases h0 : stE N1 m1 p1 q1 N2 m2 p2 q2 = 0
        · obtain ⟨n1, n2, rfl, rfl, g1, g2, g3, eN, eL⟩ := HZ0.out h0
          have eEV : EV = .nilIface := by rw [HEV.out, h0]; rfl
          have eSN : SN = n1 * n2 := HSN.out.trans eN
          have eEE : E = edTo (stJ m1 p1 q1 n2 m2 p2 q2) (n1 * n2) (n1 * n2) := HEE.out.trans eL
          have HSH := Hid.mk' (shannon_al g1 g2 g3)
          have hgE : grE ((n1 * n2 : Nat) : Int) E.length (pE E) (qE E) = 0 := by rw [eEE]; exact grE_edTo _ _ g3
          rw [← eEE] at HSH
          have hle : E.length ≤ 1000 := by
            have h5 := edTo_length (stJ m1 p1 q1 n2 m2 p2 q2) (n1 * n2) (n1 * n2)
            rw [← eEE] at h5
            have h6 : n1 * n2 * (n1 * n2) ≤ 16 * 16 := Nat.mul_le_mul g3 g3
            omega
          have HN16 : Hid (n1 ≤ 16 ∧ n2 ≤ 16) := by have b1 := grE_zero g1; have b2 := grE_zero g2; exact ⟨by omega, by omega⟩
          have HAZ : Hid (∀ W, Below W15.heap.size W15 W → Calls Tryd.prog 21 #[.agg #[.int .i64 ((n1 * n2 : Nat) : Int), .slice ax E.length kx]] W fun e w' => ∃ v, e = .returned (.tuple #[v, .nilIface]) ∧ w'.ownsRow W.heap.size 3 1 v (alL ((n1 * n2 : Nat) : Int) E.length (pE E) (qE E)).length (digCells (alL ((n1 * n2 : Nat) : Int) E.length (pE E) (qE E))) ∧ Below W.heap.size W w') := fun W hb => by
            have h7 := HA3.out W (.slice ax E.length kx) (n1 * n2) E.length (pE E) (qE E) (HB15.out.trans (hb.mono HB15.out.size)) (HEX.out.later hb) hle
            rw [hgE, errV_zero] at h7
            exact h7
          rw [g1, errV_zero] at HA1
          rw [g2, errV_zero] at HA2
          rw [eSN] at HX0
          rw [eEV]
          have hX16 : (alL (n1 : Int) m1 p1 q1).length ≤ 16 := by
            rw [alL, if_pos g1]
            exact Nat.le_trans (asc_length (alone_best _ _).1.1) (by have := HN16.out; simp; omega)
          have hY16 : (alL (n2 : Int) m2 p2 q2).length ≤ 16 := by
            rw [alL, if_pos g2]
            exact Nat.le_trans (asc_length (alone_best _ _).1.1) (by have := HN16.out; simp; omega)
          have hZ16 : (alL ((n1 * n2 : Nat) : Int) E.length (pE E) (qE E)).length ≤ 16 := by
            rw [alL, if_pos hgE]
            exact Nat.le_trans (asc_length (alone_best _ _).1.1) (by rw [Int.toNat_natCast]; exact g3)
          have HXC : Hid (∀ W, Below W15.heap.size W15 W → W.cell? ⟨Bx, 0, none⟩ = some (.int .i64 ((n1 * n2 : Nat) : Int)) ∧ W.cell? ⟨Bx, 1, none⟩ = some (.slice ax E.length kx)) := fun W hb => ⟨by rw [hb.cell (cell_lt HX0.out)]; exact HX0.out, by rw [hb.cell (cell_lt HX1.out)]; exact HX1.out⟩
          clear h0 eN eL eEV eSN eEE hgE hle g1 g2 HA3 HZ0 HEV HSN HEE HX0 HX1
          generalize alL (n1 : Int) m1 p1 q1 = LA at *
          generalize alL (n2 : Int) m2 p2 q2 = LB at *
          generalize alL ((n1 * n2 : Nat) : Int) E.length (pE E) (qE E) = LZ at *
          generalize n1 * n2 = M at *
          obtain ⟨⟨a0, a1⟩, ⟨b0, b1⟩⟩ := HS.out _ HB15.out
          go_wp2_with fail
          refine (HGR1.out _ HB15.out).mono ?_
          rintro e w16 ⟨u16, rfl, h16, hb16⟩
          have HB16 := Hid.mk' (HB15.out.trans (hb16.mono HB15.out.size))
          have HD16 := Hid.mk' hb16
          have HC16 := Hid.mk' (HA1.out _ _ HB16.out h16)
          obtain ⟨a16, k16, rfl, -⟩ := h16
          clear hb16 a0 a1 b0 b1 HA1 HGR1
          go_wp2_with fail
          refine HC16.out.mono ?_
          rintro e w17 ⟨u17, rfl, h17, hb17⟩
          have HB17 := Hid.mk' (HB16.out.trans (hb17.mono HB16.out.size))
          have HD17 := Hid.mk' (HD16.out.trans (hb17.mono HD16.out.size))
          obtain ⟨a17, k17, rfl, _⟩ := row_shape h17
          clear h17 hb17 HC16 HB16 HD16
          obtain ⟨⟨a0, a1⟩, ⟨b0, b1⟩⟩ := HS.out _ HB17.out
          go_wp2_with fail
          refine (HGR2.out _ HB17.out).mono ?_
          rintro e w18 ⟨u18, rfl, h18, hb18⟩
          have HB18 := Hid.mk' (HB17.out.trans (hb18.mono HB17.out.size))
          have HD18 := Hid.mk' (HD17.out.trans (hb18.mono HD17.out.size))
          have HC18 := Hid.mk' (HA2.out _ _ HB18.out h18)
          obtain ⟨a18, k18, rfl, -⟩ := h18
          clear hb18 a0 a1 b0 b1 HA2 HGR2 HB17 HD17
          go_wp2_with fail
          refine HC18.out.mono ?_
          rintro e w19 ⟨u19, rfl, h19, hb19⟩
          have HB19 := Hid.mk' (HB18.out.trans (hb19.mono HB18.out.size))
          have HD19 := Hid.mk' (HD18.out.trans (hb19.mono HD18.out.size))
          obtain ⟨a19, k19, rfl, _⟩ := row_shape h19
          clear h19 hb19 HC18 HB18 HD18
          obtain ⟨x0, x1⟩ := HXC.out _ HD19.out
          go_wp2_with fail
          refine (HAZ.out _ HD19.out).mono ?_
          rintro e w20 ⟨u20, rfl, h20, hb20⟩
          have HB20 := Hid.mk' (HB19.out.trans (hb20.mono HB19.out.size))
          obtain ⟨a20, k20, rfl, _⟩ := row_shape h20
          clear h20 hb20 x0 x1 HAZ HXC HB19 HD19
          obtain ⟨⟨a0, a1⟩, ⟨b0, b1⟩⟩ := HS.out _ HB20.out
          have s1 := HSH.out.1
          have s2 := HSH.out.2.1
          have s3 := HSH.out.2.2
          obtain ⟨n16a, n16b⟩ := HN16.out
          have m1' : ((LA.length : Nat) : Int) * ((LB.length : Nat) : Int) = ((LA.length * LB.length : Nat) : Int) := by simp
          have m2' : (n1 : Int) * ((LB.length : Nat) : Int) = ((n1 * LB.length : Nat) : Int) := by simp
          have m3' : ((LA.length : Nat) : Int) * (n2 : Int) = ((LA.length * n2 : Nat) : Int) := by simp
          have t1 : LA.length * LB.length ≤ 256 := Nat.mul_le_mul hX16 hY16
          have t2 : n1 * LB.length ≤ 256 := Nat.mul_le_mul n16a hY16
          have t3 : LA.length * n2 ≤ 256 := Nat.mul_le_mul hX16 n16b
          generalize LA.length * LB.length = P1 at *
          generalize n1 * LB.length = P2 at *
          generalize LA.length * n2 = P3 at *
          generalize LZ.length = Z at *
          generalize LA.length = X at *
          generalize LB.length = Y at *
          have d1 : decide (((P1 : Nat) : Int) ≤ (Z : Int)) = true := decide_eq_true (by omega)
          have d2 : decide ((Z : Int) ≤ ((P2 : Nat) : Int)) = true := decide_eq_true (by omega)
          have d3 : decide ((Z : Int) ≤ ((P3 : Nat) : Int)) = true := decide_eq_true (by omega)
          have c1 : ((P1 : Nat) : Int) ≤ 256 := by omega
          have c2 : ((P2 : Nat) : Int) ≤ 256 := by omega
          have c3 : ((P3 : Nat) : Int) ≤ 256 := by omega
          clear HSH
          go_wp2_with fail
          go_ret
          exact ⟨rfl, HEND.out _ HB20.out⟩
        · have eEV := HEV.out.trans (errV_pos a h0)
          rw [eEV]
          clear h0
          generalize a (stE N1 m1 p1 q1 N2 m2 p2 q2 - 1) = A at *
          clear eEV HEV HZ0 HSN HEE
          go_wp2_with fail
          go_ret
          exact ⟨rfl, HEND.out _ HB15.out⟩
    · rw [decide_eq_false h201] at HLJ
      go_wp2_with fail
      refine HLJ.out.mono ?_
      rintro e w4 ⟨rfl, hb4⟩
      have HB4 := Hid.mk' (HB3.out.trans (hb4.mono HB3.out.size))
      clear hb4 HLJ HB3 a0 a1 b0 b1
      go_wp2_with fail
      go_ret
      exact ⟨rfl, HEND.out _ HB4.out⟩
  · rw [decide_eq_false h200] at HLI
    go_wp2_with fail
    refine HLI.out.mono ?_
    rintro e w3 ⟨rfl, hb3⟩
    have HB3 := Hid.mk' (HB2.out.trans (hb3.mono HB2.out.size))
    clear hb3 HLI HB2 a0 a1 b0 b1
    go_wp2_with fail
    go_ret
    exact ⟨rfl, HEND.out _ HB3.out⟩
end Go.Proofs.YtojljmapdafmaaaDoor
