/- zero.Strong with its errors. -/
import Derived.Test.YtojljmapdafmaaaDoorZeB2
import Derived.Test.YtojljmapdafmaaaDoorZeAl3
namespace Go.Proofs.YtojljmapdafmaaaDoor
open Go.RowKit

/-- The number of Strong's error. -/
def stE (N1 : Int) (m1 : Nat) (p1 q1 : Nat → Int) (N2 : Int) (m2 : Nat) (p2 q2 : Nat → Int) : Nat :=
  if grE N1 m1 p1 q1 ≠ 0 then grE N1 m1 p1 q1 else if grE N2 m2 p2 q2 ≠ 0 then grE N2 m2 p2 q2 else if 16 < N1 * N2 then 2 else 0
/-- Are two pairs joined (or the same) at both places? -/
def stJ (m1 : Nat) (p1 q1 : Nat → Int) (N2 : Int) (m2 : Nat) (p2 q2 : Nat → Int) : Nat → Nat → Bool := bothJ (nrB (nP p1) (nP q1) m1) (nrB (nP p2) (nP q2) m2) N2.toNat
def stN (N1 : Int) (m1 : Nat) (p1 q1 : Nat → Int) (N2 : Int) (m2 : Nat) (p2 q2 : Nat → Int) : Nat := if stE N1 m1 p1 q1 N2 m2 p2 q2 = 0 then N1.toNat * N2.toNat else 0
def stL (N1 : Int) (m1 : Nat) (p1 q1 : Nat → Int) (N2 : Int) (m2 : Nat) (p2 q2 : Nat → Int) : List (Nat × Nat) := if stE N1 m1 p1 q1 N2 m2 p2 q2 = 0 then edTo (stJ m1 p1 q1 N2 m2 p2 q2) (N1.toNat * N2.toNat) (N1.toNat * N2.toNat) else []
theorem stE_zero {N1 : Int} {m1 : Nat} {p1 q1 : Nat → Int} {N2 : Int} {m2 : Nat} {p2 q2 : Nat → Int} (h : stE N1 m1 p1 q1 N2 m2 p2 q2 = 0) : grE N1 m1 p1 q1 = 0 ∧ grE N2 m2 p2 q2 = 0 ∧ N1 * N2 ≤ 16 := by
  unfold stE at h
  by_cases h1 : grE N1 m1 p1 q1 = 0
  · rw [if_neg (by simp [h1])] at h
    by_cases h2 : grE N2 m2 p2 q2 = 0
    · rw [if_neg (by simp [h2])] at h
      by_cases h3 : 16 < N1 * N2
      · rw [if_pos h3] at h; cases h
      · exact ⟨h1, h2, by omega⟩
    · rw [if_pos h2] at h; exact absurd h h2
  · rw [if_pos h1] at h; exact absurd h h1

set_option maxRecDepth 100000 in
set_option maxHeartbeats 8000000 in
theorem Strong_any (a : Nat → Addr) (N1 : Int) (m1 : Nat) (e1 : Value) (p1 q1 : Nat → Int) (N2 : Int) (m2 : Nat) (e2 : Value) (p2 q2 : Nat → Int) (w : World) (hE : Errs w a) (hG1 : EdAt w e1 m1 p1 q1) (hG2 : EdAt w e2 m2 p2 q2) (hm1 : m1 ≤ 1000) (hm2 : m2 ≤ 1000) :
    Calls Tryd.prog 24 #[.agg #[.int .i64 N1, e1], .agg #[.int .i64 N2, e2]] w fun e w' => ∃ v, e = .returned (.tuple #[.agg #[.int .i64 (stN N1 m1 p1 q1 N2 m2 p2 q2 : Nat), v], errV a (stE N1 m1 p1 q1 N2 m2 p2 q2)]) ∧ w'.ownsRow w.heap.size 51 2 v (stL N1 m1 p1 q1 N2 m2 p2 q2).length (pairCells (stL N1 m1 p1 q1 N2 m2 p2 q2)) ∧ Below w.heap.size w w' := by
  obtain ⟨ad1, cap1, rfl, -⟩ := id hG1
  obtain ⟨ad2, cap2, rfl, -⟩ := id hG2
  obtain ⟨W0, hW0⟩ : ∃ W0, W0 = ((w.alloc (.cells #[.int .i64 N1, .slice ad1 m1 cap1] 33)).alloc (.cells #[.int .i64 N2, .slice ad2 m2 cap2] 33)).alloc (.cells #[.int .i64 0, .slice none 0 0] 33) := ⟨_, rfl⟩
  have hb0 : Below w.heap.size w W0 := by rw [hW0]; exact (((Below.refl _ _).alloc (Nat.le_refl _) _).alloc (by simp) _).alloc (by simp; omega) _
  have a0 : W0.cell? ⟨w.heap.size, 0, none⟩ = some (.int .i64 N1) := by rw [hW0]; go_simp
  have a1 : W0.cell? ⟨w.heap.size, 1, none⟩ = some (.slice ad1 m1 cap1) := by rw [hW0]; go_simp
  have b0 : W0.cell? ⟨w.heap.size + 1, 0, none⟩ = some (.int .i64 N2) := by rw [hW0]; go_simp
  have b1 : W0.cell? ⟨w.heap.size + 1, 1, none⟩ = some (.slice ad2 m2 cap2) := by rw [hW0]; go_simp
  have r0 : W0.cell? ⟨w.heap.size + 1 + 1, 0, none⟩ = some (.int .i64 0) := by rw [hW0]; go_simp
  have r1 : W0.cell? ⟨w.heap.size + 1 + 1, 1, none⟩ = some (.slice none 0 0) := by rw [hW0]; go_simp
  have f0 : W0.frozen? ⟨w.heap.size + 1 + 1, 0, none⟩ = false := by rw [hW0]; go_simp
  have f1 : W0.frozen? ⟨w.heap.size + 1 + 1, 1, none⟩ = false := by rw [hW0]; go_simp
  have HS : Hid (∀ W, Below W0.heap.size W0 W → (W.cell? ⟨w.heap.size, 0, none⟩ = some (.int .i64 N1) ∧ W.cell? ⟨w.heap.size, 1, none⟩ = some (.slice ad1 m1 cap1)) ∧ (W.cell? ⟨w.heap.size + 1, 0, none⟩ = some (.int .i64 N2) ∧ W.cell? ⟨w.heap.size + 1, 1, none⟩ = some (.slice ad2 m2 cap2))) := fun W hb => ⟨⟨by rw [hb.cell (cell_lt a0)]; exact a0, by rw [hb.cell (cell_lt a1)]; exact a1⟩, ⟨by rw [hb.cell (cell_lt b0)]; exact b0, by rw [hb.cell (cell_lt b1)]; exact b1⟩⟩
  have HR0 : Hid (∀ W, Below W0.heap.size W0 W → W.cell? ⟨w.heap.size + 1 + 1, 0, none⟩ = some (.int .i64 0) ∧ W.cell? ⟨w.heap.size + 1 + 1, 1, none⟩ = some (.slice none 0 0) ∧ W.frozen? ⟨w.heap.size + 1 + 1, 0, none⟩ = false ∧ W.frozen? ⟨w.heap.size + 1 + 1, 1, none⟩ = false) := fun W hb => ⟨by rw [hb.cell (cell_lt r0)]; exact r0, by rw [hb.cell (cell_lt r1)]; exact r1, by rw [hb.frozen (p := ⟨w.heap.size + 1 + 1, 0, none⟩) (cell_lt r0)]; exact f0, by rw [hb.frozen (p := ⟨w.heap.size + 1 + 1, 1, none⟩) (cell_lt r1)]; exact f1⟩
  have HV1 := Hid.mk' (ZValid_any a N1 m1 _ p1 q1 W0 (hE.below hb0) (hG1.later hb0) hm1)
  have HV2 : Hid (∀ W, Below W0.heap.size W0 W → Calls Tryd.prog 11 #[.agg #[.int .i64 N2, .slice ad2 m2 cap2]] W fun e w' => e = .returned (errV a (grE N2 m2 p2 q2)) ∧ Below W.heap.size W w') := fun W hb => ZValid_any a N2 m2 _ p2 q2 W ((hE.below hb0).below hb) ((hG2.later hb0).later hb) hm2
  have HEB : Hid (∀ W, Below W0.heap.size W0 W → W.cell? ⟨0, 0, none⟩ = some (.iface 118 (.pointer (some (a 1))))) := fun W hb => ((hE.below hb0).below hb).c1
  have HB0 := Hid.mk' hb0
  have HBE : Hid (∀ W, Below W0.heap.size W0 W → Below w.heap.size w W) := fun W hb => hb0.trans (hb.mono hb0.size)
  have HSZ : Hid (W0.heap.size = w.heap.size + 1 + 1 + 1) := by show _ = _; rw [hW0]; simp
  have HW0 := Hid.mk' hW0
  have HLE : w.heap.size ≤ w.heap.size + 1 + 1 := by omega
  by_cases h1 : grE N1 m1 p1 q1 = 0
  · by_cases h2 : grE N2 m2 p2 q2 = 0
    · obtain ⟨n1, rfl⟩ : ∃ n : Nat, N1 = n := ⟨N1.toNat, by have := grE_zero h1; omega⟩
      obtain ⟨n2, rfl⟩ : ∃ n : Nat, N2 = n := ⟨N2.toNat, by have := grE_zero h2; omega⟩
      have hn1 : n1 ≤ 16 := by have := grE_zero h1; omega
      have hn2 : n2 ≤ 16 := by have := grE_zero h2; omega
      have hmul : (n1 : Int) * (n2 : Int) = ((n1 * n2 : Nat) : Int) := by simp
      have hbig : n1 * n2 ≤ 256 := Nat.mul_le_mul hn1 hn2
      have hmI : ((n1 * n2 : Nat) : Int) ≤ 256 := by omega
      by_cases h3 : n1 * n2 ≤ 16
      · have hst : stE n1 m1 p1 q1 n2 m2 p2 q2 = 0 := by
          unfold stE
          rw [if_neg (by simp [h1]), if_neg (by simp [h2]), if_neg (by rw [hmul]; omega)]
        have d1 := ed_nat h1
        have d2 := ed_nat h2
        have eN : stN n1 m1 p1 q1 n2 m2 p2 q2 = n1 * n2 := by rw [stN, if_pos hst]; rfl
        have eL : stL n1 m1 p1 q1 n2 m2 p2 q2 = edTo (bothJ (nrB (nP p1) (nP q1) m1) (nrB (nP p2) (nP q2) m2) n2) (n1 * n2) (n1 * n2) := by rw [stL, if_pos hst]; rfl
        have HBO : Hid (∀ W, Below W0.heap.size W0 W → Calls Tryd.prog 36 #[.agg #[.int .i64 n1, .slice ad1 m1 cap1], .agg #[.int .i64 n2, .slice ad2 m2 cap2]] W fun e w' => ∃ v, e = .returned (.agg #[.int .i64 (n1 * n2 : Nat), v]) ∧ w'.ownsRow W.heap.size 51 2 v (stL n1 m1 p1 q1 n2 m2 p2 q2).length (pairCells (stL n1 m1 p1 q1 n2 m2 p2 q2)) ∧ Below W.heap.size W w') := fun W hb => by
          rw [eL]
          exact both_any n1 n2 m1 m2 _ _ (nP p1) (nP q1) (nP p2) (nP q2) W (((hG1.later hb0).later hb).congr fun k hk => ⟨(d1 k hk).2.2.1, (d1 k hk).2.2.2⟩) (((hG2.later hb0).later hb).congr fun k hk => ⟨(d2 k hk).2.2.1, (d2 k hk).2.2.2⟩) hn1 hn2 h3 hm1 hm2 (fun k hk => ⟨(d1 k hk).1, by have := (d1 k hk).2.1; simpa using this⟩) (fun k hk => ⟨(d2 k hk).1, by have := (d2 k hk).2.1; simpa using this⟩)
        rw [eN, hst, errV_zero]
        rw [h1, errV_zero] at HV1
        rw [h2, errV_zero] at HV2
        have hcmp : ¬ ((16 : Int) < ((n1 * n2 : Nat) : Int)) := by omega
        clear hE hG1 hG2 hb0 hW0 h1 h2 hst d1 d2 eN eL r0 r1 f0 f1
        generalize stL n1 m1 p1 q1 n2 m2 p2 q2 = E at *
        generalize hM : n1 * n2 = M at *
        have hcmp2 : ¬ (16 < M) := by omega
        clear hM
        go_enter Tryd.func24, Tryd.ntmps24
        go_upto_region 1 with fail
        rw [← HW0.out]
        go_wp2_with fail
        refine HV1.out.mono ?_
        rintro e w2 ⟨rfl, hb2⟩
        have HB2 := Hid.mk' hb2
        clear a0 a1 b0 b1 HV1 hb2
        obtain ⟨⟨a0, a1⟩, ⟨b0, b1⟩⟩ := HS.out _ HB2.out
        go_wp2_with fail
        refine (HV2.out _ HB2.out).mono ?_
        rintro e w3 ⟨rfl, hb3⟩
        have HB3 := Hid.mk' (HB2.out.trans (hb3.mono HB2.out.size))
        clear a0 a1 b0 b1 HV2 hb3 HB2
        obtain ⟨⟨a0, a1⟩, ⟨b0, b1⟩⟩ := HS.out _ HB3.out
        go_wp2_with fail
        refine (HBO.out _ HB3.out).mono ?_
        rintro e w4 ⟨v4, rfl, h4, hb4⟩
        have HB4 := Hid.mk' (HB3.out.trans (hb4.mono HB3.out.size))
        have HO4 := Hid.mk' h4
        have HS3 : Hid (w.heap.size + 1 + 1 < w3.heap.size) := by have h5 := HSZ.out; have h6 := HB3.out.size; show _ < _; omega
        obtain ⟨r0, r1, f0, f1⟩ := HR0.out _ HB4.out
        obtain ⟨ao, co, rfl, _⟩ := row_shape2 h4
        clear a0 a1 b0 b1 h4 hb4 HBO
        go_wp2_with fail
        refine bodyPost_ret (v := .tuple #[.agg #[.int .i64 (M : Int), .slice ao E.length co], .nilIface]) (by simp [results, Tryd.results24, go_sem, r0, r1]) rfl ⟨_, rfl, ?_, ?_⟩
        · have g1 := ownsRow_setCell_below HO4.out (a := ⟨w.heap.size + 1 + 1, 0, none⟩) HS3.out (.int .i64 (M : Int))
          have g2 := ownsRow_setCell_below g1 (a := ⟨w.heap.size + 1 + 1, 1, none⟩) HS3.out (.slice ao E.length co)
          exact g2.mono (by have := HS3.out; omega)
        · exact ((HBE.out _ HB4.out).setCell (by show w.heap.size ≤ w.heap.size + 1 + 1; omega) _).setCell (by show w.heap.size ≤ w.heap.size + 1 + 1; omega) _
      · have hst : stE n1 m1 p1 q1 n2 m2 p2 q2 = 2 := by
          unfold stE
          rw [if_neg (by simp [h1]), if_neg (by simp [h2]), if_pos (by rw [hmul]; omega)]
        have eN : stN n1 m1 p1 q1 n2 m2 p2 q2 = 0 := by rw [stN, if_neg (by rw [hst]; decide)]
        have eL : stL n1 m1 p1 q1 n2 m2 p2 q2 = [] := by rw [stL, if_neg (by rw [hst]; decide)]
        rw [eN, eL, hst]
        rw [h1, errV_zero] at HV1
        rw [h2, errV_zero] at HV2
        have hcmp : (16 : Int) < ((n1 * n2 : Nat) : Int) := by omega
        have HEV : Hid (errV a 2 = .iface 118 (.pointer (some (a 1)))) := rfl
        rw [HEV.out]
        clear hE hG1 hG2 hb0 hW0 h1 h2 hst eN eL r0 r1 f0 f1
        generalize n1 * n2 = M at *
        have hcmp2 : 16 < M := by omega
        go_enter Tryd.func24, Tryd.ntmps24
        go_upto_region 1 with fail
        rw [← HW0.out]
        go_wp2_with fail
        refine HV1.out.mono ?_
        rintro e w2 ⟨rfl, hb2⟩
        have HB2 := Hid.mk' hb2
        clear a0 a1 b0 b1 HV1 hb2
        obtain ⟨⟨a0, a1⟩, ⟨b0, b1⟩⟩ := HS.out _ HB2.out
        go_wp2_with fail
        refine (HV2.out _ HB2.out).mono ?_
        rintro e w3 ⟨rfl, hb3⟩
        have HB3 := Hid.mk' (HB2.out.trans (hb3.mono HB2.out.size))
        clear a0 a1 b0 b1 HV2 hb3 HB2
        obtain ⟨⟨a0, a1⟩, ⟨b0, b1⟩⟩ := HS.out _ HB3.out
        obtain ⟨r0, r1, f0, f1⟩ := HR0.out _ HB3.out
        have eB := HEB.out _ HB3.out
        go_wp2_with fail
        go_region
        all_goals
          go_wp2_with fail
          refine bodyPost_ret (v := .tuple #[.agg #[.int .i64 0, .slice none 0 0], .iface 118 (.pointer (some (a 1)))]) (by simp [results, Tryd.results24, go_sem, r0, r1]) rfl ⟨_, rfl, ⟨rfl, Or.inl ⟨rfl, rfl⟩⟩, ?_⟩
          exact (((HBE.out _ HB3.out).setCell (by show w.heap.size ≤ w.heap.size + 1 + 1; omega) _).setCell (by show w.heap.size ≤ w.heap.size + 1 + 1; omega) _).drew
    · have hst : stE N1 m1 p1 q1 N2 m2 p2 q2 = grE N2 m2 p2 q2 := by
        unfold stE
        rw [if_neg (by simp [h1]), if_pos h2]
      have eN : stN N1 m1 p1 q1 N2 m2 p2 q2 = 0 := by rw [stN, if_neg (by rw [hst]; exact h2)]
      have eL : stL N1 m1 p1 q1 N2 m2 p2 q2 = [] := by rw [stL, if_neg (by rw [hst]; exact h2)]
      have hR := errV_pos a h2
      rw [eN, eL, hst, hR]
      rw [h1, errV_zero] at HV1
      rw [hR] at HV2
      generalize a (grE N2 m2 p2 q2 - 1) = A at *
      clear hE hG1 hG2 hb0 hW0 h1 h2 hst eN eL hR r0 r1 f0 f1
      go_enter Tryd.func24, Tryd.ntmps24
      go_upto_region 1 with fail
      rw [← HW0.out]
      go_wp2_with fail
      refine HV1.out.mono ?_
      rintro e w2 ⟨rfl, hb2⟩
      have HB2 := Hid.mk' hb2
      clear a0 a1 b0 b1 HV1 hb2
      obtain ⟨⟨a0, a1⟩, ⟨b0, b1⟩⟩ := HS.out _ HB2.out
      go_wp2_with fail
      refine (HV2.out _ HB2.out).mono ?_
      rintro e w3 ⟨rfl, hb3⟩
      have HB3 := Hid.mk' (HB2.out.trans (hb3.mono HB2.out.size))
      clear a0 a1 b0 b1 HV2 hb3 HB2
      obtain ⟨r0, r1, f0, f1⟩ := HR0.out _ HB3.out
      go_wp2_with fail
      refine bodyPost_ret (v := .tuple #[.agg #[.int .i64 0, .slice none 0 0], .iface 118 (.pointer (some A))]) (by simp [results, Tryd.results24, go_sem, r0, r1]) rfl ⟨_, rfl, ⟨rfl, Or.inl ⟨rfl, rfl⟩⟩, ?_⟩
      exact ((HBE.out _ HB3.out).setCell (by show w.heap.size ≤ w.heap.size + 1 + 1; omega) _).setCell (by show w.heap.size ≤ w.heap.size + 1 + 1; omega) _
  · have hst : stE N1 m1 p1 q1 N2 m2 p2 q2 = grE N1 m1 p1 q1 := by
      unfold stE
      rw [if_pos h1]
    have eN : stN N1 m1 p1 q1 N2 m2 p2 q2 = 0 := by rw [stN, if_neg (by rw [hst]; exact h1)]
    have eL : stL N1 m1 p1 q1 N2 m2 p2 q2 = [] := by rw [stL, if_neg (by rw [hst]; exact h1)]
    have hR := errV_pos a h1
    rw [eN, eL, hst, hR]
    rw [hR] at HV1
    generalize a (grE N1 m1 p1 q1 - 1) = A at *
    clear hE hG1 hG2 hb0 hW0 h1 hst eN eL hR r0 r1 f0 f1
    go_enter Tryd.func24, Tryd.ntmps24
    go_upto_region 1 with fail
    rw [← HW0.out]
    go_wp2_with fail
    refine HV1.out.mono ?_
    rintro e w2 ⟨rfl, hb2⟩
    have HB2 := Hid.mk' hb2
    clear a0 a1 b0 b1 HV1 hb2
    obtain ⟨r0, r1, f0, f1⟩ := HR0.out _ HB2.out
    go_wp2_with fail
    refine bodyPost_ret (v := .tuple #[.agg #[.int .i64 0, .slice none 0 0], .iface 118 (.pointer (some A))]) (by simp [results, Tryd.results24, go_sem, r0, r1]) rfl ⟨_, rfl, ⟨rfl, Or.inl ⟨rfl, rfl⟩⟩, ?_⟩
    exact ((HBE.out _ HB2.out).setCell (by show w.heap.size ≤ w.heap.size + 1 + 1; omega) _).setCell (by show w.heap.size ≤ w.heap.size + 1 + 1; omega) _
end Go.Proofs.YtojljmapdafmaaaDoor
