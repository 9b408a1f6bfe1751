/- The document's ConfusedOf: the graph of a right channel. -/
import Derived.Test.YtojljmapdafmaaaDoorZeOf
namespace Go.Proofs.YtojljmapdafmaaaDoor
open Go.RowKit

set_option maxRecDepth 100000 in
set_option maxHeartbeats 8000000 in
theorem ConfusedOf_any (v : Value) (R C : Nat) (vs : Nat → Value) (ns : Nat → Nat) (zs : Nat → Nat → Int) (w : World) (hT : TabAt w v R vs ns zs) (hR0 : 0 < R) (hR : R ≤ 16) (hC0 : 0 < C) (hC : C ≤ 16) (hns : ∀ i, i < R → ns i = C) :
    Calls Tryd.prog 15 #[v] w fun e w' => ∃ u, e = .returned (.agg #[.int .i64 R, u]) ∧ w'.ownsRow w.heap.size 51 2 u (edTo (fun i k => meetB (zs i) (zs k) C) R R).length (pairCells (edTo (fun i k => meetB (zs i) (zs k) C) R R)) ∧ Below w.heap.size w w' := by
  obtain ⟨i0, hi, hi2⟩ := Option.map_eq_some_iff.1 Tryd.infoPair
  obtain ⟨hz, hsz, hby⟩ : i0.zero = some (.agg #[.int .i64 0, .int .i64 0]) ∧ i0.size = 2 ∧ i0.bytes = 16 := by simpa using hi2
  have HINF : Hid (Tryd.prog.info? 51 = some i0 ∧ i0.zero = some (.agg #[.int .i64 0, .int .i64 0]) ∧ i0.size = 2 ∧ i0.bytes = 16) := ⟨hi, hz, hsz, hby⟩
  clear hi hi2 hz hsz hby
  obtain ⟨b, o, c, rfl, hr⟩ : ∃ b o c, v = .slice (some ⟨b, o, none⟩) R c ∧ ∀ i, i < R → w.cell? ⟨b, o + i, none⟩ = some (vs i) ∧ NumsAt w (vs i) (ns i) (zs i) := by
    rcases hT with ⟨_, _, _, h1⟩ | ⟨b, o, c, h1, _, h2⟩
    · omega
    · exact ⟨b, o, c, h1, h2⟩
  have HROW : Hid (∀ W, Below w.heap.size w W → ∀ i, i < R → ∃ rb ro rc, W.cell? ⟨b, o + i, none⟩ = some (.slice (some ⟨rb, ro, none⟩) C rc) ∧ RowAt W rb ro C (zs i)) := fun W hb i hi => by
    obtain ⟨h1, h2⟩ := hr i hi
    rw [hns i hi] at h2
    rcases h2 with ⟨_, _, _, h3⟩ | ⟨rb, ro, rc, h3, _, h4⟩
    · omega
    · exact ⟨rb, ro, rc, by rw [hb.cell (cell_lt h1), h1, h3], h4.later hb⟩
  obtain ⟨W0, hW0⟩ : ∃ W0, W0 = (w.alloc (.cells #[.int .i64 0, .slice none 0 0] 24)).alloc (.cells #[.int .i64 R, .slice none 0 0] 24) := ⟨_, rfl⟩
  have h0 : JoAt w W0 w.heap.size (w.heap.size + 1) R (.slice none 0 0) [] := by
    rw [hW0]
    refine ⟨((Below.refl _ _).alloc (Nat.le_refl _) _).alloc (by simp) _, by omega, by go_simp, by go_simp, ⟨by go_simp, by go_simp⟩, by go_simp, by go_simp, by go_simp, ⟨rfl, Or.inl ⟨rfl, rfl⟩⟩, by simp⟩
  have H0 := Hid.mk' h0
  have HW0 := Hid.mk' hW0
  have hRI : (R : Int) ≤ 16 := by omega
  have hCI : (C : Int) ≤ 16 := by omega
  have HJD : Hid (∀ i k, (fun i k => meetB (zs i) (zs k) C) i k = meetB (zs i) (zs k) C) := fun _ _ => rfl
  generalize hJ : (fun i k => meetB (zs i) (zs k) C) = J at *
  clear hJ h0 hW0 hT hr hns
  go_enter Tryd.func15, Tryd.ntmps15
  go_upto_region 2 with fail
  rw [← HW0.out]
  go_wp2_with fail
  go_loopw [4] (fun iv wr => ∃ (i : Nat) (ov : Value), i ≤ R ∧ iv = .int .i64 i ∧ Hid (JoAt w wr w.heap.size (w.heap.size + 1) R ov (edTo J R i))) (fun iv _ => R - (intOf iv).toNat)
  case atStart => exact ⟨0, _, Nat.zero_le _, rfl, H0⟩
  case round =>
    clear H0 HW0
    obtain ⟨i, ov, hi, rfl, HO⟩ := hrel
    have hi0 : (0 : Int) ≤ (i : Int) := by omega
    rcases Nat.lt_or_ge i R with h1 | h1
    · have hin : (i : Int) < (R : Int) := by omega
      rename World => Wo
      go_wp2_with fail
      go_loopw [5] (fun kv wr => ∃ (k : Nat) (ov : Value), i < k ∧ k ≤ R ∧ kv = .int .i64 k ∧ Hid (JoAt w wr w.heap.size (w.heap.size + 1) R ov (edTo J R i ++ edRow J i k))) (fun kv _ => R - (intOf kv).toNat)
      case atStart =>
        refine ⟨i + 1, ov, Nat.lt_succ_self _, h1, by go_num, ?_⟩
        rw [edRow_low J i (i + 1) (Nat.le_refl _), List.append_nil]
        exact HO
      case round =>
        clear HO
        obtain ⟨k, ov, hik, hk, rfl, HO⟩ := hrel
        have hk0 : (0 : Int) ≤ (k : Int) := by omega
        rcases Nat.lt_or_ge k R with h2 | h2
        · have hkn : (k : Int) < (R : Int) := by omega
          have HNX : Hid (edRow J i (k + 1) = if J i k = true then edRow J i k ++ [(i, k)] else edRow J i k) := by
            show _ = _
            rw [edRow]
            by_cases hj : J i k = true
            · rw [if_pos ⟨hik, hj⟩, if_pos hj]
            · rw [if_neg (fun h => hj h.2), if_neg hj]
          have HLE : Hid ((edTo J R i ++ edRow J i k).length ≤ 1000) := by
            have a1 := edTo_length J R i
            have a2 := edRow_length J i k
            have a3 : i * R ≤ 16 * 16 := Nat.mul_le_mul (by omega) hR
            show _ ≤ _
            rw [List.length_append]
            omega
          obtain ⟨rb, ro, rc, e1, x1⟩ := HROW.out _ HO.out.below i h1
          obtain ⟨sb, so, sc, e2, x2⟩ := HROW.out _ HO.out.below k h2
          have HX1 := Hid.mk' x1
          have HX2 := Hid.mk' x2
          clear x1 x2
          rename World => Wi
          go_wp2_with fail
          go_loop [6, 7] (fun bv jv => ∃ j : Nat, j ≤ C ∧ bv = .bool (meetB (zs i) (zs k) j) ∧ jv = .int .i64 j) (fun _ jv => C - (intOf jv).toNat)
          case atStart => exact ⟨0, Nat.zero_le _, rfl, rfl⟩
          case round =>
            obtain ⟨j, hj, rfl, rfl⟩ := hrel
            have hj0 : (0 : Int) ≤ (j : Int) := by omega
            rcases Nat.lt_or_ge j C with h3 | h3
            · have hjc : (j : Int) < (C : Int) := by omega
              have y1 := HX1.out j h3
              have y2 := HX2.out j h3
              have HM : Hid (meetB (zs i) (zs k) (j + 1) = (meetB (zs i) (zs k) j || (decide (0 < zs i j) && decide (0 < zs k j)))) := rfl
              cases hm : meetB (zs i) (zs k) j
              · rw [hm] at HM
                clear hm
                by_cases h4 : 0 < zs i j
                · have d4 : decide (0 < zs i j) = true := decide_eq_true h4
                  by_cases h5 : 0 < zs k j
                  · have d5 : decide (0 < zs k j) = true := decide_eq_true h5
                    rw [d4, d5] at HM
                    go_wp2_with fail
                    exact ⟨⟨j + 1, h3, by rw [HM.out]; rfl, by go_num⟩, by simp [intOf]; omega⟩
                  · have d5 : decide (0 < zs k j) = false := decide_eq_false h5
                    rw [d4, d5] at HM
                    go_wp2_with fail
                    exact ⟨⟨j + 1, h3, by rw [HM.out]; rfl, by go_num⟩, by simp [intOf]; omega⟩
                · have d4 : decide (0 < zs i j) = false := decide_eq_false h4
                  rw [d4] at HM
                  go_wp2_with fail
                  exact ⟨⟨j + 1, h3, by rw [HM.out]; rfl, by go_num⟩, by simp [intOf]; omega⟩
              · rw [hm] at HM
                clear hm
                go_wp2_with fail
                exact ⟨⟨j + 1, h3, by rw [HM.out]; rfl, by go_num⟩, by simp [intOf]; omega⟩
            · obtain rfl : j = C := by omega
              have HJV := Hid.mk' (HJD.out i k)
              cases hm : meetB (zs i) (zs k) j
              · have e1 : edRow J i (k + 1) = edRow J i k := by have := HNX.out; rw [HJV.out, hm] at this; simpa using this
                have HO3 := HO
                rw [← e1] at HO3
                clear e1 hm HNX HLE HO
                go_wp2_with fail
                exact ⟨⟨k + 1, ov, by omega, h2, by go_num, HO3⟩, by simp [intOf]; omega⟩
              · have e1 : edTo J R i ++ edRow J i (k + 1) = (edTo J R i ++ edRow J i k) ++ [(i, k)] := by have := HNX.out; rw [HJV.out, hm, if_pos rfl] at this; rw [this, List.append_assoc]
                have HE1 := Hid.mk' e1
                have g1 := HO.out.g1
                have fg := HO.out.fg
                have hlt := HO.out.lt
                clear e1 hm HNX
                generalize edTo J R i ++ edRow J i k = E at *
                have hle := HLE.out
                go_wp2_with (at_builtin; go_must (refine wpList_append_lies _ rfl _ _ _ rfl (w.heap.size + 1 + 1) 51 i0 _ 2 16 Tryd.underlying22 HINF.out.1 HINF.out.2.1 HINF.out.2.2.1 HINF.out.2.2.2 rfl (by omega) ov _ _ rfl (HO.out.own.alloc _) ⟨Wi.heap.size, 0, none⟩ 1 1 [.int .i64 (i : Int), .int .i64 (k : Int)] rfl rfl (two_newG _ _ _ _) (by simp [Value.oneCell']) (by omega) (by unfold maxLen; omega) (by omega) (by simp; omega) _ rfl ?_; intro g' cap' w4 hown4 hgrow4 hat4 hlt4; have HJ4 := Hid.mk' (HO.out.push (E' := E ++ [(i, k)]) hgrow4 (by rw [pairCells_snoc, List.length_append]; exact hown4)); obtain ⟨q1, q2⟩ := HO.out.pushAt hgrow4; clear hown4 hgrow4 hat4 hlt4))
                refine ⟨⟨k + 1, .slice (some ⟨g', 0, none⟩) (E.length + 1) cap', by omega, h2, by go_num, ?_⟩, by simp [intOf]; omega⟩
                rw [HE1.out]
                exact HJ4
        · obtain rfl : k = R := by omega
          go_wp2_with fail
          exact ⟨⟨i + 1, ov, h1, by go_num, HO⟩, by simp [intOf]; omega⟩
    · obtain rfl : i = R := by omega
      have g0 := HO.out.g0
      have g1 := HO.out.g1
      have r0 := HO.out.r0
      have r1 := HO.out.r1
      have f0 := HO.out.fr.1
      have f1 := HO.out.fr.2
      obtain ⟨ao, co, rfl, _⟩ := row_shape2 HO.out.own
      go_wp2_with fail
      refine bodyPost_ret (v := .agg #[.int .i64 i, .slice ao (edTo J i i).length co]) (by simp [results, Tryd.results15, go_sem, r0, r1]) rfl ⟨_, rfl, ?_, ?_⟩
      · have h1 := ownsRow_setCell_below HO.out.own (a := ⟨w.heap.size, 0, none⟩) (by show w.heap.size < _; omega) (.int .i64 (i : Int))
        have h2 := ownsRow_setCell_below h1 (a := ⟨w.heap.size, 1, none⟩) (by show w.heap.size < _; omega) (.slice ao (edTo J i i).length co)
        exact h2.mono (by omega)
      · exact (HO.out.below.setCell (Nat.le_refl _) _).setCell (Nat.le_refl _) _
end Go.Proofs.YtojljmapdafmaaaDoor
