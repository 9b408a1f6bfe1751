/- (chain.folded).visits, walked. -/
import Derived.Test.YtlmehmbipbkeiaaDoorVisits
namespace Go.Proofs.YtlmehmbipbkeiaaDoor
open Go.RowKit

/-- Behind i of them: who has been asked is multiplied. -/
def visAt (n : Nat) (V : Nat → Nat → Nat) (s i j : Nat) : Nat := if j < i then vis n V s j * V (n + 1) s else vis n V s j

set_option maxRecDepth 100000 in
set_option maxHeartbeats 8000000 in
theorem visits_any (w wr : World) (n g : Nat) (rb cp : Nat → Nat) (f : Nat → Nat → Value) (V : Nat → Nat → Nat) (h : FoldAt w wr n g rb cp f V) (hn0 : 0 < n) (hn : n ≤ 8) (hV : ∀ i k, i < n + 2 → k < n → V i k < 18446744073709551616 ^ 40) :
    Calls Tryd.prog 22 #[.agg #[.slice (some ⟨g, 0, none⟩) n n, .slice (some ⟨rb n, 0, none⟩) n n, .slice (some ⟨rb (n + 1), 0, none⟩) n n]] wr fun e w' => ∃ r, e = .returned r ∧ NatsAt w' r n (vis n V n) ∧ Below wr.heap.size wr w' ∧ ∀ b o l c, r = .slice (some ⟨b, o, none⟩) l c → wr.heap.size ≤ b := by
  obtain ⟨i0, hi, hz0, hz1, hz2⟩ := info_parts Tryd.infoNat
  have HINF : Hid (Tryd.prog.info? 50 = some i0 ∧ i0.zero = some (.slice none 0 0) ∧ i0.size = 1 ∧ i0.bytes = 24) := ⟨hi, hz0, hz1, hz2⟩
  clear hi hz0 hz1 hz2
  obtain ⟨bx, hbx⟩ : ∃ bx, bx = wr.heap.size := ⟨_, rfl⟩
  obtain ⟨W1, hW1⟩ : ∃ W1, W1 = wr.alloc (.cells #[.slice (some ⟨g, 0, none⟩) n n, .slice (some ⟨rb n, 0, none⟩) n n, .slice (some ⟨rb (n + 1), 0, none⟩) n n] 55) := ⟨_, rfl⟩
  have hb1 : Below wr.heap.size wr W1 := by rw [hW1]; exact (Below.refl _ _).alloc (Nat.le_refl _) _
  have hF1 : FoldAt w W1 n g rb cp f V := h.later hb1
  have HX : Hid (W1.cell? ⟨bx, 0, none⟩ = some (.slice (some ⟨g, 0, none⟩) n n) ∧ W1.cell? ⟨bx, 1, none⟩ = some (.slice (some ⟨rb n, 0, none⟩) n n) ∧ W1.cell? ⟨bx, 2, none⟩ = some (.slice (some ⟨rb (n + 1), 0, none⟩) n n)) := ⟨by rw [hW1]; exact top_cell _ _ _ _ hbx, by rw [hW1]; exact top_cell _ _ _ _ hbx, by rw [hW1]; exact top_cell _ _ _ _ hbx⟩
  have HF1 := Hid.mk' hF1
  have HB1 := Hid.mk' hb1
  have HV := Hid.mk' hV
  have hone := NatOf_new 1 W1 (by decide)
  clear h hF1 hb1 hV
  go_enter Tryd.func22, Tryd.ntmps22
  go_wp2_with fail
  rw [← hW1, ← hbx]
  refine hone.mono ?_
  clear hone hW1 hbx
  rintro e w2 ⟨v1, rfl, hv1, hb2⟩
  obtain ⟨va, vl, vc, rfl⟩ := hv1.1.isSlice
  have HV1 := Hid.mk' hv1.1
  have HB2 := Hid.mk' hb2
  clear hv1 hb2
  go_wp2_with fail
  obtain ⟨W3, hW3⟩ : ∃ W3, W3 = w2.alloc (.cells #[.slice va vl vc] 50) := ⟨_, rfl⟩
  rw [← hW3]
  have hb3 : Below w2.heap.size w2 W3 := by rw [hW3]; exact (Below.refl _ _).alloc (Nat.le_refl _) _
  have HO3 : Hid (NatsOwn W1.heap.size W3 w2.heap.size 1 1 (fun _ => .slice va vl vc) (vis n V 1)) := by
    refine ⟨⟨rfl, Or.inr ⟨w2.heap.size, 1, #[.slice va vl vc], rfl, HB2.out.size, ?_, by decide, by decide, rfl, rfl⟩⟩, fun i hi => HV1.out.later hb3, fun i hi => HV1.out.off (Nat.le_refl _)⟩
    rw [hW3]; unfold World.alloc; simp
  have HB3 := Hid.mk' (below_chain HB2.out hb3)
  clear hW3 hb3
  go_wp2_with fail
  go_loopw [3, 4] (fun u t wr => ∃ (s gb cap : Nat) (fv : Nat → Value), 1 ≤ s ∧ s ≤ n ∧ t = .int .i64 s ∧ u = .slice (some ⟨gb, 0, none⟩) s cap ∧ Hid (NatsOwn W1.heap.size wr gb s cap fv (vis n V s)) ∧ Hid (Below W1.heap.size W1 wr)) (fun _ t _ => n - (intOf t).toNat)
  case atStart => exact ⟨1, _, 1, _, by omega, by omega, rfl, rfl, HO3, HB3⟩
  case round =>
    clear HO3 HB3
    obtain ⟨s, gb, cap, fv, hs1, hsn, rfl, rfl, HO, HB⟩ := hrel
    have z2 := (box_later HX.out HB.out).2.2
    rcases Nat.lt_or_ge s n with h1 | h1
    · have hsI : (s : Int) < (n : Int) := by omega
      have hs0 : (0 : Int) ≤ (s : Int) := by omega
      have hzero := NatOf_zero wr
      go_wp2_with fail
      refine hzero.mono ?_
      clear hzero
      rintro e w4 ⟨rfl, hw4⟩
      rw [hw4]
      clear hw4
      go_wp2_with fail
      obtain ⟨Wr, hWr⟩ : ∃ Wr, Wr = wr := ⟨_, rfl⟩
      have HO4 : Hid (NatsOwn W1.heap.size Wr gb s cap fv (visAt n V s 0)) := by rw [hWr]; exact ⟨HO.out.own, fun i hi => by unfold visAt; rw [if_neg (by omega)]; exact HO.out.nats i hi, HO.out.off⟩
      rw [← hWr] at HB ⊢
      clear hWr HO z2
      go_loopw [5, 18] (fun o t wr => ∃ (i : Nat) (fv : Nat → Value), i ≤ s ∧ t = .int .i64 i ∧ Hid (NatAt wr o (sumTo (fun j => vis n V s j * V j s) i) ∧ Off gb o) ∧ Hid (NatsOwn W1.heap.size wr gb s cap fv (visAt n V s i)) ∧ Hid (Below W1.heap.size W1 wr)) (fun _ t _ => s - (intOf t).toNat)
      case atStart => exact ⟨0, fv, Nat.zero_le _, rfl, ⟨natAt_none _, fun b o l c h => by cases h⟩, HO4, HB⟩
      case round =>
        clear HO4 HB
        obtain ⟨i, fv, hi, rfl, HS, HO, HB⟩ := hrel
        have HFr := Hid.mk' (HF1.out.later HB.out)
        have HXr := Hid.mk' (box_later HX.out HB.out)
        rcases Nat.lt_or_ge i s with h2 | h2
        · have hiI : (i : Int) < (s : Int) := by omega
          have hiN : (i : Int) < (n : Int) := by omega
          have hi0 : (0 : Int) ≤ (i : Int) := by omega
          obtain ⟨hgb1, hgb2, hcells⟩ := ownsRow_cells HO.out.own
          have y0 := (hcells i h2).1
          have y9 := (hcells i h2).2
          have y1 := HXr.out.1
          have y2 := HFr.out.outer i (by omega)
          have y3 := (HFr.out.rows i (by omega)).row s h1
          have HN0 := Hid.mk' (HO.out.nats i h2)
          rw [show visAt n V s i i = vis n V s i by unfold visAt; rw [if_neg (by omega)]] at HN0
          have HN3 := Hid.mk' (HFr.out.nats i s (by omega) h1)
          have HNO := Hid.mk' (HFr.out.nats (n + 1) s (by omega) h1)
          have HVL := Hid.mk' (vis_lt hn HV.out s hs1 hsn)
          obtain ⟨E, hE⟩ : ∃ E : Nat, E = 400 := ⟨_, rfl⟩
          have HVB : Hid (vis n V s i < 18446744073709551616 ^ E ∧ V i s < 18446744073709551616 ^ E ∧ V (n + 1) s < 18446744073709551616 ^ E) := ⟨Nat.lt_of_lt_of_le (HVL.out i h2) (Nat.pow_le_pow_right (by decide) (by omega)), Nat.lt_of_lt_of_le (HV.out i s (by omega) h1) (Nat.pow_le_pow_right (by decide) (by omega)), Nat.lt_of_lt_of_le (HV.out (n + 1) s (by omega) h1) (Nat.pow_le_pow_right (by decide) (by omega))⟩
          have HPB : Hid (vis n V s i * V i s < 18446744073709551616 ^ (E + E)) := by show _ < _; rw [Nat.pow_add]; exact Nat.mul_lt_mul'' HVB.out.1 HVB.out.2.1
          have HSB : Hid (sumTo (fun j => vis n V s j * V j s) i < 18446744073709551616 ^ (E + E + 1)) := by
            rcases sumTo_lt (z := fun j => vis n V s j * V j s) (M := 18446744073709551616 ^ (E + E)) (n := i) (by omega) (fun j hj => by rw [Nat.pow_add]; exact Nat.mul_lt_mul'' (Nat.lt_of_lt_of_le (HVL.out j (by omega)) (Nat.pow_le_pow_right (by decide) (by omega))) (Nat.lt_of_lt_of_le (HV.out j s (by omega) h1) (Nat.pow_le_pow_right (by decide) (by omega)))) with h | h
            · show _ < _; rw [Nat.pow_succ]; exact h
            · exact absurd h (Nat.ne_of_gt (Nat.pow_pos (by decide)))
          have HSUM : Hid (sumTo (fun j => vis n V s j * V j s) (i + 1) = sumTo (fun j => vis n V s j * V j s) i + vis n V s i * V i s) := rfl
          have HNS : Hid (∀ W, Below wr.heap.size wr W → ∀ y, NatNew W.heap.size W y (vis n V s i * V (n + 1) s) ∨ (NatAt W y (vis n V s i * V (n + 1) s) ∧ Off gb y) → NatsOwn W1.heap.size (W.setCell ⟨gb, i, none⟩ y) gb s cap (fun j => if j = i then y else fv j) (visAt n V s (i + 1))) := fun W hb y hy' => by
            obtain ⟨hy, hyo⟩ : NatAt W y (vis n V s i * V (n + 1) s) ∧ Off gb y := by
              rcases hy' with h | h
              · exact ⟨h.1, h.off (Nat.lt_of_lt_of_le hgb2 hb.size)⟩
              · exact h
            have hc : W.cell? ⟨gb, i, none⟩ = some (fv i) := by rw [hb.cell (cell_lt y0)]; exact y0
            obtain ⟨a1, l1, c1, e1⟩ := (HO.out.nats i h2).isSlice
            rw [e1] at hc
            refine ⟨?_, fun j hj => ?_, fun j hj => ?_⟩
            · have := ownsRow_set (k := i) y (own_past HO.out.own hb)
              rw [rowV_set] at this
              exact this
            · unfold visAt
              by_cases hji : j = i
              · subst hji; rw [if_pos rfl, if_pos (by omega)]; exact hy.putS hc
              · rw [if_neg hji]
                have := (HO.out.nats j hj).later hb
                unfold visAt at this
                by_cases hlt : j < i
                · rw [if_pos hlt] at this; rw [if_pos (by omega)]; exact this.putS hc
                · rw [if_neg hlt] at this; rw [if_neg (by omega)]; exact this.putS hc
            · by_cases hji : j = i
              · rw [if_pos hji]; exact hyo
              · rw [if_neg hji]; exact HO.out.off j hj
          obtain ⟨na, nl, nc, hne⟩ := (HO.out.nats i h2).isSlice
          rw [hne] at y0 HN0
          generalize f i s = y at *
          have HKS : Hid (∀ W, Below wr.heap.size wr W → (W.cell? ⟨gb, i, none⟩ = some (.slice na nl nc) ∧ W.cell? ⟨bx, 0, none⟩ = some (.slice (some ⟨g, 0, none⟩) n n) ∧ W.cell? ⟨g, i, none⟩ = some (.slice (some ⟨rb i, 0, none⟩) n (cp i)) ∧ W.cell? ⟨rb i, s, none⟩ = some y)) := fun W hb => ⟨by rw [hb.cell (cell_lt y0)]; exact y0, by rw [hb.cell (cell_lt y1)]; exact y1, by rw [hb.cell (cell_lt y2)]; exact y2, by rw [hb.cell (cell_lt y3)]; exact y3⟩
          have HBY : Hid (∀ W, Below wr.heap.size wr W → Calls Tryd.prog 33 #[.slice na nl nc, y] W fun e w' => ∃ r, e = .returned r ∧ NatAt w' r (vis n V s i * V i s) ∧ Below W.heap.size W w') := fun W hb => By_any _ _ _ _ E W (HN0.out.later hb) (HN3.out.later hb) HVB.out.1 HVB.out.2.1 (by omega)
          have HPL : Hid (∀ W q, Below wr.heap.size wr W → NatAt W q (vis n V s i * V i s) → Calls Tryd.prog 25 #[u5, q] W fun e w' => ∃ r, e = .returned r ∧ NatNew W.heap.size w' r (sumTo (fun j => vis n V s j * V j s) (i + 1)) ∧ Below W.heap.size W w') := fun W q hb hq => by rw [HSUM.out]; exact Plus_new u5 q _ _ (E + E + 1) W (HS.out.1.later hb) hq HSB.out (Nat.lt_trans HPB.out (Nat.pow_lt_pow_right (by decide) (by omega))) (by omega)
          have hcur : Below wr.heap.size wr wr.drew := (Below.refl _ _).drew
          clear y1 y2 y3
          go_wp2_with fail
          go_region_held3 (fun W => W.cell? ⟨gb, i, none⟩ = some (.slice na nl nc) ∧ W.cell? ⟨bx, 0, none⟩ = some (.slice (some ⟨g, 0, none⟩) n n) ∧ W.cell? ⟨g, i, none⟩ = some (.slice (some ⟨rb i, 0, none⟩) n (cp i)) ∧ W.cell? ⟨rb i, s, none⟩ = some y)
            (first | exact HKS.out _ hcur | (refine HKS.out _ ?_; assumption))
            (first
              | (go_at_call 25; refine (HPL.out _ _ hcur1 HXP.out).mono ?_; rintro e w7 ⟨rv, rfl, hrv, hb7⟩; have hcur2 := below_chain hcur1 hb7; have HRO := Hid.mk' (hrv.off (Nat.lt_of_lt_of_le hgb2 hcur1.size)); have HRV := Hid.mk' hrv.1; clear hrv)
              | (go_at_call 33; refine (HBY.out _ hcur).mono ?_; rintro e w5 ⟨rp, rfl, hrp, hb5⟩; have hcur1 := below_chain hcur hb5; have HXP := Hid.mk' hrp; clear hrp))
          go_wp2_with fail
          have HOU : Hid (NatsOwn W1.heap.size w7 gb s cap fv (visAt n V s i)) := ⟨own_past HO.out.own hcur2, fun j hj => (HO.out.nats j hj).later hcur2, HO.out.off⟩
          have HRB := Hid.mk' (below_chain HB.out hcur2)
          have q0 : w7.cell? ⟨gb, i, none⟩ = some (.slice na nl nc) := (HKS.out _ hcur2).1
          have q9 : w7.frozen? ⟨gb, i, none⟩ = false := by rw [hcur2.frozen (cell_lt y0)]; exact y9
          have q1 := (box_later HXr.out hcur2).2.2
          have q2 := ((HFr.out.later hcur2).rows (n + 1) (by omega)).row s h1
          have HNO7 := Hid.mk' (HNO.out.later hcur2)
          have HN07 := Hid.mk' (HN0.out.later hcur2)
          have HC7 := Hid.mk' hcur2
          generalize f (n + 1) s = y2 at *
          clear hcur HKS HBY HPL y0 y9
          have HKT : Hid (∀ W, Below w7.heap.size w7 W → (W.cell? ⟨gb, i, none⟩ = some (.slice na nl nc) ∧ W.cell? ⟨bx, 2, none⟩ = some (.slice (some ⟨rb (n + 1), 0, none⟩) n n) ∧ W.cell? ⟨rb (n + 1), s, none⟩ = some y2)) := fun W hb => ⟨by rw [hb.cell (cell_lt q0)]; exact q0, by rw [hb.cell (cell_lt q1)]; exact q1, by rw [hb.cell (cell_lt q2)]; exact q2⟩
          have HFZ : Hid (∀ W, Below w7.heap.size w7 W → W.frozen? ⟨gb, i, none⟩ = false) := fun W hb => by rw [hb.frozen (cell_lt q0)]; exact q9
          have HBZ : Hid (∀ W, Below w7.heap.size w7 W → Calls Tryd.prog 33 #[.slice na nl nc, y2] W fun e w' => ∃ r, e = .returned r ∧ NatNew W.heap.size w' r (vis n V s i * V (n + 1) s) ∧ Below W.heap.size W w') := fun W hb => By_new _ _ _ _ E W (HN07.out.later hb) (HNO7.out.later hb) HVB.out.1 HVB.out.2.2 (by omega)
          have hcur : Below w7.heap.size w7 w7.drew := (Below.refl _ _).drew
          clear q0 q9 q1 q2
          go_wp2_with fail
          refine region_but_last (n := 13) (S := fun W => W.cell? ⟨gb, i, none⟩ = some (.slice na nl nc) ∧ W.cell? ⟨bx, 2, none⟩ = some (.slice (some ⟨rb (n + 1), 0, none⟩) n n) ∧ W.cell? ⟨rb (n + 1), s, none⟩ = some y2) (by kernel_rfl) (by kernel_rfl) (by kernel_rfl) (HKT.out _ hcur) (fun hHeld => ?_)
          refine wpAnyH_take (i := 0) (v := ?v0) rfl (by kernel_rfl) (by kernel_rfl) (by kernel_rfl) (fun _ _ _ h => h) (Or.inl ⟨by rfl, ?hy0⟩) (by assumption) ?rest0
          case hy0 => (intro w hSw; (try dsimp only at hSw); go_simp <;> (try with_reducible rfl))
          simp only [Act.put]
          refine wpAnyH_take (i := 1) (v := ?v1) rfl (by kernel_rfl) (by kernel_rfl) (by kernel_rfl) (fun _ _ _ h => h) (Or.inl ⟨by rfl, ?hy1⟩) (by assumption) ?rest1
          case hy1 => (intro w hSw; (try dsimp only at hSw); go_simp <;> (try with_reducible rfl))
          simp only [Act.put]
          refine wpAnyH_take (i := 2) (v := ?v2) rfl (by kernel_rfl) (by kernel_rfl) (by kernel_rfl) (fun _ _ _ h => h) (Or.inl ⟨by rfl, ?hy2⟩) (by assumption) ?rest2
          case hy2 => (intro w hSw; (try dsimp only at hSw); go_simp <;> (try with_reducible rfl))
          simp only [Act.put]
          refine wpAnyH_take (i := 3) (v := ?v3) rfl (by kernel_rfl) (by kernel_rfl) (by kernel_rfl) (fun _ _ _ h => h) (Or.inl ⟨by rfl, ?hy3⟩) (by assumption) ?rest3
          case hy3 => (intro w hSw; (try dsimp only at hSw); go_simp <;> (try with_reducible rfl))
          simp only [Act.put]
          refine wpAnyH_take (i := 4) (v := ?v4) rfl (by kernel_rfl) (by kernel_rfl) (by kernel_rfl) (fun _ _ _ h => h) (Or.inl ⟨by rfl, ?hy4⟩) (by assumption) ?rest4
          case hy4 => (intro w hSw; (try dsimp only at hSw); go_simp <;> (try with_reducible rfl))
          simp only [Act.put]
          refine wpAnyH_take (i := 5) (v := ?v5) rfl (by kernel_rfl) (by kernel_rfl) (by kernel_rfl) (fun _ _ _ h => h) (Or.inl ⟨by rfl, ?hy5⟩) (by assumption) ?rest5
          case hy5 => (intro w hSw; (try dsimp only at hSw); go_simp <;> (try with_reducible rfl))
          simp only [Act.put]
          refine wpAnyH_take (i := 6) (v := ?v6) rfl (by kernel_rfl) (by kernel_rfl) (by kernel_rfl) (fun _ _ _ h => h) (Or.inl ⟨by rfl, ?hy6⟩) (by assumption) ?rest6
          case hy6 => (intro w hSw; (try dsimp only at hSw); go_simp <;> (try with_reducible rfl))
          simp only [Act.put]
          refine wpAnyH_take (i := 7) (v := ?v7) rfl (by kernel_rfl) (by kernel_rfl) (by kernel_rfl) (fun _ _ _ h => h) (Or.inl ⟨by rfl, ?hy7⟩) (by assumption) ?rest7
          case hy7 => (intro w hSw; (try dsimp only at hSw); go_simp <;> (try with_reducible rfl))
          simp only [Act.put]
          refine wpAnyH_take (i := 8) (v := ?v8) rfl (by kernel_rfl) (by kernel_rfl) (by kernel_rfl) (fun _ _ _ h => h) (Or.inl ⟨by rfl, ?hy8⟩) (by assumption) ?rest8
          case hy8 => (intro w hSw; (try dsimp only at hSw); go_simp <;> (try with_reducible rfl))
          simp only [Act.put]
          refine wpAnyH_take (i := 9) (v := ?v9) rfl (by kernel_rfl) (by kernel_rfl) (by kernel_rfl) (fun _ _ _ h => h) (Or.inl ⟨by rfl, ?hy9⟩) (by assumption) ?rest9
          case hy9 => (intro w hSw; (try dsimp only at hSw); go_simp <;> (try with_reducible rfl))
          simp only [Act.put]
          refine wpAnyH_take (i := 10) (v := ?v10) rfl (by kernel_rfl) (by kernel_rfl) (by kernel_rfl) (fun _ _ _ h => h) (Or.inl ⟨by rfl, ?hy10⟩) (by assumption) ?rest10
          case hy10 => (intro w hSw; (try dsimp only at hSw); go_simp <;> (try with_reducible rfl))
          simp only [Act.put]
          refine wpAnyH_ready (rs := [11]) (by kernel_rfl) (by simp) ?_
          refine AllReadyH.cons rfl (fun K hK => ?_) AllReadyH.nil
          go_simp
          refine (HBZ.out _ hcur).mono ?_
          rintro e w8 ⟨rz, rfl, hrz, hb8⟩
          obtain ⟨za, zl, zc, rfl⟩ := hrz.1.isSlice
          have hzo := hrz.off (Nat.lt_of_lt_of_le hgb2 (Nat.le_trans HC7.out.size hcur.size))
          have hcur := below_chain hcur hb8
          have z5 := HFZ.out _ hcur
          have z3 := (HKT.out _ hcur).1
          go_wp2_with fail
          refine hK.out _ _ ?_ (fun hHeld => ?_)
          · exact HKT.out _ hcur
          clear hK K
          refine wpAnyH_take (i := 12) (v := ?v12) rfl (by kernel_rfl) (by kernel_rfl) (by kernel_rfl) (fun _ _ _ h => h) (Or.inl ⟨by rfl, ?hy12⟩) (by assumption) ?rest12
          case hy12 => (intro w hSw; (try dsimp only at hSw); go_simp <;> (try with_reducible rfl))
          simp only [Act.put]
          refine wpAnyH_done (by kernel_rfl) ?_ _
          refine ahead_last rfl (fun K hK => ?_)
          go_simp
          refine hK _ _ ?_
          clear hK K
          go_wp2_with fail
          exact ⟨⟨i + 1, _, h2, by go_num, ⟨(HRV.out.later hcur).putS z3, HRO.out⟩, HNS.out w8 (below_chain HC7.out hcur) _ (Or.inr ⟨hrz.1, hzo⟩), (below_chain HRB.out hcur).setCell hgb1 _⟩, by simp [intOf]; omega⟩
        · obtain rfl : s = i := by omega
          obtain ⟨ca, cl, cc, hce⟩ := HS.out.1.isSlice
          subst hce
          have hzB := HB.out.size
          go_wp2_with (at_builtin; go_must (refine wpList_append_lies _ rfl _ _ _ rfl W1.heap.size 50 i0 _ 1 24 Tryd.underlying48 HINF.out.1 HINF.out.2.1 HINF.out.2.2.1 HINF.out.2.2.2 rfl (by omega) _ _ _ rfl (HO.out.own.alloc _) ⟨wr.heap.size, 0, none⟩ 1 1 [.slice ca cl cc] rfl rfl (one_new _ _ _) (by simp [Value.oneCell']) (by omega) (by unfold maxLen; omega) (by omega) (by simp; omega) _ rfl ?_; intro g' cap' w9 hown9 hgrow9 hat9 hlt9; have HO9 := Hid.mk' hown9; have HG9 := Hid.mk' hgrow9; clear hown9 hgrow9))
          have hbel := below_push HB.out HO.out.own HG9.out
          have HN9 : ∀ (v : Value) (m : Nat), NatAt wr v m → Off gb v → NatAt w9 v m := fun v m hv ho => (hv.later ((Below.refl _ _).alloc (Nat.le_refl _) _)).grown HG9.out ho
          have hofs : ∀ (v : Value) (m : Nat), NatAt wr v m → Off gb v → Off g' v := fun v m hv ho => by
            rcases hat9 with h9 | h9
            · obtain rfl : gb = g' := Option.some.inj h9
              exact ho
            · exact hv.off (by rw [h9]; simp)
          refine ⟨⟨s + 1, g', cap', fun j => if j = s then .slice ca cl cc else fv j, by omega, by omega, by go_num, rfl, ⟨?_, fun j hj => ?_, fun j hj => ?_⟩, hbel⟩, by simp [intOf]; omega⟩
          · rw [← rowV_push]; exact HO9.out
          · rw [vis_next n V s j hs1]
            by_cases hjs : j = s
            · subst hjs; rw [if_pos rfl, if_neg (by omega)]; exact HN9 _ _ HS.out.1 HS.out.2
            · rw [if_neg hjs, if_pos (by omega)]
              have := HO.out.nats j (by omega)
              unfold visAt at this
              rw [if_pos (by omega)] at this
              exact HN9 _ _ this (HO.out.off j (by omega))
          · by_cases hjs : j = s
            · rw [if_pos hjs]; exact hofs _ _ HS.out.1 HS.out.2
            · rw [if_neg hjs]; exact hofs _ _ (HO.out.nats j (by omega)) (HO.out.off j (by omega))
    · obtain rfl : n = s := by omega
      go_wp2_with fail
      go_ret
      obtain ⟨hge, _, hcells⟩ := ownsRow_cells HO.out.own
      have hw1 := HB1.out.size
      exact ⟨_, rfl, ⟨gb, 0, cap, fv, rfl, fun i hi => ⟨by rw [Nat.zero_add]; exact (hcells i hi).1, HO.out.nats i hi⟩⟩, below_chain HB1.out HB.out, fun b o l c hv => by simp at hv; omega⟩
end Go.Proofs.YtlmehmbipbkeiaaDoor
