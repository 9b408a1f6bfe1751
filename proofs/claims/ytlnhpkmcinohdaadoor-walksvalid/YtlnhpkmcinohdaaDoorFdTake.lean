/- (fold.Chain).takeOut. -/
import Derived.Test.YtlnhpkmcinohdaaDoorFoldAt
import Derived.Test.YtlnhpkmcinohdaaDoorLastOp
namespace Go.Proofs.YtlnhpkmcinohdaaDoor
open Go.RowKit

theorem natAt_none (w : World) : NatAt w (.slice none 0 0) 0 := ⟨[], fun i hi => by simp at hi, fun i hi => by simp at hi, rfl, Or.inl ⟨_, _, rfl, rfl⟩⟩
theorem NatOf_zero (w : World) : Calls Tryd.prog 41 #[.int .u64 0] w fun e w' => e = .returned (.slice none 0 0) ∧ w' = w := by
  go_enter Tryd.func41, Tryd.ntmps41
  go_wp2_with fail
  go_ret
  exact ⟨rfl, rfl⟩
theorem NatOf_all (n : Nat) (w : World) (h : n < 18446744073709551616) : Calls Tryd.prog 41 #[.int .u64 n] w fun e w' => ∃ v, e = .returned v ∧ NatAt w' v n ∧ Below w.heap.size w w' := by
  rcases Nat.eq_zero_or_pos n with rfl | h0
  · exact (NatOf_zero w).mono fun e w' ⟨he, hw⟩ => ⟨_, he, natAt_none _, by rw [hw]; exact Below.refl _ _⟩
  · exact NatOf_any n w h0 h
theorem sumTo_le {z : Nat → Nat} {M : Nat} : ∀ {n : Nat}, (∀ i, i < n → z i ≤ M) → sumTo z n ≤ n * M
  | 0, _ => by simp [sumTo]
  | n + 1, h => by
    have h1 := sumTo_le (n := n) (fun i hi => h i (by omega))
    have h2 := h n (by omega)
    rw [sumTo, Nat.add_mul]; omega

theorem box_later {W W' : World} {bx : Nat} {x0 x1 x2 : Value} (h : W.cell? ⟨bx, 2, none⟩ = some x0 ∧ W.cell? ⟨bx, 3, none⟩ = some x1 ∧ W.cell? ⟨bx, 4, none⟩ = some x2) (hb : Below W.heap.size W W') : W'.cell? ⟨bx, 2, none⟩ = some x0 ∧ W'.cell? ⟨bx, 3, none⟩ = some x1 ∧ W'.cell? ⟨bx, 4, none⟩ = some x2 :=
  ⟨by rw [hb.cell (cell_lt h.1)]; exact h.1, by rw [hb.cell (cell_lt h.2.1)]; exact h.2.1, by rw [hb.cell (cell_lt h.2.2)]; exact h.2.2⟩
theorem box_set {W : World} {bx b k : Nat} {x0 x1 x2 z : Value} (hz : W.cell? ⟨b, k, none⟩ = some z) (hne : b < bx) (h : W.cell? ⟨bx, 2, none⟩ = some x0 ∧ W.cell? ⟨bx, 3, none⟩ = some x1 ∧ W.cell? ⟨bx, 4, none⟩ = some x2) (y : Value) : (W.setCell ⟨b, k, none⟩ y).cell? ⟨bx, 2, none⟩ = some x0 ∧ (W.setCell ⟨b, k, none⟩ y).cell? ⟨bx, 3, none⟩ = some x1 ∧ (W.setCell ⟨b, k, none⟩ y).cell? ⟨bx, 4, none⟩ = some x2 := by
  have hn : ∀ j, (⟨bx, j, none⟩ : Addr) ≠ ⟨b, k, none⟩ := fun j e => by have := congrArg Addr.block e; simp at this; omega
  refine ⟨?_, ?_, ?_⟩
  · rw [cell_put _ hz, if_neg (hn _)]; exact h.1
  · rw [cell_put _ hz, if_neg (hn _)]; exact h.2.1
  · rw [cell_put _ hz, if_neg (hn _)]; exact h.2.2
theorem NatOf_new (n : Nat) (w : World) (h : n < 18446744073709551616) : Calls Tryd.prog 41 #[.int .u64 n] w fun e w' => ∃ v, e = .returned v ∧ NatNew w.heap.size w' v n ∧ Below w.heap.size w w' := by
  rcases Nat.eq_zero_or_pos n with rfl | h0
  · exact (NatOf_zero w).mono fun e w' ⟨he, hw⟩ => ⟨_, he, ⟨natAt_none _, fun b o l c h => by cases h⟩, by rw [hw]; exact Below.refl _ _⟩
  · have hz : ((n : Int) == 0) = false := by simp; omega
    go_enter Tryd.func41, Tryd.ntmps41
    go_wp2_with fail
    go_ret
    refine ⟨_, rfl, ⟨⟨[n], (fun i hi => by simp at hi; subst hi; simpa using h), (fun i hi => by simp at hi; subst hi; simp; omega), wv_single n, Or.inr ⟨w.heap.size, 0, 1, rfl, by simp, by simp, fun i hi => ?_⟩⟩, fun b o l c hv _ => by simp at hv; omega⟩, (Below.refl _ _).alloc (Nat.le_refl _) _⟩
    have : i = 0 := by simp at hi; exact hi
    subst this
    simp

set_option maxRecDepth 100000 in
set_option maxHeartbeats 8000000 in
theorem takeOut_any (w w00 : World) (sad : Option Addr) (sl sc : Nat) (pl : Int) (n s g : Nat) (rb cp : Nat → Nat) (f : Nat → Nat → Value) (V : Nat → Nat → Nat) (h : FoldAt w w00 n g rb cp f V) (hs : s < n) (hn : n ≤ 8) (hV : ∀ i k, i < n + 2 → k < n → V i k < 18446744073709551616 ^ 40) :
    Calls Tryd.prog 70 #[.agg #[.slice sad sl sc, .int .i64 pl, .slice (some ⟨g, 0, none⟩) n n, .slice (some ⟨rb n, 0, none⟩) n n, .slice (some ⟨rb (n + 1), 0, none⟩) n n], .int .i64 s] w00 fun e w' => e = .returned (.tuple #[]) ∧ (∃ f', FoldAt w w' n g rb cp f' (takeV n s V)) ∧ Keeps n rb w00 w' := by
  have hlt : ∀ i, i < n + 2 → rb i < w00.heap.size := fun i hi => cell_lt ((h.rows i hi).row s hs)
  have hgl : g < w00.heap.size := cell_lt (h.outer s hs)
  obtain ⟨bx, hbx⟩ : ∃ bx, bx = w00.heap.size := ⟨_, rfl⟩
  obtain ⟨W1, hW1⟩ : ∃ W1, W1 = w00.alloc (.cells #[.slice sad sl sc, .int .i64 pl, .slice (some ⟨g, 0, none⟩) n n, .slice (some ⟨rb n, 0, none⟩) n n, .slice (some ⟨rb (n + 1), 0, none⟩) n n] 110) := ⟨_, rfl⟩
  have hF1 : FoldAt w W1 n g rb cp f V := h.later (by rw [hW1]; exact (Below.refl _ _).alloc (Nat.le_refl _) _)
  have x0 : W1.cell? ⟨bx, 2, none⟩ = some (.slice (some ⟨g, 0, none⟩) n n) := by rw [hW1]; exact top_cell _ _ _ _ hbx
  have x1 : W1.cell? ⟨bx, 3, none⟩ = some (.slice (some ⟨rb n, 0, none⟩) n n) := by rw [hW1]; exact top_cell _ _ _ _ hbx
  have x2 : W1.cell? ⟨bx, 4, none⟩ = some (.slice (some ⟨rb (n + 1), 0, none⟩) n n) := by rw [hW1]; exact top_cell _ _ _ _ hbx
  rw [← hbx] at hlt hgl
  have HKW : Hid (Keeps n rb w00 W1) := keeps_below (by rw [hW1]; exact (Below.refl _ _).alloc (Nat.le_refl _) _)
  have HX : Hid (W1.cell? ⟨bx, 2, none⟩ = some (.slice (some ⟨g, 0, none⟩) n n) ∧ W1.cell? ⟨bx, 3, none⟩ = some (.slice (some ⟨rb n, 0, none⟩) n n) ∧ W1.cell? ⟨bx, 4, none⟩ = some (.slice (some ⟨rb (n + 1), 0, none⟩) n n)) := ⟨x0, x1, x2⟩
  have HLT := Hid.mk' hlt
  have HF1 := Hid.mk' hF1
  have HV := Hid.mk' hV
  have HSM : Hid (∀ k, k ≤ s → sumTo (V s) k < 18446744073709551616 ^ 41) := fun k hk => by
    have h1 := sumTo_le (z := V s) (M := 18446744073709551616 ^ 40) (n := k) (fun i hi => Nat.le_of_lt (hV s i (by omega) (by omega)))
    have h2 : k * 18446744073709551616 ^ 40 ≤ 8 * 18446744073709551616 ^ 40 := Nat.mul_le_mul_right _ (by omega)
    have h3 : (18446744073709551616 : Nat) ^ 41 = 18446744073709551616 * 18446744073709551616 ^ 40 := by rw [Nat.pow_succ, Nat.mul_comm]
    have h4 : 0 < (18446744073709551616 : Nat) ^ 40 := Nat.pow_pos (by decide)
    generalize (18446744073709551616 : Nat) ^ 40 = P at *
    generalize (18446744073709551616 : Nat) ^ 41 = P1 at *
    omega
  have hz := NatOf_zero W1
  clear h hF1 x0 x1 x2 hlt hV
  go_enter Tryd.func70, Tryd.ntmps70
  go_wp2_with fail
  rw [← hW1, ← hbx]
  refine hz.mono ?_
  clear hz
  rintro e w2 ⟨rfl, hw2⟩
  rw [hw2]
  clear hw2
  clear hW1 hbx
  have hsn : (s : Int) < (n : Int) := by omega
  have hs0 : (0 : Int) ≤ (s : Int) := by omega
  go_wp2_with fail
  go_loopw [4, 11] (fun o t wr => ∃ k : Nat, k ≤ s ∧ t = .int .i64 k ∧ Hid (NatAt wr o (sumTo (V s) k)) ∧ Hid (Below W1.heap.size W1 wr)) (fun _ t _ => s - (intOf t).toNat)
  case atStart => exact ⟨0, Nat.zero_le _, rfl, natAt_none _, Below.refl _ _⟩
  case round =>
    obtain ⟨k, hk, rfl, HO, HB⟩ := hrel
    have HFr := Hid.mk' (HF1.out.later HB.out)
    rcases Nat.lt_or_ge k s with h1 | h1
    · have hks : (k : Int) < (s : Int) := by omega
      have hkn : (k : Int) < (n : Int) := by omega
      have hk0 : (0 : Int) ≤ (k : Int) := by omega
      have y0 : wr.cell? ⟨bx, 2, none⟩ = some (.slice (some ⟨g, 0, none⟩) n n) := by rw [HB.out.cell (cell_lt HX.out.1)]; exact HX.out.1
      have y1 := HFr.out.outer s hs
      have y2 := (HFr.out.rows s (by omega)).row k (by omega)
      have hpl := Plus_any u4 (f s k) (sumTo (V s) k) (V s k) 41 wr HO.out (HFr.out.nats s k (by omega) (by omega)) (HSM.out k (by omega)) (Nat.lt_of_lt_of_le (HV.out s k (by omega) (by omega)) (Nat.pow_le_pow_right (by decide) (by decide))) (by decide)
      have HE : Hid (sumTo (V s) (k + 1) = sumTo (V s) k + V s k) := rfl
      rw [← HE.out] at hpl
      go_wp2_with fail
      refine hpl.mono ?_
      clear hpl
      rintro e w3 ⟨r, rfl, hr, hb3⟩
      have HR := Hid.mk' hr
      have HB3 := Hid.mk' (below_chain HB.out hb3)
      clear hr hb3
      go_wp2_with fail
      exact ⟨⟨k + 1, h1, by go_num, HR, HB3⟩, by simp [intOf]; omega⟩
    · obtain rfl : s = k := by omega
      obtain ⟨out, hout⟩ : ∃ out, out = sumTo (V s) s := ⟨_, rfl⟩
      have HOUT := Hid.mk' hout
      have HOB : Hid (out < 18446744073709551616 ^ 41) := by rw [hout]; exact HSM.out s (Nat.le_refl _)
      rw [← hout] at HO
      clear hout HSM
      have HXr : Hid (wr.cell? ⟨bx, 2, none⟩ = some (.slice (some ⟨g, 0, none⟩) n n) ∧ wr.cell? ⟨bx, 3, none⟩ = some (.slice (some ⟨rb n, 0, none⟩) n n) ∧ wr.cell? ⟨bx, 4, none⟩ = some (.slice (some ⟨rb (n + 1), 0, none⟩) n n)) := ⟨by rw [HB.out.cell (cell_lt HX.out.1)]; exact HX.out.1, by rw [HB.out.cell (cell_lt HX.out.2.1)]; exact HX.out.2.1, by rw [HB.out.cell (cell_lt HX.out.2.2)]; exact HX.out.2.2⟩
      have HFs : Hid (FoldAt w wr n g rb cp f (takeTo n s out V 0 0)) := HFr.out.congr (fun i k _ _ => takeTo_start n s out V i k)
      have HKr : Hid (Keeps n rb w00 wr) := HKW.out.later HB.out
      clear HFr HF1 HB HX
      go_wp2_with fail
      obtain ⟨Wr, hWr⟩ : ∃ Wr, Wr = wr := ⟨_, rfl⟩
      rw [← hWr] at HXr HFs HO HKr ⊢
      clear hWr
      obtain ⟨ov, hov⟩ : ∃ ov, ov = u4 := ⟨_, rfl⟩
      rw [← hov] at HO ⊢
      clear hov
      obtain ⟨oa, ol, oc, hoe⟩ := HO.out.isSlice
      subst hoe
      go_loopw [26] (fun t wr => ∃ (i : Nat) (f' : Nat → Nat → Value), i ≤ s ∧ t = .int .i64 i ∧ Hid (NatAt wr (.slice oa ol oc) out) ∧ Hid (FoldAt w wr n g rb cp f' (takeTo n s out V i 0)) ∧ Hid (wr.cell? ⟨bx, 2, none⟩ = some (.slice (some ⟨g, 0, none⟩) n n) ∧ wr.cell? ⟨bx, 3, none⟩ = some (.slice (some ⟨rb n, 0, none⟩) n n) ∧ wr.cell? ⟨bx, 4, none⟩ = some (.slice (some ⟨rb (n + 1), 0, none⟩) n n)) ∧ Hid (Keeps n rb w00 wr)) (fun t _ => s - (intOf t).toNat)
      case atStart => exact ⟨0, f, Nat.zero_le _, rfl, HO, HFs, HXr, HKr⟩
      case round =>
        clear HO HFs HXr HKr
        obtain ⟨i, f1, hi, rfl, HO, HF, HX, HKE⟩ := hrel
        rcases Nat.lt_or_ge i s with h2 | h2
        · have his : (i : Int) < (s : Int) := by omega
          have hin : (i : Int) < (n : Int) := by omega
          have hi0 : (0 : Int) ≤ (i : Int) := by omega
          have y0 := HX.out.1
          have y1 := HF.out.outer i (by omega)
          have y2 := (HF.out.rows i (by omega)).row s hs
          have HTO := Hid.mk' (HF.out.nats i s (by omega) hs)
          rw [(takeTo_own (k := 0) h2 hs).2.2.1] at HTO
          generalize f1 i s = tq at *
          go_wp2_with fail
          obtain ⟨Wr, hWr⟩ : ∃ Wr, Wr = wr := ⟨_, rfl⟩
          rw [← hWr] at HX HF HO HTO HKE ⊢
          clear hWr y0 y1 y2
          go_loopw [38] (fun t wr => ∃ (k : Nat) (f' : Nat → Nat → Value), k ≤ s ∧ t = .int .i64 k ∧ Hid (NatAt wr (.slice oa ol oc) out) ∧ Hid (NatAt wr tq (V i s)) ∧ Hid (FoldAt w wr n g rb cp f' (takeTo n s out V i k)) ∧ Hid (wr.cell? ⟨bx, 2, none⟩ = some (.slice (some ⟨g, 0, none⟩) n n) ∧ wr.cell? ⟨bx, 3, none⟩ = some (.slice (some ⟨rb n, 0, none⟩) n n) ∧ wr.cell? ⟨bx, 4, none⟩ = some (.slice (some ⟨rb (n + 1), 0, none⟩) n n)) ∧ Hid (Keeps n rb w00 wr)) (fun t _ => s - (intOf t).toNat)
          case atStart => exact ⟨0, f1, Nat.zero_le _, rfl, HO, HTO, HF, HX, HKE⟩
          case round =>
            clear HO HTO HF HX HKE
            obtain ⟨k, f2, hk, rfl, HO, HTO, HF, HX, HKE⟩ := hrel
            rcases Nat.lt_or_ge k s with h3 | h3
            · have hks : (k : Int) < (s : Int) := by omega
              have hkn : (k : Int) < (n : Int) := by omega
              have hk0 : (0 : Int) ≤ (k : Int) := by omega
              have y0 := HX.out.1
              have y1 := HF.out.outer i (by omega)
              have y2 := HF.out.outer s hs
              have y3 := (HF.out.rows i (by omega)).row k (by omega)
              have y4 := (HF.out.rows s (by omega)).row k (by omega)
              have y5 := (HF.out.rows i (by omega)).fz k (by omega)
              have HN1 := Hid.mk' (HF.out.nats i k (by omega) (by omega))
              have HN2 := Hid.mk' (HF.out.nats s k (by omega) (by omega))
              rw [(takeTo_own h2 hs).1] at HN1
              rw [(takeTo_own h2 hs).2.1] at HN2
              have hv1 := HV.out i k (by omega) (by omega)
              have hv2 := HV.out s k (by omega) (by omega)
              have hv3 := HV.out i s (by omega) hs
              have HVB : Hid (V i k < 18446744073709551616 ^ 41 ∧ V s k < 18446744073709551616 ^ 41 ∧ V i s < 18446744073709551616 ^ 41) := ⟨Nat.lt_of_lt_of_le hv1 (Nat.pow_le_pow_right (by decide) (by decide)), Nat.lt_of_lt_of_le hv2 (Nat.pow_le_pow_right (by decide) (by decide)), Nat.lt_of_lt_of_le hv3 (Nat.pow_le_pow_right (by decide) (by decide))⟩
              have HPB : Hid (V i k * out < 18446744073709551616 ^ 82 ∧ V i s * V s k < 18446744073709551616 ^ 82) := ⟨by rw [show 82 = 41 + 41 by decide, Nat.pow_add]; exact Nat.mul_lt_mul'' HVB.out.1 HOB.out, by rw [show 82 = 41 + 41 by decide, Nat.pow_add]; exact Nat.mul_lt_mul'' HVB.out.2.2 HVB.out.2.1⟩
              have HFT : Hid (∀ W, Below wr.heap.size wr W → ∀ y, NatAt W y (V i k * out + V i s * V s k) → ∃ f', FoldAt w (W.setCell ⟨rb i, k, none⟩ y) n g rb cp f' (takeTo n s out V i (k + 1))) := fun W hb y hy => ⟨_, (HF.out.later hb).set (i := i) (k := k) (by omega) (by omega) hy (fun i' k' _ _ => takeTo_next h2 h3 i' k')⟩
              clear hv1 hv2 hv3
              generalize f2 i k = x at *
              generalize f2 s k = y at *
              obtain ⟨xa, xl, xc, hxe⟩ := HN1.out.isSlice
              subst hxe
              have HKS : Hid (∀ W, Below wr.heap.size wr W → (W.cell? ⟨bx, 2, none⟩ = some (.slice (some ⟨g, 0, none⟩) n n) ∧ W.cell? ⟨g, i, none⟩ = some (.slice (some ⟨rb i, 0, none⟩) n (cp i)) ∧ W.cell? ⟨g, s, none⟩ = some (.slice (some ⟨rb s, 0, none⟩) n (cp s)) ∧ W.cell? ⟨rb i, k, none⟩ = some (.slice xa xl xc) ∧ W.cell? ⟨rb s, k, none⟩ = some y)) := fun W hb => ⟨by rw [hb.cell (cell_lt y0)]; exact y0, by rw [hb.cell (cell_lt y1)]; exact y1, by rw [hb.cell (cell_lt y2)]; exact y2, by rw [hb.cell (cell_lt y3)]; exact y3, by rw [hb.cell (cell_lt y4)]; exact y4⟩
              have HB1 : Hid (∀ W, Below wr.heap.size wr W → Calls Tryd.prog 74 #[.slice xa xl xc, .slice oa ol oc] W fun e w' => ∃ r, e = .returned r ∧ NatAt w' r (V i k * out) ∧ Below W.heap.size W w') := fun W hb => By_any (.slice xa xl xc) (.slice oa ol oc) _ _ 41 W (HN1.out.later hb) (HO.out.later hb) HVB.out.1 HOB.out (by decide)
              have HB2 : Hid (∀ W, Below wr.heap.size wr W → Calls Tryd.prog 74 #[tq, y] W fun e w' => ∃ r, e = .returned r ∧ NatAt w' r (V i s * V s k) ∧ Below W.heap.size W w') := fun W hb => By_any tq y _ _ 41 W (HTO.out.later hb) (HN2.out.later hb) HVB.out.2.2 HVB.out.2.1 (by decide)
              have HPL : Hid (∀ W p q, NatAt W p (V i k * out) → NatAt W q (V i s * V s k) → Calls Tryd.prog 42 #[p, q] W fun e w' => ∃ r, e = .returned r ∧ NatAt w' r (V i k * out + V i s * V s k) ∧ Below W.heap.size W w') := fun W p q hp hq => Plus_any p q _ _ 82 W hp hq HPB.out.1 HPB.out.2 (by decide)
              have HFZ : Hid (∀ W, Below wr.heap.size wr W → W.frozen? ⟨rb i, k, none⟩ = false) := fun W hb => by rw [hb.frozen (cell_lt y3)]; exact y5
              have hcur : Below wr.heap.size wr wr.drew := (Below.refl _ _).drew
              clear y0 y1 y2 y3 y4 y5
              go_wp2_with fail
              refine region_but_last (n := 28) (S := fun W => W.cell? ⟨bx, 2, none⟩ = some (.slice (some ⟨g, 0, none⟩) n n) ∧ W.cell? ⟨g, i, none⟩ = some (.slice (some ⟨rb i, 0, none⟩) n (cp i)) ∧ W.cell? ⟨g, s, none⟩ = some (.slice (some ⟨rb s, 0, none⟩) n (cp s)) ∧ W.cell? ⟨rb i, k, none⟩ = some (.slice xa xl xc) ∧ W.cell? ⟨rb s, k, none⟩ = some y) (by kernel_rfl) (by kernel_rfl) (by kernel_rfl) (HKS.out _ hcur) (fun hHeld => ?_)
              refine wpAnyH_take (i := 0) (v := ?v0) rfl (by kernel_rfl) (by kernel_rfl) (by kernel_rfl) (fun _ _ _ h => h) (Or.inl ⟨by rfl, ?hy0⟩) (by assumption) ?rest0
              case hy0 => (intro w hSw; (try dsimp only at hSw); go_simp <;> (try with_reducible rfl))
              simp only [Act.put]
              refine wpAnyH_take (i := 1) (v := ?v1) rfl (by kernel_rfl) (by kernel_rfl) (by kernel_rfl) (fun _ _ _ h => h) (Or.inl ⟨by rfl, ?hy1⟩) (by assumption) ?rest1
              case hy1 => (intro w hSw; (try dsimp only at hSw); go_simp <;> (try with_reducible rfl))
              simp only [Act.put]
              refine wpAnyH_take (i := 2) (v := ?v2) rfl (by kernel_rfl) (by kernel_rfl) (by kernel_rfl) (fun _ _ _ h => h) (Or.inl ⟨by rfl, ?hy2⟩) (by assumption) ?rest2
              case hy2 => (intro w hSw; (try dsimp only at hSw); go_simp <;> (try with_reducible rfl))
              simp only [Act.put]
              refine wpAnyH_take (i := 3) (v := ?v3) rfl (by kernel_rfl) (by kernel_rfl) (by kernel_rfl) (fun _ _ _ h => h) (Or.inl ⟨by rfl, ?hy3⟩) (by assumption) ?rest3
              case hy3 => (intro w hSw; (try dsimp only at hSw); go_simp <;> (try with_reducible rfl))
              simp only [Act.put]
              refine wpAnyH_take (i := 4) (v := ?v4) rfl (by kernel_rfl) (by kernel_rfl) (by kernel_rfl) (fun _ _ _ h => h) (Or.inl ⟨by rfl, ?hy4⟩) (by assumption) ?rest4
              case hy4 => (intro w hSw; (try dsimp only at hSw); go_simp <;> (try with_reducible rfl))
              simp only [Act.put]
              refine wpAnyH_take (i := 5) (v := ?v5) rfl (by kernel_rfl) (by kernel_rfl) (by kernel_rfl) (fun _ _ _ h => h) (Or.inl ⟨by rfl, ?hy5⟩) (by assumption) ?rest5
              case hy5 => (intro w hSw; (try dsimp only at hSw); go_simp <;> (try with_reducible rfl))
              simp only [Act.put]
              refine wpAnyH_take (i := 6) (v := ?v6) rfl (by kernel_rfl) (by kernel_rfl) (by kernel_rfl) (fun _ _ _ h => h) (Or.inl ⟨by rfl, ?hy6⟩) (by assumption) ?rest6
              case hy6 => (intro w hSw; (try dsimp only at hSw); go_simp <;> (try with_reducible rfl))
              simp only [Act.put]
              refine wpAnyH_take (i := 7) (v := ?v7) rfl (by kernel_rfl) (by kernel_rfl) (by kernel_rfl) (fun _ _ _ h => h) (Or.inl ⟨by rfl, ?hy7⟩) (by assumption) ?rest7
              case hy7 => (intro w hSw; (try dsimp only at hSw); go_simp <;> (try with_reducible rfl))
              simp only [Act.put]
              refine wpAnyH_take (i := 8) (v := ?v8) rfl (by kernel_rfl) (by kernel_rfl) (by kernel_rfl) (fun _ _ _ h => h) (Or.inl ⟨by rfl, ?hy8⟩) (by assumption) ?rest8
              case hy8 => (intro w hSw; (try dsimp only at hSw); go_simp <;> (try with_reducible rfl))
              simp only [Act.put]
              refine wpAnyH_take (i := 9) (v := ?v9) rfl (by kernel_rfl) (by kernel_rfl) (by kernel_rfl) (fun _ _ _ h => h) (Or.inl ⟨by rfl, ?hy9⟩) (by assumption) ?rest9
              case hy9 => (intro w hSw; (try dsimp only at hSw); go_simp <;> (try with_reducible rfl))
              simp only [Act.put]
              refine wpAnyH_take (i := 10) (v := ?v10) rfl (by kernel_rfl) (by kernel_rfl) (by kernel_rfl) (fun _ _ _ h => h) (Or.inl ⟨by rfl, ?hy10⟩) (by assumption) ?rest10
              case hy10 => (intro w hSw; (try dsimp only at hSw); go_simp <;> (try with_reducible rfl))
              simp only [Act.put]
              refine wpAnyH_take (i := 11) (v := ?v11) rfl (by kernel_rfl) (by kernel_rfl) (by kernel_rfl) (fun _ _ _ h => h) (Or.inl ⟨by rfl, ?hy11⟩) (by assumption) ?rest11
              case hy11 => (intro w hSw; (try dsimp only at hSw); go_simp <;> (try with_reducible rfl))
              simp only [Act.put]
              refine wpAnyH_take (i := 12) (v := ?v12) rfl (by kernel_rfl) (by kernel_rfl) (by kernel_rfl) (fun _ _ _ h => h) (Or.inl ⟨by rfl, ?hy12⟩) (by assumption) ?rest12
              case hy12 => (intro w hSw; (try dsimp only at hSw); go_simp <;> (try with_reducible rfl))
              simp only [Act.put]
              refine wpAnyH_take (i := 13) (v := ?v13) rfl (by kernel_rfl) (by kernel_rfl) (by kernel_rfl) (fun _ _ _ h => h) (Or.inl ⟨by rfl, ?hy13⟩) (by assumption) ?rest13
              case hy13 => (intro w hSw; (try dsimp only at hSw); go_simp <;> (try with_reducible rfl))
              simp only [Act.put]
              refine wpAnyH_take (i := 14) (v := ?v14) rfl (by kernel_rfl) (by kernel_rfl) (by kernel_rfl) (fun _ _ _ h => h) (Or.inl ⟨by rfl, ?hy14⟩) (by assumption) ?rest14
              case hy14 => (intro w hSw; (try dsimp only at hSw); go_simp <;> (try with_reducible rfl))
              simp only [Act.put]
              refine wpAnyH_take (i := 16) (v := ?v16) rfl (by kernel_rfl) (by kernel_rfl) (by kernel_rfl) (fun _ _ _ h => h) (Or.inl ⟨by rfl, ?hy16⟩) (by assumption) ?rest16
              case hy16 => (intro w hSw; (try dsimp only at hSw); go_simp <;> (try with_reducible rfl))
              simp only [Act.put]
              refine wpAnyH_take (i := 17) (v := ?v17) rfl (by kernel_rfl) (by kernel_rfl) (by kernel_rfl) (fun _ _ _ h => h) (Or.inl ⟨by rfl, ?hy17⟩) (by assumption) ?rest17
              case hy17 => (intro w hSw; (try dsimp only at hSw); go_simp <;> (try with_reducible rfl))
              simp only [Act.put]
              refine wpAnyH_take (i := 18) (v := ?v18) rfl (by kernel_rfl) (by kernel_rfl) (by kernel_rfl) (fun _ _ _ h => h) (Or.inl ⟨by rfl, ?hy18⟩) (by assumption) ?rest18
              case hy18 => (intro w hSw; (try dsimp only at hSw); go_simp <;> (try with_reducible rfl))
              simp only [Act.put]
              refine wpAnyH_take (i := 19) (v := ?v19) rfl (by kernel_rfl) (by kernel_rfl) (by kernel_rfl) (fun _ _ _ h => h) (Or.inl ⟨by rfl, ?hy19⟩) (by assumption) ?rest19
              case hy19 => (intro w hSw; (try dsimp only at hSw); go_simp <;> (try with_reducible rfl))
              simp only [Act.put]
              refine wpAnyH_take (i := 20) (v := ?v20) rfl (by kernel_rfl) (by kernel_rfl) (by kernel_rfl) (fun _ _ _ h => h) (Or.inl ⟨by rfl, ?hy20⟩) (by assumption) ?rest20
              case hy20 => (intro w hSw; (try dsimp only at hSw); go_simp <;> (try with_reducible rfl))
              simp only [Act.put]
              refine wpAnyH_take (i := 21) (v := ?v21) rfl (by kernel_rfl) (by kernel_rfl) (by kernel_rfl) (fun _ _ _ h => h) (Or.inl ⟨by rfl, ?hy21⟩) (by assumption) ?rest21
              case hy21 => (intro w hSw; (try dsimp only at hSw); go_simp <;> (try with_reducible rfl))
              simp only [Act.put]
              refine wpAnyH_take (i := 22) (v := ?v22) rfl (by kernel_rfl) (by kernel_rfl) (by kernel_rfl) (fun _ _ _ h => h) (Or.inl ⟨by rfl, ?hy22⟩) (by assumption) ?rest22
              case hy22 => (intro w hSw; (try dsimp only at hSw); go_simp <;> (try with_reducible rfl))
              simp only [Act.put]
              refine wpAnyH_take (i := 23) (v := ?v23) rfl (by kernel_rfl) (by kernel_rfl) (by kernel_rfl) (fun _ _ _ h => h) (Or.inl ⟨by rfl, ?hy23⟩) (by assumption) ?rest23
              case hy23 => (intro w hSw; (try dsimp only at hSw); go_simp <;> (try with_reducible rfl))
              simp only [Act.put]
              refine wpAnyH_take (i := 24) (v := ?v24) rfl (by kernel_rfl) (by kernel_rfl) (by kernel_rfl) (fun _ _ _ h => h) (Or.inl ⟨by rfl, ?hy24⟩) (by assumption) ?rest24
              case hy24 => (intro w hSw; (try dsimp only at hSw); go_simp <;> (try with_reducible rfl))
              simp only [Act.put]
              refine wpAnyH_ready (rs := [15]) (by kernel_rfl) (by simp) ?_
              refine AllReadyH.cons rfl (fun K hK => ?_) AllReadyH.nil
              go_simp
              refine (HB1.out _ hcur).mono ?_
              rintro e w5 ⟨rp, rfl, hrp, hb5⟩
              have hcur := below_chain hcur hb5
              have HXP := Hid.mk' hrp
              go_wp2_with fail
              refine hK.out _ _ ?_ (fun hHeld => ?_)
              · exact HKS.out _ hcur
              clear hK K
              refine wpAnyH_ready (rs := [25]) (by kernel_rfl) (by simp) ?_
              refine AllReadyH.cons rfl (fun K hK => ?_) AllReadyH.nil
              go_simp
              refine (HB2.out _ hcur).mono ?_
              rintro e w6 ⟨rq, rfl, hrq, hb6⟩
              have hcur := below_chain hcur hb6
              have HXQ := Hid.mk' hrq
              go_wp2_with fail
              refine hK.out _ _ ?_ (fun hHeld => ?_)
              · exact HKS.out _ hcur
              clear hK K
              refine wpAnyH_ready (rs := [26]) (by kernel_rfl) (by simp) ?_
              refine AllReadyH.cons rfl (fun K hK => ?_) AllReadyH.nil
              go_simp
              refine (HPL.out _ _ _ (HXP.out.later hb6) HXQ.out).mono ?_
              rintro e w7 ⟨rv, rfl, hrv, hb7⟩
              obtain ⟨ra, rl, rc, rfl⟩ := hrv.isSlice
              have hcur := below_chain hcur hb7
              have z5 := HFZ.out _ hcur
              have z3 := (HKS.out _ hcur).2.2.2.1
              go_wp2_with fail
              refine hK.out _ _ ?_ (fun hHeld => ?_)
              · exact HKS.out _ hcur
              clear hK K
              refine wpAnyH_take (i := 27) (v := ?v27) rfl (by kernel_rfl) (by kernel_rfl) (by kernel_rfl) (fun _ _ _ h => h) (Or.inl ⟨by rfl, ?hy27⟩) (by assumption) ?rest27
              case hy27 => (intro w hSw; (try dsimp only at hSw); go_simp <;> (try with_reducible rfl))
              simp only [Act.put]
              refine wpAnyH_done (by kernel_rfl) ?_ _
              refine ahead_last rfl (fun K hK => ?_)
              go_simp
              refine hK _ _ ?_
              clear hK K
              go_wp2_with fail
              obtain ⟨f3, hf3⟩ := HFT.out w7 hcur _ hrv
              refine ⟨⟨k + 1, f3, h3, by go_num, (HO.out.later hcur).putS z3, (HTO.out.later hcur).putS z3, hf3, ?_, (HKE.out.later hcur).set (by omega) _ _⟩, by simp [intOf]; omega⟩
              exact box_set z3 (HLT.out i (by omega)) (box_later HX.out hcur) _
            · obtain rfl : s = k := by omega
              have y0 := HX.out.2.1
              have y3 := (HF.out.rows n (by omega)).row i (by omega)
              have y4 := (HF.out.rows n (by omega)).row s hs
              have y5 := (HF.out.rows n (by omega)).fz i (by omega)
              have HN1 := Hid.mk' (HF.out.nats n i (by omega) (by omega))
              have HN2 := Hid.mk' (HF.out.nats n s (by omega) hs)
              rw [(takeTo_own (k := 0) h2 hs).2.2.2.1] at HN1
              rw [(takeTo_own (k := 0) h2 hs).2.2.2.2] at HN2
              have hv1 := HV.out n i (by omega) (by omega)
              have hv2 := HV.out n s (by omega) hs
              have hv3 := HV.out i s (by omega) hs
              have HVB : Hid (V n i < 18446744073709551616 ^ 41 ∧ V n s < 18446744073709551616 ^ 41 ∧ V i s < 18446744073709551616 ^ 41) := ⟨Nat.lt_of_lt_of_le hv1 (Nat.pow_le_pow_right (by decide) (by decide)), Nat.lt_of_lt_of_le hv2 (Nat.pow_le_pow_right (by decide) (by decide)), Nat.lt_of_lt_of_le hv3 (Nat.pow_le_pow_right (by decide) (by decide))⟩
              have HPB : Hid (V n i * out < 18446744073709551616 ^ 82 ∧ V i s * V n s < 18446744073709551616 ^ 82) := ⟨by rw [show 82 = 41 + 41 by decide, Nat.pow_add]; exact Nat.mul_lt_mul'' HVB.out.1 HOB.out, by rw [show 82 = 41 + 41 by decide, Nat.pow_add]; exact Nat.mul_lt_mul'' HVB.out.2.2 HVB.out.2.1⟩
              have HFT : Hid (∀ W, Below wr.heap.size wr W → ∀ y, NatAt W y (V n i * out + V i s * V n s) → ∃ f', FoldAt w (W.setCell ⟨rb n, i, none⟩ y) n g rb cp f' (takeTo n s out V (i + 1) 0)) := fun W hb y hy => ⟨_, (HF.out.later hb).set (i := n) (k := i) (by omega) (by omega) hy (fun i' k' _ _ => takeTo_row h2 hs i' k')⟩
              clear hv1 hv2 hv3
              generalize f2 n i = x at *
              generalize f2 n s = y at *
              obtain ⟨xa, xl, xc, hxe⟩ := HN1.out.isSlice
              subst hxe
              have HKS : Hid (∀ W, Below wr.heap.size wr W → (W.cell? ⟨bx, 3, none⟩ = some (.slice (some ⟨rb n, 0, none⟩) n n) ∧ W.cell? ⟨rb n, i, none⟩ = some (.slice xa xl xc) ∧ W.cell? ⟨rb n, s, none⟩ = some y)) := fun W hb => ⟨by rw [hb.cell (cell_lt y0)]; exact y0, by rw [hb.cell (cell_lt y3)]; exact y3, by rw [hb.cell (cell_lt y4)]; exact y4⟩
              have HB1 : Hid (∀ W, Below wr.heap.size wr W → Calls Tryd.prog 74 #[.slice xa xl xc, .slice oa ol oc] W fun e w' => ∃ r, e = .returned r ∧ NatAt w' r (V n i * out) ∧ Below W.heap.size W w') := fun W hb => By_any (.slice xa xl xc) (.slice oa ol oc) _ _ 41 W (HN1.out.later hb) (HO.out.later hb) HVB.out.1 HOB.out (by decide)
              have HB2 : Hid (∀ W, Below wr.heap.size wr W → Calls Tryd.prog 74 #[tq, y] W fun e w' => ∃ r, e = .returned r ∧ NatAt w' r (V i s * V n s) ∧ Below W.heap.size W w') := fun W hb => By_any tq y _ _ 41 W (HTO.out.later hb) (HN2.out.later hb) HVB.out.2.2 HVB.out.2.1 (by decide)
              have HPL : Hid (∀ W p q, NatAt W p (V n i * out) → NatAt W q (V i s * V n s) → Calls Tryd.prog 42 #[p, q] W fun e w' => ∃ r, e = .returned r ∧ NatAt w' r (V n i * out + V i s * V n s) ∧ Below W.heap.size W w') := fun W p q hp hq => Plus_any p q _ _ 82 W hp hq HPB.out.1 HPB.out.2 (by decide)
              have HFZ : Hid (∀ W, Below wr.heap.size wr W → W.frozen? ⟨rb n, i, none⟩ = false) := fun W hb => by rw [hb.frozen (cell_lt y3)]; exact y5
              have hcur : Below wr.heap.size wr wr.drew := (Below.refl _ _).drew
              clear y0 y3 y4 y5
              go_wp2_with fail
              refine region_but_last (n := 19) (S := fun W => W.cell? ⟨bx, 3, none⟩ = some (.slice (some ⟨rb n, 0, none⟩) n n) ∧ W.cell? ⟨rb n, i, none⟩ = some (.slice xa xl xc) ∧ W.cell? ⟨rb n, s, none⟩ = some y) (by kernel_rfl) (by kernel_rfl) (by kernel_rfl) (HKS.out _ hcur) (fun hHeld => ?_)
              refine wpAnyH_take (i := 0) (v := ?v0c) rfl (by kernel_rfl) (by kernel_rfl) (by kernel_rfl) (fun _ _ _ h => h) (Or.inl ⟨by rfl, ?hy0c⟩) (by assumption) ?rest0c
              case hy0c => (intro w hSw; (try dsimp only at hSw); go_simp <;> (try with_reducible rfl))
              simp only [Act.put]
              refine wpAnyH_take (i := 1) (v := ?v1c) rfl (by kernel_rfl) (by kernel_rfl) (by kernel_rfl) (fun _ _ _ h => h) (Or.inl ⟨by rfl, ?hy1c⟩) (by assumption) ?rest1c
              case hy1c => (intro w hSw; (try dsimp only at hSw); go_simp <;> (try with_reducible rfl))
              simp only [Act.put]
              refine wpAnyH_take (i := 2) (v := ?v2c) rfl (by kernel_rfl) (by kernel_rfl) (by kernel_rfl) (fun _ _ _ h => h) (Or.inl ⟨by rfl, ?hy2c⟩) (by assumption) ?rest2c
              case hy2c => (intro w hSw; (try dsimp only at hSw); go_simp <;> (try with_reducible rfl))
              simp only [Act.put]
              refine wpAnyH_take (i := 3) (v := ?v3c) rfl (by kernel_rfl) (by kernel_rfl) (by kernel_rfl) (fun _ _ _ h => h) (Or.inl ⟨by rfl, ?hy3c⟩) (by assumption) ?rest3c
              case hy3c => (intro w hSw; (try dsimp only at hSw); go_simp <;> (try with_reducible rfl))
              simp only [Act.put]
              refine wpAnyH_take (i := 4) (v := ?v4c) rfl (by kernel_rfl) (by kernel_rfl) (by kernel_rfl) (fun _ _ _ h => h) (Or.inl ⟨by rfl, ?hy4c⟩) (by assumption) ?rest4c
              case hy4c => (intro w hSw; (try dsimp only at hSw); go_simp <;> (try with_reducible rfl))
              simp only [Act.put]
              refine wpAnyH_take (i := 5) (v := ?v5c) rfl (by kernel_rfl) (by kernel_rfl) (by kernel_rfl) (fun _ _ _ h => h) (Or.inl ⟨by rfl, ?hy5c⟩) (by assumption) ?rest5c
              case hy5c => (intro w hSw; (try dsimp only at hSw); go_simp <;> (try with_reducible rfl))
              simp only [Act.put]
              refine wpAnyH_take (i := 6) (v := ?v6c) rfl (by kernel_rfl) (by kernel_rfl) (by kernel_rfl) (fun _ _ _ h => h) (Or.inl ⟨by rfl, ?hy6c⟩) (by assumption) ?rest6c
              case hy6c => (intro w hSw; (try dsimp only at hSw); go_simp <;> (try with_reducible rfl))
              simp only [Act.put]
              refine wpAnyH_take (i := 7) (v := ?v7c) rfl (by kernel_rfl) (by kernel_rfl) (by kernel_rfl) (fun _ _ _ h => h) (Or.inl ⟨by rfl, ?hy7c⟩) (by assumption) ?rest7c
              case hy7c => (intro w hSw; (try dsimp only at hSw); go_simp <;> (try with_reducible rfl))
              simp only [Act.put]
              refine wpAnyH_take (i := 8) (v := ?v8c) rfl (by kernel_rfl) (by kernel_rfl) (by kernel_rfl) (fun _ _ _ h => h) (Or.inl ⟨by rfl, ?hy8c⟩) (by assumption) ?rest8c
              case hy8c => (intro w hSw; (try dsimp only at hSw); go_simp <;> (try with_reducible rfl))
              simp only [Act.put]
              refine wpAnyH_take (i := 10) (v := ?v10c) rfl (by kernel_rfl) (by kernel_rfl) (by kernel_rfl) (fun _ _ _ h => h) (Or.inl ⟨by rfl, ?hy10c⟩) (by assumption) ?rest10c
              case hy10c => (intro w hSw; (try dsimp only at hSw); go_simp <;> (try with_reducible rfl))
              simp only [Act.put]
              refine wpAnyH_take (i := 11) (v := ?v11c) rfl (by kernel_rfl) (by kernel_rfl) (by kernel_rfl) (fun _ _ _ h => h) (Or.inl ⟨by rfl, ?hy11c⟩) (by assumption) ?rest11c
              case hy11c => (intro w hSw; (try dsimp only at hSw); go_simp <;> (try with_reducible rfl))
              simp only [Act.put]
              refine wpAnyH_take (i := 12) (v := ?v12c) rfl (by kernel_rfl) (by kernel_rfl) (by kernel_rfl) (fun _ _ _ h => h) (Or.inl ⟨by rfl, ?hy12c⟩) (by assumption) ?rest12c
              case hy12c => (intro w hSw; (try dsimp only at hSw); go_simp <;> (try with_reducible rfl))
              simp only [Act.put]
              refine wpAnyH_take (i := 13) (v := ?v13c) rfl (by kernel_rfl) (by kernel_rfl) (by kernel_rfl) (fun _ _ _ h => h) (Or.inl ⟨by rfl, ?hy13c⟩) (by assumption) ?rest13c
              case hy13c => (intro w hSw; (try dsimp only at hSw); go_simp <;> (try with_reducible rfl))
              simp only [Act.put]
              refine wpAnyH_take (i := 14) (v := ?v14c) rfl (by kernel_rfl) (by kernel_rfl) (by kernel_rfl) (fun _ _ _ h => h) (Or.inl ⟨by rfl, ?hy14c⟩) (by assumption) ?rest14c
              case hy14c => (intro w hSw; (try dsimp only at hSw); go_simp <;> (try with_reducible rfl))
              simp only [Act.put]
              refine wpAnyH_take (i := 15) (v := ?v15c) rfl (by kernel_rfl) (by kernel_rfl) (by kernel_rfl) (fun _ _ _ h => h) (Or.inl ⟨by rfl, ?hy15c⟩) (by assumption) ?rest15c
              case hy15c => (intro w hSw; (try dsimp only at hSw); go_simp <;> (try with_reducible rfl))
              simp only [Act.put]
              refine wpAnyH_ready (rs := [9]) (by kernel_rfl) (by simp) ?_
              refine AllReadyH.cons rfl (fun K hK => ?_) AllReadyH.nil
              go_simp
              refine (HB1.out _ hcur).mono ?_
              rintro e w5 ⟨rp, rfl, hrp, hb5⟩
              have hcur := below_chain hcur hb5
              have HXP := Hid.mk' hrp
              go_wp2_with fail
              refine hK.out _ _ ?_ (fun hHeld => ?_)
              · exact HKS.out _ hcur
              clear hK K
              refine wpAnyH_ready (rs := [16]) (by kernel_rfl) (by simp) ?_
              refine AllReadyH.cons rfl (fun K hK => ?_) AllReadyH.nil
              go_simp
              refine (HB2.out _ hcur).mono ?_
              rintro e w6 ⟨rq, rfl, hrq, hb6⟩
              have hcur := below_chain hcur hb6
              have HXQ := Hid.mk' hrq
              go_wp2_with fail
              refine hK.out _ _ ?_ (fun hHeld => ?_)
              · exact HKS.out _ hcur
              clear hK K
              refine wpAnyH_ready (rs := [17]) (by kernel_rfl) (by simp) ?_
              refine AllReadyH.cons rfl (fun K hK => ?_) AllReadyH.nil
              go_simp
              refine (HPL.out _ _ _ (HXP.out.later hb6) HXQ.out).mono ?_
              rintro e w7 ⟨rv, rfl, hrv, hb7⟩
              obtain ⟨ra, rl, rc, rfl⟩ := hrv.isSlice
              have hcur := below_chain hcur hb7
              have z5 := HFZ.out _ hcur
              have z3 := (HKS.out _ hcur).2.1
              go_wp2_with fail
              refine hK.out _ _ ?_ (fun hHeld => ?_)
              · exact HKS.out _ hcur
              clear hK K
              refine wpAnyH_take (i := 18) (v := ?v18c) rfl (by kernel_rfl) (by kernel_rfl) (by kernel_rfl) (fun _ _ _ h => h) (Or.inl ⟨by rfl, ?hy18c⟩) (by assumption) ?rest18c
              case hy18c => (intro w hSw; (try dsimp only at hSw); go_simp <;> (try with_reducible rfl))
              simp only [Act.put]
              refine wpAnyH_done (by kernel_rfl) ?_ _
              refine ahead_last rfl (fun K hK => ?_)
              go_simp
              refine hK _ _ ?_
              clear hK K
              go_wp2_with fail
              obtain ⟨f3, hf3⟩ := HFT.out w7 hcur _ hrv
              refine ⟨⟨i + 1, f3, h2, by go_num, (HO.out.later hcur).putS z3, hf3, ?_, (HKE.out.later hcur).set (i := n) (by omega) _ _⟩, by simp [intOf]; omega⟩
              exact box_set z3 (HLT.out n (by omega)) (box_later HX.out hcur) _
        · obtain rfl : s = i := by omega
          have y2 := HX.out.2.2
          have c1 := (HF.out.rows (n + 1) (by omega)).row s hs
          have c2 := (HF.out.rows (n + 1) (by omega)).fz s hs
          have HS := Hid.mk' (HF.out.set (i := n + 1) (k := s) (by omega) hs HO.out (V' := takeV n s V) (fun i k _ _ => by unfold takeV; rw [HOUT.out]))
          go_wp2_with fail
          go_end0
          exact ⟨rfl, ⟨_, HS.out⟩, HKE.out.set (i := n + 1) (by omega) _ _⟩
end Go.Proofs.YtlnhpkmcinohdaaDoor
