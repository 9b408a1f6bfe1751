/- Rows' and columns' sums: the document's and the program's. -/
import Derived.Test.YtfnmpkkfdljgcaaDoorTabMath
import Derived.Test.YtfnmpkkfdljgcaaDoorTabP
import Derived.Test.YtfnmpkkfdljgcaaDoorFills
namespace Go.Proofs.YtfnmpkkfdljgcaaDoor
open Go.RowKit

def rowSum (ns : Nat → Nat) (zs : Nat → Nat → Int) (i : Nat) : Int := sumN (zs i) (ns i)
/-- A right table's rows, as the walk reads them. -/
theorem tab_rows {w : World} {ad : Option Addr} {R cap : Nat} {vs : Nat → Value} {ns : Nat → Nat} {zs : Nat → Nat → Int} {N : Nat} (h : TabAt w (.slice ad R cap) R vs ns zs) (hk : OkT R ns zs N) : ∃ b o, ad = some ⟨b, o, none⟩ ∧ ∀ W, Below w.heap.size w W → ∀ i, i < R → ∃ b1 o1 cap1, W.cell? ⟨b, o + i, none⟩ = some (.slice (some ⟨b1, o1, none⟩) (ns 0) cap1) ∧ RowAt W b1 o1 (ns 0) (zs i) := by
  rcases h with ⟨_, _, _, h0⟩ | ⟨b, o, c, hv, _, hr⟩
  · have := hk.r0; omega
  · simp only [Value.slice.injEq, true_and] at hv
    obtain ⟨rfl, rfl⟩ := hv
    refine ⟨b, o, rfl, fun W hb i hi => ?_⟩
    obtain ⟨h1, h2⟩ := hr i hi
    have he := hk.even i hi
    have hc := hk.c0
    rcases h2.later hb with ⟨_, _, _, h3⟩ | ⟨b1, o1, c1, hv1, _, hr1⟩
    · omega
    · rw [he] at hv1 hr1
      exact ⟨b1, o1, c1, by rw [hb.cell (cell_lt h1), h1, hv1], hr1⟩

set_option maxRecDepth 100000 in
set_option maxHeartbeats 2000000 in
theorem RowsOf_any (ad : Option Addr) (R cap N : Nat) (vs : Nat → Value) (ns : Nat → Nat) (zs : Nat → Nat → Int) (w : World) (h : TabAt w (.slice ad R cap) R vs ns zs) (hk : OkT R ns zs N) :
    Calls Tryd.prog 14 #[.slice ad R cap] w fun e w' => ∃ v, e = .returned v ∧ NumsAt w' v R (rowSum ns zs) ∧ Below w.heap.size w w' := by
  obtain ⟨b, o, rfl, hr⟩ := tab_rows h hk
  obtain ⟨i0, hi, hz0, hz1, hz2⟩ := info_parts Tryd.infoInt
  have HINF : Hid (Tryd.prog.info? 3 = some i0 ∧ i0.zero = some (.int .i64 0) ∧ i0.size = 1 ∧ i0.bytes = 8) := ⟨hi, hz0, hz1, hz2⟩
  have HR := Hid.mk' hr
  have HK := Hid.mk' hk
  have hR16 := hk.r16
  clear hi hz0 hz1 hz2 hr h hk
  go_enter Tryd.func14, Tryd.ntmps14
  go_wp2_with fail
  go_loopw [3, 4] (fun u i wr => ∃ k : Nat, k ≤ R ∧ i = .int .i64 k ∧ Hid (wr.ownsRow w.heap.size 3 1 u k (numCells (rowSum ns zs) k)) ∧ Hid (Below w.heap.size w wr)) (fun _ i _ => R - (intOf i).toNat)
  case atStart => exact ⟨0, Nat.zero_le _, rfl, ⟨rfl, Or.inl ⟨rfl, rfl⟩⟩, Below.refl _ _⟩
  case round =>
    obtain ⟨k, hk, rfl, HO, HB⟩ := hrel
    rcases Nat.lt_or_ge k R with h1 | h1
    · obtain ⟨b1, o1, cap1, hc, hr1⟩ := HR.out wr HB.out k h1
      have hS := Sum_some b1 o1 cap1 (ns 0) (zs k) wr hr1 (fun j hj => by have := HK.out.part h1 (k := j) (by rw [HK.out.even k h1]; exact hj); omega) (fun j hj => by have := HK.out.cell h1 (j := j) (by rw [HK.out.even k h1]; exact hj); omega) (by have := HK.out.c16; omega)
      have HV : Hid (sumN (zs k) (ns 0) = rowSum ns zs k) := by show _ = sumN (zs k) (ns k); rw [HK.out.even k h1]
      rw [HV.out] at hS
      have hkn : (k : Int) < (R : Int) := by omega
      have hzB := HB.out.size
      clear hr1
      go_wp2_with (first
        | (go_at_call 31; refine hS.mono ?_; rintro e w4 ⟨rfl, hw4⟩; rw [hw4]; clear hw4)
        | (at_builtin; go_must (refine wpList_append_lies _ rfl _ _ _ rfl w.heap.size 3 i0 _ 1 8 Tryd.underlying26 HINF.out.1 HINF.out.2.1 HINF.out.2.2.1 HINF.out.2.2.2 rfl (by omega) u3 _ _ rfl (HO.out.alloc _) ⟨wr.heap.size, 0, none⟩ 1 1 [.int .i64 (rowSum ns zs k)] rfl rfl (one_new _ _ _) (by simp [Value.oneCell']) (by omega) (by unfold maxLen; omega) (by omega) (by simp; omega) _ rfl ?_; intro g' cap2 w3 hown3 hgrow3 hat3 hlt3; have HO3 := Hid.mk' hown3; have HG3 := Hid.mk' hgrow3; clear hown3 hgrow3 hat3)))
      exact ⟨⟨k + 1, h1, by go_num, HO3, below_push HB.out HO.out HG3.out⟩, by simp [intOf]; omega⟩
    · obtain rfl : k = R := by omega
      go_wp2_with fail
      go_ret
      exact ⟨_, rfl, numsAt_own HO.out, HB.out⟩

set_option maxRecDepth 100000 in
set_option maxHeartbeats 2000000 in
theorem ColumnsOf_any (ad : Option Addr) (R cap N : Nat) (vs : Nat → Value) (ns : Nat → Nat) (zs : Nat → Nat → Int) (w : World) (h : TabAt w (.slice ad R cap) R vs ns zs) (hk : OkT R ns zs N) :
    Calls Tryd.prog 15 #[.slice ad R cap] w fun e w' => ∃ v, e = .returned v ∧ NumsAt w' v (ns 0) (colV zs R) ∧ Below w.heap.size w w' := by
  obtain ⟨b, o, rfl, hr⟩ := tab_rows h hk
  obtain ⟨i0, hi, hz0, hz1, hz2⟩ := info_parts Tryd.infoInt
  have HINF : Hid (Tryd.prog.info? 3 = some i0 ∧ i0.zero = some (.int .i64 0) ∧ i0.size = 1 ∧ i0.bytes = 8) := ⟨hi, hz0, hz1, hz2⟩
  have HR := Hid.mk' hr
  have HK := Hid.mk' hk
  have hR16 := hk.r16
  have hR0 := hk.r0
  have hc16 := hk.c16
  clear hi hz0 hz1 hz2 hr h hk
  generalize hC : ns 0 = C at *
  go_enter Tryd.func15, Tryd.ntmps15
  go_wp2_with fail
  go_loopw [3, 4, 5, 6] (fun u i _ _ wr => ∃ j : Nat, j ≤ C ∧ i = .int .i64 j ∧ Hid (wr.ownsRow w.heap.size 3 1 u j (numCells (colV zs R) j)) ∧ Hid (Below w.heap.size w wr)) (fun _ i _ _ _ => C - (intOf i).toNat)
  case atStart => exact ⟨0, Nat.zero_le _, rfl, ⟨rfl, Or.inl ⟨rfl, rfl⟩⟩, Below.refl _ _⟩
  case round =>
    obtain ⟨j, hj, rfl, HO, HB⟩ := hrel
    obtain ⟨b0, o0, cap0, hc0, _⟩ := HR.out wr HB.out 0 hR0
    rw [Nat.add_zero] at hc0
    rcases Nat.lt_or_ge j C with h1 | h1
    · have hjC : (j : Int) < (C : Int) := by omega
      go_wp2_with fail
      obtain ⟨Wr, hWr⟩ : ∃ Wr, Wr = wr := ⟨_, rfl⟩
      rw [← hWr] at HO HB hc0 ⊢
      clear hWr
      go_loopw [5, 6] (fun s i wr => ∃ (q : Nat) (y : Int), q ≤ R ∧ s = .int .i64 y ∧ i = .int .i64 q ∧ wr = Wr ∧ 0 ≤ y ∧ y ≤ 4096 ∧ Hid (y = colV zs q j)) (fun _ i _ => R - (intOf i).toNat)
      case atStart => exact ⟨0, 0, Nat.zero_le _, rfl, rfl, rfl, by omega, by omega, rfl⟩
      case round =>
        obtain ⟨q, y, hq, rfl, rfl, hwr, hy0, hy1, HY⟩ := hrel
        rw [hwr]
        clear hwr
        rcases Nat.lt_or_ge q R with h2 | h2
        · obtain ⟨b1, o1, cap1, hc, hr1⟩ := HR.out Wr HB.out q h2
          have hce := hr1 j h1
          have hqR : (q : Int) < (R : Int) := by omega
          have hb1 := HK.out.col (k := q + 1) (j := j) h2 (by rw [hC]; exact h1)
          have hb2 := HK.out.cell h2 (j := j) (by rw [HK.out.even q h2, hC]; exact h1)
          have HV : Hid (colV zs (q + 1) j = y + zs q j) := by show colV zs q j + zs q j = _; rw [HY.out]
          rw [HV.out] at hb1
          generalize zs q j = x at hce hb1 hb2 HV
          clear hr1
          go_wp2_with fail
          exact ⟨⟨q + 1, y + x, h2, by go_num, by go_num, trivial, by omega, by omega, HV.out.symm⟩, by simp [intOf]; omega⟩
        · obtain rfl : q = R := by omega
          have hzB := HB.out.size
          go_wp2_with (at_builtin; go_must (refine wpList_append_lies _ rfl _ _ _ rfl w.heap.size 3 i0 _ 1 8 Tryd.underlying26 HINF.out.1 HINF.out.2.1 HINF.out.2.2.1 HINF.out.2.2.2 rfl (by omega) u3 _ _ rfl (HO.out.alloc _) ⟨Wr.heap.size, 0, none⟩ 1 1 [.int .i64 y] rfl rfl (one_new _ _ _) (by simp [Value.oneCell']) (by omega) (by unfold maxLen; omega) (by omega) (by simp; omega) _ rfl ?_; intro g' cap2 w3 hown3 hgrow3 hat3 hlt3; have HO3 := Hid.mk' hown3; have HG3 := Hid.mk' hgrow3; clear hown3 hgrow3 hat3))
          refine ⟨⟨j + 1, h1, by go_num, ?_, below_push HB.out HO.out HG3.out⟩, by simp [intOf]; omega⟩
          show World.ownsRow _ _ _ _ _ _ _
          have := HO3.out
          rw [HY.out] at this
          exact this
    · obtain rfl : j = C := by omega
      go_wp2_with fail
      go_ret
      exact ⟨_, rfl, numsAt_own HO.out, HB.out⟩

set_option maxRecDepth 100000 in
set_option maxHeartbeats 2000000 in
theorem rowSums_any (ad : Option Addr) (R cap N : Nat) (vs : Nat → Value) (ns : Nat → Nat) (zs : Nat → Nat → Int) (w : World) (h : TabAt w (.slice ad R cap) R vs ns zs) (hk : OkT R ns zs N) :
    Calls Tryd.prog 27 #[.slice ad R cap] w fun e w' => ∃ g cp, e = .returned (.slice (some ⟨g, 0, none⟩) R cp) ∧ RowAt w' g 0 R (rowSum ns zs) ∧ Below w.heap.size w w' := by
  obtain ⟨b, o, rfl, hr⟩ := tab_rows h hk
  obtain ⟨i0, hi, hz0, hz1, hz2⟩ := info_parts Tryd.infoInt
  have HINF : Hid (Tryd.prog.info? 3 = some i0 ∧ i0.zero = some (.int .i64 0) ∧ i0.size = 1 ∧ i0.bytes = 8) := ⟨hi, hz0, hz1, hz2⟩
  have HR := Hid.mk' hr
  have HK := Hid.mk' hk
  have hR16 := hk.r16
  clear hi hz0 hz1 hz2 hr h hk
  go_enter Tryd.func27, Tryd.ntmps27
  go_wp2_with (at_make; go_must (refine wpList_make_full _ rfl _ _ _ rfl w.heap.size 3 i0 _ 1 Tryd.underlying26 HINF.out.1 HINF.out.2.1 HINF.out.2.2.1 .i64 .i64 _ _ R rfl rfl rfl rfl (by rw [HINF.out.2.2.2]; omega) (by unfold maxLen; omega) (Nat.le_refl _) ?_; intro w2 hown2 hgrow2; have HF2 := Hid.mk' (fills_made hown2 (made_zero R) hgrow2); clear hown2 hgrow2))
  go_loopw [4, 5, 11] (fun _ _ i wr => ∃ k : Nat, k ≤ R ∧ i = .int .i64 k ∧ Hid (Fills w wr w.heap.size R (fun j => if j < k then rowSum ns zs j else 0))) (fun _ _ i _ => R - (intOf i).toNat)
  case atStart => exact ⟨0, Nat.zero_le _, rfl, by simpa using HF2⟩
  case round =>
    obtain ⟨k, hk, rfl, HF⟩ := hrel
    rcases Nat.lt_or_ge k R with h1 | h1
    · obtain ⟨b1, o1, cap1, hc, hr1⟩ := HR.out wr HF.out.below k h1
      have hS := total_some b1 o1 cap1 (ns 0) (zs k) wr hr1 (fun j hj => by have := HK.out.part h1 (k := j) (by rw [HK.out.even k h1]; exact hj); omega) (fun j hj => by have := HK.out.cell h1 (j := j) (by rw [HK.out.even k h1]; exact hj); omega) (by have := HK.out.c16; omega)
      have HV : Hid (sumN (zs k) (ns 0) = rowSum ns zs k) := by show _ = sumN (zs k) (ns k); rw [HK.out.even k h1]
      rw [HV.out] at hS
      have hkn : (k : Int) < (R : Int) := by omega
      have hcF := HF.out.row k h1
      have hfz := HF.out.fz k h1
      rw [Nat.zero_add] at hcF hfz
      have HS := Hid.mk' (HF.out.set h1 (rowSum ns zs k) (f' := fun j => if j < k + 1 then rowSum ns zs j else 0) (fun i hi => by
        by_cases hik : i = k
        · subst hik; rw [if_pos (by omega), if_pos rfl]
        · rw [if_neg hik]
          by_cases hlt : i < k
          · rw [if_pos (by omega), if_pos hlt]
          · rw [if_neg (by omega), if_neg hlt]))
      clear hr1
      go_wp2_with (go_at_call 34; refine hS.mono ?_; rintro e w4 ⟨rfl, hw4⟩; rw [hw4]; clear hw4)
      exact ⟨⟨k + 1, h1, by go_num, HS⟩, by simp [intOf]; omega⟩
    · obtain rfl : k = R := by omega
      go_wp2_with fail
      go_ret
      refine ⟨_, _, rfl, fun i hi => ?_, HF.out.below⟩
      have := HF.out.row i hi
      rw [if_pos hi] at this
      exact this
end Go.Proofs.YtfnmpkkfdljgcaaDoor
