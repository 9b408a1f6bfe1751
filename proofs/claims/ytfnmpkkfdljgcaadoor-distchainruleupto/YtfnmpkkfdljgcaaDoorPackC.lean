/- Rows' and columns' sums: the document's and the program's. -/
import Derived.Test.YtfnmpkkfdljgcaaDoorPackB
import Derived.Test.YtfnmpkkfdljgcaaDoorPutEnt
import Derived.Test.YtfnmpkkfdljgcaaDoorAddAny
import Derived.OwnWalk
import Derived.Test.YtfnmpkkfdljgcaaDoorPackA
namespace Go.Proofs.YtfnmpkkfdljgcaaDoor
open Go.RowKit

def rowSum (ns : Nat → Nat) (zs : Nat → Nat → Int) (i : Nat) : Int := sumN (zs i) (ns i)
/-- A right table's rows, as the walk reads them. -/
theorem tab_rows {w : World} {ad : Option Addr} {R cap : Nat} {vs : Nat → Value} {ns : Nat → Nat} {zs : Nat → Nat → Int} {N : Nat} (h : TabAt w (.slice ad R cap) R vs ns zs) (hk : OkT R ns zs N) : ∃ b o, ad = some ⟨b, o, none⟩ ∧ ∀ W, Below w.heap.size w W → ∀ i, i < R → ∃ b1 o1 cap1, W.cell? ⟨b, o + i, none⟩ = some (.slice (some ⟨b1, o1, none⟩) (ns 0) cap1) ∧ RowAt W b1 o1 (ns 0) (zs i) := by
  rcases h with ⟨_, _, _, h0⟩ | ⟨b, o, c, hv, _, hr⟩
  · have := hk.r0; omega
  · simp only [Value.slice.injEq, true_and] at hv
    obtain ⟨rfl, rfl⟩ := hv
    refine ⟨b, o, rfl, fun W hb i hi => ?_⟩
    obtain ⟨h1, h2⟩ := hr i hi
    have he := hk.even i hi
    have hc := hk.c0
    rcases h2.later hb with ⟨_, _, _, h3⟩ | ⟨b1, o1, c1, hv1, _, hr1⟩
    · omega
    · rw [he] at hv1 hr1
      exact ⟨b1, o1, c1, by rw [hb.cell (cell_lt h1), h1, hv1], hr1⟩

set_option maxRecDepth 100000 in
set_option maxHeartbeats 2000000 in
theorem RowsOf_any (ad : Option Addr) (R cap N : Nat) (vs : Nat → Value) (ns : Nat → Nat) (zs : Nat → Nat → Int) (w : World) (h : TabAt w (.slice ad R cap) R vs ns zs) (hk : OkT R ns zs N) :
    Calls Tryd.prog 14 #[.slice ad R cap] w fun e w' => ∃ v, e = .returned v ∧ NumsAt w' v R (rowSum ns zs) ∧ Below w.heap.size w w' := by
  obtain ⟨b, o, rfl, hr⟩ := tab_rows h hk
  obtain ⟨i0, hi, hz0, hz1, hz2⟩ := info_parts Tryd.infoInt
  have HINF : Hid (Tryd.prog.info? 3 = some i0 ∧ i0.zero = some (.int .i64 0) ∧ i0.size = 1 ∧ i0.bytes = 8) := ⟨hi, hz0, hz1, hz2⟩
  have HR := Hid.mk' hr
  have HK := Hid.mk' hk
  have hR16 := hk.r16
  clear hi hz0 hz1 hz2 hr h hk
  go_enter Tryd.func14, Tryd.ntmps14
  go_wp2_with fail
  go_loopw [3, 4] (fun u i wr => ∃ k : Nat, k ≤ R ∧ i = .int .i64 k ∧ Hid (wr.ownsRow w.heap.size 3 1 u k (numCells (rowSum ns zs) k)) ∧ Hid (Below w.heap.size w wr)) (fun _ i _ => R - (intOf i).toNat)
  case atStart => exact ⟨0, Nat.zero_le _, rfl, ⟨rfl, Or.inl ⟨rfl, rfl⟩⟩, Below.refl _ _⟩
  case round =>
    obtain ⟨k, hk, rfl, HO, HB⟩ := hrel
    rcases Nat.lt_or_ge k R with h1 | h1
    · obtain ⟨b1, o1, cap1, hc, hr1⟩ := HR.out wr HB.out k h1
      have hS := Sum_some b1 o1 cap1 (ns 0) (zs k) wr hr1 (fun j hj => by have := HK.out.part h1 (k := j) (by rw [HK.out.even k h1]; exact hj); omega) (fun j hj => by have := HK.out.cell h1 (j := j) (by rw [HK.out.even k h1]; exact hj); omega) (by have := HK.out.c16; omega)
      have HV : Hid (sumN (zs k) (ns 0) = rowSum ns zs k) := by show _ = sumN (zs k) (ns k); rw [HK.out.even k h1]
      rw [HV.out] at hS
      have hkn : (k : Int) < (R : Int) := by omega
      have hzB := HB.out.size
      clear hr1
      go_wp2_with (first
        | (go_at_call 31; refine hS.mono ?_; rintro e w4 ⟨rfl, hw4⟩; rw [hw4]; clear hw4)
        | (at_builtin; go_must (refine wpList_append_lies _ rfl _ _ _ rfl w.heap.size 3 i0 _ 1 8 Tryd.underlying26 HINF.out.1 HINF.out.2.1 HINF.out.2.2.1 HINF.out.2.2.2 rfl (by omega) u3 _ _ rfl (HO.out.alloc _) ⟨wr.heap.size, 0, none⟩ 1 1 [.int .i64 (rowSum ns zs k)] rfl rfl (one_new _ _ _) (by simp [Value.oneCell']) (by omega) (by unfold maxLen; omega) (by omega) (by simp; omega) _ rfl ?_; intro g' cap2 w3 hown3 hgrow3 hat3 hlt3; have HO3 := Hid.mk' hown3; have HG3 := Hid.mk' hgrow3; clear hown3 hgrow3 hat3)))
      exact ⟨⟨k + 1, h1, by go_num, HO3, below_push HB.out HO.out HG3.out⟩, by simp [intOf]; omega⟩
    · obtain rfl : k = R := by omega
      go_wp2_with fail
      go_ret
      exact ⟨_, rfl, numsAt_own HO.out, HB.out⟩

set_option maxRecDepth 100000 in
set_option maxHeartbeats 2000000 in
theorem ColumnsOf_any (ad : Option Addr) (R cap N : Nat) (vs : Nat → Value) (ns : Nat → Nat) (zs : Nat → Nat → Int) (w : World) (h : TabAt w (.slice ad R cap) R vs ns zs) (hk : OkT R ns zs N) :
    Calls Tryd.prog 15 #[.slice ad R cap] w fun e w' => ∃ v, e = .returned v ∧ NumsAt w' v (ns 0) (colV zs R) ∧ Below w.heap.size w w' := by
  obtain ⟨b, o, rfl, hr⟩ := tab_rows h hk
  obtain ⟨i0, hi, hz0, hz1, hz2⟩ := info_parts Tryd.infoInt
  have HINF : Hid (Tryd.prog.info? 3 = some i0 ∧ i0.zero = some (.int .i64 0) ∧ i0.size = 1 ∧ i0.bytes = 8) := ⟨hi, hz0, hz1, hz2⟩
  have HR := Hid.mk' hr
  have HK := Hid.mk' hk
  have hR16 := hk.r16
  have hR0 := hk.r0
  have hc16 := hk.c16
  clear hi hz0 hz1 hz2 hr h hk
  generalize hC : ns 0 = C at *
  go_enter Tryd.func15, Tryd.ntmps15
  go_wp2_with fail
  go_loopw [3, 4, 5, 6] (fun u i _ _ wr => ∃ j : Nat, j ≤ C ∧ i = .int .i64 j ∧ Hid (wr.ownsRow w.heap.size 3 1 u j (numCells (colV zs R) j)) ∧ Hid (Below w.heap.size w wr)) (fun _ i _ _ _ => C - (intOf i).toNat)
  case atStart => exact ⟨0, Nat.zero_le _, rfl, ⟨rfl, Or.inl ⟨rfl, rfl⟩⟩, Below.refl _ _⟩
  case round =>
    obtain ⟨j, hj, rfl, HO, HB⟩ := hrel
    obtain ⟨b0, o0, cap0, hc0, _⟩ := HR.out wr HB.out 0 hR0
    rw [Nat.add_zero] at hc0
    rcases Nat.lt_or_ge j C with h1 | h1
    · have hjC : (j : Int) < (C : Int) := by omega
      go_wp2_with fail
      obtain ⟨Wr, hWr⟩ : ∃ Wr, Wr = wr := ⟨_, rfl⟩
      rw [← hWr] at HO HB hc0 ⊢
      clear hWr
      go_loopw [5, 6] (fun s i wr => ∃ (q : Nat) (y : Int), q ≤ R ∧ s = .int .i64 y ∧ i = .int .i64 q ∧ wr = Wr ∧ 0 ≤ y ∧ y ≤ 4096 ∧ Hid (y = colV zs q j)) (fun _ i _ => R - (intOf i).toNat)
      case atStart => exact ⟨0, 0, Nat.zero_le _, rfl, rfl, rfl, by omega, by omega, rfl⟩
      case round =>
        obtain ⟨q, y, hq, rfl, rfl, hwr, hy0, hy1, HY⟩ := hrel
        rw [hwr]
        clear hwr
        rcases Nat.lt_or_ge q R with h2 | h2
        · obtain ⟨b1, o1, cap1, hc, hr1⟩ := HR.out Wr HB.out q h2
          have hce := hr1 j h1
          have hqR : (q : Int) < (R : Int) := by omega
          have hb1 := HK.out.col (k := q + 1) (j := j) h2 (by rw [hC]; exact h1)
          have hb2 := HK.out.cell h2 (j := j) (by rw [HK.out.even q h2, hC]; exact h1)
          have HV : Hid (colV zs (q + 1) j = y + zs q j) := by show colV zs q j + zs q j = _; rw [HY.out]
          rw [HV.out] at hb1
          generalize zs q j = x at hce hb1 hb2 HV
          clear hr1
          go_wp2_with fail
          exact ⟨⟨q + 1, y + x, h2, by go_num, by go_num, trivial, by omega, by omega, HV.out.symm⟩, by simp [intOf]; omega⟩
        · obtain rfl : q = R := by omega
          have hzB := HB.out.size
          go_wp2_with (at_builtin; go_must (refine wpList_append_lies _ rfl _ _ _ rfl w.heap.size 3 i0 _ 1 8 Tryd.underlying26 HINF.out.1 HINF.out.2.1 HINF.out.2.2.1 HINF.out.2.2.2 rfl (by omega) u3 _ _ rfl (HO.out.alloc _) ⟨Wr.heap.size, 0, none⟩ 1 1 [.int .i64 y] rfl rfl (one_new _ _ _) (by simp [Value.oneCell']) (by omega) (by unfold maxLen; omega) (by omega) (by simp; omega) _ rfl ?_; intro g' cap2 w3 hown3 hgrow3 hat3 hlt3; have HO3 := Hid.mk' hown3; have HG3 := Hid.mk' hgrow3; clear hown3 hgrow3 hat3))
          refine ⟨⟨j + 1, h1, by go_num, ?_, below_push HB.out HO.out HG3.out⟩, by simp [intOf]; omega⟩
          show World.ownsRow _ _ _ _ _ _ _
          have := HO3.out
          rw [HY.out] at this
          exact this
    · obtain rfl : j = C := by omega
      go_wp2_with fail
      go_ret
      exact ⟨_, rfl, numsAt_own HO.out, HB.out⟩

set_option maxRecDepth 100000 in
set_option maxHeartbeats 2000000 in
theorem rowSums_any (ad : Option Addr) (R cap N : Nat) (vs : Nat → Value) (ns : Nat → Nat) (zs : Nat → Nat → Int) (w : World) (h : TabAt w (.slice ad R cap) R vs ns zs) (hk : OkT R ns zs N) :
    Calls Tryd.prog 27 #[.slice ad R cap] w fun e w' => ∃ g cp, e = .returned (.slice (some ⟨g, 0, none⟩) R cp) ∧ RowAt w' g 0 R (rowSum ns zs) ∧ Below w.heap.size w w' := by
  obtain ⟨b, o, rfl, hr⟩ := tab_rows h hk
  obtain ⟨i0, hi, hz0, hz1, hz2⟩ := info_parts Tryd.infoInt
  have HINF : Hid (Tryd.prog.info? 3 = some i0 ∧ i0.zero = some (.int .i64 0) ∧ i0.size = 1 ∧ i0.bytes = 8) := ⟨hi, hz0, hz1, hz2⟩
  have HR := Hid.mk' hr
  have HK := Hid.mk' hk
  have hR16 := hk.r16
  clear hi hz0 hz1 hz2 hr h hk
  go_enter Tryd.func27, Tryd.ntmps27
  go_wp2_with (at_make; go_must (refine wpList_make_full _ rfl _ _ _ rfl w.heap.size 3 i0 _ 1 Tryd.underlying26 HINF.out.1 HINF.out.2.1 HINF.out.2.2.1 .i64 .i64 _ _ R rfl rfl rfl rfl (by rw [HINF.out.2.2.2]; omega) (by unfold maxLen; omega) (Nat.le_refl _) ?_; intro w2 hown2 hgrow2; have HF2 := Hid.mk' (fills_made hown2 (made_zero R) hgrow2); clear hown2 hgrow2))
  go_loopw [4, 5, 11] (fun _ _ i wr => ∃ k : Nat, k ≤ R ∧ i = .int .i64 k ∧ Hid (Fills w wr w.heap.size R (fun j => if j < k then rowSum ns zs j else 0))) (fun _ _ i _ => R - (intOf i).toNat)
  case atStart => exact ⟨0, Nat.zero_le _, rfl, by simpa using HF2⟩
  case round =>
    obtain ⟨k, hk, rfl, HF⟩ := hrel
    rcases Nat.lt_or_ge k R with h1 | h1
    · obtain ⟨b1, o1, cap1, hc, hr1⟩ := HR.out wr HF.out.below k h1
      have hS := total_some b1 o1 cap1 (ns 0) (zs k) wr hr1 (fun j hj => by have := HK.out.part h1 (k := j) (by rw [HK.out.even k h1]; exact hj); omega) (fun j hj => by have := HK.out.cell h1 (j := j) (by rw [HK.out.even k h1]; exact hj); omega) (by have := HK.out.c16; omega)
      have HV : Hid (sumN (zs k) (ns 0) = rowSum ns zs k) := by show _ = sumN (zs k) (ns k); rw [HK.out.even k h1]
      rw [HV.out] at hS
      have hkn : (k : Int) < (R : Int) := by omega
      have hcF := HF.out.row k h1
      have hfz := HF.out.fz k h1
      rw [Nat.zero_add] at hcF hfz
      have HS := Hid.mk' (HF.out.set h1 (rowSum ns zs k) (f' := fun j => if j < k + 1 then rowSum ns zs j else 0) (fun i hi => by
        by_cases hik : i = k
        · subst hik; rw [if_pos (by omega), if_pos rfl]
        · rw [if_neg hik]
          by_cases hlt : i < k
          · rw [if_pos (by omega), if_pos hlt]
          · rw [if_neg (by omega), if_neg hlt]))
      clear hr1
      go_wp2_with (go_at_call 34; refine hS.mono ?_; rintro e w4 ⟨rfl, hw4⟩; rw [hw4]; clear hw4)
      exact ⟨⟨k + 1, h1, by go_num, HS⟩, by simp [intOf]; omega⟩
    · obtain rfl : k = R := by omega
      go_wp2_with fail
      go_ret
      refine ⟨_, _, rfl, fun i hi => ?_, HF.out.below⟩
      have := HF.out.row i hi
      rw [if_pos hi] at this
      exact this
end Go.Proofs.YtfnmpkkfdljgcaaDoor

/- dist.columnSums, Rows, Columns. -/
namespace Go.Proofs.YtfnmpkkfdljgcaaDoor
open Go.RowKit

theorem tabErr_okT {R : Nat} {ns : Nat → Nat} {zs : Nat → Nat → Int} (h : tabErr R ns zs = 0) : ∃ N, OkT R ns zs N ∧ sumN (atF (flatL ns zs R)) (flatL ns zs R).length = N := by
  unfold tabErr at h
  by_cases h1 : 16 < R
  · rw [if_pos h1] at h; cases h
  rw [if_neg h1] at h
  cases h2 : longB ns R with
  | true => rw [h2, if_pos rfl] at h; cases h
  | false =>
    rw [h2, if_neg (by simp)] at h
    cases h3 : unevenB ns R with
    | true => rw [h3, if_pos rfl] at h; cases h
    | false =>
      rw [h3, if_neg (by simp)] at h
      exact okT_of (by omega) h2 h3 (listErr_ok h)

set_option maxRecDepth 100000 in
set_option maxHeartbeats 4000000 in
theorem columnSums_any (ad : Option Addr) (R cap N : Nat) (vs : Nat → Value) (ns : Nat → Nat) (zs : Nat → Nat → Int) (w : World) (h : TabAt w (.slice ad R cap) R vs ns zs) (hk : OkT R ns zs N) :
    Calls Tryd.prog 29 #[.slice ad R cap] w fun e w' => ∃ g cp, e = .returned (.slice (some ⟨g, 0, none⟩) (ns 0) cp) ∧ RowAt w' g 0 (ns 0) (colV zs R) ∧ Below w.heap.size w w' := by
  obtain ⟨b, o, rfl, hr⟩ := tab_rows h hk
  obtain ⟨i0, hi, hz0, hz1, hz2⟩ := info_parts Tryd.infoInt
  have HINF : Hid (Tryd.prog.info? 3 = some i0 ∧ i0.zero = some (.int .i64 0) ∧ i0.size = 1 ∧ i0.bytes = 8) := ⟨hi, hz0, hz1, hz2⟩
  have HR := Hid.mk' hr
  have HK := Hid.mk' hk
  have hR16 := hk.r16
  have hR0 := hk.r0
  have hc16 := hk.c16
  clear hi hz0 hz1 hz2 hr h hk
  generalize hC : ns 0 = C at *
  obtain ⟨b0, o0, cap0, hc0, _⟩ := HR.out w (Below.refl _ _) 0 hR0
  rw [Nat.add_zero] at hc0
  go_enter Tryd.func29, Tryd.ntmps29
  go_wp2_with (at_make; go_must (refine wpList_make_full _ rfl _ _ _ rfl w.heap.size 3 i0 _ 1 Tryd.underlying26 HINF.out.1 HINF.out.2.1 HINF.out.2.2.1 .i64 .i64 _ _ C rfl rfl rfl rfl (by rw [HINF.out.2.2.2]; omega) (by unfold maxLen; omega) (Nat.le_refl _) ?_; intro w2 hown2 hgrow2; have HF2 := Hid.mk' (fills_made hown2 (made_zero C) hgrow2); clear hown2 hgrow2))
  go_loopw [5, 6, 7, 15] (fun _ _ _ i wr => ∃ k : Nat, k ≤ R ∧ i = .int .i64 k ∧ Hid (Fills w wr w.heap.size C (colV zs k))) (fun _ _ _ i _ => R - (intOf i).toNat)
  case atStart => exact ⟨0, Nat.zero_le _, rfl, HF2⟩
  case round =>
    obtain ⟨k, hk, rfl, HF⟩ := hrel
    rcases Nat.lt_or_ge k R with h1 | h1
    · obtain ⟨b1, o1, cap1, hc, hr1⟩ := HR.out wr HF.out.below k h1
      have HR1 : Hid (∀ W, Below w.heap.size w W → ∃ b2 o2 cap2, W.cell? ⟨b, o + k, none⟩ = some (.slice (some ⟨b2, o2, none⟩) C cap2) ∧ RowAt W b2 o2 C (zs k)) := fun W hb => HR.out W hb k h1
      have hbk : b1 < w.heap.size := by
        obtain ⟨b2, o2, cap2, h2, h3⟩ := HR.out w (Below.refl _ _) k h1
        rw [HF.out.below.cell (cell_lt h2), h2] at hc
        simp only [Option.some.injEq, Value.slice.injEq, Addr.mk.injEq, and_true, true_and] at hc
        obtain ⟨⟨rfl, rfl⟩, rfl⟩ := hc
        have := h3 0 (by have := HK.out.c0; omega)
        exact cell_lt this
      have HR2 := Hid.mk' hr1
      have hkn : (k : Int) < (R : Int) := by omega
      go_wp2_with fail
      obtain ⟨Wr, hWr⟩ : ∃ Wr, Wr = wr := ⟨_, rfl⟩
      rw [← hWr] at HF hc HR2 ⊢
      clear hWr hr1 hc HR1
      go_loopw [6, 7, 21] (fun _ _ i wr => ∃ j : Nat, j ≤ C ∧ i = .int .i64 j ∧ Hid (Fills w wr w.heap.size C (fun c => if c < j then colV zs (k + 1) c else colV zs k c)) ∧ Hid (RowAt wr b1 o1 C (zs k))) (fun _ _ i _ => C - (intOf i).toNat)
      case atStart => exact ⟨0, Nat.zero_le _, rfl, by simpa using HF, HR2⟩
      case round =>
        obtain ⟨j, hj, rfl, HG, HW⟩ := hrel
        rcases Nat.lt_or_ge j C with h2 | h2
        · have hce := HW.out j h2
          have hjC : (j : Int) < (C : Int) := by omega
          have hcF := HG.out.row j h2
          have hfz := HG.out.fz j h2
          rw [Nat.zero_add] at hcF hfz
          rw [if_neg (by omega)] at hcF
          have hb1 := HK.out.col (k := k) (j := j) hk (by rw [hC]; exact h2)
          have hb2 := HK.out.cell h1 (j := j) (by rw [HK.out.even k h1, hC]; exact h2)
          have HV : Hid (colV zs (k + 1) j = colV zs k j + zs k j) := rfl
          have HS := Hid.mk' (HG.out.set h2 (colV zs k j + zs k j) (f' := fun c => if c < j + 1 then colV zs (k + 1) c else colV zs k c) (fun i hi => by
            by_cases hik : i = j
            · subst hik; rw [if_pos (by omega), if_pos rfl, HV.out]
            · rw [if_neg hik]
              by_cases hlt : i < j
              · rw [if_pos (by omega), if_pos hlt]
              · rw [if_neg (by omega), if_neg hlt]))
          have HW1 : Hid (∀ x : Int, RowAt (wr.setCell ⟨w.heap.size, j, none⟩ (.int .i64 x)) b1 o1 C (zs k)) := fun x i hi => by
            rw [World.cell?_setCell_other _ _ _ _ (fun e => by have := congrArg Addr.block e; simp at this; omega)]
            exact HW.out i hi
          generalize colV zs k j = y at *
          generalize zs k j = x at *
          go_wp2_with fail
          exact ⟨⟨j + 1, h2, by go_num, HS, HW1.out _⟩, by simp [intOf]; omega⟩
        · obtain rfl : j = C := by omega
          have HF1 : Hid (Fills w wr w.heap.size j (colV zs (k + 1))) := ⟨fun i hi => by have := HG.out.row i hi; rw [if_pos hi] at this; exact this, HG.out.fz, HG.out.below, HG.out.hg⟩
          go_wp2_with fail
          exact ⟨⟨k + 1, h1, by go_num, HF1⟩, by simp [intOf]; omega⟩
    · obtain rfl : k = R := by omega
      go_wp2_with fail
      go_ret
      exact ⟨_, _, rfl, HF.out.row, HF.out.below⟩
end Go.Proofs.YtfnmpkkfdljgcaaDoor

/- Cells beside a map. -/
namespace Go.Proofs.YtfnmpkkfdljgcaaDoor
open Go.RowKit Go.Maps

/-- A cell beside a map's block. -/
theorem cell_side {w w' : World} {mb nn B o : Nat} {v : Value} {D : DataW Unit} {k : TypeId} {R : Value → Option (DataW Unit × List MemPlace)} (hm : w.ownsMap Tryd.prog k R mb nn D) (hg : w.grownBy w' (some mb)) (hc : w.cell? ⟨B, o, none⟩ = some v) : w'.cell? ⟨B, o, none⟩ = some v := by
  refine cell_beside hg hc ?_
  rintro rfl
  rw [map_no_cell hm] at hc
  cases hc

end Go.Proofs.YtfnmpkkfdljgcaaDoor

/- dist.Mutual: what it puts. -/
namespace Go.Proofs.YtfnmpkkfdljgcaaDoor
open Go.RowKit Go.Maps

/-- What a cell puts. -/
def mutV (z : Nat → Int) (r : Int) (cv : Nat → Int) (N : Nat) (x : Int) (j : Nat) : Int := z j * multI x (z j).toNat + z j * multI x N + -(z j) * multI x r.toNat + -(z j) * multI x (cv j).toNat
theorem mutV_le {z cv : Nat → Int} {r : Int} {N j : Nat} (x : Int) (hz : 0 ≤ z j ∧ z j ≤ 4096) (hr : 0 ≤ r ∧ r ≤ 4096) (hc : 0 ≤ cv j ∧ cv j ≤ 4096) (hN : N ≤ 4096) : -400000 ≤ mutV z r cv N x j ∧ mutV z r cv N x j ≤ 400000 := by
  unfold mutV
  have h1 := mul_weight (t := z j) (by omega) (multI_small x (n := (z j).toNat) (by omega))
  have h2 := mul_weight (t := z j) (by omega) (multI_small x (n := N) (by omega))
  have h3 := mul_weight (t := -(z j)) (by omega) (multI_small x (n := r.toNat) (by omega))
  have h4 := mul_weight (t := -(z j)) (by omega) (multI_small x (n := (cv j).toNat) (by omega))
  omega
/-- A table's numbers with what its rows and columns hold together. -/
structure OkM (R C N : Nat) (zs : Nat → Nat → Int) (rv cv : Nat → Int) : Prop where
  r16 : R ≤ 16
  c16 : C ≤ 16
  n1 : 1 ≤ N
  n6 : N ≤ 4096
  z : ∀ i, i < R → ∀ j, j < C → 0 ≤ zs i j ∧ zs i j ≤ 4096
  r : ∀ i, i < R → 0 ≤ rv i ∧ rv i ≤ 4096
  c : ∀ j, j < C → 0 ≤ cv j ∧ cv j ≤ 4096
  zr : ∀ i, i < R → ∀ j, j < C → zs i j ≤ rv i ∧ zs i j ≤ cv j
theorem mutR_le {R C N : Nat} {zs : Nat → Nat → Int} {rv cv : Nat → Int} (h : OkM R C N zs rv cv) (x : Int) {i m : Nat} (hi : i < R) (hm : m ≤ C) : -6400000 ≤ sumN (mutV (zs i) (rv i) cv N x) m ∧ sumN (mutV (zs i) (rv i) cv N x) m ≤ 6400000 := by
  have h3 := sumN_bound (f := mutV (zs i) (rv i) cv N x) (B := 400000) (n := m) (fun j hj => mutV_le x (h.z i hi j (by omega)) (h.r i hi) (h.c j (by omega)) h.n6)
  have h5 := h.c16
  have : (m : Int) * 400000 ≤ 6400000 := by omega
  omega
theorem mutT_le {R C N : Nat} {zs : Nat → Nat → Int} {rv cv : Nat → Int} (h : OkM R C N zs rv cv) (x : Int) {k : Nat} (hk : k ≤ R) : -102400000 ≤ sumN (fun i => sumN (mutV (zs i) (rv i) cv N x) C) k ∧ sumN (fun i => sumN (mutV (zs i) (rv i) cv N x) C) k ≤ 102400000 := by
  have h3 := sumN_bound (f := fun i => sumN (mutV (zs i) (rv i) cv N x) C) (B := 6400000) (n := k) (fun i hi => mutR_le h x (by omega) (Nat.le_refl _))
  have h5 := h.r16
  have : (k : Int) * 6400000 ≤ 102400000 := by omega
  omega

set_option maxRecDepth 100000 in
set_option maxHeartbeats 8000000 in
theorem Mutual_parts (den : Int) (mb Bt Ba Br Bc b o cap gr cr gc cc R C N : Nat) (zs : Nat → Nat → Int) (rv cv : Nat → Int) (w : World) (hown : w.ownsMap Tryd.prog 3 (plainElem (H := Unit) Tryd.prog 3) mb 0 (mapOf []))
    (ct : w.cell? ⟨Bt, 0, none⟩ = some (.slice (some ⟨b, o, none⟩) R cap)) (ca : w.cell? ⟨Ba, 0, none⟩ = some (.int .i64 N)) (cR : w.cell? ⟨Br, 0, none⟩ = some (.slice (some ⟨gr, 0, none⟩) R cr)) (cC : w.cell? ⟨Bc, 0, none⟩ = some (.slice (some ⟨gc, 0, none⟩) C cc))
    (hrows : ∀ i, i < R → ∃ b1 o1 cap1, w.cell? ⟨b, o + i, none⟩ = some (.slice (some ⟨b1, o1, none⟩) C cap1) ∧ RowAt w b1 o1 C (zs i)) (hr : RowAt w gr 0 R rv) (hc : RowAt w gc 0 C cv) (hk : OkM R C N zs rv cv) :
    Calls Tryd.prog 40 #[putV den mb, .pointer (some ⟨Bt, 0, none⟩), .pointer (some ⟨Ba, 0, none⟩), .pointer (some ⟨Br, 0, none⟩), .pointer (some ⟨Bc, 0, none⟩)] w fun e w' => e = .returned (.tuple #[]) ∧ ∃ l nn, Puts w w' mb (fun x => sumN (fun i => sumN (mutV (zs i) (rv i) cv N x) C) R) (64 * R) [] 0 l nn := by
  have HP0 : Hid (Puts w w mb (fun x => sumN (fun i => sumN (mutV (zs i) (rv i) cv N x) C) 0) (64 * 0) [] 0 [] 0) := ⟨hown, List.Pairwise.nil, (fun x => by simp [sumN]), (fun e he => by cases he), by omega, by simp, grown_refl _ _⟩
  have HTAB : Hid (∀ (wr : World), w.grownBy wr (some mb) → ∀ i, i < R → ∃ b1 o1 cap1, wr.cell? ⟨b, o + i, none⟩ = some (.slice (some ⟨b1, o1, none⟩) C cap1) ∧ ∀ wn : World, w.grownBy wn (some mb) → RowAt wn b1 o1 C (zs i)) := fun wr hg i hi => by
    obtain ⟨b1, o1, cap1, h1, h2⟩ := hrows i hi
    exact ⟨b1, o1, cap1, cell_side hown hg h1, fun wn hn => h2.beside hown hn⟩
  have HROW := Hid.mk' (fun (wr : World) (hg : w.grownBy wr (some mb)) => And.intro (cell_side hown hg ca) (And.intro (cell_side hown hg cR) (And.intro (cell_side hown hg cC) (And.intro (hr.beside hown hg) (hc.beside hown hg)))))
  have HK := Hid.mk' hk
  have hR16 := hk.r16
  have hC16 := hk.c16
  have hN1 := hk.n1
  have hN6 := hk.n6
  clear hown hrows hr hc hk ca cR cC
  unfold putV
  go_enter Tryd.func40, Tryd.ntmps40
  go_wp2_with fail
  go_loopw [6, 7, 8, 9, 12] (fun _ _ _ _ i wr => ∃ (k nn : Nat) (l : List (Int × Int)), k ≤ R ∧ i = .int .i64 k ∧ Hid (Puts w wr mb (fun x => sumN (fun i => sumN (mutV (zs i) (rv i) cv N x) C) k) (64 * k) [] 0 l nn)) (fun _ _ _ _ i _ => R - (intOf i).toNat)
  case atStart => exact ⟨0, 0, [], Nat.zero_le _, rfl, HP0⟩
  case round =>
    clear HP0 ct
    obtain ⟨k, nn0, l0, hk, rfl, HP⟩ := hrel
    rcases Nat.lt_or_ge k R with h1 | h1
    · obtain ⟨b1, o1, cap1, hc, hr1⟩ := HTAB.out wr HP.out.grow k h1
      have HR1 := Hid.mk' hr1
      have hkn : (k : Int) < (R : Int) := by omega
      have hk0 : (0 : Int) ≤ (k : Int) := by omega
      have HPI : Hid (Puts w wr mb (fun x => sumN (fun i => sumN (mutV (zs i) (rv i) cv N x) C) k + sumN (mutV (zs k) (rv k) cv N x) 0) (64 * k + 4 * 0) [] 0 l0 nn0) := HP.out.congr (by omega) (fun x => by simp [sumN])
      obtain ⟨rr, hrr⟩ := Int.eq_ofNat_of_zero_le (HK.out.r k h1).1
      have hrr6 : rr ≤ 4096 := by have := (HK.out.r k h1).2; omega
      have HRR := Hid.mk' hrr
      have HCR : Hid (∀ W, w.grownBy W (some mb) → W.cell? ⟨gr, 0 + k, none⟩ = some (.int .i64 (rr : Int))) := fun W hg => by rw [← hrr]; exact (HROW.out W hg).2.2.2.1 k h1
      clear hr1 hrr HP
      go_wp2_with fail
      clear hc
      go_loopw [8, 9, 19] (fun _ _ i wr => ∃ (j nn : Nat) (l : List (Int × Int)), j ≤ C ∧ i = .int .i64 j ∧ Hid (Puts w wr mb (fun x => sumN (fun i => sumN (mutV (zs i) (rv i) cv N x) C) k + sumN (mutV (zs k) (rv k) cv N x) j) (64 * k + 4 * j) [] 0 l nn)) (fun _ _ i _ => C - (intOf i).toNat)
      case atStart => exact ⟨0, nn0, l0, Nat.zero_le _, rfl, HPI⟩
      case round =>
        clear HPI
        obtain ⟨j, nn, l, hj, rfl, HP⟩ := hrel
        rcases Nat.lt_or_ge j C with h2 | h2
        · have hcz := HR1.out _ HP.out.grow j h2
          have hjn : (j : Int) < (C : Int) := by omega
          have hj0 : (0 : Int) ≤ (j : Int) := by omega
          have hzk := HK.out.z k h1 j h2
          have hcj := HK.out.c j h2
          have hzr := HK.out.zr k h1 j h2
          rw [HRR.out] at hzr
          have HV : Hid (∀ x, sumN (mutV (zs k) (rv k) cv N x) (j + 1) = sumN (mutV (zs k) (rv k) cv N x) j + (zs k j * multI x (zs k j).toNat + (zs k j * multI x N + (-(zs k j) * multI x (rv k).toNat + -(zs k j) * multI x (cv j).toNat)))) := fun x => by
            show sumN (mutV (zs k) (rv k) cv N x) j + mutV (zs k) (rv k) cv N x j = _
            unfold mutV
            omega
          rw [HRR.out] at HV
          have HBD : Hid (∀ x, -120000000 ≤ atL l x ∧ atL l x ≤ 120000000) := fun x => by
            rw [HP.out.val]
            have h3 := mutT_le HK.out x (k := k) (by omega)
            have h4 := mutR_le HK.out x h1 (m := j) (by omega)
            simp only [atL]
            omega
          obtain ⟨y, hy⟩ := Int.eq_ofNat_of_zero_le hzk.1
          obtain ⟨u, hu⟩ := Int.eq_ofNat_of_zero_le hcj.1
          rw [hy] at hcz hzk HV hzr
          rw [hu] at hcj HV hzr
          rw [HRR.out] at HP
          simp only [Int.toNat_natCast] at HV
          have HCU : Hid (∀ W, w.grownBy W (some mb) → W.cell? ⟨gc, 0 + j, none⟩ = some (.int .i64 (u : Int))) := fun W hg => by rw [← hu]; exact (HROW.out W hg).2.2.2.2 j h2
          have hy6 : y ≤ 4096 := by have := hzk.2; omega
          have hu6 : u ≤ 4096 := by have := hcj.2; omega
          have hyr : y ≠ 0 → 1 ≤ rr := fun h => by have := hzr.1; omega
          have hyu : y ≠ 0 → 1 ≤ u := fun h => by have := hzr.2; omega
          have hnn1 : nn ≤ 30000 := by have := HP.out.cnt; omega
          have MW := Hid.mk' (fun (x : Int) (m : Nat) (hm : m ≤ 4096) => mul_weight (t := (y : Int)) (by omega) (multI_small x (n := m) (by omega)))
          have MN := Hid.mk' (fun (x : Int) (m : Nat) (hm : m ≤ 4096) => mul_weight (t := -(y : Int)) (by omega) (multI_small x (n := m) (by omega)))
          clear hy hu hzk hcj hzr
          have HP1 := Hid.mk' (Put_by den (y : Int) mb y nn l wr HP.out.own HP.out.rise HP.out.keys (fun x => by have := HBD.out x; omega) (by omega) (fun h => by omega) (by omega) (by omega))
          go_wp2_with fail
          refine HP1.out.mono ?_
          clear HP1 hcz
          rintro e w2 ⟨rfl, l2, nn2, hp2⟩
          have hg2 := grown_two HP.out.grow hp2.grow
          have ca2 := (HROW.out _ hg2).1
          have B2 : Hid (∀ x, -120100000 ≤ atL l2 x ∧ atL l2 x ≤ 120100000) := fun x => by rw [hp2.val]; have h2 := HBD.out x; have h3 := MW.out x y hy6; omega
          have hn2 : nn2 ≤ 30020 := by have := hp2.cnt; omega
          have HP2 := Hid.mk' (Put_by den (y : Int) mb N nn2 l2 w2 hp2.own hp2.rise hp2.keys (fun x => by have := B2.out x; omega) (by omega) (fun _ => hN1) (by omega) (by omega))
          have HQ2 := Hid.mk' (HP.out.trans hp2)
          clear hp2 hg2
          go_wp2_with fail
          refine HP2.out.mono ?_
          clear HP2 ca2
          rintro e w3 ⟨rfl, l3, nn3, hp3⟩
          have hg3 := grown_two HQ2.out.grow hp3.grow
          have cr3 := (HROW.out _ hg3).2.1
          have cu3 := HCR.out _ hg3
          rw [Nat.zero_add] at cu3
          have B3 : Hid (∀ x, -120200000 ≤ atL l3 x ∧ atL l3 x ≤ 120200000) := fun x => by rw [hp3.val]; have h2 := B2.out x; have h3 := MW.out x N hN6; omega
          have hn3 : nn3 ≤ 30040 := by have := hp3.cnt; omega
          have HP3 := Hid.mk' (Put_by den (-(y : Int)) mb rr nn3 l3 w3 hp3.own hp3.rise hp3.keys (fun x => by have := B3.out x; omega) (by omega) (fun h => hyr (by omega)) (by omega) (by omega))
          have HQ3 := Hid.mk' (HQ2.out.trans hp3)
          clear hp3 hg3 HQ2
          go_wp2_with fail
          refine HP3.out.mono ?_
          clear HP3 cr3 cu3
          rintro e w4 ⟨rfl, l4, nn4, hp4⟩
          have hg4 := grown_two HQ3.out.grow hp4.grow
          have cc4 := (HROW.out _ hg4).2.2.1
          have cu4 := HCU.out _ hg4
          rw [Nat.zero_add] at cu4
          have B4 : Hid (∀ x, -120300000 ≤ atL l4 x ∧ atL l4 x ≤ 120300000) := fun x => by rw [hp4.val]; have h2 := B3.out x; have h3 := MN.out x rr hrr6; omega
          have hn4 : nn4 ≤ 30060 := by have := hp4.cnt; omega
          have HP4 := Hid.mk' (Put_by den (-(y : Int)) mb u nn4 l4 w4 hp4.own hp4.rise hp4.keys (fun x => by have := B4.out x; omega) (by omega) (fun h => hyu (by omega)) (by omega) (by omega))
          have HQ4 := Hid.mk' (HQ3.out.trans hp4)
          clear hp4 hg4 HQ3
          go_wp2_with fail
          refine HP4.out.mono ?_
          clear HP4 cc4 cu4
          rintro e w5 ⟨rfl, l5, nn5, hp5⟩
          have HQ5 := Hid.mk' ((HQ4.out.trans hp5).congr (d := 64 * k + 4 * (j + 1)) (by omega) (g := fun x => sumN (fun i => sumN (mutV (zs i) (rv i) cv N x) C) k + sumN (mutV (zs k) (rv k) cv N x) (j + 1)) (fun x => by rw [HRR.out, HV.out x]; omega))
          clear hp5 HQ4
          go_wp2_with fail
          exact ⟨⟨j + 1, nn5, l5, h2, by go_num, HQ5⟩, by simp [intOf]; omega⟩
        · obtain rfl : j = C := by omega
          have HQ := Hid.mk' (HP.out.congr (d := 64 * (k + 1)) (by omega) (g := fun x => sumN (fun i => sumN (mutV (zs i) (rv i) cv N x) j) (k + 1)) (fun x => rfl))
          clear HP
          go_wp2_with fail
          exact ⟨⟨k + 1, nn, l, h1, by go_num, HQ⟩, by simp [intOf]; omega⟩
    · obtain rfl : k = R := by omega
      go_wp2_with fail
      go_end0
      exact ⟨rfl, l0, nn0, HP.out⟩
end Go.Proofs.YtfnmpkkfdljgcaaDoor

/- dist.Mutual. -/
namespace Go.Proofs.YtfnmpkkfdljgcaaDoor
open Go.RowKit Go.Maps

theorem okM_of {R N : Nat} {ns : Nat → Nat} {zs : Nat → Nat → Int} (h : OkT R ns zs N) : OkM R (ns 0) N zs (rowSum ns zs) (colV zs R) :=
  ⟨h.r16, h.c16, h.n1, h.n6, fun i hi j hj => h.cell hi (by rw [h.even i hi]; exact hj), fun i hi => by have h1 := h.row hi; have h2 := h.n6; unfold rowSum; omega, fun j hj => h.col (Nat.le_refl _) hj,
    fun i hi j hj => ⟨sumN_ge (h.nn i hi) (by rw [h.even i hi]; exact hj), sumN_ge (z := fun i => zs i j) (fun i hi => h.nn i hi j (by rw [h.even i hi]; exact hj)) hi⟩⟩
/-- Two rows, and the boxes of their slices. -/
structure TwoRows (W0 W : World) (B1 B2 g1 c1 n1 : Nat) (z1 : Nat → Int) (g2 c2 n2 : Nat) (z2 : Nat → Int) : Prop where
  below : Below W0.heap.size W0 W
  b1 : W.cell? ⟨B1, 0, none⟩ = some (.slice (some ⟨g1, 0, none⟩) n1 c1)
  b2 : W.cell? ⟨B2, 0, none⟩ = some (.slice (some ⟨g2, 0, none⟩) n2 c2)
  r1 : RowAt W g1 0 n1 z1
  r2 : RowAt W g2 0 n2 z2
theorem TwoRows.later {W0 W W' : World} {B1 B2 g1 c1 n1 g2 c2 n2 : Nat} {z1 z2 : Nat → Int} (h : TwoRows W0 W B1 B2 g1 c1 n1 z1 g2 c2 n2 z2) (hb : Below W.heap.size W W') : TwoRows W0 W' B1 B2 g1 c1 n1 z1 g2 c2 n2 z2 :=
  ⟨below_chain h.below hb, (cell_past h.b1 hb).2, (cell_past h.b2 hb).2, h.r1.later hb, h.r2.later hb⟩
/-- A new box with nothing in it. -/
structure NewRow (W0 W : World) (B : Nat) : Prop where
  c0 : W.cell? ⟨B, 0, none⟩ = some (.slice none 0 0)
  f0 : W.frozen? ⟨B, 0, none⟩ = false
  hB : W0.heap.size ≤ B
theorem NewRow.later {W0 W W' : World} {B : Nat} (h : NewRow W0 W B) (hb : Below W.heap.size W W') : NewRow W0 W' B := ⟨(cell_past h.c0 hb).2, (frozen_past h.c0 h.f0 hb).2, h.hB⟩
theorem newRow_new {W0 W : World} (h : Below W0.heap.size W0 W) : NewRow W0 (W.alloc (.cells #[.slice none 0 0] 26)) W.heap.size := ⟨by simp, by simp, h.size⟩

theorem NewRow.al {W0 W : World} {B : Nat} (h : NewRow W0 W B) : (∀ X, (W.alloc X).cell? ⟨B, 0, none⟩ = some (.slice none 0 0)) ∧ ∀ X, (W.alloc X).frozen? ⟨B, 0, none⟩ = false := ⟨fun X => (h.later (new_below _ X)).c0, fun X => (h.later (new_below _ X)).f0⟩
theorem NewRow.ne {W0 W : World} {B : Nat} (h : NewRow W0 W B) : (¬ B = W.heap.size) ∧ ¬ W.heap.size = B := by
  have hz := cell_lt h.c0
  simp only at hz
  exact ⟨by omega, by omega⟩
theorem newRow_of {W0 w w' : World} (h : Below W0.heap.size W0 w) {X : Obj} (hX : X = .cells #[.slice none 0 0] 26) (hb : Below (w.alloc X).heap.size (w.alloc X) w') : NewRow W0 w' w.heap.size := by
  subst hX
  exact (newRow_new h).later hb
theorem newRow_of2 {W0 w w' : World} (h : Below W0.heap.size W0 w) {X Y : Obj} (hX : X = .cells #[.slice none 0 0] 26) (hY : Y = .cells #[.slice none 0 0] 26) (hb : Below ((w.alloc X).alloc Y).heap.size ((w.alloc X).alloc Y) w') : NewRow W0 w' w.heap.size ∧ NewRow W0 w' (w.heap.size + 1) := by
  subst hX
  subst hY
  have h2 := (newRow_new (more_below h (.cells #[.slice none 0 0] 26))).later hb
  rw [World.size_alloc] at h2
  exact ⟨((newRow_new h).later (new_below _ _)).later hb, h2⟩
theorem row_not_box {W0 w : World} {g n B : Nat} {z : Nat → Int} (h : RowAt w g 0 n z) (h0 : 0 < n) (nb : NewRow W0 w B) : g ≠ B := fun e => by
  have h1 := h 0 h0
  rw [e, show (0 : Nat) + 0 = 0 from rfl, nb.c0] at h1
  cases h1
theorem row_set {w : World} {g n B : Nat} {z : Nat → Int} {v : Value} (h : RowAt w g 0 n z) (hne : g ≠ B) : RowAt (w.setCell ⟨B, 0, none⟩ v) g 0 n z := fun i hi => by
  rw [World.cell?_setCell_other _ _ _ _ (by simp <;> omega)]
  exact h i hi
theorem twoRows_a {W0 w : World} {g1 c1 n1 g2 c2 n2 : Nat} {z1 z2 : Nat → Int} (hb : Below W0.heap.size W0 w) (r1 : RowAt w g1 0 n1 z1) (r2 : RowAt w g2 0 n2 z2) : TwoRows W0 ((w.alloc (.cells #[.slice (some ⟨g1, 0, none⟩) n1 c1] 26)).alloc (.cells #[.slice (some ⟨g2, 0, none⟩) n2 c2] 26)) w.heap.size (w.heap.size + 1) g1 c1 n1 z1 g2 c2 n2 z2 :=
  ⟨more_below (more_below hb _) _, new_one (new_below _ _), by rw [World.cell?_alloc_at _ _ _ _ (by simp)]; rfl, (r1.later (new_below _ _)).later (new_below _ _), (r2.later (new_below _ _)).later (new_below _ _)⟩
theorem twoRows_b {W0 w : World} {g1 c1 n1 g2 c2 n2 : Nat} {z1 z2 : Nat → Int} (hb : Below W0.heap.size W0 w) (r1 : RowAt w g1 0 n1 z1) (r2 : RowAt w g2 0 n2 z2) : TwoRows W0 ((w.alloc (.cells #[.slice (some ⟨g2, 0, none⟩) n2 c2] 26)).alloc (.cells #[.slice (some ⟨g1, 0, none⟩) n1 c1] 26)) (w.heap.size + 1) w.heap.size g1 c1 n1 z1 g2 c2 n2 z2 :=
  ⟨more_below (more_below hb _) _, by rw [World.cell?_alloc_at _ _ _ _ (by simp)]; rfl, new_one (new_below _ _), (r1.later (new_below _ _)).later (new_below _ _), (r2.later (new_below _ _)).later (new_below _ _)⟩
theorem twoRows_d {W0 w : World} {B : Nat} {g1 c1 n1 g2 c2 n2 : Nat} {z1 z2 : Nat → Int} (hb : Below W0.heap.size W0 w) (r1 : RowAt w g1 0 n1 z1) (r2 : RowAt w g2 0 n2 z2) (p1 : 0 < n1) (p2 : 0 < n2) (nb : NewRow W0 w B) : TwoRows W0 ((w.alloc (.cells #[.slice (some ⟨g1, 0, none⟩) n1 c1] 26)).setCell ⟨B, 0, none⟩ (.slice (some ⟨g2, 0, none⟩) n2 c2)) w.heap.size B g1 c1 n1 z1 g2 c2 n2 z2 := by
  have hn := nb.later (new_below w (.cells #[.slice (some ⟨g1, 0, none⟩) n1 c1] 26))
  refine ⟨(more_below hb _).setCell hn.hB _, ?_, World.cell?_setCell_same _ _ _ hn.c0, row_set (r1.later (new_below _ _)) (row_not_box r1 p1 nb), row_set (r2.later (new_below _ _)) (row_not_box r2 p2 nb)⟩
  have := nb.ne
  rw [World.cell?_setCell_other _ _ _ _ (by simp <;> omega), World.cell?_alloc_at _ _ _ _ (by simp)]
  rfl
theorem twoRows_e {W0 w : World} {B B' : Nat} {g1 c1 n1 g2 c2 n2 : Nat} {z1 z2 : Nat → Int} (hb : Below W0.heap.size W0 w) (r1 : RowAt w g1 0 n1 z1) (r2 : RowAt w g2 0 n2 z2) (p1 : 0 < n1) (p2 : 0 < n2) (nb : NewRow W0 w B) (nb' : NewRow W0 w B') (hne : B ≠ B') : TwoRows W0 ((w.setCell ⟨B, 0, none⟩ (.slice (some ⟨g1, 0, none⟩) n1 c1)).setCell ⟨B', 0, none⟩ (.slice (some ⟨g2, 0, none⟩) n2 c2)) B B' g1 c1 n1 z1 g2 c2 n2 z2 := by
  have h1 : (w.setCell ⟨B, 0, none⟩ (.slice (some ⟨g1, 0, none⟩) n1 c1)).cell? ⟨B', 0, none⟩ = some (.slice none 0 0) := by rw [World.cell?_setCell_other _ _ _ _ (by simp <;> omega)]; exact nb'.c0
  refine ⟨(hb.setCell nb.hB _).setCell nb'.hB _, ?_, World.cell?_setCell_same _ _ _ h1, row_set (row_set r1 (row_not_box r1 p1 nb)) (row_not_box r1 p1 nb'), row_set (row_set r2 (row_not_box r2 p2 nb)) (row_not_box r2 p2 nb')⟩
  rw [World.cell?_setCell_other _ _ _ _ (by simp <;> omega)]
  exact World.cell?_setCell_same _ _ _ nb.c0
theorem twoRows_c {W0 w : World} {B : Nat} {g1 c1 n1 g2 c2 n2 : Nat} {z1 z2 : Nat → Int} (hb : Below W0.heap.size W0 w) (r1 : RowAt w g1 0 n1 z1) (r2 : RowAt w g2 0 n2 z2) (p1 : 0 < n1) (p2 : 0 < n2) (nb : NewRow W0 w B) : TwoRows W0 (((w.alloc (.cells #[.slice none 0 0] 26)).setCell ⟨B, 0, none⟩ (.slice (some ⟨g1, 0, none⟩) n1 c1)).setCell ⟨w.heap.size, 0, none⟩ (.slice (some ⟨g2, 0, none⟩) n2 c2)) B w.heap.size g1 c1 n1 z1 g2 c2 n2 z2 :=
  twoRows_e (more_below hb _) (r1.later (new_below _ _)) (r2.later (new_below _ _)) p1 p2 (nb.later (new_below _ _)) (newRow_new hb) nb.ne.1

set_option maxRecDepth 100000 in
set_option maxHeartbeats 2000000 in
theorem Mutual_ok (a : Nat → Addr) (ad : Option Addr) (R cap N : Nat) (vs : Nat → Value) (ns : Nat → Nat) (zs : Nat → Nat → Int) (w : World) (hE : Errs w a) (h : TabAt w (.slice ad R cap) R vs ns zs) (hR : R ≤ 40) (hs : sumT ns R ≤ 400) (h0 : tabErr R ns zs = 0) (hk : OkT R ns zs N) :
    Calls Tryd.prog 19 #[.slice ad R cap] w fun e w' => ∃ dn v', e = .returned (.tuple #[.agg #[.int .i64 dn, v'], .nilIface]) ∧ LogBy w.heap.size N (fun x => sumN (fun i => sumN (mutV (zs i) (rowSum ns zs i) (colV zs R) N x) (ns 0)) R) w' dn v' ∧ Below w.heap.size w w' := by
  have hm := okM_of hk
  have hN1 : 1 ≤ N ∧ N ≤ 4096 := ⟨hk.n1, hk.n6⟩
  have hR0 := hk.r0
  have hC0 := hk.c0
  obtain ⟨b, o, rfl, hrows⟩ := tab_rows h hk
  obtain ⟨W0, hW0⟩ : ∃ W0, W0 = (w.alloc (.cells #[.slice (some ⟨b, o, none⟩) R cap] 22)).alloc (.cells #[.int .i64 0, .slice none 0 0] 37) := ⟨_, rfl⟩
  have hb0 : Below w.heap.size w W0 := by rw [hW0]; exact below_chain (new_below _ _) (new_below _ _)
  have hz0 : W0.heap.size = w.heap.size + 1 + 1 := by rw [hW0]; simp
  have hbox : W0.cell? ⟨w.heap.size, 0, none⟩ = some (.slice (some ⟨b, o, none⟩) R cap) := by rw [hW0]; exact new_one (new_below _ _)
  have hres : ∀ W, Below W0.heap.size W0 W → W.cell? ⟨w.heap.size + 1, 0, none⟩ = some (.int .i64 0) ∧ W.cell? ⟨w.heap.size + 1, 1, none⟩ = some (.slice none 0 0) ∧ W.frozen? ⟨w.heap.size + 1, 0, none⟩ = false ∧ W.frozen? ⟨w.heap.size + 1, 1, none⟩ = false := fun W hb => by
    rw [hW0] at hb
    have := res_past hb
    simpa using this
  have ht := Table_any a _ R vs ns zs W0 (hE.below hb0) (h.later hb0) hR hs
  rw [h0, errV_zero] at ht
  have HRS : Hid (∀ W, Below W0.heap.size W0 W → Calls Tryd.prog 27 #[.slice (some ⟨b, o, none⟩) R cap] W fun e w' => ∃ g cp, e = .returned (.slice (some ⟨g, 0, none⟩) R cp) ∧ RowAt w' g 0 R (rowSum ns zs) ∧ Below W.heap.size W w') := fun W hb => rowSums_any _ R cap N vs ns zs W ((h.later hb0).later hb) hk
  have HCS : Hid (∀ W, Below W0.heap.size W0 W → Calls Tryd.prog 29 #[.slice (some ⟨b, o, none⟩) R cap] W fun e w' => ∃ g cp, e = .returned (.slice (some ⟨g, 0, none⟩) (ns 0) cp) ∧ RowAt w' g 0 (ns 0) (colV zs R) ∧ Below W.heap.size W w') := fun W hb => columnSums_any _ R cap N vs ns zs W ((h.later hb0).later hb) hk
  have HTT : Hid (∀ (W : World) (g cp : Nat), RowAt W g 0 R (rowSum ns zs) → Calls Tryd.prog 34 #[.slice (some ⟨g, 0, none⟩) R cp] W fun e w' => e = .returned (.int .i64 N) ∧ w' = W) := fun W g cp hr => by
    have hnn : ∀ i, i < R → 0 ≤ rowSum ns zs i := fun i hi => (hk.row hi).1
    have := total_some g 0 cp R (rowSum ns zs) W hr (fun k hk' => by have h1 := sumN_nonneg (z := rowSum ns zs) (n := k) (fun i hi => hnn i (by omega)); have h2 := sumN_mono (z := rowSum ns zs) (k := k) hnn (by omega); have h3 : sumN (rowSum ns zs) R = N := hk.tot; omega) (fun i hi => by have := hm.r i hi; omega) (by omega)
    rw [show sumN (rowSum ns zs) R = (N : Int) from hk.tot] at this
    exact this
  have HSO : Hid (∀ (W : World) (B1 B2 Ba g1 c1 g2 c2 : Nat), TwoRows W0 W B1 B2 g1 c1 R (rowSum ns zs) g2 c2 (ns 0) (colV zs R) → W.cell? ⟨Ba, 0, none⟩ = some (.int .i64 N) → Calls Tryd.prog 33 #[.int .i64 N, .func (.func 40) #[] #[.pointer (some ⟨w.heap.size, 0, none⟩), .pointer (some ⟨Ba, 0, none⟩), .pointer (some ⟨B1, 0, none⟩), .pointer (some ⟨B2, 0, none⟩)]] W fun e w' => ∃ dn v, e = .returned (.tuple #[.agg #[.int .i64 dn, v], .nilIface]) ∧ LogBy W.heap.size N (fun x => sumN (fun i => sumN (mutV (zs i) (rowSum ns zs i) (colV zs R) N x) (ns 0)) R) w' dn v ∧ Below W.heap.size W w') := fun W B1 B2 Ba g1 c1 g2 c2 htr hca =>
    sumOver_any 40 _ N (64 * R) (fun x => sumN (fun i => sumN (mutV (zs i) (rowSum ns zs i) (colV zs R) N x) (ns 0)) R) W (enters_of Tryd.func40 (by kernel_rfl) rfl) hN1.1 hN1.2 (by have := hk.r16; omega) (fun x => by have := mutT_le hm x (Nat.le_refl _); omega)
      (fun W' mb hb' ho => Mutual_parts N mb w.heap.size Ba B1 B2 b o cap g1 c1 g2 c2 R (ns 0) N zs _ _ W' ho (cell_past hbox (below_chain htr.below hb')).2 (cell_past hca hb').2 (cell_past htr.b1 hb').2 (cell_past htr.b2 hb').2 (hrows W' (below_chain hb0 (below_chain htr.below hb'))) (htr.r1.later hb') (htr.r2.later hb') hm)
  have HB0 := Hid.mk' hb0
  have HRES := Hid.mk' hres
  have HW0 := Hid.mk' hW0
  have HZ0 := Hid.mk' hz0
  have HBX : Hid (∀ W, Below W0.heap.size W0 W → W.cell? ⟨w.heap.size, 0, none⟩ = some (.slice (some ⟨b, o, none⟩) R cap)) := fun W hb => (cell_past hbox hb).2
  clear hE h hb0 hres hW0 hz0 h0 hs hrows hk hm
  go_enter Tryd.func19, Tryd.ntmps19
  go_upto_region 1 with fail
  rw [← HW0.out]
  go_wp2_with fail
  refine ht.mono ?_
  clear ht hbox
  rintro e w1 ⟨rfl, hb1⟩
  have hcur0 : Below W0.heap.size W0 w1 := hb1
  have hcur : Below W0.heap.size W0 w1.drew := hb1.drew
  have hcurA : ∀ X, Below W0.heap.size W0 (w1.alloc X).drew := fun X => (more_below hb1 _).drew
  have hcurB : ∀ X Y, Below W0.heap.size W0 ((w1.alloc X).alloc Y).drew := fun X Y => (more_below (more_below hb1 _) _).drew
  have HB1 := Hid.mk' hb1
  clear hb1
  go_upto_region 4 with fail
  go_cut [5, 6] from 14 (fun s t wx => ∃ B1 B2 g1 c1 g2 c2 : Nat, s = .pointer (some ⟨B1, 0, none⟩) ∧ t = .pointer (some ⟨B2, 0, none⟩) ∧ Hid (TwoRows W0 wx B1 B2 g1 c1 R (rowSum ns zs) g2 c2 (ns 0) (colV zs R)))
  case first =>
    go_region_held3 (fun W => W.cell? ⟨w.heap.size, 0, none⟩ = some (.slice (some ⟨b, o, none⟩) R cap))
      ((refine HBX.out _ ?_; repeat' (first | assumption | exact hcurA _ | exact hcurB _ _ | exact N1.hB | exact N2.hB | exact hbw3.size | exact Nat.le_succ_of_le hbw3.size | refine more_below ?_ _ | refine Below.setCell ?_ ?_ _)))
      (first
        | (go_at_call 29; have hz2 := hbw2; clear hz2; refine (HCS.out _ ?_).mono ?_; (first | exact hbw2 | exact more_below hbw2 _ | exact more_below (more_below hbw2 _) _); rintro e w3 ⟨g3, c3, rfl, hr3, hb3⟩; (first | (have hbx := hb3; have hbw3 := below_chain hbw2 hbx; (try have N1 := N1.later hb3); (try have N2 := N2.later hb3)) | (have hbx := below_chain (new_below _ _) hb3; have hbw3 := below_chain hbw2 hbx; (try have N1 := N1.later hbx); have N2 := newRow_of hbw2 rfl hb3) | (have hbx := below_chain (more_below (new_below _ _) _) hb3; have hbw3 := below_chain hbw2 hbx; obtain ⟨N1, N2⟩ := newRow_of2 hbw2 rfl rfl hb3)); have HR3 := Hid.mk' (And.intro (HR2.out _ hbx) hr3); (try (have y0 := N1.c0; have y1 := N1.f0; obtain ⟨y4, y5⟩ := N1.al; obtain ⟨q1, q2⟩ := N1.ne)); (try (have y2 := N2.c0; have y3 := N2.f0; obtain ⟨y6, y7⟩ := N2.al; obtain ⟨q3, q4⟩ := N2.ne)); clear hr3 hb3 hbx)
        | (go_at_call 27; refine (HRS.out _ ?_).mono ?_; (first | exact hcur | exact hcurA _ | exact hcurB _ _); rintro e w2 ⟨g2, c2, rfl, hr2, hb2⟩; (first | have hbw2 := below_chain hcur hb2 | (have hbw2 := below_chain (hcurA _) hb2; have N1 := newRow_of hcur0 rfl (below_chain ((Below.refl _ _).drew) hb2)) | (have hbw2 := below_chain (hcurB _ _) hb2; obtain ⟨N1, N2⟩ := newRow_of2 hcur0 rfl rfl (below_chain ((Below.refl _ _).drew) hb2))); (try (have hne1 : ¬ w1.heap.size = w2.heap.size := (by have hz := cell_lt N1.c0; simp only at hz; omega); have hne2 : ¬ w2.heap.size = w1.heap.size := (fun e => hne1 e.symm))); have HR2 : Hid (∀ W, Below w2.heap.size w2 W → RowAt W g2 0 R (rowSum ns zs)) := (fun W hb => hr2.later hb); clear hr2 hb2))
    all_goals
      go_wp2_with fail
      go_meet
      first
        | exact ⟨_, _, _, _, _, _, rfl, rfl, twoRows_a hbw3 HR3.out.1 HR3.out.2⟩
        | exact ⟨_, _, _, _, _, _, rfl, rfl, twoRows_b hbw3 HR3.out.1 HR3.out.2⟩
        | exact ⟨_, _, _, _, _, _, rfl, rfl, twoRows_c hbw3 HR3.out.1 HR3.out.2 hR0 hC0 N1⟩
        | exact ⟨_, _, _, _, _, _, rfl, rfl, twoRows_c hbw3 HR3.out.1 HR3.out.2 hR0 hC0 N2⟩
        | exact ⟨_, _, _, _, _, _, rfl, rfl, twoRows_d hbw3 HR3.out.1 HR3.out.2 hR0 hC0 N1⟩
        | exact ⟨_, _, _, _, _, _, rfl, rfl, twoRows_d hbw3 HR3.out.1 HR3.out.2 hR0 hC0 N2⟩
        | exact ⟨_, _, _, _, _, _, rfl, rfl, twoRows_e hbw3 HR3.out.1 HR3.out.2 hR0 hC0 N1 N2 (by omega)⟩
        | exact ⟨_, _, _, _, _, _, rfl, rfl, twoRows_e hbw3 HR3.out.1 HR3.out.2 hR0 hC0 N2 N1 (by omega)⟩
  case rest =>
    obtain ⟨B1, B2, g1, c1, g2, c2, rfl, rfl, HTN⟩ := hcut
    clear hcur0 hcur hcurA hcurB HRS HCS
    have cB := HTN.out.b1
    have htt := HTT.out wc g1 c1 HTN.out.r1
    go_wp2_with (first | (go_at_call 34; refine htt.mono ?_; rintro e w3 ⟨rfl, hw3⟩; rw [hw3]; clear hw3))
    have hso := HSO.out (wc.alloc (.cells #[.int .i64 N] 3)) B1 B2 wc.heap.size g1 c1 g2 c2 (HTN.out.later (new_below _ _)) (new_one (Below.refl _ _))
    refine hso.mono ?_
    clear hso cB htt
    rintro e w6 ⟨dn, v, rfl, hlb, hb6⟩
    have hbw := below_chain (more_below HTN.out.below _) hb6
    obtain ⟨c0, c1, q0, q1⟩ := HRES.out w6 hbw
    have HBW := Hid.mk' (below_chain HB0.out hbw)
    have HLT : Hid (w.heap.size + 1 < (wc.alloc (.cells #[.int .i64 N] 3)).heap.size) := by have h2 := HZ0.out; have h3 := HTN.out.below.size; show _ < _; rw [World.size_alloc]; omega
    have HLB := Hid.mk' hlb
    obtain ⟨ad, n', c', rfl⟩ := hlb.form
    clear hlb hb6 hbw
    go_wp2_with fail
    refine bodyPost_ret (v := .tuple #[.agg #[.int .i64 dn, .slice ad n' c'], .nilIface]) (by simp [results, Tryd.results19, go_sem, c0, c1]) rfl ⟨_, .slice ad n' c', rfl, (HLB.out.set HLT.out _ _).lower (by have := HLT.out; omega), ?_⟩
    exact (HBW.out.setCell (by simp) _).setCell (by simp) _

set_option maxRecDepth 100000 in
set_option maxHeartbeats 1000000 in
theorem Mutual_bad (a : Nat → Addr) (v : Value) (R : Nat) (vs : Nat → Value) (ns : Nat → Nat) (zs : Nat → Nat → Int) (w : World) (hE : Errs w a) (h : TabAt w v R vs ns zs) (hR : R ≤ 40) (hs : sumT ns R ≤ 400) (h0 : tabErr R ns zs ≠ 0) :
    Calls Tryd.prog 19 #[v] w fun e w' => e = .returned (.tuple #[.agg #[.int .i64 0, .slice none 0 0], errV a (tabErr R ns zs)]) ∧ Below w.heap.size w w' := by
  obtain ⟨ad, cap, rfl⟩ := h.form
  obtain ⟨W0, hW0⟩ : ∃ W0, W0 = (w.alloc (.cells #[.slice ad R cap] 22)).alloc (.cells #[.int .i64 0, .slice none 0 0] 37) := ⟨_, rfl⟩
  have hb0 : Below w.heap.size w W0 := by rw [hW0]; exact below_chain (new_below _ _) (new_below _ _)
  have hbox : W0.cell? ⟨w.heap.size, 0, none⟩ = some (.slice ad R cap) := by rw [hW0]; exact new_one (new_below _ _)
  have hres : ∀ W, Below W0.heap.size W0 W → W.cell? ⟨w.heap.size + 1, 0, none⟩ = some (.int .i64 0) ∧ W.cell? ⟨w.heap.size + 1, 1, none⟩ = some (.slice none 0 0) ∧ W.frozen? ⟨w.heap.size + 1, 0, none⟩ = false ∧ W.frozen? ⟨w.heap.size + 1, 1, none⟩ = false := fun W hb => by
    rw [hW0] at hb
    have := res_past hb
    simpa using this
  have ht := Table_any a _ R vs ns zs W0 (hE.below hb0) (h.later hb0) hR hs
  rw [errV_pos a h0] at ht ⊢
  generalize a (tabErr R ns zs - 1) = ea at ht ⊢
  have HB0 := Hid.mk' hb0
  have HRES := Hid.mk' hres
  have HW0 := Hid.mk' hW0
  clear hE h hb0 hres hW0 h0
  go_enter Tryd.func19, Tryd.ntmps19
  go_upto_region 1 with fail
  rw [← HW0.out]
  go_wp2_with (go_at_call 26; refine ht.mono ?_; rintro e w1 ⟨rfl, hb1⟩; obtain ⟨c0, c1, q0, q1⟩ := HRES.out w1 hb1; have HB1 := Hid.mk' (below_chain HB0.out hb1); clear hb1)
  refine bodyPost_ret (v := .tuple #[.agg #[.int .i64 0, .slice none 0 0], .iface 156 (.pointer (some ea))]) (by simp [results, Tryd.results19, go_sem, c0, c1]) rfl ⟨rfl, ?_⟩
  exact (HB1.out.setCell (by simp) _).setCell (by simp) _
end Go.Proofs.YtfnmpkkfdljgcaaDoor

/- dist.Given. -/
namespace Go.Proofs.YtfnmpkkfdljgcaaDoor
open Go.RowKit Go.Maps

/-- What a row puts. -/
def givV (ns : Nat → Nat) (zs : Nat → Nat → Int) (x : Int) (i : Nat) : Int := sumN (entV (zs i) (sumN (zs i) (ns i)).toNat x) (ns i)
theorem givV_le {R N : Nat} {ns : Nat → Nat} {zs : Nat → Nat → Int} (h : OkT R ns zs N) (x : Int) {i : Nat} (hi : i < R) : -3200000 ≤ givV ns zs x i ∧ givV ns zs x i ≤ 3200000 := by
  have h1 := h.row hi
  have h2 := h.n6
  have h3 := sumN_bound (f := entV (zs i) (sumN (zs i) (ns i)).toNat x) (B := 200000) (n := ns i) (fun j hj => entV_le x (h.cell hi hj) (by omega))
  have h4 := h.even i hi
  have h5 := h.c16
  have : ((ns i : Nat) : Int) * 200000 ≤ 3200000 := by omega
  unfold givV
  omega

set_option maxRecDepth 100000 in
set_option maxHeartbeats 4000000 in
theorem Given_parts (den : Int) (mb B b o cap R N : Nat) (ns : Nat → Nat) (zs : Nat → Nat → Int) (w : World) (hown : w.ownsMap Tryd.prog 3 (plainElem (H := Unit) Tryd.prog 3) mb 0 (mapOf [])) (hB : w.cell? ⟨B, 0, none⟩ = some (.slice (some ⟨b, o, none⟩) R cap)) (hk : OkT R ns zs N)
    (hr : ∀ i, i < R → ∃ b1 o1 cap1, w.cell? ⟨b, o + i, none⟩ = some (.slice (some ⟨b1, o1, none⟩) (ns 0) cap1) ∧ RowAt w b1 o1 (ns 0) (zs i)) :
    Calls Tryd.prog 39 #[putV den mb, .pointer (some ⟨B, 0, none⟩)] w fun e w' => e = .returned (.tuple #[]) ∧ ∃ l nn, Puts w w' mb (fun x => sumN (givV ns zs x) R) (32 * R) [] 0 l nn := by
  have HP0 : Hid (Puts w w mb (fun x => sumN (givV ns zs x) 0) (32 * 0) [] 0 [] 0) := ⟨hown, List.Pairwise.nil, (fun x => by simp [sumN]), (fun e he => by cases he), by omega, by simp, grown_refl _ _⟩
  have HROW : Hid (∀ (wr : World), w.grownBy wr (some mb) → ∀ i, i < R → ∃ b1 o1 cap1, wr.cell? ⟨b, o + i, none⟩ = some (.slice (some ⟨b1, o1, none⟩) (ns 0) cap1) ∧ RowAt wr b1 o1 (ns 0) (zs i)) := fun wr hg i hi => by
    obtain ⟨b1, o1, cap1, h1, h2⟩ := hr i hi
    exact ⟨b1, o1, cap1, cell_side hown hg h1, h2.beside hown hg⟩
  have HK := Hid.mk' hk
  have hR16 := hk.r16
  clear hown hr hk
  unfold putV
  go_enter Tryd.func39, Tryd.ntmps39
  go_wp2_with fail
  go_loopw [4, 7] (fun _ i wr => ∃ (k nn : Nat) (l : List (Int × Int)), k ≤ R ∧ i = .int .i64 k ∧ Hid (Puts w wr mb (fun x => sumN (givV ns zs x) k) (32 * k) [] 0 l nn)) (fun _ i _ => R - (intOf i).toNat)
  case atStart => exact ⟨0, 0, [], Nat.zero_le _, rfl, HP0⟩
  case round =>
    clear HP0 hB
    obtain ⟨k, nn, l, hk, rfl, HP⟩ := hrel
    rcases Nat.lt_or_ge k R with h1 | h1
    · obtain ⟨b1, o1, cap1, hc, hr1⟩ := HROW.out wr HP.out.grow k h1
      have hkn : (k : Int) < (R : Int) := by omega
      have he := HK.out.even k h1
      have HBD : Hid (∀ x, -100000000 ≤ atL l x ∧ atL l x ≤ 100000000) := fun x => by
        rw [HP.out.val]
        have h3 := sumN_bound (f := givV ns zs x) (B := 3200000) (n := k) (fun i hi => givV_le HK.out x (by omega))
        have : (k : Int) * 3200000 ≤ 51200000 := by omega
        simp only [atL]
        omega
      have hp := putEntropy_some den mb nn b1 o1 cap1 (ns 0) (zs k) l wr HP.out.own HP.out.rise HP.out.keys (fun x => by have := HBD.out x; omega) (by have := HP.out.cnt; omega) hr1 (fun j hj => HK.out.nn k h1 j (by rw [he]; exact hj)) (by have h2 := (HK.out.part h1 (k := ns 0) (by omega)).2; exact h2) (by have := HK.out.c16; omega)
      have HV : Hid (∀ x, sumN (givV ns zs x) (k + 1) = sumN (givV ns zs x) k + sumN (entV (zs k) (sumN (zs k) (ns 0)).toNat x) (ns 0)) := fun x => by
        show sumN (givV ns zs x) k + givV ns zs x k = _
        unfold givV
        rw [he]
      have hc16 := HK.out.c16
      unfold putV at hp
      clear hr1 he
      go_wp2_with fail
      refine hp.mono ?_
      clear hp hc
      rintro e w2 ⟨rfl, l2, nn2, hp2⟩
      have HQ2 := Hid.mk' ((HP.out.trans hp2).congr (d := 32 * (k + 1)) (by omega) (g := fun x => sumN (givV ns zs x) (k + 1)) (fun x => (HV.out x).symm))
      clear hp2
      go_wp2_with fail
      exact ⟨⟨k + 1, nn2, l2, h1, by go_num, HQ2⟩, by simp [intOf]; omega⟩
    · obtain rfl : k = R := by omega
      go_wp2_with fail
      go_end0
      exact ⟨rfl, l, nn, HP.out⟩
theorem giv_bound {R N : Nat} {ns : Nat → Nat} {zs : Nat → Nat → Int} (h : OkT R ns zs N) (x : Int) : -1000000000 ≤ sumN (givV ns zs x) R ∧ sumN (givV ns zs x) R ≤ 1000000000 := by
  have h3 := sumN_bound (f := givV ns zs x) (B := 3200000) (n := R) (fun i hi => givV_le h x hi)
  have h4 := h.r16
  have : (R : Int) * 3200000 ≤ 51200000 := by omega
  omega

set_option maxRecDepth 100000 in
set_option maxHeartbeats 2000000 in
theorem Given_ok (a : Nat → Addr) (ad : Option Addr) (R cap N n : Nat) (vs : Nat → Value) (ns : Nat → Nat) (zs : Nat → Nat → Int) (L : List Int) (w : World) (hE : Errs w a) (h : TabAt w (.slice ad R cap) R vs ns zs) (hR : R ≤ 40) (hs : sumT ns R ≤ 400) (h0 : tabErr R ns zs = 0) (hk : OkT R ns zs N) (hL : L = flatL ns zs R) (hn : L.length = n) (hN : sumN (atF L) n = N) :
    Calls Tryd.prog 18 #[.slice ad R cap] w fun e w' => ∃ dn v', e = .returned (.tuple #[.agg #[.int .i64 dn, v'], .nilIface]) ∧ LogBy w.heap.size N (fun x => sumN (givV ns zs x) R) w' dn v' ∧ Below w.heap.size w w' := by
  obtain ⟨_, _, _, hok, hn256⟩ := tabErr_ok h0
  rw [← hL, hn] at hok hn256
  have hp := hok.posN
  have hN1 : 1 ≤ N ∧ N ≤ 4096 := ⟨hk.n1, hk.n6⟩
  obtain ⟨b, o, rfl, hrows⟩ := tab_rows h hk
  obtain ⟨W0, hW0⟩ : ∃ W0, W0 = (w.alloc (.cells #[.slice (some ⟨b, o, none⟩) R cap] 22)).alloc (.cells #[.int .i64 0, .slice none 0 0] 37) := ⟨_, rfl⟩
  have hb0 : Below w.heap.size w W0 := by rw [hW0]; exact below_chain (new_below _ _) (new_below _ _)
  have hz0 : W0.heap.size = w.heap.size + 1 + 1 := by rw [hW0]; simp
  have hbox : W0.cell? ⟨w.heap.size, 0, none⟩ = some (.slice (some ⟨b, o, none⟩) R cap) := by rw [hW0]; exact new_one (new_below _ _)
  have hres : ∀ W, Below W0.heap.size W0 W → W.cell? ⟨w.heap.size + 1, 0, none⟩ = some (.int .i64 0) ∧ W.cell? ⟨w.heap.size + 1, 1, none⟩ = some (.slice none 0 0) ∧ W.frozen? ⟨w.heap.size + 1, 0, none⟩ = false ∧ W.frozen? ⟨w.heap.size + 1, 1, none⟩ = false := fun W hb => by
    rw [hW0] at hb
    have := res_past hb
    simpa using this
  have ht := Table_any a _ R vs ns zs W0 (hE.below hb0) (h.later hb0) hR hs
  rw [h0, errV_zero] at ht
  have HCL : Hid (∀ W, Below W0.heap.size W0 W → Calls Tryd.prog 37 #[.slice (some ⟨b, o, none⟩) R cap] W fun e w' => ∃ g cp, e = .returned (.slice (some ⟨g, 0, none⟩) n cp) ∧ RowAt w' g 0 n (atF L) ∧ Below W.heap.size W w') := fun W hb => (cells_any _ R vs ns zs W ((h.later hb0).later hb) (by omega) (by omega)).mono (fun e w' hx => by
    obtain ⟨v', rfl, hrow, hb'⟩ := hx
    rw [← hL, hn] at hrow
    obtain ⟨g, cp, rfl, hr⟩ := row_some hrow hn hp
    exact ⟨g, cp, rfl, hr, hb'⟩)
  have HSO : Hid (∀ W, Below W0.heap.size W0 W → Calls Tryd.prog 33 #[.int .i64 N, .func (.func 39) #[] #[.pointer (some ⟨w.heap.size, 0, none⟩)]] W fun e w' => ∃ dn v, e = .returned (.tuple #[.agg #[.int .i64 dn, v], .nilIface]) ∧ LogBy W.heap.size N (fun x => sumN (givV ns zs x) R) w' dn v ∧ Below W.heap.size W w') := fun W hb =>
    sumOver_any 39 _ N (32 * R) (fun x => sumN (givV ns zs x) R) W (enters_of Tryd.func39 (by kernel_rfl) rfl) hN1.1 hN1.2 (by have := hk.r16; omega) (fun x => giv_bound hk x)
      (fun W' mb hb' ho => Given_parts N mb w.heap.size b o cap R N ns zs W' ho (cell_past hbox (below_chain hb hb')).2 hk (hrows W' (below_chain hb0 (below_chain hb hb'))))
  have HOK := Hid.mk' hok
  have HNN := Hid.mk' hN
  have HB0 := Hid.mk' hb0
  have HRES := Hid.mk' hres
  have HW0 := Hid.mk' hW0
  have HZ0 := Hid.mk' hz0
  have HBX := Hid.mk' hbox
  clear hE h hb0 hres hW0 hz0 h0 hok hL hn hN hs hrows hk
  go_enter Tryd.func18, Tryd.ntmps18
  go_upto_region 1 with fail
  rw [← HW0.out]
  go_wp2_with fail
  refine ht.mono ?_
  clear ht hbox
  rintro e w1 ⟨rfl, hb1⟩
  have HB1 := Hid.mk' hb1
  have hbx1 := (cell_past HBX.out hb1).2
  clear hb1
  go_wp2_with (first
    | (go_at_call 37; refine (HCL.out w1 HB1.out).mono ?_; rintro e w2 ⟨g, cp, rfl, hr2, hb2⟩; have htt := total_some g 0 cp n (atF L) w2 hr2 (fun k hk => by have := HOK.out.part hk; omega) (fun i hi => by have := HOK.out.lt hi; omega) (by omega); rw [HNN.out] at htt; have HTT := Hid.mk' htt; have HB2 := Hid.mk' (below_chain HB1.out hb2); clear htt hr2 hb2)
    | (go_at_call 34; refine HTT.out.mono ?_; rintro e w3 ⟨rfl, hw3⟩; rw [hw3]; clear hw3)
    | (go_at_call 33; refine (HSO.out w2 HB2.out).mono ?_; rintro e w4 ⟨dn, v4, rfl, hlb, hb4⟩; obtain ⟨c0, c1, q0, q1⟩ := HRES.out w4 (below_chain HB2.out hb4); have HBW := Hid.mk' (below_chain HB0.out (below_chain HB2.out hb4)); have HLB := Hid.mk' hlb; obtain ⟨ad4, n4, c4, rfl⟩ := hlb.form; clear hlb))
  have HLT : Hid (w.heap.size + 1 < w2.heap.size) := by have h1 := HZ0.out; have h2 := HB2.out.size; show _ < _; omega
  refine bodyPost_ret (v := .tuple #[.agg #[.int .i64 dn, .slice ad4 n4 c4], .nilIface]) (by simp [results, Tryd.results18, go_sem, c0, c1]) rfl ⟨_, .slice ad4 n4 c4, rfl, (HLB.out.set HLT.out _ _).lower (by have := HLT.out; omega), ?_⟩
  exact (HBW.out.setCell (by simp) _).setCell (by simp) _

set_option maxRecDepth 100000 in
set_option maxHeartbeats 1000000 in
theorem Given_bad (a : Nat → Addr) (v : Value) (R : Nat) (vs : Nat → Value) (ns : Nat → Nat) (zs : Nat → Nat → Int) (w : World) (hE : Errs w a) (h : TabAt w v R vs ns zs) (hR : R ≤ 40) (hs : sumT ns R ≤ 400) (h0 : tabErr R ns zs ≠ 0) :
    Calls Tryd.prog 18 #[v] w fun e w' => e = .returned (.tuple #[.agg #[.int .i64 0, .slice none 0 0], errV a (tabErr R ns zs)]) ∧ Below w.heap.size w w' := by
  obtain ⟨ad, cap, rfl⟩ := h.form
  obtain ⟨W0, hW0⟩ : ∃ W0, W0 = (w.alloc (.cells #[.slice ad R cap] 22)).alloc (.cells #[.int .i64 0, .slice none 0 0] 37) := ⟨_, rfl⟩
  have hb0 : Below w.heap.size w W0 := by rw [hW0]; exact below_chain (new_below _ _) (new_below _ _)
  have hbox : W0.cell? ⟨w.heap.size, 0, none⟩ = some (.slice ad R cap) := by rw [hW0]; exact new_one (new_below _ _)
  have hres : ∀ W, Below W0.heap.size W0 W → W.cell? ⟨w.heap.size + 1, 0, none⟩ = some (.int .i64 0) ∧ W.cell? ⟨w.heap.size + 1, 1, none⟩ = some (.slice none 0 0) ∧ W.frozen? ⟨w.heap.size + 1, 0, none⟩ = false ∧ W.frozen? ⟨w.heap.size + 1, 1, none⟩ = false := fun W hb => by
    rw [hW0] at hb
    have := res_past hb
    simpa using this
  have ht := Table_any a _ R vs ns zs W0 (hE.below hb0) (h.later hb0) hR hs
  rw [errV_pos a h0] at ht ⊢
  generalize a (tabErr R ns zs - 1) = ea at ht ⊢
  have HB0 := Hid.mk' hb0
  have HRES := Hid.mk' hres
  have HW0 := Hid.mk' hW0
  clear hE h hb0 hres hW0 h0
  go_enter Tryd.func18, Tryd.ntmps18
  go_upto_region 1 with fail
  rw [← HW0.out]
  go_wp2_with (go_at_call 26; refine ht.mono ?_; rintro e w1 ⟨rfl, hb1⟩; obtain ⟨c0, c1, q0, q1⟩ := HRES.out w1 hb1; have HB1 := Hid.mk' (below_chain HB0.out hb1); clear hb1)
  refine bodyPost_ret (v := .tuple #[.agg #[.int .i64 0, .slice none 0 0], .iface 156 (.pointer (some ea))]) (by simp [results, Tryd.results18, go_sem, c0, c1]) rfl ⟨rfl, ?_⟩
  exact (HB1.out.setCell (by simp) _).setCell (by simp) _
end Go.Proofs.YtfnmpkkfdljgcaaDoor

/- The sides of what rows tell of columns; entropies of a table, held against each other. -/
namespace Go.Proofs.YtfnmpkkfdljgcaaDoor
open Go.RowKit

/-- It speaks of primes alone. -/
def Supp (f : Int → Int) : Prop := ∀ x, f x ≠ 0 → 2 ≤ x ∧ x ≤ 4096 ∧ Pr x.toNat
theorem supp_term (c : Int) (m : Nat) (h : c ≠ 0 → 0 < m ∧ m ≤ 4096) : Supp fun x => c * multI x m := fun x hx => by
  dsimp only at hx
  have h1 : c ≠ 0 := fun e => hx (by rw [e]; simp)
  have h2 : multI x m ≠ 0 := fun e => hx (by rw [e]; simp)
  obtain ⟨a1, a2, a3⟩ := multI_support (h h1).1 h2
  have := (h h1).2
  exact ⟨a2, by omega, a1⟩
theorem Supp.add {f g : Int → Int} (hf : Supp f) (hg : Supp g) : Supp fun x => f x + g x := fun x hx => by
  by_cases h : f x = 0
  · exact hg x (fun e => hx (by dsimp only; rw [h, e]; rfl))
  · exact hf x h
theorem Supp.sub {f g : Int → Int} (hf : Supp f) (hg : Supp g) : Supp fun x => f x - g x := fun x hx => by
  by_cases h : f x = 0
  · exact hg x (fun e => hx (by dsimp only; rw [h, e]; rfl))
  · exact hf x h
theorem supp_sum {F : Nat → Int → Int} : ∀ {n : Nat}, (∀ i, i < n → Supp (F i)) → Supp fun x => sumN (fun i => F i x) n
  | 0, _ => fun x hx => absurd rfl hx
  | n + 1, h => (supp_sum fun i hi => h i (by omega)).add (h n (by omega))
theorem sumN_zero : ∀ n, sumN (fun _ => 0) n = 0
  | 0 => rfl
  | n + 1 => by simp only [sumN]; rw [sumN_zero n]; rfl
theorem sumN_plus (f g : Nat → Int) : ∀ n, sumN (fun i => f i + g i) n = sumN f n + sumN g n
  | 0 => rfl
  | n + 1 => by simp only [sumN]; rw [sumN_plus f g n]; omega
theorem sumN_less (f g : Nat → Int) : ∀ n, sumN (fun i => f i - g i) n = sumN f n - sumN g n
  | 0 => rfl
  | n + 1 => by simp only [sumN]; rw [sumN_less f g n]; omega
theorem sumN_times (k : Int) (f : Nat → Int) : ∀ n, sumN (fun i => f i * k) n = sumN f n * k
  | 0 => by simp [sumN]
  | n + 1 => by simp only [sumN]; rw [sumN_times k f n, Int.add_mul]
theorem sumN_swap (F : Nat → Nat → Int) (C : Nat) : ∀ R, sumN (fun i => sumN (fun j => F i j) C) R = sumN (fun j => sumN (fun i => F i j) R) C
  | 0 => by simp only [sumN]; rw [sumN_zero]
  | R + 1 => by
    simp only [sumN]
    rw [sumN_swap F C R, ← sumN_plus]
/-- The columns' entropy by places. -/
theorem ent_cols (zs : Nat → Nat → Int) (R C N : Nat) (x : Int) : sumN (entV (colV zs R) N x) C = sumN (fun i => sumN (fun j => zs i j * (multI x N - multI x (colV zs R j).toNat)) C) R := by
  rw [sumN_swap]
  refine sumN_congr fun j _ => ?_
  rw [sumN_times]
  unfold entV
  show colV zs R j * _ - colV zs R j * _ = colV zs R j * _
  rw [Int.mul_sub]
/-- What is known of the columns less what is told if the row is known is what rows tell. -/
theorem less_told {R N : Nat} {ns : Nat → Nat} {zs : Nat → Nat → Int} (h : OkT R ns zs N) (x : Int) : sumN (entV (colV zs R) N x) (ns 0) - sumN (givV ns zs x) R = sumN (fun i => sumN (mutV (zs i) (rowSum ns zs i) (colV zs R) N x) (ns 0)) R := by
  rw [ent_cols, ← sumN_less]
  refine sumN_congr fun i hi => ?_
  unfold givV
  rw [h.even i hi, ← sumN_less]
  refine sumN_congr fun j _ => ?_
  unfold entV mutV rowSum
  rw [h.even i hi]
  grind
theorem mult_prod1 {x : Nat} (hx : Pr x) {a b : Nat → Nat} : ∀ {n : Nat}, (∀ i, i < n → 0 < a i → 0 < b i) → mult x (prodA (fun i => b i ^ a i) n) = sumA (fun i => a i * mult x (b i)) n ∧ 0 < prodA (fun i => b i ^ a i) n
  | 0, _ => ⟨by simp only [prodA, sumA]; exact mult_one hx.1, by simp [prodA]⟩
  | n + 1, h => by
    obtain ⟨h1, h2⟩ := mult_prod1 hx (n := n) (fun i hi => h i (by omega))
    have h3 : mult x (b n ^ a n) = a n * mult x (b n) ∧ 0 < b n ^ a n := by
      rcases Nat.eq_zero_or_pos (a n) with h0 | h0
      · rw [h0, Nat.pow_zero, Nat.zero_mul]
        exact ⟨mult_one hx.1, by omega⟩
      · exact ⟨mult_power hx (h n (by omega) h0) _, Nat.pow_pos (h n (by omega) h0)⟩
    simp only [prodA, sumA]
    exact ⟨by rw [mult_mul hx _ _ h2 h3.2, h1, h3.1], Nat.mul_pos h2 h3.2⟩
theorem mult_prod2 {x : Nat} (hx : Pr x) {a b : Nat → Nat → Nat} {C : Nat} : ∀ {R : Nat}, (∀ i, i < R → ∀ j, j < C → 0 < a i j → 0 < b i j) → mult x (prodA (fun i => prodA (fun j => b i j ^ a i j) C) R) = sumA (fun i => sumA (fun j => a i j * mult x (b i j)) C) R ∧ 0 < prodA (fun i => prodA (fun j => b i j ^ a i j) C) R
  | 0, _ => ⟨by simp only [prodA, sumA]; exact mult_one hx.1, by simp [prodA]⟩
  | R + 1, h => by
    obtain ⟨h1, h2⟩ := mult_prod2 hx (R := R) (fun i hi => h i (by omega))
    obtain ⟨h3, h4⟩ := mult_prod1 hx (fun j hj => h R (by omega) j hj)
    simp only [prodA, sumA]
    exact ⟨by rw [mult_mul hx _ _ h2 h4, h1, h3], Nat.mul_pos h2 h4⟩
theorem sumN_nat2 {z : Nat → Int} {a : Nat → Nat} : ∀ {n : Nat}, (∀ i, i < n → z i = (a i : Int)) → sumN z n = (sumA a n : Int)
  | 0, _ => rfl
  | n + 1, h => by
    simp only [sumN, sumA]
    rw [sumN_nat2 (n := n) (fun i hi => h i (by omega)), h n (by omega)]
    simp
/-- The sides of what rows tell. -/
theorem told_sides {R N : Nat} {ns : Nat → Nat} {zs : Nat → Nat → Int} (h : OkT R ns zs N) :
    ∃ U D : Nat, 0 < U ∧ 0 < D ∧ D ≤ U ∧ ∀ x : Nat, Pr x → sumN (fun i => sumN (mutV (zs i) (rowSum ns zs i) (colV zs R) N (x : Int)) (ns 0)) R = (mult x U : Int) - (mult x D : Int) := by
  obtain ⟨a, ha⟩ : ∃ a : Nat → Nat → Nat, ∀ i, i < R → ∀ j, j < ns 0 → zs i j = (a i j : Int) := ⟨fun i j => (zs i j).toNat, fun i hi j hj => by have := h.nn i hi j (by rw [h.even i hi]; exact hj); dsimp only; omega⟩
  have hr : ∀ i, i < R → rowSum ns zs i = (sumA (a i) (ns 0) : Int) := fun i hi => by
    unfold rowSum
    rw [h.even i hi]
    exact sumN_nat2 (fun j hj => ha i hi j hj)
  have hc : ∀ j, j < ns 0 → colV zs R j = (sumA (fun i => a i j) R : Int) := fun j hj => sumN_nat2 (fun i hi => ha i hi j hj)
  have hN : N = sumA (fun i => sumA (a i) (ns 0)) R := by
    have h1 := h.tot
    have h2 : sumN (fun i => sumN (zs i) (ns i)) R = (sumA (fun i => sumA (a i) (ns 0)) R : Int) := sumN_nat2 (fun i hi => hr i hi)
    omega
  have hN0 : 0 < N := h.n1
  have hle : ∀ i, i < R → ∀ j, j < ns 0 → a i j ≤ sumA (a i) (ns 0) ∧ a i j ≤ sumA (fun k => a k j) R := fun i hi j hj => ⟨sumA_ge (a i) hj, sumA_ge (fun k => a k j) hi⟩
  have h2 : Pr 2 := ⟨by omega, fun d hd hdd => by have := Nat.mul_le_mul hd hd; omega⟩
  have p1 : ∀ i, i < R → ∀ j, j < ns 0 → 0 < a i j → 0 < a i j := fun _ _ _ _ h => h
  have p2 : ∀ i, i < R → ∀ j, j < ns 0 → 0 < a i j → 0 < sumA (a i) (ns 0) * sumA (fun k => a k j) R := fun i hi j hj h0 => by
    have := hle i hi j hj
    exact Nat.mul_pos (by omega) (by omega)
  have u2 := (mult_prod2 h2 (b := a) p1).2
  have d2 := (mult_prod2 h2 (a := a) (b := fun i j => sumA (a i) (ns 0) * sumA (fun k => a k j) R) p2).2
  refine ⟨N ^ N * prodA (fun i => prodA (fun j => a i j ^ a i j) (ns 0)) R, prodA (fun i => prodA (fun j => (sumA (a i) (ns 0) * sumA (fun k => a k j) R) ^ a i j) (ns 0)) R, Nat.mul_pos (Nat.pow_pos hN0) u2, d2, told_le a (ns 0) R N hN hN0, fun x hx => ?_⟩
  rw [mult_mul hx _ _ (Nat.pow_pos hN0) u2, mult_power hx hN0, (mult_prod2 hx (b := a) p1).1, (mult_prod2 hx (a := a) (b := fun i j => sumA (a i) (ns 0) * sumA (fun k => a k j) R) p2).1]
  have e : ∀ m, multI (x : Int) m = (mult x m : Int) := fun m => by rw [multI_pr (by simpa using hx)]; simp
  have key : sumN (fun i => sumN (mutV (zs i) (rowSum ns zs i) (colV zs R) N (x : Int)) (ns 0)) R = sumN (fun i => sumN (fun j => ((a i j * mult x (a i j) : Nat) : Int) + ((a i j : Nat) : Int) * (mult x N : Int) - ((a i j * mult x (sumA (a i) (ns 0) * sumA (fun k => a k j) R) : Nat) : Int)) (ns 0)) R := by
    refine sumN_congr fun i hi => sumN_congr fun j hj => ?_
    unfold mutV
    rw [ha i hi j hj, hr i hi, hc j hj]
    simp only [Int.toNat_natCast, e]
    rcases Nat.eq_zero_or_pos (a i j) with h0 | h0
    · rw [h0]; simp
    · have := hle i hi j hj
      rw [mult_mul hx _ _ (show 0 < sumA (a i) (ns 0) by omega) (show 0 < sumA (fun k => a k j) R by omega)]
      simp only [Int.natCast_mul, Int.natCast_add]
      grind
  rw [key]
  have split3 : ∀ i, sumN (fun j => ((a i j * mult x (a i j) : Nat) : Int) + ((a i j : Nat) : Int) * (mult x N : Int) - ((a i j * mult x (sumA (a i) (ns 0) * sumA (fun k => a k j) R) : Nat) : Int)) (ns 0) = ((sumA (fun j => a i j * mult x (a i j)) (ns 0) : Nat) : Int) + ((sumA (a i) (ns 0) : Nat) : Int) * (mult x N : Int) - ((sumA (fun j => a i j * mult x (sumA (a i) (ns 0) * sumA (fun k => a k j) R)) (ns 0) : Nat) : Int) := fun i => by
    rw [sumN_less, sumN_plus, sumN_times]
    rw [sumN_nat2 (z := fun j => ((a i j * mult x (a i j) : Nat) : Int)) (fun _ _ => rfl), sumN_nat2 (z := fun j => ((a i j : Nat) : Int)) (fun _ _ => rfl), sumN_nat2 (z := fun j => ((a i j * mult x (sumA (a i) (ns 0) * sumA (fun k => a k j) R) : Nat) : Int)) (fun _ _ => rfl)]
  rw [sumN_congr (fun i _ => split3 i), sumN_less, sumN_plus, sumN_times]
  rw [sumN_nat2 (z := fun i => ((sumA (fun j => a i j * mult x (a i j)) (ns 0) : Nat) : Int)) (fun _ _ => rfl), sumN_nat2 (z := fun i => ((sumA (a i) (ns 0) : Nat) : Int)) (fun _ _ => rfl), sumN_nat2 (z := fun i => ((sumA (fun j => a i j * mult x (sumA (a i) (ns 0) * sumA (fun k => a k j) R)) (ns 0) : Nat) : Int)) (fun _ _ => rfl), ← hN]
  simp only [Int.natCast_add, Int.natCast_mul]
  omega
theorem OkT.pos {R N : Nat} {ns : Nat → Nat} {zs : Nat → Nat → Int} (h : OkT R ns zs N) {i j : Nat} (hi : i < R) (hj : j < ns 0) : zs i j ≠ 0 → (0 < (zs i j).toNat ∧ (zs i j).toNat ≤ 4096) ∧ (0 < (rowSum ns zs i).toNat ∧ (rowSum ns zs i).toNat ≤ 4096) ∧ (0 < (colV zs R j).toNat ∧ (colV zs R j).toNat ≤ 4096) := fun h0 => by
  have h1 := h.cell hi (by rw [h.even i hi]; exact hj)
  have h2 := h.row hi
  have h3 := h.col (Nat.le_refl R) hj
  have h4 := sumN_ge (z := zs i) (n := ns i) (i := j) (fun k hk => h.nn i hi k hk) (by rw [h.even i hi]; exact hj)
  have h5 := sumN_ge (z := fun k => zs k j) (n := R) (i := i) (fun k hk => h.nn k hk j (by rw [h.even k hk]; exact hj)) hi
  have h6 := h.n6
  unfold rowSum
  have h7 : zs i j ≤ colV zs R j := h5
  omega
theorem ent_prim {R N : Nat} {ns : Nat → Nat} {zs : Nat → Nat → Int} (h : OkT R ns zs N) : Prim fun x => sumN (entV (colV zs R) N x) (ns 0) := by
  refine ⟨fun x => ent_bound (fun j hj => h.col (Nat.le_refl R) hj) h.n6 (by have := h.c16; omega) x, ?_⟩
  refine supp_sum (F := fun j x => entV (colV zs R) N x j) fun j hj => ?_
  have hc := h.col (Nat.le_refl R) hj
  exact (supp_term _ N (fun _ => ⟨h.n1, h.n6⟩)).sub (supp_term _ _ (fun h0 => by omega))
theorem giv_prim {R N : Nat} {ns : Nat → Nat} {zs : Nat → Nat → Int} (h : OkT R ns zs N) : Prim fun x => sumN (givV ns zs x) R := by
  refine ⟨fun x => giv_bound h x, ?_⟩
  refine supp_sum (F := fun i x => givV ns zs x i) fun i hi => ?_
  refine supp_sum (F := fun j x => entV (zs i) (sumN (zs i) (ns i)).toNat x j) fun j hj => ?_
  have hp := h.pos hi (j := j) (by rw [← h.even i hi]; exact hj)
  exact (supp_term _ _ (fun h0 => (hp h0).2.1)).sub (supp_term _ _ (fun h0 => (hp h0).1))
theorem mut_prim {R N : Nat} {ns : Nat → Nat} {zs : Nat → Nat → Int} (h : OkT R ns zs N) : Prim fun x => sumN (fun i => sumN (mutV (zs i) (rowSum ns zs i) (colV zs R) N x) (ns 0)) R := by
  refine ⟨fun x => ?_, ?_⟩
  · have h1 := sumN_bound (f := fun i => sumN (mutV (zs i) (rowSum ns zs i) (colV zs R) N x) (ns 0)) (B := 6400000) (n := R) (fun i hi => by
      have h2 := sumN_bound (f := mutV (zs i) (rowSum ns zs i) (colV zs R) N x) (B := 400000) (n := ns 0) (fun j hj => mutV_le x (h.cell hi (by rw [h.even i hi]; exact hj)) (by have := h.row hi; have := h.n6; unfold rowSum; omega) (h.col (Nat.le_refl R) hj) h.n6)
      have : (ns 0 : Int) * 400000 ≤ 6400000 := by have := h.c16; omega
      omega)
    have : (R : Int) * 6400000 ≤ 102400000 := by have := h.r16; omega
    omega
  · refine supp_sum (F := fun i x => sumN (mutV (zs i) (rowSum ns zs i) (colV zs R) N x) (ns 0)) fun i hi => ?_
    refine supp_sum (F := fun j x => mutV (zs i) (rowSum ns zs i) (colV zs R) N x j) fun j hj => ?_
    have hp := h.pos hi hj
    refine (((supp_term _ _ (fun h0 => (hp h0).1)).add (supp_term _ N (fun _ => ⟨h.n1, h.n6⟩))).add (supp_term _ _ (fun h0 => ?_))).add (supp_term _ _ (fun h0 => ?_))
    · exact (hp (by omega)).2.1
    · exact (hp (by omega)).2.2
end Go.Proofs.YtfnmpkkfdljgcaaDoor

/- logs.Scale by -1 over 1. -/
namespace Go.Proofs.YtfnmpkkfdljgcaaDoor
open Go.RowKit Go.Maps

set_option maxRecDepth 10000 in
set_option maxHeartbeats 1000000 in
theorem lowest_back (w : World) : Calls Tryd.prog 60 #[.int .i64 (-1), .int .i64 1] w fun e w' => e = .returned (.agg #[.int .i64 (-1), .int .i64 1]) ∧ Below w.heap.size w w' := by
  have hB0 : Below w.heap.size w (w.alloc (.cells #[.int .i64 0, .int .i64 0] 70)) := (Below.refl _ _).alloc (Nat.le_refl _) _
  have hg := GCD_any (-1) 1 (w.alloc (.cells #[.int .i64 0, .int .i64 0] 70)) (by omega) (by omega) (by omega) (by omega)
  rw [show ((Int.gcd (-1) 1 : Nat) : Int) = 1 from rfl] at hg
  have HB := Hid.mk' hB0
  clear hB0
  go_enter Tryd.func60, Tryd.ntmps60
  go_wp2_with fail
  refine hg.mono ?_
  clear hg
  rintro e w1 ⟨rfl, m, rfl⟩
  go_wp2_with fail
  go_region
  go_wp2_with fail
  refine bodyPost_ret (v := .agg #[.int .i64 (-1), .int .i64 1]) (by simp [results, Tryd.results60, go_sem]) rfl ⟨rfl, ?_⟩
  exact ((below_drewN HB.out _).setCell (by simp) _).setCell (by simp) _

theorem new_below2 (w : World) (X : Obj) : Below w.heap.size w (w.alloc X) := (Below.refl _ _).alloc (Nat.le_refl _) _
theorem ownsRow_later {w w' : World} {B e size n : Nat} {v : Value} {xs : List Value} (h : w.ownsRow B e size v n xs) (hb : Below w.heap.size w w') : w'.ownsRow B e size v n xs := by
  obtain ⟨hl, hr⟩ := h
  rcases hr with h | ⟨g, cap, cur, hv, hg, hh, r⟩
  · exact ⟨hl, Or.inl h⟩
  · exact ⟨hl, Or.inr ⟨g, cap, cur, hv, hg, by rw [hb.block g (heap_lt hh)]; exact hh, r⟩⟩
/-- What scaled's second loop keeps: the row lies at N, the answer's box at Bx. -/
structure InScale (w wr : World) (N Bx : Nat) (d : Int) (n : Nat) (p c : Nat → Int) (k : Nat) : Prop where
  below : Below N w wr
  lt : N < Bx
  o0 : wr.cell? ⟨Bx, 0, none⟩ = some (.int .i64 d)
  o1 : wr.cell? ⟨Bx, 1, none⟩ = some (.slice (some ⟨N, 0, none⟩) k n)
  f0 : wr.frozen? ⟨Bx, 0, none⟩ = false
  fz : wr.frozen? ⟨Bx, 1, none⟩ = false
  row : wr.ownsRow N 47 2 (.slice (some ⟨N, 0, none⟩) k n) k (termCells p (fun i => -c i) k)
theorem InScale.later {w wr wn : World} {N Bx : Nat} {d : Int} {n : Nat} {p c : Nat → Int} {k : Nat} (h : InScale w wr N Bx d n p c k) (hb : Below wr.heap.size wr wn) : InScale w wn N Bx d n p c k :=
  ⟨h.below.trans (hb.mono (by have := cell_lt h.o0; have := h.lt; simp only at *; omega)), h.lt, (cell_past h.o0 hb).2, (cell_past h.o1 hb).2, (frozen_past h.o0 h.f0 hb).2, (frozen_past h.o1 h.fz hb).2, ownsRow_later h.row hb⟩
theorem InScale.pushed {w wr w3 : World} {N Bx : Nat} {d : Int} {n : Nat} {p c : Nat → Int} {k : Nat} (h : InScale w wr N Bx d n p c k) (hg : wr.grownBy w3 (some N)) (hrow : w3.ownsRow N 47 2 (.slice (some ⟨N, 0, none⟩) (k + 1) n) (k + 1) (termCells p (fun i => -c i) k ++ [.int .i64 (p k), .int .i64 (-c k)])) :
    w3.cell? ⟨Bx, 1, none⟩ = some (.slice (some ⟨N, 0, none⟩) k n) ∧ w3.frozen? ⟨Bx, 1, none⟩ = false ∧ InScale w (w3.setCell ⟨Bx, 1, none⟩ (.slice (some ⟨N, 0, none⟩) (k + 1) n)) N Bx d n p c (k + 1) := by
  have hlt := cell_lt h.o0
  have hNB := h.lt
  simp only at hlt
  have c0 := cell_beside hg h.o0 (by omega)
  have c1 := cell_beside hg h.o1 (by omega)
  have hblk := hg.block Bx hlt (by simp; omega)
  have f0 : w3.frozen? ⟨Bx, 0, none⟩ = false := by rw [← h.f0]; simp [World.frozen?, hblk]
  have f1 : w3.frozen? ⟨Bx, 1, none⟩ = false := by rw [← h.fz]; simp [World.frozen?, hblk]
  refine ⟨c1, f1, ⟨(h.below.grown hg (by omega) (fun j e => by cases e; exact Nat.le_refl _)).setCell (by simp; omega) _, h.lt, ?_, World.cell?_setCell_same _ _ _ c1, by simpa using f0, by simpa using f1, ?_⟩⟩
  · rw [World.cell?_setCell_other _ _ _ _ (by simp)]; exact c0
  · obtain ⟨hl, hr⟩ := hrow
    refine ⟨hl, ?_⟩
    rcases hr with hr | ⟨gg, cap, cur, hv, hg1, hh, rest⟩
    · exact Or.inl hr
    · refine Or.inr ⟨gg, cap, cur, hv, hg1, ?_, rest⟩
      have : gg = N := by simp at hv; exact hv.1.symm
      rw [Below.heap_setCell _ _ _ _ (by show gg ≠ Bx; omega)]
      exact hh
theorem inScale_start {W W3 : World} {d : Int} {n : Nat} {p c : Nat → Int} (ho : W3.ownsRow W.heap.size 47 2 (.slice (some ⟨W.heap.size, 0, none⟩) 0 n) 0 []) (hg : W.grownBy W3 none) : InScale W (W3.alloc (.cells #[.int .i64 d, .slice (some ⟨W.heap.size, 0, none⟩) 0 n] 37)) W.heap.size W3.heap.size d n p c 0 := by
  have hlt : W.heap.size < W3.heap.size := by
    rcases ho.2 with ⟨h, _⟩ | ⟨g, cap, cur, hv, _, hh, _⟩
    · cases h
    · have : W.heap.size = g := by simp at hv; exact hv.1
      rw [this]; exact heap_lt hh
  refine ⟨((Below.refl _ _).grown hg (Nat.le_refl _) (fun j e => by cases e)).alloc (by omega) _, hlt, by rw [World.cell?_alloc_at _ _ _ _ rfl]; rfl, by rw [World.cell?_alloc_at _ _ _ _ rfl]; rfl, frozen_new rfl, frozen_new rfl, ownsRow_later ho (new_below2 _ _)⟩

theorem ownAt_slice {w : World} {v : Value} {n : Nat} {p c : Nat → Int} (h : OwnAt w v n p c) : ∃ ad m cap, v = .slice ad m cap := by
  rcases h with ⟨rfl, _⟩ | ⟨g, cap, rfl, _⟩
  · exact ⟨_, _, _, rfl⟩
  · exact ⟨_, _, _, rfl⟩
theorem OwnAt.set {w : World} {v : Value} {n : Nat} {p c : Nat → Int} {B : Nat} {ad : Option Addr} {l cap : Nat} {x y : Value} (h : OwnAt w v n p c) (hn : 0 < n) (hx : w.cell? ⟨B, 1, none⟩ = some (.slice ad l cap)) : OwnAt ((w.setCell ⟨B, 0, none⟩ x).setCell ⟨B, 1, none⟩ y) v n p c := by
  rcases h with h | ⟨g, cap', rfl, ht⟩
  · exact Or.inl h
  · have hne : B ≠ g := fun e => by
      have h1 := (ht 0 hn).2
      rw [← e] at h1
      simp only [Nat.zero_mul, Nat.zero_add] at h1
      rw [hx] at h1
      cases h1
    refine Or.inr ⟨g, cap', rfl, fun i hi => ⟨?_, ?_⟩⟩
    · rw [World.cell?_setCell_far _ _ _ _ hne, World.cell?_setCell_far _ _ _ _ hne]; exact (ht i hi).1
    · rw [World.cell?_setCell_far _ _ _ _ hne, World.cell?_setCell_far _ _ _ _ hne]; exact (ht i hi).2
theorem gcd_one_any (c : Int) : ((Int.gcd 1 c : Nat) : Int) = 1 := by simp [Int.gcd]
theorem gcd_back_any (c : Int) : ((Int.gcd (-1) c : Nat) : Int) = 1 := by simp [Int.gcd]

set_option maxRecDepth 100000 in
set_option maxHeartbeats 2000000 in
theorem scaled_back (d : Int) (ad : Option Addr) (n cap : Nat) (p c : Nat → Int) (w : World) (hl : LogAt w (.slice ad n cap) n p c) (hok : OkLog d n p c) (hn0 : 0 < n) (hn : n ≤ 10000) :
    Calls Tryd.prog 59 #[.agg #[.int .i64 d, .slice ad n cap], .agg #[.int .i64 (-1), .int .i64 1]] w fun e w' => ∃ v, e = .returned (.tuple #[.agg #[.int .i64 d, v], .nilIface]) ∧ OwnAt w' v n p (fun i => -c i) ∧ Below w.heap.size w w' := by
  have hb0 : Below w.heap.size w (((w.alloc (.cells #[.int .i64 d, .slice ad n cap] 37)).alloc (.cells #[.int .i64 (-1), .int .i64 1] 70)).alloc (.cells #[.int .i64 0, .slice none 0 0] 37)) := (((Below.refl _ _).alloc (Nat.le_refl _) _).alloc (by simp) _).alloc (by simp; omega) _
  have k0 : (((w.alloc (.cells #[.int .i64 d, .slice ad n cap] 37)).alloc (.cells #[.int .i64 (-1), .int .i64 1] 70)).alloc (.cells #[.int .i64 0, .slice none 0 0] 37)).cell? ⟨w.heap.size, 0, none⟩ = some (.int .i64 d) := by rw [World.cell?_alloc_lt _ _ ⟨w.heap.size, 0, none⟩ (by simp; omega), World.cell?_alloc_lt _ _ ⟨w.heap.size, 0, none⟩ (by simp), World.cell?_alloc_at _ _ _ _ rfl]; rfl
  have k1 : (((w.alloc (.cells #[.int .i64 d, .slice ad n cap] 37)).alloc (.cells #[.int .i64 (-1), .int .i64 1] 70)).alloc (.cells #[.int .i64 0, .slice none 0 0] 37)).cell? ⟨w.heap.size, 1, none⟩ = some (.slice ad n cap) := by rw [World.cell?_alloc_lt _ _ ⟨w.heap.size, 1, none⟩ (by simp; omega), World.cell?_alloc_lt _ _ ⟨w.heap.size, 1, none⟩ (by simp), World.cell?_alloc_at _ _ _ _ rfl]; rfl
  have k2 : (((w.alloc (.cells #[.int .i64 d, .slice ad n cap] 37)).alloc (.cells #[.int .i64 (-1), .int .i64 1] 70)).alloc (.cells #[.int .i64 0, .slice none 0 0] 37)).cell? ⟨w.heap.size + 1, 0, none⟩ = some (.int .i64 (-1)) := by rw [World.cell?_alloc_lt _ _ ⟨w.heap.size + 1, 0, none⟩ (by simp), World.cell?_alloc_at _ _ _ _ (by simp)]; rfl
  have k3 : (((w.alloc (.cells #[.int .i64 d, .slice ad n cap] 37)).alloc (.cells #[.int .i64 (-1), .int .i64 1] 70)).alloc (.cells #[.int .i64 0, .slice none 0 0] 37)).cell? ⟨w.heap.size + 1, 1, none⟩ = some (.int .i64 1) := by rw [World.cell?_alloc_lt _ _ ⟨w.heap.size + 1, 1, none⟩ (by simp), World.cell?_alloc_at _ _ _ _ (by simp)]; rfl
  have k4 : (((w.alloc (.cells #[.int .i64 d, .slice ad n cap] 37)).alloc (.cells #[.int .i64 (-1), .int .i64 1] 70)).alloc (.cells #[.int .i64 0, .slice none 0 0] 37)).cell? ⟨w.heap.size + 1 + 1, 0, none⟩ = some (.int .i64 0) := by rw [World.cell?_alloc_at _ _ _ _ (by simp)]; rfl
  have k5 : (((w.alloc (.cells #[.int .i64 d, .slice ad n cap] 37)).alloc (.cells #[.int .i64 (-1), .int .i64 1] 70)).alloc (.cells #[.int .i64 0, .slice none 0 0] 37)).cell? ⟨w.heap.size + 1 + 1, 1, none⟩ = some (.slice none 0 0) := by rw [World.cell?_alloc_at _ _ _ _ (by simp)]; rfl
  have k6 : ∀ j, (((w.alloc (.cells #[.int .i64 d, .slice ad n cap] 37)).alloc (.cells #[.int .i64 (-1), .int .i64 1] 70)).alloc (.cells #[.int .i64 0, .slice none 0 0] 37)).frozen? ⟨w.heap.size + 1 + 1, j, none⟩ = false := fun j => frozen_new (by simp)
  have hz0 : w.heap.size + 1 + 1 + 1 = (((w.alloc (.cells #[.int .i64 d, .slice ad n cap] 37)).alloc (.cells #[.int .i64 (-1), .int .i64 1] 70)).alloc (.cells #[.int .i64 0, .slice none 0 0] 37)).heap.size := by simp
  generalize hW : (((w.alloc (.cells #[.int .i64 d, .slice ad n cap] 37)).alloc (.cells #[.int .i64 (-1), .int .i64 1] 70)).alloc (.cells #[.int .i64 0, .slice none 0 0] 37)) = W0 at hb0 k0 k1 k2 k3 k4 k5 k6 hz0
  have hd1 : 1 ≤ d := hok.1
  have hd6 : d ≤ 1000000 := hok.2.1
  have hg := GCD_any (-1) d W0 (by omega) (by omega) (by omega) (by omega)
  rw [gcd_back_any] at hg
  have HW := Hid.mk' hW
  have HB0 := Hid.mk' hb0
  have HL := Hid.mk' (hl.later hb0)
  have HOK := Hid.mk' hok
  have HC : Hid (∀ W, Below W0.heap.size W0 W → (W.cell? ⟨w.heap.size, 0, none⟩ = some (.int .i64 d) ∧ W.cell? ⟨w.heap.size, 1, none⟩ = some (.slice ad n cap)) ∧ (W.cell? ⟨w.heap.size + 1, 0, none⟩ = some (.int .i64 (-1)) ∧ W.cell? ⟨w.heap.size + 1, 1, none⟩ = some (.int .i64 1)) ∧ (W.cell? ⟨w.heap.size + 1 + 1, 0, none⟩ = some (.int .i64 0) ∧ W.cell? ⟨w.heap.size + 1 + 1, 1, none⟩ = some (.slice none 0 0)) ∧ W.frozen? ⟨w.heap.size + 1 + 1, 0, none⟩ = false ∧ W.frozen? ⟨w.heap.size + 1 + 1, 1, none⟩ = false) := fun W hb => ⟨⟨(cell_past k0 hb).2, (cell_past k1 hb).2⟩, ⟨(cell_past k2 hb).2, (cell_past k3 hb).2⟩, ⟨(cell_past k4 hb).2, (cell_past k5 hb).2⟩, (frozen_past k4 (k6 0) hb).2, (frozen_past k5 (k6 1) hb).2⟩
  clear hl hok hb0 hW k4 k5 k6
  go_enter Tryd.func59, Tryd.ntmps59
  go_wp2_with fail
  rw [HW.out]
  refine hg.mono ?_
  clear hg k0 k1 k2 k3
  rintro e w1 ⟨rfl, m1, hw1⟩
  have hb1 : Below W0.heap.size W0 w1 := by rw [hw1]; exact below_drewN (Below.refl _ _) _
  clear hw1
  obtain ⟨⟨k0, k1⟩, ⟨k2, k3⟩, _⟩ := HC.out w1 hb1
  have HB1 := Hid.mk' hb1
  clear hb1
  go_wp2_with fail
  clear k0 k1 k2 k3
  go_loopw [7, 27] (fun s i wr => ∃ k : Nat, k ≤ n ∧ s = .int .i64 1 ∧ i = .int .i64 k ∧ Hid (Below W0.heap.size W0 wr)) (fun _ i _ => n - (intOf i).toNat)
  case atStart => exact ⟨0, by omega, rfl, rfl, HB1⟩
  case round =>
    clear HB1
    obtain ⟨k, hk, rfl, rfl, HB⟩ := hrel
    have hk0 : (0 : Int) ≤ (k : Int) := by omega
    by_cases hlt : k < n
    · have hkI : (k : Int) < (n : Int) := by omega
      obtain ⟨b, o, rfl, y0, y1⟩ := (HL.out.later HB.out).cellsAt hlt
      obtain ⟨_, _, hc0, hc1, _⟩ := (HOK.out.2.2.1 k hlt).2
      have hgc := GCD_any 1 (c k) (wr.alloc (.cells #[.int .i64 (p k), .int .i64 (c k)] 47)) (by omega) (by omega) (by omega) (by omega)
      rw [gcd_one_any] at hgc
      have hbA := HB.out.alloc HB.out.size (.cells #[.int .i64 (p k), .int .i64 (c k)] 47)
      have HBA := Hid.mk' hbA
      clear hbA
      go_wp2_with fail
      refine hgc.mono ?_
      clear hgc
      rintro e w2 ⟨rfl, m2, hw2⟩
      have hb2 : Below W0.heap.size W0 w2 := by rw [hw2]; exact below_drewN HBA.out _
      go_wp2_with fail
      exact ⟨⟨k + 1, by omega, rfl, by go_num, below_drewN HBA.out _⟩, by simp [intOf]; omega⟩
    · obtain rfl : k = n := by omega
      obtain ⟨⟨k0, k1⟩, ⟨k2, k3⟩, ⟨k4, k5⟩, _⟩ := HC.out wr HB.out
      go_wp2_with fail
      go_quiet (fail)
      go_wp2_with fail
      have hbq : Below W0.heap.size W0 (wr.drewN nq) := below_drewN HB.out _
      generalize wr.drewN nq = W2 at hbq ⊢
      refine (size_any (-1) W2 (by omega) (by omega)).mono ?_
      rintro e w5 ⟨rfl, hw5⟩
      rw [hw5]
      clear hw5 k0 k1 k2 k3 k4 k5
      rw [show (((-1 : Int)).natAbs : Int) = 1 from rfl]
      obtain ⟨⟨k0, k1⟩, ⟨k2, k3⟩, ⟨k4, k5⟩, _⟩ := HC.out W2 hbq
      obtain ⟨i0, hi, hz0', hz1, hz2⟩ := info_parts Tryd.infoTerm
      have HINF : Hid (Tryd.prog.info? 47 = some i0 ∧ i0.zero = some (.agg #[.int .i64 0, .int .i64 0]) ∧ i0.size = 2 ∧ i0.bytes = 16) := ⟨hi, hz0', hz1, hz2⟩
      clear hi hz0' hz1 hz2
      have HBQ := Hid.mk' hbq
      have HZ : Hid (∀ w6, W2.grownBy w6 none → Below W0.heap.size W0 w6) := fun w6 hg => hbq.grown hg hbq.size (fun j e => by cases e)
      clear hbq
      go_wp2_with (at_make; go_must (refine wpList_make_own _ rfl _ _ _ rfl W2.heap.size 47 i0 _ 2 Tryd.underlying35 HINF.out.1 HINF.out.2.1 HINF.out.2.2.1 _ _ _ k rfl rfl rfl (by rw [HINF.out.2.2.2]; omega) (by unfold maxLen; omega) (Nat.le_refl _) ?_; intro w6 hown hgrow; have HIS := Hid.mk' (inScale_start (d := d) (p := p) (c := c) hown hgrow); have z1 := fun X => (HC.out (w6.alloc X) ((HZ.out w6 hgrow).alloc (HZ.out w6 hgrow).size X)).1.2; clear hown hgrow))
      clear z1 k0 k1 k2 k3 k4 k5
      go_loopw [65] (fun i wr => ∃ j : Nat, j ≤ k ∧ i = .int .i64 j ∧ Hid (InScale W2 wr W2.heap.size w6.heap.size d k p c j)) (fun i _ => k - (intOf i).toNat)
      case atStart => exact ⟨0, by omega, rfl, HIS⟩
      case round =>
        clear HIS
        obtain ⟨j, hj, rfl, HO⟩ := hrel
        have hj0 : (0 : Int) ≤ (j : Int) := by omega
        have hbW := below_chain HBQ.out HO.out.below
        have HBW := Hid.mk' hbW
        by_cases hjk : j < k
        · have hjI : (j : Int) < (k : Int) := by omega
          obtain ⟨b, o, rfl, y0, y1⟩ := (HL.out.later hbW).cellsAt hjk
          obtain ⟨_, _, hc0, hc1, _⟩ := (HOK.out.2.2.1 j hjk).2
          have hcn : ((c j).natAbs : Int) ≤ 1099511627776 := by omega
          have x1 : ∀ X, (wr.alloc X).cell? ⟨w6.heap.size, 1, none⟩ = some (.slice (some ⟨W2.heap.size, 0, none⟩) j k) := fun X => (cell_past HO.out.o1 (new_below2 _ X)).2
          have x2 : ∀ X Y, ((wr.alloc X).alloc Y).cell? ⟨w6.heap.size, 1, none⟩ = some (.slice (some ⟨W2.heap.size, 0, none⟩) j k) := fun X Y => (cell_past (x1 X) (new_below2 _ Y)).2
          have HLAT : Hid (∀ X Y, InScale W2 ((wr.alloc X).alloc Y) W2.heap.size w6.heap.size d k p c j) := fun X Y => (HO.out.later (new_below2 _ X)).later (new_below2 _ Y)
          have hsz := fun W => size_any (c j) W (by omega) (by omega)
          clear hbW
          go_wp2_with (first
            | (go_at_call 56; refine (hsz _).mono ?_; rintro e w8 ⟨rfl, hw8⟩; rw [hw8]; clear hw8)
            | (at_builtin; go_must (refine wpList_append_fits _ rfl _ _ _ rfl W2.heap.size 47 i0 2 Tryd.underlying35 HINF.out.1 HINF.out.2.2.1 W2.heap.size j k _ rfl (HLAT.out _ _).row ⟨wr.heap.size + 1, 0, none⟩ 1 1 [.int .i64 (p j), .int .i64 (-c j)] rfl rfl (fun q u h => by have := two_new (wr.alloc (.cells #[.int .i64 (p j), .int .i64 (c j)] 47)) (.int .i64 (p j)) (.int .i64 (-c j)) 47 q u h; simpa using this) (by simp [Value.oneCell']) (by omega) ?_; intro w7 hown hgrow; obtain ⟨q1, q2, HPU⟩ := (HLAT.out _ _).pushed hgrow hown; have HP := Hid.mk' HPU; clear hown hgrow HPU)))
          exact ⟨⟨j + 1, by omega, by go_num, HP⟩, by simp [intOf]; omega⟩
        · obtain rfl : j = k := by omega
          have y0 := HO.out.o0
          have y1 := HO.out.o1
          obtain ⟨_, _, ⟨k4, k5⟩, f4, f5⟩ := HC.out wr hbW
          have hq := HBQ.out.size
          clear hbW
          go_wp2_with fail
          refine bodyPost_ret (v := .tuple #[.agg #[.int .i64 d, .slice (some ⟨W2.heap.size, 0, none⟩) j j], .nilIface]) (by simp [results, Tryd.results59, go_sem, k4, k5]) rfl ⟨.slice (some ⟨W2.heap.size, 0, none⟩) j j, rfl, ?_, ?_⟩
          · have h1 := ownsRow_setCell_below HO.out.row (a := ⟨w.heap.size + 1 + 1, 0, none⟩) (by show w.heap.size + 1 + 1 < _; omega) (.int .i64 d)
            have h2 := ownsRow_setCell_below h1 (a := ⟨w.heap.size + 1 + 1, 1, none⟩) (by show w.heap.size + 1 + 1 < _; omega) (.slice (some ⟨W2.heap.size, 0, none⟩) j j)
            exact ownAt_of_row h2
          · exact ((below_chain HB0.out HBW.out).setCell (by simp; omega) _).setCell (by simp; omega) _

set_option maxRecDepth 100000 in
set_option maxHeartbeats 2000000 in
/-- Scale by -1 over 1: the opposite. -/
theorem Scale_back (d : Int) (sv : Value) (n : Nat) (p c : Nat → Int) (a : Nat → Addr) (w : World) (h : Errs w a) (hl : LogAt w sv n p c) (hok : OkLog d n p c) (hn : n ≤ 10000) :
    Calls Tryd.prog 46 #[.agg #[.int .i64 d, sv], .agg #[.int .i64 (-1), .int .i64 1]] w fun e w' => ∃ v, e = .returned (.tuple #[.agg #[.int .i64 d, v], .nilIface]) ∧ OwnAt w' v n p (fun i => -c i) ∧ Below w.heap.size w w' := by
  obtain ⟨ad, cap, rfl⟩ := hl.slice
  have hb0 : Below w.heap.size w (((w.alloc (.cells #[.int .i64 d, .slice ad n cap] 37)).alloc (.cells #[.int .i64 (-1), .int .i64 1] 70)).alloc (.cells #[.int .i64 0, .slice none 0 0] 37)) := (((Below.refl _ _).alloc (Nat.le_refl _) _).alloc (by simp) _).alloc (by simp; omega) _
  have k0 : (((w.alloc (.cells #[.int .i64 d, .slice ad n cap] 37)).alloc (.cells #[.int .i64 (-1), .int .i64 1] 70)).alloc (.cells #[.int .i64 0, .slice none 0 0] 37)).cell? ⟨w.heap.size, 0, none⟩ = some (.int .i64 d) := by rw [World.cell?_alloc_lt _ _ ⟨w.heap.size, 0, none⟩ (by simp; omega), World.cell?_alloc_lt _ _ ⟨w.heap.size, 0, none⟩ (by simp), World.cell?_alloc_at _ _ _ _ rfl]; rfl
  have k1 : (((w.alloc (.cells #[.int .i64 d, .slice ad n cap] 37)).alloc (.cells #[.int .i64 (-1), .int .i64 1] 70)).alloc (.cells #[.int .i64 0, .slice none 0 0] 37)).cell? ⟨w.heap.size, 1, none⟩ = some (.slice ad n cap) := by rw [World.cell?_alloc_lt _ _ ⟨w.heap.size, 1, none⟩ (by simp; omega), World.cell?_alloc_lt _ _ ⟨w.heap.size, 1, none⟩ (by simp), World.cell?_alloc_at _ _ _ _ rfl]; rfl
  have k2 : (((w.alloc (.cells #[.int .i64 d, .slice ad n cap] 37)).alloc (.cells #[.int .i64 (-1), .int .i64 1] 70)).alloc (.cells #[.int .i64 0, .slice none 0 0] 37)).cell? ⟨w.heap.size + 1, 0, none⟩ = some (.int .i64 (-1)) := by rw [World.cell?_alloc_lt _ _ ⟨w.heap.size + 1, 0, none⟩ (by simp), World.cell?_alloc_at _ _ _ _ (by simp)]; rfl
  have k3 : (((w.alloc (.cells #[.int .i64 d, .slice ad n cap] 37)).alloc (.cells #[.int .i64 (-1), .int .i64 1] 70)).alloc (.cells #[.int .i64 0, .slice none 0 0] 37)).cell? ⟨w.heap.size + 1, 1, none⟩ = some (.int .i64 1) := by rw [World.cell?_alloc_lt _ _ ⟨w.heap.size + 1, 1, none⟩ (by simp), World.cell?_alloc_at _ _ _ _ (by simp)]; rfl
  have k4 : (((w.alloc (.cells #[.int .i64 d, .slice ad n cap] 37)).alloc (.cells #[.int .i64 (-1), .int .i64 1] 70)).alloc (.cells #[.int .i64 0, .slice none 0 0] 37)).cell? ⟨w.heap.size + 1 + 1, 0, none⟩ = some (.int .i64 0) := by rw [World.cell?_alloc_at _ _ _ _ (by simp)]; rfl
  have k5 : (((w.alloc (.cells #[.int .i64 d, .slice ad n cap] 37)).alloc (.cells #[.int .i64 (-1), .int .i64 1] 70)).alloc (.cells #[.int .i64 0, .slice none 0 0] 37)).cell? ⟨w.heap.size + 1 + 1, 1, none⟩ = some (.slice none 0 0) := by rw [World.cell?_alloc_at _ _ _ _ (by simp)]; rfl
  have k6 : ∀ j, (((w.alloc (.cells #[.int .i64 d, .slice ad n cap] 37)).alloc (.cells #[.int .i64 (-1), .int .i64 1] 70)).alloc (.cells #[.int .i64 0, .slice none 0 0] 37)).frozen? ⟨w.heap.size + 1 + 1, j, none⟩ = false := fun j => frozen_new (by simp)
  have hz0 : w.heap.size + 1 + 1 + 1 = (((w.alloc (.cells #[.int .i64 d, .slice ad n cap] 37)).alloc (.cells #[.int .i64 (-1), .int .i64 1] 70)).alloc (.cells #[.int .i64 0, .slice none 0 0] 37)).heap.size := by simp
  generalize hW : (((w.alloc (.cells #[.int .i64 d, .slice ad n cap] 37)).alloc (.cells #[.int .i64 (-1), .int .i64 1] 70)).alloc (.cells #[.int .i64 0, .slice none 0 0] 37)) = W0 at hb0 k0 k1 k2 k3 k4 k5 k6 hz0
  have hv := Valid_log d _ n p c a true ⟨fun _ => hok, fun _ => rfl⟩ W0 (h.below hb0) (hl.later hb0) (by omega)
  simp only [shapeErr] at hv
  have HW := Hid.mk' hW
  have HB0 := Hid.mk' hb0
  have HL := Hid.mk' (hl.later hb0)
  have HOK := Hid.mk' hok
  have HC : Hid (∀ W, Below (w.heap.size + 1 + 1) W0 W → (W.cell? ⟨w.heap.size, 0, none⟩ = some (.int .i64 d) ∧ W.cell? ⟨w.heap.size, 1, none⟩ = some (.slice ad n cap)) ∧ (W.cell? ⟨w.heap.size + 1, 0, none⟩ = some (.int .i64 (-1)) ∧ W.cell? ⟨w.heap.size + 1, 1, none⟩ = some (.int .i64 1))) := fun W hb => by
    have ha : ∀ j v, W0.cell? ⟨w.heap.size, j, none⟩ = some v → W.cell? ⟨w.heap.size, j, none⟩ = some v := fun j v h => by rw [hb.cell (p := ⟨w.heap.size, j, none⟩) (by show w.heap.size < _; omega)]; exact h
    have hb' : ∀ j v, W0.cell? ⟨w.heap.size + 1, j, none⟩ = some v → W.cell? ⟨w.heap.size + 1, j, none⟩ = some v := fun j v h => by rw [hb.cell (p := ⟨w.heap.size + 1, j, none⟩) (by show w.heap.size + 1 < _; omega)]; exact h
    exact ⟨⟨ha 0 _ k0, ha 1 _ k1⟩, ⟨hb' 0 _ k2, hb' 1 _ k3⟩⟩
  have HR : Hid (∀ W, Below W0.heap.size W0 W → (W.cell? ⟨w.heap.size + 1 + 1, 0, none⟩ = some (.int .i64 0) ∧ W.cell? ⟨w.heap.size + 1 + 1, 1, none⟩ = some (.slice none 0 0)) ∧ W.frozen? ⟨w.heap.size + 1 + 1, 0, none⟩ = false ∧ W.frozen? ⟨w.heap.size + 1 + 1, 1, none⟩ = false) := fun W hb => ⟨⟨(cell_past k4 hb).2, (cell_past k5 hb).2⟩, (frozen_past k4 (k6 0) hb).2, (frozen_past k5 (k6 1) hb).2⟩
  clear h hl hok hb0 hW k2 k3 k4 k5 k6
  go_enter Tryd.func46, Tryd.ntmps46
  go_wp2_with fail
  rw [HW.out]
  refine hv.mono ?_
  clear hv k0 k1
  rintro e w1 ⟨rfl, hb1⟩
  have hb1m : Below (w.heap.size + 1 + 1) W0 w1 := hb1.mono (by omega)
  obtain ⟨⟨k0, k1⟩, ⟨k2, k3⟩⟩ := HC.out w1 hb1m
  obtain ⟨⟨r0, r1⟩, f0, f1⟩ := HR.out w1 hb1
  have HB1 := Hid.mk' hb1
  rcases Nat.eq_zero_or_pos n with h0 | hpos
  · have hd : d = 1 := by have := HOK.out; rw [h0] at this; exact (OkLog_none d p c).1 this
    subst hd
    subst h0
    clear hb1 hb1m
    go_wp2_with fail
    refine bodyPost_ret (v := .tuple #[.agg #[.int .i64 1, .slice none 0 0], .nilIface]) (by simp [results, Tryd.results46, go_sem, r0, r1]) rfl ⟨.slice none 0 0, rfl, Or.inl ⟨rfl, rfl⟩, ((below_chain HB0.out HB1.out).setCell (by simp; omega) _).setCell (by simp; omega) _⟩
  · have hnz : ((n : Int) == 0) = false := by rw [beq_eq_false_iff_ne]; omega
    have hlow := lowest_back w1.drew
    have HLOW := Hid.mk' hlow
    have hc0 : Below (w.heap.size + 1 + 1) W0 w1 := hb1m
    have hcd : Below (w.heap.size + 1 + 1) W0 w1.drew := hb1m.drew
    clear hlow hb1 hb1m
    go_wp2_with fail
    go_region_held3 (fun W => (W.cell? ⟨w.heap.size, 0, none⟩ = some (.int .i64 d) ∧ W.cell? ⟨w.heap.size, 1, none⟩ = some (.slice ad n cap)) ∧ (W.cell? ⟨w.heap.size + 1, 0, none⟩ = some (.int .i64 (-1)) ∧ W.cell? ⟨w.heap.size + 1, 1, none⟩ = some (.int .i64 1)))
      (first | exact HC.out _ hc0 | exact HC.out _ hcd | exact HC.out _ hc2 | exact HC.out _ hc3 | exact HC.out _ ((hc3.setCell (Nat.le_refl _) _).setCell (Nat.le_refl _) _))
      (first
        | (go_at_call 59; refine (scaled_back d ad n cap p c w2 (HL.out.later HBW2.out) HOK.out hpos hn).mono ?_; rintro e w3 ⟨v, rfl, hv, hb3⟩; have hbw3 := below_chain HBW2.out hb3; have hc3 : Below (w.heap.size + 1 + 1) W0 w3 := hbw3.mono (by omega); obtain ⟨ad3, m3, cap3, rfl⟩ := ownAt_slice hv; obtain ⟨⟨x0, x1⟩, g0, g1⟩ := HR.out w3 hbw3; have HV := Hid.mk' hv; have HBW3 := Hid.mk' hbw3; clear hv hb3 hbw3)
        | (go_at_call 60; refine HLOW.out.mono ?_; rintro e w2 ⟨rfl, hb2⟩; have hbw2 := below_chain HB1.out.drew hb2; have hc2 : Below (w.heap.size + 1 + 1) W0 w2 := hbw2.mono (by omega); have HBW2 := Hid.mk' hbw2; clear hb2 hbw2))
    go_wp2_with fail
    refine bodyPost_ret (v := .tuple #[.agg #[.int .i64 d, .slice ad3 m3 cap3], .nilIface]) (by simp [results, Tryd.results46, go_sem, x0, x1]) rfl ⟨.slice ad3 m3 cap3, rfl, ?_, ((below_chain HB0.out HBW3.out).setCell (by simp; omega) _).setCell (by simp; omega) _⟩
    exact HV.out.set hpos x1
end Go.Proofs.YtfnmpkkfdljgcaaDoor

/- logs.Add by forms. -/
namespace Go.Proofs.YtfnmpkkfdljgcaaDoor
open Go.RowKit Go.Maps

/-- A form of the sum of two. -/
structure SumIs (da db : Nat) (t1 t2 : List (Int × Int)) (d : Nat) (t : List (Int × Int)) : Prop where
  can : Canon d t
  val : ∀ x, atL t x * ((da : Int) * (db : Int)) = (atL t1 x * (db : Int) + atL t2 x * (da : Int)) * (d : Int)
  len : t.length ≤ t1.length + t2.length
/-- The sum of two is in form. -/
def SumOk (da db : Int) (t1 t2 : List (Int × Int)) (d : Nat) (t : List (Int × Int)) : Prop := OkLog da t1.length (pOf t1) (cOf t1) ∧ OkLog db t2.length (pOf t2) (cOf t2) ∧ SumIs da.toNat db.toNat t1 t2 d t ∧ d ≤ 1000000 ∧ ∀ e ∈ t, e.2.natAbs ≤ 1099511627776
theorem SumOk.ok {da db : Int} {t1 t2 : List (Int × Int)} {d : Nat} {t : List (Int × Int)} (h : SumOk da db t1 t2 d t) : OkLog d t.length (pOf t) (cOf t) := by
  obtain ⟨h1, h2, h3, h4, h5⟩ := h
  have hp := h3.can.pos
  refine okLog_list h3.can.rise (fun e he => ?_) (by omega) (by omega) ?_
  · have hv := h3.val e.1
    rw [atL_mem h3.can.rise he] at hv
    have hnz := h3.can.nz e he
    have hb := h5 e he
    have hda : 0 < da.toNat := by have := h1.1; omega
    have hdb : 0 < db.toNat := by have := h2.1; omega
    have hpr : TermOk e.1 e.2 ∨ (atL t1 e.1 = 0 ∧ atL t2 e.1 = 0) := by
      by_cases q1 : atL t1 e.1 = 0
      · by_cases q2 : atL t2 e.1 = 0
        · exact Or.inr ⟨q1, q2⟩
        · have := h2.mem _ (atL_some q2)
          exact Or.inl ⟨this.1, hnz, by omega, by omega, this.2.2.2.2.1, this.2.2.2.2.2⟩
      · have := h1.mem _ (atL_some q1)
        exact Or.inl ⟨this.1, hnz, by omega, by omega, this.2.2.2.2.1, this.2.2.2.2.2⟩
    rcases hpr with h | ⟨q1, q2⟩
    · exact h
    · rw [q1, q2] at hv
      exfalso
      have h6 : e.2 * ((da.toNat : Int) * (db.toNat : Int)) = 0 := by rw [hv]; simp
      rcases Int.mul_eq_zero.1 h6 with h7 | h7
      · exact hnz h7
      · rcases Int.mul_eq_zero.1 h7 with h8 | h8 <;> omega
  · rw [gcdTo_list _ _ _ (Nat.le_refl _), List.take_length, Int.natAbs_natCast]
    exact h3.can.one
theorem SumOk.uniq {da db : Int} {t1 t2 : List (Int × Int)} {d d' : Nat} {t t' : List (Int × Int)} (h : SumOk da db t1 t2 d t) (h' : SumOk da db t1 t2 d' t') : d = d' ∧ t = t' := by
  have hda : 0 < da.toNat := by have := h.1.1; omega
  have hdb : 0 < db.toNat := by have := h.2.1.1; omega
  refine canon_uniq h.2.2.1.can h'.2.2.1.can (fun x => ?_)
  have h1 := h.2.2.1.val x
  have h2 := h'.2.2.1.val x
  have hp : ((da.toNat : Int) * (db.toNat : Int)) ≠ 0 := by
    intro h0
    rcases Int.mul_eq_zero.1 h0 with h3 | h3 <;> omega
  refine Int.eq_of_mul_eq_mul_right hp ?_
  generalize (da.toNat : Int) * (db.toNat : Int) = M at *
  grind
theorem SumOk.comm {da db : Int} {t1 t2 : List (Int × Int)} {d : Nat} {t : List (Int × Int)} (h : SumOk da db t1 t2 d t) : SumOk db da t2 t1 d t :=
  ⟨h.2.1, h.1, ⟨h.2.2.1.can, fun x => by rw [Int.mul_comm (db.toNat : Int), h.2.2.1.val x, Int.add_comm], by have := h.2.2.1.len; omega⟩, h.2.2.2⟩
/-- In any brackets. -/
theorem SumOk.assoc {da db dc : Int} {ta tb tc tx tp tq tr : List (Int × Int)} {dx dp dq dr : Nat} (h1 : SumOk da db ta tb dx tx) (h2 : SumOk dx dc tx tc dp tp) (h3 : SumOk db dc tb tc dq tq) (h4 : SumOk da dq ta tq dr tr) : dp = dr ∧ tp = tr := by
  refine canon_uniq h2.2.2.1.can h4.2.2.1.can (fun x => ?_)
  have e1 := h1.2.2.1.val x
  have e2 := h2.2.2.1.val x
  have e3 := h3.2.2.1.val x
  have e4 := h4.2.2.1.val x
  have pa : (da.toNat : Int) ≠ 0 := by have := h1.1.1; omega
  have pb : (db.toNat : Int) ≠ 0 := by have := h1.2.1.1; omega
  have pc : (dc.toNat : Int) ≠ 0 := by have := h2.2.1.1; omega
  have px : (dx : Int) ≠ 0 := by have := h1.2.2.1.can.pos; omega
  have pq : (dq : Int) ≠ 0 := by have := h3.2.2.1.can.pos; omega
  rw [Int.toNat_natCast] at e2 e4
  generalize (da.toNat : Int) = A at *
  generalize (db.toNat : Int) = B at *
  generalize (dc.toNat : Int) = C at *
  generalize (dx : Int) = X at *
  generalize (dp : Int) = P at *
  generalize (dq : Int) = Q at *
  generalize (dr : Int) = R at *
  generalize atL tx x = x' at *
  generalize atL tp x = p' at *
  generalize atL tq x = q' at *
  generalize atL tr x = r' at *
  generalize atL ta x = a' at *
  generalize atL tb x = b' at *
  generalize atL tc x = c' at *
  have f1 : p' * (A * B * C) * X = (a' * B * C + b' * A * C + c' * A * B) * P * X := by grind
  have f2 : r' * (A * B * C) * Q = (a' * B * C + b' * A * C + c' * A * B) * R * Q := by grind
  have f3 := Int.eq_of_mul_eq_mul_right px f1
  have f4 := Int.eq_of_mul_eq_mul_right pq f2
  have hM : A * B * C ≠ 0 := by
    intro h0
    rcases Int.mul_eq_zero.1 h0 with h5 | h5
    · rcases Int.mul_eq_zero.1 h5 with h6 | h6
      · exact pa h6
      · exact pb h6
    · exact pc h5
  refine Int.eq_of_mul_eq_mul_right hM ?_
  generalize A * B * C = M at *
  generalize a' * B * C + b' * A * C + c' * A * B = S at *
  calc p' * R * M = p' * M * R := by rw [Int.mul_right_comm]
    _ = S * P * R := by rw [f3]
    _ = S * R * P := by rw [Int.mul_right_comm]
    _ = r' * M * P := by rw [f4]
    _ = r' * P * M := by rw [Int.mul_right_comm]

/-- Add, by forms. -/
theorem Add_all (da db : Int) (v1 v2 : Value) (t1 t2 : List (Int × Int)) (a : Nat → Addr) (w : World) (h : Errs w a) (hl1 : LogAt w v1 t1.length (pOf t1) (cOf t1)) (hl2 : LogAt w v2 t2.length (pOf t2) (cOf t2)) (hn : t1.length + t2.length ≤ 10000) :
    Calls Tryd.prog 20 #[.agg #[.int .i64 da, v1], .agg #[.int .i64 db, v2]] w fun e w' => ((∃ d t v, SumOk da db t1 t2 d t ∧ e = .returned (.tuple #[.agg #[.int .i64 (d : Nat), v], .nilIface]) ∧ ListAt w' v t) ∨ ((∀ d t, ¬ SumOk da db t1 t2 d t) ∧ ∃ ad, e = .returned (.tuple #[.agg #[.int .i64 0, .slice none 0 0], .iface 156 (.pointer (some ad))]))) ∧ Below w.heap.size w w' := by
  by_cases hok : OkLog da t1.length (pOf t1) (cOf t1) ∧ OkLog db t2.length (pOf t2) (cOf t2)
  · obtain ⟨hok1, hok2⟩ := hok
    obtain ⟨na, rfl⟩ := Int.eq_ofNat_of_zero_le (show 0 ≤ da by have := hok1.1; omega)
    obtain ⟨nb, rfl⟩ := Int.eq_ofNat_of_zero_le (show 0 ≤ db by have := hok2.1; omega)
    have pa : 0 < na := by have := hok1.1; omega
    have pb : 0 < nb := by have := hok2.1; omega
    obtain ⟨ad1, cap1, rfl⟩ := hl1.slice
    obtain ⟨ad2, cap2, rfl⟩ := hl2.slice
    refine (Add_any na nb ad1 ad2 cap1 cap2 t1 t2 a w h hl1 hl2 hok1 hok2 hn _ rfl).mono ?_
    rintro e w' ⟨⟨l, G, hr, hv, hG, hlen, hres⟩, hb⟩
    obtain ⟨s1, s2, s3, s4⟩ := sum_value rfl pa pb hr hv hG
    have hs : SumIs na nb t1 t2 (na / Int.gcd (na : Int) (nb : Int) * nb / G) (overL G l) := ⟨s1, s3, Nat.le_trans (length_over l G) hlen⟩
    refine ⟨?_, hb⟩
    rcases hres with ⟨hf, v, rfl, hlist⟩ | ⟨hf, rfl⟩
    · refine Or.inl ⟨_, _, v, ⟨hok1, hok2, by simpa using hs, s4.1 hf⟩, by rw [s2], hlist⟩
    · refine Or.inr ⟨fun d t hso => hf (s4.2 ?_), a 1, rfl⟩
      have hs' : SumIs (na : Int).toNat (nb : Int).toNat t1 t2 _ _ := hso.2.2.1
      rw [Int.toNat_natCast, Int.toNat_natCast] at hs'
      obtain ⟨u1, u2⟩ := canon_uniq hs.can hs'.can (fun x => by
        have q1 := hs.val x
        have q2 := hs'.val x
        have hp : ((na : Int) * (nb : Int)) ≠ 0 := by
          intro h0
          rcases Int.mul_eq_zero.1 h0 with h3 | h3 <;> omega
        refine Int.eq_of_mul_eq_mul_right hp ?_
        generalize (na : Int) * (nb : Int) = M at *
        grind)
      rw [u1, u2]
      exact hso.2.2.2
  · refine (Add_shape da db v1 v2 _ _ _ _ _ _ a w h hl1 hl2 (by omega) (by omega) hok).mono ?_
    rintro e w' ⟨rfl, hb⟩
    exact ⟨Or.inr ⟨fun d t hso => hok ⟨hso.1, hso.2.1⟩, a 2, rfl⟩, hb⟩
end Go.Proofs.YtfnmpkkfdljgcaaDoor
