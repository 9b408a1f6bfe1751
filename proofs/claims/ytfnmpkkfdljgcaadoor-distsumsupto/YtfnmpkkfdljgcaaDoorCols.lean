/- dist.columnSums, Rows, Columns. -/
import Derived.Test.YtfnmpkkfdljgcaaDoorRowCol
namespace Go.Proofs.YtfnmpkkfdljgcaaDoor
open Go.RowKit

theorem tabErr_okT {R : Nat} {ns : Nat → Nat} {zs : Nat → Nat → Int} (h : tabErr R ns zs = 0) : ∃ N, OkT R ns zs N ∧ sumN (atF (flatL ns zs R)) (flatL ns zs R).length = N := by
  unfold tabErr at h
  by_cases h1 : 16 < R
  · rw [if_pos h1] at h; cases h
  rw [if_neg h1] at h
  cases h2 : longB ns R with
  | true => rw [h2, if_pos rfl] at h; cases h
  | false =>
    rw [h2, if_neg (by simp)] at h
    cases h3 : unevenB ns R with
    | true => rw [h3, if_pos rfl] at h; cases h
    | false =>
      rw [h3, if_neg (by simp)] at h
      exact okT_of (by omega) h2 h3 (listErr_ok h)

set_option maxRecDepth 100000 in
set_option maxHeartbeats 4000000 in
theorem columnSums_any (ad : Option Addr) (R cap N : Nat) (vs : Nat → Value) (ns : Nat → Nat) (zs : Nat → Nat → Int) (w : World) (h : TabAt w (.slice ad R cap) R vs ns zs) (hk : OkT R ns zs N) :
    Calls Tryd.prog 29 #[.slice ad R cap] w fun e w' => ∃ g cp, e = .returned (.slice (some ⟨g, 0, none⟩) (ns 0) cp) ∧ RowAt w' g 0 (ns 0) (colV zs R) ∧ Below w.heap.size w w' := by
  obtain ⟨b, o, rfl, hr⟩ := tab_rows h hk
  obtain ⟨i0, hi, hz0, hz1, hz2⟩ := info_parts Tryd.infoInt
  have HINF : Hid (Tryd.prog.info? 3 = some i0 ∧ i0.zero = some (.int .i64 0) ∧ i0.size = 1 ∧ i0.bytes = 8) := ⟨hi, hz0, hz1, hz2⟩
  have HR := Hid.mk' hr
  have HK := Hid.mk' hk
  have hR16 := hk.r16
  have hR0 := hk.r0
  have hc16 := hk.c16
  clear hi hz0 hz1 hz2 hr h hk
  generalize hC : ns 0 = C at *
  obtain ⟨b0, o0, cap0, hc0, _⟩ := HR.out w (Below.refl _ _) 0 hR0
  rw [Nat.add_zero] at hc0
  go_enter Tryd.func29, Tryd.ntmps29
  go_wp2_with (at_make; go_must (refine wpList_make_full _ rfl _ _ _ rfl w.heap.size 3 i0 _ 1 Tryd.underlying26 HINF.out.1 HINF.out.2.1 HINF.out.2.2.1 .i64 .i64 _ _ C rfl rfl rfl rfl (by rw [HINF.out.2.2.2]; omega) (by unfold maxLen; omega) (Nat.le_refl _) ?_; intro w2 hown2 hgrow2; have HF2 := Hid.mk' (fills_made hown2 (made_zero C) hgrow2); clear hown2 hgrow2))
  go_loopw [5, 6, 7, 15] (fun _ _ _ i wr => ∃ k : Nat, k ≤ R ∧ i = .int .i64 k ∧ Hid (Fills w wr w.heap.size C (colV zs k))) (fun _ _ _ i _ => R - (intOf i).toNat)
  case atStart => exact ⟨0, Nat.zero_le _, rfl, HF2⟩
  case round =>
    obtain ⟨k, hk, rfl, HF⟩ := hrel
    rcases Nat.lt_or_ge k R with h1 | h1
    · obtain ⟨b1, o1, cap1, hc, hr1⟩ := HR.out wr HF.out.below k h1
      have HR1 : Hid (∀ W, Below w.heap.size w W → ∃ b2 o2 cap2, W.cell? ⟨b, o + k, none⟩ = some (.slice (some ⟨b2, o2, none⟩) C cap2) ∧ RowAt W b2 o2 C (zs k)) := fun W hb => HR.out W hb k h1
      have hbk : b1 < w.heap.size := by
        obtain ⟨b2, o2, cap2, h2, h3⟩ := HR.out w (Below.refl _ _) k h1
        rw [HF.out.below.cell (cell_lt h2), h2] at hc
        simp only [Option.some.injEq, Value.slice.injEq, Addr.mk.injEq, and_true, true_and] at hc
        obtain ⟨⟨rfl, rfl⟩, rfl⟩ := hc
        have := h3 0 (by have := HK.out.c0; omega)
        exact cell_lt this
      have HR2 := Hid.mk' hr1
      have hkn : (k : Int) < (R : Int) := by omega
      go_wp2_with fail
      obtain ⟨Wr, hWr⟩ : ∃ Wr, Wr = wr := ⟨_, rfl⟩
      rw [← hWr] at HF hc HR2 ⊢
      clear hWr hr1 hc HR1
      go_loopw [6, 7, 21] (fun _ _ i wr => ∃ j : Nat, j ≤ C ∧ i = .int .i64 j ∧ Hid (Fills w wr w.heap.size C (fun c => if c < j then colV zs (k + 1) c else colV zs k c)) ∧ Hid (RowAt wr b1 o1 C (zs k))) (fun _ _ i _ => C - (intOf i).toNat)
      case atStart => exact ⟨0, Nat.zero_le _, rfl, by simpa using HF, HR2⟩
      case round =>
        obtain ⟨j, hj, rfl, HG, HW⟩ := hrel
        rcases Nat.lt_or_ge j C with h2 | h2
        · have hce := HW.out j h2
          have hjC : (j : Int) < (C : Int) := by omega
          have hcF := HG.out.row j h2
          have hfz := HG.out.fz j h2
          rw [Nat.zero_add] at hcF hfz
          rw [if_neg (by omega)] at hcF
          have hb1 := HK.out.col (k := k) (j := j) hk (by rw [hC]; exact h2)
          have hb2 := HK.out.cell h1 (j := j) (by rw [HK.out.even k h1, hC]; exact h2)
          have HV : Hid (colV zs (k + 1) j = colV zs k j + zs k j) := rfl
          have HS := Hid.mk' (HG.out.set h2 (colV zs k j + zs k j) (f' := fun c => if c < j + 1 then colV zs (k + 1) c else colV zs k c) (fun i hi => by
            by_cases hik : i = j
            · subst hik; rw [if_pos (by omega), if_pos rfl, HV.out]
            · rw [if_neg hik]
              by_cases hlt : i < j
              · rw [if_pos (by omega), if_pos hlt]
              · rw [if_neg (by omega), if_neg hlt]))
          have HW1 : Hid (∀ x : Int, RowAt (wr.setCell ⟨w.heap.size, j, none⟩ (.int .i64 x)) b1 o1 C (zs k)) := fun x i hi => by
            rw [World.cell?_setCell_other _ _ _ _ (fun e => by have := congrArg Addr.block e; simp at this; omega)]
            exact HW.out i hi
          generalize colV zs k j = y at *
          generalize zs k j = x at *
          go_wp2_with fail
          exact ⟨⟨j + 1, h2, by go_num, HS, HW1.out _⟩, by simp [intOf]; omega⟩
        · obtain rfl : j = C := by omega
          have HF1 : Hid (Fills w wr w.heap.size j (colV zs (k + 1))) := ⟨fun i hi => by have := HG.out.row i hi; rw [if_pos hi] at this; exact this, HG.out.fz, HG.out.below, HG.out.hg⟩
          go_wp2_with fail
          exact ⟨⟨k + 1, h1, by go_num, HF1⟩, by simp [intOf]; omega⟩
    · obtain rfl : k = R := by omega
      go_wp2_with fail
      go_ret
      exact ⟨_, _, rfl, HF.out.row, HF.out.below⟩
end Go.Proofs.YtfnmpkkfdljgcaaDoor
