/- The program's Guesses; the closed fact at the head of all Renyi laws: of four even ones two and a half guesses. -/
import Derived.Test.YtiegobkbinojeaaDoorRySort
import Derived.Test.YtiegobkbinojeaaDoorLowF
namespace Go.Proofs.YtiegobkbinojeaaDoor
open Go.RowKit

theorem put_twoR {W : World} {b : Nat} {x0 x1 : Value} (y0 y1 : Value) (h0 : W.cell? ⟨b, 0, none⟩ = some x0) (h1 : W.cell? ⟨b, 1, none⟩ = some x1) :
    (W.setCell ⟨b, 0, none⟩ y0).cell? ⟨b, 1, none⟩ = some x1 ∧ ((W.setCell ⟨b, 0, none⟩ y0).setCell ⟨b, 1, none⟩ y1).cell? ⟨b, 0, none⟩ = some y0 ∧ ((W.setCell ⟨b, 0, none⟩ y0).setCell ⟨b, 1, none⟩ y1).cell? ⟨b, 1, none⟩ = some y1 := by
  have e1 : (W.setCell ⟨b, 0, none⟩ y0).cell? ⟨b, 1, none⟩ = some x1 := by rw [World.cell?_setCell_other _ _ _ _ (by simp)]; exact h1
  refine ⟨e1, ?_, World.cell?_setCell_same _ _ _ e1⟩
  rw [World.cell?_setCell_other _ _ _ _ (by simp)]
  exact World.cell?_setCell_same _ _ _ h0
theorem nums_row {w : World} {v : Value} {n : Nat} {z : Nat → Int} (h : NumsAt w v n z) (h0 : 0 < n) : ∃ b o cap, v = .slice (some ⟨b, o, none⟩) n cap ∧ RowAt w b o n z := by
  rcases h with ⟨_, _, _, h1⟩ | ⟨b, o, cap, hv, _, hr⟩
  · omega
  · exact ⟨b, o, cap, hv, hr⟩

set_option maxRecDepth 100000 in
set_option maxHeartbeats 4000000 in
theorem Guesses_ok (a : Nat → Addr) (v : Value) (n S : Nat) (z : Nat → Int) (w : World) (hE : Errs w a) (h : NumsAt w v n z) (hS : sumN z n = (S : Int)) (hw0 : weightsErr z n = 0) :
    Calls Tryd.prog 26 #[v] w fun e w' => e = .returned (.tuple #[gueV (gueZ z n) S, .nilIface]) ∧ Below w.heap.size w w' := by
  obtain ⟨h16, hok⟩ := weightsErr_ok hw0
  have hn0 := hok.posN
  obtain ⟨b, o, cap, rfl, hrow⟩ := nums_row h hn0
  have hp := hok.pos
  have hl := hok.le
  obtain ⟨W0, hW0⟩ : ∃ W0, W0 = w.alloc (.cells #[.int .i64 0, .int .i64 0] 43) := ⟨_, rfl⟩
  have hb0 : Below w.heap.size w W0 := by rw [hW0]; exact (Below.refl _ _).alloc (Nat.le_refl _) _
  have c0 : W0.cell? ⟨w.heap.size, 0, none⟩ = some (.int .i64 0) := by rw [hW0]; simp
  have c1 : W0.cell? ⟨w.heap.size, 1, none⟩ = some (.int .i64 0) := by rw [hW0]; simp
  have f0 : W0.frozen? ⟨w.heap.size, 0, none⟩ = false := by rw [hW0]; simp
  have f1 : W0.frozen? ⟨w.heap.size, 1, none⟩ = false := by rw [hW0]; simp
  have HC : Hid (∀ W, Below W0.heap.size W0 W → (W.cell? ⟨w.heap.size, 0, none⟩ = some (.int .i64 0) ∧ W.cell? ⟨w.heap.size, 1, none⟩ = some (.int .i64 0)) ∧ W.frozen? ⟨w.heap.size, 0, none⟩ = false ∧ W.frozen? ⟨w.heap.size, 1, none⟩ = false) := fun W hb => ⟨⟨by rw [hb.cell (cell_lt c0)]; exact c0, by rw [hb.cell (cell_lt c1)]; exact c1⟩, by rw [hb.frozen (show w.heap.size < W0.heap.size from cell_lt c0)]; exact f0, by rw [hb.frozen (show w.heap.size < W0.heap.size from cell_lt c0)]; exact f1⟩
  have HEND : Hid (∀ W, Below W0.heap.size W0 W → Below w.heap.size w W) := fun W hb => hb0.trans (hb.mono hb0.size)
  have HV := Hid.mk' (Valid_weights a _ n z W0 (hE.below hb0) (h.later hb0) (by omega))
  rw [hw0, errV_zero] at HV
  have HCL := Hid.mk' (clone_free _ n z W0 (h.later hb0) hn0 (by omega))
  have HTO := Hid.mk' (fun (W : World) (hb : Below W0.heap.size W0 W) => by
    have h9 := total_some b o cap n z W ((hrow.later hb0).later hb) (fun k hk => by have := hok.part hk; omega) (fun k hk => by have := hok.lt hk; omega) (by omega)
    rw [hS] at h9
    exact h9)
  have HG := Hid.mk' (gueZ_eq hok h16)
  have HGP := Hid.mk' (fun k hk => gue_part (f := atF (dnL z n)) (n := n) (k := k) h16 (dn_right hok) hk)
  have HGT := Hid.mk' (fun k hk => gue_term (f := atF (dnL z n)) (n := n) (k := k) h16 (dn_right hok) hk)
  have hS0 : 1 ≤ S := by omega
  have hS4 : S ≤ 4096 := by omega
  have HLO := Hid.mk' (fun (W : World) (T : Nat) (hT : T ≤ 1048576) => lowest_any (T : Int) S W (by omega) (by omega) hS0 (by omega) (Nat.gcd T S) rfl)
  have HTD : Hid (∀ T : Nat, ((T : Int).tdiv ((Nat.gcd T S : Nat) : Int)) = ((T / Nat.gcd T S : Nat) : Int)) := fun T => rfl
  have HW0 := Hid.mk' hW0
  have HSF := Hid.mk' (fun (g cap' : Nat) (W : World) hf hg hgl hb => sort_free g cap' n z W0 W hf hg hgl (by omega) hb)
  have HTF := Hid.mk' (fun (g cap' : Nat) (W : World) hf hg hb => turn_free g cap' n ((rowL z n).mergeSort fun x y => decide (x ≤ y)) W0 W (by rw [List.length_mergeSort, rowL_length]) hf hg (by omega) hb)
  clear hE h hrow hok hw0 hS hb0 hW0 hp hl c0 c1 f0 f1
  go_enter Tryd.func26, Tryd.ntmps26
  go_upto_region 1 with fail
  rw [← HW0.out]
  go_wp2_with fail
  refine HV.out.mono ?_
  rintro e w2 ⟨rfl, hw2⟩
  rw [hw2]
  clear hw2 HV
  go_wp2_with fail
  refine HCL.out.mono ?_
  rintro e w3 ⟨g, gcap, rfl, hg, hgl, hf3, hb3⟩
  have HS3 := Hid.mk' (HSF.out g gcap w3 hf3 hg hgl hb3)
  have HGG := Hid.mk' hg
  clear hf3 hgl hb3 HCL HSF hg
  go_wp2_with fail
  refine HS3.out.mono ?_
  rintro e w4 ⟨rfl, hgl, hf4, hb4⟩
  have HS4 := Hid.mk' (HTF.out g gcap w4 hf4 HGG.out hb4)
  clear hf4 hgl hb4 HS3 HTF
  go_wp2_with fail
  refine HS4.out.mono ?_
  rintro e w5 ⟨rfl, hf5, hb5⟩
  have HR : Hid (RowAt w5 g 0 n (atF (dnL z n))) := hf5.1
  have HB5 := Hid.mk' hb5
  clear hf5 hb5 HS4
  go_wp2_with fail
  go_loopw [6, 23] (fun s t wr => ∃ k : Nat, k ≤ n ∧ s = .int .i64 (gueN (atF (dnL z n)) k) ∧ t = .int .i64 (k : Int) ∧ wr = w5) (fun _ t _ => n - (intOf t).toNat)
  case atStart => exact ⟨0, Nat.zero_le _, rfl, rfl, rfl⟩
  case round =>
    obtain ⟨k, hk, rfl, rfl, hwr⟩ := hrel
    rw [hwr]
    clear hwr
    have hk0 : (0 : Int) ≤ (k : Int) := by omega
    have hgp := HGP.out k hk
    rcases Nat.lt_or_ge k n with h1 | h1
    · have hkI : (k : Int) < (n : Int) := by omega
      have hc := HR.out k h1
      rw [Nat.zero_add] at hc
      have hgt := HGT.out k h1
      have HN : Hid (gueN (atF (dnL z n)) (k + 1) = gueN (atF (dnL z n)) k + ((k : Int) + 1) * atF (dnL z n) k) := rfl
      generalize gueN (atF (dnL z n)) k = s at *
      generalize atF (dnL z n) k = x at *
      go_wp2_with fail
      exact ⟨⟨k + 1, h1, by rw [HN.out], by go_num, trivial⟩, by simp [intOf]; omega⟩
    · obtain rfl : k = n := by omega
      have hkI : ¬ (k : Int) < (k : Int) := by omega
      have HT5 := Hid.mk' (HTO.out w5 HB5.out)
      have HL5 := Hid.mk' (HLO.out w5 (gueZ z k) HG.out.2)
      have HTR := Hid.mk' (HTD.out (gueZ z k))
      have HFV : Hid (gueV (gueZ z k) S = .agg #[.int .i64 ((gueZ z k / Nat.gcd (gueZ z k) S : Nat) : Int), .int .i64 ((S / Nat.gcd (gueZ z k) S : Nat) : Int)]) := rfl
      rw [HTR.out] at HL5
      rw [← HG.out.1]
      clear HTR HLO HGP HGT HTO HR hgp HG
      generalize S / Nat.gcd (gueZ z k) S = q2 at *
      generalize gueZ z k / Nat.gcd (gueZ z k) S = q1 at *
      obtain ⟨T, hT⟩ : ∃ T, T = gueZ z k := ⟨_, rfl⟩
      rw [← hT] at HL5 ⊢
      clear hT
      go_wp2_with fail
      refine HT5.out.mono ?_
      rintro e w6 ⟨rfl, hw6⟩
      rw [hw6]
      clear hw6 HT5
      go_wp2_with fail
      refine HL5.out.mono ?_
      rintro e w7 ⟨rfl, hb7⟩
      obtain ⟨⟨d0, d1⟩, d2, d3⟩ := HC.out w7 (below_chain HB5.out hb7)
      have HG := Hid.mk' (put_twoR (.int .i64 (q1 : Int)) (.int .i64 (q2 : Int)) d0 d1)
      have HBE : Hid (Below w.heap.size w ((w7.setCell ⟨w.heap.size, 0, none⟩ (.int .i64 (q1 : Int))).setCell ⟨w.heap.size, 1, none⟩ (.int .i64 (q2 : Int)))) := ((HEND.out w7 (below_chain HB5.out hb7)).setCell (Nat.le_refl _) _).setCell (Nat.le_refl _) _
      obtain ⟨q0, _, _⟩ := HG.out
      clear hb7 HL5
      go_wp2_with fail
      generalize (w7.setCell ⟨w.heap.size, 0, none⟩ (.int .i64 (q1 : Int))).setCell ⟨w.heap.size, 1, none⟩ (.int .i64 (q2 : Int)) = W9 at *
      exact bodyPost_ret (v := .tuple #[.agg #[.int .i64 (q1 : Int), .int .i64 (q2 : Int)], .nilIface]) (by simp [results, Tryd.results26, go_sem, HG.out.2.1, HG.out.2.2]) rfl ⟨by rw [HFV.out], HBE.out⟩
set_option maxRecDepth 100000 in
set_option maxHeartbeats 2000000 in
theorem Guesses_bad (a : Nat → Addr) (v : Value) (n : Nat) (z : Nat → Int) (w : World) (hE : Errs w a) (h : NumsAt w v n z) (hn : n ≤ 1000000) (h0 : weightsErr z n ≠ 0) :
    Calls Tryd.prog 26 #[v] w fun e w' => e = .returned (.tuple #[.agg #[.int .i64 0, .int .i64 0], errV a (weightsErr z n)]) ∧ Below w.heap.size w w' := by
  obtain ⟨W0, hW0⟩ : ∃ W0, W0 = w.alloc (.cells #[.int .i64 0, .int .i64 0] 43) := ⟨_, rfl⟩
  have hb0 : Below w.heap.size w W0 := by rw [hW0]; exact (Below.refl _ _).alloc (Nat.le_refl _) _
  have c0 : W0.cell? ⟨w.heap.size, 0, none⟩ = some (.int .i64 0) := by rw [hW0]; simp
  have c1 : W0.cell? ⟨w.heap.size, 1, none⟩ = some (.int .i64 0) := by rw [hW0]; simp
  have f0 : W0.frozen? ⟨w.heap.size, 0, none⟩ = false := by rw [hW0]; simp
  have f1 : W0.frozen? ⟨w.heap.size, 1, none⟩ = false := by rw [hW0]; simp
  have HV := Hid.mk' (Valid_weights a _ n z W0 (hE.below hb0) (h.later hb0) hn)
  obtain ⟨ad, cap, rfl⟩ := h.form
  rw [errV_pos a h0] at HV ⊢
  have HG := Hid.mk' (put_twoR (.int .i64 0) (.int .i64 0) c0 c1)
  have HBE : Hid (Below w.heap.size w ((W0.setCell ⟨w.heap.size, 0, none⟩ (.int .i64 0)).setCell ⟨w.heap.size, 1, none⟩ (.int .i64 0))) := (hb0.setCell (Nat.le_refl _) _).setCell (Nat.le_refl _) _
  obtain ⟨q0, _, _⟩ := HG.out
  have HW0 := Hid.mk' hW0
  clear hE h hb0 hW0
  go_enter Tryd.func26, Tryd.ntmps26
  go_upto_region 1 with fail
  rw [← HW0.out]
  go_wp2_with fail
  refine HV.out.mono ?_
  rintro e w2 ⟨rfl, hw2⟩
  rw [hw2]
  clear hw2 HV
  go_wp2_with fail
  generalize (W0.setCell ⟨w.heap.size, 0, none⟩ (.int .i64 0)).setCell ⟨w.heap.size, 1, none⟩ (.int .i64 0) = W9 at *
  exact bodyPost_ret (v := .tuple #[.agg #[.int .i64 0, .int .i64 0], .iface 149 (.pointer (some (a (weightsErr z n - 1))))]) (by simp [results, Tryd.results26, go_sem, HG.out.2.1, HG.out.2.2]) rfl ⟨rfl, HBE.out⟩

def evenZ : Nat → Int := fun _ => 1
theorem even_err : weightsErr evenZ 4 = 0 := by decide +kernel
theorem even_list : dnL evenZ 4 = [1, 1, 1, 1] := (dnL_only (z := evenZ) (n := 4) (l := [1, 1, 1, 1]) (List.Perm.refl _) (by decide)).symm
theorem even_ten : gueZ evenZ 4 = 10 := by unfold gueZ; rw [even_list]; decide
theorem even_gue : gueV (gueZ evenZ 4) 4 = .agg #[.int .i64 5, .int .i64 2] := by rw [even_ten]; rfl
set_option maxRecDepth 100000 in
set_option maxHeartbeats 2000000 in
theorem dice_any (a : Nat → Addr) (w : World) (hE : Errs w a) :
    Calls Tryd.prog 7 #[] w fun e w' => e = .returned (.bool true) ∧ Below w.heap.size w w' := by
  obtain ⟨W0, hW0⟩ : ∃ W0, W0 = w.alloc (.cells #[.int .i64 1, .int .i64 1, .int .i64 1, .int .i64 1] 3) := ⟨_, rfl⟩
  have hb0 : Below w.heap.size w W0 := by rw [hW0]; exact (Below.refl _ _).alloc (Nat.le_refl _) _
  have hN : NumsAt W0 (.slice (some ⟨w.heap.size, 0, none⟩) 4 4) 4 evenZ := by
    refine Or.inr ⟨_, 0, 4, rfl, by decide, fun i hi => ?_⟩
    rw [hW0]
    rcases (show i = 0 ∨ i = 1 ∨ i = 2 ∨ i = 3 by omega) with rfl | rfl | rfl | rfl <;> go_simp <;> rfl
  have hG := Guesses_ok a _ 4 4 evenZ W0 (hE.below hb0) hN (by decide +kernel) even_err
  rw [even_gue] at hG
  have HG := Hid.mk' hG
  have HB := Hid.mk' hb0
  have HW := Hid.mk' hW0
  clear hE hb0 hN hG hW0
  go_enter Tryd.func7, Tryd.ntmps7
  go_wp2_with fail
  rw [← HW.out]
  refine HG.out.mono ?_
  rintro e w2 ⟨rfl, hb2⟩
  have HB2 := Hid.mk' (below_chain HB.out hb2)
  clear hb2 HG
  go_wp2_with fail
  go_ret
  exact ⟨rfl, (HB2.out.alloc (by have := HB2.out.size; omega) _)⟩
end Go.Proofs.YtiegobkbinojeaaDoor
