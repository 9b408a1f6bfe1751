/- Messages in the document; an error held against its number and place. -/
import Derived.Test.YtjmjedpeibnnnaaDoorMsgP
import Derived.Test.YtjmjedpeibnnnaaDoorCodedV
import Derived.Test.YtjmjedpeibnnnaaDoorValidWalk
namespace Go.Proofs.YtjmjedpeibnnnaaDoor
open Go.RowKit

set_option maxRecDepth 100000 in
set_option maxHeartbeats 1000000 in
theorem MessageFault_any (vw vl : Value) (n m : Nat) (z l : Nat → Int) (w : World) (hw : NumsAt w vw n z) (hl : NumsAt w vl m l) (hn : n ≤ 1000000) (hm : m ≤ 1000000) :
    Calls Tryd.prog 11 #[vw, vl] w fun e w' => e = .returned (.agg #[.int .i64 ((msgE z n m l).1 : Int), .int .i64 (msgE z n m l).2]) ∧ Below w.heap.size w w' := by
  obtain ⟨ad, cap, rfl, hrw⟩ := hw.rowAt
  obtain ⟨al, cl, rfl, hrl⟩ := hl.rowAt
  have hb0 : Below w.heap.size w (w.alloc (.cells #[.int .i64 0, .int .i64 0] 27)) := (Below.refl _ _).alloc (Nat.le_refl _) _
  have HRW : Hid (∀ i, i < n → ∃ b o, ad = some ⟨b, o, none⟩ ∧ (w.alloc (.cells #[.int .i64 0, .int .i64 0] 27)).cell? ⟨b, o + i, none⟩ = some (.int .i64 (z i))) := fun i hi => by
    obtain ⟨b, o, h1, h2⟩ := hrw i hi
    exact ⟨b, o, h1, by rw [hb0.cell (cell_lt h2)]; exact h2⟩
  have HRL : Hid (∀ i, i < m → ∃ b o, al = some ⟨b, o, none⟩ ∧ (w.alloc (.cells #[.int .i64 0, .int .i64 0] 27)).cell? ⟨b, o + i, none⟩ = some (.int .i64 (l i))) := fun i hi => by
    obtain ⟨b, o, h1, h2⟩ := hrl i hi
    exact ⟨b, o, h1, by rw [hb0.cell (cell_lt h2)]; exact h2⟩
  have HB0 := Hid.mk' hb0
  clear hrw hrl hw hl hb0
  have x0 : (w.alloc (.cells #[.int .i64 0, .int .i64 0] 27)).cell? ⟨w.heap.size, 0, none⟩ = some (.int .i64 0) := by simp
  have x1 : (w.alloc (.cells #[.int .i64 0, .int .i64 0] 27)).cell? ⟨w.heap.size, 1, none⟩ = some (.int .i64 0) := by simp
  have f0 : (w.alloc (.cells #[.int .i64 0, .int .i64 0] 27)).frozen? ⟨w.heap.size, 0, none⟩ = false := by simp
  have f1 : (w.alloc (.cells #[.int .i64 0, .int .i64 0] 27)).frozen? ⟨w.heap.size, 1, none⟩ = false := by simp
  have HP : Hid (∀ (c t : Int), ((((w.alloc (.cells #[.int .i64 0, .int .i64 0] 27)).setCell ⟨w.heap.size, 0, none⟩ (.int .i64 c)).setCell ⟨w.heap.size, 1, none⟩ (.int .i64 t)).cell? ⟨w.heap.size, 0, none⟩ = some (.int .i64 c) ∧ (((w.alloc (.cells #[.int .i64 0, .int .i64 0] 27)).setCell ⟨w.heap.size, 0, none⟩ (.int .i64 c)).setCell ⟨w.heap.size, 1, none⟩ (.int .i64 t)).cell? ⟨w.heap.size, 1, none⟩ = some (.int .i64 t)) ∧ Below w.heap.size w (((w.alloc (.cells #[.int .i64 0, .int .i64 0] 27)).setCell ⟨w.heap.size, 0, none⟩ (.int .i64 c)).setCell ⟨w.heap.size, 1, none⟩ (.int .i64 t))) := fun c t => by
    refine ⟨⟨?_, ?_⟩, (HB0.out.setCell (Nat.le_refl _) _).setCell (Nat.le_refl _) _⟩
    · rw [World.cell?_setCell_other _ _ _ _ (by simp)]
      exact World.cell?_setCell_same _ _ _ x0
    · exact World.cell?_setCell_same _ _ _ (u := .int .i64 0) (by rw [World.cell?_setCell_other _ _ _ _ (by simp)]; exact x1)
  by_cases h200 : 200 < m
  · have HM : Hid (msgE z n m l = (2, -1)) := by unfold msgE; rw [if_pos h200]; exact rfl
    go_enter Tryd.func11, Tryd.ntmps11
    go_wp2_with fail
    exact bodyPost_ret (v := .agg #[.int .i64 2, .int .i64 (-1)]) (by simp [results, Tryd.results11, go_sem]) rfl ⟨by rw [HM.out]; rfl, (Below.refl _ _).alloc (Nat.le_refl _) _⟩
  · have HM2 : Hid (msgE z n m l = if fstB (badS n l) m < m then (3, (fstB (badS n l) m : Int)) else if fstB (zerS z l) m < m then (4, (fstB (zerS z l) m : Int)) else (0, -1)) := by unfold msgE; rw [if_neg h200]; exact rfl
    generalize hW : w.alloc (.cells #[.int .i64 0, .int .i64 0] 27) = W at *
    go_enter Tryd.func11, Tryd.ntmps11
    go_wp2_with fail
    clear hW
    go_loopw [5, 6] (fun s t wr => ∃ i y : Nat, i ≤ m ∧ t = .int .i64 i ∧ wr = W ∧ ((s = .int .i64 (-1) ∧ Hid (∀ j, j < i → zerS z l j = false)) ∨ (s = .int .i64 (y : Int) ∧ y < i ∧ Hid (fstB (zerS z l) m = y))) ∧ Hid (∀ j, j < i → badS n l j = false)) (fun _ t _ => m - (intOf t).toNat)
    case atStart => exact ⟨0, 0, Nat.zero_le _, rfl, rfl, Or.inl ⟨rfl, fun j hj => by omega⟩, fun j hj => by omega⟩
    case round =>
      obtain ⟨i, y, hi, rfl, rfl, hs, HJ⟩ := hrel
      rcases Nat.lt_or_ge i m with h1 | h1
      · obtain ⟨b, o, rfl, hc⟩ := HRL.out i h1
        have him : (i : Int) < (m : Int) := by omega
        by_cases hb : badS n l i = true
        · have HF : Hid (msgE z n m l = (3, (i : Int))) := by rw [HM2.out, fstB_at HJ.out hb h1, if_pos h1]; exact rfl
          have hb' : l i < 0 ∨ (n : Int) ≤ l i := of_decide_eq_true hb
          clear hb
          generalize l i = x at *
          obtain ⟨⟨g0, g1⟩, g2⟩ := HP.out 3 (i : Int)
          have G0 := Hid.mk' g0
          have G1 := Hid.mk' g1
          have G2 := Hid.mk' g2
          clear g0 g1 g2
          rcases hb' with hx | hx
          · rcases hs with ⟨rfl, _⟩ | ⟨rfl, _, _⟩
            all_goals (
              go_wp2_with fail
              exact bodyPost_ret (v := .agg #[.int .i64 3, .int .i64 (i : Int)]) (by simp [results, Tryd.results11, go_sem, G0.out, G1.out]) rfl ⟨by rw [HF.out]; rfl, G2.out⟩)
          · have hx0 : ¬ x < 0 := by omega
            rcases hs with ⟨rfl, _⟩ | ⟨rfl, _, _⟩
            all_goals (
              go_wp2_with fail
              exact bodyPost_ret (v := .agg #[.int .i64 3, .int .i64 (i : Int)]) (by simp [results, Tryd.results11, go_sem, G0.out, G1.out]) rfl ⟨by rw [HF.out]; rfl, G2.out⟩)
        · have hb0 : badS n l i = false := by simpa using hb
          have HJ2 : Hid (∀ j, j < i + 1 → badS n l j = false) := fun j hj => by
            rcases Nat.lt_or_ge j i with h2 | h2
            · exact HJ.out j h2
            · obtain rfl : j = i := by omega
              exact hb0
          have hb' : ¬ (l i < 0 ∨ (n : Int) ≤ l i) := of_decide_eq_false hb0
          have HZ : Hid (zerS z l i = decide (z (l i).toNat = 0)) := rfl
          have hx0 : 0 ≤ l i := by omega
          have hx1 : l i < (n : Int) := by omega
          clear hb hb0 hb'
          obtain ⟨s, hsl⟩ : ∃ s : Nat, l i = (s : Int) := ⟨(l i).toNat, by omega⟩
          rw [hsl] at hc hx0 hx1 HZ
          clear hsl
          obtain ⟨b', o', rfl, hc'⟩ := HRW.out s (by omega)
          rw [Int.toNat_natCast] at HZ
          rcases hs with ⟨rfl, HQ⟩ | ⟨rfl, hy, HQ⟩
          · by_cases hz : z s = 0
            · have HF : Hid (fstB (zerS z l) m = i) := fstB_at HQ.out (by rw [HZ.out]; exact decide_eq_true hz) h1
              rw [hz] at hc'
              clear hz HZ
              go_wp2_with fail
              exact ⟨⟨i + 1, i, h1, by go_num, trivial, Or.inr ⟨rfl, Nat.lt_succ_self _, HF.out⟩, HJ2.out⟩, by simp [intOf]; omega⟩
            · have HK2 : Hid (∀ j, j < i + 1 → zerS z l j = false) := fun j hj => by
                rcases Nat.lt_or_ge j i with h2 | h2
                · exact HQ.out j h2
                · obtain rfl : j = i := by omega
                  rw [HZ.out]; exact decide_eq_false hz
              generalize z s = q at hc' hz
              have hyb : (q == 0) = false := by simpa using hz
              clear hz HZ
              go_wp2_with fail
              exact ⟨⟨i + 1, y, h1, by go_num, trivial, Or.inl ⟨rfl, HK2.out⟩, HJ2.out⟩, by simp [intOf]; omega⟩
          · have hyi : ¬ (y : Int) < 0 := by omega
            go_wp2_with fail
            exact ⟨⟨i + 1, y, h1, by go_num, trivial, Or.inr ⟨rfl, by omega, HQ.out⟩, HJ2.out⟩, by simp [intOf]; omega⟩
      · obtain rfl : i = m := by omega
        have HM3 : Hid (msgE z n i l = if fstB (zerS z l) i < i then (4, (fstB (zerS z l) i : Int)) else (0, -1)) := by rw [HM2.out, fstB_all HJ.out, if_neg (Nat.lt_irrefl _)]; exact rfl
        clear HM2 h1
        rcases hs with ⟨rfl, HQ⟩ | ⟨rfl, hy, HQ⟩
        · have HF : Hid (msgE z n i l = (0, -1)) := by rw [HM3.out, fstB_all HQ.out, if_neg (Nat.lt_irrefl _)]; exact rfl
          obtain ⟨⟨g0, g1⟩, g2⟩ := HP.out 0 (-1)
          have G0 := Hid.mk' g0
          have G1 := Hid.mk' g1
          have G2 := Hid.mk' g2
          clear g0 g1 g2
          go_wp2_with fail
          exact bodyPost_ret (v := .agg #[.int .i64 0, .int .i64 (-1)]) (by simp [results, Tryd.results11, go_sem, G0.out, G1.out]) rfl ⟨by rw [HF.out]; rfl, G2.out⟩
        · have HF : Hid (msgE z n i l = (4, (y : Int))) := by rw [HM3.out, HQ.out, if_pos hy]; exact rfl
          have hy0 : (0 : Int) ≤ (y : Int) := by omega
          obtain ⟨⟨g0, g1⟩, g2⟩ := HP.out 4 (y : Int)
          have G0 := Hid.mk' g0
          have G1 := Hid.mk' g1
          have G2 := Hid.mk' g2
          clear g0 g1 g2
          go_wp2_with fail
          exact bodyPost_ret (v := .agg #[.int .i64 4, .int .i64 (y : Int)]) (by simp [results, Tryd.results11, go_sem, G0.out, G1.out]) rfl ⟨by rw [HF.out]; rfl, G2.out⟩

theorem Code_is (a : Nat → Addr) (v : Value) (c : Nat × Int) (w : World) (hE : Errs w a) (h : ErrIs a w v c) :
    Calls Tryd.prog 43 #[v] w fun e w' => (∃ t, e = .returned (.tuple #[.int .i64 (c.1 : Int), .int .i64 t]) ∧ (c.1 ≠ 0 → t = c.2)) ∧ Below w.heap.size w w' := by
  rcases h with ⟨rfl, h2, h3⟩ | ⟨pb, rfl, h1, h2, h3, h4⟩
  · by_cases h0 : c.1 = 0
    · rw [h0, errV_zero]
      refine (code_nil w).mono ?_
      rintro e w' ⟨rfl, rfl⟩
      exact ⟨⟨-1, rfl, fun h => absurd rfl h⟩, Below.refl _ _⟩
    · rw [errV_pos a h0]
      have hk := hE.row (c.1 - 1) (by omega)
      refine (code_err a (a (c.1 - 1)) (c.1 - 1) (by omega) w hE hk (fun j hj => hE.ne (c.1 - 1) j (by omega) (by omega) (by omega)) (fun _ => rfl)).mono ?_
      rintro e w' ⟨rfl, hb⟩
      rw [codeOf_lt (by omega)]
      exact ⟨⟨-1, by rw [show ((c.1 - 1 : Nat) : Int) + 1 = (c.1 : Int) by omega], fun _ => h2.symm⟩, hb⟩
  · refine (code_fault a pb c.2 (c.1 - 1) (by omega) w hE (cell_lt h1) h1 h2).mono ?_
    rintro e w' ⟨rfl, hb⟩
    exact ⟨⟨c.2, by rw [show ((c.1 - 1 : Nat) : Int) + 1 = (c.1 : Int) by omega], fun _ => rfl⟩, hb⟩

set_option maxRecDepth 100000 in
theorem faulted_is (a : Nat → Addr) (v : Value) (c : Nat × Int) (w : World) (hE : Errs w a) (h : ErrIs a w v c) :
    Calls Tryd.prog 16 #[v, .agg #[.int .i64 (c.1 : Int), .int .i64 c.2]] w fun e w' => e = .returned (.bool true) ∧ Below w.heap.size w w' := by
  obtain ⟨k, t⟩ := c
  have hb0 : Below w.heap.size w (w.alloc (.cells #[.int .i64 (k : Int), .int .i64 t] 27)) := (Below.refl _ _).alloc (Nat.le_refl _) _
  have hC := Code_is a v (k, t) _ (hE.below hb0) (h.later hb0)
  have HB0 := Hid.mk' hb0
  clear h hE hb0
  have x0 : (w.alloc (.cells #[.int .i64 (k : Int), .int .i64 t] 27)).cell? ⟨w.heap.size, 0, none⟩ = some (.int .i64 (k : Int)) := by simp
  have x1 : (w.alloc (.cells #[.int .i64 (k : Int), .int .i64 t] 27)).cell? ⟨w.heap.size, 1, none⟩ = some (.int .i64 t) := by simp
  have hl : w.heap.size < (w.alloc (.cells #[.int .i64 (k : Int), .int .i64 t] 27)).heap.size := by simp
  go_enter Tryd.func16, Tryd.ntmps16
  go_wp2_with fail
  refine hC.mono ?_
  clear hC
  rintro e w1 ⟨⟨q, rfl, hq⟩, hb1⟩
  have y0 : w1.cell? ⟨w.heap.size, 0, none⟩ = some (.int .i64 (k : Int)) := by rw [hb1.cell (by exact hl)]; exact x0
  have y1 : w1.cell? ⟨w.heap.size, 1, none⟩ = some (.int .i64 t) := by rw [hb1.cell (by exact hl)]; exact x1
  have HB1 := Hid.mk' (below_chain HB0.out hb1)
  clear x0 x1 hb1 hl
  by_cases h0 : k = 0
  · subst h0
    go_wp2_with fail
    go_ret
    exact ⟨rfl, HB1.out⟩
  · obtain rfl : q = t := hq h0
    have hk0 : ((k : Int) == 0) = false := by simp; exact h0
    clear hq h0
    go_wp2_with fail
    go_ret
    exact ⟨rfl, HB1.out⟩
end Go.Proofs.YtjmjedpeibnnnaaDoor
