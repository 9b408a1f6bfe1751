/- The program's search of the longest copy. -/
import Derived.Test.YtiocbnjdmceadaaDoorSlMath
import Derived.Test.YtiocbnjdmceadaaDoorOwn
namespace Go.Proofs.YtiocbnjdmceadaaDoor
open Go.RowKit

theorem ret_num {a b : Int} (h : a = b) : Ending.returned (.int .i64 a) = .returned (.int .i64 b) := by rw [h]
theorem byte_list (t : ByteArray) (k : Nat) (h : k < t.size) (h' : k < t.data.toList.length) : t.data.toList[k]'h' = t[k]'h := by simp; rfl
theorem size_lst (a : ByteArray) : a.data.toList.length = a.size := by rw [Array.length_toList]; rfl

set_option maxRecDepth 100000 in
set_option maxHeartbeats 1000000 in
theorem alike_any (a b : ByteArray) (w : World) (hba : b.size ≤ a.size) (hs : a.size ≤ 1000000) :
    Calls Tryd.prog 31 #[.string a, .string b] w fun e w' => e = .returned (.int .i64 (cpL a.data.toList b.data.toList : Nat)) ∧ ∃ m, w' = w.drewN m := by
  go_enter Tryd.func31, Tryd.ntmps31
  go_wp2_with fail
  go_loopw [5] (fun t wr => ∃ n m : Nat, n ≤ b.size ∧ t = .int .i64 n ∧ wr = w.drewN m ∧ Hid (cpL a.data.toList b.data.toList = n + cpL (a.data.toList.drop n) (b.data.toList.drop n))) (fun t _ => b.size - (intOf t).toNat)
  case atStart => exact ⟨0, 0, Nat.zero_le _, rfl, rfl, by show _ = _; simp⟩
  case round =>
    obtain ⟨n, m, hn, rfl, rfl, HC⟩ := hrel
    rcases Nat.lt_or_ge n b.size with h1 | h1
    · have h2 : n < a.size := by omega
      have hnI : (n : Int) < (b.size : Int) := by omega
      have hnA : (n : Int) < (a.size : Int) := by omega
      have hn0 : (0 : Int) ≤ (n : Int) := by omega
      have l1 : n < a.data.toList.length := by rw [size_lst]; exact h2
      have l2 : n < b.data.toList.length := by rw [size_lst]; exact h1
      have HST : Hid (cpL (a.data.toList.drop n) (b.data.toList.drop n) = if (a[n]'h2) = (b[n]'h1) then cpL (a.data.toList.drop (n + 1)) (b.data.toList.drop (n + 1)) + 1 else 0) := by
        show _ = _
        rw [List.drop_eq_getElem_cons l1, List.drop_eq_getElem_cons l2, byte_list a n h2 l1, byte_list b n h1 l2]
        rfl
      by_cases hx : (a[n]'h2) = (b[n]'h1)
      · have HN : Hid (cpL a.data.toList b.data.toList = (n + 1) + cpL (a.data.toList.drop (n + 1)) (b.data.toList.drop (n + 1))) := by
          show _ = _; rw [HC.out, HST.out, if_pos hx]; omega
        have hd : (((a[n]'h2).toNat : Int) == ((b[n]'h1).toNat : Int)) = true := by rw [hx]; simp
        clear hx HST HC
        go_wp2_with fail
        go_quiet (fail)
        go_wp2_with fail
        exact ⟨⟨n + 1, _, h1, by go_num, rfl, HN⟩, by simp [intOf]; omega⟩
      · have HN : Hid (cpL a.data.toList b.data.toList = n) := by
          show _ = _; rw [HC.out, HST.out, if_neg hx]; omega
        have hd : (((a[n]'h2).toNat : Int) == ((b[n]'h1).toNat : Int)) = false := by
          rw [beq_eq_false_iff_ne]; intro h; exact hx (UInt8.toNat_inj.1 (by omega))
        clear hx HST HC
        go_wp2_with fail
        go_quiet (fail)
        go_wp2_with fail
        go_ret
        exact ⟨ret_num (by rw [HN.out]), _, World.drewN_drewN _ _ _⟩
    · obtain rfl : n = b.size := by omega
      have HN : Hid (cpL a.data.toList b.data.toList = b.size) := by
        show _ = _; rw [HC.out, List.drop_eq_nil_of_le (show b.data.toList.length ≤ b.size by rw [size_lst]; exact Nat.le_refl _)]
        cases List.drop b.size a.data.toList <;> rfl
      clear HC
      have hlt : decide ((b.size : Int) < (b.size : Int)) = false := by simp
      go_wp2_with fail
      go_quiet (fail)
      go_wp2_with fail
      go_ret
      exact ⟨ret_num (by rw [HN.out]), _, World.drewN_drewN _ _ _⟩

theorem ext_list (T : ByteArray) (p : Nat) : (T.extract p T.size).data.toList = T.data.toList.drop p := by
  rw [ByteArray.data_extract, Array.toList_extract, List.extract_eq_take_drop, ← size_lst]
  exact List.take_of_length_le (by rw [List.length_drop]; exact Nat.le_refl _)
theorem ext_size (T : ByteArray) (p : Nat) : (T.extract p T.size).size = T.size - p := by rw [ByteArray.size_extract]; omega
/-- The box of a copy. -/
structure BoxC (w : World) (b : Nat) (r : Nat × Nat) : Prop where
  c0 : w.cell? ⟨b, 0, none⟩ = some (.int .i64 (r.1 : Int))
  c1 : w.cell? ⟨b, 1, none⟩ = some (.int .i64 (r.2 : Int))
  c2 : w.cell? ⟨b, 2, none⟩ = some (.int .u8 0)
  c3 : w.cell? ⟨b, 3, none⟩ = some (.bool false)
  fz : ∀ i, w.frozen? ⟨b, i, none⟩ = false

theorem four_cells {w : World} {b : Nat} {x0 x1 x2 x3 : Value} (v0 v1 v2 v3 : Value) (c0 : w.cell? ⟨b, 0, none⟩ = some x0) (c1 : w.cell? ⟨b, 1, none⟩ = some x1) (c2 : w.cell? ⟨b, 2, none⟩ = some x2) (c3 : w.cell? ⟨b, 3, none⟩ = some x3) :
    ((((w.setCell ⟨b, 0, none⟩ v0).setCell ⟨b, 1, none⟩ v1).setCell ⟨b, 2, none⟩ v2).setCell ⟨b, 3, none⟩ v3).cell? ⟨b, 0, none⟩ = some v0 ∧
    ((((w.setCell ⟨b, 0, none⟩ v0).setCell ⟨b, 1, none⟩ v1).setCell ⟨b, 2, none⟩ v2).setCell ⟨b, 3, none⟩ v3).cell? ⟨b, 1, none⟩ = some v1 ∧
    ((((w.setCell ⟨b, 0, none⟩ v0).setCell ⟨b, 1, none⟩ v1).setCell ⟨b, 2, none⟩ v2).setCell ⟨b, 3, none⟩ v3).cell? ⟨b, 2, none⟩ = some v2 ∧
    ((((w.setCell ⟨b, 0, none⟩ v0).setCell ⟨b, 1, none⟩ v1).setCell ⟨b, 2, none⟩ v2).setCell ⟨b, 3, none⟩ v3).cell? ⟨b, 3, none⟩ = some v3 := by
  refine ⟨?_, ?_, ?_, ?_⟩
  · rw [World.cell?_setCell_other _ _ _ _ (by simp), World.cell?_setCell_other _ _ _ _ (by simp), World.cell?_setCell_other _ _ _ _ (by simp)]
    exact World.cell?_setCell_same _ _ _ c0
  · rw [World.cell?_setCell_other _ _ _ _ (by simp), World.cell?_setCell_other _ _ _ _ (by simp)]
    exact World.cell?_setCell_same _ _ _ (by rw [World.cell?_setCell_other _ _ _ _ (by simp)]; exact c1)
  · rw [World.cell?_setCell_other _ _ _ _ (by simp)]
    exact World.cell?_setCell_same _ _ _ (by rw [World.cell?_setCell_other _ _ _ _ (by simp), World.cell?_setCell_other _ _ _ _ (by simp)]; exact c2)
  · exact World.cell?_setCell_same _ _ _ (by rw [World.cell?_setCell_other _ _ _ _ (by simp), World.cell?_setCell_other _ _ _ _ (by simp), World.cell?_setCell_other _ _ _ _ (by simp)]; exact c3)
theorem four_other {w : World} {b b' i : Nat} (v0 v1 v2 v3 : Value) (h : b' ≠ b) : ((((w.setCell ⟨b, 0, none⟩ v0).setCell ⟨b, 1, none⟩ v1).setCell ⟨b, 2, none⟩ v2).setCell ⟨b, 3, none⟩ v3).cell? ⟨b', i, none⟩ = w.cell? ⟨b', i, none⟩ := by
  rw [World.cell?_setCell_other _ _ _ _ (fun e => h (by cases e; rfl)), World.cell?_setCell_other _ _ _ _ (fun e => h (by cases e; rfl)), World.cell?_setCell_other _ _ _ _ (fun e => h (by cases e; rfl)), World.cell?_setCell_other _ _ _ _ (fun e => h (by cases e; rfl))]
theorem four_frozen {w : World} {b : Nat} {x : Addr} (v0 v1 v2 v3 : Value) : ((((w.setCell ⟨b, 0, none⟩ v0).setCell ⟨b, 1, none⟩ v1).setCell ⟨b, 2, none⟩ v2).setCell ⟨b, 3, none⟩ v3).frozen? x = w.frozen? x := by
  rw [World.frozen?_setCell, World.frozen?_setCell, World.frozen?_setCell, World.frozen?_setCell]
theorem four_below {w0 w : World} {b n : Nat} (v0 v1 v2 v3 : Value) (h : Below n w0 w) (hb : n ≤ b) : Below n w0 ((((w.setCell ⟨b, 0, none⟩ v0).setCell ⟨b, 1, none⟩ v1).setCell ⟨b, 2, none⟩ v2).setCell ⟨b, 3, none⟩ v3) :=
  (((h.setCell hb _).setCell hb _).setCell hb _).setCell hb _
theorem BoxC.set {w : World} {b : Nat} {r : Nat × Nat} (h : BoxC w b r) (x y : Nat) : BoxC ((((w.setCell ⟨b, 0, none⟩ (.int .i64 (x : Int))).setCell ⟨b, 1, none⟩ (.int .i64 (y : Int))).setCell ⟨b, 2, none⟩ (.int .u8 0)).setCell ⟨b, 3, none⟩ (.bool false)) b (x, y) := by
  obtain ⟨h0, h1, h2, h3⟩ := four_cells (.int .i64 (x : Int)) (.int .i64 (y : Int)) (.int .u8 0) (.bool false) h.c0 h.c1 h.c2 h.c3
  exact ⟨h0, h1, h2, h3, fun i => by rw [four_frozen]; exact h.fz i⟩
theorem BoxC.beside {w : World} {b b' : Nat} {r : Nat × Nat} (v0 v1 v2 v3 : Value) (h : BoxC w b r) (hne : b ≠ b') : BoxC ((((w.setCell ⟨b', 0, none⟩ v0).setCell ⟨b', 1, none⟩ v1).setCell ⟨b', 2, none⟩ v2).setCell ⟨b', 3, none⟩ v3) b r := by
  refine ⟨?_, ?_, ?_, ?_, fun i => by rw [four_frozen]; exact h.fz i⟩
  · rw [four_other _ _ _ _ hne]; exact h.c0
  · rw [four_other _ _ _ _ hne]; exact h.c1
  · rw [four_other _ _ _ _ hne]; exact h.c2
  · rw [four_other _ _ _ _ hne]; exact h.c3
theorem BoxC.drewN {w : World} {b : Nat} {r : Nat × Nat} (h : BoxC w b r) : ∀ m, BoxC (w.drewN m) b r
  | 0 => h
  | m + 1 => ⟨(h.drewN m).c0, (h.drewN m).c1, (h.drewN m).c2, (h.drewN m).c3, (h.drewN m).fz⟩
theorem BoxC.made (w : World) (t : TypeId) : BoxC (w.alloc (.cells #[.int .i64 0, .int .i64 0, .int .u8 0, .bool false] t)) w.heap.size (0, 0) :=
  ⟨by simp, by simp, by simp, by simp, fun i => World.frozen?_alloc_new w _ t i⟩
theorem BoxC.later {w w' : World} {b : Nat} {r : Nat × Nat} (h : BoxC w b r) (hb : Below w.heap.size w w') : BoxC w' b r := by
  have hl : b < w.heap.size := cell_lt h.c0
  refine ⟨?_, ?_, ?_, ?_, fun i => by rw [hb.frozen (p := ⟨b, i, none⟩) hl]; exact h.fz i⟩
  · rw [hb.cell (p := ⟨b, 0, none⟩) hl]; exact h.c0
  · rw [hb.cell (p := ⟨b, 1, none⟩) hl]; exact h.c1
  · rw [hb.cell (p := ⟨b, 2, none⟩) hl]; exact h.c2
  · rw [hb.cell (p := ⟨b, 3, none⟩) hl]; exact h.c3

set_option maxRecDepth 100000 in
set_option maxHeartbeats 1000000 in
theorem longest_any (T : ByteArray) (p most : Nat) (w : World) (hp : p ≤ T.size) (hm : most ≤ p) (hs : T.size ≤ 1000000) :
    Calls Tryd.prog 26 #[.string T, .int .i64 p, .int .i64 most] w fun e w' => e = .returned (.agg #[.int .i64 ((bst T.data.toList p most).1 : Nat), .int .i64 ((bst T.data.toList p most).2 : Nat), .int .u8 0, .bool false]) ∧ Below w.heap.size w w' := by
  have HAL : Hid (∀ k W, k + 1 ≤ p → Calls Tryd.prog 31 #[.string (T.extract (p - (k + 1)) T.size), .string (T.extract p T.size)] W fun e w' => e = .returned (.int .i64 (cpL (T.data.toList.drop (p - (k + 1))) (T.data.toList.drop p) : Nat)) ∧ ∃ m, w' = W.drewN m) := fun k W hk => by
    have := alike_any (T.extract (p - (k + 1)) T.size) (T.extract p T.size) W (by rw [ext_size, ext_size]; omega) (by rw [ext_size]; omega)
    rw [ext_list, ext_list] at this
    exact this
  go_enter Tryd.func26, Tryd.ntmps26
  go_wp2_with fail
  go_loopw [8] (fun t wr => ∃ k : Nat, k ≤ most ∧ t = .int .i64 ((k : Int) + 1) ∧ Hid (BoxC wr (w.heap.size + 1) (bst T.data.toList p k)) ∧ Hid (Below w.heap.size w wr) ∧ Hid (BoxC wr w.heap.size (0, 0))) (fun t _ => most + 1 - (intOf t).toNat)
  case atStart => exact ⟨0, Nat.zero_le _, rfl, by show BoxC _ _ (0, 0); have := BoxC.made (w.alloc (.cells #[.int .i64 0, .int .i64 0, .int .u8 0, .bool false] 49)) 49; simpa using this, ((Below.refl _ _).alloc (Nat.le_refl _) _).alloc (by simp) _, (BoxC.made w 49).later ((Below.refl _ _).alloc (Nat.le_refl _) _)⟩
  case round =>
    obtain ⟨k, hk, rfl, HX, HB, HF⟩ := hrel
    rcases Nat.lt_or_ge k most with h1 | h1
    · have hkI : (k : Int) + 1 ≤ (most : Int) := by omega
      have hpI : (0 : Int) ≤ (p : Int) - ((k : Int) + 1) := by omega
      have hpS : (p : Int) ≤ (T.size : Int) := by omega
      have c0 := HX.out.c0
      have c1 := HX.out.c1
      have c2 := HX.out.c2
      have c3 := HX.out.c3
      have f0 := HX.out.fz 0
      have f1 := HX.out.fz 1
      have f2 := HX.out.fz 2
      have f3 := HX.out.fz 3
      have hz := Hid.mk' (cell_lt c0)
      have HAL := Hid.mk' (fun W => HAL.out k W (by omega))
      rcases Nat.lt_or_ge (bst T.data.toList p k).2 (cpL (T.data.toList.drop (p - (k + 1))) (T.data.toList.drop p)) with h2 | h2
      · have HM := Hid.mk' (bst_more h2)
        generalize bst T.data.toList p k = r at *
        generalize cpL (T.data.toList.drop (p - (k + 1))) (T.data.toList.drop p) = c at *
        have h2I : (r.2 : Int) < (c : Int) := by omega
        go_wp2_with fail
        go_quiet ((go_at_call 31; exact Calls.quiet_of (HAL.out _)))
        go_wp2_with fail
        exact ⟨⟨k + 1, h1, by go_num, by rw [HM.out]; exact (HX.out.drewN nq).set (k + 1) c, four_below _ _ _ _ (below_drewN HB.out _) (by omega), (HF.out.drewN nq).beside _ _ _ _ (by omega)⟩, by simp [intOf]; omega⟩
      · have HM := Hid.mk' (bst_same (show ¬ (bst T.data.toList p k).2 < cpL (T.data.toList.drop (p - (k + 1))) (T.data.toList.drop p) by omega))
        generalize bst T.data.toList p k = r at *
        generalize cpL (T.data.toList.drop (p - (k + 1))) (T.data.toList.drop p) = c at *
        have h2I : ¬ (r.2 : Int) < (c : Int) := by omega
        go_wp2_with fail
        go_quiet ((go_at_call 31; exact Calls.quiet_of (HAL.out _)))
        go_wp2_with fail
        exact ⟨⟨k + 1, h1, by go_num, by rw [HM.out]; exact HX.out.drewN nq, below_drewN HB.out _, HF.out.drewN nq⟩, by simp [intOf]; omega⟩
    · obtain rfl : k = most := by omega
      have hkE : ¬ ((k : Int) + 1 ≤ (k : Int)) := by omega
      have c0 := HX.out.c0
      have c1 := HX.out.c1
      have c2 := HX.out.c2
      have c3 := HX.out.c3
      have d0 : wr.cell? ⟨w.heap.size, 0, none⟩ = some (.int .i64 0) := HF.out.c0
      have d1 : wr.cell? ⟨w.heap.size, 1, none⟩ = some (.int .i64 0) := HF.out.c1
      have d2 := HF.out.c2
      have d3 := HF.out.c3
      have f0 := HF.out.fz 0
      have f1 := HF.out.fz 1
      have f2 := HF.out.fz 2
      have f3 := HF.out.fz 3
      obtain ⟨g0, g1, g2, g3⟩ := four_cells (.int .i64 ((bst T.data.toList p k).1 : Int)) (.int .i64 ((bst T.data.toList p k).2 : Int)) (.int .u8 0) (.bool false) d0 d1 d2 d3
      have HG := Hid.mk' (And.intro g0 (And.intro g1 (And.intro g2 g3)))
      clear g0 g1 g2 g3
      go_wp2_with fail
      obtain ⟨g0, g1, g2, g3⟩ := HG.out
      refine bodyPost_ret (v := .agg #[.int .i64 ((bst T.data.toList p k).1 : Int), .int .i64 ((bst T.data.toList p k).2 : Int), .int .u8 0, .bool false]) (by simp [results, Tryd.results26, go_sem, g0, g1, g2, g3]) rfl ⟨rfl, four_below _ _ _ _ HB.out (Nat.le_refl _)⟩
end Go.Proofs.YtiocbnjdmceadaaDoor
