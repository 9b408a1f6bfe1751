/- (sum).putFactors at 8 and at 1. -/
import Derived.Test.YtklhfagcembigaaGreatDoorTold
namespace Go.Proofs.YtklhfagcembigaaGreatDoor
open Go.RowKit Go.Maps

theorem grown_two {a b c : World} {r : Nat} (h : a.grownBy b (some r)) (k : b.grownBy c (some r)) : a.grownBy c (some r) :=
  ⟨k.os.trans h.os, k.tape.trans h.tape, k.output.trans h.output, Nat.le_trans h.size k.size, fun i hi hn => (k.block i (Nat.lt_of_lt_of_le hi h.size) hn).trans (h.block i hi hn)⟩

/-- What is left of 8 behind k halvings. -/
def left8 (k : Nat) : Int := [(8 : Int), 4, 2, 1].getD k 1

set_option maxRecDepth 100000 in
set_option maxHeartbeats 1000000 in
theorem putFactors_8 (den : Int) (b : Nat) (w : World) (hown : w.ownsMap Tryz.prog 3 (plainElem (H := Unit) Tryz.prog 3) b 0 (.map [])) :
    Calls Tryz.prog 52 #[.agg #[.int .i64 den, .map (some b)], .int .i64 8, .int .i64 1] w fun e w' => e = .returned (.tuple #[]) ∧ w'.ownsMap Tryz.prog 3 (plainElem (H := Unit) Tryz.prog 3) b 3 (coefs2 3) ∧ w.grownBy w' (some b) := by
  have hbl := hown.lt
  have HKEY : Hid (keyOf Tryz.prog 3 (.int .i64 2) = some (.int .i64 2)) := keyOf_int_mk Tryz.underlying3 (by decide)
  have HO0 : Hid ((w.alloc (.cells #[.int .i64 den, .map (some b)] 86)).ownsMap Tryz.prog 3 (plainElem (H := Unit) Tryz.prog 3) b 0 (coefs2 0)) := ownsMap_later hown (Below.heap_alloc _ _ b hbl)
  have HG0 : Hid (w.grownBy (w.alloc (.cells #[.int .i64 den, .map (some b)] 86)) (some b)) := ⟨rfl, rfl, rfl, by simp, fun k hk _ => Below.heap_alloc _ _ k hk⟩
  have HC0 : Hid ((w.alloc (.cells #[.int .i64 den, .map (some b)] 86)).cell? ⟨w.heap.size, 1, none⟩ = some (.map (some b))) := by show _ = _; simp
  clear hown
  go_enter Tryz.func52, Tryz.ntmps52
  go_wp2_with fail
  refine wp_loop_rounds 2 ?_
  rw [rounds_succ]
  go_wp2_with fail
  go_loopw [1] (fun t wr => ∃ k : Nat, k ≤ 3 ∧ t = .int .i64 (left8 k) ∧ Hid (wr.ownsMap Tryz.prog 3 (plainElem (H := Unit) Tryz.prog 3) b k (coefs2 k)) ∧ Hid (w.grownBy wr (some b)) ∧ wr.cell? ⟨w.heap.size, 1, none⟩ = some (.map (some b))) (fun t _ => (intOf t).toNat)
  case atStart => exact ⟨0, by omega, rfl, HO0, HG0, HC0.out⟩
  case round =>
    clear HO0 HG0 HC0
    obtain ⟨k, hk, rfl, HO, HG, hc⟩ := hrel
    rcases Nat.lt_or_ge k 3 with h3 | h3
    · rcases (show k = 0 ∨ k = 1 ∨ k = 2 by omega) with rfl | rfl | rfl
      all_goals simp only [left8, List.getD_cons_zero, List.getD_cons_succ]
      all_goals go_wp2_with (first
        | (at_lookup; go_must (refine wpList_lookup_own_int _ rfl _ _ 84 rfl 3 3 .i64 Tryz.lawInt Tryz.underlying84 Tryz.underlying3 (Tryz.zeroInt _) b _ _ rfl HO.out _ _ rfl HKEY.out ?_; intro c hat hwc; have hcc := (coefs2_at _).symm.trans hat; clear hat hwc; simp only [DataW.lit.injEq, Lit.int.injEq, true_and] at hcc; subst hcc))
        | (at_mapUpdate; go_must (refine wpList_mapUpdate_own _ rfl _ _ _ 84 rfl 3 3 Tryz.lawInt Tryz.underlying84 _ b _ _ rfl HO.out (by unfold maxLen; omega) _ _ _ rfl rfl HKEY.out _ [] (plainElem_int Tryz.underlying3 (by decide)) ?_; intro w1 hown1 hgrow1; have hc1 := cell_beside hgrow1 hc (by omega); have HO1 := Hid.mk' hown1; have HG1 := Hid.mk' hgrow1; clear hown1 hgrow1)))
      · exact ⟨⟨1, by omega, rfl, by rw [← coefs2_put 0]; exact HO1, grown_two HG.out HG1.out, hc1⟩, by decide⟩
      · exact ⟨⟨2, by omega, rfl, by rw [← coefs2_put 1]; exact HO1, grown_two HG.out HG1.out, hc1⟩, by decide⟩
      · exact ⟨⟨3, by omega, rfl, by rw [← coefs2_put 2]; exact HO1, grown_two HG.out HG1.out, hc1⟩, by decide⟩
    · obtain rfl : k = 3 := by omega
      simp only [left8, List.getD_cons_zero, List.getD_cons_succ]
      go_wp2_with fail
      rw [rounds_succ]
      go_wp2_with fail
      go_end0
      exact ⟨rfl, HO.out, HG.out⟩

set_option maxRecDepth 100000 in
theorem putFactors_1 (den t : Int) (b : Nat) (w : World) :
    Calls Tryz.prog 52 #[.agg #[.int .i64 den, .map (some b)], .int .i64 1, .int .i64 t] w fun e w' => e = .returned (.tuple #[]) ∧ w' = w.alloc (.cells #[.int .i64 den, .map (some b)] 86) := by
  by_cases ht : t = 0
  · subst ht
    go_enter Tryz.func52, Tryz.ntmps52
    go_wp2_with fail
    exact bodyPost_ret (v := .tuple #[]) (by simp [results, Tryz.results52]) rfl ⟨rfl, rfl⟩
  · go_enter Tryz.func52, Tryz.ntmps52
    go_wp2_with fail
    refine wp_loop_rounds 1 ?_
    rw [rounds_succ]
    go_wp2_with fail
    go_end0
    exact ⟨rfl, rfl⟩

theorem coefs3_at (x : Int) : (coefs2 3).atKey (.int .i64 x) (.lit (.int .i64 0)) = .lit (.int .i64 (if x = 2 then 3 else 0)) := by
  by_cases h : x = 2
  · subst h; rfl
  · have h' : ¬ 2 = x := fun e => h e.symm
    simp [coefs2, DataW.atKey, Lit.sameKey, h, h']

theorem keys3 (ss : List Int) (h : ss.Perm (intKeys (coefs2 3))) : ss.mergeSort (fun x y => decide (x ≤ y)) = [2] := by
  have h1 : ss.Perm [2] := h
  obtain rfl : ss = [2] := List.perm_singleton.1 h1
  exact List.mergeSort_singleton 2

theorem told_8 (b : Nat) (w : World) (h : w.ownsMap Tryz.prog 3 (plainElem (H := Unit) Tryz.prog 3) b 3 (coefs2 3)) :
    Calls Tryz.prog 53 #[.agg #[.int .i64 1, .map (some b)]] w fun e w' => ∃ v, e = .returned (.tuple #[.agg #[.int .i64 1, v], .nilIface]) ∧ w'.ownsRow w.heap.size 90 2 v 1 [.int .i64 2, .int .i64 3] ∧ Below w.heap.size w w' :=
  told_ok 1 b 3 (coefs2 3) (fun x => if x = 2 then 3 else 0) [2] w h coefs3_at keys3 (by decide) (by decide) (by decide) (by decide) (by decide) (fun x => by by_cases h : x = 2 <;> simp [h]) 1 (by decide) (by decide) (by decide)

theorem hasLog_yes (n : Int) (w : World) (h1 : 1 ≤ n) (h2 : n ≤ 1000000) : Calls Tryz.prog 50 #[.int .i64 n] w fun e w' => e = .returned (.bool true) ∧ w' = w := by
  go_enter Tryz.func50, Tryz.ntmps50
  go_wp2
  go_ret
  exact ⟨ret_bool (by simp), rfl⟩

/-- The cells of an old block, behind a new one. -/
theorem cell_past {w w' : World} {p : Addr} {v : Value} (h : w.cell? p = some v) (hb : Below w.heap.size w w') : (∀ X, (w'.alloc X).cell? p = some v) ∧ w'.cell? p = some v := by
  have h1 : w'.cell? p = some v := by rw [hb.cell (cell_lt h)]; exact h
  exact ⟨fun X => by rw [World.cell?_alloc_lt _ _ p (cell_lt h1)]; exact h1, h1⟩
theorem frozen_past {w w' : World} {p : Addr} {v : Value} (hc : w.cell? p = some v) (h : w.frozen? p = false) (hb : Below w.heap.size w w') : (∀ X, (w'.alloc X).frozen? p = false) ∧ w'.frozen? p = false := by
  have h1 : w'.frozen? p = false := by rw [hb.frozen (cell_lt hc)]; exact h
  have hl : p.block < w'.heap.size := Nat.lt_of_lt_of_le (cell_lt hc) hb.size
  exact ⟨fun X => by rw [World.frozen?_alloc_old _ _ p (Nat.ne_of_lt hl)]; exact h1, h1⟩

set_option maxRecDepth 100000 in
set_option maxHeartbeats 1000000 in
/-- logs.Of at 8 over 1: three times the logarithm of 2. -/
theorem Of_8 (w : World) : Calls Tryz.prog 22 #[.agg #[.int .i64 8, .int .i64 1]] w fun e w' => ∃ v, e = .returned (.tuple #[.agg #[.int .i64 1, v], .nilIface]) ∧ w'.ownsRow w.heap.size 90 2 v 1 [.int .i64 2, .int .i64 3] ∧ Below w.heap.size w w' := by
  have a0 : ((w.alloc (.cells #[.int .i64 8, .int .i64 1] 38)).alloc (.cells #[.int .i64 0, .slice none 0 0] 27)).cell? ⟨w.heap.size, 0, none⟩ = some (.int .i64 8) := by simp
  have a1 : ((w.alloc (.cells #[.int .i64 8, .int .i64 1] 38)).alloc (.cells #[.int .i64 0, .slice none 0 0] 27)).cell? ⟨w.heap.size, 1, none⟩ = some (.int .i64 1) := by simp
  have r0 : ((w.alloc (.cells #[.int .i64 8, .int .i64 1] 38)).alloc (.cells #[.int .i64 0, .slice none 0 0] 27)).cell? ⟨w.heap.size + 1, 0, none⟩ = some (.int .i64 0) := by simp
  have r1 : ((w.alloc (.cells #[.int .i64 8, .int .i64 1] 38)).alloc (.cells #[.int .i64 0, .slice none 0 0] 27)).cell? ⟨w.heap.size + 1, 1, none⟩ = some (.slice none 0 0) := by simp
  have q0 : ((w.alloc (.cells #[.int .i64 8, .int .i64 1] 38)).alloc (.cells #[.int .i64 0, .slice none 0 0] 27)).frozen? ⟨w.heap.size + 1, 0, none⟩ = false := by simp
  have q1 : ((w.alloc (.cells #[.int .i64 8, .int .i64 1] 38)).alloc (.cells #[.int .i64 0, .slice none 0 0] 27)).frozen? ⟨w.heap.size + 1, 1, none⟩ = false := by simp
  have hb0 : Below w.heap.size w ((w.alloc (.cells #[.int .i64 8, .int .i64 1] 38)).alloc (.cells #[.int .i64 0, .slice none 0 0] 27)) := ((Below.refl _ _).alloc (Nat.le_refl _) _).alloc (by simp) _
  have hn := newSum_any 1 ((w.alloc (.cells #[.int .i64 8, .int .i64 1] 38)).alloc (.cells #[.int .i64 0, .slice none 0 0] 27))
  have A0 := Hid.mk' a0
  have A1 := Hid.mk' a1
  have R0 := Hid.mk' r0
  have R1 := Hid.mk' r1
  have Q0 := Hid.mk' q0
  have Q1 := Hid.mk' q1
  have B0 := Hid.mk' hb0
  clear a0 a1 r0 r1 q0 q1 hb0
  go_enter Tryz.func22, Tryz.ntmps22
  go_wp2_with (go_at_call 50; refine (hasLog_yes _ _ (by omega) (by omega)).mono ?_; rintro e w' ⟨rfl, hw'⟩; rw [hw']; clear hw')
  refine hn.mono ?_
  clear hn
  rintro e w3 ⟨rfl, hown3, hb3⟩
  simp only [World.size_alloc] at hown3 ⊢
  have a0 := (cell_past A0.out hb3).1
  have a1 := (cell_past A1.out hb3).1
  have B3 := Hid.mk' hb3
  have hs3 := hb3.size
  simp at hs3
  have hp8 := putFactors_8 1 (w.heap.size + 1 + 1 + 1) (w3.alloc (.cells #[.int .i64 1, .map (some (w.heap.size + 1 + 1 + 1))] 86)) (ownsMap_later hown3 (Below.heap_alloc _ _ _ hown3.lt))
  have L3 := Hid.mk' hown3.lt
  clear hown3 hb3
  go_wp2_with fail
  refine hp8.mono ?_
  clear hp8 a0 a1
  rintro e w5 ⟨rfl, hown5, hg5⟩
  have hb5 : Below ((w.alloc (.cells #[.int .i64 8, .int .i64 1] 38)).alloc (.cells #[.int .i64 0, .slice none 0 0] 27)).heap.size ((w.alloc (.cells #[.int .i64 8, .int .i64 1] 38)).alloc (.cells #[.int .i64 0, .slice none 0 0] 27)) w5 :=
    (B3.out.alloc B3.out.size _).grown hg5 (by simp; omega) (fun k e => by cases e; simp)
  have a1 := (cell_past A1.out hb5).2
  have l3 := L3.out
  have s0 : w5.cell? ⟨w3.heap.size, 0, none⟩ = some (.int .i64 1) := cell_beside hg5 (by simp) (by omega)
  have s1 : w5.cell? ⟨w3.heap.size, 1, none⟩ = some (.map (some (w.heap.size + 1 + 1 + 1))) := cell_beside hg5 (by simp) (by omega)
  have hp1 := putFactors_1 1 (-1) (w.heap.size + 1 + 1 + 1) w5
  have B5 := Hid.mk' hb5
  have O5 := Hid.mk' hown5
  have S5 : Hid (w3.heap.size < w5.heap.size) := cell_lt s0
  clear hown5 hg5 hb5
  go_wp2_with fail
  refine hp1.mono ?_
  clear hp1
  rintro e w6 ⟨rfl, hw6⟩
  have hb6 : Below w5.heap.size w5 w6 := by rw [hw6]; exact (Below.refl _ _).alloc (Nat.le_refl _) _
  have O6 : Hid (w6.ownsMap Tryz.prog 3 (plainElem (H := Unit) Tryz.prog 3) (w.heap.size + 1 + 1 + 1) 3 (coefs2 3)) := ownsMap_later O5.out (hb6.block _ O5.out.lt)
  have B6 := Hid.mk' (B5.out.trans (hb6.mono B5.out.size))
  have t0 := (cell_past s0 hb6).2
  have t1 := (cell_past s1 hb6).2
  have ht := told_8 (w.heap.size + 1 + 1 + 1) w6 O6.out
  have r0 := fun (w7 : World) (h : Below w6.heap.size w6 w7) => (cell_past R0.out (B6.out.trans (h.mono B6.out.size))).2
  have r1 := fun (w7 : World) (h : Below w6.heap.size w6 w7) => (cell_past R1.out (B6.out.trans (h.mono B6.out.size))).2
  have q0 := fun (w7 : World) (h : Below w6.heap.size w6 w7) => (frozen_past R0.out Q0.out (B6.out.trans (h.mono B6.out.size))).2
  have q1 := fun (w7 : World) (h : Below w6.heap.size w6 w7) => (frozen_past R1.out Q1.out (B6.out.trans (h.mono B6.out.size))).2
  have C0 := Hid.mk' r0
  have C1 := Hid.mk' r1
  have D0 := Hid.mk' q0
  have D1 := Hid.mk' q1
  clear hw6 hb6 s0 s1 a1 r0 r1 q0 q1
  go_wp2_with fail
  refine ht.mono ?_
  clear ht t0 t1
  rintro e w7 ⟨v, rfl, hrow, hb7⟩
  have c0 := C0.out w7 hb7
  have c1 := C1.out w7 hb7
  have d0 := D0.out w7 hb7
  have d1 := D1.out w7 hb7
  have hb8 : Below w.heap.size w w7 := B0.out.trans ((B6.out.trans (hb7.mono B6.out.size)).mono (by simp; omega))
  have z6 := B6.out.size
  simp at z6
  have HR := Hid.mk' hrow
  have HB8 := Hid.mk' hb8
  obtain ⟨ad, n', c', rfl⟩ : ∃ ad n' c', v = .slice ad n' c' := by
    rcases hrow.2 with ⟨rfl, _⟩ | ⟨gg, cap', cur', rfl, _⟩
    · exact ⟨_, _, _, rfl⟩
    · exact ⟨_, _, _, rfl⟩
  clear hrow hb8 hb7 C0 C1 D0 D1 A0 A1 R0 R1 Q0 Q1
  go_wp2_with fail
  refine bodyPost_ret (v := .tuple #[.agg #[.int .i64 1, .slice ad n' c'], .nilIface]) (by simp [results, Tryz.results22, go_sem, c0, c1]) rfl ⟨.slice ad n' c', rfl, ?_, ?_⟩
  · have h1 := ownsRow_setCell_below HR.out (a := ⟨w.heap.size + 1, 0, none⟩) (by show w.heap.size + 1 < _; omega) (.int .i64 1)
    have h2 := ownsRow_setCell_below h1 (a := ⟨w.heap.size + 1, 1, none⟩) (by show w.heap.size + 1 < _; omega) (.slice ad n' c')
    exact row_base h2 (by omega)
  · exact (HB8.out.setCell (by simp) _).setCell (by simp) _
end Go.Proofs.YtklhfagcembigaaGreatDoor
