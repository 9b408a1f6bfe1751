/- (sum).putFactors at 8 and at 1. -/
import Derived.Test.YtgaamcmjonngjaaDoorTold
namespace Go.Proofs.YtgaamcmjonngjaaDoor
open Go.RowKit Go.Maps

theorem grown_two {a b c : World} {r : Nat} (h : a.grownBy b (some r)) (k : b.grownBy c (some r)) : a.grownBy c (some r) :=
  ⟨k.os.trans h.os, k.tape.trans h.tape, k.output.trans h.output, Nat.le_trans h.size k.size, fun i hi hn => (k.block i (Nat.lt_of_lt_of_le hi h.size) hn).trans (h.block i hi hn)⟩

/-- What is left of 8 behind k halvings. -/
def left8 (k : Nat) : Int := [(8 : Int), 4, 2, 1].getD k 1

set_option maxRecDepth 100000 in
set_option maxHeartbeats 1000000 in
theorem putFactors_8 (den : Int) (b : Nat) (w : World) (hown : w.ownsMap Tryd.prog 3 (plainElem (H := Unit) Tryd.prog 3) b 0 (.map [])) :
    Calls Tryd.prog 77 #[.agg #[.int .i64 den, .map (some b)], .int .i64 8, .int .i64 1] w fun e w' => e = .returned (.tuple #[]) ∧ w'.ownsMap Tryd.prog 3 (plainElem (H := Unit) Tryd.prog 3) b 3 (coefs2 3) ∧ w.grownBy w' (some b) := by
  have hbl := hown.lt
  have HKEY : Hid (keyOf Tryd.prog 3 (.int .i64 2) = some (.int .i64 2)) := keyOf_int_mk Tryd.underlying3 (by decide)
  have HO0 : Hid ((w.alloc (.cells #[.int .i64 den, .map (some b)] 127)).ownsMap Tryd.prog 3 (plainElem (H := Unit) Tryd.prog 3) b 0 (coefs2 0)) := ownsMap_later hown (Below.heap_alloc _ _ b hbl)
  have HG0 : Hid (w.grownBy (w.alloc (.cells #[.int .i64 den, .map (some b)] 127)) (some b)) := ⟨rfl, rfl, rfl, by simp, fun k hk _ => Below.heap_alloc _ _ k hk⟩
  have HC0 : Hid ((w.alloc (.cells #[.int .i64 den, .map (some b)] 127)).cell? ⟨w.heap.size, 1, none⟩ = some (.map (some b))) := by show _ = _; simp
  clear hown
  go_enter Tryd.func77, Tryd.ntmps77
  go_wp2_with fail
  refine wp_loop_rounds 2 ?_
  rw [rounds_succ]
  go_wp2_with fail
  go_loopw [1] (fun t wr => ∃ k : Nat, k ≤ 3 ∧ t = .int .i64 (left8 k) ∧ Hid (wr.ownsMap Tryd.prog 3 (plainElem (H := Unit) Tryd.prog 3) b k (coefs2 k)) ∧ Hid (w.grownBy wr (some b)) ∧ wr.cell? ⟨w.heap.size, 1, none⟩ = some (.map (some b))) (fun t _ => (intOf t).toNat)
  case atStart => exact ⟨0, by omega, rfl, HO0, HG0, HC0.out⟩
  case round =>
    clear HO0 HG0 HC0
    obtain ⟨k, hk, rfl, HO, HG, hc⟩ := hrel
    rcases Nat.lt_or_ge k 3 with h3 | h3
    · rcases (show k = 0 ∨ k = 1 ∨ k = 2 by omega) with rfl | rfl | rfl
      all_goals simp only [left8, List.getD_cons_zero, List.getD_cons_succ]
      all_goals go_wp2_with (first
        | (at_lookup; go_must (refine wpList_lookup_own_int _ rfl _ _ 125 rfl 3 3 .i64 Tryd.lawInt Tryd.underlying125 Tryd.underlying3 (Tryd.zeroInt _) b _ _ rfl HO.out _ _ rfl HKEY.out ?_; intro c hat hwc; have hcc := (coefs2_at _).symm.trans hat; clear hat hwc; simp only [DataW.lit.injEq, Lit.int.injEq, true_and] at hcc; subst hcc))
        | (at_mapUpdate; go_must (refine wpList_mapUpdate_own _ rfl _ _ _ 125 rfl 3 3 Tryd.lawInt Tryd.underlying125 _ b _ _ rfl HO.out (by unfold maxLen; omega) _ _ _ rfl rfl HKEY.out _ [] (plainElem_int Tryd.underlying3 (by decide)) ?_; intro w1 hown1 hgrow1; have hc1 := cell_beside hgrow1 hc (by omega); have HO1 := Hid.mk' hown1; have HG1 := Hid.mk' hgrow1; clear hown1 hgrow1)))
      · exact ⟨⟨1, by omega, rfl, by rw [← coefs2_put 0]; exact HO1, grown_two HG.out HG1.out, hc1⟩, by decide⟩
      · exact ⟨⟨2, by omega, rfl, by rw [← coefs2_put 1]; exact HO1, grown_two HG.out HG1.out, hc1⟩, by decide⟩
      · exact ⟨⟨3, by omega, rfl, by rw [← coefs2_put 2]; exact HO1, grown_two HG.out HG1.out, hc1⟩, by decide⟩
    · obtain rfl : k = 3 := by omega
      simp only [left8, List.getD_cons_zero, List.getD_cons_succ]
      go_wp2_with fail
      rw [rounds_succ]
      go_wp2_with fail
      go_end0
      exact ⟨rfl, HO.out, HG.out⟩

set_option maxRecDepth 100000 in
theorem putFactors_1 (den t : Int) (b : Nat) (w : World) :
    Calls Tryd.prog 77 #[.agg #[.int .i64 den, .map (some b)], .int .i64 1, .int .i64 t] w fun e w' => e = .returned (.tuple #[]) ∧ w' = w.alloc (.cells #[.int .i64 den, .map (some b)] 127) := by
  by_cases ht : t = 0
  · subst ht
    go_enter Tryd.func77, Tryd.ntmps77
    go_wp2_with fail
    exact bodyPost_ret (v := .tuple #[]) (by simp [results, Tryd.results77]) rfl ⟨rfl, rfl⟩
  · go_enter Tryd.func77, Tryd.ntmps77
    go_wp2_with fail
    refine wp_loop_rounds 1 ?_
    rw [rounds_succ]
    go_wp2_with fail
    go_end0
    exact ⟨rfl, rfl⟩

theorem coefs3_at (x : Int) : (coefs2 3).atKey (.int .i64 x) (.lit (.int .i64 0)) = .lit (.int .i64 (if x = 2 then 3 else 0)) := by
  by_cases h : x = 2
  · subst h; rfl
  · have h' : ¬ 2 = x := fun e => h e.symm
    simp [coefs2, DataW.atKey, Lit.sameKey, h, h']

theorem keys3 (ss : List Int) (h : ss.Perm (intKeys (coefs2 3))) : ss.mergeSort (fun x y => decide (x ≤ y)) = [2] := by
  have h1 : ss.Perm [2] := h
  obtain rfl : ss = [2] := List.perm_singleton.1 h1
  exact List.mergeSort_singleton 2

theorem told_8 (b : Nat) (w : World) (h : w.ownsMap Tryd.prog 3 (plainElem (H := Unit) Tryd.prog 3) b 3 (coefs2 3)) :
    Calls Tryd.prog 78 #[.agg #[.int .i64 1, .map (some b)]] w fun e w' => ∃ v, e = .returned (.tuple #[.agg #[.int .i64 1, v], .nilIface]) ∧ w'.ownsRow w.heap.size 161 2 v 1 [.int .i64 2, .int .i64 3] ∧ Below w.heap.size w w' :=
  told_ok 1 b 3 (coefs2 3) (fun x => if x = 2 then 3 else 0) [2] w h coefs3_at keys3 (by decide) (by decide) (by decide) (by decide) (by decide) (fun x => by by_cases h : x = 2 <;> simp [h]) 1 (by decide) (by decide) (by decide)

/-- The cells of an old block, behind a new one. -/
theorem cell_past {w w' : World} {p : Addr} {v : Value} (h : w.cell? p = some v) (hb : Below w.heap.size w w') : (∀ X, (w'.alloc X).cell? p = some v) ∧ w'.cell? p = some v := by
  have h1 : w'.cell? p = some v := by rw [hb.cell (cell_lt h)]; exact h
  exact ⟨fun X => by rw [World.cell?_alloc_lt _ _ p (cell_lt h1)]; exact h1, h1⟩
theorem frozen_past {w w' : World} {p : Addr} {v : Value} (hc : w.cell? p = some v) (h : w.frozen? p = false) (hb : Below w.heap.size w w') : (∀ X, (w'.alloc X).frozen? p = false) ∧ w'.frozen? p = false := by
  have h1 : w'.frozen? p = false := by rw [hb.frozen (cell_lt hc)]; exact h
  have hl : p.block < w'.heap.size := Nat.lt_of_lt_of_le (cell_lt hc) hb.size
  exact ⟨fun X => by rw [World.frozen?_alloc_old _ _ p (Nat.ne_of_lt hl)]; exact h1, h1⟩

end Go.Proofs.YtgaamcmjonngjaaDoor
