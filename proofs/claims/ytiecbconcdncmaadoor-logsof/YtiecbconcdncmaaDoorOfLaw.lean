/- The law LogsOf. -/
import Derived.Test.YtiecbconcdncmaaDoorLogOf
import Derived.Test.YtiecbconcdncmaaDoorSame
namespace Go.Proofs.YtiecbconcdncmaaDoor
open Go.RowKit

theorem hasLog_any (n : Int) (r : Bool) (hr : r = decide (1 ≤ n ∧ n ≤ 1000000)) (w : World) : Calls Tryd.prog 41 #[.int .i64 n] w fun e w' => e = .returned (.bool r) ∧ w' = w := by
  by_cases h1 : 1 ≤ n
  · by_cases h2 : n ≤ 1000000
    · rw [decide_eq_true ⟨h1, h2⟩] at hr
      subst hr
      exact hasLog_yes n w h1 h2
    · have hf : r = false := by rw [hr]; exact decide_eq_false (fun h => h2 h.2)
      subst hf
      clear hr
      go_enter Tryd.func41, Tryd.ntmps41
      go_wp2
      go_ret
      exact ⟨rfl, rfl⟩
  · have hf : r = false := by rw [hr]; exact decide_eq_false (fun h => h1 h.1)
    subst hf
    clear hr
    go_enter Tryd.func41, Tryd.ntmps41
    go_wp2
    go_ret
    exact ⟨rfl, rfl⟩

set_option maxRecDepth 100000 in
set_option maxHeartbeats 1000000 in
theorem Of_shape (a b : Int) (ea : Nat → Addr) (w : World) (h : Errs w ea) (hbad : ¬ ((1 ≤ a ∧ a ≤ 1000000) ∧ 1 ≤ b ∧ b ≤ 1000000)) : Calls Tryd.prog 22 #[.agg #[.int .i64 a, .int .i64 b]] w fun e w' => e = .returned (.tuple #[.agg #[.int .i64 0, .slice none 0 0], .iface 58 (.pointer (some (ea 2)))]) ∧ Below w.heap.size w w' := by
  have hb0 : Below w.heap.size w ((w.alloc (.cells #[.int .i64 a, .int .i64 b] 48)).alloc (.cells #[.int .i64 0, .slice none 0 0] 39)) := ((Below.refl _ _).alloc (Nat.le_refl _) _).alloc (by simp) _
  have e2 := (h.below hb0).c2
  have HB0 := Hid.mk' hb0
  clear hb0 h
  by_cases h1 : 1 ≤ a ∧ a ≤ 1000000
  · have h2 : ¬ (1 ≤ b ∧ b ≤ 1000000) := fun h => hbad ⟨h1, h⟩
    have HA : Hid (∀ W, Calls Tryd.prog 41 #[.int .i64 a] W fun e w' => e = .returned (.bool true) ∧ w' = W) := fun W => hasLog_any a true (decide_eq_true h1).symm W
    have HBB : Hid (∀ W, Calls Tryd.prog 41 #[.int .i64 b] W fun e w' => e = .returned (.bool false) ∧ w' = W) := fun W => hasLog_any b false (decide_eq_false h2).symm W
    clear h1 h2 hbad
    go_enter Tryd.func22, Tryd.ntmps22
    go_wp2_with fail
    refine (HA.out _).mono ?_
    rintro e w1 ⟨rfl, hw1⟩
    rw [hw1]
    clear hw1
    go_wp2_with fail
    refine (HBB.out _).mono ?_
    rintro e w1 ⟨rfl, hw1⟩
    rw [hw1]
    clear hw1
    go_wp2_with fail
    go_region
    all_goals
      go_wp2_with fail
      refine bodyPost_ret (v := .tuple #[.agg #[.int .i64 0, .slice none 0 0], .iface 58 (.pointer (some (ea 2)))]) (by simp [results, Tryd.results22, go_sem]) rfl ⟨rfl, HB0.out.drew⟩
  · have HA : Hid (∀ W, Calls Tryd.prog 41 #[.int .i64 a] W fun e w' => e = .returned (.bool false) ∧ w' = W) := fun W => hasLog_any a false (decide_eq_false h1).symm W
    clear h1 hbad
    go_enter Tryd.func22, Tryd.ntmps22
    go_wp2_with fail
    refine (HA.out _).mono ?_
    rintro e w1 ⟨rfl, hw1⟩
    rw [hw1]
    clear hw1
    go_wp2_with fail
    go_region
    all_goals
      go_wp2_with fail
      refine bodyPost_ret (v := .tuple #[.agg #[.int .i64 0, .slice none 0 0], .iface 58 (.pointer (some (ea 2)))]) (by simp [results, Tryd.results22, go_sem]) rfl ⟨rfl, HB0.out.drew⟩

set_option maxRecDepth 100000 in
set_option maxHeartbeats 1000000 in
theorem LogsOf_any (a b : Int) (ea : Nat → Addr) (w : World) (h : Errs w ea) : Calls Tryd.prog 7 #[.agg #[.int .i64 a, .int .i64 b]] w fun e w' => e = .returned (.bool true) ∧ Below w.heap.size w w' := by
  have hb0 : Below w.heap.size w (w.alloc (.cells #[.int .i64 a, .int .i64 b] 48)) := new_below _ _
  have hE := eighth_any (w.alloc (.cells #[.int .i64 a, .int .i64 b] 48))
  have HC : Hid (∀ W, Below (w.alloc (.cells #[.int .i64 a, .int .i64 b] 48)).heap.size (w.alloc (.cells #[.int .i64 a, .int .i64 b] 48)) W → W.cell? ⟨w.heap.size, 0, none⟩ = some (.int .i64 a) ∧ W.cell? ⟨w.heap.size, 1, none⟩ = some (.int .i64 b) ∧ Errs W ea ∧ Below w.heap.size w W) := fun W hb => by
    obtain ⟨q0, q1, _, _⟩ := res_past hb
    exact ⟨q0, q1, (h.below hb0).below hb, below_chain hb0 hb⟩
  obtain ⟨W0, hW0⟩ : ∃ W0, W0 = w.alloc (.cells #[.int .i64 a, .int .i64 b] 48) := ⟨_, rfl⟩
  rw [← hW0] at hE HC
  have HW0 := Hid.mk' hW0
  clear h hb0 hW0
  by_cases hin : (1 ≤ a ∧ a ≤ 1000000) ∧ 1 ≤ b ∧ b ≤ 1000000
  · obtain ⟨⟨ha1, ha6⟩, hb1, hb6⟩ := hin
    obtain ⟨m, hm⟩ := Int.eq_ofNat_of_zero_le (show 0 ≤ a by omega)
    obtain ⟨n, hn⟩ := Int.eq_ofNat_of_zero_le (show 0 ≤ b by omega)
    subst hm
    subst hn
    go_enter Tryd.func7, Tryd.ntmps7
    go_wp2_with fail
    rw [← HW0.out]
    refine hE.mono ?_
    clear hE
    rintro e w1 ⟨rfl, hb1'⟩
    obtain ⟨c0, c1, _, _⟩ := HC.out w1 hb1'
    have hOf := Of_any m n w1 (by omega) (by omega) (by omega) (by omega)
    have HB1 := Hid.mk' hb1'
    clear hb1'
    go_wp2_with fail
    refine hOf.mono ?_
    clear hOf c0 c1
    rintro e w2 ⟨v, t, rfl, hl, hof, hb2⟩
    obtain ⟨ad, l, cap, rfl⟩ := own_form hl
    have HB2 := Hid.mk' (below_chain (below_chain HB1.out hb2) (new_below w2 (.cells #[.int .i64 1, .slice ad l cap] 39)))
    have HL2 := Hid.mk' (OwnAt.later hl (new_below w2 (.cells #[.int .i64 1, .slice ad l cap] 39)))
    obtain ⟨c0, c1, _, _⟩ := HC.out _ HB2.out
    have y0 : (w2.alloc (.cells #[.int .i64 1, .slice ad l cap] 39)).cell? ⟨w2.heap.size, 0, none⟩ = some (.int .i64 1) := by simp
    have y1 : (w2.alloc (.cells #[.int .i64 1, .slice ad l cap] 39)).cell? ⟨w2.heap.size, 1, none⟩ = some (.slice ad l cap) := by simp
    obtain ⟨W2, hW2⟩ : ∃ W2, W2 = w2.alloc (.cells #[.int .i64 1, .slice ad l cap] 39) := ⟨_, rfl⟩
    rw [← hW2] at HB2 HL2 c0 c1 y0 y1
    have hLo := LogOf_any m n W2 (by omega) (by omega) (by omega) (by omega)
    have HOF := Hid.mk' hof
    have HY := Hid.mk' (And.intro y0 y1)
    have HW2 := Hid.mk' hW2
    clear hl hof hb2 hW2 y0 y1
    go_upto_region 5 with fail
    rw [← HW2.out]
    go_wp2_with fail
    refine hLo.mono ?_
    clear hLo c0 c1
    rintro e w3 ⟨v3, t3, rfl, hl3, hof3, hb3⟩
    obtain rfl : t3 = t := isOf_uniq hof3 HOF.out
    obtain ⟨ad3, l3, cap3, rfl⟩ := own_form hl3
    have hlen : t3.length ≤ 1000000 := by
      obtain ⟨k, j, h1, h2, h4⟩ := hof3.len
      have h5 := log2_of6 h1 (by omega)
      have h6 := log2_of6 h2 (by omega)
      omega
    have y0 := (cell_past HY.out.1 (below_chain hb3 (new_below w3 (.cells #[.int .i64 1, .slice ad3 l3 cap3] 39)))).2
    have y1 := (cell_past HY.out.2 (below_chain hb3 (new_below w3 (.cells #[.int .i64 1, .slice ad3 l3 cap3] 39)))).2
    have hB3 := below_chain hb3 (new_below w3 (.cells #[.int .i64 1, .slice ad3 l3 cap3] 39))
    have his := isLog_ok 1 (.slice ad l cap) (.slice ad3 l3 cap3) t3.length (pOf t3) (cOf t3) (w3.alloc (.cells #[.int .i64 1, .slice ad3 l3 cap3] 39)) (OwnAt.later HL2.out hB3) (OwnAt.later hl3 (new_below _ _)) hlen
    have HB3 := Hid.mk' (below_chain HB2.out hB3)
    clear hl3 hof3 hb3 hB3
    go_wp2_with fail
    refine his.mono ?_
    clear his
    rintro e w4 ⟨rfl, hb4⟩
    go_wp2_with fail
    go_ret
    exact ⟨rfl, (HC.out _ (below_chain HB3.out hb4)).2.2.2⟩
  · have HIN := Hid.mk' hin
    have hbad : a < 1 ∨ 1000000 < a ∨ b < 1 ∨ 1000000 < b := by omega
    have HBAD := Hid.mk' hbad
    clear hin hbad
    go_enter Tryd.func7, Tryd.ntmps7
    go_wp2_with fail
    rw [← HW0.out]
    refine hE.mono ?_
    clear hE
    rintro e w1 ⟨rfl, hb1'⟩
    obtain ⟨c0, c1, hE1, _⟩ := HC.out w1 hb1'
    have hOf := Of_shape a b ea w1 hE1 HIN.out
    have HB1 := Hid.mk' hb1'
    clear hb1' hE1
    go_wp2_with fail
    refine hOf.mono ?_
    clear hOf c0 c1
    rintro e w2 ⟨rfl, hb2⟩
    have HB2 := Hid.mk' (below_chain (below_chain HB1.out hb2) (new_below w2 (.cells #[.int .i64 0, .slice none 0 0] 39)))
    obtain ⟨c0, c1, _, _⟩ := HC.out _ HB2.out
    have y0 : (w2.alloc (.cells #[.int .i64 0, .slice none 0 0] 39)).cell? ⟨w2.heap.size, 0, none⟩ = some (.int .i64 0) := by simp
    have y1 : (w2.alloc (.cells #[.int .i64 0, .slice none 0 0] 39)).cell? ⟨w2.heap.size, 1, none⟩ = some (.slice none 0 0) := by simp
    obtain ⟨W2, hW2⟩ : ∃ W2, W2 = w2.alloc (.cells #[.int .i64 0, .slice none 0 0] 39) := ⟨_, rfl⟩
    rw [← hW2] at HB2 c0 c1 y0 y1
    have hLo := LogOf_shape a b W2 HBAD.out
    have HY := Hid.mk' (And.intro y0 y1)
    have HW2 := Hid.mk' hW2
    clear hb2 hW2 y0 y1
    go_upto_region 5 with fail
    rw [← HW2.out]
    go_wp2_with fail
    refine hLo.mono ?_
    clear hLo c0 c1
    rintro e w3 ⟨rfl, hb3⟩
    have hB3 := below_chain hb3 (new_below w3 (.cells #[.int .i64 0, .slice none 0 0] 39))
    have y0 := (cell_past HY.out.1 hB3).2
    have y1 := (cell_past HY.out.2 hB3).2
    have HB3 := Hid.mk' (below_chain HB2.out hB3)
    have his : Calls Tryd.prog 24 #[.agg #[.int .i64 0, .slice none 0 0], .iface 58 (.pointer (some (ea 2))), .agg #[.int .i64 0, .slice none 0 0], .int .i64 3] _ _ := isLog_err ea 2 (by decide) 0 none 0 0 (w3.alloc (.cells #[.int .i64 0, .slice none 0 0] 39)) (HC.out _ HB3.out).2.2.1
    clear hb3 hB3
    go_wp2_with fail
    refine his.mono ?_
    clear his
    rintro e w4 ⟨rfl, hb4⟩
    go_wp2_with fail
    go_ret
    exact ⟨rfl, (HC.out _ (below_chain HB3.out hb4)).2.2.2⟩
end Go.Proofs.YtiecbconcdncmaaDoor
