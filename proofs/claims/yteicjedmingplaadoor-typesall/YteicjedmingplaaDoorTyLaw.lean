/- The law TypesAll. -/
import Derived.Test.YteicjedmingplaaDoorTyAll
import Derived.Test.YteicjedmingplaaDoorTyD
import Derived.Test.YteicjedmingplaaDoorCodedV
namespace Go.Proofs.YteicjedmingplaaDoor
open Go.RowKit

set_option maxRecDepth 100000 in
set_option maxHeartbeats 1000000 in
theorem All_bad (n k : Int) (w : World) {a : Nat → Addr} (he : Errs w a) (h : n < 0 ∨ 20 < n ∨ k < 1 ∨ 6 < k) : Calls Tryd.prog 10 #[.int .i64 n, .int .i64 k] w fun e w' => e = .returned (.tuple #[.slice none 0 0, .iface 139 (.pointer (some (a 1)))]) ∧ Below w.heap.size w w' := by
  have HC := Hid.mk' (fun W (hb : Below w.heap.size w W) => Count_bad n k W (he.below hb) h)
  clear he h
  have HB0 : Hid (Below w.heap.size w (w.alloc (.cells #[.int .i64 k] 3))) := (Below.refl _ _).alloc (Nat.le_refl _) _
  have hc0 : ∀ W, Below (w.alloc (.cells #[.int .i64 k] 3)).heap.size (w.alloc (.cells #[.int .i64 k] 3)) W → W.cell? ⟨w.heap.size, 0, none⟩ = some (.int .i64 k) := fun W hb => by
    rw [hb.cell (by simp), World.cell?_alloc_at _ _ _ _ rfl]; rfl
  clear hc0
  go_enter Tryd.func10, Tryd.ntmps10
  go_wp2_with fail
  refine (HC.out _ HB0.out).mono ?_
  rintro e w1 ⟨rfl, hb1⟩
  have HB1 := Hid.mk' (below_chain HB0.out hb1)
  clear hb1 HB0
  go_wp2_with fail
  go_ret2
  exact ⟨rfl, HB1.out⟩
set_option maxRecDepth 100000 in
set_option maxHeartbeats 1000000 in
theorem All_many (n k : Nat) (w : World) {a : Nat → Addr} (he : Errs w a) (hn : n < 21) (hk : k < 6) (hc : 4000 < cntT k n) : Calls Tryd.prog 10 #[.int .i64 n, .int .i64 ((k : Int) + 1)] w fun e w' => e = .returned (.tuple #[.slice none 0 0, .iface 139 (.pointer (some (a 1)))]) ∧ Below w.heap.size w w' := by
  have HC := Hid.mk' (fun W => Count_ok n k W hn hk)
  have hcI : 4000 < (cntT k n : Int) := by omega
  generalize cntT k n = c at *
  obtain ⟨K, hK⟩ : ∃ K : Int, K = (k : Int) + 1 := ⟨_, rfl⟩
  rw [← hK] at HC ⊢
  clear hK
  have HB0 : Hid (Below w.heap.size w (w.alloc (.cells #[.int .i64 K] 3))) := (Below.refl _ _).alloc (Nat.le_refl _) _
  have c1 := (he.below HB0.out).c1
  clear he
  go_enter Tryd.func10, Tryd.ntmps10
  go_wp2_with fail
  refine (HC.out _).mono ?_
  rintro e w1 ⟨rfl, hw1⟩
  rw [hw1]
  clear hw1
  go_wp2_with fail
  go_region
  all_goals
    go_wp2_with fail
    go_ret2
    exact ⟨rfl, HB0.out.drew⟩
theorem four_lol (w : World) (t u : TypeId) : LolAt ((((w.alloc (.cells #[.int .i64 0, .int .i64 2] t)).alloc (.cells #[.int .i64 1, .int .i64 1] t)).alloc (.cells #[.int .i64 2, .int .i64 0] t)).alloc (.cells #[.slice (some ⟨w.heap.size, 0, none⟩) 2 2, .slice (some ⟨w.heap.size + 1, 0, none⟩) 2 2, .slice (some ⟨w.heap.size + 1 + 1, 0, none⟩) 2 2] u)) (.slice (some ⟨w.heap.size + 1 + 1 + 1, 0, none⟩) 3 3) (typT 1 2) := by
  have row : ∀ (W W' : World) (x y : Int), Below (W.alloc (.cells #[.int .i64 x, .int .i64 y] t)).heap.size (W.alloc (.cells #[.int .i64 x, .int .i64 y] t)) W' → NumsAt W' (.slice (some ⟨W.heap.size, 0, none⟩) 2 2) 2 (atF [x, y]) := fun W W' x y hb => by
    refine Or.inr ⟨_, _, _, rfl, by decide, fun j hj => ?_⟩
    rw [hb.cell (by simp), World.cell?_alloc_at _ _ _ _ rfl]
    rcases (show j = 0 ∨ j = 1 by omega) with rfl | rfl <;> rfl
  have al : ∀ (W : World) (X : Obj), Below W.heap.size W (W.alloc X) := fun W X => (Below.refl _ _).alloc (Nat.le_refl _) _
  have s1 : ∀ (W : World) (X : Obj), (W.alloc X).heap.size = W.heap.size + 1 := fun W X => by simp
  refine ⟨_, _, rfl, fun i r hr => ?_⟩
  have hL : typT 1 2 = [[0, 2], [1, 1], [2, 0]] := rfl
  rw [hL] at hr
  have r0 := row w _ 0 2 (below_chain (al _ (.cells #[.int .i64 1, .int .i64 1] t)) (below_chain (al _ (.cells #[.int .i64 2, .int .i64 0] t)) (al _ (.cells #[.slice (some ⟨w.heap.size, 0, none⟩) 2 2, .slice (some ⟨w.heap.size + 1, 0, none⟩) 2 2, .slice (some ⟨w.heap.size + 1 + 1, 0, none⟩) 2 2] u))))
  have r1 := row (w.alloc (.cells #[.int .i64 0, .int .i64 2] t)) _ 1 1 (below_chain (al _ (.cells #[.int .i64 2, .int .i64 0] t)) (al _ (.cells #[.slice (some ⟨w.heap.size, 0, none⟩) 2 2, .slice (some ⟨w.heap.size + 1, 0, none⟩) 2 2, .slice (some ⟨w.heap.size + 1 + 1, 0, none⟩) 2 2] u)))
  have r2 := row ((w.alloc (.cells #[.int .i64 0, .int .i64 2] t)).alloc (.cells #[.int .i64 1, .int .i64 1] t)) _ 2 0 (al _ (.cells #[.slice (some ⟨w.heap.size, 0, none⟩) 2 2, .slice (some ⟨w.heap.size + 1, 0, none⟩) 2 2, .slice (some ⟨w.heap.size + 1 + 1, 0, none⟩) 2 2] u))
  rw [s1] at r1
  rw [s1, s1] at r2
  have c : ∀ (W : World) (x y z : Value) (j : Nat), (W.alloc (.cells #[x, y, z] u)).cell? ⟨W.heap.size, 0 + j, none⟩ = #[x, y, z][j]? := fun W x y z j => by rw [World.cell?_alloc_at _ _ _ _ rfl, Nat.zero_add]
  have e3 : w.heap.size + 1 + 1 + 1 = (((w.alloc (.cells #[.int .i64 0, .int .i64 2] t)).alloc (.cells #[.int .i64 1, .int .i64 1] t)).alloc (.cells #[.int .i64 2, .int .i64 0] t)).heap.size := by rw [s1, s1, s1]
  rcases i with _ | _ | _ | i
  · obtain rfl : [0, 2] = r := by simpa using hr
    exact ⟨_, 0, _, rfl, by rw [e3, c]; rfl, r0⟩
  · obtain rfl : [1, 1] = r := by simpa using hr
    exact ⟨_, 0, _, rfl, by rw [e3, c]; rfl, r1⟩
  · obtain rfl : [2, 0] = r := by simpa using hr
    exact ⟨_, 0, _, rfl, by rw [e3, c]; rfl, r2⟩
  · simp at hr
set_option maxRecDepth 100000 in
set_option maxHeartbeats 2000000 in
theorem pair_any (w : World) : Calls Tryd.prog 7 #[] w fun e w' => e = .returned (.bool true) ∧ Below w.heap.size w w' := by
  have hP := All_ok 2 1 w (by decide) (by decide) (by decide)
  rw [show (((2 : Nat) : Int)) = 2 from rfl, show (((1 : Nat) : Int) + 1) = 2 from rfl] at hP
  go_enter Tryd.func7, Tryd.ntmps7
  go_wp2_with fail
  refine hP.mono ?_
  clear hP
  rintro e w1 ⟨v, rfl, hl, hb⟩
  have HL := Hid.mk' hl
  have HB := Hid.mk' hb
  obtain ⟨ad, cap, rfl, -⟩ := hl
  clear hb
  go_wp2_with fail
  have HB4 : Hid (Below w1.heap.size w1 ((((w1.alloc (.cells #[.int .i64 0, .int .i64 2] 3)).alloc (.cells #[.int .i64 1, .int .i64 1] 3)).alloc (.cells #[.int .i64 2, .int .i64 0] 3)).alloc (.cells #[.slice (some ⟨w1.heap.size, 0, none⟩) 2 2, .slice (some ⟨w1.heap.size + 1, 0, none⟩) 2 2, .slice (some ⟨w1.heap.size + 1 + 1, 0, none⟩) 2 2] 35))) := ((((Below.refl _ _).alloc (Nat.le_refl _) _).alloc (by simp) _).alloc (by simp; omega) _).alloc (by simp; omega) _
  refine (SameLists_any _ _ (typT 1 2) _ (HL.out.later HB4.out) (four_lol w1 3 35) (by decide) (fun r hr => by rw [typT_width _ _ r hr]; decide)).mono ?_
  rintro e w5 ⟨rfl, hb5⟩
  have HB5 := Hid.mk' (below_chain HB.out (below_chain HB4.out hb5))
  clear hb5
  go_wp2_with fail
  go_ret
  exact ⟨rfl, HB5.out⟩
set_option maxRecDepth 100000 in
set_option maxHeartbeats 4000000 in
theorem TypesAll_all (a : Nat → Addr) (n k : Int) (w : World) (hE : Errs w a) :
    Calls Tryd.prog 3 #[.int .i64 n, .int .i64 k] w fun e w' => e = .returned (.bool true) ∧ Below w.heap.size w w' := by
  have HE := Hid.mk' (fun (W : World) (hb : Below w.heap.size w W) => hE.below hb)
  clear hE
  have HP := Hid.mk' (pair_any w)
  have HCD : Hid (∀ W, Below w.heap.size w W → Calls Tryd.prog 11 #[errV a 2, .int .i64 2] W fun e w' => e = .returned (.bool true) ∧ Below W.heap.size W w') := fun W hb => coded_errV a 2 (by decide) W (HE.out W hb)
  rw [errV_pos a (by decide)] at HCD
  by_cases hbad : n < 0 ∨ 20 < n ∨ k < 1 ∨ 6 < k
  · have HF := Hid.mk' (fun W => FewError_bad n k W hbad)
    have HC := Hid.mk' (fun W (hb : Below w.heap.size w W) => Count_bad n k W (HE.out W hb) hbad)
    have HA := Hid.mk' (fun W (hb : Below w.heap.size w W) => All_bad n k W (HE.out W hb) hbad)
    clear hbad
    go_enter Tryd.func3, Tryd.ntmps3
    go_wp2_with fail
    refine HP.out.mono ?_
    rintro e w1 ⟨rfl, hb1⟩
    have HB1 := Hid.mk' hb1
    clear hb1
    go_wp2_with fail
    refine (HF.out _).mono ?_
    rintro e w2 ⟨rfl, hw2⟩
    rw [hw2]
    clear hw2
    go_wp2_with fail
    refine (HC.out _ HB1.out).mono ?_
    rintro e w3 ⟨rfl, hb3⟩
    have HB3 := Hid.mk' (below_chain HB1.out hb3)
    clear hb3
    go_wp2_with fail
    refine (HA.out _ HB3.out).mono ?_
    rintro e w4 ⟨rfl, hb4⟩
    have HB4 := Hid.mk' (below_chain HB3.out hb4)
    clear hb4
    go_wp2_with fail
    refine (HCD.out _ HB4.out).mono ?_
    rintro e w5 ⟨rfl, hb5⟩
    have HB5 := Hid.mk' (below_chain HB4.out hb5)
    clear hb5
    go_wp2_with fail
    refine (HCD.out _ HB5.out).mono ?_
    rintro e w6 ⟨rfl, hb6⟩
    have HB6 := Hid.mk' (below_chain HB5.out hb6)
    clear hb6
    go_wp2_with fail
    go_ret
    exact ⟨rfl, HB6.out⟩
  · obtain ⟨m, j, hm, hj, hmn, hjk⟩ : ∃ m j : Nat, m < 21 ∧ j < 6 ∧ n = (m : Int) ∧ k = (j : Int) + 1 := ⟨n.toNat, (k - 1).toNat, by omega, by omega, by omega, by omega⟩
    have HF := Hid.mk' (fun W => FewError_ok n k W (by omega) (by omega) (by omega) (by omega))
    have HC := Hid.mk' (fun W => Count_ok m j W hm hj)
    have HO := Hid.mk' (fun W => CountOf_any j m W hj hm)
    have HT := Hid.mk' (fun W => TypesOf_any j m W hj hm)
    have HAM := Hid.mk' (fun W (hb : Below w.heap.size w W) (hc : 4000 < cntT j m) => All_many m j W (HE.out W hb) hm hj hc)
    have HAO := Hid.mk' (fun W (hc : cntT j m ≤ 4000) => All_ok m j W hm hj hc)
    have HSL := Hid.mk' (fun (v u : Value) (W : World) (h1 : LolAt W v (typT j m)) (h2 : LolAt W u (typT j m)) (hc : cntT j m ≤ 4000) => SameLists_any v u (typT j m) W h1 h2 (by rw [typT_length]; omega) (fun r hr => by rw [typT_width _ _ r hr]; omega))
    have HLN := Hid.mk' (typT_length j m)
    have hcb := cntT_small hj hm
    rw [← hmn, ← hjk] at HC HO HT HAM HAO
    clear hbad hmn hjk
    obtain ⟨c, hc⟩ : ∃ c, c = cntT j m := ⟨_, rfl⟩
    rw [← hc] at HC HO HAM HAO HSL HLN hcb
    have hc0 : (0 : Int) ≤ (c : Int) := by omega
    clear hc
    generalize typT j m = L at *
    go_enter Tryd.func3, Tryd.ntmps3
    go_wp2_with fail
    refine HP.out.mono ?_
    rintro e w1 ⟨rfl, hb1⟩
    have HB1 := Hid.mk' hb1
    clear hb1
    go_wp2_with fail
    refine (HF.out _).mono ?_
    rintro e w2 ⟨rfl, hw2⟩
    rw [hw2]
    clear hw2
    go_wp2_with fail
    refine (HC.out _).mono ?_
    rintro e w3 ⟨rfl, hw3⟩
    rw [hw3]
    clear hw3 w2 w3
    go_wp2_with fail
    by_cases h4 : 4000 < c
    · have h4I : (4000 : Int) < (c : Int) := by omega
      refine (HAM.out _ HB1.out h4).mono ?_
      rintro e w4 ⟨rfl, hb4⟩
      have HB4 := Hid.mk' (below_chain HB1.out hb4)
      clear hb4
      go_wp2_with fail
      refine (HO.out _).mono ?_
      rintro e w5 ⟨rfl, hb5⟩
      have HB5 := Hid.mk' (below_chain HB4.out hb5)
      clear hb5
      go_wp2_with fail
      refine (HCD.out _ HB5.out).mono ?_
      rintro e w6 ⟨rfl, hb6⟩
      have HB6 := Hid.mk' (below_chain HB5.out hb6)
      clear hb6
      go_wp2_with fail
      go_ret
      exact ⟨rfl, HB6.out⟩
    · have h4' : c ≤ 4000 := by omega
      have h4I : (c : Int) ≤ 4000 := by omega
      refine (HAO.out _ h4').mono ?_
      rintro e w4 ⟨v, rfl, hl4, hb4⟩
      have HL4 := Hid.mk' hl4
      have HB4 := Hid.mk' (below_chain HB1.out hb4)
      obtain ⟨ad, cap, rfl, -⟩ := hl4
      rw [HLN.out]
      rw [HLN.out] at HL4
      clear hb4 h4
      go_wp2_with fail
      refine (HO.out _).mono ?_
      rintro e w5 ⟨rfl, hb5⟩
      have HB5 := Hid.mk' (below_chain HB4.out hb5)
      have HL5 := Hid.mk' (HL4.out.later hb5)
      clear hb5 HL4
      by_cases h6 : 600 < c
      · have h6I : (600 : Int) < (c : Int) := by omega
        go_wp2_with fail
        go_ret
        exact ⟨rfl, HB5.out⟩
      · have h6I : (c : Int) ≤ 600 := by omega
        go_wp2_with fail
        refine (HT.out _).mono ?_
        rintro e w6 ⟨u, rfl, ⟨vs, hu⟩, hb6⟩
        have HB6 := Hid.mk' (below_chain HB5.out hb6)
        have HL6 := Hid.mk' (HL5.out.later hb6)
        have HU6 := Hid.mk' hu.lol
        obtain ⟨a6, c6, rfl⟩ := hu.form
        clear hu hb6 HL5
        go_wp2_with fail
        refine (HSL.out _ _ _ HL6.out HU6.out h4').mono ?_
        rintro e w7 ⟨rfl, hb7⟩
        have HB7 := Hid.mk' (below_chain HB6.out hb7)
        clear hb7
        go_wp2_with fail
        go_ret
        exact ⟨rfl, HB7.out⟩
end Go.Proofs.YteicjedmingplaaDoor
