/- The law TypesAll. -/
import Derived.Test.YteicjedmingplaaDoorPackB
import Derived.Test.YteicjedmingplaaDoorPackA
import Derived.Test.YteicjedmingplaaDoorCopy
import Derived.Test.YteicjedmingplaaDoorRows
import Derived.Test.YteicjedmingplaaDoorCode
import Derived.ChangeSame
import Derived.ChangeVars
import Derived.JoinedOf
import Derived.LaidLaws
import Derived.LaidHandle
import Derived.LaidMore
import Derived.Stop.Joined
import Derived.Test.YteicjedmingplaaDoorInts
import Derived.Test.YteicjedmingplaaDoorCards
import Derived.Test.YteicjedmingplaaDoorTie
import Derived.SevenTiedAt
import Derived.ProofKit
import Derived.OpenShut
import Derived.ChangeOld
import Derived.Lib.SmallJoins
import Derived.Deep.Matrix
namespace Go.Proofs.YteicjedmingplaaDoor
open Go.RowKit

set_option maxRecDepth 100000 in
set_option maxHeartbeats 1000000 in
theorem All_bad (n k : Int) (w : World) {a : Nat → Addr} (he : Errs w a) (h : n < 0 ∨ 20 < n ∨ k < 1 ∨ 6 < k) : Calls Tryd.prog 10 #[.int .i64 n, .int .i64 k] w fun e w' => e = .returned (.tuple #[.slice none 0 0, .iface 139 (.pointer (some (a 1)))]) ∧ Below w.heap.size w w' := by
  have HC := Hid.mk' (fun W (hb : Below w.heap.size w W) => Count_bad n k W (he.below hb) h)
  clear he h
  have HB0 : Hid (Below w.heap.size w (w.alloc (.cells #[.int .i64 k] 3))) := (Below.refl _ _).alloc (Nat.le_refl _) _
  have hc0 : ∀ W, Below (w.alloc (.cells #[.int .i64 k] 3)).heap.size (w.alloc (.cells #[.int .i64 k] 3)) W → W.cell? ⟨w.heap.size, 0, none⟩ = some (.int .i64 k) := fun W hb => by
    rw [hb.cell (by simp), World.cell?_alloc_at _ _ _ _ rfl]; rfl
  clear hc0
  go_enter Tryd.func10, Tryd.ntmps10
  go_wp2_with fail
  refine (HC.out _ HB0.out).mono ?_
  rintro e w1 ⟨rfl, hb1⟩
  have HB1 := Hid.mk' (below_chain HB0.out hb1)
  clear hb1 HB0
  go_wp2_with fail
  go_ret2
  exact ⟨rfl, HB1.out⟩
set_option maxRecDepth 100000 in
set_option maxHeartbeats 1000000 in
theorem All_many (n k : Nat) (w : World) {a : Nat → Addr} (he : Errs w a) (hn : n < 21) (hk : k < 6) (hc : 4000 < cntT k n) : Calls Tryd.prog 10 #[.int .i64 n, .int .i64 ((k : Int) + 1)] w fun e w' => e = .returned (.tuple #[.slice none 0 0, .iface 139 (.pointer (some (a 1)))]) ∧ Below w.heap.size w w' := by
  have HC := Hid.mk' (fun W => Count_ok n k W hn hk)
  have hcI : 4000 < (cntT k n : Int) := by omega
  generalize cntT k n = c at *
  obtain ⟨K, hK⟩ : ∃ K : Int, K = (k : Int) + 1 := ⟨_, rfl⟩
  rw [← hK] at HC ⊢
  clear hK
  have HB0 : Hid (Below w.heap.size w (w.alloc (.cells #[.int .i64 K] 3))) := (Below.refl _ _).alloc (Nat.le_refl _) _
  have c1 := (he.below HB0.out).c1
  clear he
  go_enter Tryd.func10, Tryd.ntmps10
  go_wp2_with fail
  refine (HC.out _).mono ?_
  rintro e w1 ⟨rfl, hw1⟩
  rw [hw1]
  clear hw1
  go_wp2_with fail
  go_region
  all_goals
    go_wp2_with fail
    go_ret2
    exact ⟨rfl, HB0.out.drew⟩
theorem four_lol (w : World) (t u : TypeId) : LolAt ((((w.alloc (.cells #[.int .i64 0, .int .i64 2] t)).alloc (.cells #[.int .i64 1, .int .i64 1] t)).alloc (.cells #[.int .i64 2, .int .i64 0] t)).alloc (.cells #[.slice (some ⟨w.heap.size, 0, none⟩) 2 2, .slice (some ⟨w.heap.size + 1, 0, none⟩) 2 2, .slice (some ⟨w.heap.size + 1 + 1, 0, none⟩) 2 2] u)) (.slice (some ⟨w.heap.size + 1 + 1 + 1, 0, none⟩) 3 3) (typT 1 2) := by
  have row : ∀ (W W' : World) (x y : Int), Below (W.alloc (.cells #[.int .i64 x, .int .i64 y] t)).heap.size (W.alloc (.cells #[.int .i64 x, .int .i64 y] t)) W' → NumsAt W' (.slice (some ⟨W.heap.size, 0, none⟩) 2 2) 2 (atF [x, y]) := fun W W' x y hb => by
    refine Or.inr ⟨_, _, _, rfl, by decide, fun j hj => ?_⟩
    rw [hb.cell (by simp), World.cell?_alloc_at _ _ _ _ rfl]
    rcases (show j = 0 ∨ j = 1 by omega) with rfl | rfl <;> rfl
  have al : ∀ (W : World) (X : Obj), Below W.heap.size W (W.alloc X) := fun W X => (Below.refl _ _).alloc (Nat.le_refl _) _
  have s1 : ∀ (W : World) (X : Obj), (W.alloc X).heap.size = W.heap.size + 1 := fun W X => by simp
  refine ⟨_, _, rfl, fun i r hr => ?_⟩
  have hL : typT 1 2 = [[0, 2], [1, 1], [2, 0]] := rfl
  rw [hL] at hr
  have r0 := row w _ 0 2 (below_chain (al _ (.cells #[.int .i64 1, .int .i64 1] t)) (below_chain (al _ (.cells #[.int .i64 2, .int .i64 0] t)) (al _ (.cells #[.slice (some ⟨w.heap.size, 0, none⟩) 2 2, .slice (some ⟨w.heap.size + 1, 0, none⟩) 2 2, .slice (some ⟨w.heap.size + 1 + 1, 0, none⟩) 2 2] u))))
  have r1 := row (w.alloc (.cells #[.int .i64 0, .int .i64 2] t)) _ 1 1 (below_chain (al _ (.cells #[.int .i64 2, .int .i64 0] t)) (al _ (.cells #[.slice (some ⟨w.heap.size, 0, none⟩) 2 2, .slice (some ⟨w.heap.size + 1, 0, none⟩) 2 2, .slice (some ⟨w.heap.size + 1 + 1, 0, none⟩) 2 2] u)))
  have r2 := row ((w.alloc (.cells #[.int .i64 0, .int .i64 2] t)).alloc (.cells #[.int .i64 1, .int .i64 1] t)) _ 2 0 (al _ (.cells #[.slice (some ⟨w.heap.size, 0, none⟩) 2 2, .slice (some ⟨w.heap.size + 1, 0, none⟩) 2 2, .slice (some ⟨w.heap.size + 1 + 1, 0, none⟩) 2 2] u))
  rw [s1] at r1
  rw [s1, s1] at r2
  have c : ∀ (W : World) (x y z : Value) (j : Nat), (W.alloc (.cells #[x, y, z] u)).cell? ⟨W.heap.size, 0 + j, none⟩ = #[x, y, z][j]? := fun W x y z j => by rw [World.cell?_alloc_at _ _ _ _ rfl, Nat.zero_add]
  have e3 : w.heap.size + 1 + 1 + 1 = (((w.alloc (.cells #[.int .i64 0, .int .i64 2] t)).alloc (.cells #[.int .i64 1, .int .i64 1] t)).alloc (.cells #[.int .i64 2, .int .i64 0] t)).heap.size := by rw [s1, s1, s1]
  rcases i with _ | _ | _ | i
  · obtain rfl : [0, 2] = r := by simpa using hr
    exact ⟨_, 0, _, rfl, by rw [e3, c]; rfl, r0⟩
  · obtain rfl : [1, 1] = r := by simpa using hr
    exact ⟨_, 0, _, rfl, by rw [e3, c]; rfl, r1⟩
  · obtain rfl : [2, 0] = r := by simpa using hr
    exact ⟨_, 0, _, rfl, by rw [e3, c]; rfl, r2⟩
  · simp at hr
set_option maxRecDepth 100000 in
set_option maxHeartbeats 2000000 in
theorem pair_any (w : World) : Calls Tryd.prog 7 #[] w fun e w' => e = .returned (.bool true) ∧ Below w.heap.size w w' := by
  have hP := All_ok 2 1 w (by decide) (by decide) (by decide)
  rw [show (((2 : Nat) : Int)) = 2 from rfl, show (((1 : Nat) : Int) + 1) = 2 from rfl] at hP
  go_enter Tryd.func7, Tryd.ntmps7
  go_wp2_with fail
  refine hP.mono ?_
  clear hP
  rintro e w1 ⟨v, rfl, hl, hb⟩
  have HL := Hid.mk' hl
  have HB := Hid.mk' hb
  obtain ⟨ad, cap, rfl, -⟩ := hl
  clear hb
  go_wp2_with fail
  have HB4 : Hid (Below w1.heap.size w1 ((((w1.alloc (.cells #[.int .i64 0, .int .i64 2] 3)).alloc (.cells #[.int .i64 1, .int .i64 1] 3)).alloc (.cells #[.int .i64 2, .int .i64 0] 3)).alloc (.cells #[.slice (some ⟨w1.heap.size, 0, none⟩) 2 2, .slice (some ⟨w1.heap.size + 1, 0, none⟩) 2 2, .slice (some ⟨w1.heap.size + 1 + 1, 0, none⟩) 2 2] 35))) := ((((Below.refl _ _).alloc (Nat.le_refl _) _).alloc (by simp) _).alloc (by simp; omega) _).alloc (by simp; omega) _
  refine (SameLists_any _ _ (typT 1 2) _ (HL.out.later HB4.out) (four_lol w1 3 35) (by decide) (fun r hr => by rw [typT_width _ _ r hr]; decide)).mono ?_
  rintro e w5 ⟨rfl, hb5⟩
  have HB5 := Hid.mk' (below_chain HB.out (below_chain HB4.out hb5))
  clear hb5
  go_wp2_with fail
  go_ret
  exact ⟨rfl, HB5.out⟩
set_option maxRecDepth 100000 in
set_option maxHeartbeats 4000000 in
theorem TypesAll_all (a : Nat → Addr) (n k : Int) (w : World) (hE : Errs w a) :
    Calls Tryd.prog 3 #[.int .i64 n, .int .i64 k] w fun e w' => e = .returned (.bool true) ∧ Below w.heap.size w w' := by
  have HE := Hid.mk' (fun (W : World) (hb : Below w.heap.size w W) => hE.below hb)
  clear hE
  have HP := Hid.mk' (pair_any w)
  have HCD : Hid (∀ W, Below w.heap.size w W → Calls Tryd.prog 11 #[errV a 2, .int .i64 2] W fun e w' => e = .returned (.bool true) ∧ Below W.heap.size W w') := fun W hb => coded_errV a 2 (by decide) W (HE.out W hb)
  rw [errV_pos a (by decide)] at HCD
  by_cases hbad : n < 0 ∨ 20 < n ∨ k < 1 ∨ 6 < k
  · have HF := Hid.mk' (fun W => FewError_bad n k W hbad)
    have HC := Hid.mk' (fun W (hb : Below w.heap.size w W) => Count_bad n k W (HE.out W hb) hbad)
    have HA := Hid.mk' (fun W (hb : Below w.heap.size w W) => All_bad n k W (HE.out W hb) hbad)
    clear hbad
    go_enter Tryd.func3, Tryd.ntmps3
    go_wp2_with fail
    refine HP.out.mono ?_
    rintro e w1 ⟨rfl, hb1⟩
    have HB1 := Hid.mk' hb1
    clear hb1
    go_wp2_with fail
    refine (HF.out _).mono ?_
    rintro e w2 ⟨rfl, hw2⟩
    rw [hw2]
    clear hw2
    go_wp2_with fail
    refine (HC.out _ HB1.out).mono ?_
    rintro e w3 ⟨rfl, hb3⟩
    have HB3 := Hid.mk' (below_chain HB1.out hb3)
    clear hb3
    go_wp2_with fail
    refine (HA.out _ HB3.out).mono ?_
    rintro e w4 ⟨rfl, hb4⟩
    have HB4 := Hid.mk' (below_chain HB3.out hb4)
    clear hb4
    go_wp2_with fail
    refine (HCD.out _ HB4.out).mono ?_
    rintro e w5 ⟨rfl, hb5⟩
    have HB5 := Hid.mk' (below_chain HB4.out hb5)
    clear hb5
    go_wp2_with fail
    refine (HCD.out _ HB5.out).mono ?_
    rintro e w6 ⟨rfl, hb6⟩
    have HB6 := Hid.mk' (below_chain HB5.out hb6)
    clear hb6
    go_wp2_with fail
    go_ret
    exact ⟨rfl, HB6.out⟩
  · obtain ⟨m, j, hm, hj, hmn, hjk⟩ : ∃ m j : Nat, m < 21 ∧ j < 6 ∧ n = (m : Int) ∧ k = (j : Int) + 1 := ⟨n.toNat, (k - 1).toNat, by omega, by omega, by omega, by omega⟩
    have HF := Hid.mk' (fun W => FewError_ok n k W (by omega) (by omega) (by omega) (by omega))
    have HC := Hid.mk' (fun W => Count_ok m j W hm hj)
    have HO := Hid.mk' (fun W => CountOf_any j m W hj hm)
    have HT := Hid.mk' (fun W => TypesOf_any j m W hj hm)
    have HAM := Hid.mk' (fun W (hb : Below w.heap.size w W) (hc : 4000 < cntT j m) => All_many m j W (HE.out W hb) hm hj hc)
    have HAO := Hid.mk' (fun W (hc : cntT j m ≤ 4000) => All_ok m j W hm hj hc)
    have HSL := Hid.mk' (fun (v u : Value) (W : World) (h1 : LolAt W v (typT j m)) (h2 : LolAt W u (typT j m)) (hc : cntT j m ≤ 4000) => SameLists_any v u (typT j m) W h1 h2 (by rw [typT_length]; omega) (fun r hr => by rw [typT_width _ _ r hr]; omega))
    have HLN := Hid.mk' (typT_length j m)
    have hcb := cntT_small hj hm
    rw [← hmn, ← hjk] at HC HO HT HAM HAO
    clear hbad hmn hjk
    obtain ⟨c, hc⟩ : ∃ c, c = cntT j m := ⟨_, rfl⟩
    rw [← hc] at HC HO HAM HAO HSL HLN hcb
    have hc0 : (0 : Int) ≤ (c : Int) := by omega
    clear hc
    generalize typT j m = L at *
    go_enter Tryd.func3, Tryd.ntmps3
    go_wp2_with fail
    refine HP.out.mono ?_
    rintro e w1 ⟨rfl, hb1⟩
    have HB1 := Hid.mk' hb1
    clear hb1
    go_wp2_with fail
    refine (HF.out _).mono ?_
    rintro e w2 ⟨rfl, hw2⟩
    rw [hw2]
    clear hw2
    go_wp2_with fail
    refine (HC.out _).mono ?_
    rintro e w3 ⟨rfl, hw3⟩
    rw [hw3]
    clear hw3 w2 w3
    go_wp2_with fail
    by_cases h4 : 4000 < c
    · have h4I : (4000 : Int) < (c : Int) := by omega
      refine (HAM.out _ HB1.out h4).mono ?_
      rintro e w4 ⟨rfl, hb4⟩
      have HB4 := Hid.mk' (below_chain HB1.out hb4)
      clear hb4
      go_wp2_with fail
      refine (HO.out _).mono ?_
      rintro e w5 ⟨rfl, hb5⟩
      have HB5 := Hid.mk' (below_chain HB4.out hb5)
      clear hb5
      go_wp2_with fail
      refine (HCD.out _ HB5.out).mono ?_
      rintro e w6 ⟨rfl, hb6⟩
      have HB6 := Hid.mk' (below_chain HB5.out hb6)
      clear hb6
      go_wp2_with fail
      go_ret
      exact ⟨rfl, HB6.out⟩
    · have h4' : c ≤ 4000 := by omega
      have h4I : (c : Int) ≤ 4000 := by omega
      refine (HAO.out _ h4').mono ?_
      rintro e w4 ⟨v, rfl, hl4, hb4⟩
      have HL4 := Hid.mk' hl4
      have HB4 := Hid.mk' (below_chain HB1.out hb4)
      obtain ⟨ad, cap, rfl, -⟩ := hl4
      rw [HLN.out]
      rw [HLN.out] at HL4
      clear hb4 h4
      go_wp2_with fail
      refine (HO.out _).mono ?_
      rintro e w5 ⟨rfl, hb5⟩
      have HB5 := Hid.mk' (below_chain HB4.out hb5)
      have HL5 := Hid.mk' (HL4.out.later hb5)
      clear hb5 HL4
      by_cases h6 : 600 < c
      · have h6I : (600 : Int) < (c : Int) := by omega
        go_wp2_with fail
        go_ret
        exact ⟨rfl, HB5.out⟩
      · have h6I : (c : Int) ≤ 600 := by omega
        go_wp2_with fail
        refine (HT.out _).mono ?_
        rintro e w6 ⟨u, rfl, ⟨vs, hu⟩, hb6⟩
        have HB6 := Hid.mk' (below_chain HB5.out hb6)
        have HL6 := Hid.mk' (HL5.out.later hb6)
        have HU6 := Hid.mk' hu.lol
        obtain ⟨a6, c6, rfl⟩ := hu.form
        clear hu hb6 HL5
        go_wp2_with fail
        refine (HSL.out _ _ _ HL6.out HU6.out h4').mono ?_
        rintro e w7 ⟨rfl, hb7⟩
        have HB7 := Hid.mk' (below_chain HB6.out hb7)
        clear hb7
        go_wp2_with fail
        go_ret
        exact ⟨rfl, HB7.out⟩
end Go.Proofs.YteicjedmingplaaDoor

/- The law TypesChance. -/
namespace Go.Proofs.YteicjedmingplaaDoor
open Go.RowKit

set_option maxRecDepth 100000 in
set_option maxHeartbeats 4000000 in
/-- The end of the law, where the document tells an error. -/
theorem TypesChance_err (a : Nat → Addr) (ad ad' : Option Addr) (n c n' c' er : Nat) (z y : Nat → Int) (w : World) (hE : Errs w a) (hz : NumsAt w (.slice ad n c) n z) (hy : NumsAt w (.slice ad' n' c') n' y) (hn : n ≤ 100) (hn' : n' ≤ 100) (her : er ≤ 8) (her0 : er ≠ 0)
    (hcase : tyE n z = er ∨ (tyE n z = 0 ∧ weightsErr y n' = er) ∨ (tyE n z = 0 ∧ weightsErr y n' = 0 ∧ n ≠ n' ∧ er = 3))
    (hch : ∀ W v u, Below w.heap.size w W → NumsAt W v n z → NumsAt W u n' y → Calls Tryd.prog 23 #[v, u] W fun e w' => e = .returned (.tuple #[.agg #[.int .i64 0, .int .i64 0], errV a er]) ∧ Below W.heap.size W w') :
    Calls Tryd.prog 5 #[.slice ad n c, .slice ad' n' c'] w fun e w' => e = .returned (.bool true) ∧ Below w.heap.size w w' := by
  have HZ := Hid.mk' (fun (W : World) (hb : Below w.heap.size w W) => hz.later hb)
  have HY := Hid.mk' (fun (W : World) (hb : Below w.heap.size w W) => hy.later hb)
  have HP := Hid.mk' (pair_any w)
  have HTE := Hid.mk' (fun (W : World) (hb : Below w.heap.size w W) => TypeError_any _ n z W (HZ.out W hb) (by omega))
  have HWE := Hid.mk' (fun (W : World) (hb : Below w.heap.size w W) => WeightsError_any _ n' y W (HY.out W hb) (by omega))
  have HIN := Hid.mk' (fun (W : World) (hb : Below w.heap.size w W) => ints_any _ n z W (HZ.out W hb) (by omega))
  have HIM := Hid.mk' (fun (W : World) (hb : Below w.heap.size w W) => ints_any _ n' y W (HY.out W hb) (by omega))
  have HCO := Hid.mk' (fun (W : World) (hb : Below w.heap.size w W) => coded_errV a er her W (hE.below hb))
  have HCH := Hid.mk' hch
  have hnI : (n : Int) ≤ 100 := by omega
  have hnI' : (n' : Int) ≤ 100 := by omega
  have herb : ((er : Int) == 0) = false := by simp; omega
  clear hE hz hy hch
  rw [errV_pos a her0] at HCH HCO
  generalize er - 1 = j at HCH HCO
  rcases hcase with h1 | ⟨h1, h2⟩ | ⟨h1, h2, h3, rfl⟩
  · rw [h1] at HTE
    clear h1
    go_enter Tryd.func5, Tryd.ntmps5
    go_wp2_with fail
    refine HP.out.mono ?_
    rintro e w1 ⟨rfl, hb1⟩
    have HB1 := Hid.mk' hb1
    clear hb1
    go_wp2_with fail
    refine (HTE.out _ HB1.out).mono ?_
    rintro e w2 ⟨rfl, hw2⟩
    rw [hw2]
    clear hw2 w2
    have HB2 := Hid.mk' (below_chain HB1.out (new_below w1 (.cells #[.int .i64 0, .int .i64 0] 40)))
    have HF2 := Hid.mk' (FrAt.fresh w1 0 0)
    go_wp2_with fail
    generalize w1.alloc (.cells #[.int .i64 0, .int .i64 0] 40) = W2 at *
    generalize w1.heap.size = B2 at *
    refine (HIN.out _ HB2.out).mono ?_
    rintro e w3 ⟨v3, rfl, hv3, hb3⟩
    have HB3 := Hid.mk' (below_chain HB2.out hb3)
    have HF3 := Hid.mk' (HF2.out.later hb3)
    have HV3 := Hid.mk' hv3
    obtain ⟨x3, c3, rfl⟩ := hv3.form
    clear hb3 hv3
    go_wp2_with fail
    refine (HIM.out _ HB3.out).mono ?_
    rintro e w4 ⟨v4, rfl, hv4, hb4⟩
    have HB4 := Hid.mk' (below_chain HB3.out hb4)
    have HF4 := Hid.mk' (HF3.out.later hb4)
    have HV4 := Hid.mk' hv4
    have HV3b := Hid.mk' (HV3.out.later hb4)
    obtain ⟨x4, c4, rfl⟩ := hv4.form
    clear hb4 hv4
    go_wp2_with fail
    refine (HCH.out _ _ _ HB4.out HV3b.out HV4.out).mono ?_
    rintro e w6 ⟨rfl, hb6⟩
    have HB6 := Hid.mk' (below_chain (below_chain HB4.out hb6) (new_below w6 (.cells #[.int .i64 0, .int .i64 0] 40)))
    have HF6 := Hid.mk' ((HF4.out.later hb6).later (new_below w6 (.cells #[.int .i64 0, .int .i64 0] 40)))
    have HG6 := Hid.mk' (FrAt.fresh w6 0 0)
    clear hb6
    go_wp2_with fail
    generalize w6.alloc (.cells #[.int .i64 0, .int .i64 0] 40) = W6 at *
    generalize w6.heap.size = B6 at *
    refine (HCO.out W6 HB6.out).mono ?_
    rintro e w7 ⟨rfl, hb7⟩
    have HB7 := Hid.mk' (below_chain HB6.out hb7)
    obtain ⟨x0, x1, _, _⟩ := HF6.out.later hb7
    obtain ⟨z0, z1, _, _⟩ := HG6.out.later hb7
    clear hb7
    go_wp2_with fail
    go_ret
    exact ⟨rfl, HB7.out⟩
  · rw [h1] at HTE
    rw [h2] at HWE
    clear h1 h2
    go_enter Tryd.func5, Tryd.ntmps5
    go_wp2_with fail
    refine HP.out.mono ?_
    rintro e w1 ⟨rfl, hb1⟩
    have HB1 := Hid.mk' hb1
    clear hb1
    go_wp2_with fail
    refine (HTE.out _ HB1.out).mono ?_
    rintro e w2 ⟨rfl, hw2⟩
    rw [hw2]
    clear hw2 w2
    go_wp2_with fail
    refine (HWE.out _ HB1.out).mono ?_
    rintro e w2 ⟨rfl, hw2⟩
    rw [hw2]
    clear hw2 w2
    have HB2 := Hid.mk' (below_chain HB1.out (new_below w1 (.cells #[.int .i64 0, .int .i64 0] 40)))
    have HF2 := Hid.mk' (FrAt.fresh w1 0 0)
    go_wp2_with fail
    generalize w1.alloc (.cells #[.int .i64 0, .int .i64 0] 40) = W2 at *
    generalize w1.heap.size = B2 at *
    refine (HIN.out _ HB2.out).mono ?_
    rintro e w3 ⟨v3, rfl, hv3, hb3⟩
    have HB3 := Hid.mk' (below_chain HB2.out hb3)
    have HF3 := Hid.mk' (HF2.out.later hb3)
    have HV3 := Hid.mk' hv3
    obtain ⟨x3, c3, rfl⟩ := hv3.form
    clear hb3 hv3
    go_wp2_with fail
    refine (HIM.out _ HB3.out).mono ?_
    rintro e w4 ⟨v4, rfl, hv4, hb4⟩
    have HB4 := Hid.mk' (below_chain HB3.out hb4)
    have HF4 := Hid.mk' (HF3.out.later hb4)
    have HV4 := Hid.mk' hv4
    have HV3b := Hid.mk' (HV3.out.later hb4)
    obtain ⟨x4, c4, rfl⟩ := hv4.form
    clear hb4 hv4
    go_wp2_with fail
    refine (HCH.out _ _ _ HB4.out HV3b.out HV4.out).mono ?_
    rintro e w6 ⟨rfl, hb6⟩
    have HB6 := Hid.mk' (below_chain (below_chain HB4.out hb6) (new_below w6 (.cells #[.int .i64 0, .int .i64 0] 40)))
    have HF6 := Hid.mk' ((HF4.out.later hb6).later (new_below w6 (.cells #[.int .i64 0, .int .i64 0] 40)))
    have HG6 := Hid.mk' (FrAt.fresh w6 0 0)
    clear hb6
    go_wp2_with fail
    generalize w6.alloc (.cells #[.int .i64 0, .int .i64 0] 40) = W6 at *
    generalize w6.heap.size = B6 at *
    refine (HCO.out W6 HB6.out).mono ?_
    rintro e w7 ⟨rfl, hb7⟩
    have HB7 := Hid.mk' (below_chain HB6.out hb7)
    obtain ⟨x0, x1, _, _⟩ := HF6.out.later hb7
    obtain ⟨z0, z1, _, _⟩ := HG6.out.later hb7
    clear hb7
    go_wp2_with fail
    go_ret
    exact ⟨rfl, HB7.out⟩
  · rw [h1] at HTE
    rw [h2] at HWE
    clear h1 h2
    have hnb : ((n : Int) != (n' : Int)) = true := by simp; omega
    go_enter Tryd.func5, Tryd.ntmps5
    go_wp2_with fail
    refine HP.out.mono ?_
    rintro e w1 ⟨rfl, hb1⟩
    have HB1 := Hid.mk' hb1
    clear hb1
    go_wp2_with fail
    refine (HTE.out _ HB1.out).mono ?_
    rintro e w2 ⟨rfl, hw2⟩
    rw [hw2]
    clear hw2 w2
    go_wp2_with fail
    refine (HWE.out _ HB1.out).mono ?_
    rintro e w2 ⟨rfl, hw2⟩
    rw [hw2]
    clear hw2 w2
    have HB2 := Hid.mk' (below_chain HB1.out (new_below w1 (.cells #[.int .i64 0, .int .i64 0] 40)))
    have HF2 := Hid.mk' (FrAt.fresh w1 0 0)
    go_wp2_with fail
    generalize w1.alloc (.cells #[.int .i64 0, .int .i64 0] 40) = W2 at *
    generalize w1.heap.size = B2 at *
    refine (HIN.out _ HB2.out).mono ?_
    rintro e w3 ⟨v3, rfl, hv3, hb3⟩
    have HB3 := Hid.mk' (below_chain HB2.out hb3)
    have HF3 := Hid.mk' (HF2.out.later hb3)
    have HV3 := Hid.mk' hv3
    obtain ⟨x3, c3, rfl⟩ := hv3.form
    clear hb3 hv3
    go_wp2_with fail
    refine (HIM.out _ HB3.out).mono ?_
    rintro e w4 ⟨v4, rfl, hv4, hb4⟩
    have HB4 := Hid.mk' (below_chain HB3.out hb4)
    have HF4 := Hid.mk' (HF3.out.later hb4)
    have HV4 := Hid.mk' hv4
    have HV3b := Hid.mk' (HV3.out.later hb4)
    obtain ⟨x4, c4, rfl⟩ := hv4.form
    clear hb4 hv4
    go_wp2_with fail
    refine (HCH.out _ _ _ HB4.out HV3b.out HV4.out).mono ?_
    rintro e w6 ⟨rfl, hb6⟩
    have HB6 := Hid.mk' (below_chain (below_chain HB4.out hb6) (new_below w6 (.cells #[.int .i64 0, .int .i64 0] 40)))
    have HF6 := Hid.mk' ((HF4.out.later hb6).later (new_below w6 (.cells #[.int .i64 0, .int .i64 0] 40)))
    have HG6 := Hid.mk' (FrAt.fresh w6 0 0)
    clear hb6
    go_wp2_with fail
    generalize w6.alloc (.cells #[.int .i64 0, .int .i64 0] 40) = W6 at *
    generalize w6.heap.size = B6 at *
    refine (HCO.out W6 HB6.out).mono ?_
    rintro e w7 ⟨rfl, hb7⟩
    have HB7 := Hid.mk' (below_chain HB6.out hb7)
    obtain ⟨x0, x1, _, _⟩ := HF6.out.later hb7
    obtain ⟨z0, z1, _, _⟩ := HG6.out.later hb7
    clear hb7
    go_wp2_with fail
    go_ret
    exact ⟨rfl, HB7.out⟩

set_option maxRecDepth 100000 in
set_option maxHeartbeats 4000000 in
theorem TypesChance_ok (a : Nat → Addr) (b o c b' o' c' n S : Nat) (z y : Nat → Int) (t q : Nat → Nat) (w : World) (hE : Errs w a) (hz : RowAt w b o n z) (hy : RowAt w b' o' n y) (he : tyE n z = 0) (ht : ∀ i, i < n → z i = (t i : Int)) (hw : weightsErr y n = 0) (hq : ∀ i, i < n → y i = (q i : Int)) (hS : sumU q n = S) :
    Calls Tryd.prog 5 #[.slice (some ⟨b, o, none⟩) n c, .slice (some ⟨b', o', none⟩) n c'] w fun e w' => e = .returned (.bool true) ∧ Below w.heap.size w w' := by
  obtain ⟨h0, h6, hz0, hs⟩ := tyE_ok he
  have hw2 := weightsErr_ok hw
  have hWS : sumN y n = (S : Int) := by rw [sumU_sumN hq, hS]
  have hS0 : 0 < S := by have := hw2.2.pos; rw [hWS] at this; omega
  have hS4 : S ≤ 4096 := by have := hw2.2.le; rw [hWS] at this; omega
  rw [sumU_sumN ht] at hs
  have hq4 : ∀ i, i < n → q i ≤ 4096 := fun i hi => by
    have h1 : sumU q i + q i ≤ sumU q n := sumU_le q (show i + 1 ≤ n from hi)
    omega
  have HRT : Hid (∀ W, Below w.heap.size w W → RowAt W b o n (fun i => (t i : Int))) := fun W hb i hi => by have := hz.later hb i hi; rw [ht i hi] at this; exact this
  have HRQ : Hid (∀ W, Below w.heap.size w W → RowAt W b' o' n (fun i => (q i : Int))) := fun W hb i hi => by have := hy.later hb i hi; rw [hq i hi] at this; exact this
  have HP := Hid.mk' (pair_any w)
  have HTE : Hid (∀ W, Below w.heap.size w W → Calls Tryd.prog 15 #[.slice (some ⟨b, o, none⟩) n c] W fun e w' => e = .returned (.int .i64 0) ∧ w' = W) := fun W hb => by
    have := TypeError_any (.slice (some ⟨b, o, none⟩) n c) n z W (Or.inr ⟨b, o, c, rfl, h0, hz.later hb⟩) (by omega)
    rw [he] at this; exact this
  have HWE : Hid (∀ W, Below w.heap.size w W → Calls Tryd.prog 20 #[.slice (some ⟨b', o', none⟩) n c'] W fun e w' => e = .returned (.int .i64 0) ∧ w' = W) := fun W hb => by
    have := WeightsError_any (.slice (some ⟨b', o', none⟩) n c') n y W (Or.inr ⟨b', o', c', rfl, h0, hy.later hb⟩) (by omega)
    rw [hw] at this; exact this
  have HIN := Hid.mk' (fun (W : World) (hb : Below w.heap.size w W) => ints_any (.slice (some ⟨b, o, none⟩) n c) n z W (Or.inr ⟨b, o, c, rfl, h0, hz.later hb⟩) (by omega))
  have HIM := Hid.mk' (fun (W : World) (hb : Below w.heap.size w W) => ints_any (.slice (some ⟨b', o', none⟩) n c') n y W (Or.inr ⟨b', o', c', rfl, h0, hy.later hb⟩) (by omega))
  have HTC := Hid.mk' (fun (W : World) (hb : Below w.heap.size w W) => TypeChance_any b o c b' o' c' n S q t W (HRT.out W hb) (HRQ.out W hb) h6 (by omega) hq4 hS hS0 hS4)
  have hNs : rowU t n * powU q t n < 1000000 ^ 20 := by
    have := chN_small (q := q) (t := t) (i := n) (k := 0) (x := 1) hq4 (by omega) (by omega) (rowU_le t (k := n) (by omega))
    simpa using this
  have hDs : S ^ sumU t n < 1000000 ^ 20 := pow_small hS4 (by omega)
  have hD0 : 0 < S ^ sumU t n := Nat.pow_pos hS0
  rw [(low_nat _ _).1, (low_nat _ _).2] at HTC
  obtain ⟨p, r, er, ec, HOT, HCH, HCO⟩ : ∃ (p r : Int) (er : Value) (ec : Int), Hid (∀ W v, RatioAt W v ((rowU t n * powU q t n / Nat.gcd (rowU t n * powU q t n) (S ^ sumU t n) : Nat) : Int) (S ^ sumU t n / Nat.gcd (rowU t n * powU q t n) (S ^ sumU t n)) → Calls Tryd.prog 21 #[v] W fun e w' => e = .returned (.tuple #[.agg #[.int .i64 p, .int .i64 r], .int .i64 ec]) ∧ Below W.heap.size W w') ∧ Hid (∀ W v u, Below w.heap.size w W → NumsAt W v n z → NumsAt W u n y → Calls Tryd.prog 23 #[v, u] W fun e w' => e = .returned (.tuple #[.agg #[.int .i64 p, .int .i64 r], er]) ∧ Below W.heap.size W w') ∧ Hid (∀ W, Below w.heap.size w W → Calls Tryd.prog 11 #[er, .int .i64 ec] W fun e w' => e = .returned (.bool true) ∧ Below W.heap.size W w') := by
    have hchance : ∀ (p r : Int) (er : Value), toldV a (powU q t n * rowU t n) (S ^ sumU t n) = .tuple #[.agg #[.int .i64 p, .int .i64 r], er] → ∀ W v u, Below w.heap.size w W → NumsAt W v n z → NumsAt W u n y → Calls Tryd.prog 23 #[v, u] W fun e w' => e = .returned (.tuple #[.agg #[.int .i64 p, .int .i64 r], er]) ∧ Below W.heap.size W w' := fun p r er hv W v u hb h1 h2 => by
      rcases h1 with ⟨_, _, _, hx⟩ | ⟨b1, o1, k1, rfl, _, r1⟩
      · omega
      rcases h2 with ⟨_, _, _, hx⟩ | ⟨b2, o2, k2, rfl, _, r2⟩
      · omega
      exact TyChance_ok a b1 o1 k1 b2 o2 k2 n S z y t q p r er W (hE.below hb) r1 r2 he ht hw hq hS hv
    rw [Nat.mul_comm (powU q t n)] at hchance
    generalize rowU t n * powU q t n = N at *
    generalize S ^ sumU t n = D at *
    have q1 : N / Nat.gcd N D ≤ N := Nat.div_le_self _ _
    have q2 : D / Nat.gcd N D ≤ D := Nat.div_le_self _ _
    by_cases hf : N / Nat.gcd N D ≤ 4611686018427387904 ∧ D / Nat.gcd N D ≤ 4611686018427387904
    · refine ⟨_, _, .nilIface, 0, fun W v hv => ?_, hchance _ _ _ (by unfold toldV; rw [if_pos hf]), fun W hb => by have := coded_errV a 0 (by decide) W (hE.below hb); rw [errV_zero] at this; exact this⟩
      obtain ⟨s0, ad, l, cap, ad', l', cap', rfl⟩ := hv.sl
      exact OneTold_by ad ad' l cap l' cap' s0 _ _ true W (fun W' hb => RTold_ok _ _ _ W' (hv.later hb) hf.1 hf.2) (fun h => by cases h)
    · refine ⟨0, 0, errV a 2, 2, fun W v hv => ?_, hchance _ _ _ (by unfold toldV; rw [if_neg hf]), fun W hb => coded_errV a 2 (by decide) W (hE.below hb)⟩
      obtain ⟨s0, ad, l, cap, ad', l', cap', rfl⟩ := hv.sl
      exact OneTold_by ad ad' l cap l' cap' s0 0 0 false W (fun W' hb => RTold_not _ _ _ W' (hv.later hb) (by omega) (by omega) (by omega)) (fun _ => ⟨rfl, rfl⟩)
  generalize ((rowU t n * powU q t n / Nat.gcd (rowU t n * powU q t n) (S ^ sumU t n) : Nat) : Int) = NN at *
  generalize S ^ sumU t n / Nat.gcd (rowU t n * powU q t n) (S ^ sumU t n) = DD at *
  have hnI : (n : Int) ≤ 100 := by omega
  clear hE hz hy he ht hw hq hS hNs hDs hD0 hw2 hWS hq4 hs hz0
  go_enter Tryd.func5, Tryd.ntmps5
  go_wp2_with fail
  refine HP.out.mono ?_
  rintro e w1 ⟨rfl, hb1⟩
  have HB1 := Hid.mk' hb1
  clear hb1
  go_wp2_with fail
  refine (HTE.out _ HB1.out).mono ?_
  rintro e w2 ⟨rfl, hw2⟩
  rw [hw2]
  clear hw2 w2
  go_wp2_with fail
  refine (HWE.out _ HB1.out).mono ?_
  rintro e w2 ⟨rfl, hw2⟩
  rw [hw2]
  clear hw2 w2
  have HB2 := Hid.mk' (below_chain HB1.out (new_below w1 (.cells #[.int .i64 0, .int .i64 0] 40)))
  have HF2 := Hid.mk' (FrAt.fresh w1 0 0)
  have HLT := Hid.mk' HB1.out.size
  go_wp2_with fail
  generalize w1.alloc (.cells #[.int .i64 0, .int .i64 0] 40) = W2 at *
  generalize w1.heap.size = B2 at *
  refine (HTC.out _ HB2.out).mono ?_
  rintro e w3 ⟨v3, rfl, hv3, hb3⟩
  have HB3 := Hid.mk' (below_chain HB2.out hb3)
  have HF3 := Hid.mk' (HF2.out.later hb3)
  have HV3 := Hid.mk' hv3
  clear hb3 hv3
  go_wp2_with fail
  refine (HOT.out _ _ HV3.out).mono ?_
  rintro e w4 ⟨rfl, hb4⟩
  have HB4 := Hid.mk' (below_chain HB3.out hb4)
  have HF4 := Hid.mk' (HF3.out.later hb4)
  obtain ⟨g0, g1, f0, f1⟩ := HF4.out
  clear hb4
  have HB5 : Hid (Below w.heap.size w ((w4.setCell ⟨B2, 0, none⟩ (.int .i64 p)).setCell ⟨B2, 1, none⟩ (.int .i64 r))) := (HB4.out.setCell HLT.out _).setCell HLT.out _
  have HF5 := Hid.mk' (HF4.out.put p r)
  go_wp2_with fail
  generalize (w4.setCell ⟨B2, 0, none⟩ (.int .i64 p)).setCell ⟨B2, 1, none⟩ (.int .i64 r) = W5 at *
  clear g0 g1 f0 f1 HF4 HB4 HF2 HF3
  refine (HIN.out _ HB5.out).mono ?_
  rintro e w5 ⟨v5, rfl, hv5, hb5⟩
  have HB6 := Hid.mk' (below_chain HB5.out hb5)
  have HF6 := Hid.mk' (HF5.out.later hb5)
  have HV5 := Hid.mk' hv5
  obtain ⟨x5, c5, rfl⟩ := hv5.form
  clear hb5 hv5
  go_wp2_with fail
  refine (HIM.out _ HB6.out).mono ?_
  rintro e w6 ⟨v6, rfl, hv6, hb6⟩
  have HB7 := Hid.mk' (below_chain HB6.out hb6)
  have HF7 := Hid.mk' (HF6.out.later hb6)
  have HV6 := Hid.mk' hv6
  have HV5b := Hid.mk' (HV5.out.later hb6)
  obtain ⟨x6, c6, rfl⟩ := hv6.form
  clear hb6 hv6
  go_wp2_with fail
  refine (HCH.out _ _ _ HB7.out HV5b.out HV6.out).mono ?_
  rintro e w7 ⟨rfl, hb7⟩
  have HB8 := Hid.mk' (below_chain (below_chain HB7.out hb7) (new_below w7 (.cells #[.int .i64 p, .int .i64 r] 40)))
  have HF8 := Hid.mk' ((HF7.out.later hb7).later (new_below w7 (.cells #[.int .i64 p, .int .i64 r] 40)))
  have HG8 := Hid.mk' (FrAt.fresh w7 p r)
  clear hb7
  go_wp2_with fail
  generalize w7.alloc (.cells #[.int .i64 p, .int .i64 r] 40) = W8 at *
  generalize w7.heap.size = B8 at *
  refine (HCO.out W8 HB8.out).mono ?_
  rintro e w9 ⟨rfl, hb9⟩
  have HB9 := Hid.mk' (below_chain HB8.out hb9)
  obtain ⟨x0, x1, _, _⟩ := HF8.out.later hb9
  obtain ⟨z0, z1, _, _⟩ := HG8.out.later hb9
  clear hb9
  go_wp2_with fail
  go_ret
  exact ⟨rfl, HB9.out⟩

set_option maxRecDepth 100000 in
set_option maxHeartbeats 4000000 in
theorem TypesChance_all (a : Nat → Addr) (ad : Option Addr) (n c : Nat) (z : Nat → Int) (ad' : Option Addr) (n' c' : Nat) (y : Nat → Int) (w : World) (hE : Errs w a) (hz : NumsAt w (.slice ad n c) n z) (hm : n ≤ maxLen) (hy : NumsAt w (.slice ad' n' c') n' y) (hm' : n' ≤ maxLen) :
    Calls Tryd.prog 5 #[.slice ad n c, .slice ad' n' c'] w fun e w' => e = .returned (.bool true) ∧ Below w.heap.size w w' := by
  unfold maxLen at hm hm'
  by_cases h100 : n ≤ 100 ∧ n' ≤ 100
  · obtain ⟨h1, h2⟩ := h100
    by_cases he : tyE n z = 0
    · obtain ⟨h0, h6, hz0, hs⟩ := tyE_ok he
      obtain ⟨t, ht⟩ : ∃ t : Nat → Nat, ∀ i, i < n → z i = (t i : Int) := ⟨fun i => (z i).toNat, fun i hi => by have := hz0 i hi; show z i = ((z i).toNat : Int); omega⟩
      by_cases hw : weightsErr y n' = 0
      · have hw2 := weightsErr_ok hw
        obtain ⟨q, hq⟩ : ∃ q : Nat → Nat, ∀ i, i < n' → y i = (q i : Int) := ⟨fun i => (y i).toNat, fun i hi => by have := hw2.2.nn i hi; show y i = ((y i).toNat : Int); omega⟩
        by_cases hl : n = n'
        · subst hl
          rcases hz with ⟨_, _, _, hx⟩ | ⟨b, o, k1, hx1, _, hr1⟩
          · omega
          rcases hy with ⟨_, _, _, hx⟩ | ⟨b', o', k2, hx2, _, hr2⟩
          · omega
          obtain ⟨rfl, _⟩ : ad = _ ∧ _ := by simpa using hx1
          obtain ⟨rfl, _⟩ : ad' = _ ∧ _ := by simpa using hx2
          exact TypesChance_ok a b o c b' o' c' n _ z y t q w hE hr1 hr2 he ht hw hq rfl
        · exact TypesChance_err a ad ad' n c n' c' 3 z y w hE hz hy h1 h2 (by decide) (by decide) (Or.inr (Or.inr ⟨he, hw, hl, rfl⟩)) (fun W v u hb hv hu => TyChance_len a v u n n' z y t W (hE.below hb) hv hu (by omega) he ht hw hl)
      · exact TypesChance_err a ad ad' n c n' c' _ z y w hE hz hy h1 h2 (by have := weightsErr_le y n'; omega) hw (Or.inr (Or.inl ⟨he, rfl⟩)) (fun W v u hb hv hu => TyChance_badw a v u n n' z y t W (hE.below hb) hv hu (by omega) he ht hw)
    · exact TypesChance_err a ad ad' n c n' c' _ z y w hE hz hy h1 h2 (by have := tyE_le n z; omega) he (Or.inl rfl) (fun W v u hb hv hu => TyChance_bad a v u n n' z y W (hE.below hb) hv hu (by omega) he)
  · have HP := Hid.mk' (pair_any w)
    clear hE hz hy
    by_cases h1 : 100 < n
    · have hI : (100 : Int) < (n : Int) := by omega
      go_enter Tryd.func5, Tryd.ntmps5
      go_wp2_with fail
      refine HP.out.mono ?_
      rintro e w1 ⟨rfl, hb1⟩
      have HB1 := Hid.mk' hb1
      clear hb1
      go_wp2_with fail
      go_ret
      exact ⟨rfl, HB1.out⟩
    · have hI : (n : Int) ≤ 100 := by omega
      have hI' : (100 : Int) < (n' : Int) := by omega
      clear h100
      go_enter Tryd.func5, Tryd.ntmps5
      go_wp2_with fail
      refine HP.out.mono ?_
      rintro e w1 ⟨rfl, hb1⟩
      have HB1 := Hid.mk' hb1
      clear hb1
      go_wp2_with fail
      go_ret
      exact ⟨rfl, HB1.out⟩
end Go.Proofs.YteicjedmingplaaDoor

/- What the rows' condition on package variables gives a walk: eight different sentinels with their texts, and the handle of the type error. -/
namespace Go.Proofs.YteicjedmingplaaDoor
open Go.ChangeShapes Go.WideShapes Go.RowKit

theorem Tryd.own : ownKnob Tryd.prog.godebug = none := by kernel_rfl
theorem Tryd.et : Tryd.prog.globalNamed "errors.errorType" = some 8 := by kernel_rfl
theorem Tryd.rt : (Tryd.prog.cutTypes.find? (·.1 == "internal/reflectlite.rtype")).map (·.2) = some 120 := by kernel_rfl
theorem Tryd.oneRow : ((List.range 172).filter fun t => Tryd.prog.rowNamed t [101, 114, 114, 111, 114]) = [25] := by kernel_rfl
theorem Tryd.size : Tryd.prog.types.size = 172 := by kernel_rfl
theorem Tryd.star : ("*" ++ "errors.errorString" : String) = "*errors.errorString" := by decide
theorem Tryd.rowE (u : TypeId) (h : Tryd.prog.typeName? 3 u = some "*errors.errorString") : u = 139 :=
  typeName_ptr_named (nm := "errors.errorString") (by rw [Tryd.star]; kernel_rfl) (by kernel_rfl) (by decide) u (by rw [Tryd.star]; exact h)
theorem Tryd.cellsE : Tryd.prog.cellsOf 160 = 1 := by kernel_rfl
theorem Tryd.cellsS : Tryd.prog.cellsOf 9 = 1 := by kernel_rfl
theorem Tryd.g0 : Tryd.prog.globalNamed "demon/api.ErrText" = some 2 := by kernel_rfl
theorem Tryd.g1 : Tryd.prog.globalNamed "demon/api.ErrBound" = some 0 := by kernel_rfl
theorem Tryd.g2 : Tryd.prog.globalNamed "demon/api.ErrShape" = some 1 := by kernel_rfl
theorem Tryd.g3 : Tryd.prog.globalNamed "demon/api.ErrZero" = some 3 := by kernel_rfl
theorem Tryd.g4 : Tryd.prog.globalNamed "demon/api.ErrName" = some 4 := by kernel_rfl
theorem Tryd.g5 : Tryd.prog.globalNamed "demon/api.ErrNone" = some 5 := by kernel_rfl
theorem Tryd.g6 : Tryd.prog.globalNamed "demon/api.ErrOrder" = some 6 := by kernel_rfl
theorem Tryd.g7 : Tryd.prog.globalNamed "demon/api.ErrKind" = some 7 := by kernel_rfl

/-- Any number of listed sentinels of one type: each one's pointer, text and row; no two are one. -/
theorem laid_list {P : Program} {W : World} {nm : String} {ti tp te ts : TypeId} {ms : Array (String × TypeId)} {f : Field}
    (hi : P.underlying ti = some (.interface ms)) (hrow : ∀ u, P.typeName? 3 u = some nm → u = tp)
    (hp : P.underlying tp = some (.pointer te)) (he : P.underlying te = some (.struct #[f])) (hft : f.type = ts) (hfo : f.offset = 0) (hs : P.underlying ts = some .string) (hc : P.cellsOf te = 1) (hcs : P.cellsOf ts = 1) :
    ∀ (L : List (String × List UInt8)) (ps : List MemPlace), (∀ x, x ∈ L → ∃ g, P.globalNamed x.1 = some g ∧ (P.globals[g]?).map (·.type) = some ti) →
      DataW.LaidVars P W (L.map fun x => (x.1, .iface nm (.ptr (.agg [.lit (.string x.2)])))) ps → ps.Nodup →
      (∀ b off, MemPlace.cell b off ∈ ps → (∃ c t, W.heap[b]? = some (.cells c t (0, 0))) ∧ ∀ u v, W.cell? ⟨b, off, none⟩ = some (.iface u v) → Value.okWide P W .any 0 u v) →
      ∃ a : Nat → Addr, (∀ i x, L[i]? = some x → W.var? P x.1 = some #[.iface tp (.pointer (some (a i)))] ∧ (∃ s, W.cell? (a i) = some (.string s) ∧ s.data.toList = x.2) ∧
          (∃ c t, W.heap[(a i).block]? = some (.cells c t (0, 0))) ∧ MemPlace.cell (a i).block (a i).off ∈ ps) ∧
        ∀ i j, i < L.length → j < L.length → i ≠ j → a i ≠ a j := by
  intro L
  induction L with
  | nil => intro ps _ _ _ _; exact ⟨fun _ => default, fun i x h => by simp at h, fun i j h => by simp at h⟩
  | cons x r ih =>
    intro ps hgs hv hnd hrows
    obtain ⟨n, text⟩ := x
    obtain ⟨g0, t0, cs0, f0, p0, q0, hg0, ht0, hv0, hd0, hvr, e0⟩ := hv
    obtain ⟨g, hg, ht⟩ := hgs (n, text) (List.mem_cons_self ..)
    obtain rfl := Option.some.inj (hg.symm.trans hg0)
    obtain rfl := Option.some.inj (ht.symm.trans ht0)
    subst e0
    obtain ⟨l0⟩ := cs0
    have ok0 : ∀ u v, l0 = [.iface u v] → Value.okWide P W .any 0 u v := fun u v e => by
      subst e
      exact (hrows g 0 (by simp [MemPlace.row])).2 u v (by simpa using World.var?_cell hg0 hv0 0)
    obtain ⟨a0, s0, rfl, hc0, hs0, hz0, rfl⟩ := errorString_of_trod hi hrow hp he hft hfo hs hc hcs hd0 ok0
    obtain ⟨c0, tt0, hb0⟩ := (hrows a0.block a0.off (by simp [MemPlace.row])).1
    have hnq : q0.Nodup := List.Nodup.sublist (List.sublist_append_right _ _) hnd
    obtain ⟨a', ha', hne'⟩ := ih q0 (fun x hx => hgs x (List.mem_cons_of_mem _ hx)) hvr hnq (fun b off hm => hrows b off (List.mem_append_right _ hm))
    have hnot : MemPlace.cell a0.block a0.off ∉ q0 := by
      intro hm
      have := (List.nodup_append.1 hnd).2.2
      exact this (.cell a0.block a0.off) (by simp [MemPlace.row]) (.cell a0.block a0.off) hm rfl
    refine ⟨fun i => match i with | 0 => a0 | k + 1 => a' k, ?_, ?_⟩
    · intro i x hx
      cases i with
      | zero =>
        simp only [List.getElem?_cons_zero, Option.some.injEq] at hx
        subst hx
        exact ⟨hv0, ⟨s0, hc0, hs0⟩, ⟨c0, tt0, hb0⟩, by simp [MemPlace.row]⟩
      | succ k =>
        simp only [List.getElem?_cons_succ] at hx
        obtain ⟨h1, h2, h3, h4⟩ := ha' k x hx
        exact ⟨h1, h2, h3, List.mem_append_right _ h4⟩
    · have far : ∀ k, k < r.length → a0 ≠ a' k := fun k hk e => by
        obtain ⟨_, _, _, h4⟩ := ha' k r[k] (by simp [hk])
        rw [← e] at h4
        exact hnot h4
      intro i j hi' hj' hij
      cases i with
      | zero =>
        cases j with
        | zero => exact absurd rfl hij
        | succ k => exact far k (by simpa using hj')
      | succ m =>
        cases j with
        | zero => exact (far m (by simpa using hi')).symm
        | succ k => exact hne' m k (by simpa using hi') (by simpa using hj') (by omega)

/-- The names and texts, in the rows' order. -/
def eightNames : List (String × List UInt8) := [("demon/api.ErrText", [100, 101, 109, 111, 110, 58, 32, 116, 101, 120, 116]), ("demon/api.ErrBound", [100, 101, 109, 111, 110, 58, 32, 98, 111, 117, 110, 100]), ("demon/api.ErrShape", [100, 101, 109, 111, 110, 58, 32, 115, 104, 97, 112, 101]), ("demon/api.ErrZero", [100, 101, 109, 111, 110, 58, 32, 122, 101, 114, 111]), ("demon/api.ErrName", [100, 101, 109, 111, 110, 58, 32, 110, 97, 109, 101]), ("demon/api.ErrNone", [100, 101, 109, 111, 110, 58, 32, 110, 111, 110, 101]), ("demon/api.ErrOrder", [100, 101, 109, 111, 110, 58, 32, 111, 114, 100, 101, 114]), ("demon/api.ErrKind", [100, 101, 109, 111, 110, 58, 32, 107, 105, 110, 100])]
def laidAll : List (String × DataW Unit) := [("errors.errorType", Rows.laid_errors_errorType), ("demon/api.ErrText", Rows.laid_demon_api_ErrText), ("demon/api.ErrBound", Rows.laid_demon_api_ErrBound), ("demon/api.ErrShape", Rows.laid_demon_api_ErrShape), ("demon/api.ErrZero", Rows.laid_demon_api_ErrZero), ("demon/api.ErrName", Rows.laid_demon_api_ErrName), ("demon/api.ErrNone", Rows.laid_demon_api_ErrNone), ("demon/api.ErrOrder", Rows.laid_demon_api_ErrOrder), ("demon/api.ErrKind", Rows.laid_demon_api_ErrKind)]
theorem laidAll_parts (W : World) : laidMetH Tryd.prog laidAll W = (laidMet Tryd.prog (eightNames.map fun x => (x.1, .iface "*errors.errorString" (.ptr (.agg [.lit (.string x.2)])))) W ∧ handlesMet Tryd.prog [("errors.errorType", Rows.laid_errors_errorType)] W) := by kernel_rfl

theorem var_at {W : World} {n : String} {g : Nat} {v : Value} (hg : Tryd.prog.globalNamed n = some g) (h : W.var? Tryd.prog n = some #[v]) : W.cell? ⟨g, 0, none⟩ = some v := by
  simpa using World.var?_cell hg h 0

theorem errs_of_laid {W : World} (h : laidMetH Tryd.prog laidAll W) : ∃ a : Nat → Addr, Errs W a ∧ ∀ i x, eightNames[i]? = some x → ∃ s, W.cell? (a i) = some (.string s) ∧ s.data.toList = x.2 := by
  rw [laidAll_parts] at h
  obtain ⟨⟨ps, hv, hnd, hrows⟩, hh⟩ := h
  obtain ⟨name, u, ty, e1, e2, e3, e4, e5⟩ := hh _ (List.mem_singleton.2 rfl)
  have en : name = [101, 114, 114, 111, 114] := (Option.some.inj e1).symm
  subst en
  obtain rfl := Option.some.inj (Tryd.rt.symm.trans e2)
  have hm : ty ∈ (List.range 172).filter fun t => Tryd.prog.rowNamed t [101, 114, 114, 111, 114] := List.mem_filter.2 ⟨List.mem_range.2 (by rw [← Tryd.size]; exact e3), e4⟩
  rw [Tryd.oneRow] at hm
  obtain rfl := List.mem_singleton.1 hm
  have hth : typeHandle Tryd.prog 25 = .pointer (some ⟨9, 25, none⟩) := by kernel_rfl
  rw [hth] at e5
  obtain ⟨a, ha, hne⟩ := laid_list Tryd.underlying25 Tryd.rowE Tryd.underlying139 Tryd.underlying160 rfl rfl Tryd.underlying9 Tryd.cellsE Tryd.cellsS eightNames ps
    (fun x hx => by
      simp only [eightNames, List.mem_cons, List.not_mem_nil, or_false] at hx
      rcases hx with rfl | rfl | rfl | rfl | rfl | rfl | rfl | rfl
      · exact ⟨_, Tryd.g0, by kernel_rfl⟩
      · exact ⟨_, Tryd.g1, by kernel_rfl⟩
      · exact ⟨_, Tryd.g2, by kernel_rfl⟩
      · exact ⟨_, Tryd.g3, by kernel_rfl⟩
      · exact ⟨_, Tryd.g4, by kernel_rfl⟩
      · exact ⟨_, Tryd.g5, by kernel_rfl⟩
      · exact ⟨_, Tryd.g6, by kernel_rfl⟩
      · exact ⟨_, Tryd.g7, by kernel_rfl⟩) hv hnd hrows
  refine ⟨a, ⟨var_at Tryd.g0 (ha 0 _ rfl).1, var_at Tryd.g1 (ha 1 _ rfl).1, var_at Tryd.g2 (ha 2 _ rfl).1, var_at Tryd.g3 (ha 3 _ rfl).1, var_at Tryd.g4 (ha 4 _ rfl).1, var_at Tryd.g5 (ha 5 _ rfl).1, var_at Tryd.g6 (ha 6 _ rfl).1, var_at Tryd.g7 (ha 7 _ rfl).1, var_at Tryd.et e5, ?_, ?_⟩, fun i x hx => (ha i x hx).2.1⟩
  · intro i hi
    have hl : eightNames.length = 8 := rfl
    exact (ha i eightNames[i] (List.getElem?_eq_getElem (by omega))).2.2.1
  · intro i j hi hj hij
    exact hne i j hi hj hij

/-- The door's own heap meets the condition. -/
theorem door_met (os : Os) (args : Array Value) : laidMetH Tryd.prog laidAll ((World.doorLaid Tryd.prog 168 os).forCall (fun _ _ => 0) ⟨#[], args, []⟩).memory :=
  laidMetH_of_parts3 (fuel := 8) (laidMet_of_run' 8 (by kernel_rfl) (by kernel_rfl)) (by kernel_rfl) (by kernel_rfl)
end Go.Proofs.YteicjedmingplaaDoor

/- A parameter of type []int opened. -/
namespace Go.Proofs.YteicjedmingplaaDoor
open Go.ChangeShapes Go.WideShapes Go.ChangeAt Go.RowKit Go.Joins Go.Deep

theorem Tryd.laidOut : laidOutB Tryd.prog = true := by kernel_rfl
theorem Tryd.cellsInt : Tryd.prog.cellsOf 3 = 1 := by kernel_rfl
theorem Tryd.cellsInts : Tryd.prog.cellsOf 35 = 1 := by kernel_rfl

set_option maxRecDepth 100000 in
/-- What a parameter of type []int gives: its slice, its numbers. -/
theorem open_nums {H : Type} {enc : TypeId × Value → H} {W : World} {base : Nat} {v : Value} {d : DataW H} {p : List MemPlace} (hv : Value.okWide Tryd.prog W .any base 35 v)
    (h : DataW.Trod enc Tryd.prog W 0 (fun _ => true) true 35 v d p) :
    ∃ (ad : Option Addr) (n cap : Nat) (z : Nat → Int), v = .slice ad n cap ∧ n ≤ maxLen ∧ NumsAt W (.slice ad n cap) n z := by
  obtain ⟨ad, n, cap, rfl⟩ := okWide_slice Tryd.underlying35 hv
  obtain ⟨fuel, hf⟩ := h
  rcases open_ints Tryd.underlying35 Tryd.underlying3 Tryd.cellsInt hf with ⟨hc, _⟩ | ⟨a, len, cap', zs, hc, _, hl, hm, hz, _, hcell, _⟩
  · simp [Value.cells] at hc
    obtain ⟨rfl, rfl, rfl⟩ := hc
    exact ⟨none, 0, 0, fun _ => 0, rfl, Nat.zero_le _, Or.inl ⟨none, 0, rfl, rfl⟩⟩
  · simp [Value.cells] at hc
    obtain ⟨rfl, rfl, rfl⟩ := hc
    simp only [if_true] at hz
    rcases Nat.eq_zero_or_pos n with rfl | hpos
    · exact ⟨some a, 0, cap, fun _ => 0, rfl, Nat.zero_le _, Or.inl ⟨some a, cap, rfl, rfl⟩⟩
    · obtain ⟨b, o, spot⟩ := a
      have hspot : spot = none := by simpa [Addr.add] using World.cell?_spot (hcell 0 (by omega))
      subst hspot
      refine ⟨_, n, cap, fun i => zs.getD i 0, rfl, by omega, Or.inr ⟨b, o, cap, rfl, hpos, fun i hi => ?_⟩⟩
      have := hcell i (by omega)
      rw [Go.Proofs.YteicjedmingplaaDoor.add_plain] at this
      exact this
end Go.Proofs.YteicjedmingplaaDoor
