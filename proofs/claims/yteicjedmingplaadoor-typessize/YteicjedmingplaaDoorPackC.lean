/- The law TypesAll. -/
import Derived.Test.YteicjedmingplaaDoorPackB
import Derived.Test.YteicjedmingplaaDoorPlus
import Derived.Test.YteicjedmingplaaDoorTyRows
import Derived.Test.YteicjedmingplaaDoorCopy
import Derived.Test.YteicjedmingplaaDoorRows
import Derived.Test.YteicjedmingplaaDoorCode
import Derived.ChangeSame
import Derived.ChangeVars
import Derived.JoinedOf
import Derived.LaidLaws
import Derived.LaidHandle
import Derived.LaidMore
import Derived.Stop.Joined
import Derived.Test.YteicjedmingplaaDoorInts
import Derived.Test.YteicjedmingplaaDoorCards
import Derived.Test.YteicjedmingplaaDoorTie
import Derived.SevenTiedAt
import Derived.ProofKit
import Derived.OpenShut
import Derived.ChangeOld
import Derived.Lib.SmallJoins
import Derived.Deep.Matrix
namespace Go.Proofs.YteicjedmingplaaDoor
open Go.RowKit

set_option maxRecDepth 100000 in
set_option maxHeartbeats 1000000 in
theorem All_bad (n k : Int) (w : World) {a : Nat → Addr} (he : Errs w a) (h : n < 0 ∨ 20 < n ∨ k < 1 ∨ 6 < k) : Calls Tryd.prog 10 #[.int .i64 n, .int .i64 k] w fun e w' => e = .returned (.tuple #[.slice none 0 0, .iface 139 (.pointer (some (a 1)))]) ∧ Below w.heap.size w w' := by
  have HC := Hid.mk' (fun W (hb : Below w.heap.size w W) => Count_bad n k W (he.below hb) h)
  clear he h
  have HB0 : Hid (Below w.heap.size w (w.alloc (.cells #[.int .i64 k] 3))) := (Below.refl _ _).alloc (Nat.le_refl _) _
  have hc0 : ∀ W, Below (w.alloc (.cells #[.int .i64 k] 3)).heap.size (w.alloc (.cells #[.int .i64 k] 3)) W → W.cell? ⟨w.heap.size, 0, none⟩ = some (.int .i64 k) := fun W hb => by
    rw [hb.cell (by simp), World.cell?_alloc_at _ _ _ _ rfl]; rfl
  clear hc0
  go_enter Tryd.func10, Tryd.ntmps10
  go_wp2_with fail
  refine (HC.out _ HB0.out).mono ?_
  rintro e w1 ⟨rfl, hb1⟩
  have HB1 := Hid.mk' (below_chain HB0.out hb1)
  clear hb1 HB0
  go_wp2_with fail
  go_ret2
  exact ⟨rfl, HB1.out⟩
set_option maxRecDepth 100000 in
set_option maxHeartbeats 1000000 in
theorem All_many (n k : Nat) (w : World) {a : Nat → Addr} (he : Errs w a) (hn : n < 21) (hk : k < 6) (hc : 4000 < cntT k n) : Calls Tryd.prog 10 #[.int .i64 n, .int .i64 ((k : Int) + 1)] w fun e w' => e = .returned (.tuple #[.slice none 0 0, .iface 139 (.pointer (some (a 1)))]) ∧ Below w.heap.size w w' := by
  have HC := Hid.mk' (fun W => Count_ok n k W hn hk)
  have hcI : 4000 < (cntT k n : Int) := by omega
  generalize cntT k n = c at *
  obtain ⟨K, hK⟩ : ∃ K : Int, K = (k : Int) + 1 := ⟨_, rfl⟩
  rw [← hK] at HC ⊢
  clear hK
  have HB0 : Hid (Below w.heap.size w (w.alloc (.cells #[.int .i64 K] 3))) := (Below.refl _ _).alloc (Nat.le_refl _) _
  have c1 := (he.below HB0.out).c1
  clear he
  go_enter Tryd.func10, Tryd.ntmps10
  go_wp2_with fail
  refine (HC.out _).mono ?_
  rintro e w1 ⟨rfl, hw1⟩
  rw [hw1]
  clear hw1
  go_wp2_with fail
  go_region
  all_goals
    go_wp2_with fail
    go_ret2
    exact ⟨rfl, HB0.out.drew⟩
theorem four_lol (w : World) (t u : TypeId) : LolAt ((((w.alloc (.cells #[.int .i64 0, .int .i64 2] t)).alloc (.cells #[.int .i64 1, .int .i64 1] t)).alloc (.cells #[.int .i64 2, .int .i64 0] t)).alloc (.cells #[.slice (some ⟨w.heap.size, 0, none⟩) 2 2, .slice (some ⟨w.heap.size + 1, 0, none⟩) 2 2, .slice (some ⟨w.heap.size + 1 + 1, 0, none⟩) 2 2] u)) (.slice (some ⟨w.heap.size + 1 + 1 + 1, 0, none⟩) 3 3) (typT 1 2) := by
  have row : ∀ (W W' : World) (x y : Int), Below (W.alloc (.cells #[.int .i64 x, .int .i64 y] t)).heap.size (W.alloc (.cells #[.int .i64 x, .int .i64 y] t)) W' → NumsAt W' (.slice (some ⟨W.heap.size, 0, none⟩) 2 2) 2 (atF [x, y]) := fun W W' x y hb => by
    refine Or.inr ⟨_, _, _, rfl, by decide, fun j hj => ?_⟩
    rw [hb.cell (by simp), World.cell?_alloc_at _ _ _ _ rfl]
    rcases (show j = 0 ∨ j = 1 by omega) with rfl | rfl <;> rfl
  have al : ∀ (W : World) (X : Obj), Below W.heap.size W (W.alloc X) := fun W X => (Below.refl _ _).alloc (Nat.le_refl _) _
  have s1 : ∀ (W : World) (X : Obj), (W.alloc X).heap.size = W.heap.size + 1 := fun W X => by simp
  refine ⟨_, _, rfl, fun i r hr => ?_⟩
  have hL : typT 1 2 = [[0, 2], [1, 1], [2, 0]] := rfl
  rw [hL] at hr
  have r0 := row w _ 0 2 (below_chain (al _ (.cells #[.int .i64 1, .int .i64 1] t)) (below_chain (al _ (.cells #[.int .i64 2, .int .i64 0] t)) (al _ (.cells #[.slice (some ⟨w.heap.size, 0, none⟩) 2 2, .slice (some ⟨w.heap.size + 1, 0, none⟩) 2 2, .slice (some ⟨w.heap.size + 1 + 1, 0, none⟩) 2 2] u))))
  have r1 := row (w.alloc (.cells #[.int .i64 0, .int .i64 2] t)) _ 1 1 (below_chain (al _ (.cells #[.int .i64 2, .int .i64 0] t)) (al _ (.cells #[.slice (some ⟨w.heap.size, 0, none⟩) 2 2, .slice (some ⟨w.heap.size + 1, 0, none⟩) 2 2, .slice (some ⟨w.heap.size + 1 + 1, 0, none⟩) 2 2] u)))
  have r2 := row ((w.alloc (.cells #[.int .i64 0, .int .i64 2] t)).alloc (.cells #[.int .i64 1, .int .i64 1] t)) _ 2 0 (al _ (.cells #[.slice (some ⟨w.heap.size, 0, none⟩) 2 2, .slice (some ⟨w.heap.size + 1, 0, none⟩) 2 2, .slice (some ⟨w.heap.size + 1 + 1, 0, none⟩) 2 2] u))
  rw [s1] at r1
  rw [s1, s1] at r2
  have c : ∀ (W : World) (x y z : Value) (j : Nat), (W.alloc (.cells #[x, y, z] u)).cell? ⟨W.heap.size, 0 + j, none⟩ = #[x, y, z][j]? := fun W x y z j => by rw [World.cell?_alloc_at _ _ _ _ rfl, Nat.zero_add]
  have e3 : w.heap.size + 1 + 1 + 1 = (((w.alloc (.cells #[.int .i64 0, .int .i64 2] t)).alloc (.cells #[.int .i64 1, .int .i64 1] t)).alloc (.cells #[.int .i64 2, .int .i64 0] t)).heap.size := by rw [s1, s1, s1]
  rcases i with _ | _ | _ | i
  · obtain rfl : [0, 2] = r := by simpa using hr
    exact ⟨_, 0, _, rfl, by rw [e3, c]; rfl, r0⟩
  · obtain rfl : [1, 1] = r := by simpa using hr
    exact ⟨_, 0, _, rfl, by rw [e3, c]; rfl, r1⟩
  · obtain rfl : [2, 0] = r := by simpa using hr
    exact ⟨_, 0, _, rfl, by rw [e3, c]; rfl, r2⟩
  · simp at hr
set_option maxRecDepth 100000 in
set_option maxHeartbeats 2000000 in
theorem pair_any (w : World) : Calls Tryd.prog 7 #[] w fun e w' => e = .returned (.bool true) ∧ Below w.heap.size w w' := by
  have hP := All_ok 2 1 w (by decide) (by decide) (by decide)
  rw [show (((2 : Nat) : Int)) = 2 from rfl, show (((1 : Nat) : Int) + 1) = 2 from rfl] at hP
  go_enter Tryd.func7, Tryd.ntmps7
  go_wp2_with fail
  refine hP.mono ?_
  clear hP
  rintro e w1 ⟨v, rfl, hl, hb⟩
  have HL := Hid.mk' hl
  have HB := Hid.mk' hb
  obtain ⟨ad, cap, rfl, -⟩ := hl
  clear hb
  go_wp2_with fail
  have HB4 : Hid (Below w1.heap.size w1 ((((w1.alloc (.cells #[.int .i64 0, .int .i64 2] 3)).alloc (.cells #[.int .i64 1, .int .i64 1] 3)).alloc (.cells #[.int .i64 2, .int .i64 0] 3)).alloc (.cells #[.slice (some ⟨w1.heap.size, 0, none⟩) 2 2, .slice (some ⟨w1.heap.size + 1, 0, none⟩) 2 2, .slice (some ⟨w1.heap.size + 1 + 1, 0, none⟩) 2 2] 35))) := ((((Below.refl _ _).alloc (Nat.le_refl _) _).alloc (by simp) _).alloc (by simp; omega) _).alloc (by simp; omega) _
  refine (SameLists_any _ _ (typT 1 2) _ (HL.out.later HB4.out) (four_lol w1 3 35) (by decide) (fun r hr => by rw [typT_width _ _ r hr]; decide)).mono ?_
  rintro e w5 ⟨rfl, hb5⟩
  have HB5 := Hid.mk' (below_chain HB.out (below_chain HB4.out hb5))
  clear hb5
  go_wp2_with fail
  go_ret
  exact ⟨rfl, HB5.out⟩
set_option maxRecDepth 100000 in
set_option maxHeartbeats 4000000 in
theorem TypesAll_all (a : Nat → Addr) (n k : Int) (w : World) (hE : Errs w a) :
    Calls Tryd.prog 3 #[.int .i64 n, .int .i64 k] w fun e w' => e = .returned (.bool true) ∧ Below w.heap.size w w' := by
  have HE := Hid.mk' (fun (W : World) (hb : Below w.heap.size w W) => hE.below hb)
  clear hE
  have HP := Hid.mk' (pair_any w)
  have HCD : Hid (∀ W, Below w.heap.size w W → Calls Tryd.prog 11 #[errV a 2, .int .i64 2] W fun e w' => e = .returned (.bool true) ∧ Below W.heap.size W w') := fun W hb => coded_errV a 2 (by decide) W (HE.out W hb)
  rw [errV_pos a (by decide)] at HCD
  by_cases hbad : n < 0 ∨ 20 < n ∨ k < 1 ∨ 6 < k
  · have HF := Hid.mk' (fun W => FewError_bad n k W hbad)
    have HC := Hid.mk' (fun W (hb : Below w.heap.size w W) => Count_bad n k W (HE.out W hb) hbad)
    have HA := Hid.mk' (fun W (hb : Below w.heap.size w W) => All_bad n k W (HE.out W hb) hbad)
    clear hbad
    go_enter Tryd.func3, Tryd.ntmps3
    go_wp2_with fail
    refine HP.out.mono ?_
    rintro e w1 ⟨rfl, hb1⟩
    have HB1 := Hid.mk' hb1
    clear hb1
    go_wp2_with fail
    refine (HF.out _).mono ?_
    rintro e w2 ⟨rfl, hw2⟩
    rw [hw2]
    clear hw2
    go_wp2_with fail
    refine (HC.out _ HB1.out).mono ?_
    rintro e w3 ⟨rfl, hb3⟩
    have HB3 := Hid.mk' (below_chain HB1.out hb3)
    clear hb3
    go_wp2_with fail
    refine (HA.out _ HB3.out).mono ?_
    rintro e w4 ⟨rfl, hb4⟩
    have HB4 := Hid.mk' (below_chain HB3.out hb4)
    clear hb4
    go_wp2_with fail
    refine (HCD.out _ HB4.out).mono ?_
    rintro e w5 ⟨rfl, hb5⟩
    have HB5 := Hid.mk' (below_chain HB4.out hb5)
    clear hb5
    go_wp2_with fail
    refine (HCD.out _ HB5.out).mono ?_
    rintro e w6 ⟨rfl, hb6⟩
    have HB6 := Hid.mk' (below_chain HB5.out hb6)
    clear hb6
    go_wp2_with fail
    go_ret
    exact ⟨rfl, HB6.out⟩
  · obtain ⟨m, j, hm, hj, hmn, hjk⟩ : ∃ m j : Nat, m < 21 ∧ j < 6 ∧ n = (m : Int) ∧ k = (j : Int) + 1 := ⟨n.toNat, (k - 1).toNat, by omega, by omega, by omega, by omega⟩
    have HF := Hid.mk' (fun W => FewError_ok n k W (by omega) (by omega) (by omega) (by omega))
    have HC := Hid.mk' (fun W => Count_ok m j W hm hj)
    have HO := Hid.mk' (fun W => CountOf_any j m W hj hm)
    have HT := Hid.mk' (fun W => TypesOf_any j m W hj hm)
    have HAM := Hid.mk' (fun W (hb : Below w.heap.size w W) (hc : 4000 < cntT j m) => All_many m j W (HE.out W hb) hm hj hc)
    have HAO := Hid.mk' (fun W (hc : cntT j m ≤ 4000) => All_ok m j W hm hj hc)
    have HSL := Hid.mk' (fun (v u : Value) (W : World) (h1 : LolAt W v (typT j m)) (h2 : LolAt W u (typT j m)) (hc : cntT j m ≤ 4000) => SameLists_any v u (typT j m) W h1 h2 (by rw [typT_length]; omega) (fun r hr => by rw [typT_width _ _ r hr]; omega))
    have HLN := Hid.mk' (typT_length j m)
    have hcb := cntT_small hj hm
    rw [← hmn, ← hjk] at HC HO HT HAM HAO
    clear hbad hmn hjk
    obtain ⟨c, hc⟩ : ∃ c, c = cntT j m := ⟨_, rfl⟩
    rw [← hc] at HC HO HAM HAO HSL HLN hcb
    have hc0 : (0 : Int) ≤ (c : Int) := by omega
    clear hc
    generalize typT j m = L at *
    go_enter Tryd.func3, Tryd.ntmps3
    go_wp2_with fail
    refine HP.out.mono ?_
    rintro e w1 ⟨rfl, hb1⟩
    have HB1 := Hid.mk' hb1
    clear hb1
    go_wp2_with fail
    refine (HF.out _).mono ?_
    rintro e w2 ⟨rfl, hw2⟩
    rw [hw2]
    clear hw2
    go_wp2_with fail
    refine (HC.out _).mono ?_
    rintro e w3 ⟨rfl, hw3⟩
    rw [hw3]
    clear hw3 w2 w3
    go_wp2_with fail
    by_cases h4 : 4000 < c
    · have h4I : (4000 : Int) < (c : Int) := by omega
      refine (HAM.out _ HB1.out h4).mono ?_
      rintro e w4 ⟨rfl, hb4⟩
      have HB4 := Hid.mk' (below_chain HB1.out hb4)
      clear hb4
      go_wp2_with fail
      refine (HO.out _).mono ?_
      rintro e w5 ⟨rfl, hb5⟩
      have HB5 := Hid.mk' (below_chain HB4.out hb5)
      clear hb5
      go_wp2_with fail
      refine (HCD.out _ HB5.out).mono ?_
      rintro e w6 ⟨rfl, hb6⟩
      have HB6 := Hid.mk' (below_chain HB5.out hb6)
      clear hb6
      go_wp2_with fail
      go_ret
      exact ⟨rfl, HB6.out⟩
    · have h4' : c ≤ 4000 := by omega
      have h4I : (c : Int) ≤ 4000 := by omega
      refine (HAO.out _ h4').mono ?_
      rintro e w4 ⟨v, rfl, hl4, hb4⟩
      have HL4 := Hid.mk' hl4
      have HB4 := Hid.mk' (below_chain HB1.out hb4)
      obtain ⟨ad, cap, rfl, -⟩ := hl4
      rw [HLN.out]
      rw [HLN.out] at HL4
      clear hb4 h4
      go_wp2_with fail
      refine (HO.out _).mono ?_
      rintro e w5 ⟨rfl, hb5⟩
      have HB5 := Hid.mk' (below_chain HB4.out hb5)
      have HL5 := Hid.mk' (HL4.out.later hb5)
      clear hb5 HL4
      by_cases h6 : 600 < c
      · have h6I : (600 : Int) < (c : Int) := by omega
        go_wp2_with fail
        go_ret
        exact ⟨rfl, HB5.out⟩
      · have h6I : (c : Int) ≤ 600 := by omega
        go_wp2_with fail
        refine (HT.out _).mono ?_
        rintro e w6 ⟨u, rfl, ⟨vs, hu⟩, hb6⟩
        have HB6 := Hid.mk' (below_chain HB5.out hb6)
        have HL6 := Hid.mk' (HL5.out.later hb6)
        have HU6 := Hid.mk' hu.lol
        obtain ⟨a6, c6, rfl⟩ := hu.form
        clear hu hb6 HL5
        go_wp2_with fail
        refine (HSL.out _ _ _ HL6.out HU6.out h4').mono ?_
        rintro e w7 ⟨rfl, hb7⟩
        have HB7 := Hid.mk' (below_chain HB6.out hb7)
        clear hb7
        go_wp2_with fail
        go_ret
        exact ⟨rfl, HB7.out⟩
end Go.Proofs.YteicjedmingplaaDoor

/- The document's Told of a fraction. -/
namespace Go.Proofs.YteicjedmingplaaDoor
open Go.RowKit

theorem cmpOf_le {a b : Nat} (h : a ≤ b) : cmpOf a b ≤ 0 := by
  unfold cmpOf
  split
  · omega
  · split
    · omega
    · omega

set_option maxRecDepth 100000 in
set_option maxHeartbeats 2000000 in
theorem RTold_ok (v : Value) (m d : Nat) (w : World) (h : RatioAt w v (m : Int) d) (hm : m ≤ 4611686018427387904) (hd : d ≤ 4611686018427387904) :
    Calls Tryd.prog 18 #[v] w fun e w' => e = .returned (.tuple #[.agg #[.int .i64 m, .int .i64 d], .bool true]) ∧ Below w.heap.size w w' := by
  obtain ⟨u, q, rfl, hu, hq⟩ := h
  rw [Int.natAbs_natCast] at hu
  rw [decide_eq_false (show ¬ (m : Int) < 0 by omega)]
  obtain ⟨ad1, l1, cap1, rfl, _⟩ := hu.len
  obtain ⟨ad2, l2, cap2, rfl, _⟩ := hq.len
  obtain ⟨W0, hW0⟩ : ∃ W0, W0 = (w.alloc (.cells #[.bool false, .slice ad1 l1 cap1, .slice ad2 l2 cap2] 47)).alloc (.cells #[.int .i64 0, .int .i64 0] 40) := ⟨_, rfl⟩
  have hb0 : Below w.heap.size w W0 := by rw [hW0]; exact below_chain (new_below _ _) (new_below _ _)
  have HKS : Hid (∀ W, Below W0.heap.size W0 W → (W.cell? ⟨w.heap.size, 0, none⟩ = some (.bool false) ∧ W.cell? ⟨w.heap.size, 1, none⟩ = some (.slice ad1 l1 cap1) ∧ W.cell? ⟨w.heap.size, 2, none⟩ = some (.slice ad2 l2 cap2)) ∧ (W.cell? ⟨w.heap.size + 1, 0, none⟩ = some (.int .i64 0) ∧ W.cell? ⟨w.heap.size + 1, 1, none⟩ = some (.int .i64 0)) ∧ W.frozen? ⟨w.heap.size + 1, 0, none⟩ = false ∧ W.frozen? ⟨w.heap.size + 1, 1, none⟩ = false) := fun W hb => by
    have hr := hb
    rw [hW0] at hr
    have hr2 := res_past hr
    rw [World.size_alloc] at hr2
    have a : ∀ j v, #[Value.bool false, .slice ad1 l1 cap1, .slice ad2 l2 cap2][j]? = some v → W0.cell? ⟨w.heap.size, j, none⟩ = some v := fun j v h => by rw [hW0, World.cell?_alloc_lt _ _ ⟨w.heap.size, j, none⟩ (by simp), World.cell?_alloc_at _ _ _ _ rfl]; exact h
    exact ⟨⟨(cell_past (a 0 _ rfl) hb).2, (cell_past (a 1 _ rfl) hb).2, (cell_past (a 2 _ rfl) hb).2⟩, ⟨hr2.1, hr2.2.1⟩, hr2.2.2⟩
  have HU : Hid (∀ W, Below W0.heap.size W0 W → BigAt W (.slice ad1 l1 cap1) m ∧ BigAt W (.slice ad2 l2 cap2) d) := fun W hb => ⟨(hu.later hb0).later hb, (hq.later hb0).later hb⟩
  have hof : Calls Tryd.prog 35 #[.int .i64 4611686018427387904] W0 fun e w' => ∃ v, e = .returned v ∧ BigAt w' v 4611686018427387904 ∧ Below W0.heap.size W0 w' := BigOf_any 4611686018427387904 W0 (Nat.le_refl _)
  have k4 : (4611686018427387904 : Nat) < 1000000 ^ 4 := by decide
  obtain ⟨z1, hz1⟩ : ∃ z, z = cmpOf m 4611686018427387904 := ⟨_, rfl⟩
  obtain ⟨z2, hz2⟩ : ∃ z, z = cmpOf d 4611686018427387904 := ⟨_, rfl⟩
  have hle1 : ¬ 0 < z1 := by rw [hz1]; have := cmpOf_le hm; omega
  have hle2 : ¬ 0 < z2 := by rw [hz2]; have := cmpOf_le hd; omega
  have HC1 : Hid (∀ (W : World) (v : Value), Below W0.heap.size W0 W → BigAt W v 4611686018427387904 → Calls Tryd.prog 36 #[.slice ad1 l1 cap1, v] W fun e w' => e = .returned (.int .i64 z1) ∧ ∃ m, w' = W.drewN m) := fun W v hb hv => by
    rw [hz1]; exact BigCmp_any _ _ m _ 4 W (HU.out W hb).1 hv (Nat.lt_of_le_of_lt hm k4) k4 (by decide)
  have HC2 : Hid (∀ (W : World) (v : Value), Below W0.heap.size W0 W → BigAt W v 4611686018427387904 → Calls Tryd.prog 36 #[.slice ad2 l2 cap2, v] W fun e w' => e = .returned (.int .i64 z2) ∧ ∃ m, w' = W.drewN m) := fun W v hb hv => by
    rw [hz2]; exact BigCmp_any _ _ d _ 4 W (HU.out W hb).2 hv (Nat.lt_of_le_of_lt hd k4) k4 (by decide)
  have HI1 : Hid (∀ W, Below W0.heap.size W0 W → Calls Tryd.prog 37 #[.slice ad1 l1 cap1] W fun e w' => e = .returned (.tuple #[.int .i64 m, .bool true]) ∧ w' = W) := fun W hb => BigInt_any _ m W (HU.out W hb).1 hm
  have HI2 : Hid (∀ W, Below W0.heap.size W0 W → Calls Tryd.prog 37 #[.slice ad2 l2 cap2] W fun e w' => e = .returned (.tuple #[.int .i64 d, .bool true]) ∧ w' = W) := fun W hb => BigInt_any _ d W (HU.out W hb).2 hd
  have HB0 := Hid.mk' hb0
  have HW0 := Hid.mk' hW0
  clear hu hq hb0 hW0 hz1 hz2 k4 hm hd
  go_enter Tryd.func18, Tryd.ntmps18
  go_upto_region 1 with fail
  rw [← HW0.out]
  go_wp2_with fail
  refine hof.mono ?_
  clear hof
  rintro e w1 ⟨v1, rfl, hv1, hb1⟩
  obtain ⟨⟨x0, x1, x2⟩, _, _, _⟩ := HKS.out w1 hb1
  have hc1 := HC1.out w1 v1 hb1 hv1
  go_wp2_with fail
  refine hc1.mono ?_
  rintro e w2 ⟨rfl, m2, hw2⟩
  have hb2 : Below w1.heap.size w1 w2 := by rw [hw2]; exact below_drewN (Below.refl _ _) _
  have hv2 := hv1.later hb2
  have hb02 := below_chain hb1 hb2
  clear hw2 hb1 hv1 hb2 hc1 x0 x1 x2
  obtain ⟨⟨x0, x1, x2⟩, _, _, _⟩ := HKS.out w2 hb02
  have hc2 := HC2.out w2 v1 hb02 hv2
  go_wp2_with fail
  refine hc2.mono ?_
  rintro e w3 ⟨rfl, m3, hw3⟩
  have hb3 : Below w2.heap.size w2 w3 := by rw [hw3]; exact below_drewN (Below.refl _ _) _
  have hb03 := below_chain hb02 hb3
  clear hw3 hb02 hv2 hb3 hc2 x0 x1 x2
  obtain ⟨⟨x0, x1, x2⟩, ⟨c0, c1⟩, f0, f1⟩ := HKS.out w3 hb03
  have hi1 := HI1.out w3 hb03
  have hi2 := HI2.out w3 hb03
  have HB3 := Hid.mk' (below_chain HB0.out hb03)
  clear hb03
  go_wp2_with (first
    | (go_at_call_of 37 cap1; refine hi1.mono ?_; rintro e w4 ⟨rfl, hw4⟩; rw [hw4]; clear hw4)
    | (go_at_call_of 37 cap2; refine hi2.mono ?_; rintro e w4 ⟨rfl, hw4⟩; rw [hw4]; clear hw4))
  refine bodyPost_ret (v := .tuple #[.agg #[.int .i64 m, .int .i64 d], .bool true]) (by simp [results, Tryd.results18, go_sem, c0, c1]) rfl ⟨rfl, ?_⟩
  exact (HB3.out.setCell (by show w.heap.size ≤ w.heap.size + 1; omega) _).setCell (by show w.heap.size ≤ w.heap.size + 1; omega) _
end Go.Proofs.YteicjedmingplaaDoor

/- The law TypesSize. -/
namespace Go.Proofs.YteicjedmingplaaDoor
open Go.RowKit

theorem low_unit (R : Nat) : lowN 1 (R : Int) = (R : Int) ∧ lowD 1 (R : Int) = 1 := by
  unfold lowN lowD lowG
  rw [Nat.gcd_one_right]
  simp

set_option maxRecDepth 100000 in
set_option maxHeartbeats 4000000 in
theorem TypesSize_all (a : Nat → Addr) (ad : Option Addr) (n c : Nat) (z : Nat → Int) (w : World) (hE : Errs w a) (hz : NumsAt w (.slice ad n c) n z) (hm : n ≤ maxLen) :
    Calls Tryd.prog 4 #[.slice ad n c] w fun e w' => e = .returned (.bool true) ∧ Below w.heap.size w w' := by
  have HE := Hid.mk' (fun (W : World) (hb : Below w.heap.size w W) => hE.below hb)
  have HZ := Hid.mk' (fun (W : World) (hb : Below w.heap.size w W) => hz.later hb)
  have HP := Hid.mk' (pair_any w)
  unfold maxLen at hm
  by_cases h100 : 100 < n
  · have hI : (100 : Int) < (n : Int) := by omega
    clear hE hz
    go_enter Tryd.func4, Tryd.ntmps4
    go_wp2_with fail
    refine HP.out.mono ?_
    rintro e w1 ⟨rfl, hb1⟩
    have HB1 := Hid.mk' hb1
    clear hb1
    go_wp2_with fail
    go_ret
    exact ⟨rfl, HB1.out⟩
  · have hI : (n : Int) ≤ 100 := by omega
    have HTE := Hid.mk' (fun (W : World) (hb : Below w.heap.size w W) => TypeError_any _ n z W (HZ.out W hb) (by omega))
    have HIN := Hid.mk' (fun (W : World) (hb : Below w.heap.size w W) => ints_any _ n z W (HZ.out W hb) (by omega))
    by_cases he : tyE n z = 0
    · obtain ⟨h0, h6, hzp, hs⟩ := tyE_ok he
      obtain ⟨t, ht⟩ : ∃ t : Nat → Nat, ∀ i, i < n → z i = (t i : Int) := ⟨fun i => (z i).toNat, fun i hi => by have := hzp i hi; show z i = ((z i).toNat : Int); omega⟩
      rw [sumU_sumN ht] at hs
      have HSZ := Hid.mk' (fun (v : Value) (W : World) (hb : Below w.heap.size w W) (hv : NumsAt W v n z) => Size_ok a v n z t W (HE.out W hb) hv he ht)
      rw [he] at HTE
      obtain ⟨b, o, rfl, hrow⟩ : ∃ b o, ad = some ⟨b, o, none⟩ ∧ RowAt w b o n z := by
        rcases hz with ⟨_, _, _, hx⟩ | ⟨b, o, cap, hx, _, hr⟩
        · omega
        · obtain ⟨rfl, _⟩ : ad = _ ∧ _ := by simpa using hx
          exact ⟨b, o, rfl, hr⟩
      have HRO := Hid.mk' (fun (W : World) (hb : Below w.heap.size w W) => RowsOf_any b o c n t W (fun i hi => by have := hrow.later hb i hi; rw [this, ht i hi]) h6 (by omega))
      rw [(low_unit _).1, (low_unit _).2] at HRO
      have HTO := Hid.mk' (fun (v : Value) (W : World) (h : RatioAt W v ((rowU t n : Nat) : Int) 1) => RTold_ok v (rowU t n) 1 W h (by have := rowU_le t (k := n) (by omega); omega) (by omega))
      generalize rowU t n = R at *
      clear hE hz hrow ht hzp hs he
      go_enter Tryd.func4, Tryd.ntmps4
      go_wp2_with fail
      refine HP.out.mono ?_
      rintro e w1 ⟨rfl, hb1⟩
      have HB1 := Hid.mk' hb1
      clear hb1
      go_wp2_with fail
      refine (HTE.out _ HB1.out).mono ?_
      rintro e w2 ⟨rfl, hw2⟩
      rw [hw2]
      clear hw2 w2
      go_wp2_with fail
      refine (HIN.out _ HB1.out).mono ?_
      rintro e w3 ⟨v3, rfl, hv3, hb3⟩
      have HB3 := Hid.mk' (below_chain HB1.out hb3)
      have HV3 := Hid.mk' hv3
      obtain ⟨a3, c3, rfl⟩ := hv3.form
      clear hb3 hv3
      go_wp2_with fail
      refine (HSZ.out _ _ HB3.out HV3.out).mono ?_
      rintro e w4 ⟨rfl, hw4⟩
      rw [hw4]
      clear hw4 w4
      go_wp2_with fail
      refine (HRO.out _ HB3.out).mono ?_
      rintro e w5 ⟨v5, rfl, hv5, hb5⟩
      have HB5 := Hid.mk' (below_chain HB3.out hb5)
      have HV5 := Hid.mk' hv5
      obtain ⟨s5, x5, l5, c5, x5', l5', c5', rfl⟩ := hv5.sl
      clear hb5 hv5
      go_wp2_with fail
      refine (HTO.out _ _ HV5.out).mono ?_
      rintro e w6 ⟨rfl, hb6⟩
      have HB6 := Hid.mk' (below_chain HB5.out hb6)
      have HB7 : Hid (Below w.heap.size w (w6.alloc (.cells #[.int .i64 (R : Int), .int .i64 ((1 : Nat) : Int)] 40))) := HB6.out.alloc HB6.out.size _
      clear hb6
      go_wp2_with fail
      go_ret
      exact ⟨rfl, HB7.out⟩
    · have HSB := Hid.mk' (fun (v : Value) (W : World) (hb : Below w.heap.size w W) (hv : NumsAt W v n z) => Size_bad a v n z W (HE.out W hb) hv (by omega) he)
      have HCD : Hid (∀ W, Below w.heap.size w W → Calls Tryd.prog 11 #[errV a (tyE n z), .int .i64 (tyE n z : Nat)] W fun e w' => e = .returned (.bool true) ∧ Below W.heap.size W w') := fun W hb => coded_errV a (tyE n z) (by have := tyE_le n z; omega) W (HE.out W hb)
      have hle := tyE_le n z
      rw [errV_pos a he] at HSB HCD
      generalize tyE n z = q at *
      have hq : (0 : Int) < (q : Int) := by omega
      clear hE hz he
      go_enter Tryd.func4, Tryd.ntmps4
      go_wp2_with fail
      refine HP.out.mono ?_
      rintro e w1 ⟨rfl, hb1⟩
      have HB1 := Hid.mk' hb1
      clear hb1
      go_wp2_with fail
      refine (HTE.out _ HB1.out).mono ?_
      rintro e w2 ⟨rfl, hw2⟩
      rw [hw2]
      clear hw2 w2
      go_wp2_with fail
      refine (HIN.out _ HB1.out).mono ?_
      rintro e w3 ⟨v3, rfl, hv3, hb3⟩
      have HB3 := Hid.mk' (below_chain HB1.out hb3)
      have HV3 := Hid.mk' hv3
      obtain ⟨a3, c3, rfl⟩ := hv3.form
      clear hb3 hv3
      go_wp2_with fail
      refine (HSB.out _ _ HB3.out HV3.out).mono ?_
      rintro e w4 ⟨rfl, hw4⟩
      rw [hw4]
      clear hw4 w4
      go_wp2_with fail
      refine (HCD.out _ HB3.out).mono ?_
      rintro e w6 ⟨rfl, hb6⟩
      have HB6 := Hid.mk' (below_chain HB3.out hb6)
      clear hb6
      go_wp2_with fail
      go_ret
      exact ⟨rfl, HB6.out⟩
end Go.Proofs.YteicjedmingplaaDoor

/- What the rows' condition on package variables gives a walk: eight different sentinels with their texts, and the handle of the type error. -/
namespace Go.Proofs.YteicjedmingplaaDoor
open Go.ChangeShapes Go.WideShapes Go.RowKit

theorem Tryd.own : ownKnob Tryd.prog.godebug = none := by kernel_rfl
theorem Tryd.et : Tryd.prog.globalNamed "errors.errorType" = some 8 := by kernel_rfl
theorem Tryd.rt : (Tryd.prog.cutTypes.find? (·.1 == "internal/reflectlite.rtype")).map (·.2) = some 120 := by kernel_rfl
theorem Tryd.oneRow : ((List.range 172).filter fun t => Tryd.prog.rowNamed t [101, 114, 114, 111, 114]) = [25] := by kernel_rfl
theorem Tryd.size : Tryd.prog.types.size = 172 := by kernel_rfl
theorem Tryd.star : ("*" ++ "errors.errorString" : String) = "*errors.errorString" := by decide
theorem Tryd.rowE (u : TypeId) (h : Tryd.prog.typeName? 3 u = some "*errors.errorString") : u = 139 :=
  typeName_ptr_named (nm := "errors.errorString") (by rw [Tryd.star]; kernel_rfl) (by kernel_rfl) (by decide) u (by rw [Tryd.star]; exact h)
theorem Tryd.cellsE : Tryd.prog.cellsOf 160 = 1 := by kernel_rfl
theorem Tryd.cellsS : Tryd.prog.cellsOf 9 = 1 := by kernel_rfl
theorem Tryd.g0 : Tryd.prog.globalNamed "demon/api.ErrText" = some 2 := by kernel_rfl
theorem Tryd.g1 : Tryd.prog.globalNamed "demon/api.ErrBound" = some 0 := by kernel_rfl
theorem Tryd.g2 : Tryd.prog.globalNamed "demon/api.ErrShape" = some 1 := by kernel_rfl
theorem Tryd.g3 : Tryd.prog.globalNamed "demon/api.ErrZero" = some 3 := by kernel_rfl
theorem Tryd.g4 : Tryd.prog.globalNamed "demon/api.ErrName" = some 4 := by kernel_rfl
theorem Tryd.g5 : Tryd.prog.globalNamed "demon/api.ErrNone" = some 5 := by kernel_rfl
theorem Tryd.g6 : Tryd.prog.globalNamed "demon/api.ErrOrder" = some 6 := by kernel_rfl
theorem Tryd.g7 : Tryd.prog.globalNamed "demon/api.ErrKind" = some 7 := by kernel_rfl

/-- Any number of listed sentinels of one type: each one's pointer, text and row; no two are one. -/
theorem laid_list {P : Program} {W : World} {nm : String} {ti tp te ts : TypeId} {ms : Array (String × TypeId)} {f : Field}
    (hi : P.underlying ti = some (.interface ms)) (hrow : ∀ u, P.typeName? 3 u = some nm → u = tp)
    (hp : P.underlying tp = some (.pointer te)) (he : P.underlying te = some (.struct #[f])) (hft : f.type = ts) (hfo : f.offset = 0) (hs : P.underlying ts = some .string) (hc : P.cellsOf te = 1) (hcs : P.cellsOf ts = 1) :
    ∀ (L : List (String × List UInt8)) (ps : List MemPlace), (∀ x, x ∈ L → ∃ g, P.globalNamed x.1 = some g ∧ (P.globals[g]?).map (·.type) = some ti) →
      DataW.LaidVars P W (L.map fun x => (x.1, .iface nm (.ptr (.agg [.lit (.string x.2)])))) ps → ps.Nodup →
      (∀ b off, MemPlace.cell b off ∈ ps → (∃ c t, W.heap[b]? = some (.cells c t (0, 0))) ∧ ∀ u v, W.cell? ⟨b, off, none⟩ = some (.iface u v) → Value.okWide P W .any 0 u v) →
      ∃ a : Nat → Addr, (∀ i x, L[i]? = some x → W.var? P x.1 = some #[.iface tp (.pointer (some (a i)))] ∧ (∃ s, W.cell? (a i) = some (.string s) ∧ s.data.toList = x.2) ∧
          (∃ c t, W.heap[(a i).block]? = some (.cells c t (0, 0))) ∧ MemPlace.cell (a i).block (a i).off ∈ ps) ∧
        ∀ i j, i < L.length → j < L.length → i ≠ j → a i ≠ a j := by
  intro L
  induction L with
  | nil => intro ps _ _ _ _; exact ⟨fun _ => default, fun i x h => by simp at h, fun i j h => by simp at h⟩
  | cons x r ih =>
    intro ps hgs hv hnd hrows
    obtain ⟨n, text⟩ := x
    obtain ⟨g0, t0, cs0, f0, p0, q0, hg0, ht0, hv0, hd0, hvr, e0⟩ := hv
    obtain ⟨g, hg, ht⟩ := hgs (n, text) (List.mem_cons_self ..)
    obtain rfl := Option.some.inj (hg.symm.trans hg0)
    obtain rfl := Option.some.inj (ht.symm.trans ht0)
    subst e0
    obtain ⟨l0⟩ := cs0
    have ok0 : ∀ u v, l0 = [.iface u v] → Value.okWide P W .any 0 u v := fun u v e => by
      subst e
      exact (hrows g 0 (by simp [MemPlace.row])).2 u v (by simpa using World.var?_cell hg0 hv0 0)
    obtain ⟨a0, s0, rfl, hc0, hs0, hz0, rfl⟩ := errorString_of_trod hi hrow hp he hft hfo hs hc hcs hd0 ok0
    obtain ⟨c0, tt0, hb0⟩ := (hrows a0.block a0.off (by simp [MemPlace.row])).1
    have hnq : q0.Nodup := List.Nodup.sublist (List.sublist_append_right _ _) hnd
    obtain ⟨a', ha', hne'⟩ := ih q0 (fun x hx => hgs x (List.mem_cons_of_mem _ hx)) hvr hnq (fun b off hm => hrows b off (List.mem_append_right _ hm))
    have hnot : MemPlace.cell a0.block a0.off ∉ q0 := by
      intro hm
      have := (List.nodup_append.1 hnd).2.2
      exact this (.cell a0.block a0.off) (by simp [MemPlace.row]) (.cell a0.block a0.off) hm rfl
    refine ⟨fun i => match i with | 0 => a0 | k + 1 => a' k, ?_, ?_⟩
    · intro i x hx
      cases i with
      | zero =>
        simp only [List.getElem?_cons_zero, Option.some.injEq] at hx
        subst hx
        exact ⟨hv0, ⟨s0, hc0, hs0⟩, ⟨c0, tt0, hb0⟩, by simp [MemPlace.row]⟩
      | succ k =>
        simp only [List.getElem?_cons_succ] at hx
        obtain ⟨h1, h2, h3, h4⟩ := ha' k x hx
        exact ⟨h1, h2, h3, List.mem_append_right _ h4⟩
    · have far : ∀ k, k < r.length → a0 ≠ a' k := fun k hk e => by
        obtain ⟨_, _, _, h4⟩ := ha' k r[k] (by simp [hk])
        rw [← e] at h4
        exact hnot h4
      intro i j hi' hj' hij
      cases i with
      | zero =>
        cases j with
        | zero => exact absurd rfl hij
        | succ k => exact far k (by simpa using hj')
      | succ m =>
        cases j with
        | zero => exact (far m (by simpa using hi')).symm
        | succ k => exact hne' m k (by simpa using hi') (by simpa using hj') (by omega)

/-- The names and texts, in the rows' order. -/
def eightNames : List (String × List UInt8) := [("demon/api.ErrText", [100, 101, 109, 111, 110, 58, 32, 116, 101, 120, 116]), ("demon/api.ErrBound", [100, 101, 109, 111, 110, 58, 32, 98, 111, 117, 110, 100]), ("demon/api.ErrShape", [100, 101, 109, 111, 110, 58, 32, 115, 104, 97, 112, 101]), ("demon/api.ErrZero", [100, 101, 109, 111, 110, 58, 32, 122, 101, 114, 111]), ("demon/api.ErrName", [100, 101, 109, 111, 110, 58, 32, 110, 97, 109, 101]), ("demon/api.ErrNone", [100, 101, 109, 111, 110, 58, 32, 110, 111, 110, 101]), ("demon/api.ErrOrder", [100, 101, 109, 111, 110, 58, 32, 111, 114, 100, 101, 114]), ("demon/api.ErrKind", [100, 101, 109, 111, 110, 58, 32, 107, 105, 110, 100])]
def laidAll : List (String × DataW Unit) := [("errors.errorType", Rows.laid_errors_errorType), ("demon/api.ErrText", Rows.laid_demon_api_ErrText), ("demon/api.ErrBound", Rows.laid_demon_api_ErrBound), ("demon/api.ErrShape", Rows.laid_demon_api_ErrShape), ("demon/api.ErrZero", Rows.laid_demon_api_ErrZero), ("demon/api.ErrName", Rows.laid_demon_api_ErrName), ("demon/api.ErrNone", Rows.laid_demon_api_ErrNone), ("demon/api.ErrOrder", Rows.laid_demon_api_ErrOrder), ("demon/api.ErrKind", Rows.laid_demon_api_ErrKind)]
theorem laidAll_parts (W : World) : laidMetH Tryd.prog laidAll W = (laidMet Tryd.prog (eightNames.map fun x => (x.1, .iface "*errors.errorString" (.ptr (.agg [.lit (.string x.2)])))) W ∧ handlesMet Tryd.prog [("errors.errorType", Rows.laid_errors_errorType)] W) := by kernel_rfl

theorem var_at {W : World} {n : String} {g : Nat} {v : Value} (hg : Tryd.prog.globalNamed n = some g) (h : W.var? Tryd.prog n = some #[v]) : W.cell? ⟨g, 0, none⟩ = some v := by
  simpa using World.var?_cell hg h 0

theorem errs_of_laid {W : World} (h : laidMetH Tryd.prog laidAll W) : ∃ a : Nat → Addr, Errs W a ∧ ∀ i x, eightNames[i]? = some x → ∃ s, W.cell? (a i) = some (.string s) ∧ s.data.toList = x.2 := by
  rw [laidAll_parts] at h
  obtain ⟨⟨ps, hv, hnd, hrows⟩, hh⟩ := h
  obtain ⟨name, u, ty, e1, e2, e3, e4, e5⟩ := hh _ (List.mem_singleton.2 rfl)
  have en : name = [101, 114, 114, 111, 114] := (Option.some.inj e1).symm
  subst en
  obtain rfl := Option.some.inj (Tryd.rt.symm.trans e2)
  have hm : ty ∈ (List.range 172).filter fun t => Tryd.prog.rowNamed t [101, 114, 114, 111, 114] := List.mem_filter.2 ⟨List.mem_range.2 (by rw [← Tryd.size]; exact e3), e4⟩
  rw [Tryd.oneRow] at hm
  obtain rfl := List.mem_singleton.1 hm
  have hth : typeHandle Tryd.prog 25 = .pointer (some ⟨9, 25, none⟩) := by kernel_rfl
  rw [hth] at e5
  obtain ⟨a, ha, hne⟩ := laid_list Tryd.underlying25 Tryd.rowE Tryd.underlying139 Tryd.underlying160 rfl rfl Tryd.underlying9 Tryd.cellsE Tryd.cellsS eightNames ps
    (fun x hx => by
      simp only [eightNames, List.mem_cons, List.not_mem_nil, or_false] at hx
      rcases hx with rfl | rfl | rfl | rfl | rfl | rfl | rfl | rfl
      · exact ⟨_, Tryd.g0, by kernel_rfl⟩
      · exact ⟨_, Tryd.g1, by kernel_rfl⟩
      · exact ⟨_, Tryd.g2, by kernel_rfl⟩
      · exact ⟨_, Tryd.g3, by kernel_rfl⟩
      · exact ⟨_, Tryd.g4, by kernel_rfl⟩
      · exact ⟨_, Tryd.g5, by kernel_rfl⟩
      · exact ⟨_, Tryd.g6, by kernel_rfl⟩
      · exact ⟨_, Tryd.g7, by kernel_rfl⟩) hv hnd hrows
  refine ⟨a, ⟨var_at Tryd.g0 (ha 0 _ rfl).1, var_at Tryd.g1 (ha 1 _ rfl).1, var_at Tryd.g2 (ha 2 _ rfl).1, var_at Tryd.g3 (ha 3 _ rfl).1, var_at Tryd.g4 (ha 4 _ rfl).1, var_at Tryd.g5 (ha 5 _ rfl).1, var_at Tryd.g6 (ha 6 _ rfl).1, var_at Tryd.g7 (ha 7 _ rfl).1, var_at Tryd.et e5, ?_, ?_⟩, fun i x hx => (ha i x hx).2.1⟩
  · intro i hi
    have hl : eightNames.length = 8 := rfl
    exact (ha i eightNames[i] (List.getElem?_eq_getElem (by omega))).2.2.1
  · intro i j hi hj hij
    exact hne i j hi hj hij

/-- The door's own heap meets the condition. -/
theorem door_met (os : Os) (args : Array Value) : laidMetH Tryd.prog laidAll ((World.doorLaid Tryd.prog 168 os).forCall (fun _ _ => 0) ⟨#[], args, []⟩).memory :=
  laidMetH_of_parts3 (fuel := 8) (laidMet_of_run' 8 (by kernel_rfl) (by kernel_rfl)) (by kernel_rfl) (by kernel_rfl)
end Go.Proofs.YteicjedmingplaaDoor

/- A parameter of type []int opened. -/
namespace Go.Proofs.YteicjedmingplaaDoor
open Go.ChangeShapes Go.WideShapes Go.ChangeAt Go.RowKit Go.Joins Go.Deep

theorem Tryd.laidOut : laidOutB Tryd.prog = true := by kernel_rfl
theorem Tryd.cellsInt : Tryd.prog.cellsOf 3 = 1 := by kernel_rfl
theorem Tryd.cellsInts : Tryd.prog.cellsOf 35 = 1 := by kernel_rfl

set_option maxRecDepth 100000 in
/-- What a parameter of type []int gives: its slice, its numbers. -/
theorem open_nums {H : Type} {enc : TypeId × Value → H} {W : World} {base : Nat} {v : Value} {d : DataW H} {p : List MemPlace} (hv : Value.okWide Tryd.prog W .any base 35 v)
    (h : DataW.Trod enc Tryd.prog W 0 (fun _ => true) true 35 v d p) :
    ∃ (ad : Option Addr) (n cap : Nat) (z : Nat → Int), v = .slice ad n cap ∧ n ≤ maxLen ∧ NumsAt W (.slice ad n cap) n z := by
  obtain ⟨ad, n, cap, rfl⟩ := okWide_slice Tryd.underlying35 hv
  obtain ⟨fuel, hf⟩ := h
  rcases open_ints Tryd.underlying35 Tryd.underlying3 Tryd.cellsInt hf with ⟨hc, _⟩ | ⟨a, len, cap', zs, hc, _, hl, hm, hz, _, hcell, _⟩
  · simp [Value.cells] at hc
    obtain ⟨rfl, rfl, rfl⟩ := hc
    exact ⟨none, 0, 0, fun _ => 0, rfl, Nat.zero_le _, Or.inl ⟨none, 0, rfl, rfl⟩⟩
  · simp [Value.cells] at hc
    obtain ⟨rfl, rfl, rfl⟩ := hc
    simp only [if_true] at hz
    rcases Nat.eq_zero_or_pos n with rfl | hpos
    · exact ⟨some a, 0, cap, fun _ => 0, rfl, Nat.zero_le _, Or.inl ⟨some a, cap, rfl, rfl⟩⟩
    · obtain ⟨b, o, spot⟩ := a
      have hspot : spot = none := by simpa [Addr.add] using World.cell?_spot (hcell 0 (by omega))
      subst hspot
      refine ⟨_, n, cap, fun i => zs.getD i 0, rfl, by omega, Or.inr ⟨b, o, cap, rfl, hpos, fun i hi => ?_⟩⟩
      have := hcell i (by omega)
      rw [Go.Proofs.YteicjedmingplaaDoor.add_plain] at this
      exact this
end Go.Proofs.YteicjedmingplaaDoor
