/- Is a vertex in a set; have two an edge; are two graphs the same? -/
import Derived.Test.YtojljmapdafmaaaDoorZeGr
import Derived.Laws.StructEq
namespace Go.Proofs.YtojljmapdafmaaaDoor
open Go.RowKit

theorem has_any (x v : Nat) (hx : x < 18446744073709551616) (hv : v < 64) (w : World) :
    Calls Tryd.prog 49 #[.int .u64 (x : Nat), .int .i64 (v : Nat)] w fun e w' => e = .returned (.bool (x.testBit v)) ∧ w' = w := by
  have hv0 : (0 : Int) ≤ (v : Int) := by omega
  have hvI : (v : Int) < 64 := by omega
  have hb : x.testBit v = decide (x / 2 ^ v % 2 = 1) := Nat.testBit_eq_decide_div_mod_eq
  have e1 : ((x : Int) / 2 ^ v) = ((x / 2 ^ v : Nat) : Int) := by simp
  have hle : x / 2 ^ v < 18446744073709551616 := Nat.lt_of_le_of_lt (Nat.div_le_self _ _) hx
  have han : bits .and .u64 ((x : Int) / 2 ^ v) 1 = ((x / 2 ^ v % 2 : Nat) : Int) := by
    rw [e1, show (1 : Int) = ((1 : Nat) : Int) from rfl, u64_and_nat _ _ hle (by decide), nat_mask1]
  have h2 : x / 2 ^ v % 2 < 2 := Nat.mod_lt _ (by decide)
  rw [hb]
  clear e1 hle hb
  generalize x / 2 ^ v % 2 = X at *
  have HD : Hid (decide (X = 1) = ((X : Int) == 1)) := by
    show _ = _
    rcases (show X = 0 ∨ X = 1 by omega) with rfl | rfl <;> rfl
  rw [HD.out]
  clear HD
  go_enter Tryd.func49, Tryd.ntmps49
  go_wp2
  go_ret
  exact ⟨rfl, rfl⟩

set_option maxRecDepth 100000 in
set_option maxHeartbeats 4000000 in
theorem Joined_any (N : Int) (m : Nat) (ev : Value) (p q : Nat → Nat) (a b : Nat) (w : World) (hG : EdAt w ev m (fun i => (p i : Int)) (fun i => (q i : Int))) (hm : m ≤ 1000) :
    Calls Tryd.prog 35 #[.agg #[.int .i64 N, ev], .int .i64 (a : Nat), .int .i64 (b : Nat)] w fun e w' => e = .returned (.bool (joinB p q m a b)) ∧ Below w.heap.size w w' := by
  obtain ⟨ad, cap, rfl, -⟩ := id hG
  have hmI : (m : Int) ≤ 1000 := by omega
  obtain ⟨w1, hw1⟩ : ∃ w1, w1 = w.alloc (.cells #[.int .i64 N, .slice ad m cap] 24) := ⟨_, rfl⟩
  have hb1 : Below w.heap.size w w1 := by rw [hw1]; exact (Below.refl _ _).alloc (Nat.le_refl _) _
  have hc1 : w1.cell? ⟨w.heap.size, 1, none⟩ = some (.slice ad m cap) := by rw [hw1]; go_simp
  have HC : Hid (∀ W, Below w1.heap.size w1 W → W.cell? ⟨w.heap.size, 1, none⟩ = some (.slice ad m cap)) := fun W hb => by rw [hb.cell (cell_lt hc1)]; exact hc1
  have HG := Hid.mk' (hG.later hb1)
  have HW1 := Hid.mk' hw1
  have HEND : Hid (∀ W, Below w1.heap.size w1 W → Below w.heap.size w W) := fun W hb => hb1.trans (hb.mono hb1.size)
  clear hG hb1 hw1 hc1
  go_enter Tryd.func35, Tryd.ntmps35
  go_upto_region 1 with fail
  rw [← HW1.out]
  go_wp2_with fail
  go_loopw [7] (fun i wr => ∃ k : Nat, k ≤ m ∧ i = .int .i64 k ∧ Hid (joinB p q k a b = false) ∧ Hid (Below w1.heap.size w1 wr)) (fun i _ => m - (intOf i).toNat)
  case atStart => exact ⟨0, Nat.zero_le _, rfl, rfl, Below.refl _ _⟩
  case round =>
    obtain ⟨k, hk, rfl, HK, HB⟩ := hrel
    have hk0 : (0 : Int) ≤ (k : Int) := by omega
    have c1 := HC.out _ HB.out
    rcases Nat.lt_or_ge k m with h1 | h1
    · have hkm : (k : Int) < (m : Int) := by omega
      obtain ⟨bb, o, rfl, hT⟩ := HG.out.at h1
      have hTk := hT k h1
      have e0 : wr.cell? ⟨bb, o + k * 2, none⟩ = some (.int .i64 (p k : Int)) := by rw [HB.out.cell (cell_lt hTk.1)]; exact hTk.1
      have e1 : wr.cell? ⟨bb, o + k * 2 + 1, none⟩ = some (.int .i64 (q k : Int)) := by rw [HB.out.cell (cell_lt hTk.2)]; exact hTk.2
      have HN : Hid (joinB p q (k + 1) a b = ((p k == a && q k == b) || (p k == b && q k == a))) := by
        have : joinB p q (k + 1) a b = (joinB p q k a b || ((p k == a && q k == b) || (p k == b && q k == a))) := by simp [joinB, List.range_succ]
        show _ = _
        rw [this, HK.out, Bool.false_or]
      have HYES : Hid (joinB p q (k + 1) a b = true → joinB p q m a b = true) := fun h => by
        obtain ⟨j, hj, h2⟩ := joinB_iff.1 h
        exact joinB_iff.2 ⟨j, by omega, h2⟩
      have HBA := Hid.mk' (HB.out.alloc HB.out.size (.cells #[.int .i64 (p k : Int), .int .i64 (q k : Int)] 51))
      clear hT hTk
      by_cases x1 : p k = a
      · have d1 : ((p k : Int) == (a : Int)) = true := by simp [x1]
        by_cases x2 : q k = b
        · have d2 : ((q k : Int) == (b : Int)) = true := by simp [x2]
          have HF := Hid.mk' (HYES.out (by rw [HN.out]; simp [x1, x2]))
          clear x1 x2
          go_wp2_with fail
          go_ret
          exact ⟨by rw [HF.out]; rfl, HEND.out _ HBA.out⟩
        · have d2 : ((q k : Int) == (b : Int)) = false := by simp; omega
          by_cases x3 : p k = b
          · have d3 : ((p k : Int) == (b : Int)) = true := by simp [x3]
            by_cases x4 : q k = a
            · have d4 : ((q k : Int) == (a : Int)) = true := by simp [x4]
              have HF := Hid.mk' (HYES.out (by rw [HN.out]; simp [x3, x4]))
              clear x1 x2 x3 x4
              go_wp2_with fail
              go_ret
              exact ⟨by rw [HF.out]; rfl, HEND.out _ HBA.out⟩
            · have d4 : ((q k : Int) == (a : Int)) = false := by simp; omega
              have HF : Hid (joinB p q (k + 1) a b = false) := by show _ = _; rw [HN.out]; simp [x2, x4]
              clear x1 x2 x3 x4
              go_wp2_with fail
              exact ⟨⟨k + 1, h1, by go_num, HF, HBA⟩, by simp [intOf]; omega⟩
          · have d3 : ((p k : Int) == (b : Int)) = false := by simp; omega
            have HF : Hid (joinB p q (k + 1) a b = false) := by show _ = _; rw [HN.out]; simp [x2, x3]
            clear x1 x2 x3
            go_wp2_with fail
            exact ⟨⟨k + 1, h1, by go_num, HF, HBA⟩, by simp [intOf]; omega⟩
      · have d1 : ((p k : Int) == (a : Int)) = false := by simp; omega
        by_cases x3 : p k = b
        · have d3 : ((p k : Int) == (b : Int)) = true := by simp [x3]
          by_cases x4 : q k = a
          · have d4 : ((q k : Int) == (a : Int)) = true := by simp [x4]
            have HF := Hid.mk' (HYES.out (by rw [HN.out]; simp [x3, x4]))
            clear x1 x3 x4
            go_wp2_with fail
            go_ret
            exact ⟨by rw [HF.out]; rfl, HEND.out _ HBA.out⟩
          · have d4 : ((q k : Int) == (a : Int)) = false := by simp; omega
            have HF : Hid (joinB p q (k + 1) a b = false) := by show _ = _; rw [HN.out]; simp [x1, x4]
            clear x1 x3 x4
            go_wp2_with fail
            exact ⟨⟨k + 1, h1, by go_num, HF, HBA⟩, by simp [intOf]; omega⟩
        · have d3 : ((p k : Int) == (b : Int)) = false := by simp; omega
          have HF : Hid (joinB p q (k + 1) a b = false) := by show _ = _; rw [HN.out]; simp [x1, x3]
          clear x1 x3
          go_wp2_with fail
          exact ⟨⟨k + 1, h1, by go_num, HF, HBA⟩, by simp [intOf]; omega⟩
    · obtain rfl : k = m := by omega
      go_wp2_with fail
      go_ret
      exact ⟨by rw [HK.out]; rfl, HEND.out _ HB.out⟩

theorem back_any (N : Int) (ad : Option Addr) (n cap : Nat) (w : World) :
    Calls Tryd.prog 19 #[.agg #[.int .i64 N, .slice ad n cap]] w fun e w' => e = .returned (.agg #[.int .i64 N, .slice ad n cap]) ∧ Below w.heap.size w w' := by
  go_enter Tryd.func19, Tryd.ntmps19
  go_wp2_with fail
  refine bodyPost_ret (v := .agg #[.int .i64 N, .slice ad n cap]) (by simp [results, Tryd.results19, go_sem]) rfl ⟨rfl, ?_⟩
  exact ((Below.refl _ _).alloc (Nat.le_refl _) _).alloc (by simp) _

theorem equal_pair (d : Nat) (a b : Int) (w : World) : (Op.equalIn (d + 1 + 1) 51 (.agg #[.int .i64 a, .int .i64 b]) (.agg #[.int .i64 a, .int .i64 b])).run Tryd.prog w = .ok true w := by
  unfold Op.equalIn
  simp only [Sem.run_bind, run_underlying Tryd.underlying51, Result.andThen_ok]
  go_simp
  rw [show List.range' 0 2 = [0, 1] from rfl, List.forIn_cons]
  have h3 := Tryd.underlying3
  go_simp
theorem pair_like (a b : Int) (w : World) : (binOp BinOp.neq 51 (.agg #[.int .i64 a, .int .i64 b]) (.agg #[.int .i64 a, .int .i64 b])).run Tryd.prog w = .ok (.bool false) w := by
  have h := equal_pair 9998 a b w
  go_simp

set_option maxRecDepth 100000 in
set_option maxHeartbeats 4000000 in
theorem SameGraph_any (N : Int) (m : Nat) (ev fv : Value) (p q : Nat → Int) (w : World) (hG : EdAt w ev m p q) (hF : EdAt w fv m p q) (hm : m ≤ 1000) :
    Calls Tryd.prog 18 #[.agg #[.int .i64 N, ev], .agg #[.int .i64 N, fv]] w fun e w' => e = .returned (.bool true) ∧ Below w.heap.size w w' := by
  obtain ⟨ad, cap, rfl, -⟩ := id hG
  obtain ⟨ae, cae, rfl, -⟩ := id hF
  have hmI : (m : Int) ≤ 1000 := by omega
  obtain ⟨w1, hw1⟩ : ∃ w1, w1 = (w.alloc (.cells #[.int .i64 N, .slice ad m cap] 24)).alloc (.cells #[.int .i64 N, .slice ae m cae] 24) := ⟨_, rfl⟩
  have hb1 : Below w.heap.size w w1 := by rw [hw1]; exact ((Below.refl _ _).alloc (Nat.le_refl _) _).alloc (by simp) _
  have hc0 : w1.cell? ⟨w.heap.size, 0, none⟩ = some (.int .i64 N) := by rw [hw1]; go_simp
  have hc1 : w1.cell? ⟨w.heap.size, 1, none⟩ = some (.slice ad m cap) := by rw [hw1]; go_simp
  have hd0 : w1.cell? ⟨w.heap.size + 1, 0, none⟩ = some (.int .i64 N) := by rw [hw1]; go_simp
  have hd1 : w1.cell? ⟨w.heap.size + 1, 1, none⟩ = some (.slice ae m cae) := by rw [hw1]; go_simp
  have HC : Hid (∀ W, Below w1.heap.size w1 W → W.cell? ⟨w.heap.size, 1, none⟩ = some (.slice ad m cap) ∧ W.cell? ⟨w.heap.size + 1, 1, none⟩ = some (.slice ae m cae)) := fun W hb => ⟨by rw [hb.cell (cell_lt hc1)]; exact hc1, by rw [hb.cell (cell_lt hd1)]; exact hd1⟩
  have HG := Hid.mk' (hG.later hb1)
  have HF := Hid.mk' (hF.later hb1)
  have HW1 := Hid.mk' hw1
  have HEND : Hid (∀ W, Below w1.heap.size w1 W → Below w.heap.size w W) := fun W hb => hb1.trans (hb.mono hb1.size)
  have hNN : (N != N) = false := by simp
  have hMM : ((m : Int) != (m : Int)) = false := by simp
  clear hG hF hb1 hw1
  go_enter Tryd.func18, Tryd.ntmps18
  go_upto_region 1 with fail
  rw [← HW1.out]
  go_wp2_with fail
  clear hc0 hc1 hd0 hd1
  go_loopw [5] (fun i wr => ∃ k : Nat, k ≤ m ∧ i = .int .i64 k ∧ Hid (Below w1.heap.size w1 wr)) (fun i _ => m - (intOf i).toNat)
  case atStart => exact ⟨0, Nat.zero_le _, rfl, Below.refl _ _⟩
  case round =>
    obtain ⟨k, hk, rfl, HB⟩ := hrel
    have hk0 : (0 : Int) ≤ (k : Int) := by omega
    obtain ⟨c1, d1⟩ := HC.out _ HB.out
    rcases Nat.lt_or_ge k m with h1 | h1
    · have hkm : (k : Int) < (m : Int) := by omega
      obtain ⟨b, o, rfl, hT⟩ := HG.out.at h1
      obtain ⟨b', o', rfl, hT'⟩ := HF.out.at h1
      have hTk := hT k h1
      have hTk' := hT' k h1
      have e0 : wr.cell? ⟨b, o + k * 2, none⟩ = some (.int .i64 (p k)) := by rw [HB.out.cell (cell_lt hTk.1)]; exact hTk.1
      have e1 : wr.cell? ⟨b, o + k * 2 + 1, none⟩ = some (.int .i64 (q k)) := by rw [HB.out.cell (cell_lt hTk.2)]; exact hTk.2
      have e2 : wr.cell? ⟨b', o' + k * 2, none⟩ = some (.int .i64 (p k)) := by rw [HB.out.cell (cell_lt hTk'.1)]; exact hTk'.1
      have e3 : wr.cell? ⟨b', o' + k * 2 + 1, none⟩ = some (.int .i64 (q k)) := by rw [HB.out.cell (cell_lt hTk'.2)]; exact hTk'.2
      have hq := fun (W : World) => pair_like (p k) (q k) W
      clear hT hT' hTk hTk'
      go_wp2_with fail
      go_quiet (fail)
      have HBQ := Hid.mk' (below_drewN HB.out nq)
      generalize wr.drewN nq = Wq at *
      clear e0 e1 e2 e3 c1 d1
      go_wp2_with fail
      exact ⟨⟨k + 1, h1, by go_num, HBQ⟩, by simp [intOf]; omega⟩
    · obtain rfl : k = m := by omega
      go_wp2_with fail
      go_ret
      exact ⟨rfl, HEND.out _ HB.out⟩
end Go.Proofs.YtojljmapdafmaaaDoor
