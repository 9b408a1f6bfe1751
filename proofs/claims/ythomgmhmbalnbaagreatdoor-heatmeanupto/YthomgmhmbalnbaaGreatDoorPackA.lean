/- heat.startOf: how what is carried begins. -/
import Derived.Test.YthomgmhmbalnbaaGreatDoorHtCar
import Derived.Test.YthomgmhmbalnbaaGreatDoorWeights
import Derived.Test.YthomgmhmbalnbaaGreatDoorHtMath
import Derived.Test.YthomgmhmbalnbaaGreatDoorTab
import Derived.Test.YthomgmhmbalnbaaGreatDoorErrs
import Derived.BigQuiet
import Derived.Deep.CutRange
import Derived.Deep.RegionHeld3
import Derived.Test.YthomgmhmbalnbaaGreatDoorCode
import Derived.Deep.Onto
import Derived.Test.YthomgmhmbalnbaaGreatDoorValidWalk
namespace Go.Proofs.YthomgmhmbalnbaaGreatDoor
open Go.RowKit

set_option maxRecDepth 100000 in
set_option maxHeartbeats 16000000 in
theorem start_any (n b o cap : Nat) (u : Nat → Nat) (w : World) (hu : RowAt w b o n (fun i => (u i : Int))) (h0 : 0 < n) (hn : n ≤ 4) (hub : ∀ i, i < n → u i ≤ 4096) :
    Calls Tryz.prog 33 #[.slice (some ⟨b, o, none⟩) n cap] w fun e w' => ∃ g' y, e = .returned (.agg #[.slice (some ⟨g', 0, none⟩) n n, y]) ∧ (∃ F', NtsAt w' g' n F' u) ∧ NatAt w' y (smU u n) ∧ w.heap.size ≤ g' ∧ Below w.heap.size w w' := by
  obtain ⟨i0, hi, hz0, hz1, hz2⟩ := info_parts Tryz.infoNt
  have HINF : Hid (Tryz.prog.info? 75 = some i0 ∧ i0.zero = some (.slice none 0 0) ∧ i0.size = 1 ∧ i0.bytes = 24) := ⟨hi, hz0, hz1, hz2⟩
  clear hi hz0 hz1 hz2
  obtain ⟨w1, hw1⟩ : ∃ w1, w1 = w.alloc (.cells #[.slice none 0 0, .slice none 0 0] 77) := ⟨_, rfl⟩
  have hb1 : Below w.heap.size w w1 := by rw [hw1]; exact (Below.refl _ _).alloc (Nat.le_refl _) _
  have c2 : w1.cell? ⟨w.heap.size, 0, none⟩ = some (.slice none 0 0) := by rw [hw1]; simp
  have c3 : w1.cell? ⟨w.heap.size, 1, none⟩ = some (.slice none 0 0) := by rw [hw1]; simp
  have c4 : w1.frozen? ⟨w.heap.size, 0, none⟩ = false := by rw [hw1]; simp
  have c5 : w1.frozen? ⟨w.heap.size, 1, none⟩ = false := by rw [hw1]; simp
  have hsz : w.heap.size < w1.heap.size := by rw [hw1]; simp
  have HSZ := Hid.mk' hsz
  have HC : Hid (∀ W, Below w1.heap.size w1 W → (W.cell? ⟨w.heap.size, 0, none⟩ = some (.slice none 0 0) ∧ W.cell? ⟨w.heap.size, 1, none⟩ = some (.slice none 0 0)) ∧ W.frozen? ⟨w.heap.size, 0, none⟩ = false ∧ W.frozen? ⟨w.heap.size, 1, none⟩ = false) := fun W hb => ⟨⟨by rw [hb.cell (cell_lt c2)]; exact c2, by rw [hb.cell (cell_lt c3)]; exact c3⟩, by rw [hb.frozen (show w.heap.size < w1.heap.size from hsz)]; exact c4, by rw [hb.frozen (show w.heap.size < w1.heap.size from hsz)]; exact c5⟩
  have HEND : Hid (∀ W, Below w1.heap.size w1 W → Below w.heap.size w W) := fun W hb => hb1.trans (hb.mono hb1.size)
  have HW1 := Hid.mk' hw1
  have HRO : Hid (∀ W, Below w1.heap.size w1 W → RowAt W b o n (fun i => (u i : Int))) := fun W hb => hu.later (HEND.out W hb)
  have HUB := Hid.mk' hub
  have hSB : smU u n ≤ n * 4096 := smU_le hub
  have hSB2 : smU u n ≤ 16384 := by have : n * 4096 ≤ 4 * 4096 := Nat.mul_le_mul_right _ hn; omega
  have HTO : Hid (∀ W, Below w1.heap.size w1 W → Calls Tryz.prog 63 #[.slice (some ⟨b, o, none⟩) n cap] W fun e w' => e = .returned (.int .i64 ((smU u n : Nat) : Int)) ∧ w' = W) := fun W hb => by
    have h1 := total_some b o cap n (fun k => (u k : Int)) W (HRO.out W hb) (fun k hk => by
      rw [sumN_smU (u := u) (fun _ _ => rfl)]
      have h3 := smU_mono u hk
      omega) (fun k hk => by have := HUB.out k hk; omega) (by omega)
    rw [sumN_smU (u := u) (fun _ _ => rfl)] at h1
    exact h1
  have HNO : Hid (∀ W, Calls Tryz.prog 36 #[.int .u64 ((smU u n : Nat) : Int)] W fun e w' => ∃ v, e = .returned v ∧ NatAt w' v (smU u n) ∧ Below W.heap.size W w') := fun W => NatOf_allH (smU u n) W (by omega)
  have hwS : IntKind.u64.wrap ((smU u n : Nat) : Int) = ((smU u n : Nat) : Int) := by rw [IntKind.wrap_u64]; exact Int.emod_eq_of_lt (by omega) (by omega)
  have hSI : ((smU u n : Nat) : Int) ≤ 16384 := by omega
  have hS0I : (0 : Int) ≤ ((smU u n : Nat) : Int) := by omega
  have hnI : (n : Int) ≤ 4 := by omega
  have hn0I : (0 : Int) < (n : Int) := by omega
  have hmk0 := fun W : World => run_make_full (P := Tryz.prog) W W.heap.size 73 75 i0 _ 1 Tryz.underlying73 HINF.out.1 HINF.out.2.1 HINF.out.2.2.1 .i64 .i64 n (by rw [HINF.out.2.2.2]; omega) (by unfold maxLen; omega) (Nat.le_refl _)
  obtain ⟨mk, hmk1⟩ := Classical.axiomOfChoice hmk0
  have hmk := fun W => (hmk1 W).1
  have HMR : Hid (∀ W, RowIs (mk W) W.heap.size n (fun _ => .slice none 0 0)) := fun W => rowIs_made (hmk1 W).2.1 (made_one (.slice none 0 0) rfl n)
  have HMB : Hid (∀ W, Below W.heap.size W (mk W)) := fun W => made_below (hmk1 W).2.2
  clear hmk0 hmk1 hu hub hw1 hb1 hsz hSB hSB2
  generalize smU u n = E at HTO HNO hwS hSI hS0I ⊢
  go_enter Tryz.func33, Tryz.ntmps33
  go_upto_region 1 with fail
  rw [← HW1.out]
  clear c2 c3 c4 c5
  have hcD : Below w1.heap.size w1 w1.drew := (Below.refl _ _).drew
  have hcA : Below w1.heap.size w1 (w1.alloc (.cells #[.slice none 0 0, .slice none 0 0] 77)).drew := ((Below.refl _ _).alloc (Nat.le_refl _) _).drew
  have hcM : Below w1.heap.size w1 (mk w1.drew) := below_chain hcD (HMB.out _)
  have hcAM : Below w1.heap.size w1 (mk ((w1.alloc (.cells #[.slice none 0 0, .slice none 0 0] 77)).drew)) := below_chain hcA (HMB.out _)
  have hcMA : Below w1.heap.size w1 ((mk w1.drew).alloc (.cells #[.slice none 0 0, .slice none 0 0] 77)) := hcM.alloc hcM.size _
  have hzA : ((w1.alloc (.cells #[.slice none 0 0, .slice none 0 0] 77)).drew).heap.size = w1.heap.size + 1 := by simp
  have HZA := Hid.mk' hzA
  clear hzA
  have aA0 : ((w1.alloc (.cells #[.slice none 0 0, .slice none 0 0] 77)).drew).cell? ⟨w1.heap.size, 0, none⟩ = some (.slice none 0 0) := by show (w1.alloc (.cells #[.slice none 0 0, .slice none 0 0] 77)).cell? _ = _; simp
  have aA1 : ((w1.alloc (.cells #[.slice none 0 0, .slice none 0 0] 77)).drew).cell? ⟨w1.heap.size, 1, none⟩ = some (.slice none 0 0) := by show (w1.alloc (.cells #[.slice none 0 0, .slice none 0 0] 77)).cell? _ = _; simp
  have aA2 : ((w1.alloc (.cells #[.slice none 0 0, .slice none 0 0] 77)).drew).frozen? ⟨w1.heap.size, 0, none⟩ = false := by show (w1.alloc (.cells #[.slice none 0 0, .slice none 0 0] 77)).frozen? _ = _; simp
  have aA3 : ((w1.alloc (.cells #[.slice none 0 0, .slice none 0 0] 77)).drew).frozen? ⟨w1.heap.size, 1, none⟩ = false := by show (w1.alloc (.cells #[.slice none 0 0, .slice none 0 0] 77)).frozen? _ = _; simp
  have mA0 : (mk ((w1.alloc (.cells #[.slice none 0 0, .slice none 0 0] 77)).drew)).cell? ⟨w1.heap.size, 0, none⟩ = some (.slice none 0 0) := by rw [(HMB.out ((w1.alloc (.cells #[.slice none 0 0, .slice none 0 0] 77)).drew)).cell (cell_lt aA0)]; exact aA0
  have mA1 : (mk ((w1.alloc (.cells #[.slice none 0 0, .slice none 0 0] 77)).drew)).cell? ⟨w1.heap.size, 1, none⟩ = some (.slice none 0 0) := by rw [(HMB.out ((w1.alloc (.cells #[.slice none 0 0, .slice none 0 0] 77)).drew)).cell (cell_lt aA1)]; exact aA1
  have mA2 : (mk ((w1.alloc (.cells #[.slice none 0 0, .slice none 0 0] 77)).drew)).frozen? ⟨w1.heap.size, 0, none⟩ = false := by rw [(HMB.out ((w1.alloc (.cells #[.slice none 0 0, .slice none 0 0] 77)).drew)).frozen (cell_lt aA0)]; exact aA2
  have mA3 : (mk ((w1.alloc (.cells #[.slice none 0 0, .slice none 0 0] 77)).drew)).frozen? ⟨w1.heap.size, 1, none⟩ = false := by rw [(HMB.out ((w1.alloc (.cells #[.slice none 0 0, .slice none 0 0] 77)).drew)).frozen (cell_lt aA1)]; exact aA3
  have sA0 : ((mk w1.drew).alloc (.cells #[.slice none 0 0, .slice none 0 0] 77)).cell? ⟨(mk w1.drew).heap.size, 0, none⟩ = some (.slice none 0 0) := by simp
  have sA1 : ((mk w1.drew).alloc (.cells #[.slice none 0 0, .slice none 0 0] 77)).cell? ⟨(mk w1.drew).heap.size, 1, none⟩ = some (.slice none 0 0) := by simp
  have sA2 : ((mk w1.drew).alloc (.cells #[.slice none 0 0, .slice none 0 0] 77)).frozen? ⟨(mk w1.drew).heap.size, 0, none⟩ = false := by simp
  have sA3 : ((mk w1.drew).alloc (.cells #[.slice none 0 0, .slice none 0 0] 77)).frozen? ⟨(mk w1.drew).heap.size, 1, none⟩ = false := by simp
  go_cut [3] from 6 (fun s wx => ∃ B g' : Nat, ∃ y : Value, s = .pointer (some ⟨B, 0, none⟩) ∧ Hid (OvS w1 wx B g' n y E (fun _ => .slice none 0 0) (fun _ => 0)))
  case first =>
    go_region_held3 (fun _ => True) (exact trivial)
      (first
        | (go_at_call 63; refine (HTO.out _ ?hct).mono ?_; (case hct => first | exact hcD | exact hcA | exact hcM | exact hcAM | exact hcMA); rintro e wt ⟨rfl, hwt⟩; rw [hwt]; clear hwt)
        | (go_at_call 36; refine (HNO.out _).mono ?_; rintro e w3 ⟨rv, rfl, hrv, hb3⟩; obtain ⟨ra, rl, rc, rfl⟩ := hrv.isSlice; have hB3 : Below w1.heap.size w1 w3 := (by first | exact below_chain hcD hb3 | exact below_chain hcA hb3 | exact below_chain hcM hb3 | exact below_chain hcAM hb3 | exact below_chain hcMA hb3); (try (have q0 : w3.cell? ⟨w1.heap.size, 0, none⟩ = some (.slice none 0 0) := (by first | (rw [hb3.cell (cell_lt aA0)]; exact aA0) | (rw [hb3.cell (cell_lt mA0)]; exact mA0)))); (try (have s0 : w3.cell? ⟨(mk w1.drew).heap.size, 0, none⟩ = some (.slice none 0 0) := (by rw [hb3.cell (cell_lt sA0)]; exact sA0))); (try (have q1 : w3.cell? ⟨w1.heap.size, 1, none⟩ = some (.slice none 0 0) := (by first | (rw [hb3.cell (cell_lt aA1)]; exact aA1) | (rw [hb3.cell (cell_lt mA1)]; exact mA1)))); (try (have s1 : w3.cell? ⟨(mk w1.drew).heap.size, 1, none⟩ = some (.slice none 0 0) := (by rw [hb3.cell (cell_lt sA1)]; exact sA1))); (try (have q2 : w3.frozen? ⟨w1.heap.size, 0, none⟩ = false := (by first | (rw [hb3.frozen (cell_lt aA0)]; exact aA2) | (rw [hb3.frozen (cell_lt mA0)]; exact mA2)))); (try (have s2 : w3.frozen? ⟨(mk w1.drew).heap.size, 0, none⟩ = false := (by rw [hb3.frozen (cell_lt sA0)]; exact sA2))); (try (have q3 : w3.frozen? ⟨w1.heap.size, 1, none⟩ = false := (by first | (rw [hb3.frozen (cell_lt aA1)]; exact aA3) | (rw [hb3.frozen (cell_lt mA1)]; exact mA3)))); (try (have s3 : w3.frozen? ⟨(mk w1.drew).heap.size, 1, none⟩ = false := (by rw [hb3.frozen (cell_lt sA1)]; exact sA3))); (try (have r0 : (mk w3).cell? ⟨w1.heap.size, 0, none⟩ = some (.slice none 0 0) := (by rw [(HMB.out w3).cell (cell_lt q0)]; exact q0))); have t0 : (mk (w3.alloc (.cells #[.slice none 0 0, .slice none 0 0] 77))).cell? ⟨w3.heap.size, 0, none⟩ = some (.slice none 0 0) := (by rw [(HMB.out (w3.alloc (.cells #[.slice none 0 0, .slice none 0 0] 77))).cell (by show w3.heap.size < (w3.alloc (.cells #[.slice none 0 0, .slice none 0 0] 77)).heap.size; simp)]; simp); (try (have r1 : (mk w3).cell? ⟨w1.heap.size, 1, none⟩ = some (.slice none 0 0) := (by rw [(HMB.out w3).cell (cell_lt q1)]; exact q1))); have t1 : (mk (w3.alloc (.cells #[.slice none 0 0, .slice none 0 0] 77))).cell? ⟨w3.heap.size, 1, none⟩ = some (.slice none 0 0) := (by rw [(HMB.out (w3.alloc (.cells #[.slice none 0 0, .slice none 0 0] 77))).cell (by show w3.heap.size < (w3.alloc (.cells #[.slice none 0 0, .slice none 0 0] 77)).heap.size; simp)]; simp); (try (have r2 : (mk w3).frozen? ⟨w1.heap.size, 0, none⟩ = false := (by rw [(HMB.out w3).frozen (cell_lt q0)]; exact q2))); have t2 : (mk (w3.alloc (.cells #[.slice none 0 0, .slice none 0 0] 77))).frozen? ⟨w3.heap.size, 0, none⟩ = false := (by rw [(HMB.out (w3.alloc (.cells #[.slice none 0 0, .slice none 0 0] 77))).frozen (by show w3.heap.size < (w3.alloc (.cells #[.slice none 0 0, .slice none 0 0] 77)).heap.size; simp)]; simp); (try (have r3 : (mk w3).frozen? ⟨w1.heap.size, 1, none⟩ = false := (by rw [(HMB.out w3).frozen (cell_lt q1)]; exact q3))); have t3 : (mk (w3.alloc (.cells #[.slice none 0 0, .slice none 0 0] 77))).frozen? ⟨w3.heap.size, 1, none⟩ = false := (by rw [(HMB.out (w3.alloc (.cells #[.slice none 0 0, .slice none 0 0] 77))).frozen (by show w3.heap.size < (w3.alloc (.cells #[.slice none 0 0, .slice none 0 0] 77)).heap.size; simp)]; simp); (try (have F0 : Hid (OvS w1 ((w3).alloc (.cells #[.slice (some ⟨w1.heap.size, 0, none⟩) n n, .slice ra rl rc] 77)) w3.heap.size w1.heap.size n (.slice ra rl rc) E (fun _ => .slice none 0 0) (fun _ => 0)) := ovs_late hB3 (Nat.le_refl _) (by omega) (RowIs.later (HMR.out w1.drew) hb3) hrv)); (try (have F1 : Hid (OvS w1 ((mk w3).alloc (.cells #[.slice (some ⟨w3.heap.size, 0, none⟩) n n, .slice ra rl rc] 77)) (mk w3).heap.size w3.heap.size n (.slice ra rl rc) E (fun _ => .slice none 0 0) (fun _ => 0)) := ovs_late (below_chain hB3 (HMB.out w3)) hB3.size (by omega) (HMR.out w3) (hrv.later (HMB.out w3)))); (try (have F2 : Hid (OvS w1 (((w3).setCell ⟨w1.heap.size, 0, none⟩ (.slice (some ⟨(w1.heap.size + 1), 0, none⟩) n n)).setCell ⟨w1.heap.size, 1, none⟩ (.slice ra rl rc)) w1.heap.size (w1.heap.size + 1) n (.slice ra rl rc) E (fun _ => .slice none 0 0) (fun _ => 0)) := ovs_put hB3 (Nat.le_refl _) (Nat.le_succ _) (by omega) (by have hh := RowIs.later (HMR.out ((w1.alloc (.cells #[.slice none 0 0, .slice none 0 0] 77)).drew)) hb3; rw [HZA.out] at hh; exact hh) hrv q0 q1 q3)); (try (have F3 : Hid (OvS w1 (((mk w3).setCell ⟨w1.heap.size, 0, none⟩ (.slice (some ⟨w3.heap.size, 0, none⟩) n n)).setCell ⟨w1.heap.size, 1, none⟩ (.slice ra rl rc)) w1.heap.size w3.heap.size n (.slice ra rl rc) E (fun _ => .slice none 0 0) (fun _ => 0)) := ovs_put (below_chain hB3 (HMB.out w3)) (Nat.le_refl _) hB3.size (Nat.ne_of_lt (cell_lt q0)) (HMR.out w3) (hrv.later (HMB.out w3)) r0 r1 r3)); (try (have F4 : Hid (OvS w1 (((w3).setCell ⟨(mk w1.drew).heap.size, 0, none⟩ (.slice (some ⟨w1.heap.size, 0, none⟩) n n)).setCell ⟨(mk w1.drew).heap.size, 1, none⟩ (.slice ra rl rc)) (mk w1.drew).heap.size w1.heap.size n (.slice ra rl rc) E (fun _ => .slice none 0 0) (fun _ => 0)) := ovs_put hB3 hcM.size (Nat.le_refl _) (Nat.ne_of_gt (cell_lt ((HMR.out w1.drew).row 0 (by omega)))) (RowIs.later (RowIs.later (HMR.out w1.drew) ((Below.refl _ _).alloc (Nat.le_refl _) _)) hb3) hrv s0 s1 s3)); (try (have F5 : Hid (OvS w1 (((mk (w3.alloc (.cells #[.slice none 0 0, .slice none 0 0] 77))).setCell ⟨w3.heap.size, 0, none⟩ (.slice (some ⟨(w3.heap.size + 1), 0, none⟩) n n)).setCell ⟨w3.heap.size, 1, none⟩ (.slice ra rl rc)) w3.heap.size (w3.heap.size + 1) n (.slice ra rl rc) E (fun _ => .slice none 0 0) (fun _ => 0)) := ovs_put (below_chain (hB3.alloc hB3.size _) (HMB.out (w3.alloc (.cells #[.slice none 0 0, .slice none 0 0] 77)))) hB3.size (Nat.le_succ_of_le hB3.size) (by omega) (by have hh := HMR.out (w3.alloc (.cells #[.slice none 0 0, .slice none 0 0] 77)); rw [World.size_alloc] at hh; exact hh) (hrv.later (below_chain ((Below.refl _ _).alloc (Nat.le_refl _) _) (HMB.out (w3.alloc (.cells #[.slice none 0 0, .slice none 0 0] 77))))) t0 t1 t3)); have hrv9 := Hid.mk' hrv; clear hrv hb3))
    all_goals
      go_wp2_with fail
      go_meet
      first | exact ⟨_, _, _, rfl, F0⟩ | exact ⟨_, _, _, rfl, F1⟩ | exact ⟨_, _, _, rfl, F2⟩ | exact ⟨_, _, _, rfl, F3⟩ | exact ⟨_, _, _, rfl, F4⟩ | exact ⟨_, _, _, rfl, F5⟩
  case rest =>
  obtain ⟨B, g1, y, rfl, HOV⟩ := hcut
  clear hmk HMR HMB hcD hcA hcM hcAM hcMA HZA aA0 aA1 aA2 aA3 mA0 mA1 mA2 mA3 sA0 sA1 sA2 sA3 HTO HNO hwS hSI hS0I
  obtain ⟨ya, yl, yc, rfl⟩ := HOV.out.nd.isSlice
  have HOV0 : Hid (OvS w1 wc B g1 n (.slice ya yl yc) E (fun _ => .slice none 0 0) (fun j => if j < 0 then u j else 0)) := HOV.out.congr fun j _ => by rw [if_neg (by omega)]
  clear HOV
  go_wp2_with fail
  go_loopw [16] (fun t wr => ∃ (i : Nat) (F1 : Nat → Value), i ≤ n ∧ t = .int .i64 i ∧ Hid (OvS w1 wr B g1 n (.slice ya yl yc) E F1 (fun j => if j < i then u j else 0))) (fun t _ => n - (intOf t).toNat)
  case atStart => exact ⟨0, _, Nat.zero_le _, rfl, HOV0⟩
  case round =>
    clear HOV0
    obtain ⟨i, F3, hi, rfl, HOV⟩ := hrel
    rcases Nat.lt_or_ge i n with h1 | h1
    · have hiI : (i : Int) < (n : Int) := by omega
      have hi0 : (0 : Int) ≤ (i : Int) := by omega
      have hub := HUB.out i h1
      have hcx := HRO.out wr HOV.out.below i h1
      have hwx : IntKind.u64.wrap ((u i : Nat) : Int) = ((u i : Nat) : Int) := by rw [IntKind.wrap_u64]; exact Int.emod_eq_of_lt (by omega) (by omega)
      have y3 := HOV.out.nts.row.row i h1
      have y4 := HOV.out.nts.row.fz i h1
      obtain ⟨xa, xl, xc, hxe⟩ := (HOV.out.nts.nat i h1).isSlice
      rw [hxe] at y3
      have HTI : Hid (∀ W, Calls Tryz.prog 36 #[.int .u64 ((u i : Nat) : Int)] W fun e w' => ∃ v, e = .returned v ∧ NatAt w' v (u i) ∧ Below W.heap.size W w') := fun W => NatOf_allH (u i) W (by omega)
      have HKS : Hid (∀ W, Below wr.heap.size wr W → W.cell? ⟨B, 0, none⟩ = some (.slice (some ⟨g1, 0, none⟩) n n)) := fun W hb => (HOV.out.later hb).c0
      have HK2 : Hid (∀ W, Below wr.heap.size wr W → W.cell? ⟨g1, i, none⟩ = some (.slice xa xl xc)) := fun W hb => by rw [hb.cell (cell_lt y3)]; exact y3
      have HFZ : Hid (∀ W, Below wr.heap.size wr W → W.frozen? ⟨g1, i, none⟩ = false) := fun W hb => by rw [hb.frozen (show g1 < wr.heap.size from cell_lt y3)]; exact y4
      have hcur : Below wr.heap.size wr wr.drew := (Below.refl _ _).drew
      clear hxe y3 y4
      go_upto_region 5 with fail
      refine region_but_last (n := 7) (S := fun W => W.cell? ⟨B, 0, none⟩ = some (.slice (some ⟨g1, 0, none⟩) n n)) (by kernel_rfl) (by kernel_rfl) (by kernel_rfl) (HKS.out _ hcur) (fun hHeld => ?_)
      refine wpAnyH_take (i := 0) (v := ?v0c) rfl (by kernel_rfl) (by kernel_rfl) (by kernel_rfl) (fun _ _ _ h => h) (Or.inl ⟨by rfl, ?hy0c⟩) (by assumption) ?rest0c
      case hy0c => (intro w hSw; (try dsimp only at hSw); go_simp <;> (try with_reducible rfl))
      simp only [Act.put]
      refine wpAnyH_take (i := 1) (v := ?v1c) rfl (by kernel_rfl) (by kernel_rfl) (by kernel_rfl) (fun _ _ _ h => h) (Or.inl ⟨by rfl, ?hy1c⟩) (by assumption) ?rest1c
      case hy1c => (intro w hSw; (try dsimp only at hSw); go_simp <;> (try with_reducible rfl))
      simp only [Act.put]
      refine wpAnyH_take (i := 2) (v := ?v2c) rfl (by kernel_rfl) (by kernel_rfl) (by kernel_rfl) (fun _ _ _ h => h) (Or.inl ⟨by rfl, ?hy2c⟩) (by assumption) ?rest2c
      case hy2c => (intro w hSw; (try dsimp only at hSw); go_simp <;> (try with_reducible rfl))
      simp only [Act.put]
      refine wpAnyH_take (i := 3) (v := ?v3c) rfl (by kernel_rfl) (by kernel_rfl) (by kernel_rfl) (fun _ _ _ h => h) (Or.inl ⟨by rfl, ?hy3c⟩) (by assumption) ?rest3c
      case hy3c => (intro w hSw; (try dsimp only at hSw); go_simp <;> (try with_reducible rfl))
      simp only [Act.put]
      refine wpAnyH_take (i := 4) (v := ?v4c) rfl (by kernel_rfl) (by kernel_rfl) (by kernel_rfl) (fun _ _ _ h => h) (Or.inl ⟨by rfl, ?hy4c⟩) (by assumption) ?rest4c
      case hy4c => (intro w hSw; (try dsimp only at hSw); go_simp <;> (try with_reducible rfl))
      simp only [Act.put]
      refine wpAnyH_ready (rs := [5]) (by kernel_rfl) (by simp) ?_
      refine AllReadyH.cons rfl (fun K hK => ?_) AllReadyH.nil
      go_simp
      refine (HTI.out _).mono ?_
      rintro e w7 ⟨rv, rfl, hrv, hb7⟩
      obtain ⟨ta, tl, tc, rfl⟩ := hrv.isSlice
      have hcur := below_chain hcur hb7
      have z1 := HK2.out _ hcur
      have z2 := HFZ.out _ hcur
      have HO9 := Hid.mk' (((HOV.out.later hcur).putP h1 hrv).congr (Y := fun j => if j < i + 1 then u j else 0) (fun j _ => by
        by_cases e : j = i
        · subst e; rw [if_pos rfl, if_pos (by omega)]
        · rw [if_neg e]
          by_cases e2 : j < i
          · rw [if_pos e2, if_pos (by omega)]
          · rw [if_neg e2, if_neg (by omega)]))
      clear hrv hb7
      go_wp2_with fail
      refine hK.out _ _ ?_ (fun hHeld => ?_)
      · exact HKS.out _ hcur
      clear hK K
      refine wpAnyH_take (i := 6) (v := ?v6c) rfl (by kernel_rfl) (by kernel_rfl) (by kernel_rfl) (fun _ _ _ h => h) (Or.inl ⟨by rfl, ?hy6c⟩) (by assumption) ?rest6c
      case hy6c => (intro w hSw; (try dsimp only at hSw); go_simp <;> (try with_reducible rfl))
      simp only [Act.put]
      refine wpAnyH_done (by kernel_rfl) ?_ _
      refine ahead_last rfl (fun K hK => ?_)
      go_simp
      refine hK _ _ ?_
      clear hK K
      clear HTI HKS HK2 HFZ z1 z2 hHeld HOV hcur
      go_wp2_with fail
      exact ⟨⟨i + 1, _, h1, by go_num, HO9⟩, by simp [intOf]; omega⟩
    · obtain rfl : i = n := by omega
      have hiI : ¬ ((i : Int) < (i : Int)) := by omega
      have HOW : Hid (OvS w1 wr B g1 i (.slice ya yl yc) E F3 u) := HOV.out.congr fun j hj => by rw [if_pos hj]
      clear HOV
      obtain ⟨⟨d2, d3⟩, d4, d5⟩ := HC.out _ HOW.out.below
      have HFI := Hid.mk' (HOW.out.fin (R := w.heap.size) HSZ.out d2 d3)
      have k0 := HOW.out.c0
      have k1 := HOW.out.c1
      have HBE : Hid (Below w.heap.size w ((wr.setCell ⟨w.heap.size, 0, none⟩ (.slice (some ⟨g1, 0, none⟩) i i)).setCell ⟨w.heap.size, 1, none⟩ (.slice ya yl yc))) := ((HEND.out _ HOW.out.below).setCell (Nat.le_refl _) _).setCell (Nat.le_refl _) _
      have HGE : Hid (w.heap.size ≤ g1) := by have := HOW.out.hg; have := HSZ.out; show _ ≤ _; omega
      clear HOW
      go_wp2_with fail
      generalize (wr.setCell ⟨w.heap.size, 0, none⟩ (.slice (some ⟨g1, 0, none⟩) i i)).setCell ⟨w.heap.size, 1, none⟩ (.slice ya yl yc) = W9 at *
      refine bodyPost_ret (v := .agg #[.slice (some ⟨g1, 0, none⟩) i i, (.slice ya yl yc)]) (by simp [results, Tryz.results33, go_sem, HFI.out.2.2.1, HFI.out.2.2.2]) rfl ⟨_, _, rfl, ⟨_, HFI.out.1⟩, HFI.out.2.1, HGE.out, HBE.out⟩
end Go.Proofs.YthomgmhmbalnbaaGreatDoor

/- heat.weightsError: which weights of a process are right. -/
namespace Go.Proofs.YthomgmhmbalnbaaGreatDoor
open Go.RowKit

def anyB (p : Nat → Bool) : Nat → Bool
  | 0 => false
  | k + 1 => anyB p k || p k
theorem anyB_at {p : Nat → Bool} {k : Nat} (hk : p k = true) : ∀ {n : Nat}, k < n → anyB p n = true
  | 0, h => by omega
  | n + 1, h => by
    rw [anyB]
    rcases Nat.lt_or_ge k n with h1 | h1
    · rw [anyB_at hk h1]; rfl
    · obtain rfl : k = n := by omega
      rw [hk, Bool.or_true]
theorem anyB_no {p : Nat → Bool} : ∀ {n : Nat}, anyB p n = false → ∀ i, i < n → p i = false
  | 0, _, i, h => by omega
  | n + 1, h, i, hi => by
    rw [anyB, Bool.or_eq_false_iff] at h
    rcases Nat.lt_or_ge i n with h1 | h1
    · exact anyB_no h.1 i h1
    · obtain rfl : i = n := by omega
      exact h.2
theorem anyB_none {p : Nat → Bool} : ∀ {n : Nat}, (∀ i, i < n → p i = false) → anyB p n = false
  | 0, _ => rfl
  | n + 1, h => by rw [anyB, anyB_none (fun i hi => h i (by omega)), h n (by omega)]; rfl
theorem anyB_is {p : Nat → Bool} : ∀ {n : Nat}, anyB p n = true → ∃ k, k < n ∧ p k = true
  | 0, h => by cases h
  | n + 1, h => by
    rw [anyB, Bool.or_eq_true] at h
    rcases h with h | h
    · obtain ⟨k, h1, h2⟩ := anyB_is h
      exact ⟨k, by omega, h2⟩
    · exact ⟨n, by omega, h⟩
def noW (x : Int) : Bool := decide (x < 1) || decide (1000 < x)
def manyB (ns : Nat → Nat) : Nat → Bool := anyB fun i => decide (4 < ns i)
def noWs (z : Nat → Int) (n : Nat) : Bool := anyB (fun k => noW (z k)) n
def badR (n0 : Nat) (n : Nat) (z : Nat → Int) : Bool := decide (n = 0) || (decide (n ≠ n0) || noWs z n)
def wtE (L : Nat) (ns : Nat → Nat) (W : Nat → Nat → Int) (T : Nat) : Nat := if 5 < L ∨ manyB ns L = true then 2 else if L ≠ T + 1 ∨ anyB (fun i => badR (ns 0) (ns i) (W i)) L = true then 3 else 0
theorem wtE_le (L : Nat) (ns : Nat → Nat) (W : Nat → Nat → Int) (T : Nat) : wtE L ns W T ≤ 3 := by
  unfold wtE
  split
  · decide
  · split <;> decide
theorem noW_no {x : Int} (h : noW x = false) : 1 ≤ x ∧ x ≤ 1000 := by
  simp [noW] at h
  omega
theorem wtE_ok {L : Nat} {ns : Nat → Nat} {W : Nat → Nat → Int} {T : Nat} (h : wtE L ns W T = 0) : L ≤ 5 ∧ L = T + 1 ∧ 0 < ns 0 ∧ ns 0 ≤ 4 ∧ (∀ i, i < L → ns i = ns 0) ∧ ∀ i k, i < L → k < ns 0 → 1 ≤ W i k ∧ W i k ≤ 1000 := by
  unfold wtE at h
  split at h
  · cases h
  · rename_i h1
    split at h
    · cases h
    · rename_i h2
      have h3 : manyB ns L = false := by
        cases hm : manyB ns L with
        | false => rfl
        | true => exact absurd (Or.inr hm) h1
      have h4 : anyB (fun i => badR (ns 0) (ns i) (W i)) L = false := by
        cases hm : anyB (fun i => badR (ns 0) (ns i) (W i)) L with
        | false => rfl
        | true => exact absurd (Or.inr hm) h2
      have hL : L = T + 1 := by omega
      have h5 : ∀ i, i < L → ns i ≠ 0 ∧ ns i = ns 0 ∧ noWs (W i) (ns i) = false := fun i hi => by
        have := anyB_no h4 i hi
        simp only [badR, Bool.or_eq_false_iff, decide_eq_false_iff_not, Decidable.not_not] at this
        exact this
      have h6 := anyB_no h3 0 (by omega)
      simp only [decide_eq_false_iff_not] at h6
      refine ⟨by omega, hL, by have := (h5 0 (by omega)).1; omega, by omega, fun i hi => (h5 i hi).2.1, fun i k hi hk => noW_no (anyB_no (h5 i hi).2.2 k (by rw [(h5 i hi).2.1]; exact hk))⟩

theorem hasMany_any (ad : Option Addr) (n cap : Nat) (w : World) (hn : n ≤ 1000000) :
    Calls Tryz.prog 52 #[.slice ad n cap] w fun e w' => e = .returned (.bool (decide (4 < n))) ∧ w' = w := by
  by_cases h : 4 < n
  · have hI : (4 : Int) < (n : Int) := by omega
    rw [decide_eq_true h]
    go_enter Tryz.func52, Tryz.ntmps52
    go_wp2_with fail
    go_ret
    exact ⟨rfl, rfl⟩
  · have hI : ¬ (4 : Int) < (n : Int) := by omega
    rw [decide_eq_false h]
    go_enter Tryz.func52, Tryz.ntmps52
    go_wp2_with fail
    go_ret
    exact ⟨rfl, rfl⟩
theorem isNoW_any (x : Int) (w : World) :
    Calls Tryz.prog 54 #[.int .i64 x] w fun e w' => e = .returned (.bool (noW x)) ∧ w' = w := by
  by_cases h : x < 1
  · have hd : decide (x < 1) = true := decide_eq_true h
    have HR : Hid (noW x = true) := by show _ = _; rw [noW, hd]; rfl
    clear h
    go_enter Tryz.func54, Tryz.ntmps54
    go_wp2_with fail
    go_ret
    exact ⟨by rw [HR.out]; rfl, rfl⟩
  · have hd : decide (x < 1) = false := decide_eq_false h
    have HR : Hid (noW x = decide (1000 < x)) := by show _ = _; rw [noW, hd]; rfl
    clear h
    go_enter Tryz.func54, Tryz.ntmps54
    go_wp2_with fail
    go_ret
    exact ⟨by rw [HR.out]; rfl, rfl⟩

set_option maxRecDepth 100000 in
set_option maxHeartbeats 1000000 in
theorem IndexFunc_many (v : Value) (n : Nat) (vs : Nat → Value) (ns : Nat → Nat) (zs : Nat → Nat → Int) (w : World) (h : TabAt w v n vs ns zs) (hn : n ≤ 16) (hns : ∀ i, i < n → ns i ≤ 1000000) :
    Calls Tryz.prog 82 #[v, .func (.func 52) #[] #[]] w fun e w' => (∃ x : Int, e = .returned (.int .i64 x) ∧ ((0 ≤ x ↔ manyB ns n = true) ∧ -1 ≤ x ∧ x ≤ 16)) ∧ w' = w := by
  obtain ⟨ad, cap, rfl⟩ := h.form
  have HT := Hid.mk' h
  have HNS := Hid.mk' hns
  clear h hns
  go_enter Tryz.func82, Tryz.ntmps82
  go_wp2_with fail
  go_loop [8] (fun t => ∃ k : Nat, k ≤ n ∧ t = .int .i64 k ∧ Hid (manyB ns k = false)) (fun t => n - (intOf t).toNat)
  case atStart => exact ⟨0, Nat.zero_le _, rfl, rfl⟩
  case round =>
    obtain ⟨k, hk, rfl, HS⟩ := hrel
    rcases Nat.lt_or_ge k n with h1 | h1
    · have hkI : (k : Int) < (n : Int) := by omega
      have hk0 : (0 : Int) ≤ (k : Int) := by omega
      obtain ⟨b, o, rfl, hc, hnum⟩ : ∃ b o, ad = some ⟨b, o, none⟩ ∧ w.cell? ⟨b, o + k, none⟩ = some (vs k) ∧ NumsAt w (vs k) (ns k) (zs k) := by
        rcases HT.out with ⟨_, _, h1', h2'⟩ | ⟨b, o, c, h1', _, h2⟩
        · omega
        · simp only [Value.slice.injEq, true_and] at h1'
          exact ⟨b, o, h1'.1, h2 k h1⟩
      obtain ⟨rad, rcap, hre⟩ := hnum.form
      rw [hre] at hc
      have hnk := HNS.out k h1
      have hlg := hasMany_any rad (ns k) rcap w hnk
      have HX : Hid (4 < ns k → manyB ns n = true) := fun hl => anyB_at (p := fun i => decide (4 < ns i)) (decide_eq_true hl) h1
      have HL : Hid (manyB ns (k + 1) = decide (4 < ns k)) := by show (manyB ns k || _) = _; rw [HS.out, Bool.false_or]
      clear hre hnum
      generalize ns k = nk at *
      rcases Nat.lt_or_ge 4 nk with h5 | h5
      · rw [decide_eq_true h5] at hlg
        have HX' := Hid.mk' (HX.out h5)
        go_wp2_with fail
        refine hlg.mono ?_
        clear hlg
        rintro e w2 ⟨rfl, hw2⟩
        go_wp2_with fail
        go_ret
        exact ⟨⟨_, rfl, ⟨fun _ => HX'.out, fun _ => hk0⟩, by omega, by omega⟩, rfl⟩
      · rw [decide_eq_false (by omega)] at hlg
        have HL' : Hid (manyB ns (k + 1) = false) := by show _ = _; rw [HL.out]; exact decide_eq_false (by omega)
        go_wp2_with fail
        refine hlg.mono ?_
        clear hlg
        rintro e w2 ⟨rfl, hw2⟩
        go_wp2_with fail
        exact ⟨⟨k + 1, h1, by go_num, HL'⟩, by simp [intOf]; omega⟩
    · obtain rfl : n = k := by omega
      go_wp2_with fail
      go_ret
      exact ⟨⟨_, rfl, ⟨(fun h => by omega), (fun h => by rw [HS.out] at h; cases h)⟩, by omega, by omega⟩, rfl⟩
set_option maxRecDepth 100000 in
theorem ContainsFunc_many (v : Value) (n : Nat) (vs : Nat → Value) (ns : Nat → Nat) (zs : Nat → Nat → Int) (w : World) (h : TabAt w v n vs ns zs) (hn : n ≤ 16) (hns : ∀ i, i < n → ns i ≤ 1000000) :
    Calls Tryz.prog 51 #[v, .func (.func 52) #[] #[]] w fun e w' => e = .returned (.bool (manyB ns n)) ∧ w' = w := by
  have hI := IndexFunc_many v n vs ns zs w h hn hns
  obtain ⟨ad, cap, rfl⟩ := h.form
  clear h
  go_enter Tryz.func51, Tryz.ntmps51
  go_wp2_with fail
  refine hI.mono ?_
  clear hI
  rintro e w2 ⟨⟨x, rfl, hx, hx1, hx2⟩, hw2⟩
  have HX := Hid.mk' hx
  clear hx
  cases hl : manyB ns n with
  | true =>
    have h0 : 0 ≤ x := HX.out.2 hl
    have HL := Hid.mk' hl
    clear hl
    go_wp2_with fail
    go_ret
    exact ⟨by rw [HL.out]; rfl, rfl⟩
  | false =>
    have h0 : decide (0 ≤ x) = false := decide_eq_false fun h => by rw [HX.out.1 h] at hl; cases hl
    have HL := Hid.mk' hl
    clear hl
    go_wp2_with fail
    go_ret
    exact ⟨by rw [HL.out]; rfl, rfl⟩
set_option maxRecDepth 100000 in
set_option maxHeartbeats 1000000 in
theorem IndexFunc_noW (v : Value) (n : Nat) (z : Nat → Int) (w : World) (h : NumsAt w v n z) (hn : n ≤ 16) :
    Calls Tryz.prog 83 #[v, .func (.func 54) #[] #[]] w fun e w' => (∃ x : Int, e = .returned (.int .i64 x) ∧ ((0 ≤ x ↔ noWs z n = true) ∧ -1 ≤ x ∧ x ≤ 16)) ∧ w' = w := by
  obtain ⟨ad, cap, rfl⟩ := h.form
  have HT := Hid.mk' h
  clear h
  go_enter Tryz.func83, Tryz.ntmps83
  go_wp2_with fail
  go_loop [8] (fun t => ∃ k : Nat, k ≤ n ∧ t = .int .i64 k ∧ Hid (noWs z k = false)) (fun t => n - (intOf t).toNat)
  case atStart => exact ⟨0, Nat.zero_le _, rfl, rfl⟩
  case round =>
    obtain ⟨k, hk, rfl, HS⟩ := hrel
    rcases Nat.lt_or_ge k n with h1 | h1
    · have hkI : (k : Int) < (n : Int) := by omega
      have hk0 : (0 : Int) ≤ (k : Int) := by omega
      obtain ⟨b, o, rfl, hc⟩ : ∃ b o, ad = some ⟨b, o, none⟩ ∧ w.cell? ⟨b, o + k, none⟩ = some (.int .i64 (z k)) := by
        rcases HT.out with ⟨_, _, h1', h2'⟩ | ⟨b, o, c, h1', _, h2⟩
        · omega
        · simp only [Value.slice.injEq, true_and] at h1'
          exact ⟨b, o, h1'.1, h2 k h1⟩
      have hlg := isNoW_any (z k) w
      have HX : Hid (noW (z k) = true → noWs z n = true) := fun hl => anyB_at (p := fun i => noW (z i)) hl h1
      have HL : Hid (noWs z (k + 1) = noW (z k)) := by show (noWs z k || _) = _; rw [HS.out, Bool.false_or]
      generalize noW (z k) = B at *
      generalize z k = zk at *
      cases B with
      | true =>
        have HX' := Hid.mk' (HX.out rfl)
        go_wp2_with fail
        refine hlg.mono ?_
        clear hlg
        rintro e w2 ⟨rfl, hw2⟩
        go_wp2_with fail
        go_ret
        exact ⟨⟨_, rfl, ⟨fun _ => HX'.out, fun _ => hk0⟩, by omega, by omega⟩, rfl⟩
      | false =>
        go_wp2_with fail
        refine hlg.mono ?_
        clear hlg
        rintro e w2 ⟨rfl, hw2⟩
        go_wp2_with fail
        exact ⟨⟨k + 1, h1, by go_num, HL⟩, by simp [intOf]; omega⟩
    · obtain rfl : n = k := by omega
      go_wp2_with fail
      go_ret
      exact ⟨⟨_, rfl, ⟨(fun h => by omega), (fun h => by rw [HS.out] at h; cases h)⟩, by omega, by omega⟩, rfl⟩
set_option maxRecDepth 100000 in
theorem ContainsFunc_noW (v : Value) (n : Nat) (z : Nat → Int) (w : World) (h : NumsAt w v n z) (hn : n ≤ 16) :
    Calls Tryz.prog 53 #[v, .func (.func 54) #[] #[]] w fun e w' => e = .returned (.bool (noWs z n)) ∧ w' = w := by
  have hI := IndexFunc_noW v n z w h hn
  obtain ⟨ad, cap, rfl⟩ := h.form
  clear h
  go_enter Tryz.func53, Tryz.ntmps53
  go_wp2_with fail
  refine hI.mono ?_
  clear hI
  rintro e w2 ⟨⟨x, rfl, hx, hx1, hx2⟩, hw2⟩
  have HX := Hid.mk' hx
  clear hx
  cases hl : noWs z n with
  | true =>
    have h0 : 0 ≤ x := HX.out.2 hl
    have HL := Hid.mk' hl
    clear hl
    go_wp2_with fail
    go_ret
    exact ⟨by rw [HL.out]; rfl, rfl⟩
  | false =>
    have h0 : decide (0 ≤ x) = false := decide_eq_false fun h => by rw [HX.out.1 h] at hl; cases hl
    have HL := Hid.mk' hl
    clear hl
    go_wp2_with fail
    go_ret
    exact ⟨by rw [HL.out]; rfl, rfl⟩

set_option maxRecDepth 100000 in
set_option maxHeartbeats 4000000 in
theorem weightsError_any (a : Nat → Addr) (v : Value) (L : Nat) (vs : Nat → Value) (ns : Nat → Nat) (W : Nat → Nat → Int) (sa : Option Addr) (T sc : Nat) (w : World) (hE : Errs w a) (h : TabAt w v L vs ns W) (hL : L ≤ 1000000) (hns : ∀ i, i < L → ns i ≤ 1000000) (hT : T ≤ 1000000) :
    Calls Tryz.prog 25 #[.agg #[v, .slice sa T sc]] w fun e w' => e = .returned (errV a (wtE L ns W T)) ∧ Below w.heap.size w w' := by
  obtain ⟨ad, cap, rfl⟩ := h.form
  obtain ⟨w1, hw1⟩ : ∃ w1, w1 = w.alloc (.cells #[.slice ad L cap, .slice sa T sc] 32) := ⟨_, rfl⟩
  have hb1 : Below w.heap.size w w1 := by rw [hw1]; exact (Below.refl _ _).alloc (Nat.le_refl _) _
  have c0 : w1.cell? ⟨w.heap.size, 0, none⟩ = some (.slice ad L cap) := by rw [hw1]; go_simp
  have c1 : w1.cell? ⟨w.heap.size, 1, none⟩ = some (.slice sa T sc) := by rw [hw1]; go_simp
  have hT1 := h.later hb1
  have cB := (hE.below hb1).c1
  have cS := (hE.below hb1).c2
  have HB1 := Hid.mk' hb1
  have HW1 := Hid.mk' hw1
  have hLI : (L : Int) ≤ 1000000 := by omega
  have hTI : (T : Int) ≤ 1000000 := by omega
  clear h hE hb1 hw1
  by_cases h5 : 5 < L
  · have hI : (5 : Int) < (L : Int) := by omega
    have HR : Hid (wtE L ns W T = 2) := by show _ = _; unfold wtE; rw [if_pos (Or.inl h5)]
    clear hT1 hns h5
    go_enter Tryz.func25, Tryz.ntmps25
    go_upto_region 1 with fail
    rw [← HW1.out]
    go_wp2_with fail
    go_ret
    exact ⟨by rw [HR.out]; rfl, HB1.out⟩
  · have hI : ¬ (5 : Int) < (L : Int) := by omega
    have hI2 : decide ((5 : Int) < (L : Int)) = false := decide_eq_false hI
    have HCF := Hid.mk' (ContainsFunc_many (.slice ad L cap) L vs ns W w1 hT1 (by omega) hns)
    cases hm : manyB ns L with
    | true =>
      have HR : Hid (wtE L ns W T = 2) := by show _ = _; unfold wtE; rw [if_pos (Or.inr hm)]
      rw [hm] at HCF
      clear hT1 hns h5 hm
      go_enter Tryz.func25, Tryz.ntmps25
      go_upto_region 1 with fail
      rw [← HW1.out]
      go_wp2_with fail
      refine HCF.out.mono ?_
      rintro e w2 ⟨rfl, hw2⟩
      rw [hw2]
      clear hw2
      go_wp2_with fail
      go_ret
      exact ⟨by rw [HR.out]; rfl, HB1.out⟩
    | false =>
      rw [hm] at HCF
      by_cases hLT : L = T + 1
      · have hne : ((L : Int) != (T : Int) + 1) = false := by rw [bne_eq_false_iff_eq]; omega
        have HR : Hid (wtE L ns W T = if anyB (fun i => badR (ns 0) (ns i) (W i)) L = true then 3 else 0) := by
          show _ = _
          unfold wtE
          rw [if_neg (by rw [hm]; simp; omega)]
          by_cases hq : anyB (fun i => badR (ns 0) (ns i) (W i)) L = true
          · rw [if_pos (Or.inr hq), if_pos hq]
          · rw [if_neg (fun hc => hc.elim (fun h => h hLT) hq), if_neg hq]
        have HN4 : Hid (∀ i, i < L → ns i ≤ 4) := fun i hi => by
          have := anyB_no (p := fun i => decide (4 < ns i)) hm i hi
          simp only [decide_eq_false_iff_not] at this
          omega
        obtain ⟨b, o, rfl, hrows⟩ : ∃ b o, ad = some ⟨b, o, none⟩ ∧ ∀ i, i < L → w1.cell? ⟨b, o + i, none⟩ = some (vs i) ∧ NumsAt w1 (vs i) (ns i) (W i) := by
          rcases hT1 with ⟨_, _, _, h1⟩ | ⟨b, o, c, h1, _, h2⟩
          · omega
          · simp only [Value.slice.injEq, true_and] at h1
            exact ⟨b, o, h1.1, h2⟩
        have HRO := Hid.mk' hrows
        obtain ⟨ra, rc, hr0⟩ := (hrows 0 (by omega)).2.form
        have d0 := (hrows 0 (by omega)).1
        rw [hr0, Nat.add_zero] at d0
        have hL0 : (0 : Int) < (L : Int) := by omega
        have hn0 := HN4.out 0 (by omega)
        have hn0I : ((ns 0 : Nat) : Int) ≤ 4 := by omega
        have HL0 : Hid (0 < L) := by show _ < _; omega
        clear hT1 hns h5 hm hrows hr0
        clear hLT
        have HBAD : Hid (∀ k, k < L → badR (ns 0) (ns k) (W k) = true → wtE L ns W T = 3) := fun k hk hb => by rw [HR.out, if_pos (anyB_at (p := fun i => badR (ns 0) (ns i) (W i)) hb hk)]
        have HGO : Hid (anyB (fun i => badR (ns 0) (ns i) (W i)) L = false → wtE L ns W T = 0) := fun hq => by rw [HR.out, hq]; rfl
        have HDEF : Hid (∀ k, badR (ns 0) (ns k) (W k) = (decide (ns k = 0) || (decide (ns k ≠ ns 0) || noWs (W k) (ns k)))) := fun k => rfl
        clear HR
        generalize hn0e : ns 0 = n0 at *
        have HN0 := Hid.mk' hn0e
        clear hn0e
        go_enter Tryz.func25, Tryz.ntmps25
        go_upto_region 1 with fail
        rw [← HW1.out]
        go_wp2_with fail
        refine HCF.out.mono ?_
        rintro e w2 ⟨rfl, hw2⟩
        rw [hw2]
        clear hw2 HCF
        go_wp2_with fail
        go_loopw [27] (fun t wr => ∃ k : Nat, k ≤ L ∧ t = .int .i64 k ∧ Hid (anyB (fun i => badR n0 (ns i) (W i)) k = false) ∧ wr = w1) (fun t _ => L - (intOf t).toNat)
        case atStart => exact ⟨0, Nat.zero_le _, rfl, rfl, rfl⟩
        case round =>
          obtain ⟨k, hk, rfl, HS, rfl⟩ := hrel
          rcases Nat.lt_or_ge k L with h1 | h1
          · have hkI : (k : Int) < (L : Int) := by omega
            have hk0 : (0 : Int) ≤ (k : Int) := by omega
            obtain ⟨hc, hnum⟩ := HRO.out k h1
            obtain ⟨rad, rcap, hre⟩ := hnum.form
            rw [hre] at hc hnum
            have hnk := HN4.out k h1
            have hnkI : ((ns k : Nat) : Int) ≤ 4 := by omega
            have HD := Hid.mk' (HDEF.out k)
            have HBD := Hid.mk' (HBAD.out k h1)
            have HNX : Hid (badR n0 (ns k) (W k) = false → anyB (fun i => badR n0 (ns i) (W i)) (k + 1) = false) := fun hq => by rw [anyB, HS.out]; exact hq
            have HCW := Hid.mk' (ContainsFunc_noW _ (ns k) (W k) wr hnum (by omega))
            clear hre hnum
            generalize badR n0 (ns k) (W k) = BB at HD HBD HNX
            generalize noWs (W k) (ns k) = NB at HD HCW
            generalize ns k = nk at *
            by_cases hz : nk = 0
            · have hzd : ((nk : Int) == 0) = true := by rw [beq_iff_eq]; omega
              have HF := Hid.mk' (HBD.out (by rw [HD.out, decide_eq_true hz]; rfl))
              clear hz
              go_wp2_with fail
              go_ret
              exact ⟨by rw [HF.out]; rfl, HB1.out⟩
            · have hzd : ((nk : Int) == 0) = false := by rw [beq_eq_false_iff_ne]; omega
              by_cases hs : nk = n0
              · have hsd : ((nk : Int) != (n0 : Int)) = false := by rw [bne_eq_false_iff_eq]; omega
                have HD2 : Hid (BB = NB) := by show _ = _; rw [HD.out, decide_eq_false hz, decide_eq_false (by simpa using hs)]; rfl
                clear hz hs
                go_wp2_with fail
                refine HCW.out.mono ?_
                rintro e w3 ⟨rfl, hw3⟩
                rw [hw3]
                clear hw3 HCW
                cases NB with
                | true =>
                  have HF := Hid.mk' (HBD.out HD2.out)
                  go_wp2_with fail
                  go_ret
                  exact ⟨by rw [HF.out]; rfl, HB1.out⟩
                | false =>
                  have HF := Hid.mk' (HNX.out HD2.out)
                  go_wp2_with fail
                  exact ⟨⟨k + 1, h1, by go_num, HF, trivial⟩, by simp [intOf]; omega⟩
              · have hsd : ((nk : Int) != (n0 : Int)) = true := by rw [bne_iff_ne]; omega
                have HF := Hid.mk' (HBD.out (by rw [HD.out, decide_eq_false hz, decide_eq_true (by simpa using hs)]; rfl))
                clear hz hs
                go_wp2_with fail
                go_ret
                exact ⟨by rw [HF.out]; rfl, HB1.out⟩
          · obtain rfl : k = L := by omega
            have HF := Hid.mk' (HGO.out HS.out)
            go_wp2_with fail
            go_ret
            exact ⟨by rw [HF.out]; rfl, HB1.out⟩
      · have hne : ((L : Int) != (T : Int) + 1) = true := by rw [bne_iff_ne]; omega
        have HR : Hid (wtE L ns W T = 3) := by show _ = _; unfold wtE; rw [if_neg (by rw [hm]; simp; omega), if_pos (Or.inl hLT)]
        clear hT1 hns h5 hm hLT
        go_enter Tryz.func25, Tryz.ntmps25
        go_upto_region 1 with fail
        rw [← HW1.out]
        go_wp2_with fail
        refine HCF.out.mono ?_
        rintro e w2 ⟨rfl, hw2⟩
        rw [hw2]
        clear hw2
        go_wp2_with fail
        go_ret
        exact ⟨by rw [HR.out]; rfl, HB1.out⟩
end Go.Proofs.YthomgmhmbalnbaaGreatDoor

/- coded of an error by its number. -/
namespace Go.Proofs.YthomgmhmbalnbaaGreatDoor
open Go.RowKit

theorem coded_errV (a : Nat → Addr) (c : Nat) (hc : c ≤ 8) (w : World) (h : Errs w a) :
    Calls Tryz.prog 21 #[errV a c, .int .i64 (c : Int)] w fun e w' => e = .returned (.bool true) ∧ Below w.heap.size w w' := by
  by_cases h0 : c = 0
  · subst h0
    rw [errV_zero]
    refine (coded_nil 0 w).mono ?_
    rintro e w' ⟨rfl, rfl⟩
    exact ⟨rfl, Below.refl _ _⟩
  · rw [errV_pos a h0]
    have h1 := coded_err a (c - 1) (by omega) (c : Int) w h
    have e : decide ((c : Int) = ((c - 1 : Nat) : Int) + 1) = true := decide_eq_true (by omega)
    rw [e] at h1
    exact h1
end Go.Proofs.YthomgmhmbalnbaaGreatDoor

/- The document's TableError; the law's copies of tables. -/
namespace Go.Proofs.YthomgmhmbalnbaaGreatDoor
open Go.RowKit

theorem tabErr_many {R : Nat} {ns : Nat → Nat} {zs : Nat → Nat → Int} (h : 16 < R) : tabErr R ns zs = 2 := by unfold tabErr; exact if_pos h
theorem tabErr_long {R : Nat} {ns : Nat → Nat} {zs : Nat → Nat → Int} (h : ¬ 16 < R) (hl : longB ns R = true) : tabErr R ns zs = 2 := by unfold tabErr; rw [if_neg h, if_pos hl]
theorem tabErr_uneven {R : Nat} {ns : Nat → Nat} {zs : Nat → Nat → Int} (h : ¬ 16 < R) (hl : longB ns R = false) (hu : unevenB ns R = true) : tabErr R ns zs = 3 := by unfold tabErr; rw [if_neg h, if_neg (by rw [hl]; simp), if_pos hu]
theorem tabErr_even {R : Nat} {ns : Nat → Nat} {zs : Nat → Nat → Int} (h : ¬ 16 < R) (hl : longB ns R = false) (hu : unevenB ns R = false) : tabErr R ns zs = listErr (atF (flatL ns zs R)) (flatL ns zs R).length := by unfold tabErr; rw [if_neg h, if_neg (by rw [hl]; simp), if_neg (by rw [hu]; simp)]
theorem not_long {ns : Nat → Nat} : ∀ {n : Nat}, longB ns n = false → ∀ i, i < n → ns i ≤ 16
  | n, h, i, hi => by
    rcases Nat.lt_or_ge 16 (ns i) with h' | h'
    · rw [longB_mono hi h'] at h; cases h
    · exact h'
theorem sumT_le {ns : Nat → Nat} {B : Nat} : ∀ {n : Nat}, (∀ i, i < n → ns i ≤ B) → sumT ns n ≤ n * B
  | 0, _ => Nat.zero_le _
  | n + 1, h => by
    have h1 := sumT_le (ns := ns) (B := B) (n := n) (fun i hi => h i (by omega))
    have h2 := h n (by omega)
    show sumT ns n + ns n ≤ (n + 1) * B
    rw [Nat.add_mul]; omega
theorem sumT_small {ns : Nat → Nat} {R : Nat} (hR : ¬ 16 < R) (hl : longB ns R = false) : sumT ns R ≤ 256 := by
  have h1 := sumT_le (ns := ns) (B := 16) (not_long hl)
  have h2 : R * 16 ≤ 16 * 16 := Nat.mul_le_mul_right _ (by omega)
  omega

end Go.Proofs.YthomgmhmbalnbaaGreatDoor

/- The law's copies of tables; the program's list of a table's weights. -/
namespace Go.Proofs.YthomgmhmbalnbaaGreatDoor
open Go.RowKit

theorem Tryz.infoInts : (Tryz.prog.info? 41).map (fun i => (i.zero, i.size, i.bytes)) = some (some (.slice none 0 0), 1, 24) := by kernel_rfl
def rowV (vs : Nat → Value) (k : Nat) : List Value := (List.range k).map vs
theorem rowV_length (vs : Nat → Value) (k : Nat) : (rowV vs k).length = k := by simp [rowV]
theorem rowV_push (vs : Nat → Value) (k : Nat) (v : Value) : rowV vs k ++ [v] = rowV (fun i => if i = k then v else vs i) (k + 1) := by
  unfold rowV
  rw [List.range_succ, List.map_append]
  congr 1
  · refine List.map_congr_left (fun i hi => ?_)
    have := List.mem_range.1 hi
    rw [if_neg (by omega)]
  · simp
theorem tabAt_of_row {w : World} {base : Nat} {t : TypeId} {v : Value} {R : Nat} {vs : Nat → Value} {ns : Nat → Nat} {zs : Nat → Nat → Int} (h : w.ownsRow base t 1 v R (rowV vs R)) (hn : ∀ i, i < R → NumsAt w (vs i) (ns i) (zs i)) : TabAt w v R vs ns zs := by
  rcases h.2 with ⟨hv, h0⟩ | ⟨g, cap, cur, hv, _, hh, _, _, hs, ht⟩
  · exact Or.inl ⟨none, 0, hv, h0⟩
  · rcases Nat.eq_zero_or_pos R with h0 | h0
    · exact Or.inl ⟨_, _, by rw [hv, h0], h0⟩
    · refine Or.inr ⟨g, 0, cap, hv, h0, fun i hi => ⟨?_, hn i hi⟩⟩
      have h1 : (rowV vs R)[i]? = some (vs i) := by simp [rowV, hi]
      rw [← h1, ← ht, List.getElem?_take_of_lt (by omega)]
      simp [World.cell?, hh]
theorem own_past {w w' : World} {base : Nat} {t : TypeId} {sz : Nat} {v : Value} {n : Nat} {xs : List Value} (h : w.ownsRow base t sz v n xs) (hb : Below w.heap.size w w') : w'.ownsRow base t sz v n xs := by
  obtain ⟨hl, hr⟩ := h
  refine ⟨hl, ?_⟩
  rcases hr with hr | ⟨g, cap, cur, hv, hb1, hh, rest⟩
  · exact Or.inl hr
  · exact Or.inr ⟨g, cap, cur, hv, hb1, by rw [hb.block g (heap_lt hh)]; exact hh, rest⟩
/-- A row of another kind beside the one that is grown. -/
theorem own_beside {w w' : World} {b1 b2 : Nat} {t1 t2 : TypeId} {v u : Value} {n m s1 s2 : Nat} {xs ys : List Value} (h : w.ownsRow b1 t1 s1 v n xs) (k : w.ownsRow b2 t2 s2 u m ys) (ht : t1 ≠ t2) (hg : w.grownBy w' u.ownBlock) : w'.ownsRow b1 t1 s1 v n xs := by
  obtain ⟨hl, hr⟩ := h
  refine ⟨hl, ?_⟩
  rcases hr with hr | ⟨g, cap, cur, hv, hb1, hh, rest⟩
  · exact Or.inl hr
  · refine Or.inr ⟨g, cap, cur, hv, hb1, ?_, rest⟩
    rw [hg.block g (heap_lt hh) (fun e => ?_)]
    · exact hh
    · rcases k.2 with ⟨rfl, _⟩ | ⟨g', cap', cur', rfl, _, hh', _⟩
      · cases e
      · obtain rfl : g = g' := by simpa [Value.ownBlock] using e
        rw [hh] at hh'
        simp at hh'
        exact ht hh'.2
set_option maxRecDepth 100000 in
set_option maxHeartbeats 2000000 in
theorem lists_own (v : Value) (R : Nat) (vs : Nat → Value) (ns : Nat → Nat) (zs : Nat → Nat → Int) (w : World) (h : TabAt w v R vs ns zs) (hR : R ≤ 70) (hs : sumT ns R ≤ 600) :
    Calls Tryz.prog 28 #[v] w fun e w' => ∃ v' vs', e = .returned v' ∧ w'.ownsRow w.heap.size 41 1 v' R (rowV vs' R) ∧ (∀ i, i < R → w'.ownsRow w.heap.size 3 1 (vs' i) (ns i) (numCells (zs i) (ns i))) ∧ Below w.heap.size w w' := by
  rcases h with ⟨ad, cap, rfl, rfl⟩ | ⟨b, o, cap, rfl, h0, hr⟩
  · go_enter Tryz.func28, Tryz.ntmps28
    go_wp2_with fail
    refine wp_loop_rounds 1 ?_
    rw [rounds_succ]
    go_wp2_with fail
    go_ret
    exact ⟨_, vs, rfl, ⟨rfl, Or.inl ⟨rfl, rfl⟩⟩, (fun i hi => by omega), Below.refl _ _⟩
  · obtain ⟨i0, hi, hz0, hz1, hz2⟩ := info_parts Tryz.infoInts
    have HINF : Hid (Tryz.prog.info? 41 = some i0 ∧ i0.zero = some (.slice none 0 0) ∧ i0.size = 1 ∧ i0.bytes = 24) := ⟨hi, hz0, hz1, hz2⟩
    have HR := Hid.mk' hr
    have HN : Hid (∀ i, i < R → ns i ≤ 600) := fun i hi => by have h2 : sumT ns i + ns i ≤ sumT ns R := sumT_mono ns hi; omega
    clear hi hz0 hz1 hz2 hr
    go_enter Tryz.func28, Tryz.ntmps28
    go_wp2_with fail
    go_loopw [3, 4] (fun u i wr => ∃ (k : Nat) (us : Nat → Value), k ≤ R ∧ i = .int .i64 k ∧ Hid (wr.ownsRow w.heap.size 41 1 u k (rowV us k)) ∧ Hid (∀ i, i < k → wr.ownsRow w.heap.size 3 1 (us i) (ns i) (numCells (zs i) (ns i))) ∧ Hid (Below w.heap.size w wr)) (fun _ i _ => R - (intOf i).toNat)
    case atStart => exact ⟨0, vs, Nat.zero_le _, rfl, ⟨rfl, Or.inl ⟨rfl, rfl⟩⟩, (fun i hi => by omega), Below.refl _ _⟩
    case round =>
      obtain ⟨k, us, hk, rfl, HO, HNA, HB⟩ := hrel
      rcases Nat.lt_or_ge k R with h1 | h1
      · have hc := (HR.out k h1).1
        have hc' : wr.cell? ⟨b, o + k, none⟩ = some (vs k) := by rw [HB.out.cell (cell_lt hc)]; exact hc
        have hnums := (HR.out k h1).2.later HB.out
        have hints := ints_row (vs k) (ns k) (zs k) wr hnums (by have := HN.out k h1; omega)
        obtain ⟨ad1, cap1, hv1⟩ := hnums.form
        rw [hv1] at hc' hints
        have hkn : (k : Int) < (R : Int) := by omega
        clear hc hnums hv1
        go_wp2_with fail
        refine hints.mono ?_
        clear hints hc'
        rintro e w4 ⟨v4, rfl, hv4, hb4⟩
        have HO4 := Hid.mk' (own_past HO.out hb4)
        have HB4 := Hid.mk' (HB.out.trans (hb4.mono HB.out.size))
        have HA4 : Hid (∀ i, i < k → w4.ownsRow w.heap.size 3 1 (us i) (ns i) (numCells (zs i) (ns i))) := fun i hi => own_past (HNA.out i hi) hb4
        have HV4 : Hid (w4.ownsRow w.heap.size 3 1 v4 (ns k) (numCells (zs k) (ns k))) := hv4.mono HB.out.size
        obtain ⟨ad4, cap4, rfl, _⟩ := row_shape hv4
        have hz4 := HB4.out.size
        clear hv4 hb4
        go_wp2_with (at_builtin; go_must (refine wpList_append_lies _ rfl _ _ _ rfl w.heap.size 41 i0 _ 1 24 Tryz.underlying22 HINF.out.1 HINF.out.2.1 HINF.out.2.2.1 HINF.out.2.2.2 rfl (by omega) u3 _ _ rfl (HO4.out.alloc _) ⟨w4.heap.size, 0, none⟩ 1 1 [.slice ad4 (ns k) cap4] rfl rfl (one_new _ _ _) (by simp [Value.oneCell']) (by omega) (by unfold maxLen; omega) (by omega) (by simp; omega) _ rfl ?_; intro g' cap2 w5 hown5 hgrow5 hat5 hlt5; have HO5 := Hid.mk' hown5; have HG5 := Hid.mk' hgrow5; clear hown5 hgrow5 hat5))
        refine ⟨⟨k + 1, fun i => if i = k then .slice ad4 (ns k) cap4 else us i, h1, by go_num, ?_, fun i hi => ?_, below_push HB4.out HO4.out HG5.out⟩, by simp [intOf]; omega⟩
        · rw [← rowV_push]
          exact HO5
        · show World.ownsRow _ _ _ _ _ _ _
          dsimp only
          by_cases hik : i = k
          · subst hik
            rw [if_pos rfl]
            exact own_beside (own_past HV4.out ((Below.refl _ _).alloc (Nat.le_refl _) _)) (HO4.out.alloc _) (by decide) HG5.out
          · rw [if_neg hik]
            exact own_beside (own_past (HA4.out i (by omega)) ((Below.refl _ _).alloc (Nat.le_refl _) _)) (HO4.out.alloc _) (by decide) HG5.out
      · obtain rfl : k = R := by omega
        go_wp2_with fail
        go_ret
        exact ⟨_, us, rfl, HO.out, HNA.out, HB.out⟩
theorem lists_any (v : Value) (R : Nat) (vs : Nat → Value) (ns : Nat → Nat) (zs : Nat → Nat → Int) (w : World) (h : TabAt w v R vs ns zs) (hR : R ≤ 70) (hs : sumT ns R ≤ 600) :
    Calls Tryz.prog 28 #[v] w fun e w' => ∃ v' vs', e = .returned v' ∧ TabAt w' v' R vs' ns zs ∧ Below w.heap.size w w' := by
  refine (lists_own v R vs ns zs w h hR hs).mono ?_
  rintro e w' ⟨v', us, rfl, h1, h2, h3⟩
  exact ⟨_, us, rfl, tabAt_of_row h1 (fun i hi => numsAt_own (h2 i hi)), h3⟩

end Go.Proofs.YthomgmhmbalnbaaGreatDoor

/- Right chains: the document's and the program's. -/
namespace Go.Proofs.YthomgmhmbalnbaaGreatDoor
open Go.RowKit

/-- A row among the first k that is of another length, below 0 or nothing; one that is too great. -/
def shapeB (n : Nat) (ns : Nat → Nat) (zs : Nat → Nat → Int) : Nat → Bool
  | 0 => false
  | k + 1 => shapeB n ns zs k || decide (ns k ≠ n ∨ listErr (zs k) (ns k) = 3)
def boundB (ns : Nat → Nat) (zs : Nat → Nat → Int) : Nat → Bool
  | 0 => false
  | k + 1 => boundB ns zs k || decide (listErr (zs k) (ns k) ≠ 0)
def chainErr (n : Nat) (ns : Nat → Nat) (zs : Nat → Nat → Int) : Nat := if 8 < n then 2 else if n = 0 then 3 else if shapeB n ns zs n = true then 3 else if boundB ns zs n = true then 2 else 0
theorem shapeB_at {n : Nat} {ns : Nat → Nat} {zs : Nat → Nat → Int} {k : Nat} : ∀ {m : Nat}, k < m → (ns k ≠ n ∨ listErr (zs k) (ns k) = 3) → shapeB n ns zs m = true
  | 0, h, _ => by omega
  | m + 1, h, hb => by
    rw [shapeB]
    rcases Nat.lt_or_ge k m with h1 | h1
    · rw [shapeB_at h1 hb]; rfl
    · obtain rfl : k = m := by omega
      rw [decide_eq_true hb]; simp
theorem shapeB_none {n : Nat} {ns : Nat → Nat} {zs : Nat → Nat → Int} : ∀ {m : Nat}, shapeB n ns zs m = false → ∀ k, k < m → ns k = n ∧ listErr (zs k) (ns k) ≠ 3
  | 0, _, k, h => by omega
  | m + 1, h, k, hk => by
    rw [shapeB, Bool.or_eq_false_iff] at h
    rcases Nat.lt_or_ge k m with h1 | h1
    · exact shapeB_none h.1 k h1
    · obtain rfl : k = m := by omega
      have := of_decide_eq_false h.2
      exact ⟨by omega, by omega⟩
theorem boundB_none {ns : Nat → Nat} {zs : Nat → Nat → Int} : ∀ {m : Nat}, boundB ns zs m = false → ∀ k, k < m → listErr (zs k) (ns k) = 0
  | 0, _, k, h => by omega
  | m + 1, h, k, hk => by
    rw [boundB, Bool.or_eq_false_iff] at h
    rcases Nat.lt_or_ge k m with h1 | h1
    · exact boundB_none h.1 k h1
    · obtain rfl : k = m := by omega
      have := of_decide_eq_false h.2
      omega
theorem listErr_cases (z : Nat → Int) (n : Nat) : listErr z n = 0 ∨ listErr z n = 2 ∨ listErr z n = 3 := by
  unfold listErr
  split
  · exact Or.inr (Or.inr rfl)
  · split
    · exact Or.inr (Or.inl rfl)
    · exact Or.inl rfl
theorem chainErr_le (n : Nat) (ns : Nat → Nat) (zs : Nat → Nat → Int) : chainErr n ns zs ≤ 3 := by
  unfold chainErr; split; omega; split; omega; split; omega; split <;> omega
/-- What a right chain is. -/
theorem chainErr_ok {n : Nat} {ns : Nat → Nat} {zs : Nat → Nat → Int} (h : chainErr n ns zs = 0) : 0 < n ∧ n ≤ 8 ∧ (∀ i, i < n → ns i = n) ∧ ∀ i, i < n → OkW (zs i) n := by
  unfold chainErr at h
  by_cases h1 : 8 < n
  · rw [if_pos h1] at h; cases h
  rw [if_neg h1] at h
  by_cases h2 : n = 0
  · rw [if_pos h2] at h; cases h
  rw [if_neg h2] at h
  cases h3 : shapeB n ns zs n with
  | true => rw [h3, if_pos rfl] at h; cases h
  | false =>
    rw [h3, if_neg (by simp)] at h
    cases h4 : boundB ns zs n with
    | true => rw [h4, if_pos rfl] at h; cases h
    | false =>
      refine ⟨by omega, by omega, fun i hi => (shapeB_none h3 i hi).1, fun i hi => ?_⟩
      have := listErr_ok (boundB_none h4 i hi)
      rw [(shapeB_none h3 i hi).1] at this
      exact this

set_option maxRecDepth 100000 in
set_option maxHeartbeats 2000000 in
theorem ChainError_any (v : Value) (n : Nat) (vs : Nat → Value) (ns : Nat → Nat) (zs : Nat → Nat → Int) (w : World) (h : TabAt w v n vs ns zs) (hn : n ≤ 1000000) (hns : ∀ i, i < n → ns i ≤ 1000000) :
    Calls Tryz.prog 29 #[v] w fun e w' => e = .returned (.int .i64 (chainErr n ns zs : Nat)) ∧ w' = w := by
  obtain ⟨ad, cap, rfl⟩ := h.form
  have HT := Hid.mk' h
  clear h
  by_cases h8 : 8 < n
  · have hI : (8 : Int) < (n : Int) := by omega
    have he : chainErr n ns zs = 2 := by unfold chainErr; rw [if_pos h8]
    rw [he]
    go_enter Tryz.func29, Tryz.ntmps29
    go_wp2_with fail
    go_ret
    exact ⟨rfl, rfl⟩
  have hI : ¬ (8 : Int) < (n : Int) := by omega
  rcases Nat.eq_zero_or_pos n with h0 | h0
  · subst h0
    go_enter Tryz.func29, Tryz.ntmps29
    go_wp2_with fail
    go_ret
    exact ⟨rfl, rfl⟩
  have hz : ((n : Int) == 0) = false := by rw [beq_eq_false_iff_ne]; omega
  obtain ⟨b, o, rfl, hrows⟩ : ∃ b o, ad = some ⟨b, o, none⟩ ∧ ∀ i, i < n → w.cell? ⟨b, o + i, none⟩ = some (vs i) ∧ NumsAt w (vs i) (ns i) (zs i) := by
    rcases HT.out with ⟨_, _, _, h1⟩ | ⟨b, o, c, h1, _, h2⟩
    · omega
    · simp only [Value.slice.injEq, true_and] at h1
      exact ⟨b, o, h1.1, h2⟩
  have HR := Hid.mk' hrows
  have HNS := Hid.mk' hns
  have HE : Hid (chainErr n ns zs = if shapeB n ns zs n = true then 3 else if boundB ns zs n = true then 2 else 0) := by show _ = _; unfold chainErr; rw [if_neg h8, if_neg (by omega)]
  clear hrows hns
  go_enter Tryz.func29, Tryz.ntmps29
  go_wp2_with fail
  go_loop [3, 4] (fun s t => ∃ k : Nat, k ≤ n ∧ t = .int .i64 k ∧ s = .bool (boundB ns zs k) ∧ Hid (shapeB n ns zs k = false)) (fun _ t => n - (intOf t).toNat)
  case atStart => exact ⟨0, Nat.zero_le _, rfl, rfl, rfl⟩
  case round =>
    obtain ⟨k, hk, rfl, rfl, HS⟩ := hrel
    rcases Nat.lt_or_ge k n with h1 | h1
    · have hkI : (k : Int) < (n : Int) := by omega
      have hk0 : (0 : Int) ≤ (k : Int) := by omega
      obtain ⟨hc, hnum⟩ := HR.out k h1
      obtain ⟨rad, rcap, hre⟩ := hnum.form
      rw [hre] at hc hnum
      have hle := listError_any _ (ns k) (zs k) w hnum (HNS.out k h1)
      have hnk := HNS.out k h1
      by_cases hsh : ns k = n
      · have HSH := Hid.mk' hsh
        rcases listErr_cases (zs k) (ns k) with h5 | h5 | h5
        · rw [h5, hsh] at hle
          rw [hsh] at hc
          have HS' : Hid (shapeB n ns zs (k + 1) = false) := by show _ = _; rw [shapeB, HS.out, decide_eq_false (by rw [h5]; have := HSH.out; omega)]; rfl
          have HB' : Hid (boundB ns zs (k + 1) = boundB ns zs k) := by show _ = _; rw [boundB, decide_eq_false (by rw [h5]; simp)]; simp
          cases hbb : boundB ns zs k with
          | true =>
            rw [hbb] at HB'
            clear h5 hsh
            go_wp2_with fail
            refine hle.mono ?_
            clear hle
            rintro e w2 ⟨rfl, hw2⟩
            go_wp2_with fail
            exact ⟨⟨k + 1, h1, by go_num, by rw [HB'.out], HS'⟩, by simp [intOf]; omega⟩
          | false =>
            rw [hbb] at HB'
            clear h5 hsh
            go_wp2_with fail
            refine hle.mono ?_
            clear hle
            rintro e w2 ⟨rfl, hw2⟩
            go_wp2_with fail
            exact ⟨⟨k + 1, h1, by go_num, by rw [HB'.out], HS'⟩, by simp [intOf]; omega⟩
        · rw [h5, hsh] at hle
          rw [hsh] at hc
          have HS' : Hid (shapeB n ns zs (k + 1) = false) := by show _ = _; rw [shapeB, HS.out, decide_eq_false (by rw [h5]; have := HSH.out; omega)]; rfl
          have HB' : Hid (boundB ns zs (k + 1) = true) := by show _ = _; rw [boundB, decide_eq_true (by rw [h5]; simp)]; simp
          cases hbb : boundB ns zs k with
          | true =>
            clear h5 hsh
            go_wp2_with fail
            refine hle.mono ?_
            clear hle
            rintro e w2 ⟨rfl, hw2⟩
            go_wp2_with fail
            exact ⟨⟨k + 1, h1, by go_num, by rw [HB'.out], HS'⟩, by simp [intOf]; omega⟩
          | false =>
            clear h5 hsh
            go_wp2_with fail
            refine hle.mono ?_
            clear hle
            rintro e w2 ⟨rfl, hw2⟩
            go_wp2_with fail
            exact ⟨⟨k + 1, h1, by go_num, by rw [HB'.out], HS'⟩, by simp [intOf]; omega⟩
        · rw [h5, hsh] at hle
          rw [hsh] at hc
          have HV : Hid (chainErr n ns zs = 3) := by show _ = _; rw [HE.out, if_pos (shapeB_at h1 (Or.inr h5))]
          clear h5 hsh
          go_wp2_with fail
          refine hle.mono ?_
          clear hle
          rintro e w2 ⟨rfl, hw2⟩
          go_wp2_with fail
          go_ret
          exact ⟨ret_int (by rw [HV.out]; rfl), rfl⟩
      · have hne : ((ns k : Int) != (n : Int)) = true := by rw [bne_iff_ne]; omega
        have HV : Hid (chainErr n ns zs = 3) := by show _ = _; rw [HE.out, if_pos (shapeB_at h1 (Or.inl hsh))]
        clear hsh hle
        go_wp2_with fail
        go_ret
        exact ⟨ret_int (by rw [HV.out]; rfl), rfl⟩
    · obtain rfl : n = k := by omega
      cases hbb : boundB ns zs n with
      | true =>
        have HV : Hid (chainErr n ns zs = 2) := by show _ = _; rw [HE.out, HS.out, if_neg (by simp), if_pos hbb]
        go_wp2_with fail
        go_ret
        exact ⟨ret_int (by rw [HV.out]; rfl), rfl⟩
      | false =>
        have HV : Hid (chainErr n ns zs = 0) := by show _ = _; rw [HE.out, HS.out, if_neg (by simp), if_neg (by rw [hbb]; simp)]
        go_wp2_with fail
        go_ret
        exact ⟨ret_int (by rw [HV.out]; rfl), rfl⟩
end Go.Proofs.YthomgmhmbalnbaaGreatDoor

/- heat.keeps: is each step as often one way as the other? -/
namespace Go.Proofs.YthomgmhmbalnbaaGreatDoor
open Go.RowKit

/-- Are two states not changed as often one way as the other? -/
def unB (z : Nat → Int) (P : Nat → Nat → Int) (n i k : Nat) : Bool := z i * P i k * sumN (P k) n != z k * P k i * sumN (P i) n
def unK (z : Nat → Int) (P : Nat → Nat → Int) (n : Nat) : Bool := anyB (fun i => anyB (unB z P n i) i) n
theorem row_of {w : World} {v : Value} {n : Nat} {z : Nat → Int} (h : NumsAt w v n z) (h0 : 0 < n) : ∃ b o cap, v = .slice (some ⟨b, o, none⟩) n cap ∧ RowAt w b o n z := by
  rcases h with ⟨_, _, _, h1⟩ | ⟨b, o, cap, h1, _, h2⟩
  · omega
  · exact ⟨b, o, cap, h1, h2⟩
theorem tab_of {w : World} {v : Value} {n : Nat} {vs : Nat → Value} {ns : Nat → Nat} {zs : Nat → Nat → Int} (h : TabAt w v n vs ns zs) (h0 : 0 < n) : ∃ b o cap, v = .slice (some ⟨b, o, none⟩) n cap ∧ ∀ i, i < n → w.cell? ⟨b, o + i, none⟩ = some (vs i) ∧ NumsAt w (vs i) (ns i) (zs i) := by
  rcases h with ⟨_, _, _, h1⟩ | ⟨b, o, cap, h1, _, h2⟩
  · omega
  · exact ⟨b, o, cap, h1, h2⟩
theorem wrap_prod {x y : Int} (hx0 : 0 ≤ x) (hx : x ≤ 16777216) (hy0 : 0 ≤ y) (hy : y ≤ 4096) : IntKind.i64.wrap (x * y) = x * y := by
  have h1 : 0 ≤ x * y := Int.mul_nonneg hx0 hy0
  have h2 : x * y ≤ 16777216 * 4096 := Int.mul_le_mul hx hy hy0 (by decide)
  rw [IntKind.wrap_i64]
  omega
theorem prod_bd {x y : Int} (hx0 : 0 ≤ x) (hx : x ≤ 4096) (hy0 : 0 ≤ y) (hy : y ≤ 4096) : 0 ≤ x * y ∧ x * y ≤ 16777216 :=
  ⟨Int.mul_nonneg hx0 hy0, Int.le_trans (Int.mul_le_mul hx hy hy0 (by decide)) (by decide)⟩

set_option maxRecDepth 100000 in
set_option maxHeartbeats 4000000 in
theorem keeps_any (v u : Value) (n : Nat) (vs : Nat → Value) (ns : Nat → Nat) (P : Nat → Nat → Int) (z : Nat → Int) (w : World) (h : TabAt w v n vs ns P) (hz : NumsAt w u n z) (h0 : 0 < n) (hn : n ≤ 8) (hns : ∀ i, i < n → ns i = n) (hok : ∀ i, i < n → OkW (P i) n) (hw : ∀ i, i < n → 1 ≤ z i ∧ z i ≤ 1000) :
    Calls Tryz.prog 56 #[v, u] w fun e w' => e = .returned (.bool (!unK z P n)) ∧ Below w.heap.size w w' := by
  obtain ⟨b, o, cap, rfl, hr⟩ := tab_of h h0
  obtain ⟨bz, oz, cz, rfl, hrz⟩ := row_of hz h0
  have hrow : ∀ i, i < n → ∃ rb ro rc, vs i = .slice (some ⟨rb, ro, none⟩) n rc ∧ RowAt w rb ro n (P i) := fun i hi => by
    have h1 := (hr i hi).2
    rw [hns i hi] at h1
    exact row_of h1 h0
  have HR : Hid (∀ i, i < n → ∃ rb ro rc, w.cell? ⟨b, o + i, none⟩ = some (.slice (some ⟨rb, ro, none⟩) n rc) ∧ RowAt w rb ro n (P i)) := fun i hi => by
    obtain ⟨rb, ro, rc, h1, h2⟩ := hrow i hi
    exact ⟨rb, ro, rc, by rw [← h1]; exact (hr i hi).1, h2⟩
  have HZ := Hid.mk' hrz
  have HOK := Hid.mk' hok
  have HWZ := Hid.mk' hw
  have hnI : (n : Int) ≤ 8 := by omega
  have HDF : Hid (unK z P n = anyB (fun i => anyB (unB z P n i) i) n) := rfl
  clear h hz hr hrz hrow hns hok hw
  go_enter Tryz.func56, Tryz.ntmps56
  go_wp2_with fail
  go_loopw [9] (fun t wr => ∃ k : Nat, k ≤ n ∧ t = .int .i64 k ∧ Hid (anyB (fun i => anyB (unB z P n i) i) k = false) ∧ Hid (Below w.heap.size w wr)) (fun t _ => n - (intOf t).toNat)
  case atStart => exact ⟨0, Nat.zero_le _, rfl, rfl, Below.refl _ _⟩
  case round =>
    obtain ⟨i, hi, rfl, HS, HB⟩ := hrel
    rcases Nat.lt_or_ge i n with h1 | h1
    · have hiI : (i : Int) < (n : Int) := by omega
      have hi0 : (0 : Int) ≤ (i : Int) := by omega
      obtain ⟨rb, ro, rc, hc, hR⟩ := HR.out i h1
      have HRI := Hid.mk' hR
      have HCI := Hid.mk' hc
      have HBAD : Hid (anyB (unB z P n i) i = true → unK z P n = true) := fun hq => by rw [HDF.out]; exact anyB_at (p := fun i => anyB (unB z P n i) i) hq h1
      have HGO : Hid (anyB (unB z P n i) i = false → anyB (fun i => anyB (unB z P n i) i) (i + 1) = false) := fun hq => by rw [anyB, HS.out]; exact hq
      obtain ⟨w1, hw1⟩ : ∃ w1, w1 = wr := ⟨_, rfl⟩
      rw [← hw1] at HB ⊢
      clear hc hR hw1
      go_wp2_with fail
      go_loopw [13] (fun t wr => ∃ k : Nat, k ≤ i ∧ t = .int .i64 k ∧ Hid (anyB (unB z P n i) k = false) ∧ Hid (Below w.heap.size w wr)) (fun t _ => i - (intOf t).toNat)
      case atStart => exact ⟨0, Nat.zero_le _, rfl, rfl, HB⟩
      case round =>
        clear HB
        obtain ⟨k, hk, rfl, HSK, HB⟩ := hrel
        rcases Nat.lt_or_ge k i with h2 | h2
        · have hkI : (k : Int) < (i : Int) := by omega
          have hkn : (k : Int) < (n : Int) := by omega
          have hk0 : (0 : Int) ≤ (k : Int) := by omega
          obtain ⟨sb, so, sc, hc, hR⟩ := HR.out k (by omega)
          have hbd : Below w.heap.size w wr.drew := HB.out.drew
          have e1 : wr.drew.cell? ⟨b, o + i, none⟩ = some (.slice (some ⟨rb, ro, none⟩) n rc) := by rw [hbd.cell (p := ⟨b, o + i, none⟩) (cell_lt HCI.out)]; exact HCI.out
          have e2 : wr.drew.cell? ⟨b, o + k, none⟩ = some (.slice (some ⟨sb, so, none⟩) n sc) := by rw [hbd.cell (p := ⟨b, o + k, none⟩) (cell_lt hc)]; exact hc
          have e3 : wr.drew.cell? ⟨bz, oz + i, none⟩ = some (.int .i64 (z i)) := HZ.out.later hbd i h1
          have e4 : wr.drew.cell? ⟨bz, oz + k, none⟩ = some (.int .i64 (z k)) := HZ.out.later hbd k (by omega)
          have e5 : wr.drew.cell? ⟨rb, ro + k, none⟩ = some (.int .i64 (P i k)) := HRI.out.later hbd k (by omega)
          have e6 : wr.drew.cell? ⟨sb, so + i, none⟩ = some (.int .i64 (P k i)) := hR.later hbd i h1
          have HTI := Hid.mk' (total_some rb ro rc n (P i) wr.drew (HRI.out.later hbd) (fun j hj => by have := (HOK.out i h1).part hj; omega) (fun j hj => by have := (HOK.out i h1).lt hj; omega) (by omega))
          have HTK := Hid.mk' (total_some sb so sc n (P k) wr.drew (hR.later hbd) (fun j hj => by have := (HOK.out k (by omega)).part hj; omega) (fun j hj => by have := (HOK.out k (by omega)).lt hj; omega) (by omega))
          have b1 := HWZ.out i h1
          have b2 := HWZ.out k (by omega)
          have b3 := (HOK.out i h1).lt (i := k) (by omega)
          have b4 := (HOK.out k (by omega)).lt h1
          have b5 := (HOK.out i h1).part (Nat.le_refl _)
          have b6 := (HOK.out k (by omega)).part (Nat.le_refl _)
          have HU : Hid (unB z P n i k = (z i * P i k * sumN (P k) n != z k * P k i * sumN (P i) n)) := rfl
          have HUB : Hid (unB z P n i k = true → unK z P n = true) := fun hq => HBAD.out (anyB_at (p := unB z P n i) hq h2)
          have HUG : Hid (unB z P n i k = false → anyB (unB z P n i) (k + 1) = false) := fun hq => by rw [anyB, HSK.out]; exact hq
          have HBD := Hid.mk' hbd
          clear hc hR hbd
          generalize unB z P n i k = UB at HU HUB HUG
          generalize sumN (P i) n = ti at *
          generalize sumN (P k) n = tk at *
          generalize P i k = pik at *
          generalize P k i = pki at *
          generalize z i = zi at *
          generalize z k = zk at *
          have f1 := wrap_prod (x := zi) (y := pik) (by omega) (by omega) b3.1 b3.2
          have f2 := wrap_prod (x := zk) (y := pki) (by omega) (by omega) b4.1 b4.2
          obtain ⟨g1, g2⟩ := prod_bd (x := zi) (y := pik) (by omega) (by omega) b3.1 b3.2
          obtain ⟨g3, g4⟩ := prod_bd (x := zk) (y := pki) (by omega) (by omega) b4.1 b4.2
          have f3 := wrap_prod (x := zi * pik) (y := tk) g1 g2 b6.1 b6.2
          have f4 := wrap_prod (x := zk * pki) (y := ti) g3 g4 b5.1 b5.2
          clear g1 g2 g3 g4 b1 b2 b3 b4 b5 b6
          have hX : (zi * pik * tk != zk * pki * ti) = UB := HU.out.symm
          clear HU
          go_upto_region 7 with fail
          have hcur : wr.drew.cell? ⟨b, o + i, none⟩ = some (.slice (some ⟨rb, ro, none⟩) n rc) ∧ wr.drew.cell? ⟨b, o + k, none⟩ = some (.slice (some ⟨sb, so, none⟩) n sc) ∧ wr.drew.cell? ⟨bz, oz + i, none⟩ = some (.int .i64 zi) ∧ wr.drew.cell? ⟨bz, oz + k, none⟩ = some (.int .i64 zk) ∧ wr.drew.cell? ⟨rb, ro + k, none⟩ = some (.int .i64 pik) ∧ wr.drew.cell? ⟨sb, so + i, none⟩ = some (.int .i64 pki) := ⟨e1, e2, e3, e4, e5, e6⟩
          clear e1 e2 e3 e4 e5 e6
          go_region_held3 (fun W => W.cell? ⟨b, o + i, none⟩ = some (.slice (some ⟨rb, ro, none⟩) n rc) ∧ W.cell? ⟨b, o + k, none⟩ = some (.slice (some ⟨sb, so, none⟩) n sc) ∧ W.cell? ⟨bz, oz + i, none⟩ = some (.int .i64 zi) ∧ W.cell? ⟨bz, oz + k, none⟩ = some (.int .i64 zk) ∧ W.cell? ⟨rb, ro + k, none⟩ = some (.int .i64 pik) ∧ W.cell? ⟨sb, so + i, none⟩ = some (.int .i64 pki))
            (exact hcur)
            (first
              | (go_at_call 63; (have hz7 := hbw7; clear hz7); refine HTI.out.mono ?_; rintro e w6 ⟨rfl, hw6⟩; rw [hw6]; clear hw6)
              | (go_at_call 63; refine HTK.out.mono ?_; rintro e w5 ⟨rfl, hw5⟩; rw [hw5]; clear hw5; have hbw7 : True := trivial))
          cases UB with
          | true =>
            have HF := Hid.mk' (HUB.out rfl)
            go_wp2_with fail
            go_ret
            exact ⟨by rw [HF.out]; rfl, HBD.out⟩
          | false =>
            have HF := Hid.mk' (HUG.out rfl)
            go_wp2_with fail
            exact ⟨⟨k + 1, h2, by go_num, HF, HBD⟩, by simp [intOf]; omega⟩
        · obtain rfl : k = i := by omega
          have HF := Hid.mk' (HGO.out HSK.out)
          go_wp2_with fail
          exact ⟨⟨k + 1, h1, by go_num, HF, HB⟩, by simp [intOf]; omega⟩
    · obtain rfl : i = n := by omega
      have HF : Hid (unK z P i = false) := by show _ = _; rw [HDF.out]; exact HS.out
      go_wp2_with fail
      go_ret
      exact ⟨by rw [HF.out]; rfl, HB.out⟩
end Go.Proofs.YthomgmhmbalnbaaGreatDoor

/- chain.Valid. -/
namespace Go.Proofs.YthomgmhmbalnbaaGreatDoor
open Go.RowKit

theorem weightsErr_few {z : Nat → Int} {n : Nat} (h : n ≤ 16) : weightsErr z n = listErr z n := by unfold weightsErr; rw [if_neg (by omega)]
set_option maxRecDepth 100000 in
set_option maxHeartbeats 4000000 in
theorem chainValid_any (a : Nat → Addr) (v : Value) (n : Nat) (vs : Nat → Value) (ns : Nat → Nat) (zs : Nat → Nat → Int) (w : World) (hE : Errs w a) (h : TabAt w v n vs ns zs) (hn : n ≤ 1000000) :
    Calls Tryz.prog 26 #[v] w fun e w' => e = .returned (errV a (chainErr n ns zs)) ∧ w' = w := by
  obtain ⟨ad, cap, rfl⟩ := h.form
  have HT := Hid.mk' h
  have cB := hE.c1
  have cS := hE.c2
  obtain ⟨i, hi, hcmp⟩ := Option.map_eq_some_iff.1 Tryz.isComp
  obtain ⟨j, hj, hjs⟩ := Option.map_eq_some_iff.1 Tryz.isSize
  have heq := run_eql_iface_ptr_same (P := Tryz.prog) w (a 2) Tryz.underlying30 Tryz.underlying173 hi hcmp hj
  obtain ⟨ca, ta, hca⟩ := hE.row 1 (by decide)
  obtain ⟨cb, tb, hcb⟩ := hE.row 2 (by decide)
  have hne2 := run_eql_iface_ptr_other (P := Tryz.prog) w Tryz.underlying30 Tryz.underlying173 hi hcmp hj (by rw [hjs]; decide) (hE.ne 1 2 (by decide) (by decide) (by decide)) hca hcb
  have HEE := Hid.mk' hE
  clear h hca hcb hi hcmp hj hjs hE
  by_cases h8 : 8 < n
  · have hI : (8 : Int) < (n : Int) := by omega
    have he : chainErr n ns zs = 2 := by unfold chainErr; rw [if_pos h8]
    rw [he, errV_two]
    go_enter Tryz.func26, Tryz.ntmps26
    go_wp2_with fail
    go_ret
    exact ⟨rfl, rfl⟩
  have hI : ¬ (8 : Int) < (n : Int) := by omega
  rcases Nat.eq_zero_or_pos n with h0 | h0
  · subst h0
    have he : chainErr 0 ns zs = 3 := by unfold chainErr; simp
    rw [he, errV_three]
    go_enter Tryz.func26, Tryz.ntmps26
    go_wp2_with fail
    go_ret
    exact ⟨rfl, rfl⟩
  have hz : ((n : Int) == 0) = false := by rw [beq_eq_false_iff_ne]; omega
  obtain ⟨b, o, rfl, hrows⟩ : ∃ b o, ad = some ⟨b, o, none⟩ ∧ ∀ i, i < n → w.cell? ⟨b, o + i, none⟩ = some (vs i) ∧ NumsAt w (vs i) (ns i) (zs i) := by
    rcases HT.out with ⟨_, _, _, h1⟩ | ⟨b, o, c, h1, _, h2⟩
    · omega
    · simp only [Value.slice.injEq, true_and] at h1
      exact ⟨b, o, h1.1, h2⟩
  have HR := Hid.mk' hrows
  have HE : Hid (chainErr n ns zs = if shapeB n ns zs n = true then 3 else if boundB ns zs n = true then 2 else 0) := by show _ = _; unfold chainErr; rw [if_neg h8, if_neg (by omega)]
  clear hrows
  go_enter Tryz.func26, Tryz.ntmps26
  go_wp2_with fail
  go_loop [3, 17] (fun s t => ∃ k : Nat, k ≤ n ∧ t = .int .i64 k ∧ s = errV a (if boundB ns zs k = true then 2 else 0) ∧ Hid (shapeB n ns zs k = false)) (fun _ t => n - (intOf t).toNat)
  case atStart => exact ⟨0, Nat.zero_le _, rfl, rfl, rfl⟩
  case round =>
    obtain ⟨k, hk, rfl, hsl, HS⟩ := hrel
    have HSL := Hid.mk' hsl
    clear hsl
    rcases Nat.lt_or_ge k n with h1 | h1
    · have hkI : (k : Int) < (n : Int) := by omega
      have hk0 : (0 : Int) ≤ (k : Int) := by omega
      obtain ⟨hc, hnum⟩ := HR.out k h1
      obtain ⟨rad, rcap, hre⟩ := hnum.form
      rw [hre] at hc hnum
      by_cases hsh : ns k = n
      · have HSH := Hid.mk' hsh
        have hle := Valid_weights a _ (ns k) (zs k) w HEE.out hnum (by omega)
        rw [weightsErr_few (by omega)] at hle
        rcases listErr_cases (zs k) (ns k) with h5 | h5 | h5
        · rw [h5, hsh, errV_zero] at hle
          rw [hsh] at hc
          have HS' : Hid (shapeB n ns zs (k + 1) = false) := by show _ = _; rw [shapeB, HS.out, decide_eq_false (by rw [h5]; have := HSH.out; omega)]; rfl
          have HB' : Hid (boundB ns zs (k + 1) = boundB ns zs k) := by show _ = _; rw [boundB, decide_eq_false (by rw [h5]; simp)]; simp
          clear h5 hsh hre hnum
          go_wp2_with fail
          refine hle.mono ?_
          clear hle
          rintro e w2 ⟨rfl, hw2⟩
          go_wp2_with fail
          exact ⟨⟨k + 1, h1, by go_num, by rw [HB'.out]; exact HSL.out, HS'⟩, by simp [intOf]; omega⟩
        · rw [h5, hsh, errV_two] at hle
          rw [hsh] at hc
          have HS' : Hid (shapeB n ns zs (k + 1) = false) := by show _ = _; rw [shapeB, HS.out, decide_eq_false (by rw [h5]; have := HSH.out; omega)]; rfl
          have HB' : Hid (boundB ns zs (k + 1) = true) := by show _ = _; rw [boundB, decide_eq_true (by rw [h5]; simp)]; simp
          clear h5 hsh hre hnum
          go_wp2_with fail
          refine hle.mono ?_
          clear hle
          rintro e w2 ⟨rfl, hw2⟩
          go_wp2_with fail
          exact ⟨⟨k + 1, h1, by go_num, by rw [HB'.out, if_pos rfl, errV_two], HS'⟩, by simp [intOf]; omega⟩
        · rw [h5, hsh, errV_three] at hle
          rw [hsh] at hc
          have HV : Hid (chainErr n ns zs = 3) := by show _ = _; rw [HE.out, if_pos (shapeB_at h1 (Or.inr h5))]
          clear h5 hsh hre hnum
          go_wp2_with fail
          refine hle.mono ?_
          clear hle
          rintro e w2 ⟨rfl, hw2⟩
          go_wp2_with fail
          go_ret
          exact ⟨by rw [HV.out, errV_three]; rfl, rfl⟩
      · have hne : ((ns k : Int) != (n : Int)) = true := by rw [bne_iff_ne]; omega
        have HV : Hid (chainErr n ns zs = 3) := by show _ = _; rw [HE.out, if_pos (shapeB_at h1 (Or.inl hsh))]
        clear hsh hre hnum
        go_wp2_with fail
        go_ret
        exact ⟨by rw [HV.out, errV_three]; rfl, rfl⟩
    · obtain rfl : n = k := by omega
      have HV : Hid (chainErr n ns zs = if boundB ns zs n = true then 2 else 0) := by show _ = _; rw [HE.out, HS.out, if_neg (by simp)]
      go_wp2_with fail
      go_ret
      exact ⟨by rw [HV.out, ← HSL.out]; rfl, rfl⟩
end Go.Proofs.YthomgmhmbalnbaaGreatDoor

/- Errors with their places, of a process: what they are in memory. -/
namespace Go.Proofs.YthomgmhmbalnbaaGreatDoor
open Go.RowKit

/-- An error by its number and place, in memory. -/
def ErrPl (a : Nat → Addr) (w : World) (v : Value) (c : Nat × Int) : Prop :=
  (v = errV a c.1 ∧ c.2 = -1 ∧ c.1 ≤ 8) ∨ ∃ pb, v = .iface 97 (.pointer (some ⟨pb, 0, none⟩)) ∧ w.cell? ⟨pb, 0, none⟩ = some (.int .i64 c.2) ∧ w.cell? ⟨pb, 1, none⟩ = some (.iface 173 (.pointer (some (a (c.1 - 1))))) ∧ 1 ≤ c.1 ∧ c.1 ≤ 8
theorem ErrPl.later {a : Nat → Addr} {w w' : World} {v : Value} {c : Nat × Int} (h : ErrPl a w v c) (hb : Below w.heap.size w w') : ErrPl a w' v c := by
  rcases h with h | ⟨pb, h1, h2, h3, h4⟩
  · exact Or.inl h
  · exact Or.inr ⟨pb, h1, by rw [hb.cell (cell_lt h2)]; exact h2, by rw [hb.cell (cell_lt h3)]; exact h3, h4⟩
theorem ErrPl.iface {a : Nat → Addr} {w : World} {v : Value} {c : Nat × Int} (h : ErrPl a w v c) (h0 : c.1 ≠ 0) : ∃ t x, v = .iface t x := by
  rcases h with ⟨rfl, _, _⟩ | ⟨pb, rfl, _⟩
  · rw [errV_pos a h0]; exact ⟨_, _, rfl⟩
  · exact ⟨_, _, rfl⟩
theorem ErrPl.nil0 {a : Nat → Addr} {w : World} {v : Value} {c : Nat × Int} (h : ErrPl a w v c) (h0 : c.1 = 0) : v = .nilIface := by
  rcases h with ⟨rfl, _, _⟩ | ⟨pb, rfl, _, _, h1, _⟩
  · rw [h0, errV_zero]
  · omega
end Go.Proofs.YthomgmhmbalnbaaGreatDoor

/- heat.Valid: which processes are right. -/
namespace Go.Proofs.YthomgmhmbalnbaaGreatDoor
open Go.RowKit

/-- Steps in memory: a table each. -/
def StpAt (w : World) (v : Value) (T : Nat) (tv : Nat → Value) (R : Nat → Nat) (rv : Nat → Nat → Value) (rn : Nat → Nat → Nat) (P : Nat → Nat → Nat → Int) : Prop := (∃ ad cap, v = .slice ad 0 cap ∧ T = 0) ∨ ∃ b o cap, v = .slice (some ⟨b, o, none⟩) T cap ∧ 0 < T ∧ ∀ t, t < T → w.cell? ⟨b, o + t, none⟩ = some (tv t) ∧ TabAt w (tv t) (R t) (rv t) (rn t) (P t)
theorem StpAt.later {w w' : World} {v : Value} {T : Nat} {tv : Nat → Value} {R : Nat → Nat} {rv : Nat → Nat → Value} {rn : Nat → Nat → Nat} {P : Nat → Nat → Nat → Int} (h : StpAt w v T tv R rv rn P) (hb : Below w.heap.size w w') : StpAt w' v T tv R rv rn P := by
  rcases h with h | ⟨b, o, cap, h1, h2, h3⟩
  · exact Or.inl h
  · exact Or.inr ⟨b, o, cap, h1, h2, fun t ht => ⟨by rw [hb.cell (cell_lt (h3 t ht).1)]; exact (h3 t ht).1, (h3 t ht).2.later hb⟩⟩
theorem StpAt.form {w : World} {v : Value} {T : Nat} {tv : Nat → Value} {R : Nat → Nat} {rv : Nat → Nat → Value} {rn : Nat → Nat → Nat} {P : Nat → Nat → Nat → Int} (h : StpAt w v T tv R rv rn P) : ∃ ad cap, v = .slice ad T cap := by
  rcases h with ⟨ad, cap, h1, h2⟩ | ⟨b, o, cap, h1, _⟩
  · subst h2; exact ⟨ad, cap, h1⟩
  · exact ⟨_, cap, h1⟩
theorem StpAt.at {w : World} {ad : Option Addr} {T cap : Nat} {tv : Nat → Value} {R : Nat → Nat} {rv : Nat → Nat → Value} {rn : Nat → Nat → Nat} {P : Nat → Nat → Nat → Int} (h : StpAt w (.slice ad T cap) T tv R rv rn P) {t : Nat} (ht : t < T) : ∃ b o, ad = some ⟨b, o, none⟩ ∧ ∀ t, t < T → w.cell? ⟨b, o + t, none⟩ = some (tv t) ∧ TabAt w (tv t) (R t) (rv t) (rn t) (P t) := by
  rcases h with ⟨_, _, _, h2⟩ | ⟨b, o, cap', h1, _, h3⟩
  · omega
  · simp only [Value.slice.injEq, true_and] at h1
    exact ⟨b, o, h1.1, h3⟩

/-- What is wrong with the steps, and where. -/
def spF (T n : Nat) (R : Nat → Nat) (P : Nat → Nat → Nat → Int) (W : Nat → Nat → Int) : Nat × Int :=
  if fstP (fun t => decide (R t ≠ n)) T < T then (3, (fstP (fun t => decide (R t ≠ n)) T : Int))
  else if fstP (fun t => unK (W (t + 1)) (P t) n) T < T then (8, (fstP (fun t => unK (W (t + 1)) (P t) n) T : Int)) else (0, -1)
theorem spF_shape {T n t : Nat} {R : Nat → Nat} {P : Nat → Nat → Nat → Int} {W : Nat → Nat → Int} (ht : t < T) (h : ∀ i, i < t → R i = n) (hR : R t ≠ n) : spF T n R P W = (3, (t : Int)) := by
  have h1 : fstP (fun t => decide (R t ≠ n)) T = t := fstP_at (decide_eq_true hR) ht (fun i hi => decide_eq_false (by simpa using h i hi))
  unfold spF
  rw [h1, if_pos ht]
theorem spF_kind {T n t : Nat} {R : Nat → Nat} {P : Nat → Nat → Nat → Int} {W : Nat → Nat → Int} (hR : ∀ i, i < T → R i = n) (ht : t < T) (h : ∀ i, i < t → unK (W (i + 1)) (P i) n = false) (hu : unK (W (t + 1)) (P t) n = true) : spF T n R P W = (8, (t : Int)) := by
  have h1 : fstP (fun t => decide (R t ≠ n)) T = T := fstP_no (fun i hi => decide_eq_false (by simpa using hR i hi))
  have h2 : fstP (fun t => unK (W (t + 1)) (P t) n) T = t := fstP_at (p := fun t => unK (W (t + 1)) (P t) n) hu ht h
  unfold spF
  rw [h1, if_neg (Nat.lt_irrefl _), h2, if_pos ht]
theorem spF_none {T n : Nat} {R : Nat → Nat} {P : Nat → Nat → Nat → Int} {W : Nat → Nat → Int} (hR : ∀ i, i < T → R i = n) (h : ∀ i, i < T → unK (W (i + 1)) (P i) n = false) : spF T n R P W = (0, -1) := by
  have h1 : fstP (fun t => decide (R t ≠ n)) T = T := fstP_no (fun i hi => decide_eq_false (by simpa using hR i hi))
  have h2 : fstP (fun t => unK (W (t + 1)) (P t) n) T = T := fstP_no (p := fun t => unK (W (t + 1)) (P t) n) h
  unfold spF
  rw [h1, if_neg (Nat.lt_irrefl _), h2, if_neg (Nat.lt_irrefl _)]
/-- What is wrong with a process, and where. -/
def prF (L : Nat) (ns : Nat → Nat) (W : Nat → Nat → Int) (T : Nat) (R : Nat → Nat) (rn : Nat → Nat → Nat) (P : Nat → Nat → Nat → Int) : Nat × Int :=
  if wtE L ns W T ≠ 0 then (wtE L ns W T, -1)
  else if fstP (fun t => decide (chainErr (R t) (rn t) (P t) ≠ 0)) T < T then (chainErr (R (fstP (fun t => decide (chainErr (R t) (rn t) (P t) ≠ 0)) T)) (rn (fstP (fun t => decide (chainErr (R t) (rn t) (P t) ≠ 0)) T)) (P (fstP (fun t => decide (chainErr (R t) (rn t) (P t) ≠ 0)) T)), -1)
  else spF T (ns 0) R P W
section
variable {L : Nat} {ns : Nat → Nat} {W : Nat → Nat → Int} {T : Nat} {R : Nat → Nat} {rn : Nat → Nat → Nat} {P : Nat → Nat → Nat → Int}
theorem prF_w (h : wtE L ns W T ≠ 0) : prF L ns W T R rn P = (wtE L ns W T, -1) := by unfold prF; rw [if_pos h]
theorem prF_c (h : wtE L ns W T = 0) {t : Nat} (ht : t < T) (h1 : ∀ i, i < t → chainErr (R i) (rn i) (P i) = 0) (h2 : chainErr (R t) (rn t) (P t) ≠ 0) : prF L ns W T R rn P = (chainErr (R t) (rn t) (P t), -1) := by
  have h3 : fstP (fun t => decide (chainErr (R t) (rn t) (P t) ≠ 0)) T = t := fstP_at (p := fun t => decide (chainErr (R t) (rn t) (P t) ≠ 0)) (decide_eq_true h2) ht (fun i hi => decide_eq_false (by simpa using h1 i hi))
  unfold prF
  rw [if_neg (by simpa using h), h3, if_pos ht]
theorem prF_s (h : wtE L ns W T = 0) (h1 : ∀ i, i < T → chainErr (R i) (rn i) (P i) = 0) : prF L ns W T R rn P = spF T (ns 0) R P W := by
  have h3 : fstP (fun t => decide (chainErr (R t) (rn t) (P t) ≠ 0)) T = T := fstP_no (p := fun t => decide (chainErr (R t) (rn t) (P t) ≠ 0)) (fun i hi => decide_eq_false (by simpa using h1 i hi))
  unfold prF
  rw [if_neg (by simpa using h), h3, if_neg (Nat.lt_irrefl _)]
/-- A right process. -/
structure OkP (L n : Nat) (ns : Nat → Nat) (W : Nat → Nat → Int) (T : Nat) (R : Nat → Nat) (rn : Nat → Nat → Nat) (P : Nat → Nat → Nat → Int) : Prop where
  hT : T ≤ 4
  hL : L = T + 1
  n0 : 0 < n
  n4 : n ≤ 4
  hn : ∀ i, i < L → ns i = n
  hW : ∀ i k, i < L → k < n → 1 ≤ W i k ∧ W i k ≤ 1000
  hR : ∀ t, t < T → R t = n
  hrn : ∀ t i, t < T → i < n → rn t i = n
  hP : ∀ t i, t < T → i < n → OkW (P t i) n
  bal : ∀ t i k, t < T → i < n → k < n → W (t + 1) i * P t i k * sumN (P t k) n = W (t + 1) k * P t k i * sumN (P t i) n
theorem unK_no {z : Nat → Int} {Q : Nat → Nat → Int} {n : Nat} (h : unK z Q n = false) (i k : Nat) (hi : i < n) (hk : k < n) : z i * Q i k * sumN (Q k) n = z k * Q k i * sumN (Q i) n := by
  have h1 : ∀ i k, i < n → k < i → z i * Q i k * sumN (Q k) n = z k * Q k i * sumN (Q i) n := fun i k hi hk => by
    have h2 := anyB_no (anyB_no h i hi) k hk
    unfold unB at h2
    simpa using h2
  rcases Nat.lt_or_ge k i with h2 | h2
  · exact h1 i k hi h2
  · rcases Nat.lt_or_ge i k with h3 | h3
    · exact (h1 k i hk h3).symm
    · obtain rfl : i = k := by omega
      rfl
theorem prF_ok (h : (prF L ns W T R rn P).1 = 0) : OkP L (ns 0) ns W T R rn P := by
  by_cases h1 : wtE L ns W T = 0
  · obtain ⟨a1, a2, a3, a4, a5, a6⟩ := wtE_ok h1
    by_cases h2 : ∀ i, i < T → chainErr (R i) (rn i) (P i) = 0
    · rw [prF_s h1 h2] at h
      by_cases h3 : ∀ i, i < T → R i = ns 0
      · by_cases h4 : ∀ i, i < T → unK (W (i + 1)) (P i) (ns 0) = false
        · refine ⟨by omega, a2, a3, a4, a5, a6, h3, fun t i ht hi => ?_, fun t i ht hi => ?_, fun t i k ht hi hk => unK_no (h4 t ht) i k hi hk⟩
          · obtain ⟨_, _, b1, b2⟩ := chainErr_ok (h2 t ht)
            rw [h3 t ht] at b1
            exact b1 i hi
          · obtain ⟨_, _, b1, b2⟩ := chainErr_ok (h2 t ht)
            rw [h3 t ht] at b2
            exact b2 i hi
        · exfalso
          unfold spF at h
          have e1 : fstP (fun t => decide (R t ≠ ns 0)) T = T := fstP_no (fun i hi => decide_eq_false (by simpa using h3 i hi))
          rw [e1, if_neg (Nat.lt_irrefl _)] at h
          by_cases h5 : fstP (fun t => unK (W (t + 1)) (P t) (ns 0)) T < T
          · rw [if_pos h5] at h; cases h
          · exact h4 (fstP_none h5)
      · exfalso
        unfold spF at h
        by_cases h5 : fstP (fun t => decide (R t ≠ ns 0)) T < T
        · rw [if_pos h5] at h; cases h
        · exact h3 (fun i hi => by simpa using fstP_none h5 i hi)
    · exfalso
      unfold prF at h
      rw [if_neg (by simpa using h1)] at h
      by_cases h5 : fstP (fun t => decide (chainErr (R t) (rn t) (P t) ≠ 0)) T < T
      · rw [if_pos h5] at h
        have := fstP_is h5
        simp only [decide_eq_true_eq] at this
        exact this h
      · exact h2 (fun i hi => by simpa using fstP_none h5 i hi)
  · rw [prF_w h1] at h
    exact absurd h h1
theorem prF_le : (prF L ns W T R rn P).1 ≤ 8 := by
  have h1 := wtE_le L ns W T
  unfold prF
  split
  · show wtE L ns W T ≤ 8
    omega
  · split
    · show chainErr _ _ _ ≤ 8
      have := chainErr_le (R (fstP (fun t => decide (chainErr (R t) (rn t) (P t) ≠ 0)) T)) (rn (fstP (fun t => decide (chainErr (R t) (rn t) (P t) ≠ 0)) T)) (P (fstP (fun t => decide (chainErr (R t) (rn t) (P t) ≠ 0)) T))
      omega
    · unfold spF
      split
      · show 3 ≤ 8
        decide
      · split
        · show 8 ≤ 8
          decide
        · show 0 ≤ 8
          decide
end

set_option maxRecDepth 100000 in
set_option maxHeartbeats 4000000 in
theorem stepsError_any (a : Nat → Addr) (v : Value) (L : Nat) (vs : Nat → Value) (ns : Nat → Nat) (W : Nat → Nat → Int) (sv : Value) (T : Nat) (tv : Nat → Value) (R : Nat → Nat) (rv : Nat → Nat → Value) (rn : Nat → Nat → Nat) (P : Nat → Nat → Nat → Int) (w : World) (hE : Errs w a) (h : TabAt w v L vs ns W) (hS : StpAt w sv T tv R rv rn P) (hw : wtE L ns W T = 0) (hc : ∀ t, t < T → chainErr (R t) (rn t) (P t) = 0) :
    Calls Tryz.prog 27 #[.agg #[v, sv]] w fun e w' => ∃ x, e = .returned x ∧ ErrPl a w' x (spF T (ns 0) R P W) ∧ Below w.heap.size w w' := by
  obtain ⟨a1, a2, a3, a4, a5, a6⟩ := wtE_ok hw
  obtain ⟨b, o, cap, rfl, hr⟩ := tab_of h (by omega)
  obtain ⟨sa, sc, rfl⟩ := hS.form
  obtain ⟨w1, hw1⟩ : ∃ w1, w1 = w.alloc (.cells #[.slice (some ⟨b, o, none⟩) L cap, .slice sa T sc] 32) := ⟨_, rfl⟩
  have hb1 : Below w.heap.size w w1 := by rw [hw1]; exact (Below.refl _ _).alloc (Nat.le_refl _) _
  have c0 : w1.cell? ⟨w.heap.size, 0, none⟩ = some (.slice (some ⟨b, o, none⟩) L cap) := by rw [hw1]; go_simp
  have c1 : w1.cell? ⟨w.heap.size, 1, none⟩ = some (.slice sa T sc) := by rw [hw1]; go_simp
  have HC : Hid (∀ W', Below w1.heap.size w1 W' → W'.cell? ⟨w.heap.size, 0, none⟩ = some (.slice (some ⟨b, o, none⟩) L cap) ∧ W'.cell? ⟨w.heap.size, 1, none⟩ = some (.slice sa T sc) ∧ W'.cell? ⟨2, 0, none⟩ = some (.iface 173 (.pointer (some (a 2)))) ∧ W'.cell? ⟨7, 0, none⟩ = some (.iface 173 (.pointer (some (a 7))))) := fun W' hb => ⟨by rw [hb.cell (cell_lt c0)]; exact c0, by rw [hb.cell (cell_lt c1)]; exact c1, ((hE.below hb1).below hb).c2, ((hE.below hb1).below hb).c7⟩
  have HEND : Hid (∀ W', Below w1.heap.size w1 W' → Below w.heap.size w W') := fun W' hb => hb1.trans (hb.mono hb1.size)
  have hSZ : w.heap.size < w1.heap.size := by rw [hw1]; simp
  have HSZ := Hid.mk' hSZ
  have HST := Hid.mk' (hS.later hb1)
  have HTA : Hid (∀ W', Below w1.heap.size w1 W' → ∀ i, i < L → W'.cell? ⟨b, o + i, none⟩ = some (vs i) ∧ NumsAt W' (vs i) (ns i) (W i)) := fun W' hb i hi => ⟨by rw [(HEND.out W' hb).cell (cell_lt (hr i hi).1)]; exact (hr i hi).1, (hr i hi).2.later (HEND.out W' hb)⟩
  obtain ⟨ra, rc, hr0⟩ := (hr 0 (by omega)).2.form
  have d0 := (HTA.out w1 (Below.refl _ _) 0 (by omega)).1
  rw [hr0, Nat.add_zero] at d0
  have HW1 := Hid.mk' hw1
  have hLI : (L : Int) ≤ 5 := by omega
  have hL0 : (0 : Int) < (L : Int) := by omega
  have hTI : (T : Int) ≤ 4 := by omega
  have HCE := Hid.mk' hc
  have HLT : Hid (L = T + 1) := a2
  have HNS := Hid.mk' a5
  have HWB := Hid.mk' a6
  have hn0I : ((ns 0 : Nat) : Int) ≤ 4 := by omega
  have HN0 : Hid (0 < ns 0 ∧ ns 0 ≤ 4) := ⟨a3, a4⟩
  have HSHP : Hid (∀ t, t < T → (∀ i, i < t → R i = ns 0) → R t ≠ ns 0 → spF T (ns 0) R P W = (3, (t : Int))) := fun t ht h1 h2 => spF_shape ht h1 h2
  have HKND : Hid ((∀ i, i < T → R i = ns 0) → ∀ t, t < T → (∀ i, i < t → unK (W (i + 1)) (P i) (ns 0) = false) → unK (W (t + 1)) (P t) (ns 0) = true → spF T (ns 0) R P W = (8, (t : Int))) := fun h1 t ht h2 h3 => spF_kind h1 ht h2 h3
  have HNON : Hid ((∀ i, i < T → R i = ns 0) → (∀ i, i < T → unK (W (i + 1)) (P i) (ns 0) = false) → spF T (ns 0) R P W = (0, -1)) := fun h1 h2 => spF_none h1 h2
  clear hE h hS hb1 hw1 hr hr0 a2 a5 a6 a1 hc hw hSZ
  generalize ns 0 = n0 at *
  go_enter Tryz.func27, Tryz.ntmps27
  go_upto_region 1 with fail
  rw [← HW1.out]
  go_wp2_with fail
  go_loopw [10] (fun t wr => ∃ k : Nat, k ≤ T ∧ t = .int .i64 k ∧ Hid (∀ i, i < k → R i = n0) ∧ wr = w1) (fun t _ => T - (intOf t).toNat)
  case atStart => exact ⟨0, Nat.zero_le _, rfl, (fun i hi => by omega), rfl⟩
  case round =>
    obtain ⟨k, hk, rfl, HS, hwr⟩ := hrel
    rw [hwr]
    clear hwr
    rcases Nat.lt_or_ge k T with h1 | h1
    · have hkI : (k : Int) < (T : Int) := by omega
      have hk0 : (0 : Int) ≤ (k : Int) := by omega
      obtain ⟨sb, so, rfl, hst⟩ := HST.out.at h1
      obtain ⟨hcell, htab⟩ := hst k h1
      obtain ⟨rad, rcap, hre⟩ := htab.form
      rw [hre] at hcell
      have hR8 : R k ≤ 8 := (chainErr_ok (HCE.out k h1)).2.1
      have hR8I : ((R k : Nat) : Int) ≤ 8 := by omega
      have HSK := Hid.mk' (HSHP.out k h1 HS.out)
      obtain ⟨g0, g1, g2, g7⟩ := HC.out w1 (Below.refl _ _)
      have HNX : Hid (R k = n0 → ∀ i, i < k + 1 → R i = n0) := fun hq i hi => by
        rcases Nat.lt_or_ge i k with h5 | h5
        · exact HS.out i h5
        · obtain rfl : i = k := by omega
          exact hq
      clear hst htab hre c0 c1
      generalize R k = Rk at *
      by_cases hq : Rk = n0
      · have hne : ((Rk : Int) != (n0 : Int)) = false := by rw [bne_eq_false_iff_eq]; omega
        have HF := Hid.mk' (HNX.out hq)
        clear hq
        go_wp2_with fail
        exact ⟨⟨k + 1, h1, by go_num, HF, trivial⟩, by simp [intOf]; omega⟩
      · have hne : ((Rk : Int) != (n0 : Int)) = true := by rw [bne_iff_ne]; omega
        have HF := Hid.mk' (HSK.out hq)
        clear hq
        go_wp2_with fail
        go_ret
        refine ⟨_, rfl, by rw [HF.out]; exact Or.inr ⟨_, rfl, by simp, by simp, by simp, by simp⟩, HEND.out _ ?_⟩
        first | exact (Below.refl _ _).alloc (Nat.le_refl _) _ | exact ((Below.refl _ _).alloc (Nat.le_refl _) _).drew
    · obtain rfl : k = T := by omega
      have HKN := Hid.mk' (HKND.out HS.out)
      have HNN := Hid.mk' (HNON.out HS.out)
      clear HSHP HKND HNON
      have hkI : ¬ ((k : Int) < (k : Int)) := by omega
      go_wp2_with fail
      go_loopw [32] (fun t wr => ∃ t' : Nat, t' ≤ k ∧ t = .int .i64 t' ∧ Hid (∀ i, i < t' → unK (W (i + 1)) (P i) n0 = false) ∧ Hid (Below w1.heap.size w1 wr)) (fun t _ => k - (intOf t).toNat)
      case atStart => exact ⟨0, Nat.zero_le _, rfl, (fun i hi => by omega), Below.refl _ _⟩
      case round =>
        obtain ⟨t, ht, rfl, HU, HB⟩ := hrel
        rcases Nat.lt_or_ge t k with h2 | h2
        · have htI : (t : Int) < (k : Int) := by omega
          have ht0 : (0 : Int) ≤ (t : Int) := by omega
          obtain ⟨sb, so, rfl, hst⟩ := HST.out.at h2
          obtain ⟨hcell0, htab0⟩ := hst t h2
          have hcell : wr.cell? ⟨sb, so + t, none⟩ = some (tv t) := by rw [HB.out.cell (cell_lt hcell0)]; exact hcell0
          have htab := htab0.later HB.out
          obtain ⟨rad, rcap, hre⟩ := htab.form
          obtain ⟨e1, e2⟩ := HTA.out wr HB.out (t + 1) (by have := HLT.out; omega)
          obtain ⟨qa, qc, hqe⟩ := e2.form
          obtain ⟨x1, x2, x3, x4⟩ := chainErr_ok (HCE.out t h2)
          have hRt := HS.out t h2
          rw [hRt] at htab hre x3 x4
          have e2' := e2
          rw [HNS.out (t + 1) (by have := HLT.out; omega)] at e2' hqe
          have HKP := Hid.mk' (keeps_any (tv t) (vs (t + 1)) n0 (rv t) (rn t) (P t) (W (t + 1)) wr htab e2' HN0.out.1 (by have := HN0.out; omega) x3 x4 (fun i hi => HWB.out (t + 1) i (by have := HLT.out; omega) hi))
          rw [hre, hqe] at HKP
          rw [hre] at hcell
          rw [hqe] at e1
          obtain ⟨g0, g1, g2, g7⟩ := HC.out wr HB.out
          have hLk : (t : Int) + 1 < (L : Int) := by have := HLT.out; omega
          have HKB := Hid.mk' (HKN.out t h2 HU.out)
          have HNX : Hid (unK (W (t + 1)) (P t) n0 = false → ∀ i, i < t + 1 → unK (W (i + 1)) (P i) n0 = false) := fun hq i hi => by
            rcases Nat.lt_or_ge i t with h5 | h5
            · exact HU.out i h5
            · obtain rfl : i = t := by omega
              exact hq
          clear hst hcell0 htab0 htab hre e2 e2' hqe x1 x2 x3 x4 hRt c0 c1
          generalize unK (W (t + 1)) (P t) n0 = UK at HKP HKB HNX
          cases UK with
          | false =>
            have HF := Hid.mk' (HNX.out rfl)
            go_wp2_with fail
            refine HKP.out.mono ?_
            rintro e w3 ⟨rfl, hb3⟩
            have HB3 := Hid.mk' (below_chain HB.out hb3)
            clear hb3 HKP
            go_wp2_with fail
            exact ⟨⟨t + 1, h2, by go_num, HF, HB3⟩, by simp [intOf]; omega⟩
          | true =>
            have HF := Hid.mk' (HKB.out rfl)
            go_wp2_with fail
            refine HKP.out.mono ?_
            rintro e w3 ⟨rfl, hb3⟩
            have HB3 := Hid.mk' (below_chain HB.out hb3)
            clear hb3 HKP g0 g1 g2 g7
            obtain ⟨g0, g1, g2, g7⟩ := HC.out w3 HB3.out
            have hle := HB3.out.size
            go_wp2_with fail
            go_ret
            refine ⟨_, rfl, by rw [HF.out]; exact Or.inr ⟨_, rfl, by simp, by simp, by simp, by simp⟩, HEND.out _ ?_⟩
            first | exact HB3.out.alloc hle _ | exact (HB3.out.alloc hle _).drew
        · obtain rfl : t = k := by omega
          have HF := Hid.mk' (HNN.out HU.out)
          go_wp2_with fail
          go_ret
          exact ⟨_, rfl, by rw [HF.out]; exact Or.inl ⟨rfl, rfl, by decide⟩, HEND.out _ HB.out⟩

set_option maxRecDepth 100000 in
set_option maxHeartbeats 4000000 in
theorem heatValid_any (a : Nat → Addr) (v : Value) (L : Nat) (vs : Nat → Value) (ns : Nat → Nat) (W : Nat → Nat → Int) (sv : Value) (T : Nat) (tv : Nat → Value) (R : Nat → Nat) (rv : Nat → Nat → Value) (rn : Nat → Nat → Nat) (P : Nat → Nat → Nat → Int) (w : World) (hE : Errs w a) (h : TabAt w v L vs ns W) (hS : StpAt w sv T tv R rv rn P) (hL : L ≤ 1000000) (hns : ∀ i, i < L → ns i ≤ 1000000) (hT : T ≤ 1000000) (hR : ∀ t, t < T → R t ≤ 1000000) :
    Calls Tryz.prog 9 #[.agg #[v, sv]] w fun e w' => ∃ x, e = .returned x ∧ ErrPl a w' x (prF L ns W T R rn P) ∧ Below w.heap.size w w' := by
  obtain ⟨ad, cap, rfl⟩ := h.form
  obtain ⟨sa, sc, rfl⟩ := hS.form
  obtain ⟨w1, hw1⟩ : ∃ w1, w1 = w.alloc (.cells #[.slice ad L cap, .slice sa T sc] 32) := ⟨_, rfl⟩
  have hb1 : Below w.heap.size w w1 := by rw [hw1]; exact (Below.refl _ _).alloc (Nat.le_refl _) _
  have c0 : w1.cell? ⟨w.heap.size, 0, none⟩ = some (.slice ad L cap) := by rw [hw1]; go_simp
  have c1 : w1.cell? ⟨w.heap.size, 1, none⟩ = some (.slice sa T sc) := by rw [hw1]; go_simp
  have HC : Hid (∀ W', Below w1.heap.size w1 W' → W'.cell? ⟨w.heap.size, 0, none⟩ = some (.slice ad L cap) ∧ W'.cell? ⟨w.heap.size, 1, none⟩ = some (.slice sa T sc)) := fun W' hb => ⟨by rw [hb.cell (cell_lt c0)]; exact c0, by rw [hb.cell (cell_lt c1)]; exact c1⟩
  have HEND : Hid (∀ W', Below w1.heap.size w1 W' → Below w.heap.size w W') := fun W' hb => hb1.trans (hb.mono hb1.size)
  have HE : Hid (∀ W', Below w1.heap.size w1 W' → Errs W' a) := fun W' hb => (hE.below hb1).below hb
  have HTA : Hid (∀ W', Below w1.heap.size w1 W' → TabAt W' (.slice ad L cap) L vs ns W) := fun W' hb => h.later (HEND.out W' hb)
  have HST : Hid (∀ W', Below w1.heap.size w1 W' → StpAt W' (.slice sa T sc) T tv R rv rn P) := fun W' hb => hS.later (HEND.out W' hb)
  have HWE := Hid.mk' (weightsError_any a _ L vs ns W sa T sc w1 (hE.below hb1) (h.later hb1) hL hns hT)
  have HW1 := Hid.mk' hw1
  have hTI : (T : Int) ≤ 1000000 := by omega
  have HRB := Hid.mk' hR
  clear hE h hS hb1 hw1 hns hL hR
  by_cases hw : wtE L ns W T = 0
  · rw [hw] at HWE
    have HWZ := Hid.mk' hw
    clear hw
    have HEN : Hid (errV a 0 = .nilIface) := rfl
    rw [HEN.out] at HWE
    go_enter Tryz.func9, Tryz.ntmps9
    go_upto_region 1 with fail
    rw [← HW1.out]
    go_wp2_with fail
    refine HWE.out.mono ?_
    rintro e w2 ⟨rfl, hb2⟩
    have HB2 := Hid.mk' hb2
    clear c0 c1 HWE
    obtain ⟨c0, c1⟩ := HC.out _ hb2
    clear hb2
    go_wp2_with fail
    go_loopw [15] (fun t wr => ∃ k : Nat, k ≤ T ∧ t = .int .i64 k ∧ Hid (∀ i, i < k → chainErr (R i) (rn i) (P i) = 0) ∧ wr = w2) (fun t _ => T - (intOf t).toNat)
    case atStart => exact ⟨0, Nat.zero_le _, rfl, (fun i hi => by omega), rfl⟩
    case round =>
      obtain ⟨k, hk, rfl, HS, hwr⟩ := hrel
      rw [hwr]
      clear hwr
      rcases Nat.lt_or_ge k T with h1 | h1
      · have hkI : (k : Int) < (T : Int) := by omega
        have hk0 : (0 : Int) ≤ (k : Int) := by omega
        have hst9 := HST.out w2 HB2.out
        obtain ⟨sb, so, rfl, hst⟩ := hst9.at h1
        obtain ⟨hcell, htab⟩ := hst k h1
        obtain ⟨rad, rcap, hre⟩ := htab.form
        have HCV := Hid.mk' (chainValid_any a (tv k) (R k) (rv k) (rn k) (P k) w2 (HE.out w2 HB2.out) htab (HRB.out k h1))
        rw [hre] at hcell HCV
        have HBAD : Hid (chainErr (R k) (rn k) (P k) ≠ 0 → prF L ns W T R rn P = (chainErr (R k) (rn k) (P k), -1)) := fun hq => prF_c HWZ.out h1 HS.out hq
        have HLE := Hid.mk' (chainErr_le (R k) (rn k) (P k))
        have HNX : Hid (chainErr (R k) (rn k) (P k) = 0 → ∀ i, i < k + 1 → chainErr (R i) (rn i) (P i) = 0) := fun hq i hi => by
          rcases Nat.lt_or_ge i k with h5 | h5
          · exact HS.out i h5
          · obtain rfl : i = k := by omega
            exact hq
        clear hst htab hre hst9
        generalize chainErr (R k) (rn k) (P k) = CE at HCV HBAD HNX HLE
        by_cases hq : CE = 0
        · subst hq
          rw [HEN.out] at HCV
          have HF := Hid.mk' (HNX.out rfl)
          go_wp2_with fail
          refine HCV.out.mono ?_
          rintro e w3 ⟨rfl, hw3⟩
          rw [hw3]
          clear hw3 HCV
          go_wp2_with fail
          exact ⟨⟨k + 1, h1, by go_num, HF, trivial⟩, by simp [intOf]; omega⟩
        · have HF := Hid.mk' (HBAD.out hq)
          have HEV : Hid (errV a CE = .iface 173 (.pointer (some (a (CE - 1))))) := errV_pos a hq
          rw [HEV.out] at HCV
          clear hq
          go_wp2_with fail
          refine HCV.out.mono ?_
          rintro e w3 ⟨rfl, hw3⟩
          rw [hw3]
          clear hw3 HCV
          go_wp2_with fail
          go_ret
          refine ⟨_, rfl, by rw [HF.out]; exact Or.inl ⟨HEV.out.symm, rfl, by have := HLE.out; show CE ≤ 8; omega⟩, HEND.out _ HB2.out⟩
      · obtain rfl : k = T := by omega
        have HSE := Hid.mk' (stepsError_any a _ L vs ns W _ k tv R rv rn P w2 (HE.out w2 HB2.out) (HTA.out w2 HB2.out) (HST.out w2 HB2.out) HWZ.out HS.out)
        have HF : Hid (prF L ns W k R rn P = spF k (ns 0) R P W) := prF_s HWZ.out HS.out
        have hkI : ¬ ((k : Int) < (k : Int)) := by omega
        go_wp2_with fail
        refine HSE.out.mono ?_
        rintro e w3 ⟨x, rfl, hx, hb3⟩
        have HX := Hid.mk' hx
        have HB3 := Hid.mk' (below_chain HB2.out hb3)
        clear hx hb3 HSE
        go_wp2_with fail
        go_ret
        exact ⟨_, rfl, by rw [HF.out]; exact HX.out, HEND.out _ HB3.out⟩
  · have HF : Hid (prF L ns W T R rn P = (wtE L ns W T, -1)) := prF_w hw
    have HEV : Hid (errV a (wtE L ns W T) = .iface 173 (.pointer (some (a (wtE L ns W T - 1))))) := errV_pos a hw
    have HLE := Hid.mk' (wtE_le L ns W T)
    rw [HEV.out] at HWE
    clear hw
    generalize wtE L ns W T = CE at *
    go_enter Tryz.func9, Tryz.ntmps9
    go_upto_region 1 with fail
    rw [← HW1.out]
    go_wp2_with fail
    refine HWE.out.mono ?_
    rintro e w2 ⟨rfl, hb2⟩
    have HB2 := Hid.mk' hb2
    clear hb2 HWE
    go_wp2_with fail
    go_ret
    exact ⟨_, rfl, by rw [HF.out]; exact Or.inl ⟨HEV.out.symm, rfl, by have := HLE.out; show CE ≤ 8; omega⟩, HEND.out _ HB2.out⟩
end Go.Proofs.YthomgmhmbalnbaaGreatDoor

/- Fractions over one denominator in their lowest terms; sums by rising lists. -/
namespace Go.Proofs.YthomgmhmbalnbaaGreatDoor

def lowG (M : Nat) (z : Int) : Nat := Nat.gcd z.natAbs M
def lowN (M : Nat) (z : Int) : Int := z.tdiv (lowG M z : Int)
def lowD (M : Nat) (z : Int) : Nat := M / lowG M z

theorem low_parts {n : Int} {d : Nat} (hd : 0 < d) : 0 < Nat.gcd n.natAbs d ∧ n = ((Nat.gcd n.natAbs d : Nat) : Int) * n.tdiv ((Nat.gcd n.natAbs d : Nat) : Int) ∧ d = Nat.gcd n.natAbs d * (d / Nat.gcd n.natAbs d) ∧ Nat.Coprime (n.tdiv ((Nat.gcd n.natAbs d : Nat) : Int)).natAbs (d / Nat.gcd n.natAbs d) ∧ (n.tdiv ((Nat.gcd n.natAbs d : Nat) : Int)).natAbs = n.natAbs / Nat.gcd n.natAbs d ∧ 0 < d / Nat.gcd n.natAbs d := by
  have hg : 0 < Nat.gcd n.natAbs d := Nat.gcd_pos_of_pos_right _ hd
  have h1 : Nat.gcd n.natAbs d ∣ n.natAbs := Nat.gcd_dvd_left _ _
  have h2 : Nat.gcd n.natAbs d ∣ d := Nat.gcd_dvd_right _ _
  have h3 : (n.tdiv ((Nat.gcd n.natAbs d : Nat) : Int)).natAbs = n.natAbs / Nat.gcd n.natAbs d := by rw [Int.natAbs_tdiv]; rfl
  refine ⟨hg, ?_, (Nat.mul_div_cancel' h2).symm, ?_, h3, Nat.div_pos (Nat.le_of_dvd hd h2) hg⟩
  · rw [Int.mul_tdiv_cancel' (Int.ofNat_dvd_left.2 h1)]
  · rw [h3]
    exact Nat.coprime_div_gcd_div_gcd hg
theorem lowG_pos {M : Nat} (h : 0 < M) (z : Int) : 0 < lowG M z := Nat.gcd_pos_of_pos_right _ h
theorem lowD_pos {M : Nat} (h : 0 < M) (z : Int) : 0 < lowD M z := (low_parts (n := z) h).2.2.2.2.2
theorem lowD_le (M : Nat) (z : Int) : lowD M z ≤ M := Nat.div_le_self _ _
theorem lowN_le {M : Nat} (h : 0 < M) (z : Int) : (lowN M z).natAbs ≤ z.natAbs := by
  have := (low_parts (n := z) h).2.2.2.2.1
  show (z.tdiv ((Nat.gcd z.natAbs M : Nat) : Int)).natAbs ≤ _
  rw [this]
  exact Nat.div_le_self _ _
theorem low_cross {M : Nat} (h : 0 < M) (z : Int) : lowN M z * (M : Int) = z * (lowD M z : Int) := by
  obtain ⟨_, h1, h2, _⟩ := low_parts (n := z) h
  have h2' : (M : Int) = ((Nat.gcd z.natAbs M : Nat) : Int) * ((M / Nat.gcd z.natAbs M : Nat) : Int) := by rw [← Int.natCast_mul, ← h2]
  show z.tdiv ((Nat.gcd z.natAbs M : Nat) : Int) * (M : Int) = z * ((M / Nat.gcd z.natAbs M : Nat) : Int)
  generalize Nat.gcd z.natAbs M = g at *
  generalize M / g = q at *
  generalize z.tdiv (g : Int) = t at *
  rw [h2', h1, ← Int.mul_assoc, Int.mul_comm t]
/-- One fraction has one lowest form. -/
theorem low_same {M d : Nat} {z n : Int} (hM : 0 < M) (hd : 0 < d) (h : n * (M : Int) = z * (d : Int)) : n.tdiv ((Nat.gcd n.natAbs d : Nat) : Int) = lowN M z ∧ d / Nat.gcd n.natAbs d = lowD M z := by
  obtain ⟨g1, g2, g3, g4, _, g6⟩ := low_parts (n := n) hd
  obtain ⟨k1, k2, k3, k4, _, k6⟩ := low_parts (n := z) hM
  show _ = z.tdiv ((Nat.gcd z.natAbs M : Nat) : Int) ∧ _ = M / Nat.gcd z.natAbs M
  generalize Nat.gcd n.natAbs d = g at *
  generalize Nat.gcd z.natAbs M = k at *
  generalize n.tdiv (g : Int) = n' at *
  generalize z.tdiv (k : Int) = z' at *
  generalize d / g = d' at *
  generalize M / k = m' at *
  have h1 : n' * (m' : Int) = z' * (d' : Int) := by
    have h2 : ((g : Int) * (k : Int)) * (n' * (m' : Int)) = ((g : Int) * (k : Int)) * (z' * (d' : Int)) := by
      calc ((g : Int) * (k : Int)) * (n' * (m' : Int)) = ((g : Int) * n') * ((k : Int) * (m' : Int)) := by grind
        _ = n * (M : Int) := by rw [← g2, ← Int.natCast_mul, ← k3]
        _ = z * (d : Int) := h
        _ = ((k : Int) * z') * ((g : Int) * (d' : Int)) := by rw [← k2, ← Int.natCast_mul, ← g3]
        _ = _ := by grind
    refine Int.eq_of_mul_eq_mul_left ?_ h2
    intro h0
    rcases Int.mul_eq_zero.1 h0 with h3 | h3 <;> omega
  have h2 : n'.natAbs * m' = z'.natAbs * d' := by
    have := congrArg Int.natAbs h1
    rwa [Int.natAbs_mul, Int.natAbs_mul, Int.natAbs_natCast, Int.natAbs_natCast] at this
  have h3 : m' ∣ d' := k4.symm.dvd_of_dvd_mul_left ⟨n'.natAbs, by rw [← h2, Nat.mul_comm]⟩
  have h4 : d' ∣ m' := g4.symm.dvd_of_dvd_mul_left ⟨z'.natAbs, by rw [h2, Nat.mul_comm]⟩
  have h5 : d' = m' := Nat.dvd_antisymm h4 h3
  subst h5
  exact ⟨Int.eq_of_mul_eq_mul_right (by omega) h1, rfl⟩
theorem low_plus {M : Nat} (hM : 0 < M) (z1 z2 : Int) : (lowN M z1 * (lowD M z2 : Int) + lowN M z2 * (lowD M z1 : Int)).tdiv ((Nat.gcd (lowN M z1 * (lowD M z2 : Int) + lowN M z2 * (lowD M z1 : Int)).natAbs (lowD M z1 * lowD M z2) : Nat) : Int) = lowN M (z1 + z2) ∧ lowD M z1 * lowD M z2 / Nat.gcd (lowN M z1 * (lowD M z2 : Int) + lowN M z2 * (lowD M z1 : Int)).natAbs (lowD M z1 * lowD M z2) = lowD M (z1 + z2) := by
  refine low_same hM (Nat.mul_pos (lowD_pos hM z1) (lowD_pos hM z2)) ?_
  have h1 := low_cross hM z1
  have h2 := low_cross hM z2
  rw [Int.natCast_mul]
  generalize lowN M z1 = a at *
  generalize lowN M z2 = b at *
  generalize (lowD M z1 : Int) = c at *
  generalize (lowD M z2 : Int) = e at *
  generalize (M : Int) = m at *
  grind
theorem low_one (z : Int) : lowN 1 z = z ∧ lowD 1 z = 1 := by
  unfold lowN lowD lowG
  rw [Nat.gcd_one_right]
  exact ⟨Int.tdiv_one z, rfl⟩

end Go.Proofs.YthomgmhmbalnbaaGreatDoor
