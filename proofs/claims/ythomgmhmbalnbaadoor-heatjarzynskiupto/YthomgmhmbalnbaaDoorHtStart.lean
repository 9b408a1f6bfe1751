/- heat.startOf: how what is carried begins. -/
import Derived.Test.YthomgmhmbalnbaaDoorHtCar
import Derived.Test.YthomgmhmbalnbaaDoorWeights
namespace Go.Proofs.YthomgmhmbalnbaaDoor
open Go.RowKit

set_option maxRecDepth 100000 in
set_option maxHeartbeats 16000000 in
theorem start_any (n b o cap : Nat) (u : Nat → Nat) (w : World) (hu : RowAt w b o n (fun i => (u i : Int))) (h0 : 0 < n) (hn : n ≤ 4) (hub : ∀ i, i < n → u i ≤ 4096) :
    Calls Tryd.prog 23 #[.slice (some ⟨b, o, none⟩) n cap] w fun e w' => ∃ g' y, e = .returned (.agg #[.slice (some ⟨g', 0, none⟩) n n, y]) ∧ (∃ F', NtsAt w' g' n F' u) ∧ NatAt w' y (smU u n) ∧ w.heap.size ≤ g' ∧ Below w.heap.size w w' := by
  obtain ⟨i0, hi, hz0, hz1, hz2⟩ := info_parts Tryd.infoNt
  have HINF : Hid (Tryd.prog.info? 63 = some i0 ∧ i0.zero = some (.slice none 0 0) ∧ i0.size = 1 ∧ i0.bytes = 24) := ⟨hi, hz0, hz1, hz2⟩
  clear hi hz0 hz1 hz2
  obtain ⟨w1, hw1⟩ : ∃ w1, w1 = w.alloc (.cells #[.slice none 0 0, .slice none 0 0] 65) := ⟨_, rfl⟩
  have hb1 : Below w.heap.size w w1 := by rw [hw1]; exact (Below.refl _ _).alloc (Nat.le_refl _) _
  have c2 : w1.cell? ⟨w.heap.size, 0, none⟩ = some (.slice none 0 0) := by rw [hw1]; simp
  have c3 : w1.cell? ⟨w.heap.size, 1, none⟩ = some (.slice none 0 0) := by rw [hw1]; simp
  have c4 : w1.frozen? ⟨w.heap.size, 0, none⟩ = false := by rw [hw1]; simp
  have c5 : w1.frozen? ⟨w.heap.size, 1, none⟩ = false := by rw [hw1]; simp
  have hsz : w.heap.size < w1.heap.size := by rw [hw1]; simp
  have HSZ := Hid.mk' hsz
  have HC : Hid (∀ W, Below w1.heap.size w1 W → (W.cell? ⟨w.heap.size, 0, none⟩ = some (.slice none 0 0) ∧ W.cell? ⟨w.heap.size, 1, none⟩ = some (.slice none 0 0)) ∧ W.frozen? ⟨w.heap.size, 0, none⟩ = false ∧ W.frozen? ⟨w.heap.size, 1, none⟩ = false) := fun W hb => ⟨⟨by rw [hb.cell (cell_lt c2)]; exact c2, by rw [hb.cell (cell_lt c3)]; exact c3⟩, by rw [hb.frozen (show w.heap.size < w1.heap.size from hsz)]; exact c4, by rw [hb.frozen (show w.heap.size < w1.heap.size from hsz)]; exact c5⟩
  have HEND : Hid (∀ W, Below w1.heap.size w1 W → Below w.heap.size w W) := fun W hb => hb1.trans (hb.mono hb1.size)
  have HW1 := Hid.mk' hw1
  have HRO : Hid (∀ W, Below w1.heap.size w1 W → RowAt W b o n (fun i => (u i : Int))) := fun W hb => hu.later (HEND.out W hb)
  have HUB := Hid.mk' hub
  have hSB : smU u n ≤ n * 4096 := smU_le hub
  have hSB2 : smU u n ≤ 16384 := by have : n * 4096 ≤ 4 * 4096 := Nat.mul_le_mul_right _ hn; omega
  have HTO : Hid (∀ W, Below w1.heap.size w1 W → Calls Tryd.prog 51 #[.slice (some ⟨b, o, none⟩) n cap] W fun e w' => e = .returned (.int .i64 ((smU u n : Nat) : Int)) ∧ w' = W) := fun W hb => by
    have h1 := total_some b o cap n (fun k => (u k : Int)) W (HRO.out W hb) (fun k hk => by
      rw [sumN_smU (u := u) (fun _ _ => rfl)]
      have h3 := smU_mono u hk
      omega) (fun k hk => by have := HUB.out k hk; omega) (by omega)
    rw [sumN_smU (u := u) (fun _ _ => rfl)] at h1
    exact h1
  have HNO : Hid (∀ W, Calls Tryd.prog 26 #[.int .u64 ((smU u n : Nat) : Int)] W fun e w' => ∃ v, e = .returned v ∧ NatAt w' v (smU u n) ∧ Below W.heap.size W w') := fun W => NatOf_allH (smU u n) W (by omega)
  have hwS : IntKind.u64.wrap ((smU u n : Nat) : Int) = ((smU u n : Nat) : Int) := by rw [IntKind.wrap_u64]; exact Int.emod_eq_of_lt (by omega) (by omega)
  have hSI : ((smU u n : Nat) : Int) ≤ 16384 := by omega
  have hS0I : (0 : Int) ≤ ((smU u n : Nat) : Int) := by omega
  have hnI : (n : Int) ≤ 4 := by omega
  have hn0I : (0 : Int) < (n : Int) := by omega
  have hmk0 := fun W : World => run_make_full (P := Tryd.prog) W W.heap.size 61 63 i0 _ 1 Tryd.underlying61 HINF.out.1 HINF.out.2.1 HINF.out.2.2.1 .i64 .i64 n (by rw [HINF.out.2.2.2]; omega) (by unfold maxLen; omega) (Nat.le_refl _)
  obtain ⟨mk, hmk1⟩ := Classical.axiomOfChoice hmk0
  have hmk := fun W => (hmk1 W).1
  have HMR : Hid (∀ W, RowIs (mk W) W.heap.size n (fun _ => .slice none 0 0)) := fun W => rowIs_made (hmk1 W).2.1 (made_one (.slice none 0 0) rfl n)
  have HMB : Hid (∀ W, Below W.heap.size W (mk W)) := fun W => made_below (hmk1 W).2.2
  clear hmk0 hmk1 hu hub hw1 hb1 hsz hSB hSB2
  generalize smU u n = E at HTO HNO hwS hSI hS0I ⊢
  go_enter Tryd.func23, Tryd.ntmps23
  go_upto_region 1 with fail
  rw [← HW1.out]
  clear c2 c3 c4 c5
  have hcD : Below w1.heap.size w1 w1.drew := (Below.refl _ _).drew
  have hcA : Below w1.heap.size w1 (w1.alloc (.cells #[.slice none 0 0, .slice none 0 0] 65)).drew := ((Below.refl _ _).alloc (Nat.le_refl _) _).drew
  have hcM : Below w1.heap.size w1 (mk w1.drew) := below_chain hcD (HMB.out _)
  have hcAM : Below w1.heap.size w1 (mk ((w1.alloc (.cells #[.slice none 0 0, .slice none 0 0] 65)).drew)) := below_chain hcA (HMB.out _)
  have hcMA : Below w1.heap.size w1 ((mk w1.drew).alloc (.cells #[.slice none 0 0, .slice none 0 0] 65)) := hcM.alloc hcM.size _
  have hzA : ((w1.alloc (.cells #[.slice none 0 0, .slice none 0 0] 65)).drew).heap.size = w1.heap.size + 1 := by simp
  have HZA := Hid.mk' hzA
  clear hzA
  have aA0 : ((w1.alloc (.cells #[.slice none 0 0, .slice none 0 0] 65)).drew).cell? ⟨w1.heap.size, 0, none⟩ = some (.slice none 0 0) := by show (w1.alloc (.cells #[.slice none 0 0, .slice none 0 0] 65)).cell? _ = _; simp
  have aA1 : ((w1.alloc (.cells #[.slice none 0 0, .slice none 0 0] 65)).drew).cell? ⟨w1.heap.size, 1, none⟩ = some (.slice none 0 0) := by show (w1.alloc (.cells #[.slice none 0 0, .slice none 0 0] 65)).cell? _ = _; simp
  have aA2 : ((w1.alloc (.cells #[.slice none 0 0, .slice none 0 0] 65)).drew).frozen? ⟨w1.heap.size, 0, none⟩ = false := by show (w1.alloc (.cells #[.slice none 0 0, .slice none 0 0] 65)).frozen? _ = _; simp
  have aA3 : ((w1.alloc (.cells #[.slice none 0 0, .slice none 0 0] 65)).drew).frozen? ⟨w1.heap.size, 1, none⟩ = false := by show (w1.alloc (.cells #[.slice none 0 0, .slice none 0 0] 65)).frozen? _ = _; simp
  have mA0 : (mk ((w1.alloc (.cells #[.slice none 0 0, .slice none 0 0] 65)).drew)).cell? ⟨w1.heap.size, 0, none⟩ = some (.slice none 0 0) := by rw [(HMB.out ((w1.alloc (.cells #[.slice none 0 0, .slice none 0 0] 65)).drew)).cell (cell_lt aA0)]; exact aA0
  have mA1 : (mk ((w1.alloc (.cells #[.slice none 0 0, .slice none 0 0] 65)).drew)).cell? ⟨w1.heap.size, 1, none⟩ = some (.slice none 0 0) := by rw [(HMB.out ((w1.alloc (.cells #[.slice none 0 0, .slice none 0 0] 65)).drew)).cell (cell_lt aA1)]; exact aA1
  have mA2 : (mk ((w1.alloc (.cells #[.slice none 0 0, .slice none 0 0] 65)).drew)).frozen? ⟨w1.heap.size, 0, none⟩ = false := by rw [(HMB.out ((w1.alloc (.cells #[.slice none 0 0, .slice none 0 0] 65)).drew)).frozen (cell_lt aA0)]; exact aA2
  have mA3 : (mk ((w1.alloc (.cells #[.slice none 0 0, .slice none 0 0] 65)).drew)).frozen? ⟨w1.heap.size, 1, none⟩ = false := by rw [(HMB.out ((w1.alloc (.cells #[.slice none 0 0, .slice none 0 0] 65)).drew)).frozen (cell_lt aA1)]; exact aA3
  have sA0 : ((mk w1.drew).alloc (.cells #[.slice none 0 0, .slice none 0 0] 65)).cell? ⟨(mk w1.drew).heap.size, 0, none⟩ = some (.slice none 0 0) := by simp
  have sA1 : ((mk w1.drew).alloc (.cells #[.slice none 0 0, .slice none 0 0] 65)).cell? ⟨(mk w1.drew).heap.size, 1, none⟩ = some (.slice none 0 0) := by simp
  have sA2 : ((mk w1.drew).alloc (.cells #[.slice none 0 0, .slice none 0 0] 65)).frozen? ⟨(mk w1.drew).heap.size, 0, none⟩ = false := by simp
  have sA3 : ((mk w1.drew).alloc (.cells #[.slice none 0 0, .slice none 0 0] 65)).frozen? ⟨(mk w1.drew).heap.size, 1, none⟩ = false := by simp
  go_cut [3] from 6 (fun s wx => ∃ B g' : Nat, ∃ y : Value, s = .pointer (some ⟨B, 0, none⟩) ∧ Hid (OvS w1 wx B g' n y E (fun _ => .slice none 0 0) (fun _ => 0)))
  case first =>
    go_region_held3 (fun _ => True) (exact trivial)
      (first
        | (go_at_call 51; refine (HTO.out _ ?hct).mono ?_; (case hct => first | exact hcD | exact hcA | exact hcM | exact hcAM | exact hcMA); rintro e wt ⟨rfl, hwt⟩; rw [hwt]; clear hwt)
        | (go_at_call 26; refine (HNO.out _).mono ?_; rintro e w3 ⟨rv, rfl, hrv, hb3⟩; obtain ⟨ra, rl, rc, rfl⟩ := hrv.isSlice; have hB3 : Below w1.heap.size w1 w3 := (by first | exact below_chain hcD hb3 | exact below_chain hcA hb3 | exact below_chain hcM hb3 | exact below_chain hcAM hb3 | exact below_chain hcMA hb3); (try (have q0 : w3.cell? ⟨w1.heap.size, 0, none⟩ = some (.slice none 0 0) := (by first | (rw [hb3.cell (cell_lt aA0)]; exact aA0) | (rw [hb3.cell (cell_lt mA0)]; exact mA0)))); (try (have s0 : w3.cell? ⟨(mk w1.drew).heap.size, 0, none⟩ = some (.slice none 0 0) := (by rw [hb3.cell (cell_lt sA0)]; exact sA0))); (try (have q1 : w3.cell? ⟨w1.heap.size, 1, none⟩ = some (.slice none 0 0) := (by first | (rw [hb3.cell (cell_lt aA1)]; exact aA1) | (rw [hb3.cell (cell_lt mA1)]; exact mA1)))); (try (have s1 : w3.cell? ⟨(mk w1.drew).heap.size, 1, none⟩ = some (.slice none 0 0) := (by rw [hb3.cell (cell_lt sA1)]; exact sA1))); (try (have q2 : w3.frozen? ⟨w1.heap.size, 0, none⟩ = false := (by first | (rw [hb3.frozen (cell_lt aA0)]; exact aA2) | (rw [hb3.frozen (cell_lt mA0)]; exact mA2)))); (try (have s2 : w3.frozen? ⟨(mk w1.drew).heap.size, 0, none⟩ = false := (by rw [hb3.frozen (cell_lt sA0)]; exact sA2))); (try (have q3 : w3.frozen? ⟨w1.heap.size, 1, none⟩ = false := (by first | (rw [hb3.frozen (cell_lt aA1)]; exact aA3) | (rw [hb3.frozen (cell_lt mA1)]; exact mA3)))); (try (have s3 : w3.frozen? ⟨(mk w1.drew).heap.size, 1, none⟩ = false := (by rw [hb3.frozen (cell_lt sA1)]; exact sA3))); (try (have r0 : (mk w3).cell? ⟨w1.heap.size, 0, none⟩ = some (.slice none 0 0) := (by rw [(HMB.out w3).cell (cell_lt q0)]; exact q0))); have t0 : (mk (w3.alloc (.cells #[.slice none 0 0, .slice none 0 0] 65))).cell? ⟨w3.heap.size, 0, none⟩ = some (.slice none 0 0) := (by rw [(HMB.out (w3.alloc (.cells #[.slice none 0 0, .slice none 0 0] 65))).cell (by show w3.heap.size < (w3.alloc (.cells #[.slice none 0 0, .slice none 0 0] 65)).heap.size; simp)]; simp); (try (have r1 : (mk w3).cell? ⟨w1.heap.size, 1, none⟩ = some (.slice none 0 0) := (by rw [(HMB.out w3).cell (cell_lt q1)]; exact q1))); have t1 : (mk (w3.alloc (.cells #[.slice none 0 0, .slice none 0 0] 65))).cell? ⟨w3.heap.size, 1, none⟩ = some (.slice none 0 0) := (by rw [(HMB.out (w3.alloc (.cells #[.slice none 0 0, .slice none 0 0] 65))).cell (by show w3.heap.size < (w3.alloc (.cells #[.slice none 0 0, .slice none 0 0] 65)).heap.size; simp)]; simp); (try (have r2 : (mk w3).frozen? ⟨w1.heap.size, 0, none⟩ = false := (by rw [(HMB.out w3).frozen (cell_lt q0)]; exact q2))); have t2 : (mk (w3.alloc (.cells #[.slice none 0 0, .slice none 0 0] 65))).frozen? ⟨w3.heap.size, 0, none⟩ = false := (by rw [(HMB.out (w3.alloc (.cells #[.slice none 0 0, .slice none 0 0] 65))).frozen (by show w3.heap.size < (w3.alloc (.cells #[.slice none 0 0, .slice none 0 0] 65)).heap.size; simp)]; simp); (try (have r3 : (mk w3).frozen? ⟨w1.heap.size, 1, none⟩ = false := (by rw [(HMB.out w3).frozen (cell_lt q1)]; exact q3))); have t3 : (mk (w3.alloc (.cells #[.slice none 0 0, .slice none 0 0] 65))).frozen? ⟨w3.heap.size, 1, none⟩ = false := (by rw [(HMB.out (w3.alloc (.cells #[.slice none 0 0, .slice none 0 0] 65))).frozen (by show w3.heap.size < (w3.alloc (.cells #[.slice none 0 0, .slice none 0 0] 65)).heap.size; simp)]; simp); (try (have F0 : Hid (OvS w1 ((w3).alloc (.cells #[.slice (some ⟨w1.heap.size, 0, none⟩) n n, .slice ra rl rc] 65)) w3.heap.size w1.heap.size n (.slice ra rl rc) E (fun _ => .slice none 0 0) (fun _ => 0)) := ovs_late hB3 (Nat.le_refl _) (by omega) (RowIs.later (HMR.out w1.drew) hb3) hrv)); (try (have F1 : Hid (OvS w1 ((mk w3).alloc (.cells #[.slice (some ⟨w3.heap.size, 0, none⟩) n n, .slice ra rl rc] 65)) (mk w3).heap.size w3.heap.size n (.slice ra rl rc) E (fun _ => .slice none 0 0) (fun _ => 0)) := ovs_late (below_chain hB3 (HMB.out w3)) hB3.size (by omega) (HMR.out w3) (hrv.later (HMB.out w3)))); (try (have F2 : Hid (OvS w1 (((w3).setCell ⟨w1.heap.size, 0, none⟩ (.slice (some ⟨(w1.heap.size + 1), 0, none⟩) n n)).setCell ⟨w1.heap.size, 1, none⟩ (.slice ra rl rc)) w1.heap.size (w1.heap.size + 1) n (.slice ra rl rc) E (fun _ => .slice none 0 0) (fun _ => 0)) := ovs_put hB3 (Nat.le_refl _) (Nat.le_succ _) (by omega) (by have hh := RowIs.later (HMR.out ((w1.alloc (.cells #[.slice none 0 0, .slice none 0 0] 65)).drew)) hb3; rw [HZA.out] at hh; exact hh) hrv q0 q1 q3)); (try (have F3 : Hid (OvS w1 (((mk w3).setCell ⟨w1.heap.size, 0, none⟩ (.slice (some ⟨w3.heap.size, 0, none⟩) n n)).setCell ⟨w1.heap.size, 1, none⟩ (.slice ra rl rc)) w1.heap.size w3.heap.size n (.slice ra rl rc) E (fun _ => .slice none 0 0) (fun _ => 0)) := ovs_put (below_chain hB3 (HMB.out w3)) (Nat.le_refl _) hB3.size (Nat.ne_of_lt (cell_lt q0)) (HMR.out w3) (hrv.later (HMB.out w3)) r0 r1 r3)); (try (have F4 : Hid (OvS w1 (((w3).setCell ⟨(mk w1.drew).heap.size, 0, none⟩ (.slice (some ⟨w1.heap.size, 0, none⟩) n n)).setCell ⟨(mk w1.drew).heap.size, 1, none⟩ (.slice ra rl rc)) (mk w1.drew).heap.size w1.heap.size n (.slice ra rl rc) E (fun _ => .slice none 0 0) (fun _ => 0)) := ovs_put hB3 hcM.size (Nat.le_refl _) (Nat.ne_of_gt (cell_lt ((HMR.out w1.drew).row 0 (by omega)))) (RowIs.later (RowIs.later (HMR.out w1.drew) ((Below.refl _ _).alloc (Nat.le_refl _) _)) hb3) hrv s0 s1 s3)); (try (have F5 : Hid (OvS w1 (((mk (w3.alloc (.cells #[.slice none 0 0, .slice none 0 0] 65))).setCell ⟨w3.heap.size, 0, none⟩ (.slice (some ⟨(w3.heap.size + 1), 0, none⟩) n n)).setCell ⟨w3.heap.size, 1, none⟩ (.slice ra rl rc)) w3.heap.size (w3.heap.size + 1) n (.slice ra rl rc) E (fun _ => .slice none 0 0) (fun _ => 0)) := ovs_put (below_chain (hB3.alloc hB3.size _) (HMB.out (w3.alloc (.cells #[.slice none 0 0, .slice none 0 0] 65)))) hB3.size (Nat.le_succ_of_le hB3.size) (by omega) (by have hh := HMR.out (w3.alloc (.cells #[.slice none 0 0, .slice none 0 0] 65)); rw [World.size_alloc] at hh; exact hh) (hrv.later (below_chain ((Below.refl _ _).alloc (Nat.le_refl _) _) (HMB.out (w3.alloc (.cells #[.slice none 0 0, .slice none 0 0] 65))))) t0 t1 t3)); have hrv9 := Hid.mk' hrv; clear hrv hb3))
    all_goals
      go_wp2_with fail
      go_meet
      first | exact ⟨_, _, _, rfl, F0⟩ | exact ⟨_, _, _, rfl, F1⟩ | exact ⟨_, _, _, rfl, F2⟩ | exact ⟨_, _, _, rfl, F3⟩ | exact ⟨_, _, _, rfl, F4⟩ | exact ⟨_, _, _, rfl, F5⟩
  case rest =>
  obtain ⟨B, g1, y, rfl, HOV⟩ := hcut
  clear hmk HMR HMB hcD hcA hcM hcAM hcMA HZA aA0 aA1 aA2 aA3 mA0 mA1 mA2 mA3 sA0 sA1 sA2 sA3 HTO HNO hwS hSI hS0I
  obtain ⟨ya, yl, yc, rfl⟩ := HOV.out.nd.isSlice
  have HOV0 : Hid (OvS w1 wc B g1 n (.slice ya yl yc) E (fun _ => .slice none 0 0) (fun j => if j < 0 then u j else 0)) := HOV.out.congr fun j _ => by rw [if_neg (by omega)]
  clear HOV
  go_wp2_with fail
  go_loopw [16] (fun t wr => ∃ (i : Nat) (F1 : Nat → Value), i ≤ n ∧ t = .int .i64 i ∧ Hid (OvS w1 wr B g1 n (.slice ya yl yc) E F1 (fun j => if j < i then u j else 0))) (fun t _ => n - (intOf t).toNat)
  case atStart => exact ⟨0, _, Nat.zero_le _, rfl, HOV0⟩
  case round =>
    clear HOV0
    obtain ⟨i, F3, hi, rfl, HOV⟩ := hrel
    rcases Nat.lt_or_ge i n with h1 | h1
    · have hiI : (i : Int) < (n : Int) := by omega
      have hi0 : (0 : Int) ≤ (i : Int) := by omega
      have hub := HUB.out i h1
      have hcx := HRO.out wr HOV.out.below i h1
      have hwx : IntKind.u64.wrap ((u i : Nat) : Int) = ((u i : Nat) : Int) := by rw [IntKind.wrap_u64]; exact Int.emod_eq_of_lt (by omega) (by omega)
      have y3 := HOV.out.nts.row.row i h1
      have y4 := HOV.out.nts.row.fz i h1
      obtain ⟨xa, xl, xc, hxe⟩ := (HOV.out.nts.nat i h1).isSlice
      rw [hxe] at y3
      have HTI : Hid (∀ W, Calls Tryd.prog 26 #[.int .u64 ((u i : Nat) : Int)] W fun e w' => ∃ v, e = .returned v ∧ NatAt w' v (u i) ∧ Below W.heap.size W w') := fun W => NatOf_allH (u i) W (by omega)
      have HKS : Hid (∀ W, Below wr.heap.size wr W → W.cell? ⟨B, 0, none⟩ = some (.slice (some ⟨g1, 0, none⟩) n n)) := fun W hb => (HOV.out.later hb).c0
      have HK2 : Hid (∀ W, Below wr.heap.size wr W → W.cell? ⟨g1, i, none⟩ = some (.slice xa xl xc)) := fun W hb => by rw [hb.cell (cell_lt y3)]; exact y3
      have HFZ : Hid (∀ W, Below wr.heap.size wr W → W.frozen? ⟨g1, i, none⟩ = false) := fun W hb => by rw [hb.frozen (show g1 < wr.heap.size from cell_lt y3)]; exact y4
      have hcur : Below wr.heap.size wr wr.drew := (Below.refl _ _).drew
      clear hxe y3 y4
      go_upto_region 5 with fail
      refine region_but_last (n := 7) (S := fun W => W.cell? ⟨B, 0, none⟩ = some (.slice (some ⟨g1, 0, none⟩) n n)) (by kernel_rfl) (by kernel_rfl) (by kernel_rfl) (HKS.out _ hcur) (fun hHeld => ?_)
      refine wpAnyH_take (i := 0) (v := ?v0c) rfl (by kernel_rfl) (by kernel_rfl) (by kernel_rfl) (fun _ _ _ h => h) (Or.inl ⟨by rfl, ?hy0c⟩) (by assumption) ?rest0c
      case hy0c => (intro w hSw; (try dsimp only at hSw); go_simp <;> (try with_reducible rfl))
      simp only [Act.put]
      refine wpAnyH_take (i := 1) (v := ?v1c) rfl (by kernel_rfl) (by kernel_rfl) (by kernel_rfl) (fun _ _ _ h => h) (Or.inl ⟨by rfl, ?hy1c⟩) (by assumption) ?rest1c
      case hy1c => (intro w hSw; (try dsimp only at hSw); go_simp <;> (try with_reducible rfl))
      simp only [Act.put]
      refine wpAnyH_take (i := 2) (v := ?v2c) rfl (by kernel_rfl) (by kernel_rfl) (by kernel_rfl) (fun _ _ _ h => h) (Or.inl ⟨by rfl, ?hy2c⟩) (by assumption) ?rest2c
      case hy2c => (intro w hSw; (try dsimp only at hSw); go_simp <;> (try with_reducible rfl))
      simp only [Act.put]
      refine wpAnyH_take (i := 3) (v := ?v3c) rfl (by kernel_rfl) (by kernel_rfl) (by kernel_rfl) (fun _ _ _ h => h) (Or.inl ⟨by rfl, ?hy3c⟩) (by assumption) ?rest3c
      case hy3c => (intro w hSw; (try dsimp only at hSw); go_simp <;> (try with_reducible rfl))
      simp only [Act.put]
      refine wpAnyH_take (i := 4) (v := ?v4c) rfl (by kernel_rfl) (by kernel_rfl) (by kernel_rfl) (fun _ _ _ h => h) (Or.inl ⟨by rfl, ?hy4c⟩) (by assumption) ?rest4c
      case hy4c => (intro w hSw; (try dsimp only at hSw); go_simp <;> (try with_reducible rfl))
      simp only [Act.put]
      refine wpAnyH_ready (rs := [5]) (by kernel_rfl) (by simp) ?_
      refine AllReadyH.cons rfl (fun K hK => ?_) AllReadyH.nil
      go_simp
      refine (HTI.out _).mono ?_
      rintro e w7 ⟨rv, rfl, hrv, hb7⟩
      obtain ⟨ta, tl, tc, rfl⟩ := hrv.isSlice
      have hcur := below_chain hcur hb7
      have z1 := HK2.out _ hcur
      have z2 := HFZ.out _ hcur
      have HO9 := Hid.mk' (((HOV.out.later hcur).putP h1 hrv).congr (Y := fun j => if j < i + 1 then u j else 0) (fun j _ => by
        by_cases e : j = i
        · subst e; rw [if_pos rfl, if_pos (by omega)]
        · rw [if_neg e]
          by_cases e2 : j < i
          · rw [if_pos e2, if_pos (by omega)]
          · rw [if_neg e2, if_neg (by omega)]))
      clear hrv hb7
      go_wp2_with fail
      refine hK.out _ _ ?_ (fun hHeld => ?_)
      · exact HKS.out _ hcur
      clear hK K
      refine wpAnyH_take (i := 6) (v := ?v6c) rfl (by kernel_rfl) (by kernel_rfl) (by kernel_rfl) (fun _ _ _ h => h) (Or.inl ⟨by rfl, ?hy6c⟩) (by assumption) ?rest6c
      case hy6c => (intro w hSw; (try dsimp only at hSw); go_simp <;> (try with_reducible rfl))
      simp only [Act.put]
      refine wpAnyH_done (by kernel_rfl) ?_ _
      refine ahead_last rfl (fun K hK => ?_)
      go_simp
      refine hK _ _ ?_
      clear hK K
      clear HTI HKS HK2 HFZ z1 z2 hHeld HOV hcur
      go_wp2_with fail
      exact ⟨⟨i + 1, _, h1, by go_num, HO9⟩, by simp [intOf]; omega⟩
    · obtain rfl : i = n := by omega
      have hiI : ¬ ((i : Int) < (i : Int)) := by omega
      have HOW : Hid (OvS w1 wr B g1 i (.slice ya yl yc) E F3 u) := HOV.out.congr fun j hj => by rw [if_pos hj]
      clear HOV
      obtain ⟨⟨d2, d3⟩, d4, d5⟩ := HC.out _ HOW.out.below
      have HFI := Hid.mk' (HOW.out.fin (R := w.heap.size) HSZ.out d2 d3)
      have k0 := HOW.out.c0
      have k1 := HOW.out.c1
      have HBE : Hid (Below w.heap.size w ((wr.setCell ⟨w.heap.size, 0, none⟩ (.slice (some ⟨g1, 0, none⟩) i i)).setCell ⟨w.heap.size, 1, none⟩ (.slice ya yl yc))) := ((HEND.out _ HOW.out.below).setCell (Nat.le_refl _) _).setCell (Nat.le_refl _) _
      have HGE : Hid (w.heap.size ≤ g1) := by have := HOW.out.hg; have := HSZ.out; show _ ≤ _; omega
      clear HOW
      go_wp2_with fail
      generalize (wr.setCell ⟨w.heap.size, 0, none⟩ (.slice (some ⟨g1, 0, none⟩) i i)).setCell ⟨w.heap.size, 1, none⟩ (.slice ya yl yc) = W9 at *
      refine bodyPost_ret (v := .agg #[.slice (some ⟨g1, 0, none⟩) i i, (.slice ya yl yc)]) (by simp [results, Tryd.results23, go_sem, HFI.out.2.2.1, HFI.out.2.2.2]) rfl ⟨_, _, rfl, ⟨_, HFI.out.1⟩, HFI.out.2.1, HGE.out, HBE.out⟩
end Go.Proofs.YthomgmhmbalnbaaDoor
