/- (heat.carried).over: each part over a number of its own. -/
import Derived.Test.YthomgmhmbalnbaaGreatDoorHtCar
namespace Go.Proofs.YthomgmhmbalnbaaGreatDoor
open Go.RowKit

set_option maxRecDepth 100000 in
set_option maxHeartbeats 16000000 in
theorem over_any (n g : Nat) (F : Nat → Value) (P : Nat → Nat) (dv : Value) (D : Nat) (b o cap : Nat) (u : Nat → Nat) (w : World) (hN : NtsAt w g n F P) (hD : NatAt w dv D) (hu : RowAt w b o n (fun i => (u i : Int))) (h0 : 0 < n) (hn : n ≤ 4) (hub : ∀ i, i < n → u i ≤ 4096) (hPB : ∀ i, i < n → ∀ k, k ≤ n → P i * prdX u i k < 18446744073709551616 ^ 12) (hDB : ∀ k, k ≤ n → D * prdU u k < 18446744073709551616 ^ 12) :
    Calls Tryz.prog 64 #[.agg #[.slice (some ⟨g, 0, none⟩) n n, dv], .slice (some ⟨b, o, none⟩) n cap] w fun e w' => ∃ g' y, e = .returned (.agg #[.slice (some ⟨g', 0, none⟩) n n, y]) ∧ (∃ F', NtsAt w' g' n F' (fun i => P i * prdX u i n)) ∧ NatAt w' y (D * prdU u n) ∧ w.heap.size ≤ g' ∧ Below w.heap.size w w' := by
  obtain ⟨da, dl, dc, rfl⟩ := hD.isSlice
  obtain ⟨i0, hi, hz0, hz1, hz2⟩ := info_parts Tryz.infoNt
  have HINF : Hid (Tryz.prog.info? 75 = some i0 ∧ i0.zero = some (.slice none 0 0) ∧ i0.size = 1 ∧ i0.bytes = 24) := ⟨hi, hz0, hz1, hz2⟩
  clear hi hz0 hz1 hz2
  obtain ⟨w1, hw1⟩ : ∃ w1, w1 = (w.alloc (.cells #[.slice (some ⟨g, 0, none⟩) n n, .slice da dl dc] 77)).alloc (.cells #[.slice none 0 0, .slice none 0 0] 77) := ⟨_, rfl⟩
  have hb1 : Below w.heap.size w w1 := by rw [hw1]; exact ((Below.refl _ _).alloc (Nat.le_refl _) _).alloc (by simp) _
  have c0 : w1.cell? ⟨w.heap.size, 0, none⟩ = some (.slice (some ⟨g, 0, none⟩) n n) := by rw [hw1, World.cell?_alloc_lt _ _ ⟨w.heap.size, 0, none⟩ (by simp), World.cell?_alloc_at _ _ _ _ rfl]; rfl
  have c1 : w1.cell? ⟨w.heap.size, 1, none⟩ = some (.slice da dl dc) := by rw [hw1, World.cell?_alloc_lt _ _ ⟨w.heap.size, 1, none⟩ (by simp), World.cell?_alloc_at _ _ _ _ rfl]; rfl
  have c2 : w1.cell? ⟨w.heap.size + 1, 0, none⟩ = some (.slice none 0 0) := by rw [hw1, World.cell?_alloc_at _ _ _ _ (by simp)]; rfl
  have c3 : w1.cell? ⟨w.heap.size + 1, 1, none⟩ = some (.slice none 0 0) := by rw [hw1, World.cell?_alloc_at _ _ _ _ (by simp)]; rfl
  have c4 : w1.frozen? ⟨w.heap.size + 1, 0, none⟩ = false := by rw [hw1]; exact frozen_new (by simp)
  have c5 : w1.frozen? ⟨w.heap.size + 1, 1, none⟩ = false := by rw [hw1]; exact frozen_new (by simp)
  have hsz : w.heap.size + 1 < w1.heap.size := by rw [hw1]; simp
  have HSZ := Hid.mk' hsz
  have HC : Hid (∀ W, Below w1.heap.size w1 W → (W.cell? ⟨w.heap.size, 0, none⟩ = some (.slice (some ⟨g, 0, none⟩) n n) ∧ W.cell? ⟨w.heap.size, 1, none⟩ = some (.slice da dl dc)) ∧ (W.cell? ⟨w.heap.size + 1, 0, none⟩ = some (.slice none 0 0) ∧ W.cell? ⟨w.heap.size + 1, 1, none⟩ = some (.slice none 0 0)) ∧ W.frozen? ⟨w.heap.size + 1, 0, none⟩ = false ∧ W.frozen? ⟨w.heap.size + 1, 1, none⟩ = false) := fun W hb => ⟨⟨by rw [hb.cell (cell_lt c0)]; exact c0, by rw [hb.cell (cell_lt c1)]; exact c1⟩, ⟨by rw [hb.cell (cell_lt c2)]; exact c2, by rw [hb.cell (cell_lt c3)]; exact c3⟩, by rw [hb.frozen (show w.heap.size + 1 < w1.heap.size from hsz)]; exact c4, by rw [hb.frozen (show w.heap.size + 1 < w1.heap.size from hsz)]; exact c5⟩
  have HEND : Hid (∀ W, Below w1.heap.size w1 W → Below w.heap.size w W) := fun W hb => hb1.trans (hb.mono hb1.size)
  have HW1 := Hid.mk' hw1
  have HNT : Hid (∀ W, Below w1.heap.size w1 W → NtsAt W g n F P ∧ NatAt W (.slice da dl dc) D ∧ RowAt W b o n (fun i => (u i : Int))) := fun W hb => ⟨hN.later (HEND.out W hb), hD.later (HEND.out W hb), hu.later (HEND.out W hb)⟩
  have HUB := Hid.mk' hub
  have HPB := Hid.mk' hPB
  have HDB := Hid.mk' hDB
  have hnI : (n : Int) ≤ 4 := by omega
  have hn0I : (0 : Int) < (n : Int) := by omega
  clear hN hD hu hub hPB hDB hw1 hb1 hsz
  go_enter Tryz.func64, Tryz.ntmps64
  go_upto_region 1 with fail
  rw [← HW1.out]
  clear c0 c1 c2 c3 c4 c5
  obtain ⟨XB, hXB⟩ : ∃ XB, XB = Obj.cells #[.slice none 0 0, .slice none 0 0] 77 := ⟨_, rfl⟩
  obtain ⟨mA, hmA, homA, hgmA⟩ := run_make_full (P := Tryz.prog) (w1.drew) (w1.drew).heap.size 73 75 i0 _ 1 Tryz.underlying73 HINF.out.1 HINF.out.2.1 HINF.out.2.2.1 .i64 .i64 n (by rw [HINF.out.2.2.2]; omega) (by unfold maxLen; omega) (Nat.le_refl _)
  have HRmA : Hid (RowIs mA (w1.drew).heap.size n (fun _ => .slice none 0 0)) := rowIs_made homA (made_one (.slice none 0 0) rfl n)
  have HMmA : Hid (Below (w1.drew).heap.size (w1.drew) mA) := made_below hgmA
  clear homA hgmA
  obtain ⟨mB, hmB, homB, hgmB⟩ := run_make_full (P := Tryz.prog) ((w1.alloc (.cells #[.slice none 0 0, .slice none 0 0] 77)).drew) ((w1.alloc (.cells #[.slice none 0 0, .slice none 0 0] 77)).drew).heap.size 73 75 i0 _ 1 Tryz.underlying73 HINF.out.1 HINF.out.2.1 HINF.out.2.2.1 .i64 .i64 n (by rw [HINF.out.2.2.2]; omega) (by unfold maxLen; omega) (Nat.le_refl _)
  have HRmB : Hid (RowIs mB ((w1.alloc (.cells #[.slice none 0 0, .slice none 0 0] 77)).drew).heap.size n (fun _ => .slice none 0 0)) := rowIs_made homB (made_one (.slice none 0 0) rfl n)
  have HMmB : Hid (Below ((w1.alloc (.cells #[.slice none 0 0, .slice none 0 0] 77)).drew).heap.size ((w1.alloc (.cells #[.slice none 0 0, .slice none 0 0] 77)).drew) mB) := made_below hgmB
  clear homB hgmB
  have hcA : Below w1.heap.size w1 w1.drew := (Below.refl _ _).drew
  have hcB : Below w1.heap.size w1 (w1.alloc (.cells #[.slice none 0 0, .slice none 0 0] 77)).drew := ((Below.refl _ _).alloc (Nat.le_refl _) _).drew
  have HBA : Hid (Below w1.heap.size w1 mA) := below_chain hcA HMmA.out
  have HBB : Hid (Below w1.heap.size w1 mB) := below_chain hcB HMmB.out
  have hzB : (w1.alloc (.cells #[.slice none 0 0, .slice none 0 0] 77)).drew.heap.size = w1.heap.size + 1 := by simp
  have HZB := Hid.mk' hzB
  clear hzB hXB XB
  have kB0 : (w1.alloc (.cells #[.slice none 0 0, .slice none 0 0] 77)).drew.cell? ⟨w1.heap.size, 0, none⟩ = some (.slice none 0 0) := by show (w1.alloc (.cells #[.slice none 0 0, .slice none 0 0] 77)).cell? _ = _; simp
  have kB1 : (w1.alloc (.cells #[.slice none 0 0, .slice none 0 0] 77)).drew.cell? ⟨w1.heap.size, 1, none⟩ = some (.slice none 0 0) := by show (w1.alloc (.cells #[.slice none 0 0, .slice none 0 0] 77)).cell? _ = _; simp
  have kF0 : (w1.alloc (.cells #[.slice none 0 0, .slice none 0 0] 77)).drew.frozen? ⟨w1.heap.size, 0, none⟩ = false := by show (w1.alloc (.cells #[.slice none 0 0, .slice none 0 0] 77)).frozen? _ = _; simp
  have kF1 : (w1.alloc (.cells #[.slice none 0 0, .slice none 0 0] 77)).drew.frozen? ⟨w1.heap.size, 1, none⟩ = false := by show (w1.alloc (.cells #[.slice none 0 0, .slice none 0 0] 77)).frozen? _ = _; simp
  have mB0 : mB.cell? ⟨w1.heap.size, 0, none⟩ = some (.slice none 0 0) := by rw [HMmB.out.cell (cell_lt kB0)]; exact kB0
  have mB1 : mB.cell? ⟨w1.heap.size, 1, none⟩ = some (.slice none 0 0) := by rw [HMmB.out.cell (cell_lt kB1)]; exact kB1
  have mF0 : mB.frozen? ⟨w1.heap.size, 0, none⟩ = false := by rw [HMmB.out.frozen (cell_lt kB0)]; exact kF0
  have mF1 : mB.frozen? ⟨w1.heap.size, 1, none⟩ = false := by rw [HMmB.out.frozen (cell_lt kB1)]; exact kF1
  have HSO : Hid (OvS w1 ((mB.setCell ⟨w1.heap.size, 0, none⟩ (.slice (some ⟨w1.heap.size + 1, 0, none⟩) n n)).setCell ⟨w1.heap.size, 1, none⟩ (.slice da dl dc)) w1.heap.size (w1.heap.size + 1) n (.slice da dl dc) D (fun _ => .slice none 0 0) (fun _ => 0)) := ovs_soon HZB.out hcB HMmB.out (Nat.le_refl _) (by have := HRmB.out; rw [HZB.out] at this; exact this) (HNT.out w1 (Below.refl _ _)).2.1 kB0 kB1 kF1
  have HLA : Hid (OvS w1 (mA.alloc (.cells #[.slice (some ⟨w1.heap.size, 0, none⟩) n n, (.slice da dl dc)] 77)) mA.heap.size w1.heap.size n (.slice da dl dc) D (fun _ => .slice none 0 0) (fun _ => 0)) := ovs_late HBA.out (Nat.le_refl _) (by omega) HRmA.out (((HNT.out w1 (Below.refl _ _)).2.1).later HBA.out)
  clear kB0 kB1 kF0 kF1 HRmA HRmB HMmA HMmB
  have HKS : Hid (∀ W, Below w1.heap.size w1 W → W.cell? ⟨w.heap.size, 1, none⟩ = some (.slice da dl dc)) := fun W hb => (HC.out W hb).1.2
  go_cut [5] from 8 (fun s wx => ∃ B g' : Nat, s = .pointer (some ⟨B, 0, none⟩) ∧ Hid (OvS w1 wx B g' n (.slice da dl dc) D (fun _ => .slice none 0 0) (fun _ => 0)))
  case first =>
    go_region_held3 (fun W => W.cell? ⟨w.heap.size, 1, none⟩ = some (.slice da dl dc))
      (first | exact HKS.out _ hcA | exact HKS.out _ hcB | exact HKS.out _ HBA.out | exact HKS.out _ HBB.out | exact HKS.out _ (HLA.out.below) | exact HKS.out _ (HSO.out.below) | exact HKS.out _ (Below.refl _ _) | exact HKS.out _ (HBA.out.alloc HBA.out.size _))
      (fail)
    all_goals
      go_wp2_with fail
      go_meet
      first | exact ⟨_, _, rfl, HLA⟩ | exact ⟨_, _, rfl, HSO⟩
  case rest =>
  obtain ⟨B, g1, rfl, HOV⟩ := hcut
  clear hmA hmB HBA HBB HSO HLA mB0 mB1 mF0 mF1 hcA hcB HKS
  have HOV0 : Hid (OvS w1 wc B g1 n (.slice da dl dc) (D * prdU u 0) (fun _ => .slice none 0 0) (fun j => if j < 0 then P j * prdX u j n else 0)) := by
    have := HOV.out.congr (Y := fun j => if j < 0 then P j * prdX u j n else 0) (fun k _ => by rw [if_neg (by omega)])
    rw [show D * prdU u 0 = D by simp [prdU]]
    exact this
  clear HOV
  go_wp2_with fail
  go_loopw [16] (fun t wr => ∃ (i : Nat) (ya : Option Addr) (yl yc : Nat) (F1 : Nat → Value), i ≤ n ∧ t = .int .i64 i ∧ Hid (OvS w1 wr B g1 n (.slice ya yl yc) (D * prdU u i) F1 (fun j => if j < i then P j * prdX u j n else 0))) (fun t _ => n - (intOf t).toNat)
  case atStart => exact ⟨0, da, dl, dc, _, Nat.zero_le _, rfl, HOV0⟩
  case round =>
    clear HOV0
    obtain ⟨i, ya, yl, yc, F1, hi, rfl, HOV⟩ := hrel
    rcases Nat.lt_or_ge i n with h1 | h1
    · have hiI : (i : Int) < (n : Int) := by omega
      have hi0 : (0 : Int) ≤ (i : Int) := by omega
      have hub := HUB.out i h1
      have hwx : IntKind.u64.wrap ((u i : Nat) : Int) = ((u i : Nat) : Int) := by rw [IntKind.wrap_u64]; exact Int.emod_eq_of_lt (by omega) (by omega)
      have HTI : Hid (∀ W, Below wr.heap.size wr W → Calls Tryz.prog 65 #[.slice ya yl yc, .int .u64 ((u i : Nat) : Int)] W fun e w' => ∃ v, e = .returned v ∧ NatAt w' v (D * prdU u (i + 1)) ∧ Below W.heap.size W w') := fun W hb => by
        have := Times_byH (.slice ya yl yc) (D * prdU u i) (u i) 12 W (HOV.out.nd.later hb) (by omega) (HDB.out i hi) (by decide)
        rw [Nat.mul_assoc] at this
        exact this
      have HKS : Hid (∀ W, Below wr.heap.size wr W → W.cell? ⟨B, 1, none⟩ = some (.slice ya yl yc) ∧ W.cell? ⟨b, o + i, none⟩ = some (.int .i64 ((u i : Nat) : Int))) := fun W hb => ⟨(HOV.out.later hb).c1, (HNT.out W (HOV.out.later hb).below).2.2 i h1⟩
      have hcur : Below wr.heap.size wr wr.drew := (Below.refl _ _).drew
      go_upto_region 5 with fail
      refine region_but_last (n := 9) (S := fun W => W.cell? ⟨B, 1, none⟩ = some (.slice ya yl yc) ∧ W.cell? ⟨b, o + i, none⟩ = some (.int .i64 ((u i : Nat) : Int))) (by kernel_rfl) (by kernel_rfl) (by kernel_rfl) (HKS.out _ hcur) (fun hHeld => ?_)
      refine wpAnyH_take (i := 0) (v := ?v0a) rfl (by kernel_rfl) (by kernel_rfl) (by kernel_rfl) (fun _ _ _ h => h) (Or.inl ⟨by rfl, ?hy0a⟩) (by assumption) ?rest0a
      case hy0a => (intro w hSw; (try dsimp only at hSw); go_simp <;> (try with_reducible rfl))
      simp only [Act.put]
      refine wpAnyH_take (i := 1) (v := ?v1a) rfl (by kernel_rfl) (by kernel_rfl) (by kernel_rfl) (fun _ _ _ h => h) (Or.inl ⟨by rfl, ?hy1a⟩) (by assumption) ?rest1a
      case hy1a => (intro w hSw; (try dsimp only at hSw); go_simp <;> (try with_reducible rfl))
      simp only [Act.put]
      refine wpAnyH_take (i := 2) (v := ?v2a) rfl (by kernel_rfl) (by kernel_rfl) (by kernel_rfl) (fun _ _ _ h => h) (Or.inl ⟨by rfl, ?hy2a⟩) (by assumption) ?rest2a
      case hy2a => (intro w hSw; (try dsimp only at hSw); go_simp <;> (try with_reducible rfl))
      simp only [Act.put]
      refine wpAnyH_take (i := 3) (v := ?v3a) rfl (by kernel_rfl) (by kernel_rfl) (by kernel_rfl) (fun _ _ _ h => h) (Or.inl ⟨by rfl, ?hy3a⟩) (by assumption) ?rest3a
      case hy3a => (intro w hSw; (try dsimp only at hSw); go_simp <;> (try with_reducible rfl))
      simp only [Act.put]
      refine wpAnyH_take (i := 4) (v := ?v4a) rfl (by kernel_rfl) (by kernel_rfl) (by kernel_rfl) (fun _ _ _ h => h) (Or.inl ⟨by rfl, ?hy4a⟩) (by assumption) ?rest4a
      case hy4a => (intro w hSw; (try dsimp only at hSw); go_simp <;> (try with_reducible rfl))
      simp only [Act.put]
      refine wpAnyH_take (i := 5) (v := ?v5a) rfl (by kernel_rfl) (by kernel_rfl) (by kernel_rfl) (fun _ _ _ h => h) (Or.inl ⟨by rfl, ?hy5a⟩) (by assumption) ?rest5a
      case hy5a => (intro w hSw; (try dsimp only at hSw); go_simp <;> (try with_reducible rfl))
      simp only [Act.put]
      refine wpAnyH_take (i := 6) (v := ?v6a) rfl (by kernel_rfl) (by kernel_rfl) (by kernel_rfl) (fun _ _ _ h => h) (Or.inl ⟨by rfl, ?hy6a⟩) (by assumption) ?rest6a
      case hy6a => (intro w hSw; (try dsimp only at hSw); go_simp <;> (try with_reducible rfl))
      simp only [Act.put]
      refine wpAnyH_ready (rs := [7]) (by kernel_rfl) (by simp) ?_
      refine AllReadyH.cons rfl (fun K hK => ?_) AllReadyH.nil
      go_simp
      refine (HTI.out _ hcur).mono ?_
      rintro e w5 ⟨rv, rfl, hrv, hb5⟩
      obtain ⟨ra, rl, rc, rfl⟩ := hrv.isSlice
      have hcur := below_chain hcur hb5
      have z1 := (HOV.out.later hcur).c1
      have z2 := (HOV.out.later hcur).f1
      have HO5 := Hid.mk' ((HOV.out.later hcur).putD hrv)
      clear hrv hb5
      go_wp2_with fail
      refine hK.out _ _ ?_ (fun hHeld => ?_)
      · exact HKS.out _ hcur
      clear hK K
      refine wpAnyH_take (i := 8) (v := ?v8a) rfl (by kernel_rfl) (by kernel_rfl) (by kernel_rfl) (fun _ _ _ h => h) (Or.inl ⟨by rfl, ?hy8a⟩) (by assumption) ?rest8a
      case hy8a => (intro w hSw; (try dsimp only at hSw); go_simp <;> (try with_reducible rfl))
      simp only [Act.put]
      refine wpAnyH_done (by kernel_rfl) ?_ _
      refine ahead_last rfl (fun K hK => ?_)
      go_simp
      refine hK _ _ ?_
      clear hK K
      clear HTI HKS z1 z2 hHeld HOV hcur
      obtain ⟨W5, hW5⟩ : ∃ W5, W5 = w5.setCell ⟨B, 1, none⟩ (.slice ra rl rc) := ⟨_, rfl⟩
      rw [← hW5] at HO5 ⊢
      clear hW5
      have HKS : Hid (∀ W, Below W5.heap.size W5 W → W.cell? ⟨B, 0, none⟩ = some (.slice (some ⟨g1, 0, none⟩) n n) ∧ W.cell? ⟨w.heap.size, 0, none⟩ = some (.slice (some ⟨g, 0, none⟩) n n) ∧ W.cell? ⟨g, i, none⟩ = some (F i)) := fun W hb => ⟨(HO5.out.later hb).c0, (HC.out W (HO5.out.later hb).below).1.1, (HNT.out W (HO5.out.later hb).below).1.row.row i h1⟩
      have hcur : Below W5.heap.size W5 W5.drew := (Below.refl _ _).drew
      obtain ⟨fa, fl, fc, hfe⟩ := ((HNT.out W5 HO5.out.below).1.nat i h1).isSlice
      have HFN := Hid.mk' ((HNT.out W5 HO5.out.below).1.nat i h1)
      rw [hfe] at HKS HFN
      have z3 := (HO5.out.later hcur).nts.row.row i h1
      obtain ⟨qa, ql, qc, hqe⟩ := ((HO5.out.later hcur).nts.nat i h1).isSlice
      rw [hqe] at z3
      have z4 := (HO5.out.later hcur).nts.row.fz i h1
      have HO6 := Hid.mk' ((HO5.out.putP h1 HFN.out).later (Below.refl _ _).drew)
      clear hfe hqe HFN
      go_upto_region 6 with fail
      refine region_but_last (n := 9) (S := fun W => W.cell? ⟨B, 0, none⟩ = some (.slice (some ⟨g1, 0, none⟩) n n) ∧ W.cell? ⟨w.heap.size, 0, none⟩ = some (.slice (some ⟨g, 0, none⟩) n n) ∧ W.cell? ⟨g, i, none⟩ = some (.slice fa fl fc)) (by kernel_rfl) (by kernel_rfl) (by kernel_rfl) (HKS.out _ hcur) (fun hHeld => ?_)
      refine wpAnyH_take (i := 0) (v := ?v0b) rfl (by kernel_rfl) (by kernel_rfl) (by kernel_rfl) (fun _ _ _ h => h) (Or.inl ⟨by rfl, ?hy0b⟩) (by assumption) ?rest0b
      case hy0b => (intro w hSw; (try dsimp only at hSw); go_simp <;> (try with_reducible rfl))
      simp only [Act.put]
      refine wpAnyH_take (i := 1) (v := ?v1b) rfl (by kernel_rfl) (by kernel_rfl) (by kernel_rfl) (fun _ _ _ h => h) (Or.inl ⟨by rfl, ?hy1b⟩) (by assumption) ?rest1b
      case hy1b => (intro w hSw; (try dsimp only at hSw); go_simp <;> (try with_reducible rfl))
      simp only [Act.put]
      refine wpAnyH_take (i := 2) (v := ?v2b) rfl (by kernel_rfl) (by kernel_rfl) (by kernel_rfl) (fun _ _ _ h => h) (Or.inl ⟨by rfl, ?hy2b⟩) (by assumption) ?rest2b
      case hy2b => (intro w hSw; (try dsimp only at hSw); go_simp <;> (try with_reducible rfl))
      simp only [Act.put]
      refine wpAnyH_take (i := 3) (v := ?v3b) rfl (by kernel_rfl) (by kernel_rfl) (by kernel_rfl) (fun _ _ _ h => h) (Or.inl ⟨by rfl, ?hy3b⟩) (by assumption) ?rest3b
      case hy3b => (intro w hSw; (try dsimp only at hSw); go_simp <;> (try with_reducible rfl))
      simp only [Act.put]
      refine wpAnyH_take (i := 4) (v := ?v4b) rfl (by kernel_rfl) (by kernel_rfl) (by kernel_rfl) (fun _ _ _ h => h) (Or.inl ⟨by rfl, ?hy4b⟩) (by assumption) ?rest4b
      case hy4b => (intro w hSw; (try dsimp only at hSw); go_simp <;> (try with_reducible rfl))
      simp only [Act.put]
      refine wpAnyH_take (i := 5) (v := ?v5b) rfl (by kernel_rfl) (by kernel_rfl) (by kernel_rfl) (fun _ _ _ h => h) (Or.inl ⟨by rfl, ?hy5b⟩) (by assumption) ?rest5b
      case hy5b => (intro w hSw; (try dsimp only at hSw); go_simp <;> (try with_reducible rfl))
      simp only [Act.put]
      refine wpAnyH_take (i := 6) (v := ?v6b) rfl (by kernel_rfl) (by kernel_rfl) (by kernel_rfl) (fun _ _ _ h => h) (Or.inl ⟨by rfl, ?hy6b⟩) (by assumption) ?rest6b
      case hy6b => (intro w hSw; (try dsimp only at hSw); go_simp <;> (try with_reducible rfl))
      simp only [Act.put]
      refine wpAnyH_take (i := 7) (v := ?v7b) rfl (by kernel_rfl) (by kernel_rfl) (by kernel_rfl) (fun _ _ _ h => h) (Or.inl ⟨by rfl, ?hy7b⟩) (by assumption) ?rest7b
      case hy7b => (intro w hSw; (try dsimp only at hSw); go_simp <;> (try with_reducible rfl))
      simp only [Act.put]
      refine wpAnyH_take (i := 8) (v := ?v8b) rfl (by kernel_rfl) (by kernel_rfl) (by kernel_rfl) (fun _ _ _ h => h) (Or.inl ⟨by rfl, ?hy8b⟩) (by assumption) ?rest8b
      case hy8b => (intro w hSw; (try dsimp only at hSw); go_simp <;> (try with_reducible rfl))
      simp only [Act.put]
      refine wpAnyH_done (by kernel_rfl) ?_ _
      refine ahead_last rfl (fun K hK => ?_)
      go_simp
      refine hK _ _ ?_
      clear hK K
      clear HKS z3 z4 hHeld HO5 hcur
      obtain ⟨W6, hW6⟩ : ∃ W6, W6 = (W5.setCell ⟨g1, i, none⟩ (.slice fa fl fc)).drew := ⟨_, rfl⟩
      rw [← hW6] at HO6 ⊢
      clear hW6
      have HO7 : Hid (∃ F2, OvS w1 W6 B g1 n (.slice ra rl rc) (D * prdU u (i + 1)) F2 (fun j => if j = i then P i * prdX u i 0 else if j < i then P j * prdX u j n else 0)) := ⟨_, HO6.out.congr fun j _ => by
        by_cases e : j = i
        · rw [if_pos e, if_pos e]; simp [prdX]
        · rw [if_neg e, if_neg e]⟩
      obtain ⟨F2, hO7⟩ := HO7.out
      have HO8 := Hid.mk' hO7
      clear HO6 HO7 hO7
      go_wp2_with fail
      go_loopw [39] (fun t wr => ∃ (k : Nat) (F1 : Nat → Value), k ≤ n ∧ t = .int .i64 k ∧ Hid (OvS w1 wr B g1 n (.slice ra rl rc) (D * prdU u (i + 1)) F1 (fun j => if j = i then P i * prdX u i k else if j < i then P j * prdX u j n else 0))) (fun t _ => n - (intOf t).toNat)
      case atStart => exact ⟨0, F2, Nat.zero_le _, rfl, HO8⟩
      case round =>
        clear HO8
        obtain ⟨k, F3, hk, rfl, HOV⟩ := hrel
        rcases Nat.lt_or_ge k n with h2 | h2
        · have hkI : (k : Int) < (n : Int) := by omega
          have hk0 : (0 : Int) ≤ (k : Int) := by omega
          by_cases hki : k = i
          · have hne : ((k : Int) != (i : Int)) = false := by rw [bne_eq_false_iff_eq]; omega
            have HF : Hid (OvS w1 wr B g1 n (.slice ra rl rc) (D * prdU u (i + 1)) F3 (fun j => if j = i then P i * prdX u i (k + 1) else if j < i then P j * prdX u j n else 0)) := HOV.out.congr fun j _ => by rw [show prdX u i (k + 1) = prdX u i k by rw [prdX, if_pos hki]]
            clear hki
            go_wp2_with fail
            exact ⟨⟨k + 1, F3, h2, by go_num, HF⟩, by simp [intOf]; omega⟩
          · have hne : ((k : Int) != (i : Int)) = true := by rw [bne_iff_ne]; omega
            have hub := HUB.out k h2
            have hwx : IntKind.u64.wrap ((u k : Nat) : Int) = ((u k : Nat) : Int) := by rw [IntKind.wrap_u64]; exact Int.emod_eq_of_lt (by omega) (by omega)
            have HNI : Hid (NatAt wr (F3 i) (P i * prdX u i k)) := by have := HOV.out.nts.nat i h1; rw [if_pos rfl] at this; exact this
            have y3 := HOV.out.nts.row.row i h1
            have y4 := HOV.out.nts.row.fz i h1
            obtain ⟨xa, xl, xc, hxe⟩ := HNI.out.isSlice
            rw [hxe] at HNI y3
            have HPX : Hid (prdX u i (k + 1) = prdX u i k * u k) := by show _ = _; rw [prdX, if_neg hki]
            have HTI : Hid (∀ W, Below wr.heap.size wr W → Calls Tryz.prog 65 #[.slice xa xl xc, .int .u64 ((u k : Nat) : Int)] W fun e w' => ∃ v, e = .returned v ∧ NatAt w' v (P i * prdX u i (k + 1)) ∧ Below W.heap.size W w') := fun W hb => by
              have := Times_byH (.slice xa xl xc) (P i * prdX u i k) (u k) 12 W (HNI.out.later hb) (by omega) (HPB.out i h1 k hk) (by decide)
              rw [Nat.mul_assoc, ← HPX.out] at this
              exact this
            have HKS : Hid (∀ W, Below wr.heap.size wr W → W.cell? ⟨B, 0, none⟩ = some (.slice (some ⟨g1, 0, none⟩) n n) ∧ W.cell? ⟨g1, i, none⟩ = some (.slice xa xl xc) ∧ W.cell? ⟨b, o + k, none⟩ = some (.int .i64 ((u k : Nat) : Int))) := fun W hb => ⟨(HOV.out.later hb).c0, by rw [hb.cell (cell_lt y3)]; exact y3, (HNT.out W (HOV.out.later hb).below).2.2 k h2⟩
            have HFZ : Hid (∀ W, Below wr.heap.size wr W → W.frozen? ⟨g1, i, none⟩ = false) := fun W hb => by rw [hb.frozen (show g1 < wr.heap.size from cell_lt y3)]; exact y4
            have hcur : Below wr.heap.size wr wr.drew := (Below.refl _ _).drew
            clear hxe hki y3 y4 HNI
            go_upto_region 11 with fail
            refine region_but_last (n := 15) (S := fun W => W.cell? ⟨B, 0, none⟩ = some (.slice (some ⟨g1, 0, none⟩) n n) ∧ W.cell? ⟨g1, i, none⟩ = some (.slice xa xl xc) ∧ W.cell? ⟨b, o + k, none⟩ = some (.int .i64 ((u k : Nat) : Int))) (by kernel_rfl) (by kernel_rfl) (by kernel_rfl) (HKS.out _ hcur) (fun hHeld => ?_)
            refine wpAnyH_take (i := 0) (v := ?v0c) rfl (by kernel_rfl) (by kernel_rfl) (by kernel_rfl) (fun _ _ _ h => h) (Or.inl ⟨by rfl, ?hy0c⟩) (by assumption) ?rest0c
            case hy0c => (intro w hSw; (try dsimp only at hSw); go_simp <;> (try with_reducible rfl))
            simp only [Act.put]
            refine wpAnyH_take (i := 1) (v := ?v1c) rfl (by kernel_rfl) (by kernel_rfl) (by kernel_rfl) (fun _ _ _ h => h) (Or.inl ⟨by rfl, ?hy1c⟩) (by assumption) ?rest1c
            case hy1c => (intro w hSw; (try dsimp only at hSw); go_simp <;> (try with_reducible rfl))
            simp only [Act.put]
            refine wpAnyH_take (i := 2) (v := ?v2c) rfl (by kernel_rfl) (by kernel_rfl) (by kernel_rfl) (fun _ _ _ h => h) (Or.inl ⟨by rfl, ?hy2c⟩) (by assumption) ?rest2c
            case hy2c => (intro w hSw; (try dsimp only at hSw); go_simp <;> (try with_reducible rfl))
            simp only [Act.put]
            refine wpAnyH_take (i := 3) (v := ?v3c) rfl (by kernel_rfl) (by kernel_rfl) (by kernel_rfl) (fun _ _ _ h => h) (Or.inl ⟨by rfl, ?hy3c⟩) (by assumption) ?rest3c
            case hy3c => (intro w hSw; (try dsimp only at hSw); go_simp <;> (try with_reducible rfl))
            simp only [Act.put]
            refine wpAnyH_take (i := 4) (v := ?v4c) rfl (by kernel_rfl) (by kernel_rfl) (by kernel_rfl) (fun _ _ _ h => h) (Or.inl ⟨by rfl, ?hy4c⟩) (by assumption) ?rest4c
            case hy4c => (intro w hSw; (try dsimp only at hSw); go_simp <;> (try with_reducible rfl))
            simp only [Act.put]
            refine wpAnyH_take (i := 5) (v := ?v5c) rfl (by kernel_rfl) (by kernel_rfl) (by kernel_rfl) (fun _ _ _ h => h) (Or.inl ⟨by rfl, ?hy5c⟩) (by assumption) ?rest5c
            case hy5c => (intro w hSw; (try dsimp only at hSw); go_simp <;> (try with_reducible rfl))
            simp only [Act.put]
            refine wpAnyH_take (i := 6) (v := ?v6c) rfl (by kernel_rfl) (by kernel_rfl) (by kernel_rfl) (fun _ _ _ h => h) (Or.inl ⟨by rfl, ?hy6c⟩) (by assumption) ?rest6c
            case hy6c => (intro w hSw; (try dsimp only at hSw); go_simp <;> (try with_reducible rfl))
            simp only [Act.put]
            refine wpAnyH_take (i := 7) (v := ?v7c) rfl (by kernel_rfl) (by kernel_rfl) (by kernel_rfl) (fun _ _ _ h => h) (Or.inl ⟨by rfl, ?hy7c⟩) (by assumption) ?rest7c
            case hy7c => (intro w hSw; (try dsimp only at hSw); go_simp <;> (try with_reducible rfl))
            simp only [Act.put]
            refine wpAnyH_take (i := 8) (v := ?v8c) rfl (by kernel_rfl) (by kernel_rfl) (by kernel_rfl) (fun _ _ _ h => h) (Or.inl ⟨by rfl, ?hy8c⟩) (by assumption) ?rest8c
            case hy8c => (intro w hSw; (try dsimp only at hSw); go_simp <;> (try with_reducible rfl))
            simp only [Act.put]
            refine wpAnyH_take (i := 9) (v := ?v9c) rfl (by kernel_rfl) (by kernel_rfl) (by kernel_rfl) (fun _ _ _ h => h) (Or.inl ⟨by rfl, ?hy9c⟩) (by assumption) ?rest9c
            case hy9c => (intro w hSw; (try dsimp only at hSw); go_simp <;> (try with_reducible rfl))
            simp only [Act.put]
            refine wpAnyH_take (i := 10) (v := ?v10c) rfl (by kernel_rfl) (by kernel_rfl) (by kernel_rfl) (fun _ _ _ h => h) (Or.inl ⟨by rfl, ?hy10c⟩) (by assumption) ?rest10c
            case hy10c => (intro w hSw; (try dsimp only at hSw); go_simp <;> (try with_reducible rfl))
            simp only [Act.put]
            refine wpAnyH_take (i := 11) (v := ?v11c) rfl (by kernel_rfl) (by kernel_rfl) (by kernel_rfl) (fun _ _ _ h => h) (Or.inl ⟨by rfl, ?hy11c⟩) (by assumption) ?rest11c
            case hy11c => (intro w hSw; (try dsimp only at hSw); go_simp <;> (try with_reducible rfl))
            simp only [Act.put]
            refine wpAnyH_take (i := 12) (v := ?v12c) rfl (by kernel_rfl) (by kernel_rfl) (by kernel_rfl) (fun _ _ _ h => h) (Or.inl ⟨by rfl, ?hy12c⟩) (by assumption) ?rest12c
            case hy12c => (intro w hSw; (try dsimp only at hSw); go_simp <;> (try with_reducible rfl))
            simp only [Act.put]
            refine wpAnyH_ready (rs := [13]) (by kernel_rfl) (by simp) ?_
            refine AllReadyH.cons rfl (fun K hK => ?_) AllReadyH.nil
            go_simp
            refine (HTI.out _ hcur).mono ?_
            rintro e w7 ⟨rv, rfl, hrv, hb7⟩
            obtain ⟨ta, tl, tc, rfl⟩ := hrv.isSlice
            have hcur := below_chain hcur hb7
            have z1 := (HKS.out _ hcur).2.1
            have z2 := HFZ.out _ hcur
            have HO9 := Hid.mk' (((HOV.out.later hcur).putP h1 hrv).congr (Y := fun j => if j = i then P i * prdX u i (k + 1) else if j < i then P j * prdX u j n else 0) (fun j _ => by
              by_cases e : j = i
              · rw [if_pos e, if_pos e]
              · rw [if_neg e, if_neg e, if_neg e]))
            clear hrv hb7
            go_wp2_with fail
            refine hK.out _ _ ?_ (fun hHeld => ?_)
            · exact HKS.out _ hcur
            clear hK K
            refine wpAnyH_take (i := 14) (v := ?v14c) rfl (by kernel_rfl) (by kernel_rfl) (by kernel_rfl) (fun _ _ _ h => h) (Or.inl ⟨by rfl, ?hy14c⟩) (by assumption) ?rest14c
            case hy14c => (intro w hSw; (try dsimp only at hSw); go_simp <;> (try with_reducible rfl))
            simp only [Act.put]
            refine wpAnyH_done (by kernel_rfl) ?_ _
            refine ahead_last rfl (fun K hK => ?_)
            go_simp
            refine hK _ _ ?_
            clear hK K
            clear HTI HKS HFZ z1 z2 hHeld HOV hcur HPX
            go_wp2_with fail
            exact ⟨⟨k + 1, _, h2, by go_num, HO9⟩, by simp [intOf]; omega⟩
        · obtain rfl : k = n := by omega
          have HF : Hid (OvS w1 wr B g1 k (.slice ra rl rc) (D * prdU u (i + 1)) F3 (fun j => if j < i + 1 then P j * prdX u j k else 0)) := HOV.out.congr fun j _ => by
            by_cases e : j = i
            · subst e; rw [if_pos rfl, if_pos (by omega)]
            · rw [if_neg e]
              by_cases e2 : j < i
              · rw [if_pos e2, if_pos (by omega)]
              · rw [if_neg e2, if_neg (by omega)]
          have hkI : ¬ ((k : Int) < (k : Int)) := by omega
          go_wp2_with fail
          exact ⟨⟨i + 1, ra, rl, rc, F3, h1, by go_num, HF⟩, by simp [intOf]; omega⟩
    · obtain rfl : i = n := by omega
      have hiI : ¬ ((i : Int) < (i : Int)) := by omega
      have HOW : Hid (OvS w1 wr B g1 i (.slice ya yl yc) (D * prdU u i) F1 (fun j => P j * prdX u j i)) := HOV.out.congr fun j hj => by rw [if_pos hj]
      clear HOV
      obtain ⟨_, ⟨d2, d3⟩, d4, d5⟩ := HC.out _ HOW.out.below
      have HFI := Hid.mk' (HOW.out.fin (R := w.heap.size + 1) HSZ.out d2 d3)
      have k0 := HOW.out.c0
      have k1 := HOW.out.c1
      have HBE : Hid (Below w.heap.size w ((wr.setCell ⟨w.heap.size + 1, 0, none⟩ (.slice (some ⟨g1, 0, none⟩) i i)).setCell ⟨w.heap.size + 1, 1, none⟩ (.slice ya yl yc))) := ((HEND.out _ HOW.out.below).setCell (by simp) _).setCell (by simp) _
      have HGE : Hid (w.heap.size ≤ g1) := by have := HOW.out.hg; have := HSZ.out; show _ ≤ _; omega
      clear HOW
      go_wp2_with fail
      generalize (wr.setCell ⟨w.heap.size + 1, 0, none⟩ (.slice (some ⟨g1, 0, none⟩) i i)).setCell ⟨w.heap.size + 1, 1, none⟩ (.slice ya yl yc) = W9 at *
      refine bodyPost_ret (v := .agg #[.slice (some ⟨g1, 0, none⟩) i i, (.slice ya yl yc)]) (by simp [results, Tryz.results64, go_sem, HFI.out.2.2.1, HFI.out.2.2.2]) rfl ⟨_, _, rfl, ⟨_, HFI.out.1⟩, HFI.out.2.1, HGE.out, HBE.out⟩
end Go.Proofs.YthomgmhmbalnbaaGreatDoor
