/- (heat.carried).step: by the rows of a chain. -/
import Derived.Test.YthomgmhmbalnbaaGreatDoorHtOver
import Derived.Test.YthomgmhmbalnbaaGreatDoorFills
import Derived.Test.YthomgmhmbalnbaaGreatDoorNatPlus
namespace Go.Proofs.YthomgmhmbalnbaaGreatDoor
open Go.RowKit

theorem Tryz.infoIn : (Tryz.prog.info? 3).map (fun i => (i.zero, i.size, i.bytes)) = some (some (.int .i64 0), 1, 8) := by kernel_rfl
set_option maxRecDepth 100000 in
set_option maxHeartbeats 16000000 in
theorem step_any (n g : Nat) (F : Nat → Value) (P : Nat → Nat) (dv : Value) (D : Nat) (b o cap : Nat) (q : Nat → Nat → Nat) (R : Nat → Nat) (w : World) (hN : NtsAt w g n F P) (hD : NatAt w dv D) (hrows : ∀ i, i < n → ∃ rb ro rc, w.cell? ⟨b, o + i, none⟩ = some (.slice (some ⟨rb, ro, none⟩) n rc) ∧ RowAt w rb ro n (fun k => (q i k : Int))) (hR : ∀ i, i < n → R i = smU (q i) n) (h0 : 0 < n) (hn : n ≤ 4) (hub : ∀ i, i < n → R i ≤ 4096) (hPB : ∀ i, i < n → ∀ k, k ≤ n → P i * prdX R i k < 18446744073709551616 ^ 12) (hDB : ∀ k, k ≤ n → D * prdU R k < 18446744073709551616 ^ 12) (hSB : ∀ k, k < n → ∀ i, i ≤ n → smU (fun j => P j * prdX R j n * q j k) i < 18446744073709551616 ^ 12) :
    Calls Tryz.prog 35 #[.agg #[.slice (some ⟨g, 0, none⟩) n n, dv], .slice (some ⟨b, o, none⟩) n cap] w fun e w' => ∃ g' y, e = .returned (.agg #[.slice (some ⟨g', 0, none⟩) n n, y]) ∧ (∃ F', NtsAt w' g' n F' (fun k => smU (fun j => P j * prdX R j n * q j k) n)) ∧ NatAt w' y (D * prdU R n) ∧ w.heap.size ≤ g' ∧ Below w.heap.size w w' := by
  obtain ⟨da, dl, dc, rfl⟩ := hD.isSlice
  obtain ⟨i0, hi, hz0, hz1, hz2⟩ := info_parts Tryz.infoNt
  have HINF : Hid (Tryz.prog.info? 75 = some i0 ∧ i0.zero = some (.slice none 0 0) ∧ i0.size = 1 ∧ i0.bytes = 24) := ⟨hi, hz0, hz1, hz2⟩
  clear hi hz0 hz1 hz2
  obtain ⟨i1, hi, hz0, hz1, hz2⟩ := info_parts Tryz.infoIn
  have HIN1 : Hid (Tryz.prog.info? 3 = some i1 ∧ i1.zero = some (.int .i64 0) ∧ i1.size = 1 ∧ i1.bytes = 8) := ⟨hi, hz0, hz1, hz2⟩
  clear hi hz0 hz1 hz2
  obtain ⟨w1, hw1⟩ : ∃ w1, w1 = (w.alloc (.cells #[.slice (some ⟨g, 0, none⟩) n n, .slice da dl dc] 77)).alloc (.cells #[.slice none 0 0, .slice none 0 0] 77) := ⟨_, rfl⟩
  have hb1 : Below w.heap.size w w1 := by rw [hw1]; exact ((Below.refl _ _).alloc (Nat.le_refl _) _).alloc (by simp) _
  have c0 : w1.cell? ⟨w.heap.size, 0, none⟩ = some (.slice (some ⟨g, 0, none⟩) n n) := by rw [hw1, World.cell?_alloc_lt _ _ ⟨w.heap.size, 0, none⟩ (by simp), World.cell?_alloc_at _ _ _ _ rfl]; rfl
  have c1 : w1.cell? ⟨w.heap.size, 1, none⟩ = some (.slice da dl dc) := by rw [hw1, World.cell?_alloc_lt _ _ ⟨w.heap.size, 1, none⟩ (by simp), World.cell?_alloc_at _ _ _ _ rfl]; rfl
  have c2 : w1.cell? ⟨w.heap.size + 1, 0, none⟩ = some (.slice none 0 0) := by rw [hw1, World.cell?_alloc_at _ _ _ _ (by simp)]; rfl
  have c3 : w1.cell? ⟨w.heap.size + 1, 1, none⟩ = some (.slice none 0 0) := by rw [hw1, World.cell?_alloc_at _ _ _ _ (by simp)]; rfl
  have c4 : w1.frozen? ⟨w.heap.size + 1, 0, none⟩ = false := by rw [hw1]; exact frozen_new (by simp)
  have c5 : w1.frozen? ⟨w.heap.size + 1, 1, none⟩ = false := by rw [hw1]; exact frozen_new (by simp)
  have hsz : w.heap.size + 1 < w1.heap.size := by rw [hw1]; simp
  have HSZ := Hid.mk' hsz
  have HC : Hid (∀ W, Below w1.heap.size w1 W → (W.cell? ⟨w.heap.size, 0, none⟩ = some (.slice (some ⟨g, 0, none⟩) n n) ∧ W.cell? ⟨w.heap.size, 1, none⟩ = some (.slice da dl dc)) ∧ (W.cell? ⟨w.heap.size + 1, 0, none⟩ = some (.slice none 0 0) ∧ W.cell? ⟨w.heap.size + 1, 1, none⟩ = some (.slice none 0 0)) ∧ W.frozen? ⟨w.heap.size + 1, 0, none⟩ = false ∧ W.frozen? ⟨w.heap.size + 1, 1, none⟩ = false) := fun W hb => ⟨⟨by rw [hb.cell (cell_lt c0)]; exact c0, by rw [hb.cell (cell_lt c1)]; exact c1⟩, ⟨by rw [hb.cell (cell_lt c2)]; exact c2, by rw [hb.cell (cell_lt c3)]; exact c3⟩, by rw [hb.frozen (show w.heap.size + 1 < w1.heap.size from hsz)]; exact c4, by rw [hb.frozen (show w.heap.size + 1 < w1.heap.size from hsz)]; exact c5⟩
  have HEND : Hid (∀ W, Below w1.heap.size w1 W → Below w.heap.size w W) := fun W hb => hb1.trans (hb.mono hb1.size)
  have HW1 := Hid.mk' hw1
  have HNT : Hid (∀ W, Below w1.heap.size w1 W → NtsAt W g n F P ∧ NatAt W (.slice da dl dc) D) := fun W hb => ⟨hN.later (HEND.out W hb), hD.later (HEND.out W hb)⟩
  have HRW : Hid (∀ i, i < n → ∃ rb ro rc, ∀ W, Below w1.heap.size w1 W → W.cell? ⟨b, o + i, none⟩ = some (.slice (some ⟨rb, ro, none⟩) n rc) ∧ RowAt W rb ro n (fun k => (q i k : Int))) := fun i hi => by
    obtain ⟨rb, ro, rc, h1, h2⟩ := hrows i hi
    exact ⟨rb, ro, rc, fun W hb => ⟨by rw [(HEND.out W hb).cell (cell_lt h1)]; exact h1, h2.later (HEND.out W hb)⟩⟩
  have HQB : Hid (∀ i k, i < n → k < n → q i k ≤ 4096) := fun i k hi hk => by
    have h1 := smU_ge (u := q i) hk
    have h2 := hub i hi
    rw [hR i hi] at h2
    omega
  have HTO : Hid (∀ i, i < n → ∀ rb ro rc W, RowAt W rb ro n (fun k => (q i k : Int)) → Calls Tryz.prog 63 #[.slice (some ⟨rb, ro, none⟩) n rc] W fun e w' => e = .returned (.int .i64 ((R i : Nat) : Int)) ∧ w' = W) := fun i hi rb ro rc W hr => by
    have h1 := total_some rb ro rc n (fun k => (q i k : Int)) W hr (fun k hk => by
      rw [sumN_smU (u := q i) (fun _ _ => rfl)]
      have h3 := smU_mono (q i) hk
      have h2 := hub i hi
      rw [hR i hi] at h2
      omega) (fun k hk => by have := HQB.out i k hi hk; omega) (by omega)
    rw [sumN_smU (u := q i) (fun _ _ => rfl), ← hR i hi] at h1
    exact h1
  have HUB := Hid.mk' hub
  have HPB := Hid.mk' hPB
  have HDB := Hid.mk' hDB
  have HSB := Hid.mk' hSB
  have hnI : (n : Int) ≤ 4 := by omega
  have hn0I : (0 : Int) < (n : Int) := by omega
  clear hN hD hrows hR hub hPB hDB hSB hw1 hb1 hsz
  go_enter Tryz.func35, Tryz.ntmps35
  go_upto_region 1 with fail
  rw [← HW1.out]
  clear c0 c1 c2 c3 c4 c5
  go_wp2_with (at_make; go_must (refine wpList_make_full _ rfl _ _ _ rfl w1.heap.size 3 i1 _ 1 Tryz.underlying41 HIN1.out.1 HIN1.out.2.1 HIN1.out.2.2.1 .i64 .i64 _ _ n rfl rfl rfl rfl (by rw [HIN1.out.2.2.2]; omega) (by unfold maxLen; omega) (Nat.le_refl _) ?_; intro w2 hown2 hgrow2; have HF2 := Hid.mk' (fills_made hown2 (made_zero n) hgrow2); clear hown2 hgrow2))
  obtain ⟨gs, hgs⟩ : ∃ gs, gs = w1.heap.size := ⟨_, rfl⟩
  rw [← hgs] at HF2 ⊢
  clear hgs
  have HF0 : Hid (Fills w1 w2 gs n (fun j => ((if j < 0 then R j else 0 : Nat) : Int))) := by
    have h9 : (fun j => ((if j < 0 then R j else 0 : Nat) : Int)) = fun _ => 0 := by funext j; rw [if_neg (by omega)]; rfl
    show Fills _ _ _ _ _
    rw [h9]
    exact HF2.out
  clear HF2
  go_loopw [17] (fun t wr => ∃ i : Nat, i ≤ n ∧ t = .int .i64 i ∧ Hid (Fills w1 wr gs n (fun j => ((if j < i then R j else 0 : Nat) : Int)))) (fun t _ => n - (intOf t).toNat)
  case atStart => exact ⟨0, Nat.zero_le _, rfl, HF0⟩
  case round =>
    clear HF0
    obtain ⟨i, hi, rfl, HFI⟩ := hrel
    rcases Nat.lt_or_ge i n with h1 | h1
    · have hiI : (i : Int) < (n : Int) := by omega
      have hi0 : (0 : Int) ≤ (i : Int) := by omega
      obtain ⟨rb, ro, rc, hrow⟩ := HRW.out i h1
      have k0 := (hrow wr HFI.out.below).1
      have HCT := Hid.mk' (HTO.out i h1 rb ro rc wr (hrow wr HFI.out.below).2)
      have k1 := HFI.out.row i h1
      have k2 := HFI.out.fz i h1
      rw [Nat.zero_add] at k1 k2
      have HFN : Hid (Fills w1 (wr.setCell ⟨gs, i, none⟩ (.int .i64 ((R i : Nat) : Int))) gs n (fun j => ((if j < i + 1 then R j else 0 : Nat) : Int))) := HFI.out.set h1 _ fun j _ => by
        by_cases e : j = i
        · subst e; rw [if_pos (Nat.lt_succ_self _), if_pos rfl]
        · rw [if_neg e]
          by_cases e2 : j < i
          · rw [if_pos (show j < i + 1 by omega), if_pos e2]
          · rw [if_neg (show ¬ j < i + 1 by omega), if_neg e2]
      clear hrow HFI
      go_wp2_with fail
      refine HCT.out.mono ?_
      rintro e w3 ⟨rfl, hw3⟩
      rw [hw3]
      clear hw3 HCT
      go_wp2_with fail
      exact ⟨⟨i + 1, h1, by go_num, HFN⟩, by simp [intOf]; omega⟩
    · obtain rfl : n = i := by omega
      have hiI : ¬ ((n : Int) < (n : Int)) := by omega
      have HRS : Hid (RowAt wr gs 0 n (fun j => ((R j : Nat) : Int))) := fun j hj => by have := HFI.out.row j hj; rw [if_pos hj] at this; exact this
      have HBS := Hid.mk' HFI.out.below
      have HOC := Hid.mk' (over_any n g F P (.slice da dl dc) D gs 0 n R wr (HNT.out wr HBS.out).1 (HNT.out wr HBS.out).2 HRS.out h0 hn HUB.out HPB.out HDB.out)
      obtain ⟨⟨c0, c1⟩, _⟩ := HC.out wr HBS.out
      clear HFI HRS
      obtain ⟨W3, hW3⟩ : ∃ W3, W3 = wr := ⟨_, rfl⟩
      rw [← hW3] at HBS HOC c0 c1 ⊢
      clear hW3
      go_wp2_with fail
      refine HOC.out.mono ?_
      rintro e w4 ⟨gf, y, rfl, ⟨FF, hN1⟩, hy, hge, hb4⟩
      obtain ⟨ya, yl, yc, rfl⟩ := hy.isSlice
      have HOF := Hid.mk' (ovs_of hb4 hge h0 hN1 hy)
      clear HOC hN1 hy hge hb4 c0 c1
      go_upto_region 8 with fail
      obtain ⟨Bf, hBf⟩ : ∃ Bf, Bf = w4.heap.size := ⟨_, rfl⟩
      rw [← hBf] at HOF ⊢
      clear hBf
      generalize w4.alloc (.cells #[.slice (some ⟨gf, 0, none⟩) n n, .slice ya yl yc] 77) = WF at *
      have HBF := Hid.mk' (below_chain HBS.out HOF.out.below)
      obtain ⟨XB, hXB⟩ : ∃ XB, XB = Obj.cells #[.slice none 0 0, .slice none 0 0] 77 := ⟨_, rfl⟩
      obtain ⟨mA, hmA, homA, hgmA⟩ := run_make_full (P := Tryz.prog) (WF.drew) (WF.drew).heap.size 73 75 i0 _ 1 Tryz.underlying73 HINF.out.1 HINF.out.2.1 HINF.out.2.2.1 .i64 .i64 n (by rw [HINF.out.2.2.2]; omega) (by unfold maxLen; omega) (Nat.le_refl _)
      have HRmA : Hid (RowIs mA (WF.drew).heap.size n (fun _ => .slice none 0 0)) := rowIs_made homA (made_one (.slice none 0 0) rfl n)
      have HMmA : Hid (Below (WF.drew).heap.size (WF.drew) mA) := made_below hgmA
      clear homA hgmA
      obtain ⟨mB, hmB, homB, hgmB⟩ := run_make_full (P := Tryz.prog) ((WF.alloc (.cells #[.slice none 0 0, .slice none 0 0] 77)).drew) ((WF.alloc (.cells #[.slice none 0 0, .slice none 0 0] 77)).drew).heap.size 73 75 i0 _ 1 Tryz.underlying73 HINF.out.1 HINF.out.2.1 HINF.out.2.2.1 .i64 .i64 n (by rw [HINF.out.2.2.2]; omega) (by unfold maxLen; omega) (Nat.le_refl _)
      have HRmB : Hid (RowIs mB ((WF.alloc (.cells #[.slice none 0 0, .slice none 0 0] 77)).drew).heap.size n (fun _ => .slice none 0 0)) := rowIs_made homB (made_one (.slice none 0 0) rfl n)
      have HMmB : Hid (Below ((WF.alloc (.cells #[.slice none 0 0, .slice none 0 0] 77)).drew).heap.size ((WF.alloc (.cells #[.slice none 0 0, .slice none 0 0] 77)).drew) mB) := made_below hgmB
      clear homB hgmB
      have hcA : Below WF.heap.size WF WF.drew := (Below.refl _ _).drew
      have hcB : Below WF.heap.size WF (WF.alloc (.cells #[.slice none 0 0, .slice none 0 0] 77)).drew := ((Below.refl _ _).alloc (Nat.le_refl _) _).drew
      have HBA : Hid (Below WF.heap.size WF mA) := below_chain hcA HMmA.out
      have HBB : Hid (Below WF.heap.size WF mB) := below_chain hcB HMmB.out
      have hzB : (WF.alloc (.cells #[.slice none 0 0, .slice none 0 0] 77)).drew.heap.size = WF.heap.size + 1 := by simp
      have HZB := Hid.mk' hzB
      clear hzB hXB XB
      have kB0 : (WF.alloc (.cells #[.slice none 0 0, .slice none 0 0] 77)).drew.cell? ⟨WF.heap.size, 0, none⟩ = some (.slice none 0 0) := by show (WF.alloc (.cells #[.slice none 0 0, .slice none 0 0] 77)).cell? _ = _; simp
      have kB1 : (WF.alloc (.cells #[.slice none 0 0, .slice none 0 0] 77)).drew.cell? ⟨WF.heap.size, 1, none⟩ = some (.slice none 0 0) := by show (WF.alloc (.cells #[.slice none 0 0, .slice none 0 0] 77)).cell? _ = _; simp
      have kF0 : (WF.alloc (.cells #[.slice none 0 0, .slice none 0 0] 77)).drew.frozen? ⟨WF.heap.size, 0, none⟩ = false := by show (WF.alloc (.cells #[.slice none 0 0, .slice none 0 0] 77)).frozen? _ = _; simp
      have kF1 : (WF.alloc (.cells #[.slice none 0 0, .slice none 0 0] 77)).drew.frozen? ⟨WF.heap.size, 1, none⟩ = false := by show (WF.alloc (.cells #[.slice none 0 0, .slice none 0 0] 77)).frozen? _ = _; simp
      have mB0 : mB.cell? ⟨WF.heap.size, 0, none⟩ = some (.slice none 0 0) := by rw [HMmB.out.cell (cell_lt kB0)]; exact kB0
      have mB1 : mB.cell? ⟨WF.heap.size, 1, none⟩ = some (.slice none 0 0) := by rw [HMmB.out.cell (cell_lt kB1)]; exact kB1
      have mF0 : mB.frozen? ⟨WF.heap.size, 0, none⟩ = false := by rw [HMmB.out.frozen (cell_lt kB0)]; exact kF0
      have mF1 : mB.frozen? ⟨WF.heap.size, 1, none⟩ = false := by rw [HMmB.out.frozen (cell_lt kB1)]; exact kF1
      have HSO : Hid (OvS WF ((mB.setCell ⟨WF.heap.size, 0, none⟩ (.slice (some ⟨WF.heap.size + 1, 0, none⟩) n n)).setCell ⟨WF.heap.size, 1, none⟩ (.slice ya yl yc)) WF.heap.size (WF.heap.size + 1) n (.slice ya yl yc) (D * prdU R n) (fun _ => .slice none 0 0) (fun _ => 0)) := ovs_soon HZB.out hcB HMmB.out (Nat.le_refl _) (by have := HRmB.out; rw [HZB.out] at this; exact this) HOF.out.nd kB0 kB1 kF1
      have HLA : Hid (OvS WF (mA.alloc (.cells #[.slice (some ⟨WF.heap.size, 0, none⟩) n n, (.slice ya yl yc)] 77)) mA.heap.size WF.heap.size n (.slice ya yl yc) (D * prdU R n) (fun _ => .slice none 0 0) (fun _ => 0)) := ovs_late HBA.out (Nat.le_refl _) (by omega) HRmA.out ((HOF.out.nd).later HBA.out)
      clear kB0 kB1 kF0 kF1 HRmA HRmB HMmA HMmB
      have HKS : Hid (∀ W, Below WF.heap.size WF W → W.cell? ⟨Bf, 1, none⟩ = some (.slice ya yl yc)) := fun W hb => (HOF.out.later hb).c1
      go_cut [9] from 31 (fun s wx => ∃ B g' : Nat, s = .pointer (some ⟨B, 0, none⟩) ∧ Hid (OvS WF wx B g' n (.slice ya yl yc) (D * prdU R n) (fun _ => .slice none 0 0) (fun _ => 0)))
      case first =>
        go_region_held3 (fun W => W.cell? ⟨Bf, 1, none⟩ = some (.slice ya yl yc))
          (first | exact HKS.out _ hcA | exact HKS.out _ hcB | exact HKS.out _ HBA.out | exact HKS.out _ HBB.out | exact HKS.out _ (HLA.out.below) | exact HKS.out _ (HSO.out.below) | exact HKS.out _ (Below.refl _ _) | exact HKS.out _ (HBA.out.alloc HBA.out.size _))
          (fail)
        all_goals
          go_wp2_with fail
          go_meet
          first | exact ⟨_, _, rfl, HLA⟩ | exact ⟨_, _, rfl, HSO⟩
      case rest =>
      obtain ⟨B, g1, rfl, HOV⟩ := hcut
      clear hmA hmB HBA HBB HSO HLA mB0 mB1 mF0 mF1 hcA hcB HKS
      have HOV0 : Hid (OvS WF wc B g1 n (.slice ya yl yc) (D * prdU R n) (fun _ => .slice none 0 0) (fun k => smU (fun j => P j * prdX R j n * q j k) 0)) := HOV.out.congr fun k _ => rfl
      clear HOV
      go_wp2_with fail
      go_loopw [39] (fun t wr => ∃ (i : Nat) (F1 : Nat → Value), i ≤ n ∧ t = .int .i64 i ∧ Hid (OvS WF wr B g1 n (.slice ya yl yc) (D * prdU R n) F1 (fun k => smU (fun j => P j * prdX R j n * q j k) i))) (fun t _ => n - (intOf t).toNat)
      case atStart => exact ⟨0, _, Nat.zero_le _, rfl, HOV0⟩
      case round =>
        clear HOV0
        obtain ⟨i, F1, hi, rfl, HOV⟩ := hrel
        rcases Nat.lt_or_ge i n with h1 | h1
        · have hiI : (i : Int) < (n : Int) := by omega
          have hi0 : (0 : Int) ≤ (i : Int) := by omega
          obtain ⟨rb, ro, rc, hrow⟩ := HRW.out i h1
          have HRI := Hid.mk' hrow
          have HNF : Hid (∀ W, Below WF.heap.size WF W → W.cell? ⟨Bf, 0, none⟩ = some (.slice (some ⟨gf, 0, none⟩) n n) ∧ W.cell? ⟨gf, i, none⟩ = some (FF i) ∧ NatAt W (FF i) (P i * prdX R i n)) := fun W hb => ⟨(HOF.out.later hb).c0, (HOF.out.later hb).nts.row.row i h1, (HOF.out.later hb).nts.nat i h1⟩
          obtain ⟨fa, fl, fc, hfe⟩ := (HNF.out WF (Below.refl _ _)).2.2.isSlice
          rw [hfe] at HNF
          have HO0 : Hid (OvS WF wr B g1 n (.slice ya yl yc) (D * prdU R n) F1 (fun k => if k < 0 then smU (fun j => P j * prdX R j n * q j k) (i + 1) else smU (fun j => P j * prdX R j n * q j k) i)) := HOV.out.congr fun k _ => by rw [if_neg (by omega)]
          clear hrow HOV hfe
          obtain ⟨W5, hW5⟩ : ∃ W5, W5 = wr := ⟨_, rfl⟩
          rw [← hW5] at HO0 ⊢
          clear hW5
          go_wp2_with fail
          go_loopw [44] (fun t wr => ∃ (k : Nat) (F1 : Nat → Value), k ≤ n ∧ t = .int .i64 k ∧ Hid (OvS WF wr B g1 n (.slice ya yl yc) (D * prdU R n) F1 (fun k' => if k' < k then smU (fun j => P j * prdX R j n * q j k') (i + 1) else smU (fun j => P j * prdX R j n * q j k') i))) (fun t _ => n - (intOf t).toNat)
          case atStart => exact ⟨0, F1, Nat.zero_le _, rfl, HO0⟩
          case round =>
            clear HO0
            obtain ⟨k, F3, hk, rfl, HOV⟩ := hrel
            rcases Nat.lt_or_ge k n with h2 | h2
            · have hkI : (k : Int) < (n : Int) := by omega
              have hk0 : (0 : Int) ≤ (k : Int) := by omega
              have hqb := HQB.out i k h1 h2
              have hwx : IntKind.u64.wrap ((q i k : Nat) : Int) = ((q i k : Nat) : Int) := by rw [IntKind.wrap_u64]; exact Int.emod_eq_of_lt (by omega) (by omega)
              have HNI : Hid (NatAt wr (F3 k) (smU (fun j => P j * prdX R j n * q j k) i)) := by have := HOV.out.nts.nat k h2; rw [if_neg (Nat.lt_irrefl _)] at this; exact this
              have y3 := HOV.out.nts.row.row k h2
              have y4 := HOV.out.nts.row.fz k h2
              obtain ⟨xa, xl, xc, hxe⟩ := HNI.out.isSlice
              rw [hxe] at HNI y3
              have HBW : Hid (∀ W, Below wr.heap.size wr W → Below WF.heap.size WF W) := fun W hb => below_chain HOV.out.below hb
              have HTI : Hid (∀ W, Below wr.heap.size wr W → Calls Tryz.prog 65 #[.slice fa fl fc, .int .u64 ((q i k : Nat) : Int)] W fun e w' => ∃ v, e = .returned v ∧ NatAt w' v (P i * prdX R i n * q i k) ∧ Below W.heap.size W w') := fun W hb => Times_byH (.slice fa fl fc) (P i * prdX R i n) (q i k) 12 W (HNF.out W (HBW.out W hb)).2.2 (by omega) (HPB.out i h1 n (Nat.le_refl _)) (by decide)
              have HPL : Hid (∀ W v, Below wr.heap.size wr W → NatAt W v (P i * prdX R i n * q i k) → Calls Tryz.prog 37 #[.slice xa xl xc, v] W fun e w' => ∃ r, e = .returned r ∧ NatAt w' r (smU (fun j => P j * prdX R j n * q j k) (i + 1)) ∧ Below W.heap.size W w') := fun W v hb hv => Plus_any (.slice xa xl xc) v _ _ 12 W (HNI.out.later hb) hv (HSB.out k h2 i hi) (Nat.lt_of_le_of_lt (smU_ge (u := fun j => P j * prdX R j n * q j k) (Nat.lt_succ_self i)) (HSB.out k h2 (i + 1) h1)) (by decide)
              have HKS : Hid (∀ W, Below wr.heap.size wr W → W.cell? ⟨B, 0, none⟩ = some (.slice (some ⟨g1, 0, none⟩) n n) ∧ W.cell? ⟨g1, k, none⟩ = some (.slice xa xl xc) ∧ W.cell? ⟨Bf, 0, none⟩ = some (.slice (some ⟨gf, 0, none⟩) n n) ∧ W.cell? ⟨gf, i, none⟩ = some (.slice fa fl fc) ∧ W.cell? ⟨b, o + i, none⟩ = some (.slice (some ⟨rb, ro, none⟩) n rc) ∧ W.cell? ⟨rb, ro + k, none⟩ = some (.int .i64 ((q i k : Nat) : Int))) := fun W hb => ⟨(HOV.out.later hb).c0, by rw [hb.cell (cell_lt y3)]; exact y3, (HNF.out W (HBW.out W hb)).1, (HNF.out W (HBW.out W hb)).2.1, (HRI.out W (below_chain HBF.out (HBW.out W hb))).1, (HRI.out W (below_chain HBF.out (HBW.out W hb))).2 k h2⟩
              have HFZ : Hid (∀ W, Below wr.heap.size wr W → W.frozen? ⟨g1, k, none⟩ = false) := fun W hb => by rw [hb.frozen (show g1 < wr.heap.size from cell_lt y3)]; exact y4
              have hcur : Below wr.heap.size wr wr.drew := (Below.refl _ _).drew
              clear hxe y3 y4
              go_upto_region 15 with fail
              refine region_but_last (n := 24) (S := fun W => W.cell? ⟨B, 0, none⟩ = some (.slice (some ⟨g1, 0, none⟩) n n) ∧ W.cell? ⟨g1, k, none⟩ = some (.slice xa xl xc) ∧ W.cell? ⟨Bf, 0, none⟩ = some (.slice (some ⟨gf, 0, none⟩) n n) ∧ W.cell? ⟨gf, i, none⟩ = some (.slice fa fl fc) ∧ W.cell? ⟨b, o + i, none⟩ = some (.slice (some ⟨rb, ro, none⟩) n rc) ∧ W.cell? ⟨rb, ro + k, none⟩ = some (.int .i64 ((q i k : Nat) : Int))) (by kernel_rfl) (by kernel_rfl) (by kernel_rfl) (HKS.out _ hcur) (fun hHeld => ?_)
              refine wpAnyH_take (i := 0) (v := ?v0c) rfl (by kernel_rfl) (by kernel_rfl) (by kernel_rfl) (fun _ _ _ h => h) (Or.inl ⟨by rfl, ?hy0c⟩) (by assumption) ?rest0c
              case hy0c => (intro w hSw; (try dsimp only at hSw); go_simp <;> (try with_reducible rfl))
              simp only [Act.put]
              refine wpAnyH_take (i := 1) (v := ?v1c) rfl (by kernel_rfl) (by kernel_rfl) (by kernel_rfl) (fun _ _ _ h => h) (Or.inl ⟨by rfl, ?hy1c⟩) (by assumption) ?rest1c
              case hy1c => (intro w hSw; (try dsimp only at hSw); go_simp <;> (try with_reducible rfl))
              simp only [Act.put]
              refine wpAnyH_take (i := 2) (v := ?v2c) rfl (by kernel_rfl) (by kernel_rfl) (by kernel_rfl) (fun _ _ _ h => h) (Or.inl ⟨by rfl, ?hy2c⟩) (by assumption) ?rest2c
              case hy2c => (intro w hSw; (try dsimp only at hSw); go_simp <;> (try with_reducible rfl))
              simp only [Act.put]
              refine wpAnyH_take (i := 3) (v := ?v3c) rfl (by kernel_rfl) (by kernel_rfl) (by kernel_rfl) (fun _ _ _ h => h) (Or.inl ⟨by rfl, ?hy3c⟩) (by assumption) ?rest3c
              case hy3c => (intro w hSw; (try dsimp only at hSw); go_simp <;> (try with_reducible rfl))
              simp only [Act.put]
              refine wpAnyH_take (i := 4) (v := ?v4c) rfl (by kernel_rfl) (by kernel_rfl) (by kernel_rfl) (fun _ _ _ h => h) (Or.inl ⟨by rfl, ?hy4c⟩) (by assumption) ?rest4c
              case hy4c => (intro w hSw; (try dsimp only at hSw); go_simp <;> (try with_reducible rfl))
              simp only [Act.put]
              refine wpAnyH_take (i := 5) (v := ?v5c) rfl (by kernel_rfl) (by kernel_rfl) (by kernel_rfl) (fun _ _ _ h => h) (Or.inl ⟨by rfl, ?hy5c⟩) (by assumption) ?rest5c
              case hy5c => (intro w hSw; (try dsimp only at hSw); go_simp <;> (try with_reducible rfl))
              simp only [Act.put]
              refine wpAnyH_take (i := 6) (v := ?v6c) rfl (by kernel_rfl) (by kernel_rfl) (by kernel_rfl) (fun _ _ _ h => h) (Or.inl ⟨by rfl, ?hy6c⟩) (by assumption) ?rest6c
              case hy6c => (intro w hSw; (try dsimp only at hSw); go_simp <;> (try with_reducible rfl))
              simp only [Act.put]
              refine wpAnyH_take (i := 7) (v := ?v7c) rfl (by kernel_rfl) (by kernel_rfl) (by kernel_rfl) (fun _ _ _ h => h) (Or.inl ⟨by rfl, ?hy7c⟩) (by assumption) ?rest7c
              case hy7c => (intro w hSw; (try dsimp only at hSw); go_simp <;> (try with_reducible rfl))
              simp only [Act.put]
              refine wpAnyH_take (i := 8) (v := ?v8c) rfl (by kernel_rfl) (by kernel_rfl) (by kernel_rfl) (fun _ _ _ h => h) (Or.inl ⟨by rfl, ?hy8c⟩) (by assumption) ?rest8c
              case hy8c => (intro w hSw; (try dsimp only at hSw); go_simp <;> (try with_reducible rfl))
              simp only [Act.put]
              refine wpAnyH_take (i := 9) (v := ?v9c) rfl (by kernel_rfl) (by kernel_rfl) (by kernel_rfl) (fun _ _ _ h => h) (Or.inl ⟨by rfl, ?hy9c⟩) (by assumption) ?rest9c
              case hy9c => (intro w hSw; (try dsimp only at hSw); go_simp <;> (try with_reducible rfl))
              simp only [Act.put]
              refine wpAnyH_take (i := 10) (v := ?v10c) rfl (by kernel_rfl) (by kernel_rfl) (by kernel_rfl) (fun _ _ _ h => h) (Or.inl ⟨by rfl, ?hy10c⟩) (by assumption) ?rest10c
              case hy10c => (intro w hSw; (try dsimp only at hSw); go_simp <;> (try with_reducible rfl))
              simp only [Act.put]
              refine wpAnyH_take (i := 11) (v := ?v11c) rfl (by kernel_rfl) (by kernel_rfl) (by kernel_rfl) (fun _ _ _ h => h) (Or.inl ⟨by rfl, ?hy11c⟩) (by assumption) ?rest11c
              case hy11c => (intro w hSw; (try dsimp only at hSw); go_simp <;> (try with_reducible rfl))
              simp only [Act.put]
              refine wpAnyH_take (i := 12) (v := ?v12c) rfl (by kernel_rfl) (by kernel_rfl) (by kernel_rfl) (fun _ _ _ h => h) (Or.inl ⟨by rfl, ?hy12c⟩) (by assumption) ?rest12c
              case hy12c => (intro w hSw; (try dsimp only at hSw); go_simp <;> (try with_reducible rfl))
              simp only [Act.put]
              refine wpAnyH_take (i := 13) (v := ?v13c) rfl (by kernel_rfl) (by kernel_rfl) (by kernel_rfl) (fun _ _ _ h => h) (Or.inl ⟨by rfl, ?hy13c⟩) (by assumption) ?rest13c
              case hy13c => (intro w hSw; (try dsimp only at hSw); go_simp <;> (try with_reducible rfl))
              simp only [Act.put]
              refine wpAnyH_take (i := 14) (v := ?v14c) rfl (by kernel_rfl) (by kernel_rfl) (by kernel_rfl) (fun _ _ _ h => h) (Or.inl ⟨by rfl, ?hy14c⟩) (by assumption) ?rest14c
              case hy14c => (intro w hSw; (try dsimp only at hSw); go_simp <;> (try with_reducible rfl))
              simp only [Act.put]
              refine wpAnyH_take (i := 15) (v := ?v15c) rfl (by kernel_rfl) (by kernel_rfl) (by kernel_rfl) (fun _ _ _ h => h) (Or.inl ⟨by rfl, ?hy15c⟩) (by assumption) ?rest15c
              case hy15c => (intro w hSw; (try dsimp only at hSw); go_simp <;> (try with_reducible rfl))
              simp only [Act.put]
              refine wpAnyH_take (i := 16) (v := ?v16c) rfl (by kernel_rfl) (by kernel_rfl) (by kernel_rfl) (fun _ _ _ h => h) (Or.inl ⟨by rfl, ?hy16c⟩) (by assumption) ?rest16c
              case hy16c => (intro w hSw; (try dsimp only at hSw); go_simp <;> (try with_reducible rfl))
              simp only [Act.put]
              refine wpAnyH_take (i := 17) (v := ?v17c) rfl (by kernel_rfl) (by kernel_rfl) (by kernel_rfl) (fun _ _ _ h => h) (Or.inl ⟨by rfl, ?hy17c⟩) (by assumption) ?rest17c
              case hy17c => (intro w hSw; (try dsimp only at hSw); go_simp <;> (try with_reducible rfl))
              simp only [Act.put]
              refine wpAnyH_take (i := 18) (v := ?v18c) rfl (by kernel_rfl) (by kernel_rfl) (by kernel_rfl) (fun _ _ _ h => h) (Or.inl ⟨by rfl, ?hy18c⟩) (by assumption) ?rest18c
              case hy18c => (intro w hSw; (try dsimp only at hSw); go_simp <;> (try with_reducible rfl))
              simp only [Act.put]
              refine wpAnyH_take (i := 19) (v := ?v19c) rfl (by kernel_rfl) (by kernel_rfl) (by kernel_rfl) (fun _ _ _ h => h) (Or.inl ⟨by rfl, ?hy19c⟩) (by assumption) ?rest19c
              case hy19c => (intro w hSw; (try dsimp only at hSw); go_simp <;> (try with_reducible rfl))
              simp only [Act.put]
              refine wpAnyH_take (i := 20) (v := ?v20c) rfl (by kernel_rfl) (by kernel_rfl) (by kernel_rfl) (fun _ _ _ h => h) (Or.inl ⟨by rfl, ?hy20c⟩) (by assumption) ?rest20c
              case hy20c => (intro w hSw; (try dsimp only at hSw); go_simp <;> (try with_reducible rfl))
              simp only [Act.put]
              refine wpAnyH_ready (rs := [21]) (by kernel_rfl) (by simp) ?_
              refine AllReadyH.cons rfl (fun K hK => ?_) AllReadyH.nil
              go_simp
              refine (HTI.out _ hcur).mono ?_
              rintro e w6 ⟨rp, rfl, hrp, hb6⟩
              obtain ⟨pa, pl, pc, rfl⟩ := hrp.isSlice
              have hcur := below_chain hcur hb6
              have HRP := Hid.mk' hrp
              clear hrp hb6
              go_wp2_with fail
              refine hK.out _ _ ?_ (fun hHeld => ?_)
              · exact HKS.out _ hcur
              clear hK K
              refine wpAnyH_ready (rs := [22]) (by kernel_rfl) (by simp) ?_
              refine AllReadyH.cons rfl (fun K hK => ?_) AllReadyH.nil
              go_simp
              refine (HPL.out _ _ hcur HRP.out).mono ?_
              rintro e w7 ⟨rv, rfl, hrv, hb7⟩
              obtain ⟨ta, tl, tc, rfl⟩ := hrv.isSlice
              have hcur := below_chain hcur hb7
              have z1 := (HKS.out _ hcur).2.1
              have z2 := HFZ.out _ hcur
              have HO9 := Hid.mk' (((HOV.out.later hcur).putP h2 hrv).congr (Y := fun k' => if k' < k + 1 then smU (fun j => P j * prdX R j n * q j k') (i + 1) else smU (fun j => P j * prdX R j n * q j k') i) (fun j _ => by
                by_cases e : j = k
                · subst e; rw [if_pos rfl, if_pos (by omega)]
                · rw [if_neg e]
                  by_cases e2 : j < k
                  · rw [if_pos e2, if_pos (by omega)]
                  · rw [if_neg e2, if_neg (by omega)]))
              clear hrv hb7
              go_wp2_with fail
              refine hK.out _ _ ?_ (fun hHeld => ?_)
              · exact HKS.out _ hcur
              clear hK K
              refine wpAnyH_take (i := 23) (v := ?v23c) rfl (by kernel_rfl) (by kernel_rfl) (by kernel_rfl) (fun _ _ _ h => h) (Or.inl ⟨by rfl, ?hy23c⟩) (by assumption) ?rest23c
              case hy23c => (intro w hSw; (try dsimp only at hSw); go_simp <;> (try with_reducible rfl))
              simp only [Act.put]
              refine wpAnyH_done (by kernel_rfl) ?_ _
              refine ahead_last rfl (fun K hK => ?_)
              go_simp
              refine hK _ _ ?_
              clear hK K
              clear HTI HPL HKS HFZ z1 z2 hHeld HOV hcur HNI HBW HRP
              go_wp2_with fail
              exact ⟨⟨k + 1, _, h2, by go_num, HO9⟩, by simp [intOf]; omega⟩
            · obtain rfl : k = n := by omega
              have hkI : ¬ ((k : Int) < (k : Int)) := by omega
              have HF : Hid (OvS WF wr B g1 k (.slice ya yl yc) (D * prdU R k) F3 (fun k' => smU (fun j => P j * prdX R j k * q j k') (i + 1))) := HOV.out.congr fun j hj => by rw [if_pos hj]
              clear HOV
              go_wp2_with fail
              exact ⟨⟨i + 1, F3, h1, by go_num, HF⟩, by simp [intOf]; omega⟩
        · obtain rfl : i = n := by omega
          have hiI : ¬ ((i : Int) < (i : Int)) := by omega
          have HOW : Hid (OvS w1 wr B g1 i (.slice ya yl yc) (D * prdU R i) F1 (fun k => smU (fun j => P j * prdX R j i * q j k) i)) := ⟨below_chain HBF.out HOV.out.below, Nat.le_trans HBF.out.size HOV.out.hB, Nat.le_trans HBF.out.size HOV.out.hg, HOV.out.ne, HOV.out.c0, HOV.out.c1, HOV.out.f1, HOV.out.nd, HOV.out.nts⟩
          clear HOV
          obtain ⟨_, ⟨d2, d3⟩, d4, d5⟩ := HC.out _ HOW.out.below
          have HFI := Hid.mk' (HOW.out.fin (R := w.heap.size + 1) HSZ.out d2 d3)
          have k0 := HOW.out.c0
          have k1 := HOW.out.c1
          have HBE : Hid (Below w.heap.size w ((wr.setCell ⟨w.heap.size + 1, 0, none⟩ (.slice (some ⟨g1, 0, none⟩) i i)).setCell ⟨w.heap.size + 1, 1, none⟩ (.slice ya yl yc))) := ((HEND.out _ HOW.out.below).setCell (by simp) _).setCell (by simp) _
          have HGE : Hid (w.heap.size ≤ g1) := by have := HOW.out.hg; have := HSZ.out; show _ ≤ _; omega
          clear HOW
          go_wp2_with fail
          generalize (wr.setCell ⟨w.heap.size + 1, 0, none⟩ (.slice (some ⟨g1, 0, none⟩) i i)).setCell ⟨w.heap.size + 1, 1, none⟩ (.slice ya yl yc) = W9 at *
          refine bodyPost_ret (v := .agg #[.slice (some ⟨g1, 0, none⟩) i i, (.slice ya yl yc)]) (by simp [results, Tryz.results35, go_sem, HFI.out.2.2.1, HFI.out.2.2.2]) rfl ⟨_, _, rfl, ⟨_, HFI.out.1⟩, HFI.out.2.1, HGE.out, HBE.out⟩
end Go.Proofs.YthomgmhmbalnbaaGreatDoor
