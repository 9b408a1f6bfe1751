/- (heat.carried).gain: as the weights change. -/
import Derived.Test.YthomgmhmbalnbaaGreatDoorHtOver
namespace Go.Proofs.YthomgmhmbalnbaaGreatDoor
open Go.RowKit

set_option maxRecDepth 100000 in
set_option maxHeartbeats 16000000 in
theorem gain_any (n g : Nat) (F : Nat → Value) (P : Nat → Nat) (dv : Value) (D : Nat) (b o cap : Nat) (u : Nat → Nat) (b2 o2 cap2 : Nat) (x : Nat → Nat) (w : World) (hN : NtsAt w g n F P) (hD : NatAt w dv D) (hu : RowAt w b o n (fun i => (u i : Int))) (hx : RowAt w b2 o2 n (fun i => (x i : Int))) (h0 : 0 < n) (hn : n ≤ 4) (hub : ∀ i, i < n → u i ≤ 4096) (hxb : ∀ i, i < n → x i ≤ 4096) (hPB : ∀ i, i < n → ∀ k, k ≤ n → P i * prdX u i k < 18446744073709551616 ^ 12) (hDB : ∀ k, k ≤ n → D * prdU u k < 18446744073709551616 ^ 12) :
    Calls Tryz.prog 34 #[.agg #[.slice (some ⟨g, 0, none⟩) n n, dv], .slice (some ⟨b, o, none⟩) n cap, .slice (some ⟨b2, o2, none⟩) n cap2] w fun e w' => ∃ g' y, e = .returned (.agg #[.slice (some ⟨g', 0, none⟩) n n, y]) ∧ (∃ F', NtsAt w' g' n F' (fun i => P i * prdX u i n * x i)) ∧ NatAt w' y (D * prdU u n) ∧ w.heap.size ≤ g' ∧ Below w.heap.size w w' := by
  obtain ⟨da, dl, dc, rfl⟩ := hD.isSlice
  obtain ⟨w1, hw1⟩ : ∃ w1, w1 = (w.alloc (.cells #[.slice (some ⟨g, 0, none⟩) n n, .slice da dl dc] 77)).alloc (.cells #[.slice none 0 0, .slice none 0 0] 77) := ⟨_, rfl⟩
  have hb1 : Below w.heap.size w w1 := by rw [hw1]; exact ((Below.refl _ _).alloc (Nat.le_refl _) _).alloc (by simp) _
  have c0 : w1.cell? ⟨w.heap.size, 0, none⟩ = some (.slice (some ⟨g, 0, none⟩) n n) := by rw [hw1, World.cell?_alloc_lt _ _ ⟨w.heap.size, 0, none⟩ (by simp), World.cell?_alloc_at _ _ _ _ rfl]; rfl
  have c1 : w1.cell? ⟨w.heap.size, 1, none⟩ = some (.slice da dl dc) := by rw [hw1, World.cell?_alloc_lt _ _ ⟨w.heap.size, 1, none⟩ (by simp), World.cell?_alloc_at _ _ _ _ rfl]; rfl
  have c2 : w1.cell? ⟨w.heap.size + 1, 0, none⟩ = some (.slice none 0 0) := by rw [hw1, World.cell?_alloc_at _ _ _ _ (by simp)]; rfl
  have c3 : w1.cell? ⟨w.heap.size + 1, 1, none⟩ = some (.slice none 0 0) := by rw [hw1, World.cell?_alloc_at _ _ _ _ (by simp)]; rfl
  have c4 : w1.frozen? ⟨w.heap.size + 1, 0, none⟩ = false := by rw [hw1]; exact frozen_new (by simp)
  have c5 : w1.frozen? ⟨w.heap.size + 1, 1, none⟩ = false := by rw [hw1]; exact frozen_new (by simp)
  have hsz : w.heap.size + 1 < w1.heap.size := by rw [hw1]; simp
  have HSZ := Hid.mk' hsz
  have HC : Hid (∀ W, Below w1.heap.size w1 W → (W.cell? ⟨w.heap.size, 0, none⟩ = some (.slice (some ⟨g, 0, none⟩) n n) ∧ W.cell? ⟨w.heap.size, 1, none⟩ = some (.slice da dl dc)) ∧ (W.cell? ⟨w.heap.size + 1, 0, none⟩ = some (.slice none 0 0) ∧ W.cell? ⟨w.heap.size + 1, 1, none⟩ = some (.slice none 0 0)) ∧ W.frozen? ⟨w.heap.size + 1, 0, none⟩ = false ∧ W.frozen? ⟨w.heap.size + 1, 1, none⟩ = false) := fun W hb => ⟨⟨by rw [hb.cell (cell_lt c0)]; exact c0, by rw [hb.cell (cell_lt c1)]; exact c1⟩, ⟨by rw [hb.cell (cell_lt c2)]; exact c2, by rw [hb.cell (cell_lt c3)]; exact c3⟩, by rw [hb.frozen (show w.heap.size + 1 < w1.heap.size from hsz)]; exact c4, by rw [hb.frozen (show w.heap.size + 1 < w1.heap.size from hsz)]; exact c5⟩
  have HEND : Hid (∀ W, Below w1.heap.size w1 W → Below w.heap.size w W) := fun W hb => hb1.trans (hb.mono hb1.size)
  have HW1 := Hid.mk' hw1
  have HOC := Hid.mk' (over_any n g F P (.slice da dl dc) D b o cap u w1 (hN.later hb1) (hD.later hb1) (hu.later hb1) h0 hn hub hPB hDB)
  have HNX : Hid (∀ W, Below w1.heap.size w1 W → RowAt W b2 o2 n (fun i => (x i : Int))) := fun W hb => hx.later (HEND.out W hb)
  have HXB := Hid.mk' hxb
  have HPB : Hid (∀ i, i < n → P i * prdX u i n < 18446744073709551616 ^ 12) := fun i hi => hPB i hi n (Nat.le_refl _)
  have hnI : (n : Int) ≤ 4 := by omega
  have hn0I : (0 : Int) < (n : Int) := by omega
  clear hN hD hu hx hub hxb hPB hDB hw1 hb1 hsz
  go_enter Tryz.func34, Tryz.ntmps34
  go_upto_region 1 with fail
  rw [← HW1.out]
  go_wp2_with fail
  refine HOC.out.mono ?_
  rintro e w2 ⟨g1, y, rfl, ⟨F1, hN1⟩, hy, hge, hb2⟩
  obtain ⟨ya, yl, yc, rfl⟩ := hy.isSlice
  have HOV := Hid.mk' (ovs_of hb2 hge h0 hN1 hy)
  clear HOC hN1 hy hge hb2 c0 c1 c2 c3 c4 c5
  go_upto_region 2 with fail
  obtain ⟨B, hB⟩ : ∃ B, B = w2.heap.size := ⟨_, rfl⟩
  rw [← hB] at HOV ⊢
  clear hB
  generalize w2.alloc (.cells #[.slice (some ⟨g1, 0, none⟩) n n, .slice ya yl yc] 77) = wc at *
  have HOV0 : Hid (OvS w1 wc B g1 n (.slice ya yl yc) (D * prdU u n) F1 (fun j => if j < 0 then P j * prdX u j n * x j else P j * prdX u j n)) := HOV.out.congr fun j _ => by rw [if_neg (by omega)]
  clear HOV
  go_wp2_with fail
  go_loopw [15] (fun t wr => ∃ (i : Nat) (F1 : Nat → Value), i ≤ n ∧ t = .int .i64 i ∧ Hid (OvS w1 wr B g1 n (.slice ya yl yc) (D * prdU u n) F1 (fun j => if j < i then P j * prdX u j n * x j else P j * prdX u j n))) (fun t _ => n - (intOf t).toNat)
  case atStart => exact ⟨0, F1, Nat.zero_le _, rfl, HOV0⟩
  case round =>
    clear HOV0
    obtain ⟨i, F3, hi, rfl, HOV⟩ := hrel
    rcases Nat.lt_or_ge i n with h1 | h1
    · have hiI : (i : Int) < (n : Int) := by omega
      have hi0 : (0 : Int) ≤ (i : Int) := by omega
      have hub := HXB.out i h1
      have hcx := HNX.out wr HOV.out.below i h1
      have hwx : IntKind.u64.wrap ((x i : Nat) : Int) = ((x i : Nat) : Int) := by rw [IntKind.wrap_u64]; exact Int.emod_eq_of_lt (by omega) (by omega)
      have HNI : Hid (NatAt wr (F3 i) (P i * prdX u i n)) := by have := HOV.out.nts.nat i h1; rw [if_neg (Nat.lt_irrefl _)] at this; exact this
      have y3 := HOV.out.nts.row.row i h1
      have y4 := HOV.out.nts.row.fz i h1
      obtain ⟨xa, xl, xc, hxe⟩ := HNI.out.isSlice
      rw [hxe] at HNI y3
      have HTI : Hid (∀ W, Below wr.heap.size wr W → Calls Tryz.prog 65 #[.slice xa xl xc, .int .u64 ((x i : Nat) : Int)] W fun e w' => ∃ v, e = .returned v ∧ NatAt w' v (P i * prdX u i n * x i) ∧ Below W.heap.size W w') := fun W hb => Times_byH (.slice xa xl xc) (P i * prdX u i n) (x i) 12 W (HNI.out.later hb) (by omega) (HPB.out i h1) (by decide)
      have HKS : Hid (∀ W, Below wr.heap.size wr W → W.cell? ⟨B, 0, none⟩ = some (.slice (some ⟨g1, 0, none⟩) n n) ∧ W.cell? ⟨g1, i, none⟩ = some (.slice xa xl xc)) := fun W hb => ⟨(HOV.out.later hb).c0, by rw [hb.cell (cell_lt y3)]; exact y3⟩
      have HFZ : Hid (∀ W, Below wr.heap.size wr W → W.frozen? ⟨g1, i, none⟩ = false) := fun W hb => by rw [hb.frozen (show g1 < wr.heap.size from cell_lt y3)]; exact y4
      have hcur : Below wr.heap.size wr wr.drew := (Below.refl _ _).drew
      clear hxe y3 y4 HNI
      go_upto_region 5 with fail
      refine region_but_last (n := 12) (S := fun W => W.cell? ⟨B, 0, none⟩ = some (.slice (some ⟨g1, 0, none⟩) n n) ∧ W.cell? ⟨g1, i, none⟩ = some (.slice xa xl xc)) (by kernel_rfl) (by kernel_rfl) (by kernel_rfl) (HKS.out _ hcur) (fun hHeld => ?_)
      refine wpAnyH_take (i := 0) (v := ?v0c) rfl (by kernel_rfl) (by kernel_rfl) (by kernel_rfl) (fun _ _ _ h => h) (Or.inl ⟨by rfl, ?hy0c⟩) (by assumption) ?rest0c
      case hy0c => (intro w hSw; (try dsimp only at hSw); go_simp <;> (try with_reducible rfl))
      simp only [Act.put]
      refine wpAnyH_take (i := 1) (v := ?v1c) rfl (by kernel_rfl) (by kernel_rfl) (by kernel_rfl) (fun _ _ _ h => h) (Or.inl ⟨by rfl, ?hy1c⟩) (by assumption) ?rest1c
      case hy1c => (intro w hSw; (try dsimp only at hSw); go_simp <;> (try with_reducible rfl))
      simp only [Act.put]
      refine wpAnyH_take (i := 2) (v := ?v2c) rfl (by kernel_rfl) (by kernel_rfl) (by kernel_rfl) (fun _ _ _ h => h) (Or.inl ⟨by rfl, ?hy2c⟩) (by assumption) ?rest2c
      case hy2c => (intro w hSw; (try dsimp only at hSw); go_simp <;> (try with_reducible rfl))
      simp only [Act.put]
      refine wpAnyH_take (i := 3) (v := ?v3c) rfl (by kernel_rfl) (by kernel_rfl) (by kernel_rfl) (fun _ _ _ h => h) (Or.inl ⟨by rfl, ?hy3c⟩) (by assumption) ?rest3c
      case hy3c => (intro w hSw; (try dsimp only at hSw); go_simp <;> (try with_reducible rfl))
      simp only [Act.put]
      refine wpAnyH_take (i := 4) (v := ?v4c) rfl (by kernel_rfl) (by kernel_rfl) (by kernel_rfl) (fun _ _ _ h => h) (Or.inl ⟨by rfl, ?hy4c⟩) (by assumption) ?rest4c
      case hy4c => (intro w hSw; (try dsimp only at hSw); go_simp <;> (try with_reducible rfl))
      simp only [Act.put]
      refine wpAnyH_take (i := 5) (v := ?v5c) rfl (by kernel_rfl) (by kernel_rfl) (by kernel_rfl) (fun _ _ _ h => h) (Or.inl ⟨by rfl, ?hy5c⟩) (by assumption) ?rest5c
      case hy5c => (intro w hSw; (try dsimp only at hSw); go_simp <;> (try with_reducible rfl))
      simp only [Act.put]
      refine wpAnyH_take (i := 6) (v := ?v6c) rfl (by kernel_rfl) (by kernel_rfl) (by kernel_rfl) (fun _ _ _ h => h) (Or.inl ⟨by rfl, ?hy6c⟩) (by assumption) ?rest6c
      case hy6c => (intro w hSw; (try dsimp only at hSw); go_simp <;> (try with_reducible rfl))
      simp only [Act.put]
      refine wpAnyH_take (i := 7) (v := ?v7c) rfl (by kernel_rfl) (by kernel_rfl) (by kernel_rfl) (fun _ _ _ h => h) (Or.inl ⟨by rfl, ?hy7c⟩) (by assumption) ?rest7c
      case hy7c => (intro w hSw; (try dsimp only at hSw); go_simp <;> (try with_reducible rfl))
      simp only [Act.put]
      refine wpAnyH_take (i := 8) (v := ?v8c) rfl (by kernel_rfl) (by kernel_rfl) (by kernel_rfl) (fun _ _ _ h => h) (Or.inl ⟨by rfl, ?hy8c⟩) (by assumption) ?rest8c
      case hy8c => (intro w hSw; (try dsimp only at hSw); go_simp <;> (try with_reducible rfl))
      simp only [Act.put]
      refine wpAnyH_take (i := 9) (v := ?v9c) rfl (by kernel_rfl) (by kernel_rfl) (by kernel_rfl) (fun _ _ _ h => h) (Or.inl ⟨by rfl, ?hy9c⟩) (by assumption) ?rest9c
      case hy9c => (intro w hSw; (try dsimp only at hSw); go_simp <;> (try with_reducible rfl))
      simp only [Act.put]
      refine wpAnyH_ready (rs := [10]) (by kernel_rfl) (by simp) ?_
      refine AllReadyH.cons rfl (fun K hK => ?_) AllReadyH.nil
      go_simp
      refine (HTI.out _ hcur).mono ?_
      rintro e w7 ⟨rv, rfl, hrv, hb7⟩
      obtain ⟨ta, tl, tc, rfl⟩ := hrv.isSlice
      have hcur := below_chain hcur hb7
      have z1 := (HKS.out _ hcur).2
      have z2 := HFZ.out _ hcur
      have HO9 := Hid.mk' (((HOV.out.later hcur).putP h1 hrv).congr (Y := fun j => if j < i + 1 then P j * prdX u j n * x j else P j * prdX u j n) (fun j _ => by
        by_cases e : j = i
        · subst e; rw [if_pos rfl, if_pos (by omega)]
        · rw [if_neg e]
          by_cases e2 : j < i
          · rw [if_pos e2, if_pos (by omega)]
          · rw [if_neg e2, if_neg (by omega)]))
      clear hrv hb7
      go_wp2_with fail
      refine hK.out _ _ ?_ (fun hHeld => ?_)
      · exact HKS.out _ hcur
      clear hK K
      refine wpAnyH_take (i := 11) (v := ?v11c) rfl (by kernel_rfl) (by kernel_rfl) (by kernel_rfl) (fun _ _ _ h => h) (Or.inl ⟨by rfl, ?hy11c⟩) (by assumption) ?rest11c
      case hy11c => (intro w hSw; (try dsimp only at hSw); go_simp <;> (try with_reducible rfl))
      simp only [Act.put]
      refine wpAnyH_done (by kernel_rfl) ?_ _
      refine ahead_last rfl (fun K hK => ?_)
      go_simp
      refine hK _ _ ?_
      clear hK K
      clear HTI HKS HFZ z1 z2 hHeld HOV hcur
      go_wp2_with fail
      exact ⟨⟨i + 1, _, h1, by go_num, HO9⟩, by simp [intOf]; omega⟩
    · obtain rfl : i = n := by omega
      have hiI : ¬ ((i : Int) < (i : Int)) := by omega
      have HOW : Hid (OvS w1 wr B g1 i (.slice ya yl yc) (D * prdU u i) F3 (fun j => P j * prdX u j i * x j)) := HOV.out.congr fun j hj => by rw [if_pos hj]
      clear HOV
      obtain ⟨_, ⟨d2, d3⟩, d4, d5⟩ := HC.out _ HOW.out.below
      have HFI := Hid.mk' (HOW.out.fin (R := w.heap.size + 1) HSZ.out d2 d3)
      have k0 := HOW.out.c0
      have k1 := HOW.out.c1
      have HBE : Hid (Below w.heap.size w ((wr.setCell ⟨w.heap.size + 1, 0, none⟩ (.slice (some ⟨g1, 0, none⟩) i i)).setCell ⟨w.heap.size + 1, 1, none⟩ (.slice ya yl yc))) := ((HEND.out _ HOW.out.below).setCell (by simp) _).setCell (by simp) _
      have HGE : Hid (w.heap.size ≤ g1) := by have := HOW.out.hg; have := HSZ.out; show _ ≤ _; omega
      clear HOW
      go_wp2_with fail
      generalize (wr.setCell ⟨w.heap.size + 1, 0, none⟩ (.slice (some ⟨g1, 0, none⟩) i i)).setCell ⟨w.heap.size + 1, 1, none⟩ (.slice ya yl yc) = W9 at *
      refine bodyPost_ret (v := .agg #[.slice (some ⟨g1, 0, none⟩) i i, (.slice ya yl yc)]) (by simp [results, Tryz.results34, go_sem, HFI.out.2.2.1, HFI.out.2.2.2]) rfl ⟨_, _, rfl, ⟨_, HFI.out.1⟩, HFI.out.2.1, HGE.out, HBE.out⟩
end Go.Proofs.YthomgmhmbalnbaaGreatDoor
