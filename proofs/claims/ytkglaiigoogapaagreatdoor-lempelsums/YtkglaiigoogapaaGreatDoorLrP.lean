/- The program's chance of bits: lempel.learnt. -/
import Derived.Test.YtkglaiigoogapaaGreatDoorCutP
import Derived.Test.YtkglaiigoogapaaGreatDoorTakeOut
import Derived.Test.YtkglaiigoogapaaGreatDoorLrMath
import Derived.Deep.CutRange
namespace Go.Proofs.YtkglaiigoogapaaGreatDoor
open Go.RowKit

/-- A share, and how often each bit was seen. -/
structure ShBox (w : World) (B C : Nat) (x0 : Option Addr) (l0 c0 : Nat) (x1 : Option Addr) (l1 c1 : Nat) (N D n0 n1 : Nat) : Prop where
  s0 : w.cell? ⟨B, 0, none⟩ = some (.slice x0 l0 c0)
  s1 : w.cell? ⟨B, 1, none⟩ = some (.slice x1 l1 c1)
  a0 : w.cell? ⟨C, 0, none⟩ = some (.int .i64 (n0 : Int))
  a1 : w.cell? ⟨C, 1, none⟩ = some (.int .i64 (n1 : Int))
  hN : NatAt w (.slice x0 l0 c0) N
  hD : NatAt w (.slice x1 l1 c1) D
  ne : B ≠ C
  fB : ∀ j, j < 2 → w.frozen? ⟨B, j, none⟩ = false
  fC : ∀ j, j < 2 → w.frozen? ⟨C, j, none⟩ = false
theorem ShBox.later {w w' : World} {B C : Nat} {x0 x1 : Option Addr} {l0 c0 l1 c1 N D n0 n1 : Nat} (h : ShBox w B C x0 l0 c0 x1 l1 c1 N D n0 n1) (hb : Below w.heap.size w w') : ShBox w' B C x0 l0 c0 x1 l1 c1 N D n0 n1 :=
  ⟨by rw [hb.cell (cell_lt h.s0)]; exact h.s0, by rw [hb.cell (cell_lt h.s1)]; exact h.s1, by rw [hb.cell (cell_lt h.a0)]; exact h.a0, by rw [hb.cell (cell_lt h.a1)]; exact h.a1, h.hN.later hb, h.hD.later hb, h.ne, fun j hj => by rw [hb.frozen (show B < w.heap.size from cell_lt h.s0)]; exact h.fB j hj, fun j hj => by rw [hb.frozen (show C < w.heap.size from cell_lt h.a0)]; exact h.fC j hj⟩
theorem ShBox.set0 {w : World} {B C : Nat} {x0 x1 y : Option Addr} {l0 c0 l1 c1 N D n0 n1 l c M : Nat} (h : ShBox w B C x0 l0 c0 x1 l1 c1 N D n0 n1) (hy : NatAt w (.slice y l c) M) : ShBox (w.setCell ⟨B, 0, none⟩ (.slice y l c)) B C y l c x1 l1 c1 M D n0 n1 := by
  have ne := h.ne
  exact ⟨by rw [cell_put _ h.s0, if_pos rfl], by rw [cell_put _ h.s0, if_neg (by simp)]; exact h.s1, by rw [cell_put _ h.s0, if_neg (by simp <;> omega)]; exact h.a0, by rw [cell_put _ h.s0, if_neg (by simp)]; exact h.a1, hy.putL h.s0, h.hD.putL h.s0, ne, fun j hj => by rw [World.frozen?_setCell]; exact h.fB j hj, fun j hj => by rw [World.frozen?_setCell]; exact h.fC j hj⟩
theorem ShBox.set1 {w : World} {B C : Nat} {x0 x1 y : Option Addr} {l0 c0 l1 c1 N D n0 n1 l c M : Nat} (h : ShBox w B C x0 l0 c0 x1 l1 c1 N D n0 n1) (hy : NatAt w (.slice y l c) M) : ShBox (w.setCell ⟨B, 1, none⟩ (.slice y l c)) B C x0 l0 c0 y l c N M n0 n1 := by
  have ne := h.ne
  exact ⟨by rw [cell_put _ h.s1, if_neg (by simp)]; exact h.s0, by rw [cell_put _ h.s1, if_pos rfl], by rw [cell_put _ h.s1, if_neg (by simp)]; exact h.a0, by rw [cell_put _ h.s1, if_neg (by simp <;> omega)]; exact h.a1, h.hN.putL h.s1, hy.putL h.s1, ne, fun j hj => by rw [World.frozen?_setCell]; exact h.fB j hj, fun j hj => by rw [World.frozen?_setCell]; exact h.fC j hj⟩
theorem ShBox.more0 {w : World} {B C : Nat} {x0 x1 : Option Addr} {l0 c0 l1 c1 N D n0 n1 : Nat} (h : ShBox w B C x0 l0 c0 x1 l1 c1 N D n0 n1) (m : Nat) : ShBox (w.setCell ⟨C, 0, none⟩ (.int .i64 (m : Int))) B C x0 l0 c0 x1 l1 c1 N D m n1 := by
  have ne := h.ne
  exact ⟨by rw [cell_put _ h.a0, if_neg (by simp <;> omega)]; exact h.s0, by rw [cell_put _ h.a0, if_neg (by simp)]; exact h.s1, by rw [cell_put _ h.a0, if_pos rfl], by rw [cell_put _ h.a0, if_neg (by simp)]; exact h.a1, h.hN.put h.a0, h.hD.put h.a0, ne, fun j hj => by rw [World.frozen?_setCell]; exact h.fB j hj, fun j hj => by rw [World.frozen?_setCell]; exact h.fC j hj⟩
theorem ShBox.more1 {w : World} {B C : Nat} {x0 x1 : Option Addr} {l0 c0 l1 c1 N D n0 n1 : Nat} (h : ShBox w B C x0 l0 c0 x1 l1 c1 N D n0 n1) (m : Nat) : ShBox (w.setCell ⟨C, 1, none⟩ (.int .i64 (m : Int))) B C x0 l0 c0 x1 l1 c1 N D n0 m := by
  have ne := h.ne
  exact ⟨by rw [cell_put _ h.a1, if_neg (by simp)]; exact h.s0, by rw [cell_put _ h.a1, if_neg (by simp <;> omega)]; exact h.s1, by rw [cell_put _ h.a1, if_neg (by simp)]; exact h.a0, by rw [cell_put _ h.a1, if_pos rfl], h.hN.put h.a1, h.hD.put h.a1, ne, fun j hj => by rw [World.frozen?_setCell]; exact h.fB j hj, fun j hj => by rw [World.frozen?_setCell]; exact h.fC j hj⟩
theorem wrapi_nat {x : Int} (h0 : 0 ≤ x) (h : x ≤ 1000000) : IntKind.i64.wrap x = x := by
  simp only [IntKind.wrap_i64]
  omega
theorem wrapu_nat {x : Int} (h0 : 0 ≤ x) (h : x ≤ 1000000) : IntKind.u64.wrap x = x := by
  rw [IntKind.wrap_u64]; exact Int.emod_eq_of_lt (by omega) (by omega)

set_option maxRecDepth 100000 in
set_option maxHeartbeats 4000000 in
theorem learnt_any (t : ByteArray) (w : World) (ht : t.size ≤ 24) (hbits : ∀ i (hi : i < t.size), (t[i]'hi) = 48 ∨ (t[i]'hi) = 49) :
    Calls Tryz.prog 26 #[.string t] w fun e w' => ∃ x0 l0 c0 x1 l1 c1, e = .returned (.agg #[.slice x0 l0 c0, .slice x1 l1 c1]) ∧ NatAt w' (.slice x0 l0 c0) (lnN t t.size) ∧ NatAt w' (.slice x1 l1 c1) (lnD t.size) ∧ Below w.heap.size w w' := by
  obtain ⟨W0, hW0⟩ : ∃ W0, W0 = w.alloc (.cells #[.slice none 0 0, .slice none 0 0] 63) := ⟨_, rfl⟩
  have hb0 : Below w.heap.size w W0 := by rw [hW0]; exact (Below.refl _ _).alloc (Nat.le_refl _) _
  have HR0 : Hid (∀ W, Below W0.heap.size W0 W → (W.cell? ⟨w.heap.size, 0, none⟩ = some (.slice none 0 0) ∧ W.cell? ⟨w.heap.size, 1, none⟩ = some (.slice none 0 0)) ∧ ∀ j, j < 2 → W.frozen? ⟨w.heap.size, j, none⟩ = false) := fun W hb => by
    have hlt : w.heap.size < W0.heap.size := by rw [hW0]; simp
    refine ⟨⟨?_, ?_⟩, fun j hj => ?_⟩
    · rw [hb.cell hlt, hW0, top_cell _ _ _ _ rfl]; rfl
    · rw [hb.cell hlt, hW0, top_cell _ _ _ _ rfl]; rfl
    · rw [hb.frozen hlt, hW0]; exact top_frozen _ _ _ _ rfl
  have HB0 := Hid.mk' hb0
  have HBT := Hid.mk' hbits
  have HQ1 : Hid (∀ W, Calls Tryz.prog 50 #[.int .u64 1] W fun e w' => ∃ v, e = .returned v ∧ NatAt w' v 1 ∧ Below W.heap.size W w') := fun W => NatOf_all 1 W (by decide)
  clear hb0 hbits
  go_enter Tryz.func26, Tryz.ntmps26
  go_upto_region 1 with fail
  rw [← hW0]
  clear hW0
  have hcur := Below.refl W0.heap.size W0
  go_wp2_with fail
  refine (HQ1.out _).mono ?_
  rintro e w1 ⟨r, rfl, hr1, hb1⟩
  obtain ⟨x0, l0, c0, rfl⟩ := hr1.isSl
  have hcur := below_chain hcur hb1
  have HN1 := Hid.mk' hr1
  clear hr1 hb1
  go_wp2_with fail
  refine (HQ1.out _).mono ?_
  rintro e w2 ⟨r, rfl, hr2, hb2⟩
  obtain ⟨x1, l1, c1, rfl⟩ := hr2.isSl
  have hcur := below_chain hcur hb2
  have HN1 := Hid.mk' (HN1.out.later hb2)
  have HN2 := Hid.mk' hr2
  have HLT1 := Hid.mk' hcur.size
  have HCUR := Hid.mk' hcur
  clear hr2 hb2 hcur HQ1
  go_wp2_with fail
  have HSH : Hid (ShBox ((w2.alloc (.cells #[.slice x0 l0 c0, .slice x1 l1 c1] 63)).alloc (.cells #[.int .i64 0, .int .i64 0] 97)) w2.heap.size (w2.heap.size + 1) x0 l0 c0 x1 l1 c1 1 1 0 0) := by
    have hbz : Below w2.heap.size w2 ((w2.alloc (.cells #[.slice x0 l0 c0, .slice x1 l1 c1] 63)).alloc (.cells #[.int .i64 0, .int .i64 0] 97)) := ((Below.refl _ _).alloc (Nat.le_refl _) _).alloc (by simp) _
    refine ⟨?_, ?_, ?_, ?_, HN1.out.later hbz, HN2.out.later hbz, by omega, fun j hj => ?_, fun j hj => ?_⟩
    · rw [World.cell?_alloc_lt _ _ ⟨w2.heap.size, 0, none⟩ (by simp), top_cell _ _ _ _ rfl]; rfl
    · rw [World.cell?_alloc_lt _ _ ⟨w2.heap.size, 1, none⟩ (by simp), top_cell _ _ _ _ rfl]; rfl
    · rw [top_cell _ _ _ _ (by simp)]; rfl
    · rw [top_cell _ _ _ _ (by simp)]; rfl
    · rw [World.frozen?_alloc_old _ _ _ (by simp)]; exact top_frozen _ _ _ _ rfl
    · exact top_frozen _ _ _ _ (by simp)
  have HBW : Hid (Below W0.heap.size W0 ((w2.alloc (.cells #[.slice x0 l0 c0, .slice x1 l1 c1] 63)).alloc (.cells #[.int .i64 0, .int .i64 0] 97))) := (HCUR.out.alloc HCUR.out.size _).alloc (by have := HCUR.out.size; simp; omega) _
  have HLC : Hid (W0.heap.size ≤ w2.heap.size + 1) := Nat.le_succ_of_le HLT1.out
  generalize (w2.alloc (.cells #[.slice x0 l0 c0, .slice x1 l1 c1] 63)).alloc (.cells #[.int .i64 0, .int .i64 0] 97) = Ws at *
  generalize w2.heap.size + 1 = C at *
  clear HN1 HN2 HCUR
  generalize w2.heap.size = B at *
  go_loopw [12] (fun i wr => ∃ (k : Nat) (x0 x1 : Option Addr) (l0 c0 l1 c1 : Nat), k ≤ t.size ∧ i = .int .i64 k ∧ Hid (ShBox wr B C x0 l0 c0 x1 l1 c1 (lnN t k) (lnD k) (cntB t 0 k) (cntB t 1 k)) ∧ Hid (Below W0.heap.size W0 wr)) (fun i _ => t.size - (intOf i).toNat)
  case atStart => exact ⟨0, x0, x1, l0, c0, l1, c1, Nat.zero_le _, rfl, HSH.out, HBW.out⟩
  case round =>
    clear HSH HBW
    obtain ⟨k, x0, x1, l0, c0, l1, c1, hk, rfl, HS, HB⟩ := hrel
    have hk0 : (0 : Int) ≤ (k : Int) := by omega
    rcases Nat.lt_or_ge k t.size with h1 | h1
    · have hkI : (k : Int) < (t.size : Int) := by omega
      have hk24 : (k : Int) ≤ 24 := by omega
      have HD1 : Hid (lnD (k + 1) = lnD k * (2 * k + 2)) := rfl
      have hle := lnN_le t k
      have hs0 := (lnD_small (i := k) (by omega)).2
      have HTD : Hid (∀ W, NatAt W (.slice x1 l1 c1) (lnD k) → Calls Tryz.prog 51 #[.slice x1 l1 c1, .int .u64 (2 * (k : Int) + 2)] W fun e w' => ∃ r, e = .returned r ∧ NatAt w' r (lnD (k + 1)) ∧ Below W.heap.size W w') := fun W hu => by
        have h3 := Times_all _ _ (2 * k + 2) 4 W hu (by omega) hs0 (by decide)
        rw [show ((2 * k + 2 : Nat) : Int) = 2 * (k : Int) + 2 by omega, ← HD1.out] at h3
        exact h3
      have hv3 : IntKind.i64.wrap (2 * (k : Int)) = 2 * (k : Int) := wrapi_nat (by omega) (by omega)
      have hv4 : IntKind.i64.wrap (2 * (k : Int) + 2) = 2 * (k : Int) + 2 := wrapi_nat (by omega) (by omega)
      have hv5 : IntKind.u64.wrap (2 * (k : Int) + 2) = 2 * (k : Int) + 2 := wrapu_nat (by omega) (by omega)
      rcases HBT.out k h1 with hx | hx
      · have hq := bitAt_zero h1 hx
        have hn : ((t[k]'h1).toNat : Int) = 48 := by rw [hx]; rfl
        have HC1 := Hid.mk' (cntB_same hq)
        have HC2 := Hid.mk' (cntB_other (c := 1) hq (by decide))
        have HNN := Hid.mk' (lnN_step hq)
        have hcm := cntB_le t 0 k
        generalize cntB t 0 k = m at *
        have HTN : Hid (∀ W, NatAt W (.slice x0 l0 c0) (lnN t k) → Calls Tryz.prog 51 #[.slice x0 l0 c0, .int .u64 (2 * (m : Int) + 1)] W fun e w' => ∃ r, e = .returned r ∧ NatAt w' r (lnN t (k + 1)) ∧ Below W.heap.size W w') := fun W hu => by
          have h3 := Times_all _ _ (2 * m + 1) 4 W hu (by omega) (by omega) (by decide)
          rw [show ((2 * m + 1 : Nat) : Int) = 2 * (m : Int) + 1 by omega, ← HNN.out] at h3
          exact h3
        have hm0 : (0 : Int) ≤ (m : Int) := by omega
        have hm1 : (m : Int) ≤ 24 := by omega
        have hw1 : IntKind.i64.wrap (2 * (m : Int)) = 2 * (m : Int) := wrapi_nat (by omega) (by omega)
        have hw2 : IntKind.i64.wrap (2 * (m : Int) + 1) = 2 * (m : Int) + 1 := wrapi_nat (by omega) (by omega)
        have hw3 : IntKind.u64.wrap (2 * (m : Int) + 1) = 2 * (m : Int) + 1 := wrapu_nat (by omega) (by omega)
        clear hcm hle hs0 hq hx
        have y0 := HS.out.s0
        have y1 := HS.out.a0
        have HKS : Hid (∀ W, Below wr.heap.size wr W → (W.cell? ⟨B, 0, none⟩ = some (.slice x0 l0 c0) ∧ W.cell? ⟨C, 0, none⟩ = some (.int .i64 (m : Int)))) := fun W hb => ⟨by rw [hb.cell (cell_lt y0)]; exact y0, by rw [hb.cell (cell_lt y1)]; exact y1⟩
        have HLW := Hid.mk' (fun (W : World) (hb : Below wr.heap.size wr W) => HS.out.later hb)
        have hcur : Below wr.heap.size wr wr.drew := (Below.refl _ _).drew
        clear y0 y1
        go_wp2_with fail
        refine region_but_last (n := 10) (S := fun W => W.cell? ⟨B, 0, none⟩ = some (.slice x0 l0 c0) ∧ W.cell? ⟨C, 0, none⟩ = some (.int .i64 (m : Int))) (by kernel_rfl) (by kernel_rfl) (by kernel_rfl) (HKS.out _ hcur) (fun hHeld => ?_)
        refine wpAnyH_take (i := 0) (v := ?v0p) rfl (by kernel_rfl) (by kernel_rfl) (by kernel_rfl) (fun _ _ _ h => h) (Or.inl ⟨by rfl, ?hy0p⟩) (by assumption) ?rest0p
        case hy0p => (intro w hSw; (try dsimp only at hSw); go_simp <;> (try with_reducible rfl))
        simp only [Act.put]
        refine wpAnyH_take (i := 1) (v := ?v1p) rfl (by kernel_rfl) (by kernel_rfl) (by kernel_rfl) (fun _ _ _ h => h) (Or.inl ⟨by rfl, ?hy1p⟩) (by assumption) ?rest1p
        case hy1p => (intro w hSw; (try dsimp only at hSw); go_simp <;> (try with_reducible rfl))
        simp only [Act.put]
        refine wpAnyH_take (i := 2) (v := ?v2p) rfl (by kernel_rfl) (by kernel_rfl) (by kernel_rfl) (fun _ _ _ h => h) (Or.inl ⟨by rfl, ?hy2p⟩) (by assumption) ?rest2p
        case hy2p => (intro w hSw; (try dsimp only at hSw); go_simp <;> (try with_reducible rfl))
        simp only [Act.put]
        refine wpAnyH_take (i := 3) (v := ?v3p) rfl (by kernel_rfl) (by kernel_rfl) (by kernel_rfl) (fun _ _ _ h => h) (Or.inl ⟨by rfl, ?hy3p⟩) (by assumption) ?rest3p
        case hy3p => (intro w hSw; (try dsimp only at hSw); go_simp <;> (try with_reducible rfl))
        simp only [Act.put]
        refine wpAnyH_take (i := 4) (v := ?v4p) rfl (by kernel_rfl) (by kernel_rfl) (by kernel_rfl) (fun _ _ _ h => h) (Or.inl ⟨by rfl, ?hy4p⟩) (by assumption) ?rest4p
        case hy4p => (intro w hSw; (try dsimp only at hSw); go_simp <;> (try with_reducible rfl))
        simp only [Act.put]
        refine wpAnyH_take (i := 5) (v := ?v5p) rfl (by kernel_rfl) (by kernel_rfl) (by kernel_rfl) (fun _ _ _ h => h) (Or.inl ⟨by rfl, ?hy5p⟩) (by assumption) ?rest5p
        case hy5p => (intro w hSw; (try dsimp only at hSw); go_simp <;> (try with_reducible rfl))
        simp only [Act.put]
        refine wpAnyH_take (i := 6) (v := ?v6p) rfl (by kernel_rfl) (by kernel_rfl) (by kernel_rfl) (fun _ _ _ h => h) (Or.inl ⟨by rfl, ?hy6p⟩) (by assumption) ?rest6p
        case hy6p => (intro w hSw; (try dsimp only at hSw); go_simp <;> (try with_reducible rfl))
        simp only [Act.put]
        refine wpAnyH_take (i := 7) (v := ?v7p) rfl (by kernel_rfl) (by kernel_rfl) (by kernel_rfl) (fun _ _ _ h => h) (Or.inl ⟨by rfl, ?hy7p⟩) (by assumption) ?rest7p
        case hy7p => (intro w hSw; (try dsimp only at hSw); go_simp <;> (try with_reducible rfl))
        simp only [Act.put]
        refine wpAnyH_ready (rs := [8]) (by kernel_rfl) (by simp) ?_
        refine AllReadyH.cons rfl (fun K hK => ?_) AllReadyH.nil
        go_simp
        refine (HTN.out _ (HLW.out _ hcur).hN).mono ?_
        rintro e w5 ⟨r1, rfl, hr1, hb5⟩
        have hcur := below_chain hcur hb5
        have HX1 := Hid.mk' hr1
        obtain ⟨p1, m1, q1, hr1e⟩ := hr1.isSl
        subst hr1e
        clear hr1
        have hL := HLW.out _ hcur
        have fz0 := hL.fB 0 (by decide)
        have k0 := hL.s0
        have HSET := Hid.mk' (hL.set0 HX1.out)
        clear hL
        go_wp2_with fail
        refine hK.out _ _ ?_ (fun hHeld => ?_)
        · exact HKS.out _ hcur
        clear hK K
        refine wpAnyH_take (i := 9) (v := ?v9p) rfl (by kernel_rfl) (by kernel_rfl) (by kernel_rfl) (fun _ _ _ h => h) (Or.inl ⟨by rfl, ?hy9p⟩) (by assumption) ?rest9p
        case hy9p => (intro w hSw; (try dsimp only at hSw); go_simp <;> (try with_reducible rfl))
        simp only [Act.put]
        refine wpAnyH_done (by kernel_rfl) ?_ _
        refine ahead_last rfl (fun K hK => ?_)
        go_simp
        refine hK _ _ ?_
        clear hK K
        have HB8 : Hid (Below W0.heap.size W0 (w5.setCell ⟨B, 0, none⟩ (.slice p1 m1 q1))) := (below_chain HB.out hcur).setCell HLT1.out _
        generalize w5.setCell ⟨B, 0, none⟩ (.slice p1 m1 q1) = W8 at *
        clear HX1 hHeld k0 fz0 hcur HKS HLW hb5 HS
        have z1 := HSET.out.s1
        go_wp2_with fail
        refine (HTD.out _ HSET.out.hD).mono ?_
        rintro e w9 ⟨r9, rfl, hr9, hb9⟩
        obtain ⟨p2, m2, q2, rfl⟩ := hr9.isSl
        have hL := HSET.out.later hb9
        have f1 := hL.fB 1 (by decide)
        have u1 := hL.s1
        have HS2 := Hid.mk' (hL.set1 hr9)
        have HB9 : Hid (Below W0.heap.size W0 (w9.setCell ⟨B, 1, none⟩ (.slice p2 m2 q2))) := (below_chain HB8.out hb9).setCell HLT1.out _
        have u2 := HS2.out.a0
        have f2 := HS2.out.fC 0 (by decide)
        clear hL hb9 hr9 HSET HB8 z1
        go_wp2_with fail
        have hz := HS2.out.more0 (m + 1)
        rw [show ((m + 1 : Nat) : Int) = (m : Int) + 1 by omega, ← HC1.out, ← HC2.out] at hz
        exact ⟨⟨k + 1, _, _, _, _, _, _, h1, by go_num, hz, HB9.out.setCell HLC.out _⟩, by simp [intOf]; omega⟩
      · have hq := bitAt_one h1 hx
        have hn : ((t[k]'h1).toNat : Int) = 49 := by rw [hx]; rfl
        have HC1 := Hid.mk' (cntB_same hq)
        have HC2 := Hid.mk' (cntB_other (c := 0) hq (by decide))
        have HNN := Hid.mk' (lnN_step hq)
        have hcm := cntB_le t 1 k
        generalize cntB t 1 k = m at *
        have HTN : Hid (∀ W, NatAt W (.slice x0 l0 c0) (lnN t k) → Calls Tryz.prog 51 #[.slice x0 l0 c0, .int .u64 (2 * (m : Int) + 1)] W fun e w' => ∃ r, e = .returned r ∧ NatAt w' r (lnN t (k + 1)) ∧ Below W.heap.size W w') := fun W hu => by
          have h3 := Times_all _ _ (2 * m + 1) 4 W hu (by omega) (by omega) (by decide)
          rw [show ((2 * m + 1 : Nat) : Int) = 2 * (m : Int) + 1 by omega, ← HNN.out] at h3
          exact h3
        have hm0 : (0 : Int) ≤ (m : Int) := by omega
        have hm1 : (m : Int) ≤ 24 := by omega
        have hw1 : IntKind.i64.wrap (2 * (m : Int)) = 2 * (m : Int) := wrapi_nat (by omega) (by omega)
        have hw2 : IntKind.i64.wrap (2 * (m : Int) + 1) = 2 * (m : Int) + 1 := wrapi_nat (by omega) (by omega)
        have hw3 : IntKind.u64.wrap (2 * (m : Int) + 1) = 2 * (m : Int) + 1 := wrapu_nat (by omega) (by omega)
        clear hcm hle hs0 hq hx
        have y0 := HS.out.s0
        have y1 := HS.out.a1
        have HKS : Hid (∀ W, Below wr.heap.size wr W → (W.cell? ⟨B, 0, none⟩ = some (.slice x0 l0 c0) ∧ W.cell? ⟨C, 1, none⟩ = some (.int .i64 (m : Int)))) := fun W hb => ⟨by rw [hb.cell (cell_lt y0)]; exact y0, by rw [hb.cell (cell_lt y1)]; exact y1⟩
        have HLW := Hid.mk' (fun (W : World) (hb : Below wr.heap.size wr W) => HS.out.later hb)
        have hcur : Below wr.heap.size wr wr.drew := (Below.refl _ _).drew
        clear y0 y1
        go_wp2_with fail
        refine region_but_last (n := 10) (S := fun W => W.cell? ⟨B, 0, none⟩ = some (.slice x0 l0 c0) ∧ W.cell? ⟨C, 1, none⟩ = some (.int .i64 (m : Int))) (by kernel_rfl) (by kernel_rfl) (by kernel_rfl) (HKS.out _ hcur) (fun hHeld => ?_)
        refine wpAnyH_take (i := 0) (v := ?v0q) rfl (by kernel_rfl) (by kernel_rfl) (by kernel_rfl) (fun _ _ _ h => h) (Or.inl ⟨by rfl, ?hy0q⟩) (by assumption) ?rest0q
        case hy0q => (intro w hSw; (try dsimp only at hSw); go_simp <;> (try with_reducible rfl))
        simp only [Act.put]
        refine wpAnyH_take (i := 1) (v := ?v1q) rfl (by kernel_rfl) (by kernel_rfl) (by kernel_rfl) (fun _ _ _ h => h) (Or.inl ⟨by rfl, ?hy1q⟩) (by assumption) ?rest1q
        case hy1q => (intro w hSw; (try dsimp only at hSw); go_simp <;> (try with_reducible rfl))
        simp only [Act.put]
        refine wpAnyH_take (i := 2) (v := ?v2q) rfl (by kernel_rfl) (by kernel_rfl) (by kernel_rfl) (fun _ _ _ h => h) (Or.inl ⟨by rfl, ?hy2q⟩) (by assumption) ?rest2q
        case hy2q => (intro w hSw; (try dsimp only at hSw); go_simp <;> (try with_reducible rfl))
        simp only [Act.put]
        refine wpAnyH_take (i := 3) (v := ?v3q) rfl (by kernel_rfl) (by kernel_rfl) (by kernel_rfl) (fun _ _ _ h => h) (Or.inl ⟨by rfl, ?hy3q⟩) (by assumption) ?rest3q
        case hy3q => (intro w hSw; (try dsimp only at hSw); go_simp <;> (try with_reducible rfl))
        simp only [Act.put]
        refine wpAnyH_take (i := 4) (v := ?v4q) rfl (by kernel_rfl) (by kernel_rfl) (by kernel_rfl) (fun _ _ _ h => h) (Or.inl ⟨by rfl, ?hy4q⟩) (by assumption) ?rest4q
        case hy4q => (intro w hSw; (try dsimp only at hSw); go_simp <;> (try with_reducible rfl))
        simp only [Act.put]
        refine wpAnyH_take (i := 5) (v := ?v5q) rfl (by kernel_rfl) (by kernel_rfl) (by kernel_rfl) (fun _ _ _ h => h) (Or.inl ⟨by rfl, ?hy5q⟩) (by assumption) ?rest5q
        case hy5q => (intro w hSw; (try dsimp only at hSw); go_simp <;> (try with_reducible rfl))
        simp only [Act.put]
        refine wpAnyH_take (i := 6) (v := ?v6q) rfl (by kernel_rfl) (by kernel_rfl) (by kernel_rfl) (fun _ _ _ h => h) (Or.inl ⟨by rfl, ?hy6q⟩) (by assumption) ?rest6q
        case hy6q => (intro w hSw; (try dsimp only at hSw); go_simp <;> (try with_reducible rfl))
        simp only [Act.put]
        refine wpAnyH_take (i := 7) (v := ?v7q) rfl (by kernel_rfl) (by kernel_rfl) (by kernel_rfl) (fun _ _ _ h => h) (Or.inl ⟨by rfl, ?hy7q⟩) (by assumption) ?rest7q
        case hy7q => (intro w hSw; (try dsimp only at hSw); go_simp <;> (try with_reducible rfl))
        simp only [Act.put]
        refine wpAnyH_ready (rs := [8]) (by kernel_rfl) (by simp) ?_
        refine AllReadyH.cons rfl (fun K hK => ?_) AllReadyH.nil
        go_simp
        refine (HTN.out _ (HLW.out _ hcur).hN).mono ?_
        rintro e w5 ⟨r1, rfl, hr1, hb5⟩
        have hcur := below_chain hcur hb5
        have HX1 := Hid.mk' hr1
        obtain ⟨p1, m1, q1, hr1e⟩ := hr1.isSl
        subst hr1e
        clear hr1
        have hL := HLW.out _ hcur
        have fz0 := hL.fB 0 (by decide)
        have k0 := hL.s0
        have HSET := Hid.mk' (hL.set0 HX1.out)
        clear hL
        go_wp2_with fail
        refine hK.out _ _ ?_ (fun hHeld => ?_)
        · exact HKS.out _ hcur
        clear hK K
        refine wpAnyH_take (i := 9) (v := ?v9q) rfl (by kernel_rfl) (by kernel_rfl) (by kernel_rfl) (fun _ _ _ h => h) (Or.inl ⟨by rfl, ?hy9q⟩) (by assumption) ?rest9q
        case hy9q => (intro w hSw; (try dsimp only at hSw); go_simp <;> (try with_reducible rfl))
        simp only [Act.put]
        refine wpAnyH_done (by kernel_rfl) ?_ _
        refine ahead_last rfl (fun K hK => ?_)
        go_simp
        refine hK _ _ ?_
        clear hK K
        have HB8 : Hid (Below W0.heap.size W0 (w5.setCell ⟨B, 0, none⟩ (.slice p1 m1 q1))) := (below_chain HB.out hcur).setCell HLT1.out _
        generalize w5.setCell ⟨B, 0, none⟩ (.slice p1 m1 q1) = W8 at *
        clear HX1 hHeld k0 fz0 hcur HKS HLW hb5 HS
        have z1 := HSET.out.s1
        go_wp2_with fail
        refine (HTD.out _ HSET.out.hD).mono ?_
        rintro e w9 ⟨r9, rfl, hr9, hb9⟩
        obtain ⟨p2, m2, q2, rfl⟩ := hr9.isSl
        have hL := HSET.out.later hb9
        have f1 := hL.fB 1 (by decide)
        have u1 := hL.s1
        have HS2 := Hid.mk' (hL.set1 hr9)
        have HB9 : Hid (Below W0.heap.size W0 (w9.setCell ⟨B, 1, none⟩ (.slice p2 m2 q2))) := (below_chain HB8.out hb9).setCell HLT1.out _
        have u2 := HS2.out.a1
        have f2 := HS2.out.fC 1 (by decide)
        clear hL hb9 hr9 HSET HB8 z1
        go_wp2_with fail
        have hz := HS2.out.more1 (m + 1)
        rw [show ((m + 1 : Nat) : Int) = (m : Int) + 1 by omega, ← HC1.out, ← HC2.out] at hz
        exact ⟨⟨k + 1, _, _, _, _, _, _, h1, by go_num, hz, HB9.out.setCell HLC.out _⟩, by simp [intOf]; omega⟩
    · obtain rfl : k = t.size := by omega
      have hkI : ¬ (t.size : Int) < (t.size : Int) := by omega
      have y0 := HS.out.s0
      have y1 := HS.out.s1
      obtain ⟨⟨z0, z1⟩, hf⟩ := HR0.out _ HB.out
      have f0 := hf 0 (by decide)
      have f1 := hf 1 (by decide)
      clear hf
      obtain ⟨g0, g1⟩ : (wr.setCell ⟨w.heap.size, 0, none⟩ (.slice x0 l0 c0)).cell? ⟨w.heap.size, 1, none⟩ = some (.slice none 0 0) ∧ True := ⟨by rw [cell_put _ z0, if_neg (by simp)]; exact z1, trivial⟩
      have HP0 : Hid (((wr.setCell ⟨w.heap.size, 0, none⟩ (.slice x0 l0 c0)).setCell ⟨w.heap.size, 1, none⟩ (.slice x1 l1 c1)).cell? ⟨w.heap.size, 0, none⟩ = some (.slice x0 l0 c0)) := by show _ = _; rw [cell_put _ g0, if_neg (by simp), cell_put _ z0, if_pos rfl]
      have HP1 : Hid (((wr.setCell ⟨w.heap.size, 0, none⟩ (.slice x0 l0 c0)).setCell ⟨w.heap.size, 1, none⟩ (.slice x1 l1 c1)).cell? ⟨w.heap.size, 1, none⟩ = some (.slice x1 l1 c1)) := by show _ = _; rw [cell_put _ g0, if_pos rfl]
      have HBF := Hid.mk' (below_chain HB0.out HB.out)
      have HNF := Hid.mk' ((HS.out.hN.putL z0).putL (y := .slice x1 l1 c1) g0)
      have HDF := Hid.mk' ((HS.out.hD.putL (y := .slice x0 l0 c0) z0).putL (y := .slice x1 l1 c1) g0)
      clear g1
      go_wp2_with fail
      refine bodyPost_ret (v := .agg #[.slice x0 l0 c0, .slice x1 l1 c1]) (by simp [results, Tryz.results26, go_sem, HP0.out, HP1.out]) rfl ⟨_, _, _, _, _, _, rfl, HNF.out, HDF.out, ?_⟩
      exact (HBF.out.setCell (Nat.le_refl _) _).setCell (Nat.le_refl _) _
end Go.Proofs.YtkglaiigoogapaaGreatDoor
