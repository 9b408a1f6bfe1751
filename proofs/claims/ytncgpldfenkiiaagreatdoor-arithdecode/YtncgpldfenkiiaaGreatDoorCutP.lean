/- The interval that a message leaves: arith.cut. -/
import Derived.Test.YtncgpldfenkiiaaGreatDoorNatTold
import Derived.Test.YtncgpldfenkiiaaGreatDoorMsgP
import Derived.Test.YtncgpldfenkiiaaGreatDoorLastOp
namespace Go.Proofs.YtncgpldfenkiiaaGreatDoor
open Go.RowKit

theorem put_three' {W : World} {b : Nat} {x0 x1 x2 : Value} (y0 y1 y2 : Value) (h0 : W.cell? ⟨b, 0, none⟩ = some x0) (h1 : W.cell? ⟨b, 1, none⟩ = some x1) (h2 : W.cell? ⟨b, 2, none⟩ = some x2) :
    ((W.setCell ⟨b, 0, none⟩ y0).cell? ⟨b, 1, none⟩ = some x1 ∧ ((W.setCell ⟨b, 0, none⟩ y0).setCell ⟨b, 1, none⟩ y1).cell? ⟨b, 2, none⟩ = some x2) ∧
    ((((W.setCell ⟨b, 0, none⟩ y0).setCell ⟨b, 1, none⟩ y1).setCell ⟨b, 2, none⟩ y2).cell? ⟨b, 0, none⟩ = some y0 ∧ (((W.setCell ⟨b, 0, none⟩ y0).setCell ⟨b, 1, none⟩ y1).setCell ⟨b, 2, none⟩ y2).cell? ⟨b, 1, none⟩ = some y1) ∧
    (((W.setCell ⟨b, 0, none⟩ y0).setCell ⟨b, 1, none⟩ y1).setCell ⟨b, 2, none⟩ y2).cell? ⟨b, 2, none⟩ = some y2 := by
  have e1 : (W.setCell ⟨b, 0, none⟩ y0).cell? ⟨b, 1, none⟩ = some x1 := by rw [cell_put _ h0, if_neg (by simp)]; exact h1
  have e2 : ((W.setCell ⟨b, 0, none⟩ y0).setCell ⟨b, 1, none⟩ y1).cell? ⟨b, 2, none⟩ = some x2 := by rw [cell_put _ e1, if_neg (by simp), cell_put _ h0, if_neg (by simp)]; exact h2
  refine ⟨⟨e1, e2⟩, ⟨?_, ?_⟩, ?_⟩
  · rw [cell_put _ e2, if_neg (by simp), cell_put _ e1, if_neg (by simp), cell_put _ h0, if_pos rfl]
  · rw [cell_put _ e2, if_neg (by simp), cell_put _ e1, if_pos rfl]
  · rw [cell_put _ e2, if_pos rfl]
theorem NatAt.isSl {w : World} {v : Value} {n : Nat} (h : NatAt w v n) : ∃ a l c, v = .slice a l c := by
  obtain ⟨l, _, _, _, h⟩ := h
  obtain ⟨ad, cap, rfl⟩ := h.form
  exact ⟨_, _, _, rfl⟩
/-- A number's words are none of a cell that holds a list. -/
theorem NatAt.putL {W : World} {v y : Value} {n : Nat} {p : Addr} {ad : Option Addr} {l c : Nat} (h : NatAt W v n) (hc : W.cell? p = some (.slice ad l c)) : NatAt (W.setCell p y) v n := by
  obtain ⟨x, h1, h2, h3, h4⟩ := h
  refine ⟨x, h1, h2, h3, ?_⟩
  rcases h4 with h4 | ⟨b, o, cap, hv, hl, hp, hr⟩
  · exact Or.inl h4
  · refine Or.inr ⟨b, o, cap, hv, hl, hp, fun i hi => ?_⟩
    rw [cell_put _ hc, if_neg (fun e => ?_)]
    · exact hr i hi
    · have h5 := hr i hi
      rw [e, hc] at h5
      cases h5
theorem NatAt.putL3 {W : World} {v y0 y1 y2 : Value} {n b : Nat} {a0 a1 a2 : Option Addr} {l0 l1 l2 c0 c1 c2 : Nat} (h : NatAt W v n) (h0 : W.cell? ⟨b, 0, none⟩ = some (.slice a0 l0 c0)) (h1 : W.cell? ⟨b, 1, none⟩ = some (.slice a1 l1 c1)) (h2 : W.cell? ⟨b, 2, none⟩ = some (.slice a2 l2 c2)) : NatAt (((W.setCell ⟨b, 0, none⟩ y0).setCell ⟨b, 1, none⟩ y1).setCell ⟨b, 2, none⟩ y2) v n := by
  obtain ⟨⟨g0, g1⟩, _, _⟩ := put_three' y0 y1 y2 h0 h1 h2
  exact ((h.putL h0).putL g0).putL g1

set_option maxRecDepth 100000 in
theorem Times_zero (u : Value) (n : Nat) (w : World) (h : NatAt w u n) :
    Calls Tryz.prog 26 #[u, .int .u64 0] w fun e w' => ∃ v, e = .returned v ∧ NatAt w' v (n * 0) ∧ Below w.heap.size w w' := by
  obtain ⟨ad, l, cap, rfl⟩ := h.isSl
  clear h
  go_enter Tryz.func26, Tryz.ntmps26
  go_wp2_with fail
  go_ret
  exact ⟨_, rfl, ⟨[], fun i hi => by simp at hi, fun i hi => by simp at hi, by simp [wv], Or.inl ⟨_, _, rfl, rfl⟩⟩, Below.refl _ _⟩
theorem Times_all (u : Value) (n m k : Nat) (w : World) (h : NatAt w u n) (hm : m < 18446744073709551616) (hk : n < 18446744073709551616 ^ k) (hk6 : k ≤ 1000000) :
    Calls Tryz.prog 26 #[u, .int .u64 m] w fun e w' => ∃ v, e = .returned v ∧ NatAt w' v (n * m) ∧ Below w.heap.size w w' := by
  rcases Nat.eq_zero_or_pos m with rfl | hm0
  · exact Times_zero u n w h
  · exact Times_any u n m k w h hm0 hm hk hk6

/-- What a message leaves: where it begins and how wide it is, over the sum's power. -/
def cutW (z l : Nat → Int) : Nat → Nat
  | 0 => 1
  | k + 1 => cutW z l k * (z (l k).toNat).toNat
def cutL (z l : Nat → Int) (S : Nat) : Nat → Nat
  | 0 => 0
  | k + 1 => cutL z l S k * S + cutW z l k * (sumN z (l k).toNat).toNat
theorem cut_le {z l : Nat → Int} {n m S : Nat} (hz : OkW z n) (hS : sumN z n = (S : Int)) (hl : ∀ i, i < m → 0 ≤ l i ∧ l i < (n : Int)) : ∀ k, k ≤ m → cutL z l S k + cutW z l k ≤ S ^ k
  | 0, _ => by simp [cutL, cutW]
  | k + 1, hk => by
    have ih := cut_le hz hS hl k (by omega)
    obtain ⟨h0, h1⟩ := hl k (by omega)
    obtain ⟨s, hs⟩ : ∃ s : Nat, l k = (s : Int) := ⟨(l k).toNat, by omega⟩
    have hsn : s < n := by omega
    show cutL z l S k * S + cutW z l k * (sumN z (l k).toNat).toNat + cutW z l k * (z (l k).toNat).toNat ≤ S ^ (k + 1)
    rw [hs, Int.toNat_natCast]
    have hm := sumN_mono hz.nn (k := s + 1) hsn
    rw [hS] at hm
    have e : sumN z (s + 1) = sumN z s + z s := rfl
    have p1 := hz.part (k := s) (by omega)
    have p2 := hz.lt hsn
    have hle : (sumN z s).toNat + (z s).toNat ≤ S := by omega
    calc cutL z l S k * S + cutW z l k * (sumN z s).toNat + cutW z l k * (z s).toNat = cutL z l S k * S + cutW z l k * ((sumN z s).toNat + (z s).toNat) := by rw [Nat.mul_add, Nat.add_assoc]
      _ ≤ cutL z l S k * S + cutW z l k * S := Nat.add_le_add_left (Nat.mul_le_mul_left _ hle) _
      _ = (cutL z l S k + cutW z l k) * S := by rw [Nat.add_mul]
      _ ≤ S ^ k * S := Nat.mul_le_mul_right _ ih
      _ = S ^ (k + 1) := (Nat.pow_succ ..).symm
theorem cutW_pos {z l : Nat → Int} : ∀ {k : Nat}, (∀ i, i < k → 0 < z (l i).toNat) → 0 < cutW z l k
  | 0, _ => Nat.one_pos
  | k + 1, h => Nat.mul_pos (cutW_pos (fun i hi => h i (by omega))) (by have := h k (by omega); omega)
theorem pow_room {S j : Nat} (hS : S ≤ 4096) (hj : j ≤ 249) : S ^ j < 18446744073709551616 ^ 250 :=
  Nat.lt_of_le_of_lt (Nat.pow_le_pow_left (Nat.le_trans hS (by decide : 4096 ≤ 18446744073709551616)) j) (Nat.pow_lt_pow_right (by decide) (by omega))

/-- A span in memory. -/
structure SpanAt (w : World) (b : Nat) (u0 u1 u2 : Value) (x0 x1 x2 : Nat) : Prop where
  c0 : w.cell? ⟨b, 0, none⟩ = some u0
  c1 : w.cell? ⟨b, 1, none⟩ = some u1
  c2 : w.cell? ⟨b, 2, none⟩ = some u2
  n0 : NatAt w u0 x0
  n1 : NatAt w u1 x1
  n2 : NatAt w u2 x2
  fz : ∀ j, j < 3 → w.frozen? ⟨b, j, none⟩ = false

set_option maxRecDepth 100000 in
set_option maxHeartbeats 4000000 in
theorem cut_any (b o cap : Nat) (vl : Value) (n m S : Nat) (z l : Nat → Int) (w : World) (hrw : RowAt w b o n z) (hcap : n ≤ cap) (hl : NumsAt w vl m l) (hz : OkW z n) (hn : n ≤ 1000) (hm : m ≤ 200) (hS : sumN z n = (S : Int)) (hli : ∀ i, i < m → 0 ≤ l i ∧ l i < (n : Int)) :
    Calls Tryz.prog 32 #[.slice (some ⟨b, o, none⟩) n cap, vl] w fun e w' => ∃ u0 u1 u2, e = .returned (.agg #[u0, u1, u2]) ∧ NatAt w' u0 (cutL z l S m) ∧ NatAt w' u1 (cutW z l m) ∧ NatAt w' u2 (S ^ m) ∧ Below w.heap.size w w' := by
  have HLE := Hid.mk' (cut_le hz hS hli)
  have HS6 : Hid (S ≤ 4096 ∧ 0 < S) := by have h1 := hz.le; have h2 := hz.pos; rw [hS] at h1 h2; exact ⟨by omega, by omega⟩
  have hT : Calls Tryz.prog 22 #[.slice (some ⟨b, o, none⟩) n cap] (w.alloc (.cells #[.slice none 0 0, .slice none 0 0, .slice none 0 0] 65)) fun e w' => e = .returned (.int .i64 (S : Int)) ∧ w' = w.alloc (.cells #[.slice none 0 0, .slice none 0 0, .slice none 0 0] 65) := by
    have h1 := Total_nums b o cap n z (w.alloc (.cells #[.slice none 0 0, .slice none 0 0, .slice none 0 0] 65)) (hrw.later ((Below.refl _ _).alloc (Nat.le_refl _) _)) (fun k hk => by have := hz.part hk; omega) (fun i hi => by have := hz.lt hi; omega) (by omega)
    rw [hS] at h1
    exact h1
  obtain ⟨al, cl, rfl, hrl⟩ := hl.rowAt
  have HZ := Hid.mk' hz
  have HLI := Hid.mk' hli
  have hb0 : Below w.heap.size w (w.alloc (.cells #[.slice none 0 0, .slice none 0 0, .slice none 0 0] 65)) := (Below.refl _ _).alloc (Nat.le_refl _) _
  have HRW : Hid (RowAt (w.alloc (.cells #[.slice none 0 0, .slice none 0 0, .slice none 0 0] 65)) b o n z) := hrw.later hb0
  have HRL : Hid (∀ i, i < m → ∃ b' o', al = some ⟨b', o', none⟩ ∧ (w.alloc (.cells #[.slice none 0 0, .slice none 0 0, .slice none 0 0] 65)).cell? ⟨b', o' + i, none⟩ = some (.int .i64 (l i))) := fun i hi => by
    obtain ⟨b', o', h1, h2⟩ := hrl i hi
    exact ⟨b', o', h1, by rw [hb0.cell (cell_lt h2)]; exact h2⟩
  have HR0 : Hid (∀ j, j < 3 → (w.alloc (.cells #[.slice none 0 0, .slice none 0 0, .slice none 0 0] 65)).cell? ⟨w.heap.size, j, none⟩ = some (.slice none 0 0) ∧ (w.alloc (.cells #[.slice none 0 0, .slice none 0 0, .slice none 0 0] 65)).frozen? ⟨w.heap.size, j, none⟩ = false) := fun j hj => by
    rcases (show j = 0 ∨ j = 1 ∨ j = 2 by omega) with rfl | rfl | rfl <;> exact ⟨by simp, by simp⟩
  have HLT : Hid (w.heap.size < (w.alloc (.cells #[.slice none 0 0, .slice none 0 0, .slice none 0 0] 65)).heap.size) := by show _ < _; simp
  have HB0 := Hid.mk' hb0
  clear hrw hrl hz hli hl
  have HSW : Hid (IntKind.u64.wrap (S : Int) = (S : Int)) := by have := HS6.out.1; rw [IntKind.wrap_u64]; exact Int.emod_eq_of_lt (by omega) (by omega)
  go_enter Tryz.func32, Tryz.ntmps32
  go_wp2_with fail
  refine hT.mono ?_
  clear hT
  rintro e w1 ⟨rfl, hw1⟩
  rw [hw1]
  clear hw1 w1
  have HP1 := Hid.mk' (fun W : World => NatOf_any 1 W (by decide) (by decide))
  clear hb0
  generalize w.alloc (.cells #[.slice none 0 0, .slice none 0 0, .slice none 0 0] 65) = W0 at *
  have hcur := Below.refl W0.heap.size W0
  have hsw := HSW.out
  go_wp2_with fail
  refine (HP1.out _).mono ?_
  rintro e w2 ⟨v1, rfl, hv1, hb2⟩
  have HV1 := Hid.mk' hv1
  obtain ⟨v1a, v1l, v1c, hv1e⟩ := hv1.isSl
  subst hv1e
  clear hv1
  have hcur := below_chain hcur hb2
  go_wp2_with fail
  refine (HP1.out _).mono ?_
  rintro e w3 ⟨v2, rfl, hv2, hb3⟩
  have HV1 := Hid.mk' (HV1.out.later hb3)
  have HV2 := Hid.mk' hv2
  obtain ⟨v2a, v2l, v2c, hv2e⟩ := hv2.isSl
  subst hv2e
  clear hv2
  have HCUR := Hid.mk' (below_chain hcur hb3)
  clear hcur hb2 hb3
  go_wp2_with fail
  have HSP : Hid (SpanAt (w3.alloc (.cells #[.slice none 0 0, .slice v1a v1l v1c, .slice v2a v2l v2c] 65)) w3.heap.size (.slice none 0 0) (.slice v1a v1l v1c) (.slice v2a v2l v2c) 0 1 1) :=
    ⟨by simp, by simp, by simp, ⟨[], fun i hi => by simp at hi, fun i hi => by simp at hi, by simp [wv], Or.inl ⟨_, _, rfl, rfl⟩⟩, HV1.out.later ((Below.refl _ _).alloc (Nat.le_refl _) _), HV2.out.later ((Below.refl _ _).alloc (Nat.le_refl _) _), fun j hj => by rcases (show j = 0 ∨ j = 1 ∨ j = 2 by omega) with rfl | rfl | rfl <;> simp⟩
  have HBW : Hid (Below W0.heap.size W0 (w3.alloc (.cells #[.slice none 0 0, .slice v1a v1l v1c, .slice v2a v2l v2c] 65))) := HCUR.out.alloc HCUR.out.size _
  have HBB : Hid (W0.heap.size ≤ w3.heap.size) := HCUR.out.size
  generalize hWs : w3.alloc (.cells #[.slice none 0 0, .slice v1a v1l v1c, .slice v2a v2l v2c] 65) = Ws at *
  clear hWs HV1 HV2 HCUR HP1
  generalize w3.heap.size = B at *
  go_loopw [18] (fun t wr => ∃ (k : Nat) (x0 x1 x2 : Option Addr) (l0 l1 l2 c0 c1 c2 : Nat), k ≤ m ∧ t = .int .i64 k ∧ Hid (SpanAt wr B (.slice x0 l0 c0) (.slice x1 l1 c1) (.slice x2 l2 c2) (cutL z l S k) (cutW z l k) (S ^ k)) ∧ Hid (Below W0.heap.size W0 wr)) (fun t _ => m - (intOf t).toNat)
  case atStart => exact ⟨0, _, _, _, _, _, _, _, _, _, Nat.zero_le _, rfl, HSP.out, HBW.out⟩
  case round =>
    obtain ⟨k, x0, x1, x2, l0, l1, l2, c0, c1, c2, hk, rfl, HS, HB⟩ := hrel
    rcases Nat.lt_or_ge k m with h1 | h1
    · have hkm : (k : Int) < (m : Int) := by omega
      obtain ⟨b', o', rfl, hc⟩ := HRL.out k h1
      obtain ⟨q0, q1⟩ := HLI.out k h1
      have hlk : wr.cell? ⟨b', o' + k, none⟩ = some (.int .i64 (l k)) := by rw [HB.out.cell (cell_lt hc)]; exact hc
      obtain ⟨s, hs⟩ : ∃ s : Nat, l k = (s : Int) := ⟨(l k).toNat, by omega⟩
      have HNL : Hid (cutL z l S (k + 1) = cutL z l S k * S + cutW z l k * (sumN z s).toNat) := by
        show cutL z l S k * S + cutW z l k * (sumN z (l k).toNat).toNat = _
        rw [hs, Int.toNat_natCast]
      have HNW : Hid (cutW z l (k + 1) = cutW z l k * (z s).toNat) := by
        show cutW z l k * (z (l k).toNat).toNat = _
        rw [hs, Int.toNat_natCast]
      rw [hs] at hlk q0 q1
      clear hs hc
      have hsn : s < n := by omega
      have hss : (s : Int) ≤ (cap : Int) := by omega
      have hc0 : (0 : Int) ≤ (s : Int) := by omega
      have HRS : Hid (RowAt wr b o n z) := HRW.out.later HB.out
      have hz1 := HRS.out s hsn
      have HPT := Hid.mk' (HZ.out.part (k := s) (by omega))
      have HPZ := Hid.mk' (HZ.out.lt hsn)
      have hTs : Calls Tryz.prog 22 #[.slice (some ⟨b, o, none⟩) s cap] wr fun e w' => e = .returned (.int .i64 (sumN z s)) ∧ w' = wr := Total_nums b o cap s z wr (fun i hi => HRS.out i (by omega)) (fun k hk => by have := HZ.out.part (k := k) (by omega); omega) (fun i hi => by have := HZ.out.lt (i := i) (by omega); omega) (by omega)
      obtain ⟨A, hA⟩ : ∃ A : Nat, sumN z s = (A : Int) := ⟨(sumN z s).toNat, by have := HPT.out; omega⟩
      obtain ⟨Z, hZ⟩ : ∃ Z : Nat, z s = (Z : Int) := ⟨(z s).toNat, by have := HPZ.out; omega⟩
      rw [hA] at hTs HPT HNL
      rw [hZ] at hz1 HPZ HNW
      rw [Int.toNat_natCast] at HNL HNW
      clear hA hZ
      have hAw : IntKind.u64.wrap (A : Int) = (A : Int) := by have := HPT.out; rw [IntKind.wrap_u64]; exact Int.emod_eq_of_lt (by omega) (by omega)
      have hZw : IntKind.u64.wrap (Z : Int) = (Z : Int) := by have := HPZ.out; rw [IntKind.wrap_u64]; exact Int.emod_eq_of_lt (by omega) (by omega)
      have hle := HLE.out k hk
      have hle1 := HLE.out (k + 1) h1
      rw [HNL.out, HNW.out] at hle1
      have hr0 := pow_room (j := k) HS6.out.1 (by omega)
      have hr1 := pow_room (j := k + 1) HS6.out.1 (by omega)
      have HT1 : Hid (∀ W, Below wr.heap.size wr W → Calls Tryz.prog 26 #[.slice x0 l0 c0, .int .u64 (S : Int)] W fun e w' => ∃ r, e = .returned r ∧ NatAt w' r (cutL z l S k * S) ∧ Below W.heap.size W w') := fun W hb => Times_all _ _ S 250 W (HS.out.n0.later hb) (by have := HS6.out.1; omega) (by omega) (by decide)
      have HT2 : Hid (∀ W, Below wr.heap.size wr W → Calls Tryz.prog 26 #[.slice x1 l1 c1, .int .u64 (A : Int)] W fun e w' => ∃ r, e = .returned r ∧ NatAt w' r (cutW z l k * A) ∧ Below W.heap.size W w') := fun W hb => Times_all _ _ A 250 W (HS.out.n1.later hb) (by have := HPT.out; omega) (by omega) (by decide)
      have HT3 : Hid (∀ W, Below wr.heap.size wr W → Calls Tryz.prog 26 #[.slice x1 l1 c1, .int .u64 (Z : Int)] W fun e w' => ∃ r, e = .returned r ∧ NatAt w' r (cutW z l k * Z) ∧ Below W.heap.size W w') := fun W hb => Times_all _ _ Z 250 W (HS.out.n1.later hb) (by have := HPZ.out; omega) (by omega) (by decide)
      have HT4 : Hid (∀ W, Below wr.heap.size wr W → Calls Tryz.prog 26 #[.slice x2 l2 c2, .int .u64 (S : Int)] W fun e w' => ∃ r, e = .returned r ∧ NatAt w' r (S ^ k * S) ∧ Below W.heap.size W w') := fun W hb => Times_all _ _ S 250 W (HS.out.n2.later hb) (by have := HS6.out.1; omega) (by omega) (by decide)
      have HPL : Hid (∀ W p q, NatAt W p (cutL z l S k * S) → NatAt W q (cutW z l k * A) → Calls Tryz.prog 29 #[p, q] W fun e w' => ∃ r, e = .returned r ∧ NatAt w' r (cutL z l S k * S + cutW z l k * A) ∧ Below W.heap.size W w') := fun W p q hp hq => Plus_any p q _ _ 250 W hp hq (by omega) (by omega) (by decide)
      clear hle hle1 hr0 hr1
      have y0 := HS.out.c0
      have y1 := HS.out.c1
      have y2 := HS.out.c2
      have HKS : Hid (∀ W, Below wr.heap.size wr W → (W.cell? ⟨B, 0, none⟩ = some (.slice x0 l0 c0) ∧ W.cell? ⟨B, 1, none⟩ = some (.slice x1 l1 c1) ∧ W.cell? ⟨B, 2, none⟩ = some (.slice x2 l2 c2) ∧ W.cell? ⟨b, o + s, none⟩ = some (.int .i64 (Z : Int)))) := fun W hb => ⟨by rw [hb.cell (cell_lt y0)]; exact y0, by rw [hb.cell (cell_lt y1)]; exact y1, by rw [hb.cell (cell_lt y2)]; exact y2, by rw [hb.cell (cell_lt hz1)]; exact hz1⟩
      have HFZ : Hid (∀ W, Below wr.heap.size wr W → ∀ j, j < 3 → W.frozen? ⟨B, j, none⟩ = false) := fun W hb j hj => by rw [hb.frozen (show B < wr.heap.size from cell_lt y0)]; exact HS.out.fz j hj
      have hcur : Below wr.heap.size wr wr.drew := (Below.refl _ _).drew
      clear y0 y1 y2 hz1
      have hsnI : (s : Int) < (n : Int) := by omega
      go_wp2_with fail
      refine hTs.mono ?_
      clear hTs
      rintro e w4 ⟨rfl, hw4⟩
      rw [hw4]
      clear hw4 w4
      go_wp2_with fail
      refine region_but_last (n := 22) (S := fun W => W.cell? ⟨B, 0, none⟩ = some (.slice x0 l0 c0) ∧ W.cell? ⟨B, 1, none⟩ = some (.slice x1 l1 c1) ∧ W.cell? ⟨B, 2, none⟩ = some (.slice x2 l2 c2) ∧ W.cell? ⟨b, o + s, none⟩ = some (.int .i64 (Z : Int))) (by kernel_rfl) (by kernel_rfl) (by kernel_rfl) (HKS.out _ hcur) (fun hHeld => ?_)
      refine wpAnyH_take (i := 0) (v := ?v0) rfl (by kernel_rfl) (by kernel_rfl) (by kernel_rfl) (fun _ _ _ h => h) (Or.inl ⟨by rfl, ?hy0⟩) (by assumption) ?rest0
      case hy0 => (intro w hSw; (try dsimp only at hSw); go_simp <;> (try with_reducible rfl))
      simp only [Act.put]
      refine wpAnyH_take (i := 1) (v := ?v1) rfl (by kernel_rfl) (by kernel_rfl) (by kernel_rfl) (fun _ _ _ h => h) (Or.inl ⟨by rfl, ?hy1⟩) (by assumption) ?rest1
      case hy1 => (intro w hSw; (try dsimp only at hSw); go_simp <;> (try with_reducible rfl))
      simp only [Act.put]
      refine wpAnyH_take (i := 2) (v := ?v2) rfl (by kernel_rfl) (by kernel_rfl) (by kernel_rfl) (fun _ _ _ h => h) (Or.inl ⟨by rfl, ?hy2⟩) (by assumption) ?rest2
      case hy2 => (intro w hSw; (try dsimp only at hSw); go_simp <;> (try with_reducible rfl))
      simp only [Act.put]
      refine wpAnyH_take (i := 4) (v := ?v4) rfl (by kernel_rfl) (by kernel_rfl) (by kernel_rfl) (fun _ _ _ h => h) (Or.inl ⟨by rfl, ?hy4⟩) (by assumption) ?rest4
      case hy4 => (intro w hSw; (try dsimp only at hSw); go_simp <;> (try with_reducible rfl))
      simp only [Act.put]
      refine wpAnyH_take (i := 5) (v := ?v5) rfl (by kernel_rfl) (by kernel_rfl) (by kernel_rfl) (fun _ _ _ h => h) (Or.inl ⟨by rfl, ?hy5⟩) (by assumption) ?rest5
      case hy5 => (intro w hSw; (try dsimp only at hSw); go_simp <;> (try with_reducible rfl))
      simp only [Act.put]
      refine wpAnyH_take (i := 6) (v := ?v6) rfl (by kernel_rfl) (by kernel_rfl) (by kernel_rfl) (fun _ _ _ h => h) (Or.inl ⟨by rfl, ?hy6⟩) (by assumption) ?rest6
      case hy6 => (intro w hSw; (try dsimp only at hSw); go_simp <;> (try with_reducible rfl))
      simp only [Act.put]
      refine wpAnyH_take (i := 9) (v := ?v9) rfl (by kernel_rfl) (by kernel_rfl) (by kernel_rfl) (fun _ _ _ h => h) (Or.inl ⟨by rfl, ?hy9⟩) (by assumption) ?rest9
      case hy9 => (intro w hSw; (try dsimp only at hSw); go_simp <;> (try with_reducible rfl))
      simp only [Act.put]
      refine wpAnyH_take (i := 10) (v := ?v10) rfl (by kernel_rfl) (by kernel_rfl) (by kernel_rfl) (fun _ _ _ h => h) (Or.inl ⟨by rfl, ?hy10⟩) (by assumption) ?rest10
      case hy10 => (intro w hSw; (try dsimp only at hSw); go_simp <;> (try with_reducible rfl))
      simp only [Act.put]
      refine wpAnyH_take (i := 11) (v := ?v11) rfl (by kernel_rfl) (by kernel_rfl) (by kernel_rfl) (fun _ _ _ h => h) (Or.inl ⟨by rfl, ?hy11⟩) (by assumption) ?rest11
      case hy11 => (intro w hSw; (try dsimp only at hSw); go_simp <;> (try with_reducible rfl))
      simp only [Act.put]
      refine wpAnyH_take (i := 12) (v := ?v12) rfl (by kernel_rfl) (by kernel_rfl) (by kernel_rfl) (fun _ _ _ h => h) (Or.inl ⟨by rfl, ?hy12⟩) (by assumption) ?rest12
      case hy12 => (intro w hSw; (try dsimp only at hSw); go_simp <;> (try with_reducible rfl))
      simp only [Act.put]
      refine wpAnyH_take (i := 13) (v := ?v13) rfl (by kernel_rfl) (by kernel_rfl) (by kernel_rfl) (fun _ _ _ h => h) (Or.inl ⟨by rfl, ?hy13⟩) (by assumption) ?rest13
      case hy13 => (intro w hSw; (try dsimp only at hSw); go_simp <;> (try with_reducible rfl))
      simp only [Act.put]
      refine wpAnyH_take (i := 14) (v := ?v14) rfl (by kernel_rfl) (by kernel_rfl) (by kernel_rfl) (fun _ _ _ h => h) (Or.inl ⟨by rfl, ?hy14⟩) (by assumption) ?rest14
      case hy14 => (intro w hSw; (try dsimp only at hSw); go_simp <;> (try with_reducible rfl))
      simp only [Act.put]
      refine wpAnyH_take (i := 15) (v := ?v15) rfl (by kernel_rfl) (by kernel_rfl) (by kernel_rfl) (fun _ _ _ h => h) (Or.inl ⟨by rfl, ?hy15⟩) (by assumption) ?rest15
      case hy15 => (intro w hSw; (try dsimp only at hSw); go_simp <;> (try with_reducible rfl))
      simp only [Act.put]
      refine wpAnyH_take (i := 17) (v := ?v17) rfl (by kernel_rfl) (by kernel_rfl) (by kernel_rfl) (fun _ _ _ h => h) (Or.inl ⟨by rfl, ?hy17⟩) (by assumption) ?rest17
      case hy17 => (intro w hSw; (try dsimp only at hSw); go_simp <;> (try with_reducible rfl))
      simp only [Act.put]
      refine wpAnyH_take (i := 18) (v := ?v18) rfl (by kernel_rfl) (by kernel_rfl) (by kernel_rfl) (fun _ _ _ h => h) (Or.inl ⟨by rfl, ?hy18⟩) (by assumption) ?rest18
      case hy18 => (intro w hSw; (try dsimp only at hSw); go_simp <;> (try with_reducible rfl))
      simp only [Act.put]
      refine wpAnyH_take (i := 19) (v := ?v19) rfl (by kernel_rfl) (by kernel_rfl) (by kernel_rfl) (fun _ _ _ h => h) (Or.inl ⟨by rfl, ?hy19⟩) (by assumption) ?rest19
      case hy19 => (intro w hSw; (try dsimp only at hSw); go_simp <;> (try with_reducible rfl))
      simp only [Act.put]
      refine wpAnyH_ready (rs := [3]) (by kernel_rfl) (by simp) ?_
      refine AllReadyH.cons rfl (fun K hK => ?_) AllReadyH.nil
      go_simp
      refine (HT1.out _ hcur).mono ?_
      rintro e w5 ⟨r1, rfl, hr1, hb5⟩
      have hcur := below_chain hcur hb5
      have HX1 := Hid.mk' hr1
      obtain ⟨r1a, r1l, r1c, hr1e⟩ := hr1.isSl
      subst hr1e
      clear hr1
      go_wp2_with fail
      refine hK.out _ _ ?_ (fun hHeld => ?_)
      · exact HKS.out _ hcur
      clear hK K
      refine wpAnyH_ready (rs := [7]) (by kernel_rfl) (by simp) ?_
      refine AllReadyH.cons rfl (fun K hK => ?_) AllReadyH.nil
      go_simp
      refine (HT2.out _ hcur).mono ?_
      rintro e w6 ⟨r2, rfl, hr2, hb6⟩
      have hcur := below_chain hcur hb6
      have HX1 := Hid.mk' (HX1.out.later hb6)
      have HX2 := Hid.mk' hr2
      obtain ⟨r2a, r2l, r2c, hr2e⟩ := hr2.isSl
      subst hr2e
      clear hr2
      go_wp2_with fail
      refine hK.out _ _ ?_ (fun hHeld => ?_)
      · exact HKS.out _ hcur
      clear hK K
      refine wpAnyH_ready (rs := [8]) (by kernel_rfl) (by simp) ?_
      refine AllReadyH.cons rfl (fun K hK => ?_) AllReadyH.nil
      go_simp
      refine (HPL.out _ _ _ HX1.out HX2.out).mono ?_
      rintro e w7 ⟨r3, rfl, hr3, hb7⟩
      have hcur := below_chain hcur hb7
      have HX3 := Hid.mk' hr3
      obtain ⟨r3a, r3l, r3c, hr3e⟩ := hr3.isSl
      subst hr3e
      clear hr3
      go_wp2_with fail
      refine hK.out _ _ ?_ (fun hHeld => ?_)
      · exact HKS.out _ hcur
      clear hK K
      refine wpAnyH_ready (rs := [16]) (by kernel_rfl) (by simp) ?_
      refine AllReadyH.cons rfl (fun K hK => ?_) AllReadyH.nil
      go_simp
      refine (HT3.out _ hcur).mono ?_
      rintro e w8 ⟨r4, rfl, hr4, hb8⟩
      have hcur := below_chain hcur hb8
      have HX3 := Hid.mk' (HX3.out.later hb8)
      have HX4 := Hid.mk' hr4
      obtain ⟨r4a, r4l, r4c, hr4e⟩ := hr4.isSl
      subst hr4e
      clear hr4
      go_wp2_with fail
      refine hK.out _ _ ?_ (fun hHeld => ?_)
      · exact HKS.out _ hcur
      clear hK K
      refine wpAnyH_ready (rs := [20]) (by kernel_rfl) (by simp) ?_
      refine AllReadyH.cons rfl (fun K hK => ?_) AllReadyH.nil
      go_simp
      refine (HT4.out _ hcur).mono ?_
      rintro e w9 ⟨r5, rfl, hr5, hb9⟩
      have hcur := below_chain hcur hb9
      have HX3 := Hid.mk' (HX3.out.later hb9)
      have HX4 := Hid.mk' (HX4.out.later hb9)
      have HX5 := Hid.mk' hr5
      obtain ⟨r5a, r5l, r5c, hr5e⟩ := hr5.isSl
      subst hr5e
      clear hr5
      have f0 := HFZ.out _ hcur 0 (by decide)
      have f1 := HFZ.out _ hcur 1 (by decide)
      have f2 := HFZ.out _ hcur 2 (by decide)
      have k0 := (HKS.out _ hcur).1
      have k1 := (HKS.out _ hcur).2.1
      have k2 := (HKS.out _ hcur).2.2.1
      obtain ⟨⟨g0, g1⟩, ⟨g2, g3⟩, g4⟩ := put_three' (.slice r3a r3l r3c) (.slice r4a r4l r4c) (.slice r5a r5l r5c) k0 k1 k2
      go_wp2_with fail
      refine hK.out _ _ ?_ (fun hHeld => ?_)
      · exact HKS.out _ hcur
      clear hK K
      refine wpAnyH_take (i := 21) (v := ?v21) rfl (by kernel_rfl) (by kernel_rfl) (by kernel_rfl) (fun _ _ _ h => h) (Or.inl ⟨by rfl, ?hy21⟩) (by assumption) ?rest21
      case hy21 => (intro w hSw; (try dsimp only at hSw); go_simp <;> (try with_reducible rfl))
      simp only [Act.put]
      refine wpAnyH_done (by kernel_rfl) ?_ _
      refine ahead_last rfl (fun K hK => ?_)
      go_simp
      refine hK _ _ ?_
      clear hK K
      go_wp2_with fail
      refine ⟨⟨k + 1, _, _, _, _, _, _, _, _, _, h1, by go_num, ⟨g2, g3, g4, by rw [HNL.out]; exact HX3.out.putL3 k0 k1 k2, by rw [HNW.out]; exact HX4.out.putL3 k0 k1 k2, by rw [Nat.pow_succ]; exact HX5.out.putL3 k0 k1 k2, fun j hj => ?_⟩, ?_⟩, by simp [intOf]; omega⟩
      · rw [World.frozen?_setCell, World.frozen?_setCell, World.frozen?_setCell]; exact HFZ.out _ hcur j hj
      · exact (((below_chain HB.out hcur).setCell HBB.out _).setCell HBB.out _).setCell HBB.out _
    · obtain rfl : k = m := by omega
      have y0 := HS.out.c0
      have y1 := HS.out.c1
      have y2 := HS.out.c2
      have z0 : wr.cell? ⟨w.heap.size, 0, none⟩ = some (.slice none 0 0) := by rw [HB.out.cell (by exact HLT.out)]; exact (HR0.out 0 (by decide)).1
      have z1 : wr.cell? ⟨w.heap.size, 1, none⟩ = some (.slice none 0 0) := by rw [HB.out.cell (by exact HLT.out)]; exact (HR0.out 1 (by decide)).1
      have z2 : wr.cell? ⟨w.heap.size, 2, none⟩ = some (.slice none 0 0) := by rw [HB.out.cell (by exact HLT.out)]; exact (HR0.out 2 (by decide)).1
      have f0 : wr.frozen? ⟨w.heap.size, 0, none⟩ = false := by rw [HB.out.frozen (by exact HLT.out)]; exact (HR0.out 0 (by decide)).2
      have f1 : wr.frozen? ⟨w.heap.size, 1, none⟩ = false := by rw [HB.out.frozen (by exact HLT.out)]; exact (HR0.out 1 (by decide)).2
      have f2 : wr.frozen? ⟨w.heap.size, 2, none⟩ = false := by rw [HB.out.frozen (by exact HLT.out)]; exact (HR0.out 2 (by decide)).2
      have HPUT := Hid.mk' (put_three' (.slice x0 l0 c0) (.slice x1 l1 c1) (.slice x2 l2 c2) z0 z1 z2)
      have HZ0 := Hid.mk' z0
      have HZ1 := Hid.mk' z1
      have HZ2 := Hid.mk' z2
      go_wp2_with fail
      refine bodyPost_ret (v := .agg #[.slice x0 l0 c0, .slice x1 l1 c1, .slice x2 l2 c2]) (by simp [results, Tryz.results32, go_sem, HPUT.out.2.1.1, HPUT.out.2.1.2, HPUT.out.2.2]) rfl ⟨_, _, _, rfl, HS.out.n0.putL3 HZ0.out HZ1.out HZ2.out, HS.out.n1.putL3 HZ0.out HZ1.out HZ2.out, HS.out.n2.putL3 HZ0.out HZ1.out HZ2.out, ?_⟩
      exact (((below_chain HB0.out HB.out).setCell (Nat.le_refl _) _).setCell (Nat.le_refl _) _).setCell (Nat.le_refl _) _
end Go.Proofs.YtncgpldfenkiiaaGreatDoor
