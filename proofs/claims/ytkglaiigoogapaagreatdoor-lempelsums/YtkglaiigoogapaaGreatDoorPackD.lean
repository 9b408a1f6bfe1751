/- lempel.Weighted. -/
import Derived.Test.YtkglaiigoogapaaGreatDoorPackC
import Derived.Test.YtkglaiigoogapaaGreatDoorOwn
import Derived.Test.YtkglaiigoogapaaGreatDoorValidWalk
import Derived.Test.YtkglaiigoogapaaGreatDoorWeights
import Derived.Deep.AppendLies
import Derived.OwnWalk
import Derived.Maps.OwnOps
import Derived.Maps.Views
import Derived.DeepKeys4
import Derived.Test.YtkglaiigoogapaaGreatDoorCode
import Derived.Lib.ItoaNum
import Derived.Laws.BytesArg
import Derived.Deep.RegionHeld3
namespace Go.Proofs.YtkglaiigoogapaaGreatDoor
open Go.RowKit

theorem rowZ_rep (s : ByteArray) : ∀ d, (⟨(Lib.repeatL [48] d).toArray⟩ : ByteArray) ++ s = rowZ s d
  | 0 => by
    refine ByteArray.ext ?_
    rw [ByteArray.data_append]
    show (#[] : Array UInt8) ++ s.data = s.data
    simp
  | d + 1 => by
    show _ = (⟨#[48]⟩ : ByteArray) ++ rowZ s d
    rw [← rowZ_rep s d]
    refine ByteArray.ext ?_
    rw [ByteArray.data_append, ByteArray.data_append, ByteArray.data_append]
    show ([48] ++ Lib.repeatL [48] d).toArray ++ s.data = #[48] ++ ((Lib.repeatL [48] d).toArray ++ s.data)
    rw [← Array.append_assoc]
    congr 1
    apply Array.toList_inj.1
    simp
/-- The boxes at the beginning: the depth, and the result. -/
theorem wq_past {w W : World} (x : Int) (t u : TypeId) (hb : Below ((w.alloc (.cells #[.int .i64 x] t)).alloc (.cells #[.int .i64 0, .int .i64 0] u)).heap.size ((w.alloc (.cells #[.int .i64 x] t)).alloc (.cells #[.int .i64 0, .int .i64 0] u)) W) : W.cell? ⟨w.heap.size, 0, none⟩ = some (.int .i64 x) ∧ W.cell? ⟨w.heap.size + 1, 0, none⟩ = some (.int .i64 0) ∧ W.cell? ⟨w.heap.size + 1, 1, none⟩ = some (.int .i64 0) ∧ W.frozen? ⟨w.heap.size + 1, 0, none⟩ = false ∧ W.frozen? ⟨w.heap.size + 1, 1, none⟩ = false := by
  have h2 := res_past hb
  rw [World.size_alloc] at h2
  refine ⟨?_, h2⟩
  have e : ((w.alloc (.cells #[.int .i64 x] t)).alloc (.cells #[.int .i64 0, .int .i64 0] u)).cell? ⟨w.heap.size, 0, none⟩ = some (.int .i64 x) := by
    rw [World.cell?_alloc_lt _ _ _ (by rw [World.size_alloc]; show w.heap.size < _; omega), World.cell?_alloc_at _ _ _ _ rfl]; rfl
  rw [hb.cell (cell_lt e)]; exact e

theorem wgat_new (w : World) (R : ByteArray) (d db : Nat) (t u : TypeId) (h : w.cell? ⟨db, 0, none⟩ = some (.int .i64 (d : Int))) : WgAt ((w.alloc (.cells #[.string R] t)).alloc (.cells #[.func (.func 25) #[] #[.pointer (some ⟨w.heap.size, 0, none⟩), .pointer (some ⟨db, 0, none⟩), .pointer (some ⟨w.heap.size + 1, 0, none⟩)]] u)) w.heap.size db (w.heap.size + 1) R d := by
  have e1 : w.heap.size + 1 = (w.alloc (.cells #[.string R] t)).heap.size := by simp
  have hd : db < w.heap.size := cell_lt h
  refine ⟨?_, ?_, ?_⟩
  · rw [World.cell?_alloc_lt _ _ _ (by rw [World.size_alloc]; show w.heap.size < _; omega), World.cell?_alloc_at _ _ _ _ rfl]; rfl
  · rw [World.cell?_alloc_lt _ _ _ (by rw [World.size_alloc]; show db < _; omega), World.cell?_alloc_lt _ _ _ hd]; exact h
  · rw [e1, World.cell?_alloc_at _ _ _ _ rfl]; rfl
set_option maxRecDepth 100000 in
set_option maxHeartbeats 2000000 in
theorem Weighted_depth (a : Nat → Addr) (s : ByteArray) (d : Int) (w : World) (hE : Errs w a) (hd : d < 0 ∨ 4 < d) :
    Calls Tryz.prog 9 #[.string s, .int .i64 d] w fun e w' => e = .returned (.tuple #[.agg #[.int .i64 0, .int .i64 0], errV a 2]) ∧ Below w.heap.size w w' := by
  obtain ⟨W0, hW0⟩ : ∃ W0, W0 = (w.alloc (.cells #[.int .i64 d] 3)).alloc (.cells #[.int .i64 0, .int .i64 0] 25) := ⟨_, rfl⟩
  have hb0 : Below w.heap.size w W0 := by rw [hW0]; exact below_chain (new_below _ _) (new_below _ _)
  obtain ⟨x0, g0, g1, f0, f1⟩ : W0.cell? ⟨w.heap.size, 0, none⟩ = some (.int .i64 d) ∧ W0.cell? ⟨w.heap.size + 1, 0, none⟩ = some (.int .i64 0) ∧ W0.cell? ⟨w.heap.size + 1, 1, none⟩ = some (.int .i64 0) ∧ W0.frozen? ⟨w.heap.size + 1, 0, none⟩ = false ∧ W0.frozen? ⟨w.heap.size + 1, 1, none⟩ = false := by
    rw [hW0]; exact wq_past d _ _ (Below.refl _ _)
  have e2 := (hE.below hb0).c1
  have hne2 : ¬ 0 = w.heap.size + 1 := by have := cell_lt hE.c1; have h2 : 0 < w.heap.size := this; omega
  rw [errV_two]
  have HB0 := Hid.mk' hb0
  have HW0 := Hid.mk' hW0
  clear hb0 hW0 hE
  go_enter Tryz.func9, Tryz.ntmps9
  go_upto_region 1 with fail
  rw [← HW0.out]
  rcases hd with hd | hd
  · go_wp2_with fail
    go_region
    all_goals
      go_wp2_with fail
      refine bodyPost_ret (v := .tuple #[.agg #[.int .i64 0, .int .i64 0], _]) (by simp [results, Tryz.results9, go_sem, g0, g1]) rfl ⟨rfl, ?_⟩
      exact ((HB0.out.drew).setCell (Nat.le_succ _) _).setCell (Nat.le_succ _) _
  · have hd0 : ¬ d < 0 := by omega
    go_wp2_with fail
    go_region
    all_goals
      go_wp2_with fail
      refine bodyPost_ret (v := .tuple #[.agg #[.int .i64 0, .int .i64 0], _]) (by simp [results, Tryz.results9, go_sem, g0, g1]) rfl ⟨rfl, ?_⟩
      exact ((HB0.out.drew).setCell (Nat.le_succ _) _).setCell (Nat.le_succ _) _
set_option maxRecDepth 100000 in
set_option maxHeartbeats 2000000 in
theorem Weighted_bits (a : Nat → Addr) (s : ByteArray) (d : Int) (c : Nat) (w : World) (hE : Errs w a) (hd : 0 ≤ d) (hd4 : d ≤ 4) (hs : s.size ≤ 400) (hc : bitsE s = c) (h : c ≠ 0) :
    Calls Tryz.prog 9 #[.string s, .int .i64 d] w fun e w' => e = .returned (.tuple #[.agg #[.int .i64 0, .int .i64 0], errV a c]) ∧ Below w.heap.size w w' := by
  obtain ⟨W0, hW0⟩ : ∃ W0, W0 = (w.alloc (.cells #[.int .i64 d] 3)).alloc (.cells #[.int .i64 0, .int .i64 0] 25) := ⟨_, rfl⟩
  have hb0 : Below w.heap.size w W0 := by rw [hW0]; exact below_chain (new_below _ _) (new_below _ _)
  have HKS : Hid (∀ W, Below W0.heap.size W0 W → W.cell? ⟨w.heap.size, 0, none⟩ = some (.int .i64 d) ∧ W.cell? ⟨w.heap.size + 1, 0, none⟩ = some (.int .i64 0) ∧ W.cell? ⟨w.heap.size + 1, 1, none⟩ = some (.int .i64 0) ∧ W.frozen? ⟨w.heap.size + 1, 0, none⟩ = false ∧ W.frozen? ⟨w.heap.size + 1, 1, none⟩ = false) := fun W hb => by
    rw [hW0] at hb; exact wq_past d _ _ hb
  have hC := checkBits_any a s W0 (hE.below hb0) hs
  rw [hc, errV_pos a h] at hC
  rw [errV_pos a h]
  have HB0 := Hid.mk' hb0
  have HW0 := Hid.mk' hW0
  generalize c - 1 = j at *
  obtain ⟨x0, -⟩ := HKS.out _ (Below.refl _ _)
  clear hb0 hW0 hE
  go_enter Tryz.func9, Tryz.ntmps9
  go_upto_region 1 with fail
  rw [← HW0.out]
  go_wp2_with fail
  refine hC.mono ?_
  clear hC
  rintro e w1 ⟨rfl, hb1⟩
  obtain ⟨-, g0, g1, f0, f1⟩ := HKS.out w1 hb1
  have HB3 := Hid.mk' (below_chain HB0.out hb1)
  clear hb1
  go_wp2_with fail
  refine bodyPost_ret (v := .tuple #[.agg #[.int .i64 0, .int .i64 0], _]) (by simp [results, Tryz.results9, go_sem, g0, g1]) rfl ⟨rfl, ?_⟩
  exact (HB3.out.setCell (Nat.le_succ _) _).setCell (Nat.le_succ _) _
set_option maxRecDepth 100000 in
set_option maxHeartbeats 4000000 in
theorem Weighted_ok (a : Nat → Addr) (s : ByteArray) (d : Nat) (p q : Int) (y : Value) (w : World) (hE : Errs w a) (hc : bitsE s = 0) (hd : d ≤ 4) (hv : toldV a (wg (rowZ s d) d s.size d ⟨#[]⟩).1 (wg (rowZ s d) d s.size d ⟨#[]⟩).2 = .tuple #[.agg #[.int .i64 p, .int .i64 q], y]) :
    Calls Tryz.prog 9 #[.string s, .int .i64 d] w fun e w' => e = .returned (.tuple #[.agg #[.int .i64 p, .int .i64 q], y]) ∧ Below w.heap.size w w' := by
  obtain ⟨hs, hb⟩ := bitsE_ok hc
  have hbits : BitsA s := fun i hi => bit_at hi hb
  obtain ⟨W0, hW0⟩ : ∃ W0, W0 = (w.alloc (.cells #[.int .i64 (d : Int)] 3)).alloc (.cells #[.int .i64 0, .int .i64 0] 25) := ⟨_, rfl⟩
  have hb0 : Below w.heap.size w W0 := by rw [hW0]; exact below_chain (new_below _ _) (new_below _ _)
  have HKS : Hid (∀ W, Below W0.heap.size W0 W → W.cell? ⟨w.heap.size, 0, none⟩ = some (.int .i64 (d : Int)) ∧ W.cell? ⟨w.heap.size + 1, 0, none⟩ = some (.int .i64 0) ∧ W.cell? ⟨w.heap.size + 1, 1, none⟩ = some (.int .i64 0) ∧ W.frozen? ⟨w.heap.size + 1, 0, none⟩ = false ∧ W.frozen? ⟨w.heap.size + 1, 1, none⟩ = false) := fun W hb => by
    rw [hW0] at hb; exact wq_past _ _ _ hb
  have hC := checkBits_any a s W0 (hE.below hb0) (by omega)
  rw [hc, show errV a 0 = .nilIface from rfl] at hC
  have HREP := Hid.mk' (fun (W : World) => Any.strings_Repeat Tryz.repeatA Tryz.repeatX ⟨#[48]⟩ d W (by omega) (by show 1 * d ≤ _; omega))
  have HRZ : Hid ((⟨(Lib.repeatL (⟨#[48]⟩ : ByteArray).data.toList d).toArray⟩ : ByteArray) ++ s = rowZ s d) := rowZ_rep s d
  have HQS : Hid ((⟨(Lib.repeatL (⟨#[48]⟩ : ByteArray).data.toList d).toArray⟩ : ByteArray).size ≤ 4) := by
    have h1 := congrArg ByteArray.size HRZ.out
    rw [ByteArray.size_append, rowZ_size] at h1
    show _ ≤ _
    omega
  have HSZ := Hid.mk' (rowZ_size s d)
  have HE := Hid.mk' (fun W (hb : Below w.heap.size w W) => hE.below hb)
  have hok := wg_ok (rowZ s d) d s.size hs d ⟨#[]⟩
  have hw4 := wE_mono d hd
  have hr1 := (wE_room (wE_le1 (Nat.le_trans hok.2.1 (Nat.le_trans hok.2.2 hw4)))).1
  have hr2 := (wE_room (wE_le1 (Nat.le_trans hok.2.2 hw4))).1
  have HTO : Hid (∀ W x0 l0 c0 x1 l1 c1, Below w.heap.size w W → NatAt W (.slice x0 l0 c0) (wg (rowZ s d) d s.size d ⟨#[]⟩).1 → NatAt W (.slice x1 l1 c1) (wg (rowZ s d) d s.size d ⟨#[]⟩).2 → Calls Tryz.prog 30 #[.agg #[.slice x0 l0 c0, .slice x1 l1 c1]] W fun e w' => e = .returned (.tuple #[.agg #[.int .i64 p, .int .i64 q], y]) ∧ Below W.heap.size W w') := fun W x0 l0 c0 x1 l1 c1 hb hN hD => share_toldK a x0 x1 l0 c0 l1 c1 _ _ 220 p q y W (hE.below hb) hN hD hok.1 hr1 hr2 (by decide) hv
  have HWW : Hid (∀ (W : World) rb db fb, WgAt W rb db fb (rowZ s d) d → Calls Tryz.prog 25 #[.string ⟨#[]⟩, .pointer (some ⟨rb, 0, none⟩), .pointer (some ⟨db, 0, none⟩), .pointer (some ⟨fb, 0, none⟩)] W fun e w' => ∃ x0 l0 c0 x1 l1 c1, e = .returned (.agg #[.slice x0 l0 c0, .slice x1 l1 c1]) ∧ NatAt w' (.slice x0 l0 c0) (wg (rowZ s d) d s.size d ⟨#[]⟩).1 ∧ NatAt w' (.slice x1 l1 c1) (wg (rowZ s d) d s.size d ⟨#[]⟩).2 ∧ Below W.heap.size W w') := fun W rb db fb hg => by
    have h := weigh_any (rowZ s d) d rb db fb (by rw [HSZ.out]; omega) (by rw [HSZ.out]; omega) (by rw [HSZ.out]; omega) hd (rowZ_bits hbits d) d ⟨#[]⟩ W (Nat.zero_add _) hg
    rw [show (rowZ s d).size - d = s.size by rw [HSZ.out]; omega] at h
    exact h
  have hdI : (d : Int) ≤ 4 := by omega
  have hd0 : (0 : Int) ≤ (d : Int) := by omega
  have hss : s.size ≤ 24 := hs
  have HB0 := Hid.mk' hb0
  have HW0 := Hid.mk' hW0
  obtain ⟨x0, -⟩ := HKS.out _ (Below.refl _ _)
  clear hb0 hW0 hE hc hv hok hw4 hr1 hr2 hb hs
  go_enter Tryz.func9, Tryz.ntmps9
  go_upto_region 1 with fail
  rw [← HW0.out]
  clear HW0
  go_wp2_with fail
  refine hC.mono ?_
  clear hC
  rintro e w1 ⟨rfl, hb1⟩
  have HB1 := Hid.mk' hb1
  obtain ⟨x1, -⟩ := HKS.out _ hb1
  clear hb1 x0
  go_wp2_with fail
  refine (HREP.out _).mono ?_
  rintro e w2 ⟨rfl, hb2⟩
  have HB2 := Hid.mk' (below_chain HB1.out hb2)
  clear hb2 x1 HREP
  have hq4 := HQS.out
  generalize (⟨(Lib.repeatL (⟨#[48]⟩ : ByteArray).data.toList d).toArray⟩ : ByteArray) = Z at *
  go_wp2_with fail
  rw [HRZ.out]
  have HB3 : Hid (∀ X Y, Below W0.heap.size W0 ((w2.alloc X).alloc Y)) := fun X Y => below_chain HB2.out (below_chain (new_below w2 X) (new_below _ Y))
  refine (HWW.out _ _ _ _ (wgat_new w2 (rowZ s d) d w.heap.size _ _ (HKS.out _ HB2.out).1)).mono ?_
  rintro e w5 ⟨y0, l0, c0, y1, l1, c1, rfl, hN, hD, hb5⟩
  have HN := Hid.mk' hN
  have HD := Hid.mk' hD
  have HB5 := Hid.mk' (below_chain (HB3.out _ _) hb5)
  clear hN hD hb5
  go_wp2_with fail
  refine (HTO.out _ _ _ _ _ _ _ (below_chain HB0.out HB5.out) HN.out HD.out).mono ?_
  rintro e w6 ⟨rfl, hb6⟩
  obtain ⟨-, g0, g1, f0, f1⟩ := HKS.out w6 (below_chain HB5.out hb6)
  have HB6 := Hid.mk' (below_chain HB0.out (below_chain HB5.out hb6))
  clear hb6
  obtain ⟨z0, z1⟩ := (put_two (.int .i64 p) (.int .i64 q) g0 g1).2
  go_wp2_with fail
  refine bodyPost_ret (v := .tuple #[.agg #[.int .i64 p, .int .i64 q], y]) (by simp [results, Tryz.results9, go_sem, z0, z1]) rfl ⟨rfl, ?_⟩
  exact (HB6.out.setCell (Nat.le_succ _) _).setCell (Nat.le_succ _) _
end Go.Proofs.YtkglaiigoogapaaGreatDoor

/- Phrases: what both the program, byte by byte, and the document, by the longest text ahead, answer. -/
namespace Go.Proofs.YtkglaiigoogapaaGreatDoor

/-- The number of a phrase, from 1 on; 0: there is none. -/
def numOf : List (Nat × UInt8) → Nat × UInt8 → Nat
  | [], _ => 0
  | p :: r, q => if p = q then 1 else if numOf r q = 0 then 0 else numOf r q + 1
theorem numOf_snoc (p q : Nat × UInt8) : ∀ D : List (Nat × UInt8), numOf (D ++ [p]) q = if numOf D q ≠ 0 then numOf D q else if p = q then D.length + 1 else 0
  | [] => by simp [numOf]
  | d :: r => by
    have ih := numOf_snoc p q r
    by_cases h : d = q
    · simp [numOf, h]
    · simp only [List.cons_append, numOf, if_neg h, ih]
      by_cases h0 : numOf r q = 0
      · by_cases h2 : p = q
        · simp [h0, h2]
        · simp [h0, h2]
      · simp [h0]
theorem numOf_le (q : Nat × UInt8) : ∀ D : List (Nat × UInt8), numOf D q ≤ D.length
  | [] => Nat.le_refl _
  | d :: r => by
    have ih := numOf_le q r
    unfold numOf
    split
    · simp
    · split
      · simp
      · simp; omega
theorem numOf_at (q : Nat × UInt8) : ∀ (D : List (Nat × UInt8)), numOf D q ≠ 0 → D[numOf D q - 1]? = some q
  | [], h => by simp [numOf] at h
  | d :: r, h => by
    have ih := numOf_at q r
    by_cases h1 : d = q
    · simp [numOf, h1]
    · by_cases h0 : numOf r q = 0
      · simp [numOf, h1, h0] at h
      · simp only [numOf, if_neg h1, if_neg h0, Nat.add_sub_cancel]
        obtain ⟨m, hm⟩ : ∃ m, numOf r q = m + 1 := ⟨numOf r q - 1, by omega⟩
        have := ih h0
        rw [hm] at this ⊢
        simpa using this
theorem numOf_mem (q : Nat × UInt8) : ∀ (D : List (Nat × UInt8)), q ∈ D → numOf D q ≠ 0
  | [], h => by simp at h
  | d :: r, h => by
    by_cases h1 : d = q
    · simp [numOf, h1]
    · have : q ∈ r := by
        rcases List.mem_cons.1 h with h | h
        · exact absurd h.symm h1
        · exact h
      have ih := numOf_mem q r this
      simp [numOf, h1, ih]

/-- A byte more. -/
def pzS (s : List (Nat × UInt8) × Nat) (c : UInt8) : List (Nat × UInt8) × Nat := if numOf s.1 (s.2, c) = 0 then (s.1 ++ [(s.2, c)], 0) else (s.1, numOf s.1 (s.2, c))
def pz (s : List (Nat × UInt8) × Nat) (l : List UInt8) : List (Nat × UInt8) × Nat := l.foldl pzS s
theorem pz_snoc (s : List (Nat × UInt8) × Nat) (l : List UInt8) (c : UInt8) : pz s (l ++ [c]) = pzS (pz s l) c := by simp [pz]
theorem pz_append (s : List (Nat × UInt8) × Nat) (a b : List UInt8) : pz s (a ++ b) = pz (pz s a) b := by simp [pz]
theorem pzS_new {s : List (Nat × UInt8) × Nat} {c : UInt8} (h : numOf s.1 (s.2, c) = 0) : pzS s c = (s.1 ++ [(s.2, c)], 0) := by unfold pzS; rw [if_pos h]
theorem pzS_old {s : List (Nat × UInt8) × Nat} {c : UInt8} (h : numOf s.1 (s.2, c) ≠ 0) : pzS s c = (s.1, numOf s.1 (s.2, c)) := by unfold pzS; rw [if_neg h]
theorem pz_le : ∀ (l : List UInt8) (s : List (Nat × UInt8) × Nat), s.2 ≤ s.1.length → (pz s l).2 ≤ (pz s l).1.length ∧ (pz s l).1.length ≤ s.1.length + l.length
  | [], s, h => ⟨h, Nat.le_refl _⟩
  | c :: r, s, h => by
    have e : pz s (c :: r) = pz (pzS s c) r := rfl
    rw [e]
    by_cases h0 : numOf s.1 (s.2, c) = 0
    · rw [pzS_new h0]
      obtain ⟨h1, h2⟩ := pz_le r (s.1 ++ [(s.2, c)], 0) (Nat.zero_le _)
      refine ⟨h1, ?_⟩
      simp at h2 ⊢; omega
    · rw [pzS_old h0]
      obtain ⟨h1, h2⟩ := pz_le r (s.1, numOf s.1 (s.2, c)) (numOf_le _ _)
      refine ⟨h1, ?_⟩
      simp at h2 ⊢; omega

/-- A phrase: of which one ahead, the byte behind it, whether it is the last. -/
structure Phr where
  of : Nat
  next : Nat
  last : Bool
def phrs (D : List (Nat × UInt8)) : List Phr := D.map fun p => ⟨p.1, p.2.toNat, false⟩
theorem phrs_snoc (D : List (Nat × UInt8)) (o : Nat) (c : UInt8) : phrs (D ++ [(o, c)]) = phrs D ++ [⟨o, c.toNat, false⟩] := by simp [phrs]
theorem phrs_length (D : List (Nat × UInt8)) : (phrs D).length = D.length := by simp [phrs]
def pzO (s : List (Nat × UInt8) × Nat) : List Phr := if s.2 = 0 then phrs s.1 else phrs s.1 ++ [⟨s.2, 0, true⟩]
def pzL (l : List UInt8) : List Phr := pzO (pz ([], 0) l)

/-- The text of a phrase by its number. -/
def txA (K : List (List UInt8)) (o : Nat) : List UInt8 := if o = 0 then [] else K.getD (o - 1) []
/-- Phrases and their texts. -/
structure Trie (D : List (Nat × UInt8)) (K : List (List UInt8)) : Prop where
  len : K.length = D.length
  of : ∀ (i o : Nat) (c : UInt8), D[i]? = some (o, c) → o ≤ i ∧ K[i]? = some (txA K o ++ [c])
  apart : ∀ (i j : Nat) (a : List UInt8), K[i]? = some a → K[j]? = some a → i = j
theorem Trie.nil : Trie [] [] := ⟨rfl, fun i o c h => by simp at h, fun i j a h => by simp at h⟩
theorem txA_succ (K : List (List UInt8)) (o : Nat) : txA K (o + 1) = K.getD o [] := by simp [txA]
theorem txA_some {K : List (List UInt8)} {o : Nat} (h0 : o ≠ 0) (h1 : o ≤ K.length) : K[o - 1]? = some (txA K o) := by
  rw [txA, if_neg h0, List.getD_eq_getElem?_getD, List.getElem?_eq_getElem (by omega)]; rfl
theorem Trie.ne {D : List (Nat × UInt8)} {K : List (List UInt8)} (h : Trie D K) {i : Nat} {a : List UInt8} (hi : K[i]? = some a) : ∃ o c, D[i]? = some (o, c) ∧ o ≤ i ∧ a = txA K o ++ [c] := by
  have hl : i < K.length := by
    rcases Nat.lt_or_ge i K.length with h' | h'
    · exact h'
    · rw [List.getElem?_eq_none h'] at hi; cases hi
  have hd : D[i]? = some (D[i]'(by rw [← h.len]; exact hl)) := List.getElem?_eq_getElem _
  obtain ⟨h1, h2⟩ := h.of i _ _ (show D[i]? = some ((D[i]'(by rw [← h.len]; exact hl)).1, (D[i]'(by rw [← h.len]; exact hl)).2) from hd)
  rw [hi] at h2
  exact ⟨_, _, hd, h1, Option.some.inj h2⟩
theorem Trie.inj {D : List (Nat × UInt8)} {K : List (List UInt8)} (h : Trie D K) {a b : Nat} (ha : a ≤ K.length) (hb : b ≤ K.length) (e : txA K a = txA K b) : a = b := by
  by_cases h0 : a = 0
  · by_cases h1 : b = 0
    · omega
    · obtain ⟨o, c, _, _, h2⟩ := h.ne (txA_some h1 hb)
      rw [← e, h0] at h2
      simp [txA] at h2
  · by_cases h1 : b = 0
    · obtain ⟨o, c, _, _, h2⟩ := h.ne (txA_some h0 ha)
      rw [e, h1] at h2
      simp [txA] at h2
    · have h2 := txA_some h1 hb
      rw [← e] at h2
      have := h.apart _ _ _ (txA_some h0 ha) h2
      omega
/-- There is a phrase with a byte more just if there is one with that text. -/
theorem Trie.step {D : List (Nat × UInt8)} {K : List (List UInt8)} (h : Trie D K) {o : Nat} {c : UInt8} (ho : o ≤ K.length) : (numOf D (o, c) = 0 ∧ ∀ i : Nat, K[i]? ≠ some (txA K o ++ [c])) ∨ (numOf D (o, c) ≠ 0 ∧ numOf D (o, c) ≤ K.length ∧ txA K (numOf D (o, c)) = txA K o ++ [c]) := by
  by_cases h0 : numOf D (o, c) = 0
  · refine Or.inl ⟨h0, fun i hi => ?_⟩
    obtain ⟨o', c', hd, hle, e⟩ := h.ne hi
    have hi2 : i < K.length := by
      rcases Nat.lt_or_ge i K.length with h' | h'
      · exact h'
      · rw [List.getElem?_eq_none h'] at hi; cases hi
    obtain ⟨e1, e2⟩ := List.append_inj' e rfl
    obtain rfl : o = o' := h.inj ho (by omega) e1
    obtain rfl : c = c' := by simpa using e2
    exact numOf_mem _ _ (List.mem_of_getElem? hd) h0
  · have hl := numOf_le (o, c) D
    have ha := numOf_at (o, c) D h0
    obtain ⟨_, h2⟩ := h.of _ _ _ ha
    refine Or.inr ⟨h0, by rw [h.len]; exact hl, ?_⟩
    have h3 := txA_some h0 (K := K) (by rw [h.len]; exact hl)
    rw [h2] at h3
    exact (Option.some.inj h3).symm
theorem txA_append {K : List (List UInt8)} {o : Nat} (a : List UInt8) (h : o ≤ K.length) : txA (K ++ [a]) o = txA K o := by
  by_cases h0 : o = 0
  · simp [txA, h0]
  · rw [txA, txA, if_neg h0, if_neg h0, List.getD_eq_getElem?_getD, List.getD_eq_getElem?_getD, List.getElem?_append_left (by omega)]
theorem Trie.push {D : List (Nat × UInt8)} {K : List (List UInt8)} (h : Trie D K) {o : Nat} {c : UInt8} (ho : o ≤ K.length) (h0 : numOf D (o, c) = 0) : Trie (D ++ [(o, c)]) (K ++ [txA K o ++ [c]]) := by
  have hno : ∀ i : Nat, K[i]? ≠ some (txA K o ++ [c]) := by
    rcases h.step (c := c) ho with ⟨_, h1⟩ | ⟨h1, _⟩
    · exact h1
    · exact absurd h0 h1
  have hlt : ∀ {i : Nat} {a : List UInt8}, K[i]? = some a → i < K.length := fun {i a} hi => by
    rcases Nat.lt_or_ge i K.length with h' | h'
    · exact h'
    · rw [List.getElem?_eq_none h'] at hi; cases hi
  have hcase : ∀ {i : Nat} {a : List UInt8}, (K ++ [txA K o ++ [c]])[i]? = some a → K[i]? = some a ∨ (i = K.length ∧ a = txA K o ++ [c]) := fun {i a} hi => by
    rcases Nat.lt_or_ge i K.length with h' | h'
    · rw [List.getElem?_append_left h'] at hi; exact Or.inl hi
    · rw [List.getElem?_append_right h'] at hi
      rcases Nat.eq_or_lt_of_le h' with e | e
      · refine Or.inr ⟨e.symm, ?_⟩
        rw [← e, Nat.sub_self] at hi
        simpa using hi.symm
      · rw [List.getElem?_eq_none (by simp; omega)] at hi; cases hi
  refine ⟨by simp [h.len], fun i o' c' hi => ?_, fun i j a hi hj => ?_⟩
  · rcases Nat.lt_or_ge i D.length with h' | h'
    · rw [List.getElem?_append_left h'] at hi
      obtain ⟨h1, h2⟩ := h.of i o' c' hi
      refine ⟨h1, ?_⟩
      rw [txA_append _ (by rw [h.len]; omega), List.getElem?_append_left (by rw [h.len]; exact h')]
      exact h2
    · rw [List.getElem?_append_right h'] at hi
      rcases Nat.eq_or_lt_of_le h' with e | e
      · rw [← e, Nat.sub_self] at hi
        obtain ⟨rfl, rfl⟩ : o = o' ∧ c = c' := by simpa using hi
        refine ⟨by rw [← e, ← h.len]; exact ho, ?_⟩
        rw [txA_append _ ho, ← e, ← h.len, List.getElem?_append_right (Nat.le_refl _), Nat.sub_self]; rfl
      · rw [List.getElem?_eq_none (by simp; omega)] at hi; cases hi
  · rcases hcase hi with h1 | ⟨h1, h2⟩
    · rcases hcase hj with h3 | ⟨h3, h4⟩
      · exact h.apart i j a h1 h3
      · exact absurd (h4 ▸ h1) (hno i)
    · rcases hcase hj with h3 | ⟨h3, h4⟩
      · exact absurd (h2 ▸ h3) (hno j)
      · omega

/-- What begins the text of a phrase is itself one's. -/
theorem Trie.closed {D : List (Nat × UInt8)} {K : List (List UInt8)} (h : Trie D K) : ∀ (n i : Nat) (a : List UInt8), i < n → K[i]? = some a → ∀ j, j ≤ a.length → ∃ o, o ≤ K.length ∧ txA K o = a.take j
  | 0, i, a, hn, _, _, _ => by omega
  | n + 1, i, a, hn, hi, j, hj => by
    have hl : i < K.length := by
      rcases Nat.lt_or_ge i K.length with h' | h'
      · exact h'
      · rw [List.getElem?_eq_none h'] at hi; cases hi
    obtain ⟨o, c, hd, hle, e⟩ := h.ne hi
    by_cases hja : j = a.length
    · refine ⟨i + 1, hl, ?_⟩
      rw [hja, List.take_length, txA_succ, List.getD_eq_getElem?_getD, hi]; rfl
    · have hj2 : j ≤ (txA K o).length := by rw [e] at hj hja; simp at hj hja; omega
      have ht : a.take j = (txA K o).take j := by rw [e, List.take_append_of_le_length hj2]
      by_cases h0 : o = 0
      · refine ⟨0, Nat.zero_le _, ?_⟩
        rw [ht, h0]; simp [txA]
      · obtain ⟨o2, h1, h2⟩ := h.closed n (o - 1) (txA K o) (by omega) (txA_some h0 (by omega)) j hj2
        exact ⟨o2, h1, by rw [h2, ht]⟩
/-- From the empty phrase along a text whose beginnings are all phrases'. -/
theorem Trie.walk {D : List (Nat × UInt8)} {K : List (List UInt8)} (h : Trie D K) (R : List UInt8) (best long : Nat) (hb : best ≤ K.length) (hR : long ≤ R.length) (ht : txA K best = R.take long) : pz (D, 0) (R.take long) = (D, best) := by
  have key : ∀ j, j ≤ long → ∃ n, n ≤ K.length ∧ txA K n = R.take j ∧ pz (D, 0) (R.take j) = (D, n) := by
    intro j
    induction j with
    | zero => intro _; exact ⟨0, Nat.zero_le _, by simp [txA], by simp [pz]⟩
    | succ j ih =>
      intro hj
      obtain ⟨n, h1, h2, h3⟩ := ih (by omega)
      have hlen : (txA K best).length = long := by rw [ht, List.length_take]; omega
      have hb0 : best ≠ 0 := by intro e; rw [e] at hlen; simp [txA] at hlen; omega
      obtain ⟨o, h4, h5⟩ := h.closed (best - 1 + 1) (best - 1) (txA K best) (by omega) (txA_some hb0 hb) (j + 1) (by omega)
      rw [ht, List.take_take, Nat.min_eq_left hj] at h5
      have hs : R.take (j + 1) = R.take j ++ [R[j]'(by omega)] := List.take_succ_eq_append_getElem (by omega)
      rw [hs] at h5
      have ho0 : o ≠ 0 := by
        intro e
        have h9 := congrArg List.length h5
        rw [e, List.length_append] at h9
        simp only [txA, if_true, List.length_nil, List.length_cons] at h9
        omega
      have hex := txA_some ho0 h4
      rw [h5, ← h2] at hex
      rcases h.step (c := R[j]'(by omega)) h1 with ⟨_, h6⟩ | ⟨h6, h7, h8⟩
      · exact absurd hex (h6 _)
      · refine ⟨_, h7, by rw [h8, h2, hs], ?_⟩
        rw [hs, pz_snoc, h3, pzS_old h6]
  obtain ⟨n, h1, h2, h3⟩ := key long (Nat.le_refl _)
  rw [h3, h.inj h1 hb (by rw [h2, ht])]
end Go.Proofs.YtkglaiigoogapaaGreatDoor

/- Copies of what stood ahead: what both the program and the document answer. -/
namespace Go.Proofs.YtkglaiigoogapaaGreatDoor

/-- How many bytes two texts begin with. -/
def cpL : List UInt8 → List UInt8 → Nat
  | x :: a, y :: b => if x = y then cpL a b + 1 else 0
  | _, _ => 0
theorem cpL_le : ∀ a b, cpL a b ≤ b.length
  | [], b => by simp [cpL]
  | x :: a, [] => by simp [cpL]
  | x :: a, y :: b => by
    have := cpL_le a b
    unfold cpL
    split
    · simp; omega
    · simp
theorem cpL_take : ∀ a b : List UInt8, (a.take (cpL a b)) = b.take (cpL a b)
  | [], b => by simp [cpL]
  | x :: a, [] => by simp [cpL]
  | x :: a, y :: b => by
    have := cpL_take a b
    unfold cpL
    split
    · next h => simp [h, this]
    · simp
theorem cpL_step (L : List UInt8) (f a n : Nat) (h1 : a + n < L.length) (h2 : f + n < L.length) : cpL (L.drop (f + n)) (L.drop (a + n)) = if L[f + n] = L[a + n] then cpL (L.drop (f + (n + 1))) (L.drop (a + (n + 1))) + 1 else 0 := by
  rw [List.drop_eq_getElem_cons h1, List.drop_eq_getElem_cons h2]
  rfl
theorem cpL_end (L : List UInt8) (f a n : Nat) (h1 : L.length ≤ a + n) : cpL (L.drop (f + n)) (L.drop (a + n)) = 0 := by
  rw [List.drop_eq_nil_of_le h1]
  cases L.drop (f + n) <;> rfl

/-- Of the first k places ahead the nearest of those that have most: how far back, and how much. -/
def bst (L : List UInt8) (at' : Nat) : Nat → Nat × Nat
  | 0 => (0, 0)
  | k + 1 => if (bst L at' k).2 < cpL (L.drop (at' - (k + 1))) (L.drop at') then (k + 1, cpL (L.drop (at' - (k + 1))) (L.drop at')) else bst L at' k
theorem bst_more {L : List UInt8} {p k : Nat} (h : (bst L p k).2 < cpL (L.drop (p - (k + 1))) (L.drop p)) : bst L p (k + 1) = (k + 1, cpL (L.drop (p - (k + 1))) (L.drop p)) := by
  show (if _ then _ else _) = _
  rw [if_pos h]
theorem bst_same {L : List UInt8} {p k : Nat} (h : ¬ (bst L p k).2 < cpL (L.drop (p - (k + 1))) (L.drop p)) : bst L p (k + 1) = bst L p k := by
  show (if _ then _ else _) = _
  rw [if_neg h]
theorem bst_le (L : List UInt8) (p : Nat) : ∀ k, (bst L p k).1 ≤ k ∧ (bst L p k).2 ≤ L.length - p
  | 0 => by simp [bst]
  | k + 1 => by
    have ih := bst_le L p k
    have hc := cpL_le (L.drop (p - (k + 1))) (L.drop p)
    rw [List.length_drop] at hc
    by_cases h : (bst L p k).2 < cpL (L.drop (p - (k + 1))) (L.drop p)
    · rw [bst_more h]; exact ⟨Nat.le_refl _, hc⟩
    · rw [bst_same h]; omega
theorem bst_zero (L : List UInt8) (p : Nat) : ∀ k, ((bst L p k).1 = 0 ↔ (bst L p k).2 = 0)
  | 0 => by simp [bst]
  | k + 1 => by
    have ih := bst_zero L p k
    by_cases h : (bst L p k).2 < cpL (L.drop (p - (k + 1))) (L.drop p)
    · rw [bst_more h]; simp; omega
    · rw [bst_same h]; exact ih
theorem bst_copy (L : List UInt8) (p : Nat) : ∀ k, (L.drop (p - (bst L p k).1)).take (bst L p k).2 = (L.drop p).take (bst L p k).2
  | 0 => by simp [bst]
  | k + 1 => by
    by_cases h : (bst L p k).2 < cpL (L.drop (p - (k + 1))) (L.drop p)
    · rw [bst_more h]; exact cpL_take _ _
    · rw [bst_same h]; exact bst_copy L p k

/-- A copy: how far back, how long, the byte behind it, whether it is the last. -/
structure Cpy where
  back : Nat
  len : Nat
  next : Nat
  last : Bool
/-- The copies of a text from a place on. -/
def slL (L : List UInt8) (w : Nat) : Nat → Nat → List Cpy
  | 0, _ => []
  | f + 1, p =>
    if p < L.length then
      (if p + (bst L p (min w p)).2 < L.length then ⟨(bst L p (min w p)).1, (bst L p (min w p)).2, (L.getD (p + (bst L p (min w p)).2) 0).toNat, false⟩ :: slL L w f (p + (bst L p (min w p)).2 + 1)
      else [⟨(bst L p (min w p)).1, (bst L p (min w p)).2, 0, true⟩])
    else []
theorem slL_end (L : List UInt8) (w f p : Nat) (h : L.length ≤ p) : slL L w f p = [] := by
  cases f with
  | zero => rfl
  | succ f => unfold slL; rw [if_neg (by omega)]
theorem slL_step (L : List UInt8) (w f p : Nat) (h : p < L.length) (h2 : p + (bst L p (min w p)).2 < L.length) : slL L w (f + 1) p = ⟨(bst L p (min w p)).1, (bst L p (min w p)).2, (L.getD (p + (bst L p (min w p)).2) 0).toNat, false⟩ :: slL L w f (p + (bst L p (min w p)).2 + 1) := by
  conv => lhs; unfold slL
  rw [if_pos h, if_pos h2]
theorem slL_last (L : List UInt8) (w f p : Nat) (h : p < L.length) (h2 : L.length ≤ p + (bst L p (min w p)).2) : slL L w (f + 1) p = [⟨(bst L p (min w p)).1, (bst L p (min w p)).2, 0, true⟩] := by
  conv => lhs; unfold slL
  rw [if_pos h, if_neg (by omega)]
end Go.Proofs.YtkglaiigoogapaaGreatDoor

/- The program's search of the longest copy. -/
namespace Go.Proofs.YtkglaiigoogapaaGreatDoor
open Go.RowKit

theorem ret_num {a b : Int} (h : a = b) : Ending.returned (.int .i64 a) = .returned (.int .i64 b) := by rw [h]
theorem byte_list (t : ByteArray) (k : Nat) (h : k < t.size) (h' : k < t.data.toList.length) : t.data.toList[k]'h' = t[k]'h := by simp; rfl
theorem size_lst (a : ByteArray) : a.data.toList.length = a.size := by rw [Array.length_toList]; rfl

theorem ext_list (T : ByteArray) (p : Nat) : (T.extract p T.size).data.toList = T.data.toList.drop p := by
  rw [ByteArray.data_extract, Array.toList_extract, List.extract_eq_take_drop, ← size_lst]
  exact List.take_of_length_le (by rw [List.length_drop]; exact Nat.le_refl _)
theorem ext_size (T : ByteArray) (p : Nat) : (T.extract p T.size).size = T.size - p := by rw [ByteArray.size_extract]; omega
/-- The box of a copy. -/
structure BoxC (w : World) (b : Nat) (r : Nat × Nat) : Prop where
  c0 : w.cell? ⟨b, 0, none⟩ = some (.int .i64 (r.1 : Int))
  c1 : w.cell? ⟨b, 1, none⟩ = some (.int .i64 (r.2 : Int))
  c2 : w.cell? ⟨b, 2, none⟩ = some (.int .u8 0)
  c3 : w.cell? ⟨b, 3, none⟩ = some (.bool false)
  fz : ∀ i, w.frozen? ⟨b, i, none⟩ = false

theorem four_cells {w : World} {b : Nat} {x0 x1 x2 x3 : Value} (v0 v1 v2 v3 : Value) (c0 : w.cell? ⟨b, 0, none⟩ = some x0) (c1 : w.cell? ⟨b, 1, none⟩ = some x1) (c2 : w.cell? ⟨b, 2, none⟩ = some x2) (c3 : w.cell? ⟨b, 3, none⟩ = some x3) :
    ((((w.setCell ⟨b, 0, none⟩ v0).setCell ⟨b, 1, none⟩ v1).setCell ⟨b, 2, none⟩ v2).setCell ⟨b, 3, none⟩ v3).cell? ⟨b, 0, none⟩ = some v0 ∧
    ((((w.setCell ⟨b, 0, none⟩ v0).setCell ⟨b, 1, none⟩ v1).setCell ⟨b, 2, none⟩ v2).setCell ⟨b, 3, none⟩ v3).cell? ⟨b, 1, none⟩ = some v1 ∧
    ((((w.setCell ⟨b, 0, none⟩ v0).setCell ⟨b, 1, none⟩ v1).setCell ⟨b, 2, none⟩ v2).setCell ⟨b, 3, none⟩ v3).cell? ⟨b, 2, none⟩ = some v2 ∧
    ((((w.setCell ⟨b, 0, none⟩ v0).setCell ⟨b, 1, none⟩ v1).setCell ⟨b, 2, none⟩ v2).setCell ⟨b, 3, none⟩ v3).cell? ⟨b, 3, none⟩ = some v3 := by
  refine ⟨?_, ?_, ?_, ?_⟩
  · rw [World.cell?_setCell_other _ _ _ _ (by simp), World.cell?_setCell_other _ _ _ _ (by simp), World.cell?_setCell_other _ _ _ _ (by simp)]
    exact World.cell?_setCell_same _ _ _ c0
  · rw [World.cell?_setCell_other _ _ _ _ (by simp), World.cell?_setCell_other _ _ _ _ (by simp)]
    exact World.cell?_setCell_same _ _ _ (by rw [World.cell?_setCell_other _ _ _ _ (by simp)]; exact c1)
  · rw [World.cell?_setCell_other _ _ _ _ (by simp)]
    exact World.cell?_setCell_same _ _ _ (by rw [World.cell?_setCell_other _ _ _ _ (by simp), World.cell?_setCell_other _ _ _ _ (by simp)]; exact c2)
  · exact World.cell?_setCell_same _ _ _ (by rw [World.cell?_setCell_other _ _ _ _ (by simp), World.cell?_setCell_other _ _ _ _ (by simp), World.cell?_setCell_other _ _ _ _ (by simp)]; exact c3)
theorem four_other {w : World} {b b' i : Nat} (v0 v1 v2 v3 : Value) (h : b' ≠ b) : ((((w.setCell ⟨b, 0, none⟩ v0).setCell ⟨b, 1, none⟩ v1).setCell ⟨b, 2, none⟩ v2).setCell ⟨b, 3, none⟩ v3).cell? ⟨b', i, none⟩ = w.cell? ⟨b', i, none⟩ := by
  rw [World.cell?_setCell_other _ _ _ _ (fun e => h (by cases e; rfl)), World.cell?_setCell_other _ _ _ _ (fun e => h (by cases e; rfl)), World.cell?_setCell_other _ _ _ _ (fun e => h (by cases e; rfl)), World.cell?_setCell_other _ _ _ _ (fun e => h (by cases e; rfl))]
theorem four_frozen {w : World} {b : Nat} {x : Addr} (v0 v1 v2 v3 : Value) : ((((w.setCell ⟨b, 0, none⟩ v0).setCell ⟨b, 1, none⟩ v1).setCell ⟨b, 2, none⟩ v2).setCell ⟨b, 3, none⟩ v3).frozen? x = w.frozen? x := by
  rw [World.frozen?_setCell, World.frozen?_setCell, World.frozen?_setCell, World.frozen?_setCell]
theorem four_below {w0 w : World} {b n : Nat} (v0 v1 v2 v3 : Value) (h : Below n w0 w) (hb : n ≤ b) : Below n w0 ((((w.setCell ⟨b, 0, none⟩ v0).setCell ⟨b, 1, none⟩ v1).setCell ⟨b, 2, none⟩ v2).setCell ⟨b, 3, none⟩ v3) :=
  (((h.setCell hb _).setCell hb _).setCell hb _).setCell hb _
theorem BoxC.set {w : World} {b : Nat} {r : Nat × Nat} (h : BoxC w b r) (x y : Nat) : BoxC ((((w.setCell ⟨b, 0, none⟩ (.int .i64 (x : Int))).setCell ⟨b, 1, none⟩ (.int .i64 (y : Int))).setCell ⟨b, 2, none⟩ (.int .u8 0)).setCell ⟨b, 3, none⟩ (.bool false)) b (x, y) := by
  obtain ⟨h0, h1, h2, h3⟩ := four_cells (.int .i64 (x : Int)) (.int .i64 (y : Int)) (.int .u8 0) (.bool false) h.c0 h.c1 h.c2 h.c3
  exact ⟨h0, h1, h2, h3, fun i => by rw [four_frozen]; exact h.fz i⟩
theorem BoxC.beside {w : World} {b b' : Nat} {r : Nat × Nat} (v0 v1 v2 v3 : Value) (h : BoxC w b r) (hne : b ≠ b') : BoxC ((((w.setCell ⟨b', 0, none⟩ v0).setCell ⟨b', 1, none⟩ v1).setCell ⟨b', 2, none⟩ v2).setCell ⟨b', 3, none⟩ v3) b r := by
  refine ⟨?_, ?_, ?_, ?_, fun i => by rw [four_frozen]; exact h.fz i⟩
  · rw [four_other _ _ _ _ hne]; exact h.c0
  · rw [four_other _ _ _ _ hne]; exact h.c1
  · rw [four_other _ _ _ _ hne]; exact h.c2
  · rw [four_other _ _ _ _ hne]; exact h.c3
theorem BoxC.drewN {w : World} {b : Nat} {r : Nat × Nat} (h : BoxC w b r) : ∀ m, BoxC (w.drewN m) b r
  | 0 => h
  | m + 1 => ⟨(h.drewN m).c0, (h.drewN m).c1, (h.drewN m).c2, (h.drewN m).c3, (h.drewN m).fz⟩
theorem BoxC.made (w : World) (t : TypeId) : BoxC (w.alloc (.cells #[.int .i64 0, .int .i64 0, .int .u8 0, .bool false] t)) w.heap.size (0, 0) :=
  ⟨by simp, by simp, by simp, by simp, fun i => World.frozen?_alloc_new w _ t i⟩
theorem BoxC.later {w w' : World} {b : Nat} {r : Nat × Nat} (h : BoxC w b r) (hb : Below w.heap.size w w') : BoxC w' b r := by
  have hl : b < w.heap.size := cell_lt h.c0
  refine ⟨?_, ?_, ?_, ?_, fun i => by rw [hb.frozen (p := ⟨b, i, none⟩) hl]; exact h.fz i⟩
  · rw [hb.cell (p := ⟨b, 0, none⟩) hl]; exact h.c0
  · rw [hb.cell (p := ⟨b, 1, none⟩) hl]; exact h.c1
  · rw [hb.cell (p := ⟨b, 2, none⟩) hl]; exact h.c2
  · rw [hb.cell (p := ⟨b, 3, none⟩) hl]; exact h.c3

end Go.Proofs.YtkglaiigoogapaaGreatDoor

/- Rows that a call itself makes: they last, and grow. -/
namespace Go.Proofs.YtkglaiigoogapaaGreatDoor
open Go.RowKit

theorem lzrow_later {w w' : World} {base : Nat} {t : TypeId} {sz : Nat} {v : Value} {n : Nat} {xs : List Value} (h : w.ownsRow base t sz v n xs) (hb : Below w.heap.size w w') : w'.ownsRow base t sz v n xs := by
  refine ⟨h.1, ?_⟩
  rcases h.2 with hn | ⟨g, cap, cur, hv, hg, hh, rest⟩
  · exact Or.inl hn
  · exact Or.inr ⟨g, cap, cur, hv, hg, (hb.block g (heap_lt hh)).trans hh, rest⟩
theorem lzrow_set {w : World} {base : Nat} {t : TypeId} {sz : Nat} {v : Value} {n : Nat} {xs : List Value} (h : w.ownsRow base t sz v n xs) (a : Addr) (x : Value) (hne : v.ownBlock ≠ some a.block) : (w.setCell a x).ownsRow base t sz v n xs := by
  refine ⟨h.1, ?_⟩
  rcases h.2 with hn | ⟨g, cap, cur, hv, hg, hh, rest⟩
  · exact Or.inl hn
  · refine Or.inr ⟨g, cap, cur, hv, hg, ?_, rest⟩
    rw [Below.heap_setCell _ _ _ _ (fun e => hne (by rw [hv, ← e]; rfl))]
    exact hh
theorem lz_push {B : Nat} {w0 wr w3 : World} {v : Value} {e : TypeId} {size n : Nat} {xs : List Value} (hB : Below B w0 wr) (hle : B ≤ wr.heap.size) (hR : wr.ownsRow B e size v n xs) (hg : wr.grownBy w3 v.ownBlock) : Below B w0 w3 :=
  hB.trans ((Below.refl _ _).grown hg hle (fun k e => (hR.lt k e).1))
theorem lzrow_form {w : World} {base : Nat} {t : TypeId} {sz : Nat} {v : Value} {n : Nat} {xs : List Value} (h : w.ownsRow base t sz v n xs) : ∃ ad cap, v = .slice ad n cap := by
  rcases h.2 with ⟨rfl, rfl⟩ | ⟨g, cap, cur, rfl, _⟩
  · exact ⟨_, _, rfl⟩
  · exact ⟨_, _, rfl⟩
theorem four_new (w : World) (x0 x1 x2 x3 : Value) (t : TypeId) (j : Nat) (u : Value) (h : [x0, x1, x2, x3][j]? = some u) : (w.alloc (.cells #[x0, x1, x2, x3] t)).cell? ((⟨w.heap.size, 0, none⟩ : Addr).add j) = some u := by
  rw [add_plain, World.cell?_alloc_at _ _ _ _ rfl, Nat.zero_add]
  rcases j with _ | _ | _ | _ | j
  · simpa using h
  · simpa using h
  · simpa using h
  · simpa using h
  · simp at h

/-- The cells of copies. -/
def cpyC (c : Cpy) : List Value := [.int .i64 (c.back : Int), .int .i64 (c.len : Int), .int .u8 (c.next : Int), .bool c.last]
def cpysC : List Cpy → List Value
  | [] => []
  | c :: r => cpyC c ++ cpysC r
theorem cpysC_append : ∀ a b, cpysC (a ++ b) = cpysC a ++ cpysC b
  | [], b => rfl
  | c :: a, b => by simp [cpysC, cpysC_append a b]
theorem cpysC_snoc (a : List Cpy) (c : Cpy) : cpysC (a ++ [c]) = cpysC a ++ [.int .i64 (c.back : Int), .int .i64 (c.len : Int), .int .u8 (c.next : Int), .bool c.last] := by
  rw [cpysC_append]; rfl
theorem cpysC_length : ∀ l, (cpysC l).length = l.length * 4
  | [] => rfl
  | c :: r => by simp [cpysC, cpyC, cpysC_length r]; omega
/-- Copies in memory, of whichever of the two types. -/
def CpyAt (w : World) (v : Value) (l : List Cpy) : Prop := ∃ ad cap, v = .slice ad l.length cap ∧ ∀ i c, l[i]? = some c → ∃ b o, ad = some ⟨b, o, none⟩ ∧ w.cell? ⟨b, o + i * 4, none⟩ = some (.int .i64 (c.back : Int)) ∧ w.cell? ⟨b, o + i * 4 + 1, none⟩ = some (.int .i64 (c.len : Int)) ∧ w.cell? ⟨b, o + i * 4 + 2, none⟩ = some (.int .u8 (c.next : Int)) ∧ w.cell? ⟨b, o + i * 4 + 3, none⟩ = some (.bool c.last)
theorem cpysC_at : ∀ (l : List Cpy) (i : Nat) (c : Cpy), l[i]? = some c → (cpysC l)[i * 4]? = some (.int .i64 (c.back : Int)) ∧ (cpysC l)[i * 4 + 1]? = some (.int .i64 (c.len : Int)) ∧ (cpysC l)[i * 4 + 2]? = some (.int .u8 (c.next : Int)) ∧ (cpysC l)[i * 4 + 3]? = some (.bool c.last)
  | [], i, c, h => by simp at h
  | d :: r, 0, c, h => by
    obtain rfl : d = c := by simpa using h
    exact ⟨rfl, rfl, rfl, rfl⟩
  | d :: r, i + 1, c, h => by
    obtain ⟨h0, h1, h2, h3⟩ := cpysC_at r i c (by simpa using h)
    have e : ∀ k, (cpysC (d :: r))[(i + 1) * 4 + k]? = (cpysC r)[i * 4 + k]? := fun k => by
      show (cpyC d ++ cpysC r)[(i + 1) * 4 + k]? = _
      rw [List.getElem?_append_right (by show 4 ≤ _; omega)]
      congr 1
      show (i + 1) * 4 + k - 4 = _
      omega
    exact ⟨by have := e 0; simp only [Nat.add_zero] at this; rw [this]; exact h0, by rw [e 1]; exact h1, by rw [e 2]; exact h2, by rw [e 3]; exact h3⟩
theorem cpyAt_row {w : World} {base : Nat} {t : TypeId} {v : Value} {l : List Cpy} (h : w.ownsRow base t 4 v l.length (cpysC l)) : CpyAt w v l := by
  rcases h.2 with ⟨rfl, hn⟩ | ⟨g, cap, cur, rfl, _⟩
  · obtain rfl : l = [] := List.eq_nil_of_length_eq_zero hn
    exact ⟨_, _, rfl, fun i c hc => by simp at hc⟩
  · refine ⟨_, _, rfl, fun i c hc => ⟨g, 0, rfl, ?_⟩⟩
    have hi : i < l.length := by
      rcases Nat.lt_or_ge i l.length with h' | h'
      · exact h'
      · rw [List.getElem?_eq_none h'] at hc; cases hc
    obtain ⟨h0, h1, h2, h3⟩ := cpysC_at l i c hc
    have e : ∀ j, j < l.length * 4 → w.cell? ⟨g, j, none⟩ = (cpysC l)[j]? := fun j hj => h.cellAt j hj
    rw [Nat.zero_add]
    refine ⟨?_, ?_, ?_, ?_⟩
    · rw [e _ (by omega)]; exact h0
    · rw [e _ (by omega)]; exact h1
    · rw [e _ (by omega)]; exact h2
    · rw [e _ (by omega)]; exact h3
theorem CpyAt.later {w w' : World} {v : Value} {l : List Cpy} (h : CpyAt w v l) (hb : Below w.heap.size w w') : CpyAt w' v l := by
  obtain ⟨ad, cap, hv, hc⟩ := h
  refine ⟨ad, cap, hv, fun i c hi => ?_⟩
  obtain ⟨b, o, ha, h0, h1, h2, h3⟩ := hc i c hi
  refine ⟨b, o, ha, ?_, ?_, ?_, ?_⟩
  · rw [hb.cell (cell_lt h0)]; exact h0
  · rw [hb.cell (cell_lt h1)]; exact h1
  · rw [hb.cell (cell_lt h2)]; exact h2
  · rw [hb.cell (cell_lt h3)]; exact h3
end Go.Proofs.YtkglaiigoogapaaGreatDoor

/- The program's Parse: phrases in a map. -/
namespace Go.Proofs.YtkglaiigoogapaaGreatDoor
open Go.RowKit Go.Maps

theorem Tryz.zeroPz (w : World) : (zeroValue 3).run Tryz.prog w = .ok (.int .i64 0) w := by kernel_rfl
theorem Tryz.widePhr : (match Tryz.prog.underlying 52 with | some (.array _ _) | some (.struct _) => true | _ => false) = true := by rw [Tryz.underlying52]
theorem Tryz.rowPhr : (52 : TypeId) < Tryz.prog.types.size := of_decide_eq_true (by kernel_rfl)
theorem Tryz.cellsPhr : Tryz.prog.cellsOf 52 = 3 := by kernel_rfl
theorem Tryz.laidPz : laidOutB Tryz.prog = true := by kernel_rfl
set_option maxRecDepth 100000 in
theorem Tryz.lawPhr : Keyed Tryz.prog 52 := Keyed.of_law (deep_law_laid Tryz.laidPz (m := 2) (by omega) Tryz.rowPhr (by kernel_rfl) Tryz.widePhr)
theorem Tryz.infoPhr : (Tryz.prog.info? 52).map (fun i => (i.zero, i.size, i.bytes)) = some (some (.agg #[.int .i64 0, .int .u8 0, .bool false]), 3, 16) := by kernel_rfl

/-- A phrase as a key. -/
def phrV (o : Nat) (c : UInt8) : Value := .agg #[.int .i64 (o : Int), .int .u8 (c.toNat : Int), .bool false]
def phrK (o : Nat) (c : UInt8) : Lit := .string (keyBytes [.int .i64 (o : Int), .int .u8 (c.toNat : Int), .bool false])
theorem wf_i64 (o : Nat) (h : o ≤ 1000000) : (Lit.int .i64 (o : Int)).wf = true := by
  have h1 : IntKind.i64.min = -9223372036854775808 := by decide
  have h2 : IntKind.i64.max = 9223372036854775807 := by decide
  simp only [Lit.wf, h1, h2, Bool.and_eq_true, decide_eq_true_eq]
  omega
theorem wf_u8 (c : UInt8) : (Lit.int .u8 (c.toNat : Int)).wf = true := by
  have h0 := c.toNat_lt
  have h1 : IntKind.u8.min = 0 := by decide
  have h2 : IntKind.u8.max = 255 := by decide
  simp only [Lit.wf, h1, h2, Bool.and_eq_true, decide_eq_true_eq]
  omega
theorem phrK_is (o : Nat) (c : UInt8) (h : o ≤ 1000000) : keyOf Tryz.prog 52 (phrV o c) = some (phrK o c) := by
  have hk : Tryz.prog.keyType 52 = true := by kernel_rfl
  have hf : (phrV o c).formed Tryz.prog 52 = true := by simp [phrV, Value.formed, Tryz.underlying52, Tryz.cellsPhr]
  have hs : Tryz.prog.keyLits (Tryz.prog.types.size + 1) 52 (phrV o c).cells.toList = some [.int .i64 (o : Int), .int .u8 (c.toNat : Int), .bool false] := by
    obtain ⟨m, hm⟩ : ∃ m, Tryz.prog.types.size = m + 1 := ⟨208 - 1, by kernel_rfl⟩
    have e0 : Tryz.prog.cellsOf 3 = 1 := by kernel_rfl
    have e1 : Tryz.prog.cellsOf 5 = 1 := by kernel_rfl
    have e2 : Tryz.prog.cellsOf 4 = 1 := by kernel_rfl
    rw [hm]
    simp [Program.keyLits, phrV, Value.cells, Tryz.underlying52, Tryz.underlying3, Tryz.underlying5, Tryz.underlying4, Tryz.cellsPhr, e0, e1, e2, wf_i64 o h, wf_u8 c]
  unfold keyOf
  rw [Tryz.underlying52]
  show (if _ then _ else _) = _
  rw [if_pos (by rw [hk, hf]; rfl), hs]
  rfl
theorem phrK_inj {o o' : Nat} {c c' : UInt8} (h : o ≤ 1000000) (h' : o' ≤ 1000000) (e : phrK o c = phrK o' c') : o = o' ∧ c = c' := by
  have h1 := phrK_is o c h
  have h2 := phrK_is o' c' h'
  rw [← e] at h2
  have := Tryz.lawPhr.inj h1 h2
  simp only [phrV, Value.agg.injEq, Array.mk.injEq, List.cons.injEq, Value.int.injEq, and_true, true_and] at this
  exact ⟨by omega, UInt8.toNat_inj.1 (by omega)⟩

/-- The cells of phrases. -/
def phrC (p : Phr) : List Value := [.int .i64 (p.of : Int), .int .u8 (p.next : Int), .bool p.last]
def phrsC : List Phr → List Value
  | [] => []
  | c :: r => phrC c ++ phrsC r
theorem phrsC_append : ∀ a b, phrsC (a ++ b) = phrsC a ++ phrsC b
  | [], b => rfl
  | c :: a, b => by simp [phrsC, phrsC_append a b]
theorem phrsC_snoc (a : List Phr) (c : Phr) : phrsC (a ++ [c]) = phrsC a ++ [.int .i64 (c.of : Int), .int .u8 (c.next : Int), .bool c.last] := by
  rw [phrsC_append]; rfl
theorem three_new (w : World) (x0 x1 x2 : Value) (t : TypeId) (j : Nat) (u : Value) (h : [x0, x1, x2][j]? = some u) : (w.alloc (.cells #[x0, x1, x2] t)).cell? ((⟨w.heap.size, 0, none⟩ : Addr).add j) = some u := by
  rw [add_plain, World.cell?_alloc_at _ _ _ _ rfl, Nat.zero_add]
  rcases j with _ | _ | _ | j
  · simpa using h
  · simpa using h
  · simpa using h
  · simp at h
theorem cell_grown {w w' : World} {row : Option Nat} {B o : Nat} {v : Value} (hg : w.grownBy w' row) (hc : w.cell? ⟨B, o, none⟩ = some v) (hne : some B ≠ row) : w'.cell? ⟨B, o, none⟩ = some v := by
  have hlt := cell_lt hc
  have := World.cell?_of_block (a := ⟨B, o, none⟩) (w := w) (hg.block B hlt hne)
  rw [this]; exact hc
theorem atPz {D : DataW Unit} {n : Nat} {kl : Lit} {x : Int} (h : D.atKey kl (.lit (.int .i64 0)) = .lit (.int .i64 (n : Int))) (hat : D.atKey kl (.lit (.int .i64 0)) = .lit (.int .i64 x)) : x = (n : Int) := by
  rw [h] at hat
  simpa using hat.symm

/-- What Parse finds in memory. -/
structure InPz (w wr : World) (sv : Value) (D : List (Nat × UInt8)) (M : DataW Unit) : Prop where
  row : wr.ownsRow (w.heap.size + 1) 52 3 sv D.length (phrsC (phrs D))
  own : wr.ownsMap Tryz.prog 52 (plainElem (H := Unit) Tryz.prog 3) w.heap.size D.length M
  at' : ∀ o c, o ≤ 1000000 → M.atKey (phrK o c) (.lit (.int .i64 0)) = .lit (.int .i64 (numOf D (o, c) : Nat))
  isM : IsMap M
  below : Below w.heap.size w wr

theorem InPz.push {w w3 w4 : World} {sv' : Value} {D : List (Nat × UInt8)} {M : DataW Unit} {o : Nat} {c : UInt8} (hrow : w3.ownsRow (w.heap.size + 1) 52 3 sv' (D.length + 1) (phrsC (phrs D) ++ [.int .i64 (o : Int), .int .u8 (c.toNat : Int), .bool false])) (hb3 : Below w.heap.size w w3) (hM : IsMap M)
    (hat : ∀ o c, o ≤ 1000000 → M.atKey (phrK o c) (.lit (.int .i64 0)) = .lit (.int .i64 (numOf D (o, c) : Nat))) (ho4 : w4.ownsMap Tryz.prog 52 (plainElem (H := Unit) Tryz.prog 3) w.heap.size (D.length + 1) (M.put (phrK o c) (.lit (.int .i64 ((D.length : Int) + 1)))))
    (hg4 : w3.grownBy w4 (some w.heap.size)) (hn : numOf D (o, c) = 0) (ho : o ≤ 1000000) : InPz w w4 sv' (D ++ [(o, c)]) (M.put (phrK o c) (.lit (.int .i64 ((D.length : Int) + 1)))) := by
  have hne : sv'.ownBlock = none ∨ sv'.ownBlock ≠ some w.heap.size := Or.inr fun e => by have := (hrow.lt _ e).1; omega
  refine ⟨?_, by rw [List.length_append]; exact ho4, fun o' c' h' => ?_, hM.put _ _, hb3.trans ((Below.refl _ _).grown hg4 hb3.size (fun k e => by simp at e; omega))⟩
  · rw [phrs_snoc, phrsC_snoc, List.length_append]
    exact hrow.kept hg4 hne
  · rw [numOf_snoc]
    by_cases he : (o, c) = (o', c')
    · simp only [Prod.mk.injEq] at he
      obtain ⟨rfl, rfl⟩ := he
      rw [atKey_put_same hM (show WideAt.IsKeyLit (phrK o c) from trivial), hn]
      simp
    · rw [atKey_put_other (fun e => he (by obtain ⟨h1, h2⟩ := phrK_inj h' ho e; rw [h1, h2])), hat o' c' h', if_neg he]
      by_cases h0 : numOf D (o', c') = 0
      · simp [h0]
      · simp [h0]

set_option maxRecDepth 100000 in
set_option maxHeartbeats 2000000 in
theorem Parse_ok (T : ByteArray) (w : World) (hs : T.size ≤ 4000) :
    Calls Tryz.prog 17 #[.string T] w fun e w' => ∃ v, e = .returned (.tuple #[v, .nilIface]) ∧ w'.ownsRow (w.heap.size + 1) 52 3 v (pzL T.data.toList).length (phrsC (pzL T.data.toList)) ∧ Below w.heap.size w w' := by
  obtain ⟨i, hi, hi2⟩ := Option.map_eq_some_iff.1 Tryz.infoPhr
  obtain ⟨hz, hsz, hby⟩ : i.zero = some (.agg #[.int .i64 0, .int .u8 0, .bool false]) ∧ i.size = 3 ∧ i.bytes = 16 := by simpa using hi2
  have HINF := Hid.mk' (And.intro hi (And.intro hz (And.intro hsz hby)))
  clear hi hi2 hz hsz hby
  have HLL : Hid (T.data.toList.length = T.size) := size_lst T
  have hsI : ¬ (4000 : Int) < (T.size : Int) := by omega
  have hmm := @run_makeMap Tryz.prog
  go_enter Tryz.func17, Tryz.ntmps17
  go_wp2_with fail
  go_loopw [5, 6, 16] (fun s x t wr => ∃ (k o : Nat) (D : List (Nat × UInt8)) (M : DataW Unit), t = .int .i64 (k : Int) ∧ x = .int .i64 (o : Int) ∧ k ≤ T.size ∧ D.length ≤ k ∧ o ≤ D.length ∧ Hid (InPz w wr s D M) ∧ Hid (pz ([], 0) (T.data.toList.take k) = (D, o))) (fun _ _ t _ => T.size - (intOf t).toNat)
  case atStart => exact ⟨0, 0, [], .map [], rfl, rfl, Nat.zero_le _, Nat.le_refl _, Nat.le_refl _, ⟨World.ownsRow_nil _ _ _ _, World.ownsMap_made _ _ _ _, fun o c _ => rfl, isMap_empty, (Below.refl _ _).alloc (Nat.le_refl _) _⟩, by show _ = _; simp [pz]⟩
  case round =>
    obtain ⟨k, o, D, M, rfl, rfl, hk, hD, ho, HI, HP⟩ := hrel
    rcases Nat.lt_or_ge k T.size with h1 | h1
    · have hkI : (k : Int) < (T.size : Int) := by omega
      have hle := HI.out.below.size
      obtain ⟨c, hc⟩ : ∃ c, c = T[k]'h1 := ⟨_, rfl⟩
      have HTK : Hid (pz ([], 0) (T.data.toList.take (k + 1)) = pzS (D, o) c) := by
        show _ = _
        rw [List.take_succ_eq_append_getElem (by rw [HLL.out]; exact h1), pz_snoc, HP.out, byte_list T k h1 (by rw [HLL.out]; exact h1), hc]
      have hcI : ((T[k]'h1).toNat : Int) = (c.toNat : Int) := by rw [hc]
      clear hc
      have HKEY := Hid.mk' (phrK_is o c (by omega))
      have HAT := Hid.mk' (HI.out.at' o c (by omega))
      have hnl := numOf_le (o, c) D
      have HOW := Hid.mk' (HI.out.own.alloc (.cells #[.int .i64 (o : Int), .int .u8 (c.toNat : Int), .bool false] 52))
      have hml : Hid (w.heap.size < wr.heap.size) := HI.out.own.lt
      by_cases hn : numOf D (o, c) = 0
      · have HTK := Hid.mk' (HTK.out.trans (pzS_new hn))
        rw [hn] at HAT
        have HRR := Hid.mk' ((HI.out.row.alloc (.cells #[.int .i64 (o : Int), .int .u8 (c.toNat : Int), .bool false] 52)).alloc (.cells #[.int .i64 (o : Int), .int .u8 (c.toNat : Int), .bool false] 52))
        have HNE : Hid (some wr.heap.size ≠ u5.ownBlock) := fun e => by have := (HI.out.row.lt _ e.symm).2; omega
        have HNM : Hid (some w.heap.size ≠ u5.ownBlock) := fun e => by have := (HI.out.row.lt _ e.symm).1; omega
        have HC3 : Hid (((wr.alloc (.cells #[.int .i64 (o : Int), .int .u8 (c.toNat : Int), .bool false] 52)).alloc (.cells #[.int .i64 (o : Int), .int .u8 (c.toNat : Int), .bool false] 52)).cell? ⟨wr.heap.size, 0, none⟩ = some (.int .i64 (o : Int)) ∧ ((wr.alloc (.cells #[.int .i64 (o : Int), .int .u8 (c.toNat : Int), .bool false] 52)).alloc (.cells #[.int .i64 (o : Int), .int .u8 (c.toNat : Int), .bool false] 52)).cell? ⟨wr.heap.size, 1, none⟩ = some (.int .u8 (c.toNat : Int)) ∧ ((wr.alloc (.cells #[.int .i64 (o : Int), .int .u8 (c.toNat : Int), .bool false] 52)).alloc (.cells #[.int .i64 (o : Int), .int .u8 (c.toNat : Int), .bool false] 52)).cell? ⟨wr.heap.size, 2, none⟩ = some (.bool false)) := by
          refine ⟨?_, ?_, ?_⟩ <;> (rw [World.cell?_alloc_lt _ _ _ (by simp), World.cell?_alloc_at _ _ _ _ rfl]; rfl)
        have HN0 : Hid (∀ j u, [Value.int .i64 (o : Int), .int .u8 (c.toNat : Int), .bool false][j]? = some u → ((wr.alloc (.cells #[.int .i64 (o : Int), .int .u8 (c.toNat : Int), .bool false] 52)).alloc (.cells #[.int .i64 (o : Int), .int .u8 (c.toNat : Int), .bool false] 52)).cell? ((⟨wr.heap.size + 1, 0, none⟩ : Addr).add j) = some u) := fun j u hu => by
          have := three_new (wr.alloc (.cells #[.int .i64 (o : Int), .int .u8 (c.toNat : Int), .bool false] 52)) (.int .i64 (o : Int)) (.int .u8 (c.toNat : Int)) (.bool false) 52 j u hu
          simpa using this
        have HBB : Hid (Below w.heap.size w ((wr.alloc (.cells #[.int .i64 (o : Int), .int .u8 (c.toNat : Int), .bool false] 52)).alloc (.cells #[.int .i64 (o : Int), .int .u8 (c.toNat : Int), .bool false] 52))) := (HI.out.below.alloc hle _).alloc (by simp; omega) _
        have HWF : Hid ((Lit.int .i64 ((D.length : Int) + 1)).wf = true) := by show _ = _; have := wf_i64 (D.length + 1) (by omega); simpa using this
        go_wp2_with (first
          | (at_lookup; go_must (refine wpList_lookup_own_int _ rfl _ _ 77 rfl 52 3 .i64 Tryz.lawPhr Tryz.underlying77 Tryz.underlying3 (Tryz.zeroPz _) w.heap.size _ _ rfl HOW.out _ _ rfl HKEY.out ?_; intro x hat hwc; have hcc := atPz HAT.out hat; clear hat hwc; subst hcc))
          | (at_mapUpdate; go_must (refine wpList_mapUpdate_own _ rfl _ _ _ 77 rfl 52 3 Tryz.lawPhr Tryz.underlying77 _ w.heap.size _ _ rfl HM3.out (by unfold maxLen; omega) _ _ _ rfl rfl HKEY.out _ [] (plainElem_int Tryz.underlying3 HWF.out) ?_; intro w4 hown4 hgrow4; have HO4 := Hid.mk' hown4; have HG4 := Hid.mk' hgrow4; clear hown4 hgrow4))
          | (at_builtin; go_must (refine wpList_append_lies _ rfl _ _ _ rfl (w.heap.size + 1) 52 i _ 3 16 Tryz.underlying48 HINF.out.1 HINF.out.2.1 HINF.out.2.2.1 HINF.out.2.2.2 rfl (by omega) u5 D.length (phrsC (phrs D)) rfl HRR.out ⟨wr.heap.size + 1, 0, none⟩ 1 1 [.int .i64 (o : Int), .int .u8 (c.toNat : Int), .bool false] rfl rfl HN0.out (by simp [Value.oneCell']) (by omega) (by unfold maxLen; omega) (by omega) (by have := hml.out; simp; omega) _ rfl ?_; intro g' cap' w3 hown3 hgrow3 hat3 hlt3; have b0 := cell_grown hgrow3 HC3.out.1 HNE.out; have b1 := cell_grown hgrow3 HC3.out.2.1 HNE.out; have b2 := cell_grown hgrow3 HC3.out.2.2 HNE.out; have HM3 := Hid.mk' ((HOW.out.alloc (.cells #[.int .i64 (o : Int), .int .u8 (c.toNat : Int), .bool false] 52)).kept hgrow3 HNM.out); have HW3 := Hid.mk' hown3; have HB3 := Hid.mk' (HBB.out.trans ((Below.refl _ _).grown hgrow3 (by simp; omega) (fun k e => by have := (HRR.out.lt k e).1; omega))); clear hown3 hgrow3 hat3)))
        exact ⟨⟨k + 1, 0, D ++ [(o, c)], _, by go_num, rfl, h1, by simp; omega, Nat.zero_le _, InPz.push HW3.out HB3.out HI.out.isM HI.out.at' HO4.out HG4.out hn (by omega), HTK⟩, by simp [intOf]; omega⟩
      · have HTK := Hid.mk' (HTK.out.trans (pzS_old hn))
        generalize hnn : numOf D (o, c) = n at *
        have hnb : ((n : Int) == 0) = false := by rw [beq_eq_false_iff_ne]; omega
        clear hnn
        go_wp2_with (at_lookup; go_must (refine wpList_lookup_own_int _ rfl _ _ 77 rfl 52 3 .i64 Tryz.lawPhr Tryz.underlying77 Tryz.underlying3 (Tryz.zeroPz _) w.heap.size _ _ rfl HOW.out _ _ rfl HKEY.out ?_; intro x hat hwc; have hcc := atPz HAT.out hat; clear hat hwc; subst hcc))
        exact ⟨⟨k + 1, n, D, M, by go_num, rfl, h1, by omega, hnl, ⟨HI.out.row.alloc _, HOW.out, HI.out.at', HI.out.isM, HI.out.below.alloc hle _⟩, HTK⟩, by simp [intOf]; omega⟩
    · obtain rfl : k = T.size := by omega
      have hle := HI.out.below.size
      have hkI : ¬ (T.size : Int) < (T.size : Int) := by omega
      have HE : Hid (pzL T.data.toList = pzO (D, o)) := by
        show pzO _ = _
        have := HP.out
        rw [List.take_of_length_le (by rw [HLL.out]; exact Nat.le_refl _)] at this
        rw [this]
      by_cases h0 : o = 0
      · have HE2 : Hid (pzL T.data.toList = phrs D) := by show _ = _; rw [HE.out, pzO, if_pos h0]
        subst h0
        go_wp2_with fail
        go_ret2
        exact ⟨_, rfl, by rw [HE2.out, phrs_length]; exact HI.out.row, HI.out.below⟩
      · have HE2 : Hid (pzL T.data.toList = phrs D ++ [⟨o, 0, true⟩]) := by show _ = _; rw [HE.out, pzO, if_neg h0]
        have h0I : (0 : Int) < (o : Int) := by omega
        have HRR := Hid.mk' (HI.out.row.alloc (.cells #[.int .i64 (o : Int), .int .u8 0, .bool true] 52))
        have hml : Hid (w.heap.size < wr.heap.size) := HI.out.own.lt
        have HN0 : Hid (∀ j u, [Value.int .i64 (o : Int), .int .u8 0, .bool true][j]? = some u → (wr.alloc (.cells #[.int .i64 (o : Int), .int .u8 0, .bool true] 52)).cell? ((⟨wr.heap.size, 0, none⟩ : Addr).add j) = some u) := fun j u hu => three_new wr (.int .i64 (o : Int)) (.int .u8 0) (.bool true) 52 j u hu
        have HBB : Hid (Below w.heap.size w (wr.alloc (.cells #[.int .i64 (o : Int), .int .u8 0, .bool true] 52))) := HI.out.below.alloc hle _
        go_wp2_with (at_builtin; go_must (refine wpList_append_lies _ rfl _ _ _ rfl (w.heap.size + 1) 52 i _ 3 16 Tryz.underlying48 HINF.out.1 HINF.out.2.1 HINF.out.2.2.1 HINF.out.2.2.2 rfl (by omega) u5 D.length (phrsC (phrs D)) rfl HRR.out ⟨wr.heap.size, 0, none⟩ 1 1 [.int .i64 (o : Int), .int .u8 0, .bool true] rfl rfl HN0.out (by simp [Value.oneCell']) (by omega) (by unfold maxLen; omega) (by omega) (by have := hml.out; simp; omega) _ rfl ?_; intro g' cap' w3 hown3 hgrow3 hat3 hlt3; have HW3 := Hid.mk' hown3; have HB3 := Hid.mk' (HBB.out.trans ((Below.refl _ _).grown hgrow3 (by simp; omega) (fun k e => by have := (HRR.out.lt k e).1; omega))); clear hown3 hgrow3 hat3))
        go_ret2
        exact ⟨_, rfl, by rw [HE2.out, phrsC_snoc, List.length_append, phrs_length]; exact HW3.out, HB3.out⟩
end Go.Proofs.YtkglaiigoogapaaGreatDoor

/- The closed fact at the head of chapter 6's laws: the phrases of aab. -/
namespace Go.Proofs.YtkglaiigoogapaaGreatDoor
open Go.RowKit

theorem ab_phr : pzL [97, 97, 98] = [⟨0, 97, false⟩, ⟨1, 98, false⟩] := by rfl
set_option maxRecDepth 100000 in
set_option maxHeartbeats 1000000 in
theorem abab_any (w : World) : Calls Tryz.prog 5 #[] w fun e w' => e = .returned (.bool true) ∧ Below w.heap.size w w' := by
  have hP := Parse_ok ⟨#[97, 97, 98]⟩ w (by decide)
  have e : (ByteArray.mk #[97, 97, 98]).data.toList = [97, 97, 98] := rfl
  rw [e, ab_phr] at hP
  clear e
  go_enter Tryz.func5, Tryz.ntmps5
  go_wp2_with fail
  refine hP.mono ?_
  clear hP
  rintro e w1 ⟨v, rfl, hr, hb⟩
  obtain ⟨ad, cap, rfl, g, rfl⟩ : ∃ ad cap, v = .slice ad 2 cap ∧ ∃ g, ad = some ⟨g, 0, none⟩ := by
    rcases hr.2 with ⟨rfl, h0⟩ | ⟨g, cap, cur, rfl, _⟩
    · cases h0
    · exact ⟨_, _, rfl, g, rfl⟩
  have c : ∀ j, j < 6 → w1.cell? ⟨g, j, none⟩ = (phrsC [⟨0, 97, false⟩, ⟨1, 98, false⟩])[j]? := fun j hj => hr.cellAt j hj
  have c0 := c 0 (by decide)
  have c1 := c 1 (by decide)
  have c2 := c 2 (by decide)
  have c3 := c 3 (by decide)
  have c4 := c 4 (by decide)
  have c5 := c 5 (by decide)
  simp only [phrsC, phrC, List.cons_append, List.nil_append, List.getElem?_cons_zero, List.getElem?_cons_succ] at c0 c1 c2 c3 c4 c5
  have HB := Hid.mk' hb
  clear hr hb c
  go_wp2_with fail
  go_ret
  exact ⟨rfl, HB.out⟩
end Go.Proofs.YtkglaiigoogapaaGreatDoor

/- coded of an error by its number. -/
namespace Go.Proofs.YtkglaiigoogapaaGreatDoor
open Go.RowKit

theorem coded_errV (a : Nat → Addr) (c : Nat) (hc : c ≤ 8) (w : World) (h : Errs w a) :
    Calls Tryz.prog 10 #[errV a c, .int .i64 (c : Int)] w fun e w' => e = .returned (.bool true) ∧ Below w.heap.size w w' := by
  by_cases h0 : c = 0
  · subst h0
    rw [errV_zero]
    refine (coded_nil 0 w).mono ?_
    rintro e w' ⟨rfl, rfl⟩
    exact ⟨rfl, Below.refl _ _⟩
  · rw [errV_pos a h0]
    have h1 := coded_err a (c - 1) (by omega) (c : Int) w h
    have e : decide ((c : Int) = ((c - 1 : Nat) : Int) + 1) = true := decide_eq_true (by omega)
    rw [e] at h1
    exact h1
end Go.Proofs.YtkglaiigoogapaaGreatDoor

/- The document's Decimal. -/
namespace Go.Proofs.YtkglaiigoogapaaGreatDoor
open Go.RowKit

theorem byte_string (W : World) (b x : Nat) (h : W.cell? ⟨b, 0, none⟩ = some (.int .u8 (x : Int))) : (convert 72 9 (.slice (some ⟨b, 0, none⟩) 1 1)).run Tryz.prog W = .ok (.string ⟨#[UInt8.ofNat x]⟩) W :=
  run_convert_bytes_arg W 72 5 Tryz.underlying72 Tryz.underlying5 b 0 1 1 [(x : Int)] rfl (fun i hi => by
    obtain rfl : i = 0 := by omega
    exact h) 9 Tryz.underlying9

set_option maxRecDepth 10000 in
set_option maxHeartbeats 1000000 in
theorem Decimal_small (n : Nat) (w : World) (hn : n < 10) : Calls Tryz.prog 12 #[.int .i64 n] w fun e w' => e = .returned (.string ⟨(Lib.decDigits n).toArray⟩) ∧ Below w.heap.size w w' := by
  have hI : (n : Int) < 10 := by omega
  have hcv := byte_string (w.alloc (.cells #[.int .u8 ((48 + n : Nat) : Int)] 5)) w.heap.size (48 + n) (by simp)
  rw [show ((48 + n : Nat) : Int) = 48 + (n : Int) by simp] at hcv
  have HD : Hid ((Lib.decDigits n).toArray = #[UInt8.ofNat (48 + n)]) := by
    show _ = _
    rw [Lib.decDigits, dif_pos hn]
  generalize UInt8.ofNat (48 + n) = u at hcv HD
  have HB : Hid (Below w.heap.size w (w.alloc (.cells #[.int .u8 (48 + (n : Int))] 5))) := (Below.refl _ _).alloc (Nat.le_refl _) _
  go_enter Tryz.func12, Tryz.ntmps12
  go_wp2_with fail
  go_ret
  exact ⟨by rw [HD.out]; rfl, HB.out⟩
end Go.Proofs.YtkglaiigoogapaaGreatDoor

/- The law LempelSums. -/
namespace Go.Proofs.YtkglaiigoogapaaGreatDoor
open Go.RowKit

theorem big62 : 4611686018427387904 < 1000000 ^ 700 := Nat.lt_of_le_of_lt (show 4611686018427387904 ≤ 2 ^ (63 * 1) by decide) (pow63 (by decide))
theorem bitB_of {t : ByteArray} (hb : BitsA t) : bitB t = true := by
  unfold bitB
  rw [List.all_eq_true]
  intro c hc
  obtain ⟨i, hi, rfl⟩ := List.getElem_of_mem hc
  have h2 : i < t.size := by have h3 := hi; rw [Array.length_toList] at h3; exact h3
  rcases hb i h2 with h | h
  · have h4 : t.data.toList[i] = 48 := h
    rw [h4]; rfl
  · have h4 : t.data.toList[i] = 49 := h
    rw [h4]; rfl
theorem bits_zero {t : ByteArray} (h : t.size ≤ 24) (hb : BitsA t) : bitsE t = 0 := by
  unfold bitsE
  rw [if_neg (by omega), if_pos (bitB_of hb)]
theorem dig_bit (k i : Nat) : (⟨(Lib.decDigits (k / 2 ^ i % 2)).toArray⟩ : ByteArray) = if k / 2 ^ i % 2 = 0 then ⟨#[48]⟩ else ⟨#[49]⟩ := by
  rcases Nat.mod_two_eq_zero_or_one (k / 2 ^ i) with h | h
  · rw [h, if_pos rfl, show Lib.decDigits 0 = [48] by first | rfl | (unfold Lib.decDigits; rfl) | simp [Lib.decDigits] | decide +kernel]
  · rw [h, if_neg (by decide), show Lib.decDigits 1 = [49] by first | rfl | (unfold Lib.decDigits; rfl) | simp [Lib.decDigits] | decide +kernel]
theorem bit_mod (k j : Nat) : ((k : Int) / 2 ^ j).tmod 2 = ((k / 2 ^ j % 2 : Nat) : Int) := by
  rw [show ((2 : Int) ^ j) = ((2 ^ j : Nat) : Int) by simp, ← Int.natCast_ediv]
  generalize k / 2 ^ j = X
  rw [Int.tmod_eq_emod_of_nonneg (by omega)]
  omega
theorem region_all {P : Program} {ops : Array Oper} {Q : Exit → Act → World → Prop} {S : World → Prop} {n id : Nat} {a : Act} {w : World} (hm : P.follows .mixedOrders = true) (hs : ops.size = n) (hS : S w.drew) (H : S w.drew → wpAnyH P .any ops Q S n (Array.replicate n false) a w.drew) : (Code.region id ops true).wp P Q a w := by
  refine wp_region_any hm ?_
  rw [hs]
  exact wpAny_of_held _ _ _ _ (H hS)
theorem low_unit {D N : Nat} (hD : 0 < D) (h : N = D) : lowN D (N : Int) = lowN 1 1 ∧ lowD D (N : Int) = lowD 1 1 :=
  low_same (M := 1) (n := (N : Int)) (d := D) (z := 1) Nat.one_pos hD (by rw [h]; simp)
theorem FrAt.aside {w : World} {b b2 : Nat} {p q : Int} (h : FrAt w b p q) (hne : b2 ≠ b) (y0 y1 y2 : Value) : FrAt (put3 w b2 y0 y1 y2) b p q := by
  have hcell : ∀ j, (put3 w b2 y0 y1 y2).cell? ⟨b, j, none⟩ = w.cell? ⟨b, j, none⟩ := fun j => by
    unfold Go.Proofs.YtkglaiigoogapaaGreatDoor.put3
    rw [World.cell?_setCell_other _ _ _ _ (fun e => hne (congrArg Addr.block e)), World.cell?_setCell_other _ _ _ _ (fun e => hne (congrArg Addr.block e)), World.cell?_setCell_other _ _ _ _ (fun e => hne (congrArg Addr.block e))]
  have hfr : ∀ j, (put3 w b2 y0 y1 y2).frozen? ⟨b, j, none⟩ = w.frozen? ⟨b, j, none⟩ := fun j => by
    unfold Go.Proofs.YtkglaiigoogapaaGreatDoor.put3
    rw [World.frozen?_setCell, World.frozen?_setCell, World.frozen?_setCell]
  exact ⟨by rw [hcell]; exact h.c0, by rw [hcell]; exact h.c1, by rw [hfr]; exact h.f0, by rw [hfr]; exact h.f1⟩
set_option maxRecDepth 100000 in
set_option maxHeartbeats 8000000 in
theorem LempelSums_main (a : Nat → Addr) (n d : Nat) (w : World) (hE : Errs w a) (hn : n < 8) (hd : d ≤ 4) :
    Calls Tryz.prog 4 #[.int .i64 (n : Int), .int .i64 (d : Int)] w fun e w' => e = .returned (.bool true) ∧ Below w.heap.size w w' := by
  have hA := abab_any w
  have HE := Hid.mk' (fun W (hb : Below w.heap.size w W) => hE.below hb)
  obtain ⟨hcT, hcS⟩ := allOne_sum (chK_all n hn)
  have HCT := Hid.mk' hcT
  have HCS := Hid.mk' hcS
  have HWS : Hid (d < 3 → (∀ j, j < 2 ^ n → toldB (wgK n d j) = true) ∧ (sumQ (wgK n d) (2 ^ n)).1 = (sumQ (wgK n d) (2 ^ n)).2) := fun h => allOne_sum (wgK_all hn h)
  have hM : 2 ^ n ≤ 128 := Nat.pow_le_pow_right (n := 2) (by decide) (show n ≤ 7 by omega)
  have HWP : Hid (wrap64 ((2 : Int) ^ n) = ((2 ^ n : Nat) : Int)) := by
    show _ = _
    rw [show ((2 : Int) ^ n) = ((2 ^ n : Nat) : Int) by simp]
    generalize (2 ^ n : Nat) = X at hM ⊢
    unfold wrap64
    omega
  have HDC := Hid.mk' (fun (m : Nat) (W : World) (hm : m < 10) => Decimal_small m W hm)
  have HQ0 : Hid (∀ W, Calls Tryz.prog 11 #[.int .i64 0, .int .i64 1] W fun e w' => ∃ r, e = .returned r ∧ RatioAt w' r (lowN 1 0) (lowD 1 0) ∧ Below W.heap.size W w') := fun W => RatioOf_any 0 1 W (by decide) (by decide) (by decide) (by decide)
  have HQ1 : Hid (∀ W, Calls Tryz.prog 11 #[.int .i64 1, .int .i64 1] W fun e w' => ∃ r, e = .returned r ∧ RatioAt w' r (lowN 1 1) (lowD 1 1) ∧ Below W.heap.size W w') := fun W => RatioOf_any 1 1 W (by decide) (by decide) (by decide) (by decide)
  have hnI : (n : Int) ≤ 7 := by omega
  have hn0 : (0 : Int) ≤ (n : Int) := by omega
  have hdI : (d : Int) ≤ 4 := by omega
  have hd0 : (0 : Int) ≤ (d : Int) := by omega
  clear hE hcT hcS
  go_enter Tryz.func4, Tryz.ntmps4
  go_wp2_with fail
  refine hA.mono ?_
  rintro e w1 ⟨rfl, hb1⟩
  have HB1 := Hid.mk' hb1
  clear hb1 hA
  go_wp2_with fail
  refine (HQ0.out _).mono ?_
  rintro e w2 ⟨r2, rfl, hr2, hb2⟩
  obtain ⟨s1, x1, l1, c1, x1', l1', c1', rfl⟩ := hr2.sl
  have hR2 := RBox.fresh hr2
  have hc2 := below_chain HB1.out hb2
  have HLTa := Hid.mk' hc2.size
  have HB2 := Hid.mk' (below_chain hc2 (new_below w2 (.cells #[.bool s1, .slice x1 l1 c1, .slice x1' l1' c1'] 33)))
  have HR2 := Hid.mk' hR2
  have HSA : Hid (w2.heap.size < (w2.alloc (.cells #[.bool s1, .slice x1 l1 c1, .slice x1' l1' c1'] 33)).heap.size) := by show _ < _; simp
  clear hr2 hb2 hR2 hc2
  go_wp2_with fail
  generalize w2.alloc (.cells #[.bool s1, .slice x1 l1 c1, .slice x1' l1' c1'] 33) = W2 at *
  generalize w2.heap.size = Ba at *
  refine (HQ0.out _).mono ?_
  rintro e w3 ⟨r3, rfl, hr3, hb3⟩
  obtain ⟨t1, y1, m1, q1, y1', m1', q1', rfl⟩ := hr3.sl
  have HR3 := Hid.mk' (RBox.fresh hr3)
  have HR2 := Hid.mk' ((HR2.out.later hb3).later (new_below w3 (.cells #[.bool t1, .slice y1 m1 q1, .slice y1' m1' q1'] 33)))
  have hc3 := below_chain HB2.out hb3
  have HLTb := Hid.mk' hc3.size
  have HB3 := Hid.mk' (below_chain hc3 (new_below w3 (.cells #[.bool t1, .slice y1 m1 q1, .slice y1' m1' q1'] 33)))
  have HAB : Hid (Ba < w3.heap.size) := Nat.lt_of_lt_of_le HSA.out hb3.size
  clear hr3 hb3 hc3 HSA
  go_wp2_with fail
  generalize w3.alloc (.cells #[.bool t1, .slice y1 m1 q1, .slice y1' m1' q1'] 33) = W3 at *
  generalize w3.heap.size = Bb at *
  go_loopw [8] (fun i wr => ∃ (k : Nat) (xb : Nat × Nat) (s1 : Bool) (x1 x1' : Option Addr) (l1 c1 l1' c1' : Nat) (t1 : Bool) (y1 y1' : Option Addr) (m1 q1 m1' q1' : Nat), k ≤ 2 ^ n ∧ i = .int .i64 k ∧ Hid (RBox wr Ba s1 x1 l1 c1 x1' l1' c1' (lowN (sumQ (chK n) k).2 ((sumQ (chK n) k).1 : Nat)) (lowD (sumQ (chK n) k).2 ((sumQ (chK n) k).1 : Nat))) ∧ Hid (RBox wr Bb t1 y1 m1 q1 y1' m1' q1' (lowN xb.2 (xb.1 : Nat)) (lowD xb.2 (xb.1 : Nat))) ∧ Hid (0 < xb.2 ∧ xb.1 ≤ 2 ^ (63 * k) ∧ xb.2 ≤ 2 ^ (63 * k) ∧ (d < 3 → xb = sumQ (wgK n d) k)) ∧ Hid (0 < (sumQ (chK n) k).2 ∧ (sumQ (chK n) k).1 ≤ 2 ^ (63 * k) ∧ (sumQ (chK n) k).2 ≤ 2 ^ (63 * k)) ∧ Hid (Below w.heap.size w wr)) (fun i _ => 2 ^ n - (intOf i).toNat)
  case atStart => exact ⟨0, (0, 1), s1, x1, x1', l1, c1, l1', c1', t1, y1, y1', m1, q1, m1', q1', Nat.zero_le _, rfl, HR2.out, HR3.out, ⟨Nat.one_pos, Nat.zero_le _, Nat.le_refl _, fun _ => rfl⟩, ⟨Nat.one_pos, Nat.zero_le _, Nat.le_refl _⟩, HB3.out⟩
  case round =>
    clear HR2 HR3 HB2 HB3
    obtain ⟨wx, rfl⟩ : ∃ wx, wx = wr := ⟨_, rfl⟩
    obtain ⟨k, xb, s1, x1, x1', l1, c1, l1', c1', t1, y1, y1', m1, q1, m1', q1', hk, rfl, HRA, HRB, HXB, HXA, HB⟩ := hrel
    have hk0 : (0 : Int) ≤ (k : Int) := by omega
    rcases Nat.lt_or_ge k (2 ^ n) with h1 | h1
    · have hkI : (k : Int) < wrap64 (2 ^ n) := by rw [HWP.out]; omega
      have hk128 : (k : Int) < 128 := by omega
      go_wp2_with fail
      clear hkI
      go_loopw [9, 10] (fun r i wr => ∃ j : Nat, j ≤ n ∧ i = .int .i64 j ∧ r = .string (txK k j) ∧ Hid (Below wx.heap.size wx wr)) (fun _ i _ => n - (intOf i).toNat)
      case atStart => exact ⟨0, Nat.zero_le _, rfl, rfl, Below.refl _ _⟩
      case round =>
        obtain ⟨wy, rfl⟩ : ∃ wy, wy = wr := ⟨_, rfl⟩
        obtain ⟨j, hj, rfl, rfl, HBY⟩ := hrel
        have hj0 : (0 : Int) ≤ (j : Int) := by omega
        rcases Nat.lt_or_ge j n with h2 | h2
        · have hjI : (j : Int) < (n : Int) := by omega
          have HTX : Hid (txK k (j + 1) = txK k j ++ (⟨(Lib.decDigits (k / 2 ^ j % 2)).toArray⟩ : ByteArray)) := by show _ = _; rw [dig_bit]; rfl
          have HDJ := Hid.mk' (HDC.out (k / 2 ^ j % 2) wy (by omega))
          have hsz : (txK k j).size ≤ 10 := by rw [txK_size]; omega
          rw [← bit_mod] at HDJ
          generalize (⟨(Lib.decDigits (k / 2 ^ j % 2)).toArray⟩ : ByteArray) = Z at *
          have HZS : Hid (Z.size = 1) := by
            have h5 := congrArg ByteArray.size HTX.out
            rw [ByteArray.size_append, txK_size, txK_size] at h5
            show _ = _
            omega
          have hzs : Z.size ≤ 1 := by have := HZS.out; omega
          generalize txK k j = T at *
          go_wp2_with fail
          refine HDJ.out.mono ?_
          rintro e w5 ⟨rfl, hb5⟩
          have HB5 := Hid.mk' (below_chain HBY.out hb5)
          clear hb5
          go_wp2_with fail
          exact ⟨⟨j + 1, h2, by go_num, by rw [HTX.out], HB5.out⟩, by simp [intOf]; omega⟩
        · obtain rfl : n = j := by omega
          have hjI : ¬ (n : Int) < (n : Int) := by omega
          have HNB := Hid.mk' (below_chain HB.out HBY.out)
          have hbe : bitsE (txK k n) = 0 := bits_zero (by rw [txK_size]; omega) (txK_bits k n)
          have htc : toldB (chK n k) = true := HCT.out k h1
          have hro := redP_room htc
          have HCH : Hid (∀ W, Below w.heap.size w W → Calls Tryz.prog 13 #[.string (txK k n)] W fun e w' => e = .returned (.tuple #[.agg #[.int .i64 ((redP (chK n k)).1 : Nat), .int .i64 ((redP (chK n k)).2 : Nat)], .nilIface]) ∧ Below W.heap.size W w') := fun W hb => Chance_ok a (txK k n) _ _ _ W (HE.out W hb) hbe (show toldV a (chK n k).1 (chK n k).2 = _ from if_pos (of_decide_eq_true htc))
          have hcp : 0 < (redP (chK n k)).2 := by
            show 0 < (chK n k).2 / Nat.gcd (chK n k).1 (chK n k).2
            have h9 : 0 < (chK n k).2 := lnD_pos _
            exact Nat.div_pos (Nat.gcd_le_right _ h9) (Nat.gcd_pos_of_pos_right _ h9)
          have HOF := Hid.mk' (fun W => OfFrac_pq (redP (chK n k)).1 (redP (chK n k)).2 W hcp hro.1 hro.2)
          have HSA : Hid (sumQ (chK n) (k + 1) = stepQ (sumQ (chK n) k) (redP (chK n k))) := rfl
          have hst := step63 HXA.out.2.1 HXA.out.2.2 hro.1 hro.2
          have HXA1 : Hid (0 < (sumQ (chK n) (k + 1)).2 ∧ (sumQ (chK n) (k + 1)).1 ≤ 2 ^ (63 * (k + 1)) ∧ (sumQ (chK n) (k + 1)).2 ≤ 2 ^ (63 * (k + 1))) := ⟨Nat.mul_pos HXA.out.1 hcp, hst.1, hst.2⟩
          have h63 := pow63 (k := k) (by omega)
          have HPA : Hid (∀ W u v, RatioAt W u (lowN (sumQ (chK n) k).2 ((sumQ (chK n) k).1 : Nat)) (lowD (sumQ (chK n) k).2 ((sumQ (chK n) k).1 : Nat)) → RatioAt W v (lowN (redP (chK n k)).2 ((redP (chK n k)).1 : Nat)) (lowD (redP (chK n k)).2 ((redP (chK n k)).1 : Nat)) → Calls Tryz.prog 14 #[u, v] W fun e w' => ∃ r, e = .returned r ∧ RatioAt w' r (lowN (sumQ (chK n) (k + 1)).2 ((sumQ (chK n) (k + 1)).1 : Nat)) (lowD (sumQ (chK n) (k + 1)).2 ((sumQ (chK n) (k + 1)).1 : Nat)) ∧ Below W.heap.size W w') := fun W u v hu hv => Plus_W _ _ _ _ HXA.out.1 hcp (Nat.lt_of_le_of_lt HXA.out.2.2 h63) (Nat.lt_of_le_of_lt hro.2 big62) (Nat.lt_of_le_of_lt HXA.out.2.1 h63) (Nat.lt_of_le_of_lt hro.1 big62) u v W hu hv
          obtain ⟨P, Q, er, xb', HWE, HCD, HXB1, hcase⟩ : ∃ (P Q : Nat) (er : Value) (xb' : Nat × Nat), Hid (∀ W, Below w.heap.size w W → Calls Tryz.prog 9 #[.string (txK k n), .int .i64 (d : Int)] W fun e w' => e = .returned (.tuple #[.agg #[.int .i64 (P : Int), .int .i64 (Q : Int)], er]) ∧ Below W.heap.size W w') ∧ Hid (∀ W, Below w.heap.size w W → er ≠ .nilIface → Calls Tryz.prog 10 #[er, .int .i64 2] W fun e w' => e = .returned (.bool true) ∧ Below W.heap.size W w') ∧ Hid (0 < xb'.2 ∧ xb'.1 ≤ 2 ^ (63 * (k + 1)) ∧ xb'.2 ≤ 2 ^ (63 * (k + 1)) ∧ (d < 3 → xb' = sumQ (wgK n d) (k + 1))) ∧ ((er = .nilIface ∧ Hid (∀ W, Calls Tryz.prog 15 #[.agg #[.int .i64 (P : Int), .int .i64 (Q : Int)]] W fun e w' => ∃ r, e = .returned r ∧ RatioAt w' r (lowN Q (P : Int)) (lowD Q (P : Int)) ∧ Below W.heap.size W w') ∧ Hid (∀ W u v, RatioAt W u (lowN xb.2 (xb.1 : Nat)) (lowD xb.2 (xb.1 : Nat)) → RatioAt W v (lowN Q (P : Int)) (lowD Q (P : Int)) → Calls Tryz.prog 14 #[u, v] W fun e w' => ∃ r, e = .returned r ∧ RatioAt w' r (lowN xb'.2 (xb'.1 : Nat)) (lowD xb'.2 (xb'.1 : Nat)) ∧ Below W.heap.size W w')) ∨ (er = .iface 179 (.pointer (some (a 1))) ∧ xb' = (1, 1))) := by
            have hwpos : 0 < (wgK n d k).2 := (wg_ok _ _ _ (by rw [txK_size]; omega) _ _).1
            by_cases htw : toldB (wgK n d k) = true
            · have hrw := redP_room htw
              have hwp : 0 < (redP (wgK n d k)).2 := Nat.div_pos (Nat.gcd_le_right _ hwpos) (Nat.gcd_pos_of_pos_right _ hwpos)
              have hsw := step63 HXB.out.2.1 HXB.out.2.2.1 hrw.1 hrw.2
              refine ⟨(redP (wgK n d k)).1, (redP (wgK n d k)).2, .nilIface, stepQ xb (redP (wgK n d k)), fun W hb => Weighted_ok a (txK k n) d _ _ _ W (HE.out W hb) hbe hd (show toldV a (wgK n d k).1 (wgK n d k).2 = _ from if_pos (of_decide_eq_true htw)), fun W hb h => absurd rfl h, ⟨Nat.mul_pos HXB.out.1 hwp, hsw.1, hsw.2, fun h3 => by rw [HXB.out.2.2.2 h3]; rfl⟩, Or.inl ⟨rfl, fun W => OfFrac_pq _ _ W hwp hrw.1 hrw.2, fun W u v hu hv => Plus_W _ _ _ _ HXB.out.1 hwp (Nat.lt_of_le_of_lt HXB.out.2.2.1 h63) (Nat.lt_of_le_of_lt hrw.2 big62) (Nat.lt_of_le_of_lt HXB.out.2.1 h63) (Nat.lt_of_le_of_lt hrw.1 big62) u v W hu hv⟩⟩
            · refine ⟨0, 0, errV a 2, (1, 1), fun W hb => Weighted_ok a (txK k n) d _ _ _ W (HE.out W hb) hbe hd (show toldV a (wgK n d k).1 (wgK n d k).2 = _ from if_neg (fun h => htw (decide_eq_true h))), fun W hb _ => coded_errV a 2 (by decide) W (HE.out W hb), ⟨Nat.one_pos, Nat.one_le_two_pow, Nat.one_le_two_pow, fun h3 => absurd ((HWS.out h3).1 k h1) htw⟩, Or.inr ⟨rfl, rfl⟩⟩
          clear hbe htc hro hst h63 hcp HXB HXA
          generalize (redP (chK n k)).1 = p at *
          generalize (redP (chK n k)).2 = q at *
          generalize txK k n = T at *
          have HLA : Hid (Ba < wx.heap.size) := cell_lt HRA.out.c0
          have HLB : Hid (Bb < wx.heap.size) := cell_lt HRB.out.c0
          go_wp2_with fail
          refine (HCH.out _ HNB.out).mono ?_
          rintro e w5 ⟨rfl, hb5⟩
          have hcur := below_chain HBY.out hb5
          have HF5 := Hid.mk' (FrAt.fresh w5 (p : Int) (q : Int))
          have HC5 := Hid.mk' (below_chain hcur (new_below w5 (.cells #[.int .i64 (p : Int), .int .i64 (q : Int)] 25)))
          clear hb5 hcur
          go_wp2_with fail
          generalize w5.alloc (.cells #[.int .i64 (p : Int), .int .i64 (q : Int)] 25) = W5 at *
          generalize w5.heap.size = B5 at *
          refine (HWE.out _ (below_chain HB.out HC5.out)).mono ?_
          rintro e w6 ⟨rfl, hb6⟩
          have hcur := below_chain HC5.out hb6
          have HNE6 : Hid (Ba ≠ w6.heap.size) := Nat.ne_of_lt (Nat.lt_of_lt_of_le HLA.out hcur.size)
          have HF6 := Hid.mk' (FrAt.fresh w6 (P : Int) (Q : Int))
          have HF5 := Hid.mk' ((HF5.out.later hb6).later (new_below w6 (.cells #[.int .i64 (P : Int), .int .i64 (Q : Int)] 25)))
          have HC6 := Hid.mk' (below_chain hcur (new_below w6 (.cells #[.int .i64 (P : Int), .int .i64 (Q : Int)] 25)))
          clear hb6 hcur HC5
          have HABN : Hid (Ba ≠ Bb) := Nat.ne_of_lt HAB.out
          go_wp2_with fail
          generalize w6.alloc (.cells #[.int .i64 (P : Int), .int .i64 (Q : Int)] 25) = W6 at *
          generalize w6.heap.size = B6 at *
          have HNW := Hid.mk' (below_chain HB.out HC6.out)
          have HRA6 := Hid.mk' (HRA.out.later HC6.out)
          have HRB6 := Hid.mk' (HRB.out.later HC6.out)
          clear HRA HRB HC6
          have HRL := Hid.mk' (fun (W : World) (hb : Below W6.heap.size W6 W) => HRA6.out.later hb)
          have HFL := Hid.mk' (fun (W : World) (hb : Below W6.heap.size W6 W) => HF5.out.later hb)
          have HKS : Hid (∀ W, Below W6.heap.size W6 W → (W.cell? ⟨Ba, 0, none⟩ = some (.bool s1) ∧ W.cell? ⟨Ba, 1, none⟩ = some (.slice x1 l1 c1) ∧ W.cell? ⟨Ba, 2, none⟩ = some (.slice x1' l1' c1') ∧ W.cell? ⟨B5, 0, none⟩ = some (.int .i64 (p : Int)) ∧ W.cell? ⟨B5, 1, none⟩ = some (.int .i64 (q : Int)))) := fun W hb => ⟨(HRL.out W hb).c0, (HRL.out W hb).c1, (HRL.out W hb).c2, (HFL.out W hb).c0, (HFL.out W hb).c1⟩
          have hcur : Below W6.heap.size W6 W6.drew := (Below.refl _ _).drew
          refine region_but_last (n := 4) (S := fun W => W.cell? ⟨Ba, 0, none⟩ = some (.bool s1) ∧ W.cell? ⟨Ba, 1, none⟩ = some (.slice x1 l1 c1) ∧ W.cell? ⟨Ba, 2, none⟩ = some (.slice x1' l1' c1') ∧ W.cell? ⟨B5, 0, none⟩ = some (.int .i64 (p : Int)) ∧ W.cell? ⟨B5, 1, none⟩ = some (.int .i64 (q : Int))) (by kernel_rfl) (by kernel_rfl) (by kernel_rfl) (HKS.out _ hcur) (fun hHeld => ?_)
          refine wpAnyH_take (i := 0) (v := ?v0s30) rfl (by kernel_rfl) (by kernel_rfl) (by kernel_rfl) (fun _ _ _ h => h) (Or.inl ⟨by rfl, ?hy0s30⟩) (by assumption) ?rest0s30
          case hy0s30 => (intro w hSw; (try dsimp only at hSw); go_simp <;> (try with_reducible rfl))
          simp only [Act.put]
          refine wpAnyH_take (i := 1) (v := ?v1s30) rfl (by kernel_rfl) (by kernel_rfl) (by kernel_rfl) (fun _ _ _ h => h) (Or.inl ⟨by rfl, ?hy1s30⟩) (by assumption) ?rest1s30
          case hy1s30 => (intro w hSw; (try dsimp only at hSw); go_simp <;> (try with_reducible rfl))
          simp only [Act.put]
          refine wpAnyH_ready (rs := [2]) (by kernel_rfl) (by simp) ?_
          refine AllReadyH.cons rfl (fun K hK => ?_) AllReadyH.nil
          go_simp
          refine (HOF.out _).mono ?_
          rintro e w7 ⟨r1, rfl, hr1, hb7⟩
          have hcur := below_chain hcur hb7
          have HX1 := Hid.mk' hr1
          obtain ⟨e1, p1, i1, j1, p1', i1', j1', hr1e⟩ := hr1.sl
          subst hr1e
          clear hr1
          go_wp2_with fail
          refine hK.out _ _ ?_ (fun hHeld => ?_)
          · exact HKS.out _ hcur
          clear hK K
          refine wpAnyH_ready (rs := [3]) (by kernel_rfl) (by simp) ?_
          refine AllReadyH.cons rfl (fun K hK => ?_) AllReadyH.nil
          go_simp
          refine (HPA.out _ _ _ (HRL.out _ hcur).rat HX1.out).mono ?_
          rintro e w8 ⟨r3, rfl, hr3, hb8⟩
          have hcur := below_chain hcur hb8
          have HX3 := Hid.mk' hr3
          obtain ⟨e3, p3, i3, j3, p3', i3', j3', hr3e⟩ := hr3.sl
          subst hr3e
          clear hr3
          have hL := HRL.out _ hcur
          have fz0 := hL.fz 0 (by decide)
          have fz1 := hL.fz 1 (by decide)
          have fz2 := hL.fz 2 (by decide)
          have k0 := hL.c0
          have k1 := hL.c1
          have k2 := hL.c2
          obtain ⟨⟨g0, g1⟩, ⟨g2, g3⟩, g4⟩ := put_three' (.bool e3) (.slice p3 i3 j3) (.slice p3' i3' j3') k0 k1 k2
          have HSET := Hid.mk' (hL.put HX3.out)
          go_wp2_with fail
          refine hK.out _ _ ?_ (fun hHeld => ?_)
          · exact HKS.out _ hcur
          clear hK K
          refine wpAnyH_done (by kernel_rfl) ?_ _
          refine ahead_last rfl (fun K hK => ?_)
          go_simp
          refine hK _ _ ?_
          clear hK K
          have HRB8 := Hid.mk' ((HRB6.out.later hcur).aside hL HABN.out (.bool e3) (.slice p3 i3 j3) (.slice p3' i3' j3'))
          have HF8 := Hid.mk' ((HF6.out.later hcur).aside HNE6.out (.bool e3) (.slice p3 i3 j3) (.slice p3' i3' j3'))
          clear hL
          unfold put3 at HSET HRB8 HF8
          have HB8 : Hid (Below w.heap.size w (((w8.setCell ⟨Ba, 0, none⟩ (.bool e3)).setCell ⟨Ba, 1, none⟩ (.slice p3 i3 j3)).setCell ⟨Ba, 2, none⟩ (.slice p3' i3' j3'))) := (((below_chain HNW.out hcur).setCell HLTa.out _).setCell HLTa.out _).setCell HLTa.out _
          generalize ((w8.setCell ⟨Ba, 0, none⟩ (.bool e3)).setCell ⟨Ba, 1, none⟩ (.slice p3 i3 j3)).setCell ⟨Ba, 2, none⟩ (.slice p3' i3' j3') = W8 at *
          clear HX1 HX3 hHeld g0 g1 g2 g3 g4 k0 k1 k2 fz0 fz1 fz2 hcur HKS HRL HFL hb7 hb8 HRA6 HRB6 HNW HF5 HF6 HOF HPA HCH HWE
          have HSET8 := Hid.mk' HSET.out
          clear HSET
          rcases hcase with ⟨rfl, HOF, HPL⟩ | ⟨rfl, rfl⟩
          · go_wp2_with fail
            have HRL := Hid.mk' (fun (W : World) (hb : Below W8.heap.size W8 W) => HRB8.out.later hb)
            have HFL := Hid.mk' (fun (W : World) (hb : Below W8.heap.size W8 W) => HF8.out.later hb)
            have HKS : Hid (∀ W, Below W8.heap.size W8 W → (W.cell? ⟨Bb, 0, none⟩ = some (.bool t1) ∧ W.cell? ⟨Bb, 1, none⟩ = some (.slice y1 m1 q1) ∧ W.cell? ⟨Bb, 2, none⟩ = some (.slice y1' m1' q1') ∧ W.cell? ⟨B6, 0, none⟩ = some (.int .i64 (P : Int)) ∧ W.cell? ⟨B6, 1, none⟩ = some (.int .i64 (Q : Int)))) := fun W hb => ⟨(HRL.out W hb).c0, (HRL.out W hb).c1, (HRL.out W hb).c2, (HFL.out W hb).c0, (HFL.out W hb).c1⟩
            have hcur : Below W8.heap.size W8 W8.drew := (Below.refl _ _).drew
            refine region_but_last (n := 4) (S := fun W => W.cell? ⟨Bb, 0, none⟩ = some (.bool t1) ∧ W.cell? ⟨Bb, 1, none⟩ = some (.slice y1 m1 q1) ∧ W.cell? ⟨Bb, 2, none⟩ = some (.slice y1' m1' q1') ∧ W.cell? ⟨B6, 0, none⟩ = some (.int .i64 (P : Int)) ∧ W.cell? ⟨B6, 1, none⟩ = some (.int .i64 (Q : Int))) (by kernel_rfl) (by kernel_rfl) (by kernel_rfl) (HKS.out _ hcur) (fun hHeld => ?_)
            refine wpAnyH_take (i := 0) (v := ?v0s31) rfl (by kernel_rfl) (by kernel_rfl) (by kernel_rfl) (fun _ _ _ h => h) (Or.inl ⟨by rfl, ?hy0s31⟩) (by assumption) ?rest0s31
            case hy0s31 => (intro w hSw; (try dsimp only at hSw); go_simp <;> (try with_reducible rfl))
            simp only [Act.put]
            refine wpAnyH_take (i := 1) (v := ?v1s31) rfl (by kernel_rfl) (by kernel_rfl) (by kernel_rfl) (fun _ _ _ h => h) (Or.inl ⟨by rfl, ?hy1s31⟩) (by assumption) ?rest1s31
            case hy1s31 => (intro w hSw; (try dsimp only at hSw); go_simp <;> (try with_reducible rfl))
            simp only [Act.put]
            refine wpAnyH_ready (rs := [2]) (by kernel_rfl) (by simp) ?_
            refine AllReadyH.cons rfl (fun K hK => ?_) AllReadyH.nil
            go_simp
            refine (HOF.out _).mono ?_
            rintro e w9 ⟨r1, rfl, hr1, hb9⟩
            have hcur := below_chain hcur hb9
            have HX1 := Hid.mk' hr1
            obtain ⟨e1, p1, i1, j1, p1', i1', j1', hr1e⟩ := hr1.sl
            subst hr1e
            clear hr1
            go_wp2_with fail
            refine hK.out _ _ ?_ (fun hHeld => ?_)
            · exact HKS.out _ hcur
            clear hK K
            refine wpAnyH_ready (rs := [3]) (by kernel_rfl) (by simp) ?_
            refine AllReadyH.cons rfl (fun K hK => ?_) AllReadyH.nil
            go_simp
            refine (HPL.out _ _ _ (HRL.out _ hcur).rat HX1.out).mono ?_
            rintro e v8 ⟨r3, rfl, hr3, hb8⟩
            have hcur := below_chain hcur hb8
            have HX3 := Hid.mk' hr3
            obtain ⟨e3, p3, i3, j3, p3', i3', j3', hr3e⟩ := hr3.sl
            subst hr3e
            clear hr3
            have hL := HRL.out _ hcur
            have fz0 := hL.fz 0 (by decide)
            have fz1 := hL.fz 1 (by decide)
            have fz2 := hL.fz 2 (by decide)
            have k0 := hL.c0
            have k1 := hL.c1
            have k2 := hL.c2
            obtain ⟨⟨g0, g1⟩, ⟨g2, g3⟩, g4⟩ := put_three' (.bool e3) (.slice p3 i3 j3) (.slice p3' i3' j3') k0 k1 k2
            have HSET := Hid.mk' (hL.put HX3.out)
            go_wp2_with fail
            refine hK.out _ _ ?_ (fun hHeld => ?_)
            · exact HKS.out _ hcur
            clear hK K
            refine wpAnyH_done (by kernel_rfl) ?_ _
            refine ahead_last rfl (fun K hK => ?_)
            go_simp
            refine hK _ _ ?_
            clear hK K
            have HRA9 := Hid.mk' ((HSET8.out.later hcur).aside hL (Ne.symm HABN.out) (.bool e3) (.slice p3 i3 j3) (.slice p3' i3' j3'))
            clear hL
            unfold put3 at HSET HRA9
            have HB9 : Hid (Below w.heap.size w (((v8.setCell ⟨Bb, 0, none⟩ (.bool e3)).setCell ⟨Bb, 1, none⟩ (.slice p3 i3 j3)).setCell ⟨Bb, 2, none⟩ (.slice p3' i3' j3'))) := (((below_chain HB8.out hcur).setCell HLTb.out _).setCell HLTb.out _).setCell HLTb.out _
            generalize ((v8.setCell ⟨Bb, 0, none⟩ (.bool e3)).setCell ⟨Bb, 1, none⟩ (.slice p3 i3 j3)).setCell ⟨Bb, 2, none⟩ (.slice p3' i3' j3') = W9 at *
            clear HX1 HX3 hHeld g0 g1 g2 g3 g4 k0 k1 k2 fz0 fz1 fz2 hcur HKS HRL HFL hb9 hb8
            go_wp2_with fail
            exact ⟨⟨k + 1, xb', _, _, _, _, _, _, _, _, _, _, _, _, _, _, h1, by go_num, HRA9.out, HSET.out, HXB1.out, HXA1.out, HB9.out⟩, by simp [intOf]; omega⟩
          · go_wp2_with fail
            refine (HQ1.out _).mono ?_
            rintro e w9 ⟨r3, rfl, hr3, hb9⟩
            have hL := HRB8.out.later hb9
            have HX3 := Hid.mk' hr3
            obtain ⟨e3, p3, i3, j3, p3', i3', j3', hr3e⟩ := hr3.sl
            subst hr3e
            clear hr3
            have fz0 := hL.fz 0 (by decide)
            have fz1 := hL.fz 1 (by decide)
            have fz2 := hL.fz 2 (by decide)
            have k0 := hL.c0
            have k1 := hL.c1
            have k2 := hL.c2
            obtain ⟨⟨g0, g1⟩, ⟨g2, g3⟩, g4⟩ := put_three' (.bool e3) (.slice p3 i3 j3) (.slice p3' i3' j3') k0 k1 k2
            have HSET := Hid.mk' (hL.put HX3.out)
            have HRA9 := Hid.mk' ((HSET8.out.later hb9).aside hL (Ne.symm HABN.out) (.bool e3) (.slice p3 i3 j3) (.slice p3' i3' j3'))
            clear hL
            go_wp2_with fail
            unfold put3 at HSET HRA9
            have HB9 : Hid (Below w.heap.size w (((w9.setCell ⟨Bb, 0, none⟩ (.bool e3)).setCell ⟨Bb, 1, none⟩ (.slice p3 i3 j3)).setCell ⟨Bb, 2, none⟩ (.slice p3' i3' j3'))) := (((below_chain HB8.out hb9).setCell HLTb.out _).setCell HLTb.out _).setCell HLTb.out _
            generalize ((w9.setCell ⟨Bb, 0, none⟩ (.bool e3)).setCell ⟨Bb, 1, none⟩ (.slice p3 i3 j3)).setCell ⟨Bb, 2, none⟩ (.slice p3' i3' j3') = W9 at *
            refine (HCD.out _ HB9.out (by simp)).mono ?_
            rintro e wA ⟨rfl, hbA⟩
            have HRAA := Hid.mk' (HRA9.out.later hbA)
            have HRBA := Hid.mk' (HSET.out.later hbA)
            have HBA := Hid.mk' (below_chain HB9.out hbA)
            clear HX3 g0 g1 g2 g3 g4 k0 k1 k2 fz0 fz1 fz2 hb9 hbA HRA9 HSET HB9
            go_wp2_with fail
            exact ⟨⟨k + 1, (1, 1), _, _, _, _, _, _, _, _, _, _, _, _, _, _, h1, by go_num, HRAA.out, HRBA.out, HXB1.out, HXA1.out, HBA.out⟩, by simp [intOf]; omega⟩
    · obtain rfl : k = 2 ^ n := by omega
      have hkI : ¬ ((2 ^ n : Nat) : Int) < wrap64 (2 ^ n) := by rw [HWP.out]; omega
      have HOA := low_unit HXA.out.1 HCS.out
      rw [HOA.1, HOA.2] at HRA
      clear HOA
      obtain ⟨c, HCB, hcc⟩ : ∃ c : Int, Hid (∀ W u, Below wx.heap.size wx W → RatioAt W u (lowN 1 1) (lowD 1 1) → Calls Tryz.prog 16 #[.agg #[.bool t1, .slice y1 m1 q1, .slice y1' m1' q1'], u] W fun e w' => e = .returned (.int .i64 c) ∧ Below W.heap.size W w') ∧ (c = 0 ∨ (¬ c = 0 ∧ 2 < d)) := by
        have h63 := pow63 (k := 2 ^ n) hM
        have g1 := lowN_le HXB.out.1 (xb.1 : Int)
        have g2 := lowD_le xb.2 (xb.1 : Int)
        rw [Int.natAbs_natCast] at g1
        have e1 := Nat.lt_of_le_of_lt (Nat.le_trans g1 HXB.out.2.1) h63
        have e2 := Nat.lt_of_le_of_lt (Nat.le_trans g2 HXB.out.2.2.1) h63
        refine ⟨sgnZ (lowN xb.2 (xb.1 : Nat) * (lowD 1 1 : Nat) - lowN 1 1 * (lowD xb.2 (xb.1 : Nat) : Nat)), fun W u hb hu => RCmp_any _ u _ _ _ _ 700 W (HRB.out.later hb).rat hu e1 (by decide +kernel) e2 (by decide +kernel) (by decide), ?_⟩
        rcases Nat.lt_or_ge d 3 with h | h
        · left
          have hx := HXB.out.2.2.2 h
          have hO := low_unit HXB.out.1 (show xb.1 = xb.2 by rw [hx]; exact (HWS.out h).2)
          rw [hO.1, hO.2]
          rfl
        · by_cases hz : sgnZ (lowN xb.2 (xb.1 : Nat) * (lowD 1 1 : Nat) - lowN 1 1 * (lowD xb.2 (xb.1 : Nat) : Nat)) = 0
          · exact Or.inl hz
          · exact Or.inr ⟨hz, h⟩
      have HCA : Hid (∀ W u, Below wx.heap.size wx W → RatioAt W u (lowN 1 1) (lowD 1 1) → Calls Tryz.prog 16 #[.agg #[.bool s1, .slice x1 l1 c1, .slice x1' l1' c1'], u] W fun e w' => e = .returned (.int .i64 0) ∧ Below W.heap.size W w') := fun W u hb hu => RCmp_any _ u _ _ _ _ 20 W (HRA.out.later hb).rat hu (by decide) (by decide) (by decide) (by decide) (by decide)
      have HKA : Hid (∀ W, Below wx.heap.size wx W → (W.cell? ⟨Ba, 0, none⟩ = some (.bool s1) ∧ W.cell? ⟨Ba, 1, none⟩ = some (.slice x1 l1 c1) ∧ W.cell? ⟨Ba, 2, none⟩ = some (.slice x1' l1' c1'))) := fun W hb => ⟨(HRA.out.later hb).c0, (HRA.out.later hb).c1, (HRA.out.later hb).c2⟩
      have HKB : Hid (∀ W, Below wx.heap.size wx W → (W.cell? ⟨Bb, 0, none⟩ = some (.bool t1) ∧ W.cell? ⟨Bb, 1, none⟩ = some (.slice y1 m1 q1) ∧ W.cell? ⟨Bb, 2, none⟩ = some (.slice y1' m1' q1'))) := fun W hb => ⟨(HRB.out.later hb).c0, (HRB.out.later hb).c1, (HRB.out.later hb).c2⟩
      clear HXB HXA HRA HRB HCS HWS HCT HDC HQ0
      have hcur0 : Below wx.heap.size wx wx := Below.refl _ _
      have hcur : Below wx.heap.size wx wx.drew := (Below.refl _ _).drew
      rcases hcc with rfl | ⟨hc0, hd2⟩
      · have hdx : True := trivial
        go_wp2_with fail
        go_region_held3 (fun W => W.cell? ⟨Bb, 0, none⟩ = some (.bool t1) ∧ W.cell? ⟨Bb, 1, none⟩ = some (.slice y1 m1 q1) ∧ W.cell? ⟨Bb, 2, none⟩ = some (.slice y1' m1' q1'))
          (first | exact HKB.out _ hcur0 | exact HKB.out _ hcur | exact HKB.out _ hbw5 | exact HKB.out _ hbw6)
          (first
            | (go_at_call 16; refine (HCB.out _ _ hbw5 HXw5.out).mono ?_; rintro e w6 ⟨rfl, hnw6⟩; have hbw6 := below_chain hbw5 hnw6; clear hnw6)
            | (go_at_call 11; refine (HQ1.out _).mono ?_; rintro e w5 ⟨r5, rfl, hr5, hnw5⟩; have hbw5 := below_chain hcur hnw5; have HXw5 := Hid.mk' hr5; obtain ⟨e5, p5, i5, j5, p5', i5', j5', hr5e⟩ := hr5.sl; subst hr5e; clear hr5 hnw5))
        all_goals
          have hcur1 := hbw6
          have hcur2 : Below wx.heap.size wx w6.drew := hbw6.drew
          clear HXw5 hbw5
          go_wp2_with fail
          refine region_all (n := 12) (S := fun W => W.cell? ⟨Ba, 0, none⟩ = some (.bool s1) ∧ W.cell? ⟨Ba, 1, none⟩ = some (.slice x1 l1 c1) ∧ W.cell? ⟨Ba, 2, none⟩ = some (.slice x1' l1' c1')) (by kernel_rfl) (by kernel_rfl) (HKA.out _ hcur2) (fun hHeld => ?_)
          refine wpAnyH_take (i := 0) (v := ?v0e) rfl (by kernel_rfl) (by kernel_rfl) (by kernel_rfl) (fun _ _ _ h => h) (Or.inl ⟨by rfl, ?hy0e⟩) (by assumption) ?rest0e
          case hy0e => (intro w hSw; (try dsimp only at hSw); go_simp <;> (try with_reducible rfl))
          simp only [Act.put]
          refine wpAnyH_ready (rs := [1]) (by kernel_rfl) (by simp) ?_
          refine AllReadyH.cons rfl (fun K hK => ?_) AllReadyH.nil
          go_simp
          refine (HQ1.out _).mono ?_
          rintro e w7 ⟨r5, rfl, hr5, hnw7⟩
          have hbw7 := below_chain hcur2 hnw7
          have HXw7 := Hid.mk' hr5
          obtain ⟨e5, p5, i5, j5, p5', i5', j5', hr5e⟩ := hr5.sl
          subst hr5e
          clear hr5 hnw7
          go_wp2_with fail
          refine hK.out _ _ ?_ (fun hHeld => ?_)
          · exact HKA.out _ hbw7
          clear hK K
          refine wpAnyH_ready (rs := [2]) (by kernel_rfl) (by simp) ?_
          refine AllReadyH.cons rfl (fun K hK => ?_) AllReadyH.nil
          go_simp
          refine (HCA.out _ _ hbw7 HXw7.out).mono ?_
          rintro e w8 ⟨rfl, hnw8⟩
          have hbw8 := below_chain hbw7 hnw8
          clear hnw8
          go_wp2_with fail
          refine hK.out _ _ ?_ (fun hHeld => ?_)
          · exact HKA.out _ hbw8
          clear hK K
          refine wpAnyH_take (i := 3) (v := ?v3e) rfl (by kernel_rfl) (by kernel_rfl) (by kernel_rfl) (fun _ _ _ h => h) (Or.inl ⟨by rfl, ?hy3e⟩) (by assumption) ?rest3e
          case hy3e => (intro w hSw; (try dsimp only at hSw); go_simp <;> (try with_reducible rfl))
          simp only [Act.put]
          refine wpAnyH_take (i := 4) (v := ?v4e) rfl (by kernel_rfl) (by kernel_rfl) (by kernel_rfl) (fun _ _ _ h => h) (Or.inl ⟨by rfl, ?hy4e⟩) (by assumption) ?rest4e
          case hy4e => (intro w hSw; (try dsimp only at hSw); go_simp <;> (try with_reducible rfl))
          simp only [Act.put]
          refine wpAnyH_take (i := 5) (v := ?v5e) rfl (by kernel_rfl) (by kernel_rfl) (by kernel_rfl) (fun _ _ _ h => h) (Or.inl ⟨by rfl, ?hy5e⟩) (by assumption) ?rest5e
          case hy5e => (intro w hSw; (try dsimp only at hSw); go_simp <;> (try with_reducible rfl))
          simp only [Act.put]
          refine wpAnyH_take (i := 6) (v := ?v6e) rfl (by kernel_rfl) (by kernel_rfl) (by kernel_rfl) (fun _ _ _ h => h) (Or.inl ⟨by rfl, ?hy6e⟩) (by assumption) ?rest6e
          case hy6e => (intro w hSw; (try dsimp only at hSw); go_simp <;> (try with_reducible rfl))
          simp only [Act.put]
          refine wpAnyH_take (i := 7) (v := undef) rfl (by kernel_rfl) (by kernel_rfl) (by kernel_rfl) (fun _ _ _ h => h) (Or.inr ⟨by rfl, rfl⟩) (by assumption) ?rest7e
          simp only [Act.put]
          refine wpAnyH_take (i := 8) (v := undef) rfl (by kernel_rfl) (by kernel_rfl) (by kernel_rfl) (fun _ _ _ h => h) (Or.inr ⟨by rfl, rfl⟩) (by assumption) ?rest8e
          simp only [Act.put]
          refine wpAnyH_take (i := 9) (v := ?v9e) rfl (by kernel_rfl) (by kernel_rfl) (by kernel_rfl) (fun _ _ _ h => h) (Or.inl ⟨by rfl, ?hy9e⟩) (by assumption) ?rest9e
          case hy9e => (intro w hSw; (try dsimp only at hSw); go_simp <;> (try with_reducible rfl))
          simp only [Act.put]
          refine wpAnyH_take (i := 10) (v := ?v10e) rfl (by kernel_rfl) (by kernel_rfl) (by kernel_rfl) (fun _ _ _ h => h) (Or.inl ⟨by rfl, ?hy10e⟩) (by assumption) ?rest10e
          case hy10e => (intro w hSw; (try dsimp only at hSw); go_simp <;> (try with_reducible rfl))
          simp only [Act.put]
          refine wpAnyH_take (i := 11) (v := ?v11e) rfl (by kernel_rfl) (by kernel_rfl) (by kernel_rfl) (fun _ _ _ h => h) (Or.inl ⟨by rfl, ?hy11e⟩) (by assumption) ?rest11e
          case hy11e => (intro w hSw; (try dsimp only at hSw); go_simp <;> (try with_reducible rfl))
          simp only [Act.put]
          refine wpAnyH_done (by kernel_rfl) ?_ _
          go_simp
          go_wp2_with fail
          go_ret
          exact ⟨rfl, below_chain HB.out hbw8⟩
      · have hd2I : (2 : Int) < (d : Int) := by omega
        have hcb : (c == 0) = false := by simpa using hc0
        go_wp2_with fail
        go_region_held3 (fun W => W.cell? ⟨Bb, 0, none⟩ = some (.bool t1) ∧ W.cell? ⟨Bb, 1, none⟩ = some (.slice y1 m1 q1) ∧ W.cell? ⟨Bb, 2, none⟩ = some (.slice y1' m1' q1'))
          (first | exact HKB.out _ hcur0 | exact HKB.out _ hcur | exact HKB.out _ hbw5 | exact HKB.out _ hbw6)
          (first
            | (go_at_call 16; refine (HCB.out _ _ hbw5 HXw5.out).mono ?_; rintro e w6 ⟨rfl, hnw6⟩; have hbw6 := below_chain hbw5 hnw6; clear hnw6)
            | (go_at_call 11; refine (HQ1.out _).mono ?_; rintro e w5 ⟨r5, rfl, hr5, hnw5⟩; have hbw5 := below_chain hcur hnw5; have HXw5 := Hid.mk' hr5; obtain ⟨e5, p5, i5, j5, p5', i5', j5', hr5e⟩ := hr5.sl; subst hr5e; clear hr5 hnw5))
        all_goals
          have hcur1 := hbw6
          have hcur2 : Below wx.heap.size wx w6.drew := hbw6.drew
          clear HXw5 hbw5
          go_wp2_with fail
          go_region_held3 (fun W => W.cell? ⟨Ba, 0, none⟩ = some (.bool s1) ∧ W.cell? ⟨Ba, 1, none⟩ = some (.slice x1 l1 c1) ∧ W.cell? ⟨Ba, 2, none⟩ = some (.slice x1' l1' c1'))
            (first | exact HKA.out _ hcur1 | exact HKA.out _ hcur2 | exact HKA.out _ hbw7 | exact HKA.out _ hbw8)
            (first
              | (go_at_call 16; refine (HCA.out _ _ hbw7 HXw7.out).mono ?_; rintro e w8 ⟨rfl, hnw8⟩; have hbw8 := below_chain hbw7 hnw8; clear hnw8)
              | (go_at_call 11; refine (HQ1.out _).mono ?_; rintro e w7 ⟨r5, rfl, hr5, hnw7⟩; have hbw7 := below_chain hcur2 hnw7; have HXw7 := Hid.mk' hr5; obtain ⟨e5, p5, i5, j5, p5', i5', j5', hr5e⟩ := hr5.sl; subst hr5e; clear hr5 hnw7))
          all_goals
            go_wp2_with fail
            go_ret
            exact ⟨rfl, below_chain HB.out hbw8⟩
end Go.Proofs.YtkglaiigoogapaaGreatDoor

/- The law LempelSums, at all numbers. -/
namespace Go.Proofs.YtkglaiigoogapaaGreatDoor
open Go.RowKit

set_option maxRecDepth 100000 in
theorem LempelSums_all (a : Nat → Addr) (n d : Int) (w : World) (hE : Errs w a) :
    Calls Tryz.prog 4 #[.int .i64 n, .int .i64 d] w fun e w' => e = .returned (.bool true) ∧ Below w.heap.size w w' := by
  have hA := abab_any w
  by_cases h1 : n < 0
  · clear hE
    go_enter Tryz.func4, Tryz.ntmps4
    go_wp2_with fail
    refine hA.mono ?_
    rintro e w1 ⟨rfl, hb1⟩
    go_wp2_with fail
    go_ret
    exact ⟨rfl, hb1⟩
  have h10 : 0 ≤ n := by omega
  by_cases h2 : 7 < n
  · clear hE
    go_enter Tryz.func4, Tryz.ntmps4
    go_wp2_with fail
    refine hA.mono ?_
    rintro e w1 ⟨rfl, hb1⟩
    go_wp2_with fail
    go_ret
    exact ⟨rfl, hb1⟩
  have h20 : n ≤ 7 := by omega
  by_cases h3 : d < 0
  · clear hE
    go_enter Tryz.func4, Tryz.ntmps4
    go_wp2_with fail
    refine hA.mono ?_
    rintro e w1 ⟨rfl, hb1⟩
    go_wp2_with fail
    go_ret
    exact ⟨rfl, hb1⟩
  have h30 : 0 ≤ d := by omega
  by_cases h4 : 4 < d
  · clear hE
    go_enter Tryz.func4, Tryz.ntmps4
    go_wp2_with fail
    refine hA.mono ?_
    rintro e w1 ⟨rfl, hb1⟩
    go_wp2_with fail
    go_ret
    exact ⟨rfl, hb1⟩
  have h := LempelSums_main a n.toNat d.toNat w hE (by omega) (by omega)
  rw [Int.toNat_of_nonneg h10, Int.toNat_of_nonneg h30] at h
  exact h
end Go.Proofs.YtkglaiigoogapaaGreatDoor
