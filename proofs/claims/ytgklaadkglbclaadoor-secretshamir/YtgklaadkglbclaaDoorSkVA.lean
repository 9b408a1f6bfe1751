/- secret.valueAt: a polynomial from its highest power down; slices.Backward. -/
import Derived.RangeFuncNested
import Derived.RangeFuncBound
import Derived.RangeFuncCalls
import Derived.RangeFuncLeaves
import Derived.RangeFuncFrom
import Derived.Shelf.Abstract
import Derived.Shelf.RegionOpen
import Derived.WalkKit
import Derived.OwnWalkIn
import Derived.TacticsInMore
import Derived.LoopNIn
import Derived.LoopIn
import Derived.Test.YtgklaadkglbclaaDoorSkFld
namespace Go.Proofs.YtgklaadkglbclaaDoor
open Go.RowKit Go.Shelf
attribute [local go_sem] Oper.semAt_some

/-- What the rounds in pre have made of the value: round j takes coefficient n - 1 - j. -/
def folV (p x n : Nat) (c : Nat → Nat) (pre : List Nat) : Nat := pre.foldl (fun y j => (y * x + c (n - 1 - j)) % p) 0
theorem folV_snoc (p x n : Nat) (c : Nat → Nat) (pre : List Nat) (j : Nat) : folV p x n c (pre ++ [j]) = (folV p x n c pre * x + c (n - 1 - j)) % p := by simp [folV]
theorem folV_lt {p x n : Nat} {c : Nat → Nat} (hp : 0 < p) (pre : List Nat) : folV p x n c pre < p := by
  rcases List.eq_nil_or_concat pre with rfl | ⟨r, j, rfl⟩
  · simpa [folV] using hp
  · rw [List.concat_eq_append, folV_snoc]; exact Nat.mod_lt _ hp

theorem rem_nat (a b d p : Nat) : ((a : Int) * (b : Int) + (d : Int)) % (p : Int) = (((a * b + d) % p : Nat) : Int) := by
  rw [Int.natCast_emod, Int.natCast_add, Int.natCast_mul]
/-- What a round keeps: what lay below n₀, and the slice's box. -/
def KeepsB (n₀ Bs : Nat) (W W' : World) : Prop := Below n₀ W W' ∧ W'.cell? ⟨Bs, 0, none⟩ = W.cell? ⟨Bs, 0, none⟩
set_option maxRecDepth 100000 in
set_option maxHeartbeats 2000000 in
theorem back1_in (m : Nat) (hm : 1 ≤ m) (l Bs n₀ b o n cap : Nat) (c : Nat → Nat) (hn : n ≤ 1000) (hb : b < n₀) (J Jx : List Nat → World → Prop)
    (hY : ∀ pre j W, J pre W → pre.length < n → YieldAt Fence.wide (m - 1) Tryd.prog l #[.int .i64 ((n - 1 - j : Nat) : Int), .int .i64 (c (n - 1 - j) : Int)] W fun e W' =>
      (e = .returned (.bool true) ∧ J (pre ++ [j]) W' ∧ KeepsB n₀ Bs W W') ∨ (e = .returned (.bool false) ∧ Jx (pre ++ [j]) W'))
    (W : World) (hBs : W.cell? ⟨Bs, 0, none⟩ = some (.slice (some ⟨b, o, none⟩) n cap)) (hc : RowAt W b o n (fun i => (c i : Int))) (h0 : J [] W) :
    CallsIn Fence.wide m Tryd.prog 58 #[.func (.yield l) #[] #[], .pointer (some ⟨Bs, 0, none⟩)] W fun e W' => (∃ v, e = .returned v) ∧
      ((∃ ys, ys = List.range n ∧ J ys W') ∨ (∃ pre, True ∧ Jx pre W')) := by
  refine callsIn_of_wp Tryd.func58 rfl trivial ?_ rfl
  simp only [Tryd.ntmps58, List.size_toArray, List.length_cons, List.length_nil, Nat.reduceAdd, Nat.reduceSub, Array.replicate_succ, Array.replicate_zero, List.push_toArray, List.append_toArray, List.nil_append, List.cons_append]
  have hnI : (n : Int) ≤ 1000 := by omega
  gi_wp2
  gi_loopw [3] (fun i wr => ∃ k : Nat, k ≤ n ∧ i = .int .i64 ((n : Int) - 1 - (k : Int)) ∧ J (List.range k) wr ∧ KeepsB n₀ Bs W wr)
    (fun i _ => (intOf i + 1).toNat)
  case atStart => exact ⟨0, Nat.zero_le _, by congr 1; omega, h0, Below.refl _ _, rfl⟩
  case round =>
    obtain ⟨k, hk, rfl, hJ, hK⟩ := hrel
    have hBx := hK.2.trans hBs
    by_cases hlt : k < n
    · obtain ⟨i, hi⟩ : ∃ i : Nat, n - 1 - k = i := ⟨_, rfl⟩
      have hiI : (n : Int) - 1 - (k : Int) = (i : Int) := by omega
      have hin : i < n := by omega
      have hinI : (i : Int) < (n : Int) := by omega
      have hi0 : (0 : Int) ≤ (i : Int) := by omega
      have hcx : wr.cell? ⟨b, o + i, none⟩ = some (.int .i64 (c i : Int)) := (hK.1.cell (p := ⟨b, o + i, none⟩) hb).trans (hc i hin)
      obtain ⟨fn, tmps, assign, body, hy, hR⟩ := hY _ k wr hJ (by simpa using hlt)
      rw [hi] at hy
      rw [hiI]
      gi_wp2
      refine hR.mono ?_
      rintro e W3 (⟨rfl, hJ3, hk3⟩ | ⟨rfl, hJx3⟩)
      · gi_wp2
        go_roundw
        case rel => exact ⟨k + 1, by omega, by congr 1; simp; omega, by rw [List.range_succ]; exact hJ3, hK.1.trans hk3.1, hk3.2.trans hK.2⟩
        case measure => simp [intOf]
      · gi_wp2
        refine bodyPost_ret (results_none rfl _ _ _) rfl ?_
        exact ⟨⟨_, rfl⟩, .inr ⟨_, trivial, hJx3⟩⟩
    · obtain rfl : k = n := by omega
      have hneg : ¬ (0 : Int) ≤ (k : Int) - 1 - (k : Int) := by omega
      gi_wp2
      go_end0
      exact ⟨⟨_, rfl⟩, .inl hJ⟩
theorem back_stops (m : Nat) (hm : 1 ≤ m) (Bs n₀ b o n cap : Nat) (c : Nat → Nat) (hn : n ≤ 1000) (hb : b < n₀) (w : World) (hBs : Bs < w.heap.size) (hc : w.cell? ⟨Bs, 0, none⟩ = some (.slice (some ⟨b, o, none⟩) n cap)) (hr : RowAt w b o n (fun i => (c i : Int))) :
    SeqStopsK Fence.wide m Tryd.prog 58 #[.pointer (some ⟨Bs, 0, none⟩)] (fun j : Nat => #[Value.int .i64 ((n - 1 - j : Nat) : Int), Value.int .i64 (c (n - 1 - j) : Int)]) (KeepsB n₀ Bs) (fun ys => ys = List.range n) (fun _ => True) n w := fun l J Jx W hW _ _ hY h0 =>
  back1_in m hm l Bs n₀ b o n cap c hn hb J Jx hY W ((hW.cell (p := ⟨Bs, 0, none⟩) hBs).trans hc) (hr.later hW) h0
set_option maxHeartbeats 1000000 in
theorem Backward_in (m : Nat) (a : Option Addr) (n cap : Nat) (w : World) :
    CallsIn Fence.wide m Tryd.prog 48 #[.slice a n cap] w fun e w' => e = .returned (.func (.func 58) #[] #[.pointer (some ⟨w.heap.size, 0, none⟩)]) ∧ w' = w.alloc (.cells #[.slice a n cap] 22) := by
  refine callsIn_of_wp Tryd.func48 rfl trivial ?_ rfl
  simp only [Tryd.ntmps48, List.size_toArray, List.length_cons, List.length_nil, Nat.reduceAdd, Nat.reduceSub, Array.replicate_succ, Array.replicate_zero, List.push_toArray, List.append_toArray, List.nil_append, List.cons_append]
  gi_wp2
  go_ret
  exact ⟨rfl, rfl⟩
theorem keepsB_t {n₀ Bs : Nat} {A B C : World} (h : KeepsB n₀ Bs A B) (k : KeepsB n₀ Bs B C) : KeepsB n₀ Bs A C := ⟨h.1.trans k.1, k.2.trans h.2⟩
theorem keepsB_b {n₀ Bs : Nat} {w : World} (hn : n₀ ≤ w.heap.size) (hB : Bs < w.heap.size) (W : World) (l : Nat) (o o' : Obj) (hl : w.heap.size ≤ l) (h : W.heap[l]? = some o) (h1 : o.isCells = false) (h2 : o.isWalk = false) : KeepsB n₀ Bs W (W.putObj l o') :=
  ⟨belowK_b (w := w) hn W l o o' hl h h1 h2, (belowK_b (w := w) (Nat.le_refl _) W l o o' hl h h1 h2).cell (p := ⟨Bs, 0, none⟩) hB⟩
set_option maxRecDepth 100000 in
set_option maxHeartbeats 2000000 in
theorem valueAt_any (p x n b o cap : Nat) (c : Nat → Nat) (w : World) (hr : RowAt w b o n (fun i => (c i : Int))) (hc : ∀ i, c i < p) (hp : p ≤ 997) (hx : x ≤ 1000) (hn : n ≤ 12) (h0 : 0 < n) :
    Calls Tryd.prog 36 #[.int .i64 (p : Int), .slice (some ⟨b, o, none⟩) n cap, .int .i64 (x : Int)] w fun e w' => e = .returned (.int .i64 (folV p x n c (List.range n) : Int)) ∧ Below w.heap.size w w' := by
  refine (callsIn_wide (n := 3)).1 ?_
  have hp0 : 0 < p := Nat.lt_of_le_of_lt (Nat.zero_le _) (hc 0)
  have hbl : b < w.heap.size := cell_lt (hr 0 h0)
  have h1 : 1 ≤ 3 := by omega
  refine callsIn_of_wp_marks Tryd.func36 rfl trivial ?_ rfl
  simp only [Tryd.ntmps36, List.size_toArray, List.length_cons, List.length_nil, Nat.reduceAdd, Nat.reduceSub, Array.replicate_succ, Array.replicate_zero, List.push_toArray, List.append_toArray, List.nil_append, List.cons_append]
  gi_wp2_with (refine ⟨trivial, ?_⟩; gi_at_call 48; refine (Backward_in _ _ _ _ _).mono ?_; rintro e w' ⟨rfl, rfl⟩)
  obtain ⟨W0, hW0⟩ : ∃ W0, W0 = (((w.alloc (.cells #[.int .i64 (p : Int)] 3)).alloc (.cells #[.int .i64 (x : Int)] 3)).alloc (.cells #[.int .i64 0] 3)).alloc (.cells #[.slice (some ⟨b, o, none⟩) n cap] 22) := ⟨_, rfl⟩
  have hsz : W0.heap.size = w.heap.size + 4 := by rw [hW0]; simp only [World.size_alloc]
  have hB0 : Below w.heap.size w W0 := by rw [hW0]; exact ((((Below.refl _ w).alloc (Nat.le_refl _) _).alloc (by simp) _).alloc (by simp only [World.size_alloc]; omega) _).alloc (by simp only [World.size_alloc]; omega) _
  have b0 : Boxed W0 w.heap.size 3 (.int .i64 (p : Int)) := by rw [hW0]; exact (((Boxed.new w _ _).alloc _).alloc _).alloc _
  have b1 : Boxed W0 (w.heap.size + 1) 3 (.int .i64 (x : Int)) := by
    have h := Boxed.new (w.alloc (.cells #[.int .i64 (p : Int)] 3)) 3 (.int .i64 (x : Int))
    rw [World.size_alloc] at h
    rw [hW0]; exact (h.alloc _).alloc _
  have b2 : Boxed W0 (w.heap.size + 1 + 1) 3 (.int .i64 0) := by
    have h := Boxed.new ((w.alloc (.cells #[.int .i64 (p : Int)] 3)).alloc (.cells #[.int .i64 (x : Int)] 3)) 3 (.int .i64 0)
    rw [World.size_alloc, World.size_alloc] at h
    rw [hW0]; exact h.alloc _
  have b3 : Boxed W0 (w.heap.size + 1 + 1 + 1) 22 (.slice (some ⟨b, o, none⟩) n cap) := by
    have h := Boxed.new (((w.alloc (.cells #[.int .i64 (p : Int)] 3)).alloc (.cells #[.int .i64 (x : Int)] 3)).alloc (.cells #[.int .i64 0] 3)) 22 (.slice (some ⟨b, o, none⟩) n cap)
    rw [World.size_alloc, World.size_alloc, World.size_alloc] at h
    rw [hW0]; exact h
  rw [← hW0]
  clear hW0
  refine wpIn_rangeFunc_ownG rfl h1 (gf := 58) (lb := #[.pointer (some ⟨w.heap.size + 1 + 1 + 1, 0, none⟩)]) rfl trivial (enters_of Tryd.func58 (by kernel_rfl) rfl)
    (back_stops 2 (by omega) (w.heap.size + 1 + 1 + 1) w.heap.size b o n cap c (by omega) hbl W0 (by omega) b3.cell (hr.later hB0)) keepsB_t (keepsB_b (by omega) (by omega)) (Below.refl _ _) (fun _ => rfl)
    (fun pre W => (W.cell? ⟨w.heap.size + 1 + 1, 0, none⟩ = some (.int .i64 (folV p x n c pre : Int)) ∧ W.frozen? ⟨w.heap.size + 1 + 1, 0, none⟩ = false ∧ W.cell? ⟨w.heap.size, 0, none⟩ = some (.int .i64 (p : Int)) ∧ W.cell? ⟨w.heap.size + 1, 0, none⟩ = some (.int .i64 (x : Int))) ∧ Below w.heap.size w W)
    (fun _ _ _ => False)
    (OwnFrom.and (Own.from (fun s A B row hs hg hr => ⟨cell_kept hs.1 hg hr, (frozen_kept hs.1 hg hr).trans hs.2.1, cell_kept hs.2.2.1 hg hr, cell_kept hs.2.2.2 hg hr⟩) _) (ownFrom_below (Nat.le_refl _) (by omega)))
    (fun _ _ _ _ _ hs _ _ => hs)
    ⟨⟨b2.cell, b2.frozen, b0.cell, b1.cell⟩, hB0⟩
    (fun j => { tmps := #[.int .i64 (p : Int), .slice (some ⟨b, o, none⟩) n cap, .int .i64 (x : Int), .pointer (some ⟨w.heap.size, 0, none⟩), undef, .pointer (some ⟨w.heap.size + 1, 0, none⟩), .int .i64 0, .pointer (some ⟨w.heap.size + 1 + 1, 0, none⟩), undef, .int .i64 (c (n - 1 - j) : Int), .slice (some ⟨b, o, none⟩) n cap, .func (.func 58) #[] #[.pointer (some ⟨w.heap.size + 1 + 1 + 1, 0, none⟩)], .int .i64 ((n - 1 - j : Nat) : Int), .int .i64 (c (n - 1 - j) : Int), undef, undef, undef, undef, undef, undef, undef, undef], defers := [] }) ?assign ?body ?done ?stop
  case assign =>
    intro l j W K hK
    gi_wp2
    exact hK
  case body =>
    rintro l pre j W ⟨⟨hv, hf, hcp, hcx⟩, hB⟩ _
    have hs := folV_snoc p x n c pre j
    have hlt := folV_lt (x := x) (n := n) (c := c) hp0 pre
    have hcj := hc (n - 1 - j)
    generalize folV p x n c pre = y at *
    generalize c (n - 1 - j) = d at *
    have hyx : y * x ≤ 997 * 1000 := Nat.mul_le_mul (by omega) hx
    gi_wp2
    rw [rem_nat, ← hs]
    refine ⟨(KeepsOthers.setCell _ _ _).from _, ⟨(Below.refl w.heap.size W).setCell (p := ⟨w.heap.size + 1 + 1, 0, none⟩) (show w.heap.size ≤ w.heap.size + 1 + 1 by omega) _, ?_⟩, ⟨?_, ?_, ?_, ?_⟩, hB.setCell (p := ⟨w.heap.size + 1 + 1, 0, none⟩) (show w.heap.size ≤ w.heap.size + 1 + 1 by omega) _⟩
    · exact World.cell?_setCell_other _ _ _ _ (fun e => by have h9 := congrArg Addr.block e; dsimp only at h9; omega)
    · exact World.cell?_setCell_same _ _ _ hv
    · rw [World.frozen?_setCell]; exact hf
    · rw [World.cell?_setCell_other _ _ _ _ (fun e => by have h9 := congrArg Addr.block e; dsimp only at h9; omega)]; exact hcp
    · rw [World.cell?_setCell_other _ _ _ _ (fun e => by have h9 := congrArg Addr.block e; dsimp only at h9; omega)]; exact hcx
  case done =>
    rintro D ys W hD rfl ⟨⟨hv, hf, hcp, hcx⟩, hB⟩ hK
    gi_wp2
    refine ⟨by simp, .inl ⟨_, _, rfl, run_takeDeferred hK, ?_⟩⟩
    exact ⟨_, results_tmp rfl _ _ _, rfl, hB.trans (belowK_b (w := w) (Nat.le_refl _) W D _ _ (by omega) hK rfl rfl)⟩
  case stop =>
    rintro D c pre W _ _ h _
    exact h.elim
end Go.Proofs.YtgklaadkglbclaaDoor
