/- heat.carried in memory: parts in a list, and their denominator, as they are filled. -/
import Derived.Test.YthomgmhmbalnbaaGreatDoorHtMath
import Derived.Test.YthomgmhmbalnbaaGreatDoorFoldAt
import Derived.Test.YthomgmhmbalnbaaGreatDoorLastOp
import Derived.Test.YthomgmhmbalnbaaGreatDoorGrid
import Derived.Test.YthomgmhmbalnbaaGreatDoorValidWalk
import Derived.BigQuiet
import Derived.Deep.CutRange
import Derived.Deep.RegionHeld3
namespace Go.Proofs.YthomgmhmbalnbaaGreatDoor
open Go.RowKit

theorem Tryz.infoNt : (Tryz.prog.info? 75).map (fun i => (i.zero, i.size, i.bytes)) = some (some (.slice none 0 0), 1, 24) := by kernel_rfl
theorem natAt_nilH (w : World) : NatAt w (.slice none 0 0) 0 := ⟨[], fun i hi => by simp at hi, fun i hi => by simp at hi, rfl, Or.inl ⟨_, _, rfl, rfl⟩⟩
theorem NatOf_zeroH (w : World) : Calls Tryz.prog 36 #[.int .u64 0] w fun e w' => e = .returned (.slice none 0 0) ∧ w' = w := by
  go_enter Tryz.func36, Tryz.ntmps36
  go_wp2_with fail
  go_ret
  exact ⟨rfl, rfl⟩
/-- Parts in a list. -/
structure NtsAt (w : World) (g n : Nat) (F : Nat → Value) (X : Nat → Nat) : Prop where
  row : RowIs w g n F
  nat : ∀ k, k < n → NatAt w (F k) (X k)
theorem NtsAt.later {w w' : World} {g n : Nat} {F : Nat → Value} {X : Nat → Nat} (h : NtsAt w g n F X) (hb : Below w.heap.size w w') : NtsAt w' g n F X := ⟨h.row.later hb, fun k hk => (h.nat k hk).later hb⟩
theorem NtsAt.congr {w : World} {g n : Nat} {F : Nat → Value} {X Y : Nat → Nat} (h : NtsAt w g n F X) (e : ∀ k, k < n → X k = Y k) : NtsAt w g n F Y := ⟨h.row, fun k hk => by rw [← e k hk]; exact h.nat k hk⟩
theorem NtsAt.put {w : World} {g n k v : Nat} {F : Nat → Value} {X : Nat → Nat} {y : Value} (h : NtsAt w g n F X) (hk : k < n) (hy : NatAt w y v) : NtsAt (w.setCell ⟨g, k, none⟩ y) g n (fun j => if j = k then y else F j) (fun j => if j = k then v else X j) := by
  have hx := h.row.row k hk
  obtain ⟨ad, l, c, hs⟩ := (h.nat k hk).isSlice
  rw [hs] at hx
  refine ⟨⟨fun j hj => ?_, fun j hj => by rw [World.frozen?_setCell]; exact h.row.fz j hj⟩, fun j hj => ?_⟩
  · rw [cell_put _ hx]
    by_cases e : j = k
    · subst e; rw [if_pos rfl, if_pos rfl]
    · rw [if_neg (fun e' => e (congrArg Addr.off e')), if_neg e]; exact h.row.row j hj
  · by_cases e : j = k
    · rw [if_pos e, if_pos e]; exact hy.putS hx
    · rw [if_neg e, if_neg e]; exact (h.nat j hj).putS hx
theorem NtsAt.aside {w : World} {g n : Nat} {F : Nat → Value} {X : Nat → Nat} {p : Addr} {ad : Option Addr} {l c : Nat} {y : Value} (h : NtsAt w g n F X) (hp : w.cell? p = some (.slice ad l c)) (hne : p.block ≠ g) : NtsAt (w.setCell p y) g n F X :=
  ⟨⟨fun j hj => by rw [cell_put _ hp, if_neg (fun e => hne (congrArg Addr.block e).symm)]; exact h.row.row j hj, fun j hj => by rw [World.frozen?_setCell]; exact h.row.fz j hj⟩, fun j hj => (h.nat j hj).putS hp⟩
/-- A variable that holds parts and a denominator. -/
structure OvS (w1 wr : World) (B g n : Nat) (y : Value) (E : Nat) (F : Nat → Value) (X : Nat → Nat) : Prop where
  below : Below w1.heap.size w1 wr
  hB : w1.heap.size ≤ B
  hg : w1.heap.size ≤ g
  ne : B ≠ g
  c0 : wr.cell? ⟨B, 0, none⟩ = some (.slice (some ⟨g, 0, none⟩) n n)
  c1 : wr.cell? ⟨B, 1, none⟩ = some y
  f1 : wr.frozen? ⟨B, 1, none⟩ = false
  nd : NatAt wr y E
  nts : NtsAt wr g n F X
theorem OvS.later {w1 wr wn : World} {B g n : Nat} {y : Value} {E : Nat} {F : Nat → Value} {X : Nat → Nat} (h : OvS w1 wr B g n y E F X) (hb : Below wr.heap.size wr wn) : OvS w1 wn B g n y E F X :=
  ⟨below_chain h.below hb, h.hB, h.hg, h.ne, by rw [hb.cell (cell_lt h.c0)]; exact h.c0, by rw [hb.cell (cell_lt h.c1)]; exact h.c1, by rw [hb.frozen (show B < wr.heap.size from cell_lt h.c1)]; exact h.f1, h.nd.later hb, h.nts.later hb⟩
theorem OvS.congr {w1 wr : World} {B g n : Nat} {y : Value} {E : Nat} {F : Nat → Value} {X Y : Nat → Nat} (h : OvS w1 wr B g n y E F X) (e : ∀ k, k < n → X k = Y k) : OvS w1 wr B g n y E F Y := ⟨h.below, h.hB, h.hg, h.ne, h.c0, h.c1, h.f1, h.nd, h.nts.congr e⟩
theorem OvS.putD {w1 wr : World} {B g n : Nat} {y : Value} {E : Nat} {F : Nat → Value} {X : Nat → Nat} {x : Value} {v : Nat} (h : OvS w1 wr B g n y E F X) (hx : NatAt wr x v) : OvS w1 (wr.setCell ⟨B, 1, none⟩ x) B g n x v F X := by
  obtain ⟨ad, l, c, hs⟩ := h.nd.isSlice
  have hc := h.c1
  rw [hs] at hc
  exact ⟨h.below.setCell h.hB _, h.hB, h.hg, h.ne, by rw [cell_put _ hc, if_neg (by simp)]; exact h.c0, by rw [cell_put _ hc, if_pos rfl], by rw [World.frozen?_setCell]; exact h.f1, hx.putS hc, h.nts.aside hc h.ne⟩
theorem OvS.putP {w1 wr : World} {B g n k : Nat} {y : Value} {E : Nat} {F : Nat → Value} {X : Nat → Nat} {x : Value} {v : Nat} (h : OvS w1 wr B g n y E F X) (hk : k < n) (hx : NatAt wr x v) : OvS w1 (wr.setCell ⟨g, k, none⟩ x) B g n y E (fun j => if j = k then x else F j) (fun j => if j = k then v else X j) := by
  have hc := h.nts.row.row k hk
  obtain ⟨ad, l, c, hs⟩ := (h.nts.nat k hk).isSlice
  rw [hs] at hc
  exact ⟨h.below.setCell h.hg _, h.hB, h.hg, h.ne, by rw [cell_put _ hc, if_neg (fun e => h.ne (congrArg Addr.block e))]; exact h.c0, by rw [cell_put _ hc, if_neg (fun e => h.ne (congrArg Addr.block e))]; exact h.c1, by rw [World.frozen?_setCell]; exact h.f1, h.nd.putS hc, h.nts.put hk hx⟩
/-- A list that is made, then its variable; and the other way round. -/
theorem ovs_late {w1 w2 : World} {g n : Nat} {ya : Option Addr} {yl yc E : Nat} (hb : Below w1.heap.size w1 w2) (hg : w1.heap.size ≤ g) (hn : 0 < n) (hr : RowIs w2 g n (fun _ => .slice none 0 0)) (hd : NatAt w2 (.slice ya yl yc) E) :
    OvS w1 (w2.alloc (.cells #[.slice (some ⟨g, 0, none⟩) n n, .slice ya yl yc] 77)) w2.heap.size g n (.slice ya yl yc) E (fun _ => .slice none 0 0) (fun _ => 0) := by
  have hgl : g < w2.heap.size := cell_lt (hr.row 0 hn)
  have h9 : Below w2.heap.size w2 (w2.alloc (.cells #[.slice (some ⟨g, 0, none⟩) n n, .slice ya yl yc] 77)) := (Below.refl _ _).alloc (Nat.le_refl _) _
  exact ⟨below_chain hb h9, hb.size, hg, by omega, by simp, by simp, by simp, hd.later h9, hr.later h9, fun k _ => natAt_nilH _⟩
theorem ovs_soon {w1 W w2 : World} {g n : Nat} {ya : Option Addr} {yl yc E : Nat} {x0 x1 : Option Addr} {l0 l1 k0 k1 : Nat} (hW : W.heap.size = w1.heap.size + 1) (hbW : Below w1.heap.size w1 W) (hb : Below W.heap.size W w2) (hg : w1.heap.size + 1 ≤ g) (hr : RowIs w2 g n (fun _ => .slice none 0 0)) (hd : NatAt w1 (.slice ya yl yc) E)
    (c0 : W.cell? ⟨w1.heap.size, 0, none⟩ = some (.slice x0 l0 k0)) (c1 : W.cell? ⟨w1.heap.size, 1, none⟩ = some (.slice x1 l1 k1)) (f1 : W.frozen? ⟨w1.heap.size, 1, none⟩ = false) :
    OvS w1 ((w2.setCell ⟨w1.heap.size, 0, none⟩ (.slice (some ⟨g, 0, none⟩) n n)).setCell ⟨w1.heap.size, 1, none⟩ (.slice ya yl yc)) w1.heap.size g n (.slice ya yl yc) E (fun _ => .slice none 0 0) (fun _ => 0) := by
  have d0 : w2.cell? ⟨w1.heap.size, 0, none⟩ = some (.slice x0 l0 k0) := by rw [hb.cell (cell_lt c0)]; exact c0
  have d1 : w2.cell? ⟨w1.heap.size, 1, none⟩ = some (.slice x1 l1 k1) := by rw [hb.cell (cell_lt c1)]; exact c1
  have e1 : (w2.setCell ⟨w1.heap.size, 0, none⟩ (.slice (some ⟨g, 0, none⟩) n n)).cell? ⟨w1.heap.size, 1, none⟩ = some (.slice x1 l1 k1) := by rw [cell_put _ d0, if_neg (by simp)]; exact d1
  have hN : NtsAt w2 g n (fun _ => .slice none 0 0) (fun _ => 0) := ⟨hr, fun k _ => natAt_nilH _⟩
  refine ⟨((below_chain hbW hb).setCell (Nat.le_refl _) _).setCell (Nat.le_refl _) _, Nat.le_refl _, by omega, by omega, ?_, ?_, ?_, ?_, ?_⟩
  · rw [cell_put _ e1, if_neg (by simp), cell_put _ d0, if_pos rfl]
  · rw [cell_put _ e1, if_pos rfl]
  · rw [World.frozen?_setCell, World.frozen?_setCell, hb.frozen (show w1.heap.size < W.heap.size by omega)]; exact f1
  · exact ((hd.later (below_chain hbW hb)).putS d0).putS e1
  · exact (hN.aside d0 (by show w1.heap.size ≠ g; omega)).aside e1 (by show w1.heap.size ≠ g; omega)
theorem ovs_put {w1 Wf : World} {B g n : Nat} {ya : Option Addr} {yl yc E : Nat} {x0 x1 : Option Addr} {l0 l1 k0 k1 : Nat} (hb : Below w1.heap.size w1 Wf) (hB : w1.heap.size ≤ B) (hg : w1.heap.size ≤ g) (hne : B ≠ g) (hr : RowIs Wf g n (fun _ => .slice none 0 0)) (hd : NatAt Wf (.slice ya yl yc) E)
    (d0 : Wf.cell? ⟨B, 0, none⟩ = some (.slice x0 l0 k0)) (d1 : Wf.cell? ⟨B, 1, none⟩ = some (.slice x1 l1 k1)) (f1 : Wf.frozen? ⟨B, 1, none⟩ = false) :
    OvS w1 ((Wf.setCell ⟨B, 0, none⟩ (.slice (some ⟨g, 0, none⟩) n n)).setCell ⟨B, 1, none⟩ (.slice ya yl yc)) B g n (.slice ya yl yc) E (fun _ => .slice none 0 0) (fun _ => 0) := by
  have e1 : (Wf.setCell ⟨B, 0, none⟩ (.slice (some ⟨g, 0, none⟩) n n)).cell? ⟨B, 1, none⟩ = some (.slice x1 l1 k1) := by rw [cell_put _ d0, if_neg (by simp)]; exact d1
  have hN : NtsAt Wf g n (fun _ => .slice none 0 0) (fun _ => 0) := ⟨hr, fun k _ => natAt_nilH _⟩
  refine ⟨(hb.setCell hB _).setCell hB _, hB, hg, hne, ?_, ?_, ?_, ?_, ?_⟩
  · rw [cell_put _ e1, if_neg (by simp), cell_put _ d0, if_pos rfl]
  · rw [cell_put _ e1, if_pos rfl]
  · rw [World.frozen?_setCell, World.frozen?_setCell]; exact f1
  · exact (hd.putS d0).putS e1
  · exact (hN.aside d0 hne).aside e1 hne
theorem ovs_of {w1 w2 : World} {g n : Nat} {y : Value} {E : Nat} {F : Nat → Value} {X : Nat → Nat} (hb : Below w1.heap.size w1 w2) (hg : w1.heap.size ≤ g) (hn : 0 < n) (h : NtsAt w2 g n F X) (hd : NatAt w2 y E) :
    OvS w1 (w2.alloc (.cells #[.slice (some ⟨g, 0, none⟩) n n, y] 77)) w2.heap.size g n y E F X := by
  have hgl : g < w2.heap.size := cell_lt (h.row.row 0 hn)
  have h9 : Below w2.heap.size w2 (w2.alloc (.cells #[.slice (some ⟨g, 0, none⟩) n n, y] 77)) := (Below.refl _ _).alloc (Nat.le_refl _) _
  exact ⟨below_chain hb h9, hb.size, hg, by omega, by simp, by simp, by simp, hd.later h9, h.later h9⟩
/-- What is handed back: the same in another variable ahead of it. -/
theorem OvS.fin {w1 wr : World} {B g n R : Nat} {y : Value} {E : Nat} {F : Nat → Value} {X : Nat → Nat} (h : OvS w1 wr B g n y E F X) (hR : R < w1.heap.size) {x0 x1 : Option Addr} {l0 l1 k0 k1 : Nat} (c0 : wr.cell? ⟨R, 0, none⟩ = some (.slice x0 l0 k0)) (c1 : wr.cell? ⟨R, 1, none⟩ = some (.slice x1 l1 k1)) :
    NtsAt ((wr.setCell ⟨R, 0, none⟩ (.slice (some ⟨g, 0, none⟩) n n)).setCell ⟨R, 1, none⟩ y) g n F X ∧ NatAt ((wr.setCell ⟨R, 0, none⟩ (.slice (some ⟨g, 0, none⟩) n n)).setCell ⟨R, 1, none⟩ y) y E ∧ ((wr.setCell ⟨R, 0, none⟩ (.slice (some ⟨g, 0, none⟩) n n)).setCell ⟨R, 1, none⟩ y).cell? ⟨R, 0, none⟩ = some (.slice (some ⟨g, 0, none⟩) n n) ∧ ((wr.setCell ⟨R, 0, none⟩ (.slice (some ⟨g, 0, none⟩) n n)).setCell ⟨R, 1, none⟩ y).cell? ⟨R, 1, none⟩ = some y := by
  have e1 : (wr.setCell ⟨R, 0, none⟩ (.slice (some ⟨g, 0, none⟩) n n)).cell? ⟨R, 1, none⟩ = some (.slice x1 l1 k1) := by rw [cell_put _ c0, if_neg (by simp)]; exact c1
  have hne : R ≠ g := by have := h.hg; omega
  exact ⟨(h.nts.aside c0 hne).aside e1 hne, (h.nd.putS c0).putS e1, by rw [cell_put _ e1, if_neg (by simp), cell_put _ c0, if_pos rfl], by rw [cell_put _ e1, if_pos rfl]⟩
/-- times, also by 0. -/
theorem Times_byH (u : Value) (n m k : Nat) (w : World) (h : NatAt w u n) (hm : m < 18446744073709551616) (hk : n < 18446744073709551616 ^ k) (hk6 : k ≤ 1000000) :
    Calls Tryz.prog 65 #[u, .int .u64 (m : Int)] w fun e w' => ∃ v, e = .returned v ∧ NatAt w' v (n * m) ∧ Below w.heap.size w w' := by
  rcases Nat.eq_zero_or_pos m with rfl | h0
  · obtain ⟨ad, l, c, rfl⟩ := h.isSlice
    clear h hk
    go_enter Tryz.func65, Tryz.ntmps65
    go_wp2_with fail
    go_ret
    exact ⟨_, rfl, natAt_nilH _, Below.refl _ _⟩
  · exact Times_any u n m k w h h0 hm hk hk6
theorem NatOf_allH (n : Nat) (w : World) (h : n < 18446744073709551616) : Calls Tryz.prog 36 #[.int .u64 n] w fun e w' => ∃ v, e = .returned v ∧ NatAt w' v n ∧ Below w.heap.size w w' := by
  rcases Nat.eq_zero_or_pos n with rfl | h0
  · exact (NatOf_zeroH w).mono fun e w' ⟨he, hw⟩ => ⟨_, he, natAt_nilH _, by rw [hw]; exact Below.refl _ _⟩
  · exact NatOf_any n w h0 h
end Go.Proofs.YthomgmhmbalnbaaGreatDoor
