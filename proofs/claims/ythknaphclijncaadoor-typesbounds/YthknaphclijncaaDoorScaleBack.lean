/- logs.Scale by -1 over 1. -/
import Derived.Test.YthknaphclijncaaDoorAddAny
import Derived.OwnWalk
namespace Go.Proofs.YthknaphclijncaaDoor
open Go.RowKit Go.Maps

set_option maxRecDepth 10000 in
set_option maxHeartbeats 1000000 in
theorem lowest_back (w : World) : Calls Tryd.prog 34 #[.int .i64 (-1), .int .i64 1] w fun e w' => e = .returned (.agg #[.int .i64 (-1), .int .i64 1]) ∧ Below w.heap.size w w' := by
  have hB0 : Below w.heap.size w (w.alloc (.cells #[.int .i64 0, .int .i64 0] 37)) := (Below.refl _ _).alloc (Nat.le_refl _) _
  have hg := GCD_any (-1) 1 (w.alloc (.cells #[.int .i64 0, .int .i64 0] 37)) (by omega) (by omega) (by omega) (by omega)
  rw [show ((Int.gcd (-1) 1 : Nat) : Int) = 1 from rfl] at hg
  have HB := Hid.mk' hB0
  clear hB0
  go_enter Tryd.func34, Tryd.ntmps34
  go_wp2_with fail
  refine hg.mono ?_
  clear hg
  rintro e w1 ⟨rfl, m, rfl⟩
  go_wp2_with fail
  go_region
  go_wp2_with fail
  refine bodyPost_ret (v := .agg #[.int .i64 (-1), .int .i64 1]) (by simp [results, Tryd.results34, go_sem]) rfl ⟨rfl, ?_⟩
  exact ((below_drewN HB.out _).setCell (by simp) _).setCell (by simp) _

theorem new_below2 (w : World) (X : Obj) : Below w.heap.size w (w.alloc X) := (Below.refl _ _).alloc (Nat.le_refl _) _
theorem ownsRow_later {w w' : World} {B e size n : Nat} {v : Value} {xs : List Value} (h : w.ownsRow B e size v n xs) (hb : Below w.heap.size w w') : w'.ownsRow B e size v n xs := by
  obtain ⟨hl, hr⟩ := h
  rcases hr with h | ⟨g, cap, cur, hv, hg, hh, r⟩
  · exact ⟨hl, Or.inl h⟩
  · exact ⟨hl, Or.inr ⟨g, cap, cur, hv, hg, by rw [hb.block g (heap_lt hh)]; exact hh, r⟩⟩
/-- What scaled's second loop keeps: the row lies at N, the answer's box at Bx. -/
structure InScale (w wr : World) (N Bx : Nat) (d : Int) (n : Nat) (p c : Nat → Int) (k : Nat) : Prop where
  below : Below N w wr
  lt : N < Bx
  o0 : wr.cell? ⟨Bx, 0, none⟩ = some (.int .i64 d)
  o1 : wr.cell? ⟨Bx, 1, none⟩ = some (.slice (some ⟨N, 0, none⟩) k n)
  f0 : wr.frozen? ⟨Bx, 0, none⟩ = false
  fz : wr.frozen? ⟨Bx, 1, none⟩ = false
  row : wr.ownsRow N 99 2 (.slice (some ⟨N, 0, none⟩) k n) k (termCells p (fun i => -c i) k)
theorem InScale.later {w wr wn : World} {N Bx : Nat} {d : Int} {n : Nat} {p c : Nat → Int} {k : Nat} (h : InScale w wr N Bx d n p c k) (hb : Below wr.heap.size wr wn) : InScale w wn N Bx d n p c k :=
  ⟨h.below.trans (hb.mono (by have := cell_lt h.o0; have := h.lt; simp only at *; omega)), h.lt, (cell_past h.o0 hb).2, (cell_past h.o1 hb).2, (frozen_past h.o0 h.f0 hb).2, (frozen_past h.o1 h.fz hb).2, ownsRow_later h.row hb⟩
theorem InScale.pushed {w wr w3 : World} {N Bx : Nat} {d : Int} {n : Nat} {p c : Nat → Int} {k : Nat} (h : InScale w wr N Bx d n p c k) (hg : wr.grownBy w3 (some N)) (hrow : w3.ownsRow N 99 2 (.slice (some ⟨N, 0, none⟩) (k + 1) n) (k + 1) (termCells p (fun i => -c i) k ++ [.int .i64 (p k), .int .i64 (-c k)])) :
    w3.cell? ⟨Bx, 1, none⟩ = some (.slice (some ⟨N, 0, none⟩) k n) ∧ w3.frozen? ⟨Bx, 1, none⟩ = false ∧ InScale w (w3.setCell ⟨Bx, 1, none⟩ (.slice (some ⟨N, 0, none⟩) (k + 1) n)) N Bx d n p c (k + 1) := by
  have hlt := cell_lt h.o0
  have hNB := h.lt
  simp only at hlt
  have c0 := cell_beside hg h.o0 (by omega)
  have c1 := cell_beside hg h.o1 (by omega)
  have hblk := hg.block Bx hlt (by simp; omega)
  have f0 : w3.frozen? ⟨Bx, 0, none⟩ = false := by rw [← h.f0]; simp [World.frozen?, hblk]
  have f1 : w3.frozen? ⟨Bx, 1, none⟩ = false := by rw [← h.fz]; simp [World.frozen?, hblk]
  refine ⟨c1, f1, ⟨(h.below.grown hg (by omega) (fun j e => by cases e; exact Nat.le_refl _)).setCell (by simp; omega) _, h.lt, ?_, World.cell?_setCell_same _ _ _ c1, by simpa using f0, by simpa using f1, ?_⟩⟩
  · rw [World.cell?_setCell_other _ _ _ _ (by simp)]; exact c0
  · obtain ⟨hl, hr⟩ := hrow
    refine ⟨hl, ?_⟩
    rcases hr with hr | ⟨gg, cap, cur, hv, hg1, hh, rest⟩
    · exact Or.inl hr
    · refine Or.inr ⟨gg, cap, cur, hv, hg1, ?_, rest⟩
      have : gg = N := by simp at hv; exact hv.1.symm
      rw [Below.heap_setCell _ _ _ _ (by show gg ≠ Bx; omega)]
      exact hh
theorem inScale_start {W W3 : World} {d : Int} {n : Nat} {p c : Nat → Int} (ho : W3.ownsRow W.heap.size 99 2 (.slice (some ⟨W.heap.size, 0, none⟩) 0 n) 0 []) (hg : W.grownBy W3 none) : InScale W (W3.alloc (.cells #[.int .i64 d, .slice (some ⟨W.heap.size, 0, none⟩) 0 n] 32)) W.heap.size W3.heap.size d n p c 0 := by
  have hlt : W.heap.size < W3.heap.size := by
    rcases ho.2 with ⟨h, _⟩ | ⟨g, cap, cur, hv, _, hh, _⟩
    · cases h
    · have : W.heap.size = g := by simp at hv; exact hv.1
      rw [this]; exact heap_lt hh
  refine ⟨((Below.refl _ _).grown hg (Nat.le_refl _) (fun j e => by cases e)).alloc (by omega) _, hlt, by rw [World.cell?_alloc_at _ _ _ _ rfl]; rfl, by rw [World.cell?_alloc_at _ _ _ _ rfl]; rfl, frozen_new rfl, frozen_new rfl, ownsRow_later ho (new_below2 _ _)⟩

theorem ownAt_slice {w : World} {v : Value} {n : Nat} {p c : Nat → Int} (h : OwnAt w v n p c) : ∃ ad m cap, v = .slice ad m cap := by
  rcases h with ⟨rfl, _⟩ | ⟨g, cap, rfl, _⟩
  · exact ⟨_, _, _, rfl⟩
  · exact ⟨_, _, _, rfl⟩
theorem OwnAt.set {w : World} {v : Value} {n : Nat} {p c : Nat → Int} {B : Nat} {ad : Option Addr} {l cap : Nat} {x y : Value} (h : OwnAt w v n p c) (hn : 0 < n) (hx : w.cell? ⟨B, 1, none⟩ = some (.slice ad l cap)) : OwnAt ((w.setCell ⟨B, 0, none⟩ x).setCell ⟨B, 1, none⟩ y) v n p c := by
  rcases h with h | ⟨g, cap', rfl, ht⟩
  · exact Or.inl h
  · have hne : B ≠ g := fun e => by
      have h1 := (ht 0 hn).2
      rw [← e] at h1
      simp only [Nat.zero_mul, Nat.zero_add] at h1
      rw [hx] at h1
      cases h1
    refine Or.inr ⟨g, cap', rfl, fun i hi => ⟨?_, ?_⟩⟩
    · rw [World.cell?_setCell_far _ _ _ _ hne, World.cell?_setCell_far _ _ _ _ hne]; exact (ht i hi).1
    · rw [World.cell?_setCell_far _ _ _ _ hne, World.cell?_setCell_far _ _ _ _ hne]; exact (ht i hi).2
theorem gcd_one_any (c : Int) : ((Int.gcd 1 c : Nat) : Int) = 1 := by simp [Int.gcd]
theorem gcd_back_any (c : Int) : ((Int.gcd (-1) c : Nat) : Int) = 1 := by simp [Int.gcd]

set_option maxRecDepth 100000 in
set_option maxHeartbeats 2000000 in
theorem scaled_back (d : Int) (ad : Option Addr) (n cap : Nat) (p c : Nat → Int) (w : World) (hl : LogAt w (.slice ad n cap) n p c) (hok : OkLog d n p c) (hn0 : 0 < n) (hn : n ≤ 10000) :
    Calls Tryd.prog 33 #[.agg #[.int .i64 d, .slice ad n cap], .agg #[.int .i64 (-1), .int .i64 1]] w fun e w' => ∃ v, e = .returned (.tuple #[.agg #[.int .i64 d, v], .nilIface]) ∧ OwnAt w' v n p (fun i => -c i) ∧ Below w.heap.size w w' := by
  have hb0 : Below w.heap.size w (((w.alloc (.cells #[.int .i64 d, .slice ad n cap] 32)).alloc (.cells #[.int .i64 (-1), .int .i64 1] 37)).alloc (.cells #[.int .i64 0, .slice none 0 0] 32)) := (((Below.refl _ _).alloc (Nat.le_refl _) _).alloc (by simp) _).alloc (by simp; omega) _
  have k0 : (((w.alloc (.cells #[.int .i64 d, .slice ad n cap] 32)).alloc (.cells #[.int .i64 (-1), .int .i64 1] 37)).alloc (.cells #[.int .i64 0, .slice none 0 0] 32)).cell? ⟨w.heap.size, 0, none⟩ = some (.int .i64 d) := by rw [World.cell?_alloc_lt _ _ ⟨w.heap.size, 0, none⟩ (by simp; omega), World.cell?_alloc_lt _ _ ⟨w.heap.size, 0, none⟩ (by simp), World.cell?_alloc_at _ _ _ _ rfl]; rfl
  have k1 : (((w.alloc (.cells #[.int .i64 d, .slice ad n cap] 32)).alloc (.cells #[.int .i64 (-1), .int .i64 1] 37)).alloc (.cells #[.int .i64 0, .slice none 0 0] 32)).cell? ⟨w.heap.size, 1, none⟩ = some (.slice ad n cap) := by rw [World.cell?_alloc_lt _ _ ⟨w.heap.size, 1, none⟩ (by simp; omega), World.cell?_alloc_lt _ _ ⟨w.heap.size, 1, none⟩ (by simp), World.cell?_alloc_at _ _ _ _ rfl]; rfl
  have k2 : (((w.alloc (.cells #[.int .i64 d, .slice ad n cap] 32)).alloc (.cells #[.int .i64 (-1), .int .i64 1] 37)).alloc (.cells #[.int .i64 0, .slice none 0 0] 32)).cell? ⟨w.heap.size + 1, 0, none⟩ = some (.int .i64 (-1)) := by rw [World.cell?_alloc_lt _ _ ⟨w.heap.size + 1, 0, none⟩ (by simp), World.cell?_alloc_at _ _ _ _ (by simp)]; rfl
  have k3 : (((w.alloc (.cells #[.int .i64 d, .slice ad n cap] 32)).alloc (.cells #[.int .i64 (-1), .int .i64 1] 37)).alloc (.cells #[.int .i64 0, .slice none 0 0] 32)).cell? ⟨w.heap.size + 1, 1, none⟩ = some (.int .i64 1) := by rw [World.cell?_alloc_lt _ _ ⟨w.heap.size + 1, 1, none⟩ (by simp), World.cell?_alloc_at _ _ _ _ (by simp)]; rfl
  have k4 : (((w.alloc (.cells #[.int .i64 d, .slice ad n cap] 32)).alloc (.cells #[.int .i64 (-1), .int .i64 1] 37)).alloc (.cells #[.int .i64 0, .slice none 0 0] 32)).cell? ⟨w.heap.size + 1 + 1, 0, none⟩ = some (.int .i64 0) := by rw [World.cell?_alloc_at _ _ _ _ (by simp)]; rfl
  have k5 : (((w.alloc (.cells #[.int .i64 d, .slice ad n cap] 32)).alloc (.cells #[.int .i64 (-1), .int .i64 1] 37)).alloc (.cells #[.int .i64 0, .slice none 0 0] 32)).cell? ⟨w.heap.size + 1 + 1, 1, none⟩ = some (.slice none 0 0) := by rw [World.cell?_alloc_at _ _ _ _ (by simp)]; rfl
  have k6 : ∀ j, (((w.alloc (.cells #[.int .i64 d, .slice ad n cap] 32)).alloc (.cells #[.int .i64 (-1), .int .i64 1] 37)).alloc (.cells #[.int .i64 0, .slice none 0 0] 32)).frozen? ⟨w.heap.size + 1 + 1, j, none⟩ = false := fun j => frozen_new (by simp)
  have hz0 : w.heap.size + 1 + 1 + 1 = (((w.alloc (.cells #[.int .i64 d, .slice ad n cap] 32)).alloc (.cells #[.int .i64 (-1), .int .i64 1] 37)).alloc (.cells #[.int .i64 0, .slice none 0 0] 32)).heap.size := by simp
  generalize hW : (((w.alloc (.cells #[.int .i64 d, .slice ad n cap] 32)).alloc (.cells #[.int .i64 (-1), .int .i64 1] 37)).alloc (.cells #[.int .i64 0, .slice none 0 0] 32)) = W0 at hb0 k0 k1 k2 k3 k4 k5 k6 hz0
  have hd1 : 1 ≤ d := hok.1
  have hd6 : d ≤ 1000000 := hok.2.1
  have hg := GCD_any (-1) d W0 (by omega) (by omega) (by omega) (by omega)
  rw [gcd_back_any] at hg
  have HW := Hid.mk' hW
  have HB0 := Hid.mk' hb0
  have HL := Hid.mk' (hl.later hb0)
  have HOK := Hid.mk' hok
  have HC : Hid (∀ W, Below W0.heap.size W0 W → (W.cell? ⟨w.heap.size, 0, none⟩ = some (.int .i64 d) ∧ W.cell? ⟨w.heap.size, 1, none⟩ = some (.slice ad n cap)) ∧ (W.cell? ⟨w.heap.size + 1, 0, none⟩ = some (.int .i64 (-1)) ∧ W.cell? ⟨w.heap.size + 1, 1, none⟩ = some (.int .i64 1)) ∧ (W.cell? ⟨w.heap.size + 1 + 1, 0, none⟩ = some (.int .i64 0) ∧ W.cell? ⟨w.heap.size + 1 + 1, 1, none⟩ = some (.slice none 0 0)) ∧ W.frozen? ⟨w.heap.size + 1 + 1, 0, none⟩ = false ∧ W.frozen? ⟨w.heap.size + 1 + 1, 1, none⟩ = false) := fun W hb => ⟨⟨(cell_past k0 hb).2, (cell_past k1 hb).2⟩, ⟨(cell_past k2 hb).2, (cell_past k3 hb).2⟩, ⟨(cell_past k4 hb).2, (cell_past k5 hb).2⟩, (frozen_past k4 (k6 0) hb).2, (frozen_past k5 (k6 1) hb).2⟩
  clear hl hok hb0 hW k4 k5 k6
  go_enter Tryd.func33, Tryd.ntmps33
  go_wp2_with fail
  rw [HW.out]
  refine hg.mono ?_
  clear hg k0 k1 k2 k3
  rintro e w1 ⟨rfl, m1, hw1⟩
  have hb1 : Below W0.heap.size W0 w1 := by rw [hw1]; exact below_drewN (Below.refl _ _) _
  clear hw1
  obtain ⟨⟨k0, k1⟩, ⟨k2, k3⟩, _⟩ := HC.out w1 hb1
  have HB1 := Hid.mk' hb1
  clear hb1
  go_wp2_with fail
  clear k0 k1 k2 k3
  go_loopw [7, 27] (fun s i wr => ∃ k : Nat, k ≤ n ∧ s = .int .i64 1 ∧ i = .int .i64 k ∧ Hid (Below W0.heap.size W0 wr)) (fun _ i _ => n - (intOf i).toNat)
  case atStart => exact ⟨0, by omega, rfl, rfl, HB1⟩
  case round =>
    clear HB1
    obtain ⟨k, hk, rfl, rfl, HB⟩ := hrel
    have hk0 : (0 : Int) ≤ (k : Int) := by omega
    by_cases hlt : k < n
    · have hkI : (k : Int) < (n : Int) := by omega
      obtain ⟨b, o, rfl, y0, y1⟩ := (HL.out.later HB.out).cellsAt hlt
      obtain ⟨_, _, hc0, hc1, _⟩ := (HOK.out.2.2.1 k hlt).2
      have hgc := GCD_any 1 (c k) (wr.alloc (.cells #[.int .i64 (p k), .int .i64 (c k)] 99)) (by omega) (by omega) (by omega) (by omega)
      rw [gcd_one_any] at hgc
      have hbA := HB.out.alloc HB.out.size (.cells #[.int .i64 (p k), .int .i64 (c k)] 99)
      have HBA := Hid.mk' hbA
      clear hbA
      go_wp2_with fail
      refine hgc.mono ?_
      clear hgc
      rintro e w2 ⟨rfl, m2, hw2⟩
      have hb2 : Below W0.heap.size W0 w2 := by rw [hw2]; exact below_drewN HBA.out _
      go_wp2_with fail
      exact ⟨⟨k + 1, by omega, rfl, by go_num, below_drewN HBA.out _⟩, by simp [intOf]; omega⟩
    · obtain rfl : k = n := by omega
      obtain ⟨⟨k0, k1⟩, ⟨k2, k3⟩, ⟨k4, k5⟩, _⟩ := HC.out wr HB.out
      go_wp2_with fail
      go_quiet (fail)
      go_wp2_with fail
      have hbq : Below W0.heap.size W0 (wr.drewN nq) := below_drewN HB.out _
      generalize wr.drewN nq = W2 at hbq ⊢
      refine (size_any (-1) W2 (by omega) (by omega)).mono ?_
      rintro e w5 ⟨rfl, hw5⟩
      rw [hw5]
      clear hw5 k0 k1 k2 k3 k4 k5
      rw [show (((-1 : Int)).natAbs : Int) = 1 from rfl]
      obtain ⟨⟨k0, k1⟩, ⟨k2, k3⟩, ⟨k4, k5⟩, _⟩ := HC.out W2 hbq
      obtain ⟨i0, hi, hz0', hz1, hz2⟩ := info_parts Tryd.infoTerm
      have HINF : Hid (Tryd.prog.info? 99 = some i0 ∧ i0.zero = some (.agg #[.int .i64 0, .int .i64 0]) ∧ i0.size = 2 ∧ i0.bytes = 16) := ⟨hi, hz0', hz1, hz2⟩
      clear hi hz0' hz1 hz2
      have HBQ := Hid.mk' hbq
      have HZ : Hid (∀ w6, W2.grownBy w6 none → Below W0.heap.size W0 w6) := fun w6 hg => hbq.grown hg hbq.size (fun j e => by cases e)
      clear hbq
      go_wp2_with (at_make; go_must (refine wpList_make_own _ rfl _ _ _ rfl W2.heap.size 99 i0 _ 2 Tryd.underlying30 HINF.out.1 HINF.out.2.1 HINF.out.2.2.1 _ _ _ k rfl rfl rfl (by rw [HINF.out.2.2.2]; omega) (by unfold maxLen; omega) (Nat.le_refl _) ?_; intro w6 hown hgrow; have HIS := Hid.mk' (inScale_start (d := d) (p := p) (c := c) hown hgrow); have z1 := fun X => (HC.out (w6.alloc X) ((HZ.out w6 hgrow).alloc (HZ.out w6 hgrow).size X)).1.2; clear hown hgrow))
      clear z1 k0 k1 k2 k3 k4 k5
      go_loopw [65] (fun i wr => ∃ j : Nat, j ≤ k ∧ i = .int .i64 j ∧ Hid (InScale W2 wr W2.heap.size w6.heap.size d k p c j)) (fun i _ => k - (intOf i).toNat)
      case atStart => exact ⟨0, by omega, rfl, HIS⟩
      case round =>
        clear HIS
        obtain ⟨j, hj, rfl, HO⟩ := hrel
        have hj0 : (0 : Int) ≤ (j : Int) := by omega
        have hbW := below_chain HBQ.out HO.out.below
        have HBW := Hid.mk' hbW
        by_cases hjk : j < k
        · have hjI : (j : Int) < (k : Int) := by omega
          obtain ⟨b, o, rfl, y0, y1⟩ := (HL.out.later hbW).cellsAt hjk
          obtain ⟨_, _, hc0, hc1, _⟩ := (HOK.out.2.2.1 j hjk).2
          have hcn : ((c j).natAbs : Int) ≤ 1099511627776 := by omega
          have x1 : ∀ X, (wr.alloc X).cell? ⟨w6.heap.size, 1, none⟩ = some (.slice (some ⟨W2.heap.size, 0, none⟩) j k) := fun X => (cell_past HO.out.o1 (new_below2 _ X)).2
          have x2 : ∀ X Y, ((wr.alloc X).alloc Y).cell? ⟨w6.heap.size, 1, none⟩ = some (.slice (some ⟨W2.heap.size, 0, none⟩) j k) := fun X Y => (cell_past (x1 X) (new_below2 _ Y)).2
          have HLAT : Hid (∀ X Y, InScale W2 ((wr.alloc X).alloc Y) W2.heap.size w6.heap.size d k p c j) := fun X Y => (HO.out.later (new_below2 _ X)).later (new_below2 _ Y)
          have hsz := fun W => size_any (c j) W (by omega) (by omega)
          clear hbW
          go_wp2_with (first
            | (go_at_call 58; refine (hsz _).mono ?_; rintro e w8 ⟨rfl, hw8⟩; rw [hw8]; clear hw8)
            | (at_builtin; go_must (refine wpList_append_fits _ rfl _ _ _ rfl W2.heap.size 99 i0 2 Tryd.underlying30 HINF.out.1 HINF.out.2.2.1 W2.heap.size j k _ rfl (HLAT.out _ _).row ⟨wr.heap.size + 1, 0, none⟩ 1 1 [.int .i64 (p j), .int .i64 (-c j)] rfl rfl (fun q u h => by have := two_new (wr.alloc (.cells #[.int .i64 (p j), .int .i64 (c j)] 99)) (.int .i64 (p j)) (.int .i64 (-c j)) 99 q u h; simpa using this) (by simp [Value.oneCell']) (by omega) ?_; intro w7 hown hgrow; obtain ⟨q1, q2, HPU⟩ := (HLAT.out _ _).pushed hgrow hown; have HP := Hid.mk' HPU; clear hown hgrow HPU)))
          exact ⟨⟨j + 1, by omega, by go_num, HP⟩, by simp [intOf]; omega⟩
        · obtain rfl : j = k := by omega
          have y0 := HO.out.o0
          have y1 := HO.out.o1
          obtain ⟨_, _, ⟨k4, k5⟩, f4, f5⟩ := HC.out wr hbW
          have hq := HBQ.out.size
          clear hbW
          go_wp2_with fail
          refine bodyPost_ret (v := .tuple #[.agg #[.int .i64 d, .slice (some ⟨W2.heap.size, 0, none⟩) j j], .nilIface]) (by simp [results, Tryd.results33, go_sem, k4, k5]) rfl ⟨.slice (some ⟨W2.heap.size, 0, none⟩) j j, rfl, ?_, ?_⟩
          · have h1 := ownsRow_setCell_below HO.out.row (a := ⟨w.heap.size + 1 + 1, 0, none⟩) (by show w.heap.size + 1 + 1 < _; omega) (.int .i64 d)
            have h2 := ownsRow_setCell_below h1 (a := ⟨w.heap.size + 1 + 1, 1, none⟩) (by show w.heap.size + 1 + 1 < _; omega) (.slice (some ⟨W2.heap.size, 0, none⟩) j j)
            exact ownAt_of_row h2
          · exact ((below_chain HB0.out HBW.out).setCell (by simp; omega) _).setCell (by simp; omega) _

set_option maxRecDepth 100000 in
set_option maxHeartbeats 2000000 in
/-- Scale by -1 over 1: the opposite. -/
theorem Scale_back (d : Int) (sv : Value) (n : Nat) (p c : Nat → Int) (a : Nat → Addr) (w : World) (h : Errs w a) (hl : LogAt w sv n p c) (hok : OkLog d n p c) (hn : n ≤ 10000) :
    Calls Tryd.prog 12 #[.agg #[.int .i64 d, sv], .agg #[.int .i64 (-1), .int .i64 1]] w fun e w' => ∃ v, e = .returned (.tuple #[.agg #[.int .i64 d, v], .nilIface]) ∧ OwnAt w' v n p (fun i => -c i) ∧ Below w.heap.size w w' := by
  obtain ⟨ad, cap, rfl⟩ := hl.slice
  have hb0 : Below w.heap.size w (((w.alloc (.cells #[.int .i64 d, .slice ad n cap] 32)).alloc (.cells #[.int .i64 (-1), .int .i64 1] 37)).alloc (.cells #[.int .i64 0, .slice none 0 0] 32)) := (((Below.refl _ _).alloc (Nat.le_refl _) _).alloc (by simp) _).alloc (by simp; omega) _
  have k0 : (((w.alloc (.cells #[.int .i64 d, .slice ad n cap] 32)).alloc (.cells #[.int .i64 (-1), .int .i64 1] 37)).alloc (.cells #[.int .i64 0, .slice none 0 0] 32)).cell? ⟨w.heap.size, 0, none⟩ = some (.int .i64 d) := by rw [World.cell?_alloc_lt _ _ ⟨w.heap.size, 0, none⟩ (by simp; omega), World.cell?_alloc_lt _ _ ⟨w.heap.size, 0, none⟩ (by simp), World.cell?_alloc_at _ _ _ _ rfl]; rfl
  have k1 : (((w.alloc (.cells #[.int .i64 d, .slice ad n cap] 32)).alloc (.cells #[.int .i64 (-1), .int .i64 1] 37)).alloc (.cells #[.int .i64 0, .slice none 0 0] 32)).cell? ⟨w.heap.size, 1, none⟩ = some (.slice ad n cap) := by rw [World.cell?_alloc_lt _ _ ⟨w.heap.size, 1, none⟩ (by simp; omega), World.cell?_alloc_lt _ _ ⟨w.heap.size, 1, none⟩ (by simp), World.cell?_alloc_at _ _ _ _ rfl]; rfl
  have k2 : (((w.alloc (.cells #[.int .i64 d, .slice ad n cap] 32)).alloc (.cells #[.int .i64 (-1), .int .i64 1] 37)).alloc (.cells #[.int .i64 0, .slice none 0 0] 32)).cell? ⟨w.heap.size + 1, 0, none⟩ = some (.int .i64 (-1)) := by rw [World.cell?_alloc_lt _ _ ⟨w.heap.size + 1, 0, none⟩ (by simp), World.cell?_alloc_at _ _ _ _ (by simp)]; rfl
  have k3 : (((w.alloc (.cells #[.int .i64 d, .slice ad n cap] 32)).alloc (.cells #[.int .i64 (-1), .int .i64 1] 37)).alloc (.cells #[.int .i64 0, .slice none 0 0] 32)).cell? ⟨w.heap.size + 1, 1, none⟩ = some (.int .i64 1) := by rw [World.cell?_alloc_lt _ _ ⟨w.heap.size + 1, 1, none⟩ (by simp), World.cell?_alloc_at _ _ _ _ (by simp)]; rfl
  have k4 : (((w.alloc (.cells #[.int .i64 d, .slice ad n cap] 32)).alloc (.cells #[.int .i64 (-1), .int .i64 1] 37)).alloc (.cells #[.int .i64 0, .slice none 0 0] 32)).cell? ⟨w.heap.size + 1 + 1, 0, none⟩ = some (.int .i64 0) := by rw [World.cell?_alloc_at _ _ _ _ (by simp)]; rfl
  have k5 : (((w.alloc (.cells #[.int .i64 d, .slice ad n cap] 32)).alloc (.cells #[.int .i64 (-1), .int .i64 1] 37)).alloc (.cells #[.int .i64 0, .slice none 0 0] 32)).cell? ⟨w.heap.size + 1 + 1, 1, none⟩ = some (.slice none 0 0) := by rw [World.cell?_alloc_at _ _ _ _ (by simp)]; rfl
  have k6 : ∀ j, (((w.alloc (.cells #[.int .i64 d, .slice ad n cap] 32)).alloc (.cells #[.int .i64 (-1), .int .i64 1] 37)).alloc (.cells #[.int .i64 0, .slice none 0 0] 32)).frozen? ⟨w.heap.size + 1 + 1, j, none⟩ = false := fun j => frozen_new (by simp)
  have hz0 : w.heap.size + 1 + 1 + 1 = (((w.alloc (.cells #[.int .i64 d, .slice ad n cap] 32)).alloc (.cells #[.int .i64 (-1), .int .i64 1] 37)).alloc (.cells #[.int .i64 0, .slice none 0 0] 32)).heap.size := by simp
  generalize hW : (((w.alloc (.cells #[.int .i64 d, .slice ad n cap] 32)).alloc (.cells #[.int .i64 (-1), .int .i64 1] 37)).alloc (.cells #[.int .i64 0, .slice none 0 0] 32)) = W0 at hb0 k0 k1 k2 k3 k4 k5 k6 hz0
  have hv := Valid_log d _ n p c a true ⟨fun _ => hok, fun _ => rfl⟩ W0 (h.below hb0) (hl.later hb0) (by omega)
  simp only [shapeErr] at hv
  have HW := Hid.mk' hW
  have HB0 := Hid.mk' hb0
  have HL := Hid.mk' (hl.later hb0)
  have HOK := Hid.mk' hok
  have HC : Hid (∀ W, Below (w.heap.size + 1 + 1) W0 W → (W.cell? ⟨w.heap.size, 0, none⟩ = some (.int .i64 d) ∧ W.cell? ⟨w.heap.size, 1, none⟩ = some (.slice ad n cap)) ∧ (W.cell? ⟨w.heap.size + 1, 0, none⟩ = some (.int .i64 (-1)) ∧ W.cell? ⟨w.heap.size + 1, 1, none⟩ = some (.int .i64 1))) := fun W hb => by
    have ha : ∀ j v, W0.cell? ⟨w.heap.size, j, none⟩ = some v → W.cell? ⟨w.heap.size, j, none⟩ = some v := fun j v h => by rw [hb.cell (p := ⟨w.heap.size, j, none⟩) (by show w.heap.size < _; omega)]; exact h
    have hb' : ∀ j v, W0.cell? ⟨w.heap.size + 1, j, none⟩ = some v → W.cell? ⟨w.heap.size + 1, j, none⟩ = some v := fun j v h => by rw [hb.cell (p := ⟨w.heap.size + 1, j, none⟩) (by show w.heap.size + 1 < _; omega)]; exact h
    exact ⟨⟨ha 0 _ k0, ha 1 _ k1⟩, ⟨hb' 0 _ k2, hb' 1 _ k3⟩⟩
  have HR : Hid (∀ W, Below W0.heap.size W0 W → (W.cell? ⟨w.heap.size + 1 + 1, 0, none⟩ = some (.int .i64 0) ∧ W.cell? ⟨w.heap.size + 1 + 1, 1, none⟩ = some (.slice none 0 0)) ∧ W.frozen? ⟨w.heap.size + 1 + 1, 0, none⟩ = false ∧ W.frozen? ⟨w.heap.size + 1 + 1, 1, none⟩ = false) := fun W hb => ⟨⟨(cell_past k4 hb).2, (cell_past k5 hb).2⟩, (frozen_past k4 (k6 0) hb).2, (frozen_past k5 (k6 1) hb).2⟩
  clear h hl hok hb0 hW k2 k3 k4 k5 k6
  go_enter Tryd.func12, Tryd.ntmps12
  go_wp2_with fail
  rw [HW.out]
  refine hv.mono ?_
  clear hv k0 k1
  rintro e w1 ⟨rfl, hb1⟩
  have hb1m : Below (w.heap.size + 1 + 1) W0 w1 := hb1.mono (by omega)
  obtain ⟨⟨k0, k1⟩, ⟨k2, k3⟩⟩ := HC.out w1 hb1m
  obtain ⟨⟨r0, r1⟩, f0, f1⟩ := HR.out w1 hb1
  have HB1 := Hid.mk' hb1
  rcases Nat.eq_zero_or_pos n with h0 | hpos
  · have hd : d = 1 := by have := HOK.out; rw [h0] at this; exact (OkLog_none d p c).1 this
    subst hd
    subst h0
    clear hb1 hb1m
    go_wp2_with fail
    refine bodyPost_ret (v := .tuple #[.agg #[.int .i64 1, .slice none 0 0], .nilIface]) (by simp [results, Tryd.results12, go_sem, r0, r1]) rfl ⟨.slice none 0 0, rfl, Or.inl ⟨rfl, rfl⟩, ((below_chain HB0.out HB1.out).setCell (by simp; omega) _).setCell (by simp; omega) _⟩
  · have hnz : ((n : Int) == 0) = false := by rw [beq_eq_false_iff_ne]; omega
    have hlow := lowest_back w1.drew
    have HLOW := Hid.mk' hlow
    have hc0 : Below (w.heap.size + 1 + 1) W0 w1 := hb1m
    have hcd : Below (w.heap.size + 1 + 1) W0 w1.drew := hb1m.drew
    clear hlow hb1 hb1m
    go_wp2_with fail
    go_region_held3 (fun W => (W.cell? ⟨w.heap.size, 0, none⟩ = some (.int .i64 d) ∧ W.cell? ⟨w.heap.size, 1, none⟩ = some (.slice ad n cap)) ∧ (W.cell? ⟨w.heap.size + 1, 0, none⟩ = some (.int .i64 (-1)) ∧ W.cell? ⟨w.heap.size + 1, 1, none⟩ = some (.int .i64 1)))
      (first | exact HC.out _ hc0 | exact HC.out _ hcd | exact HC.out _ hc2 | exact HC.out _ hc3 | exact HC.out _ ((hc3.setCell (Nat.le_refl _) _).setCell (Nat.le_refl _) _))
      (first
        | (go_at_call 33; refine (scaled_back d ad n cap p c w2 (HL.out.later HBW2.out) HOK.out hpos hn).mono ?_; rintro e w3 ⟨v, rfl, hv, hb3⟩; have hbw3 := below_chain HBW2.out hb3; have hc3 : Below (w.heap.size + 1 + 1) W0 w3 := hbw3.mono (by omega); obtain ⟨ad3, m3, cap3, rfl⟩ := ownAt_slice hv; obtain ⟨⟨x0, x1⟩, g0, g1⟩ := HR.out w3 hbw3; have HV := Hid.mk' hv; have HBW3 := Hid.mk' hbw3; clear hv hb3 hbw3)
        | (go_at_call 34; refine HLOW.out.mono ?_; rintro e w2 ⟨rfl, hb2⟩; have hbw2 := below_chain HB1.out.drew hb2; have hc2 : Below (w.heap.size + 1 + 1) W0 w2 := hbw2.mono (by omega); have HBW2 := Hid.mk' hbw2; clear hb2 hbw2))
    go_wp2_with fail
    refine bodyPost_ret (v := .tuple #[.agg #[.int .i64 d, .slice ad3 m3 cap3], .nilIface]) (by simp [results, Tryd.results12, go_sem, x0, x1]) rfl ⟨.slice ad3 m3 cap3, rfl, ?_, ((below_chain HB0.out HBW3.out).setCell (by simp; omega) _).setCell (by simp; omega) _⟩
    exact HV.out.set hpos x1
end Go.Proofs.YthknaphclijncaaDoor
