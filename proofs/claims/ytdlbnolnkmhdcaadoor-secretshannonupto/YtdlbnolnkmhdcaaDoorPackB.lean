/- dist.Mutual: what it puts. -/
import Derived.Test.YtdlbnolnkmhdcaaDoorPackA
import Derived.Test.YtdlbnolnkmhdcaaDoorSkTab
import Derived.Test.YtdlbnolnkmhdcaaDoorInts
import Derived.Test.YtdlbnolnkmhdcaaDoorNums
import Derived.Test.YtdlbnolnkmhdcaaDoorSkRow
import Derived.RangeFuncNested
import Derived.RangeFuncBound
import Derived.RangeFuncCalls
import Derived.RangeFuncLeaves
import Derived.RangeFuncFrom
import Derived.Shelf.Abstract
import Derived.Shelf.RegionOpen
import Derived.WalkKit
import Derived.OwnWalkIn
import Derived.TacticsInMore
import Derived.LoopNIn
import Derived.LoopIn
import Derived.Test.YtdlbnolnkmhdcaaDoorFills
import Derived.Test.YtdlbnolnkmhdcaaDoorCopy
import Derived.BigQuiet
import Derived.Deep.RegionHeld3
import Derived.Test.YtdlbnolnkmhdcaaDoorSkVal
import Derived.Test.YtdlbnolnkmhdcaaDoorTabCopy
namespace Go.Proofs.YtdlbnolnkmhdcaaDoor
open Go.RowKit Go.Maps

/-- What a cell puts. -/
def mutV (z : Nat → Int) (r : Int) (cv : Nat → Int) (N : Nat) (x : Int) (j : Nat) : Int := z j * multI x (z j).toNat + z j * multI x N + -(z j) * multI x r.toNat + -(z j) * multI x (cv j).toNat
theorem mutV_le {z cv : Nat → Int} {r : Int} {N j : Nat} (x : Int) (hz : 0 ≤ z j ∧ z j ≤ 4096) (hr : 0 ≤ r ∧ r ≤ 4096) (hc : 0 ≤ cv j ∧ cv j ≤ 4096) (hN : N ≤ 4096) : -400000 ≤ mutV z r cv N x j ∧ mutV z r cv N x j ≤ 400000 := by
  unfold mutV
  have h1 := mul_weight (t := z j) (by omega) (multI_small x (n := (z j).toNat) (by omega))
  have h2 := mul_weight (t := z j) (by omega) (multI_small x (n := N) (by omega))
  have h3 := mul_weight (t := -(z j)) (by omega) (multI_small x (n := r.toNat) (by omega))
  have h4 := mul_weight (t := -(z j)) (by omega) (multI_small x (n := (cv j).toNat) (by omega))
  omega
/-- A table's numbers with what its rows and columns hold together. -/
structure OkM (R C N : Nat) (zs : Nat → Nat → Int) (rv cv : Nat → Int) : Prop where
  r16 : R ≤ 16
  c16 : C ≤ 16
  n1 : 1 ≤ N
  n6 : N ≤ 4096
  z : ∀ i, i < R → ∀ j, j < C → 0 ≤ zs i j ∧ zs i j ≤ 4096
  r : ∀ i, i < R → 0 ≤ rv i ∧ rv i ≤ 4096
  c : ∀ j, j < C → 0 ≤ cv j ∧ cv j ≤ 4096
  zr : ∀ i, i < R → ∀ j, j < C → zs i j ≤ rv i ∧ zs i j ≤ cv j
theorem mutR_le {R C N : Nat} {zs : Nat → Nat → Int} {rv cv : Nat → Int} (h : OkM R C N zs rv cv) (x : Int) {i m : Nat} (hi : i < R) (hm : m ≤ C) : -6400000 ≤ sumN (mutV (zs i) (rv i) cv N x) m ∧ sumN (mutV (zs i) (rv i) cv N x) m ≤ 6400000 := by
  have h3 := sumN_bound (f := mutV (zs i) (rv i) cv N x) (B := 400000) (n := m) (fun j hj => mutV_le x (h.z i hi j (by omega)) (h.r i hi) (h.c j (by omega)) h.n6)
  have h5 := h.c16
  have : (m : Int) * 400000 ≤ 6400000 := by omega
  omega
theorem mutT_le {R C N : Nat} {zs : Nat → Nat → Int} {rv cv : Nat → Int} (h : OkM R C N zs rv cv) (x : Int) {k : Nat} (hk : k ≤ R) : -102400000 ≤ sumN (fun i => sumN (mutV (zs i) (rv i) cv N x) C) k ∧ sumN (fun i => sumN (mutV (zs i) (rv i) cv N x) C) k ≤ 102400000 := by
  have h3 := sumN_bound (f := fun i => sumN (mutV (zs i) (rv i) cv N x) C) (B := 6400000) (n := k) (fun i hi => mutR_le h x (by omega) (Nat.le_refl _))
  have h5 := h.r16
  have : (k : Int) * 6400000 ≤ 102400000 := by omega
  omega

set_option maxRecDepth 100000 in
set_option maxHeartbeats 8000000 in
theorem Mutual_parts (den : Int) (mb Bt Ba Br Bc b o cap gr cr gc cc R C N : Nat) (zs : Nat → Nat → Int) (rv cv : Nat → Int) (w : World) (hown : w.ownsMap Tryd.prog 3 (plainElem (H := Unit) Tryd.prog 3) mb 0 (mapOf []))
    (ct : w.cell? ⟨Bt, 0, none⟩ = some (.slice (some ⟨b, o, none⟩) R cap)) (ca : w.cell? ⟨Ba, 0, none⟩ = some (.int .i64 N)) (cR : w.cell? ⟨Br, 0, none⟩ = some (.slice (some ⟨gr, 0, none⟩) R cr)) (cC : w.cell? ⟨Bc, 0, none⟩ = some (.slice (some ⟨gc, 0, none⟩) C cc))
    (hrows : ∀ i, i < R → ∃ b1 o1 cap1, w.cell? ⟨b, o + i, none⟩ = some (.slice (some ⟨b1, o1, none⟩) C cap1) ∧ RowAt w b1 o1 C (zs i)) (hr : RowAt w gr 0 R rv) (hc : RowAt w gc 0 C cv) (hk : OkM R C N zs rv cv) :
    Calls Tryd.prog 34 #[putV den mb, .pointer (some ⟨Bt, 0, none⟩), .pointer (some ⟨Ba, 0, none⟩), .pointer (some ⟨Br, 0, none⟩), .pointer (some ⟨Bc, 0, none⟩)] w fun e w' => e = .returned (.tuple #[]) ∧ ∃ l nn, Puts w w' mb (fun x => sumN (fun i => sumN (mutV (zs i) (rv i) cv N x) C) R) (64 * R) [] 0 l nn := by
  have HP0 : Hid (Puts w w mb (fun x => sumN (fun i => sumN (mutV (zs i) (rv i) cv N x) C) 0) (64 * 0) [] 0 [] 0) := ⟨hown, List.Pairwise.nil, (fun x => by simp [sumN]), (fun e he => by cases he), by omega, by simp, grown_refl _ _⟩
  have HTAB : Hid (∀ (wr : World), w.grownBy wr (some mb) → ∀ i, i < R → ∃ b1 o1 cap1, wr.cell? ⟨b, o + i, none⟩ = some (.slice (some ⟨b1, o1, none⟩) C cap1) ∧ ∀ wn : World, w.grownBy wn (some mb) → RowAt wn b1 o1 C (zs i)) := fun wr hg i hi => by
    obtain ⟨b1, o1, cap1, h1, h2⟩ := hrows i hi
    exact ⟨b1, o1, cap1, cell_side hown hg h1, fun wn hn => h2.beside hown hn⟩
  have HROW := Hid.mk' (fun (wr : World) (hg : w.grownBy wr (some mb)) => And.intro (cell_side hown hg ca) (And.intro (cell_side hown hg cR) (And.intro (cell_side hown hg cC) (And.intro (hr.beside hown hg) (hc.beside hown hg)))))
  have HK := Hid.mk' hk
  have hR16 := hk.r16
  have hC16 := hk.c16
  have hN1 := hk.n1
  have hN6 := hk.n6
  clear hown hrows hr hc hk ca cR cC
  unfold putV
  go_enter Tryd.func34, Tryd.ntmps34
  go_wp2_with fail
  go_loopw [6, 7, 8, 9, 12] (fun _ _ _ _ i wr => ∃ (k nn : Nat) (l : List (Int × Int)), k ≤ R ∧ i = .int .i64 k ∧ Hid (Puts w wr mb (fun x => sumN (fun i => sumN (mutV (zs i) (rv i) cv N x) C) k) (64 * k) [] 0 l nn)) (fun _ _ _ _ i _ => R - (intOf i).toNat)
  case atStart => exact ⟨0, 0, [], Nat.zero_le _, rfl, HP0⟩
  case round =>
    clear HP0 ct
    obtain ⟨k, nn0, l0, hk, rfl, HP⟩ := hrel
    rcases Nat.lt_or_ge k R with h1 | h1
    · obtain ⟨b1, o1, cap1, hc, hr1⟩ := HTAB.out wr HP.out.grow k h1
      have HR1 := Hid.mk' hr1
      have hkn : (k : Int) < (R : Int) := by omega
      have hk0 : (0 : Int) ≤ (k : Int) := by omega
      have HPI : Hid (Puts w wr mb (fun x => sumN (fun i => sumN (mutV (zs i) (rv i) cv N x) C) k + sumN (mutV (zs k) (rv k) cv N x) 0) (64 * k + 4 * 0) [] 0 l0 nn0) := HP.out.congr (by omega) (fun x => by simp [sumN])
      obtain ⟨rr, hrr⟩ := Int.eq_ofNat_of_zero_le (HK.out.r k h1).1
      have hrr6 : rr ≤ 4096 := by have := (HK.out.r k h1).2; omega
      have HRR := Hid.mk' hrr
      have HCR : Hid (∀ W, w.grownBy W (some mb) → W.cell? ⟨gr, 0 + k, none⟩ = some (.int .i64 (rr : Int))) := fun W hg => by rw [← hrr]; exact (HROW.out W hg).2.2.2.1 k h1
      clear hr1 hrr HP
      go_wp2_with fail
      clear hc
      go_loopw [8, 9, 19] (fun _ _ i wr => ∃ (j nn : Nat) (l : List (Int × Int)), j ≤ C ∧ i = .int .i64 j ∧ Hid (Puts w wr mb (fun x => sumN (fun i => sumN (mutV (zs i) (rv i) cv N x) C) k + sumN (mutV (zs k) (rv k) cv N x) j) (64 * k + 4 * j) [] 0 l nn)) (fun _ _ i _ => C - (intOf i).toNat)
      case atStart => exact ⟨0, nn0, l0, Nat.zero_le _, rfl, HPI⟩
      case round =>
        clear HPI
        obtain ⟨j, nn, l, hj, rfl, HP⟩ := hrel
        rcases Nat.lt_or_ge j C with h2 | h2
        · have hcz := HR1.out _ HP.out.grow j h2
          have hjn : (j : Int) < (C : Int) := by omega
          have hj0 : (0 : Int) ≤ (j : Int) := by omega
          have hzk := HK.out.z k h1 j h2
          have hcj := HK.out.c j h2
          have hzr := HK.out.zr k h1 j h2
          rw [HRR.out] at hzr
          have HV : Hid (∀ x, sumN (mutV (zs k) (rv k) cv N x) (j + 1) = sumN (mutV (zs k) (rv k) cv N x) j + (zs k j * multI x (zs k j).toNat + (zs k j * multI x N + (-(zs k j) * multI x (rv k).toNat + -(zs k j) * multI x (cv j).toNat)))) := fun x => by
            show sumN (mutV (zs k) (rv k) cv N x) j + mutV (zs k) (rv k) cv N x j = _
            unfold mutV
            omega
          rw [HRR.out] at HV
          have HBD : Hid (∀ x, -120000000 ≤ atL l x ∧ atL l x ≤ 120000000) := fun x => by
            rw [HP.out.val]
            have h3 := mutT_le HK.out x (k := k) (by omega)
            have h4 := mutR_le HK.out x h1 (m := j) (by omega)
            simp only [atL]
            omega
          obtain ⟨y, hy⟩ := Int.eq_ofNat_of_zero_le hzk.1
          obtain ⟨u, hu⟩ := Int.eq_ofNat_of_zero_le hcj.1
          rw [hy] at hcz hzk HV hzr
          rw [hu] at hcj HV hzr
          rw [HRR.out] at HP
          simp only [Int.toNat_natCast] at HV
          have HCU : Hid (∀ W, w.grownBy W (some mb) → W.cell? ⟨gc, 0 + j, none⟩ = some (.int .i64 (u : Int))) := fun W hg => by rw [← hu]; exact (HROW.out W hg).2.2.2.2 j h2
          have hy6 : y ≤ 4096 := by have := hzk.2; omega
          have hu6 : u ≤ 4096 := by have := hcj.2; omega
          have hyr : y ≠ 0 → 1 ≤ rr := fun h => by have := hzr.1; omega
          have hyu : y ≠ 0 → 1 ≤ u := fun h => by have := hzr.2; omega
          have hnn1 : nn ≤ 30000 := by have := HP.out.cnt; omega
          have MW := Hid.mk' (fun (x : Int) (m : Nat) (hm : m ≤ 4096) => mul_weight (t := (y : Int)) (by omega) (multI_small x (n := m) (by omega)))
          have MN := Hid.mk' (fun (x : Int) (m : Nat) (hm : m ≤ 4096) => mul_weight (t := -(y : Int)) (by omega) (multI_small x (n := m) (by omega)))
          clear hy hu hzk hcj hzr
          have HP1 := Hid.mk' (Put_by den (y : Int) mb y nn l wr HP.out.own HP.out.rise HP.out.keys (fun x => by have := HBD.out x; omega) (by omega) (fun h => by omega) (by omega) (by omega))
          go_wp2_with fail
          refine HP1.out.mono ?_
          clear HP1 hcz
          rintro e w2 ⟨rfl, l2, nn2, hp2⟩
          have hg2 := grown_two HP.out.grow hp2.grow
          have ca2 := (HROW.out _ hg2).1
          have B2 : Hid (∀ x, -120100000 ≤ atL l2 x ∧ atL l2 x ≤ 120100000) := fun x => by rw [hp2.val]; have h2 := HBD.out x; have h3 := MW.out x y hy6; omega
          have hn2 : nn2 ≤ 30020 := by have := hp2.cnt; omega
          have HP2 := Hid.mk' (Put_by den (y : Int) mb N nn2 l2 w2 hp2.own hp2.rise hp2.keys (fun x => by have := B2.out x; omega) (by omega) (fun _ => hN1) (by omega) (by omega))
          have HQ2 := Hid.mk' (HP.out.trans hp2)
          clear hp2 hg2
          go_wp2_with fail
          refine HP2.out.mono ?_
          clear HP2 ca2
          rintro e w3 ⟨rfl, l3, nn3, hp3⟩
          have hg3 := grown_two HQ2.out.grow hp3.grow
          have cr3 := (HROW.out _ hg3).2.1
          have cu3 := HCR.out _ hg3
          rw [Nat.zero_add] at cu3
          have B3 : Hid (∀ x, -120200000 ≤ atL l3 x ∧ atL l3 x ≤ 120200000) := fun x => by rw [hp3.val]; have h2 := B2.out x; have h3 := MW.out x N hN6; omega
          have hn3 : nn3 ≤ 30040 := by have := hp3.cnt; omega
          have HP3 := Hid.mk' (Put_by den (-(y : Int)) mb rr nn3 l3 w3 hp3.own hp3.rise hp3.keys (fun x => by have := B3.out x; omega) (by omega) (fun h => hyr (by omega)) (by omega) (by omega))
          have HQ3 := Hid.mk' (HQ2.out.trans hp3)
          clear hp3 hg3 HQ2
          go_wp2_with fail
          refine HP3.out.mono ?_
          clear HP3 cr3 cu3
          rintro e w4 ⟨rfl, l4, nn4, hp4⟩
          have hg4 := grown_two HQ3.out.grow hp4.grow
          have cc4 := (HROW.out _ hg4).2.2.1
          have cu4 := HCU.out _ hg4
          rw [Nat.zero_add] at cu4
          have B4 : Hid (∀ x, -120300000 ≤ atL l4 x ∧ atL l4 x ≤ 120300000) := fun x => by rw [hp4.val]; have h2 := B3.out x; have h3 := MN.out x rr hrr6; omega
          have hn4 : nn4 ≤ 30060 := by have := hp4.cnt; omega
          have HP4 := Hid.mk' (Put_by den (-(y : Int)) mb u nn4 l4 w4 hp4.own hp4.rise hp4.keys (fun x => by have := B4.out x; omega) (by omega) (fun h => hyu (by omega)) (by omega) (by omega))
          have HQ4 := Hid.mk' (HQ3.out.trans hp4)
          clear hp4 hg4 HQ3
          go_wp2_with fail
          refine HP4.out.mono ?_
          clear HP4 cc4 cu4
          rintro e w5 ⟨rfl, l5, nn5, hp5⟩
          have HQ5 := Hid.mk' ((HQ4.out.trans hp5).congr (d := 64 * k + 4 * (j + 1)) (by omega) (g := fun x => sumN (fun i => sumN (mutV (zs i) (rv i) cv N x) C) k + sumN (mutV (zs k) (rv k) cv N x) (j + 1)) (fun x => by rw [HRR.out, HV.out x]; omega))
          clear hp5 HQ4
          go_wp2_with fail
          exact ⟨⟨j + 1, nn5, l5, h2, by go_num, HQ5⟩, by simp [intOf]; omega⟩
        · obtain rfl : j = C := by omega
          have HQ := Hid.mk' (HP.out.congr (d := 64 * (k + 1)) (by omega) (g := fun x => sumN (fun i => sumN (mutV (zs i) (rv i) cv N x) j) (k + 1)) (fun x => rfl))
          clear HP
          go_wp2_with fail
          exact ⟨⟨k + 1, nn, l, h1, by go_num, HQ⟩, by simp [intOf]; omega⟩
    · obtain rfl : k = R := by omega
      go_wp2_with fail
      go_end0
      exact ⟨rfl, l0, nn0, HP.out⟩
end Go.Proofs.YtdlbnolnkmhdcaaDoor

/- dist.Mutual. -/
namespace Go.Proofs.YtdlbnolnkmhdcaaDoor
open Go.RowKit Go.Maps

theorem okM_of {R N : Nat} {ns : Nat → Nat} {zs : Nat → Nat → Int} (h : OkT R ns zs N) : OkM R (ns 0) N zs (rowSum ns zs) (colV zs R) :=
  ⟨h.r16, h.c16, h.n1, h.n6, fun i hi j hj => h.cell hi (by rw [h.even i hi]; exact hj), fun i hi => by have h1 := h.row hi; have h2 := h.n6; unfold rowSum; omega, fun j hj => h.col (Nat.le_refl _) hj,
    fun i hi j hj => ⟨sumN_ge (h.nn i hi) (by rw [h.even i hi]; exact hj), sumN_ge (z := fun i => zs i j) (fun i hi => h.nn i hi j (by rw [h.even i hi]; exact hj)) hi⟩⟩
/-- Two rows, and the boxes of their slices. -/
structure TwoRows (W0 W : World) (B1 B2 g1 c1 n1 : Nat) (z1 : Nat → Int) (g2 c2 n2 : Nat) (z2 : Nat → Int) : Prop where
  below : Below W0.heap.size W0 W
  b1 : W.cell? ⟨B1, 0, none⟩ = some (.slice (some ⟨g1, 0, none⟩) n1 c1)
  b2 : W.cell? ⟨B2, 0, none⟩ = some (.slice (some ⟨g2, 0, none⟩) n2 c2)
  r1 : RowAt W g1 0 n1 z1
  r2 : RowAt W g2 0 n2 z2
theorem TwoRows.later {W0 W W' : World} {B1 B2 g1 c1 n1 g2 c2 n2 : Nat} {z1 z2 : Nat → Int} (h : TwoRows W0 W B1 B2 g1 c1 n1 z1 g2 c2 n2 z2) (hb : Below W.heap.size W W') : TwoRows W0 W' B1 B2 g1 c1 n1 z1 g2 c2 n2 z2 :=
  ⟨below_chain h.below hb, (cell_past h.b1 hb).2, (cell_past h.b2 hb).2, h.r1.later hb, h.r2.later hb⟩
/-- A new box with nothing in it. -/
structure NewRow (W0 W : World) (B : Nat) : Prop where
  c0 : W.cell? ⟨B, 0, none⟩ = some (.slice none 0 0)
  f0 : W.frozen? ⟨B, 0, none⟩ = false
  hB : W0.heap.size ≤ B
theorem NewRow.later {W0 W W' : World} {B : Nat} (h : NewRow W0 W B) (hb : Below W.heap.size W W') : NewRow W0 W' B := ⟨(cell_past h.c0 hb).2, (frozen_past h.c0 h.f0 hb).2, h.hB⟩
theorem newRow_new {W0 W : World} (h : Below W0.heap.size W0 W) : NewRow W0 (W.alloc (.cells #[.slice none 0 0] 22)) W.heap.size := ⟨by simp, by simp, h.size⟩

theorem NewRow.al {W0 W : World} {B : Nat} (h : NewRow W0 W B) : (∀ X, (W.alloc X).cell? ⟨B, 0, none⟩ = some (.slice none 0 0)) ∧ ∀ X, (W.alloc X).frozen? ⟨B, 0, none⟩ = false := ⟨fun X => (h.later (new_below _ X)).c0, fun X => (h.later (new_below _ X)).f0⟩
theorem NewRow.ne {W0 W : World} {B : Nat} (h : NewRow W0 W B) : (¬ B = W.heap.size) ∧ ¬ W.heap.size = B := by
  have hz := cell_lt h.c0
  simp only at hz
  exact ⟨by omega, by omega⟩
theorem newRow_of {W0 w w' : World} (h : Below W0.heap.size W0 w) {X : Obj} (hX : X = .cells #[.slice none 0 0] 22) (hb : Below (w.alloc X).heap.size (w.alloc X) w') : NewRow W0 w' w.heap.size := by
  subst hX
  exact (newRow_new h).later hb
theorem newRow_of2 {W0 w w' : World} (h : Below W0.heap.size W0 w) {X Y : Obj} (hX : X = .cells #[.slice none 0 0] 22) (hY : Y = .cells #[.slice none 0 0] 22) (hb : Below ((w.alloc X).alloc Y).heap.size ((w.alloc X).alloc Y) w') : NewRow W0 w' w.heap.size ∧ NewRow W0 w' (w.heap.size + 1) := by
  subst hX
  subst hY
  have h2 := (newRow_new (more_below h (.cells #[.slice none 0 0] 22))).later hb
  rw [World.size_alloc] at h2
  exact ⟨((newRow_new h).later (new_below _ _)).later hb, h2⟩
theorem row_not_box {W0 w : World} {g n B : Nat} {z : Nat → Int} (h : RowAt w g 0 n z) (h0 : 0 < n) (nb : NewRow W0 w B) : g ≠ B := fun e => by
  have h1 := h 0 h0
  rw [e, show (0 : Nat) + 0 = 0 from rfl, nb.c0] at h1
  cases h1
theorem row_set {w : World} {g n B : Nat} {z : Nat → Int} {v : Value} (h : RowAt w g 0 n z) (hne : g ≠ B) : RowAt (w.setCell ⟨B, 0, none⟩ v) g 0 n z := fun i hi => by
  rw [World.cell?_setCell_other _ _ _ _ (by simp <;> omega)]
  exact h i hi
theorem twoRows_a {W0 w : World} {g1 c1 n1 g2 c2 n2 : Nat} {z1 z2 : Nat → Int} (hb : Below W0.heap.size W0 w) (r1 : RowAt w g1 0 n1 z1) (r2 : RowAt w g2 0 n2 z2) : TwoRows W0 ((w.alloc (.cells #[.slice (some ⟨g1, 0, none⟩) n1 c1] 22)).alloc (.cells #[.slice (some ⟨g2, 0, none⟩) n2 c2] 22)) w.heap.size (w.heap.size + 1) g1 c1 n1 z1 g2 c2 n2 z2 :=
  ⟨more_below (more_below hb _) _, new_one (new_below _ _), by rw [World.cell?_alloc_at _ _ _ _ (by simp)]; rfl, (r1.later (new_below _ _)).later (new_below _ _), (r2.later (new_below _ _)).later (new_below _ _)⟩
theorem twoRows_b {W0 w : World} {g1 c1 n1 g2 c2 n2 : Nat} {z1 z2 : Nat → Int} (hb : Below W0.heap.size W0 w) (r1 : RowAt w g1 0 n1 z1) (r2 : RowAt w g2 0 n2 z2) : TwoRows W0 ((w.alloc (.cells #[.slice (some ⟨g2, 0, none⟩) n2 c2] 22)).alloc (.cells #[.slice (some ⟨g1, 0, none⟩) n1 c1] 22)) (w.heap.size + 1) w.heap.size g1 c1 n1 z1 g2 c2 n2 z2 :=
  ⟨more_below (more_below hb _) _, by rw [World.cell?_alloc_at _ _ _ _ (by simp)]; rfl, new_one (new_below _ _), (r1.later (new_below _ _)).later (new_below _ _), (r2.later (new_below _ _)).later (new_below _ _)⟩
theorem twoRows_d {W0 w : World} {B : Nat} {g1 c1 n1 g2 c2 n2 : Nat} {z1 z2 : Nat → Int} (hb : Below W0.heap.size W0 w) (r1 : RowAt w g1 0 n1 z1) (r2 : RowAt w g2 0 n2 z2) (p1 : 0 < n1) (p2 : 0 < n2) (nb : NewRow W0 w B) : TwoRows W0 ((w.alloc (.cells #[.slice (some ⟨g1, 0, none⟩) n1 c1] 22)).setCell ⟨B, 0, none⟩ (.slice (some ⟨g2, 0, none⟩) n2 c2)) w.heap.size B g1 c1 n1 z1 g2 c2 n2 z2 := by
  have hn := nb.later (new_below w (.cells #[.slice (some ⟨g1, 0, none⟩) n1 c1] 22))
  refine ⟨(more_below hb _).setCell hn.hB _, ?_, World.cell?_setCell_same _ _ _ hn.c0, row_set (r1.later (new_below _ _)) (row_not_box r1 p1 nb), row_set (r2.later (new_below _ _)) (row_not_box r2 p2 nb)⟩
  have := nb.ne
  rw [World.cell?_setCell_other _ _ _ _ (by simp <;> omega), World.cell?_alloc_at _ _ _ _ (by simp)]
  rfl
theorem twoRows_e {W0 w : World} {B B' : Nat} {g1 c1 n1 g2 c2 n2 : Nat} {z1 z2 : Nat → Int} (hb : Below W0.heap.size W0 w) (r1 : RowAt w g1 0 n1 z1) (r2 : RowAt w g2 0 n2 z2) (p1 : 0 < n1) (p2 : 0 < n2) (nb : NewRow W0 w B) (nb' : NewRow W0 w B') (hne : B ≠ B') : TwoRows W0 ((w.setCell ⟨B, 0, none⟩ (.slice (some ⟨g1, 0, none⟩) n1 c1)).setCell ⟨B', 0, none⟩ (.slice (some ⟨g2, 0, none⟩) n2 c2)) B B' g1 c1 n1 z1 g2 c2 n2 z2 := by
  have h1 : (w.setCell ⟨B, 0, none⟩ (.slice (some ⟨g1, 0, none⟩) n1 c1)).cell? ⟨B', 0, none⟩ = some (.slice none 0 0) := by rw [World.cell?_setCell_other _ _ _ _ (by simp <;> omega)]; exact nb'.c0
  refine ⟨(hb.setCell nb.hB _).setCell nb'.hB _, ?_, World.cell?_setCell_same _ _ _ h1, row_set (row_set r1 (row_not_box r1 p1 nb)) (row_not_box r1 p1 nb'), row_set (row_set r2 (row_not_box r2 p2 nb)) (row_not_box r2 p2 nb')⟩
  rw [World.cell?_setCell_other _ _ _ _ (by simp <;> omega)]
  exact World.cell?_setCell_same _ _ _ nb.c0
theorem twoRows_c {W0 w : World} {B : Nat} {g1 c1 n1 g2 c2 n2 : Nat} {z1 z2 : Nat → Int} (hb : Below W0.heap.size W0 w) (r1 : RowAt w g1 0 n1 z1) (r2 : RowAt w g2 0 n2 z2) (p1 : 0 < n1) (p2 : 0 < n2) (nb : NewRow W0 w B) : TwoRows W0 (((w.alloc (.cells #[.slice none 0 0] 22)).setCell ⟨B, 0, none⟩ (.slice (some ⟨g1, 0, none⟩) n1 c1)).setCell ⟨w.heap.size, 0, none⟩ (.slice (some ⟨g2, 0, none⟩) n2 c2)) B w.heap.size g1 c1 n1 z1 g2 c2 n2 z2 :=
  twoRows_e (more_below hb _) (r1.later (new_below _ _)) (r2.later (new_below _ _)) p1 p2 (nb.later (new_below _ _)) (newRow_new hb) nb.ne.1

set_option maxRecDepth 100000 in
set_option maxHeartbeats 2000000 in
theorem Mutual_ok (a : Nat → Addr) (ad : Option Addr) (R cap N : Nat) (vs : Nat → Value) (ns : Nat → Nat) (zs : Nat → Nat → Int) (w : World) (hE : Errs w a) (h : TabAt w (.slice ad R cap) R vs ns zs) (hR : R ≤ 40) (hs : sumT ns R ≤ 400) (h0 : tabErr R ns zs = 0) (hk : OkT R ns zs N) :
    Calls Tryd.prog 17 #[.slice ad R cap] w fun e w' => ∃ dn v', e = .returned (.tuple #[.agg #[.int .i64 dn, v'], .nilIface]) ∧ LogBy w.heap.size N (fun x => sumN (fun i => sumN (mutV (zs i) (rowSum ns zs i) (colV zs R) N x) (ns 0)) R) w' dn v' ∧ Below w.heap.size w w' := by
  have hm := okM_of hk
  have hN1 : 1 ≤ N ∧ N ≤ 4096 := ⟨hk.n1, hk.n6⟩
  have hR0 := hk.r0
  have hC0 := hk.c0
  obtain ⟨b, o, rfl, hrows⟩ := tab_rows h hk
  obtain ⟨W0, hW0⟩ : ∃ W0, W0 = (w.alloc (.cells #[.slice (some ⟨b, o, none⟩) R cap] 23)).alloc (.cells #[.int .i64 0, .slice none 0 0] 46) := ⟨_, rfl⟩
  have hb0 : Below w.heap.size w W0 := by rw [hW0]; exact below_chain (new_below _ _) (new_below _ _)
  have hz0 : W0.heap.size = w.heap.size + 1 + 1 := by rw [hW0]; simp
  have hbox : W0.cell? ⟨w.heap.size, 0, none⟩ = some (.slice (some ⟨b, o, none⟩) R cap) := by rw [hW0]; exact new_one (new_below _ _)
  have hres : ∀ W, Below W0.heap.size W0 W → W.cell? ⟨w.heap.size + 1, 0, none⟩ = some (.int .i64 0) ∧ W.cell? ⟨w.heap.size + 1, 1, none⟩ = some (.slice none 0 0) ∧ W.frozen? ⟨w.heap.size + 1, 0, none⟩ = false ∧ W.frozen? ⟨w.heap.size + 1, 1, none⟩ = false := fun W hb => by
    rw [hW0] at hb
    have := res_past hb
    simpa using this
  have ht := Table_any a _ R vs ns zs W0 (hE.below hb0) (h.later hb0) hR hs
  rw [h0, errV_zero] at ht
  have HRS : Hid (∀ W, Below W0.heap.size W0 W → Calls Tryd.prog 30 #[.slice (some ⟨b, o, none⟩) R cap] W fun e w' => ∃ g cp, e = .returned (.slice (some ⟨g, 0, none⟩) R cp) ∧ RowAt w' g 0 R (rowSum ns zs) ∧ Below W.heap.size W w') := fun W hb => rowSums_any _ R cap N vs ns zs W ((h.later hb0).later hb) hk
  have HCS : Hid (∀ W, Below W0.heap.size W0 W → Calls Tryd.prog 31 #[.slice (some ⟨b, o, none⟩) R cap] W fun e w' => ∃ g cp, e = .returned (.slice (some ⟨g, 0, none⟩) (ns 0) cp) ∧ RowAt w' g 0 (ns 0) (colV zs R) ∧ Below W.heap.size W w') := fun W hb => columnSums_any _ R cap N vs ns zs W ((h.later hb0).later hb) hk
  have HTT : Hid (∀ (W : World) (g cp : Nat), RowAt W g 0 R (rowSum ns zs) → Calls Tryd.prog 32 #[.slice (some ⟨g, 0, none⟩) R cp] W fun e w' => e = .returned (.int .i64 N) ∧ w' = W) := fun W g cp hr => by
    have hnn : ∀ i, i < R → 0 ≤ rowSum ns zs i := fun i hi => (hk.row hi).1
    have := total_some g 0 cp R (rowSum ns zs) W hr (fun k hk' => by have h1 := sumN_nonneg (z := rowSum ns zs) (n := k) (fun i hi => hnn i (by omega)); have h2 := sumN_mono (z := rowSum ns zs) (k := k) hnn (by omega); have h3 : sumN (rowSum ns zs) R = N := hk.tot; omega) (fun i hi => by have := hm.r i hi; omega) (by omega)
    rw [show sumN (rowSum ns zs) R = (N : Int) from hk.tot] at this
    exact this
  have HSO : Hid (∀ (W : World) (B1 B2 Ba g1 c1 g2 c2 : Nat), TwoRows W0 W B1 B2 g1 c1 R (rowSum ns zs) g2 c2 (ns 0) (colV zs R) → W.cell? ⟨Ba, 0, none⟩ = some (.int .i64 N) → Calls Tryd.prog 33 #[.int .i64 N, .func (.func 34) #[] #[.pointer (some ⟨w.heap.size, 0, none⟩), .pointer (some ⟨Ba, 0, none⟩), .pointer (some ⟨B1, 0, none⟩), .pointer (some ⟨B2, 0, none⟩)]] W fun e w' => ∃ dn v, e = .returned (.tuple #[.agg #[.int .i64 dn, v], .nilIface]) ∧ LogBy W.heap.size N (fun x => sumN (fun i => sumN (mutV (zs i) (rowSum ns zs i) (colV zs R) N x) (ns 0)) R) w' dn v ∧ Below W.heap.size W w') := fun W B1 B2 Ba g1 c1 g2 c2 htr hca =>
    sumOver_any 34 _ N (64 * R) (fun x => sumN (fun i => sumN (mutV (zs i) (rowSum ns zs i) (colV zs R) N x) (ns 0)) R) W (enters_of Tryd.func34 (by kernel_rfl) rfl) hN1.1 hN1.2 (by have := hk.r16; omega) (fun x => by have := mutT_le hm x (Nat.le_refl _); omega)
      (fun W' mb hb' ho => Mutual_parts N mb w.heap.size Ba B1 B2 b o cap g1 c1 g2 c2 R (ns 0) N zs _ _ W' ho (cell_past hbox (below_chain htr.below hb')).2 (cell_past hca hb').2 (cell_past htr.b1 hb').2 (cell_past htr.b2 hb').2 (hrows W' (below_chain hb0 (below_chain htr.below hb'))) (htr.r1.later hb') (htr.r2.later hb') hm)
  have HB0 := Hid.mk' hb0
  have HRES := Hid.mk' hres
  have HW0 := Hid.mk' hW0
  have HZ0 := Hid.mk' hz0
  have HBX : Hid (∀ W, Below W0.heap.size W0 W → W.cell? ⟨w.heap.size, 0, none⟩ = some (.slice (some ⟨b, o, none⟩) R cap)) := fun W hb => (cell_past hbox hb).2
  clear hE h hb0 hres hW0 hz0 h0 hs hrows hk hm
  go_enter Tryd.func17, Tryd.ntmps17
  go_upto_region 1 with fail
  rw [← HW0.out]
  go_wp2_with fail
  refine ht.mono ?_
  clear ht hbox
  rintro e w1 ⟨rfl, hb1⟩
  have hcur0 : Below W0.heap.size W0 w1 := hb1
  have hcur : Below W0.heap.size W0 w1.drew := hb1.drew
  have hcurA : ∀ X, Below W0.heap.size W0 (w1.alloc X).drew := fun X => (more_below hb1 _).drew
  have hcurB : ∀ X Y, Below W0.heap.size W0 ((w1.alloc X).alloc Y).drew := fun X Y => (more_below (more_below hb1 _) _).drew
  have HB1 := Hid.mk' hb1
  clear hb1
  go_upto_region 4 with fail
  go_cut [5, 6] from 14 (fun s t wx => ∃ B1 B2 g1 c1 g2 c2 : Nat, s = .pointer (some ⟨B1, 0, none⟩) ∧ t = .pointer (some ⟨B2, 0, none⟩) ∧ Hid (TwoRows W0 wx B1 B2 g1 c1 R (rowSum ns zs) g2 c2 (ns 0) (colV zs R)))
  case first =>
    go_region_held3 (fun W => W.cell? ⟨w.heap.size, 0, none⟩ = some (.slice (some ⟨b, o, none⟩) R cap))
      ((refine HBX.out _ ?_; repeat' (first | assumption | exact hcurA _ | exact hcurB _ _ | exact N1.hB | exact N2.hB | exact hbw3.size | exact Nat.le_succ_of_le hbw3.size | refine more_below ?_ _ | refine Below.setCell ?_ ?_ _)))
      (first
        | (go_at_call 31; have hz2 := hbw2; clear hz2; refine (HCS.out _ ?_).mono ?_; (first | exact hbw2 | exact more_below hbw2 _ | exact more_below (more_below hbw2 _) _); rintro e w3 ⟨g3, c3, rfl, hr3, hb3⟩; (first | (have hbx := hb3; have hbw3 := below_chain hbw2 hbx; (try have N1 := N1.later hb3); (try have N2 := N2.later hb3)) | (have hbx := below_chain (new_below _ _) hb3; have hbw3 := below_chain hbw2 hbx; (try have N1 := N1.later hbx); have N2 := newRow_of hbw2 rfl hb3) | (have hbx := below_chain (more_below (new_below _ _) _) hb3; have hbw3 := below_chain hbw2 hbx; obtain ⟨N1, N2⟩ := newRow_of2 hbw2 rfl rfl hb3)); have HR3 := Hid.mk' (And.intro (HR2.out _ hbx) hr3); (try (have y0 := N1.c0; have y1 := N1.f0; obtain ⟨y4, y5⟩ := N1.al; obtain ⟨q1, q2⟩ := N1.ne)); (try (have y2 := N2.c0; have y3 := N2.f0; obtain ⟨y6, y7⟩ := N2.al; obtain ⟨q3, q4⟩ := N2.ne)); clear hr3 hb3 hbx)
        | (go_at_call 30; refine (HRS.out _ ?_).mono ?_; (first | exact hcur | exact hcurA _ | exact hcurB _ _); rintro e w2 ⟨g2, c2, rfl, hr2, hb2⟩; (first | have hbw2 := below_chain hcur hb2 | (have hbw2 := below_chain (hcurA _) hb2; have N1 := newRow_of hcur0 rfl (below_chain ((Below.refl _ _).drew) hb2)) | (have hbw2 := below_chain (hcurB _ _) hb2; obtain ⟨N1, N2⟩ := newRow_of2 hcur0 rfl rfl (below_chain ((Below.refl _ _).drew) hb2))); (try (have hne1 : ¬ w1.heap.size = w2.heap.size := (by have hz := cell_lt N1.c0; simp only at hz; omega); have hne2 : ¬ w2.heap.size = w1.heap.size := (fun e => hne1 e.symm))); have HR2 : Hid (∀ W, Below w2.heap.size w2 W → RowAt W g2 0 R (rowSum ns zs)) := (fun W hb => hr2.later hb); clear hr2 hb2))
    all_goals
      go_wp2_with fail
      go_meet
      first
        | exact ⟨_, _, _, _, _, _, rfl, rfl, twoRows_a hbw3 HR3.out.1 HR3.out.2⟩
        | exact ⟨_, _, _, _, _, _, rfl, rfl, twoRows_b hbw3 HR3.out.1 HR3.out.2⟩
        | exact ⟨_, _, _, _, _, _, rfl, rfl, twoRows_c hbw3 HR3.out.1 HR3.out.2 hR0 hC0 N1⟩
        | exact ⟨_, _, _, _, _, _, rfl, rfl, twoRows_c hbw3 HR3.out.1 HR3.out.2 hR0 hC0 N2⟩
        | exact ⟨_, _, _, _, _, _, rfl, rfl, twoRows_d hbw3 HR3.out.1 HR3.out.2 hR0 hC0 N1⟩
        | exact ⟨_, _, _, _, _, _, rfl, rfl, twoRows_d hbw3 HR3.out.1 HR3.out.2 hR0 hC0 N2⟩
        | exact ⟨_, _, _, _, _, _, rfl, rfl, twoRows_e hbw3 HR3.out.1 HR3.out.2 hR0 hC0 N1 N2 (by omega)⟩
        | exact ⟨_, _, _, _, _, _, rfl, rfl, twoRows_e hbw3 HR3.out.1 HR3.out.2 hR0 hC0 N2 N1 (by omega)⟩
  case rest =>
    obtain ⟨B1, B2, g1, c1, g2, c2, rfl, rfl, HTN⟩ := hcut
    clear hcur0 hcur hcurA hcurB HRS HCS
    have cB := HTN.out.b1
    have htt := HTT.out wc g1 c1 HTN.out.r1
    go_wp2_with (first | (go_at_call 32; refine htt.mono ?_; rintro e w3 ⟨rfl, hw3⟩; rw [hw3]; clear hw3))
    have hso := HSO.out (wc.alloc (.cells #[.int .i64 N] 3)) B1 B2 wc.heap.size g1 c1 g2 c2 (HTN.out.later (new_below _ _)) (new_one (Below.refl _ _))
    refine hso.mono ?_
    clear hso cB htt
    rintro e w6 ⟨dn, v, rfl, hlb, hb6⟩
    have hbw := below_chain (more_below HTN.out.below _) hb6
    obtain ⟨c0, c1, q0, q1⟩ := HRES.out w6 hbw
    have HBW := Hid.mk' (below_chain HB0.out hbw)
    have HLT : Hid (w.heap.size + 1 < (wc.alloc (.cells #[.int .i64 N] 3)).heap.size) := by have h2 := HZ0.out; have h3 := HTN.out.below.size; show _ < _; rw [World.size_alloc]; omega
    have HLB := Hid.mk' hlb
    obtain ⟨ad, n', c', rfl⟩ := hlb.form
    clear hlb hb6 hbw
    go_wp2_with fail
    refine bodyPost_ret (v := .tuple #[.agg #[.int .i64 dn, .slice ad n' c'], .nilIface]) (by simp [results, Tryd.results17, go_sem, c0, c1]) rfl ⟨_, .slice ad n' c', rfl, (HLB.out.set HLT.out _ _).lower (by have := HLT.out; omega), ?_⟩
    exact (HBW.out.setCell (by simp) _).setCell (by simp) _

set_option maxRecDepth 100000 in
set_option maxHeartbeats 1000000 in
theorem Mutual_bad (a : Nat → Addr) (v : Value) (R : Nat) (vs : Nat → Value) (ns : Nat → Nat) (zs : Nat → Nat → Int) (w : World) (hE : Errs w a) (h : TabAt w v R vs ns zs) (hR : R ≤ 40) (hs : sumT ns R ≤ 400) (h0 : tabErr R ns zs ≠ 0) :
    Calls Tryd.prog 17 #[v] w fun e w' => e = .returned (.tuple #[.agg #[.int .i64 0, .slice none 0 0], errV a (tabErr R ns zs)]) ∧ Below w.heap.size w w' := by
  obtain ⟨ad, cap, rfl⟩ := h.form
  obtain ⟨W0, hW0⟩ : ∃ W0, W0 = (w.alloc (.cells #[.slice ad R cap] 23)).alloc (.cells #[.int .i64 0, .slice none 0 0] 46) := ⟨_, rfl⟩
  have hb0 : Below w.heap.size w W0 := by rw [hW0]; exact below_chain (new_below _ _) (new_below _ _)
  have hbox : W0.cell? ⟨w.heap.size, 0, none⟩ = some (.slice ad R cap) := by rw [hW0]; exact new_one (new_below _ _)
  have hres : ∀ W, Below W0.heap.size W0 W → W.cell? ⟨w.heap.size + 1, 0, none⟩ = some (.int .i64 0) ∧ W.cell? ⟨w.heap.size + 1, 1, none⟩ = some (.slice none 0 0) ∧ W.frozen? ⟨w.heap.size + 1, 0, none⟩ = false ∧ W.frozen? ⟨w.heap.size + 1, 1, none⟩ = false := fun W hb => by
    rw [hW0] at hb
    have := res_past hb
    simpa using this
  have ht := Table_any a _ R vs ns zs W0 (hE.below hb0) (h.later hb0) hR hs
  rw [errV_pos a h0] at ht ⊢
  generalize a (tabErr R ns zs - 1) = ea at ht ⊢
  have HB0 := Hid.mk' hb0
  have HRES := Hid.mk' hres
  have HW0 := Hid.mk' hW0
  clear hE h hb0 hres hW0 h0
  go_enter Tryd.func17, Tryd.ntmps17
  go_upto_region 1 with fail
  rw [← HW0.out]
  go_wp2_with (go_at_call 25; refine ht.mono ?_; rintro e w1 ⟨rfl, hb1⟩; obtain ⟨c0, c1, q0, q1⟩ := HRES.out w1 hb1; have HB1 := Hid.mk' (below_chain HB0.out hb1); clear hb1)
  refine bodyPost_ret (v := .tuple #[.agg #[.int .i64 0, .slice none 0 0], .iface 145 (.pointer (some ea))]) (by simp [results, Tryd.results17, go_sem, c0, c1]) rfl ⟨rfl, ?_⟩
  exact (HB1.out.setCell (by simp) _).setCell (by simp) _
end Go.Proofs.YtdlbnolnkmhdcaaDoor

/- SHANNON: a perfect cipher whose keys are all likely has as many keys as messages at least; its signs tell nothing. Plain functions. -/
namespace Go.Proofs.YtdlbnolnkmhdcaaDoor

theorem wayZ_some {z : Nat → Int} {zs : Nat → Nat → Int} {m s : Nat} : ∀ k, 0 < wayZ z zs m s k → ∃ i, i < k ∧ zs i m = (s : Int)
  | 0, h => by simp [wayZ] at h
  | k + 1, h => by
    by_cases e : zs k m = (s : Int)
    · exact ⟨k, by omega, e⟩
    · simp only [wayZ, if_neg e] at h
      obtain ⟨i, hi, h1⟩ := wayZ_some (z := z) (zs := zs) (m := m) (s := s) k (by omega)
      exact ⟨i, by omega, h1⟩
theorem wayZ_at {z : Nat → Int} {zs : Nat → Nat → Int} {m s i n : Nat} (hz : ∀ j, j < n → 0 ≤ z j) (hi : i < n) (h : zs i m = (s : Int)) : z i ≤ wayZ z zs m s n := by
  induction n with
  | zero => omega
  | succ n ih =>
    have h1 := (wayZ_le (zs := zs) (m := m) (s := s) (n := n + 1) hz n (by omega)).1
    simp only [wayZ]
    rcases Nat.lt_or_ge i n with h2 | h2
    · have h3 := ih (fun j hj => hz j (by omega)) h2
      have h4 := hz n (by omega)
      split <;> omega
    · obtain rfl : i = n := by omega
      rw [if_pos h]; omega
/-- As many keys as messages at least. -/
theorem keys_enough {n : Nat} {z : Nat → Int} {R : Nat} {ns : Nat → Nat} {zs : Nat → Nat → Int} (hok : OkC n z R ns zs) (hp : perfA n z R ns zs = true) (hpos : ∀ i, i < n → z i ≠ 0) : ns 0 ≤ n := by
  have h0 := hok.w.posN
  unfold perfA at hp
  rw [Bool.and_eq_true] at hp
  have hrow := fun i (hi : i < n) => (rowB_iff _ _).1 (hok.row i hi)
  have hs0 := (hrow 0 h0 0 hok.len0).1
  obtain ⟨s, hs⟩ : ∃ s : Nat, zs 0 0 = (s : Int) := ⟨_, (Int.toNat_of_nonneg hs0.1).symm⟩
  have hsT : s < topN (ns 0) zs n := by
    have := topN_at (zs := zs) (i := 0) (m := 0) h0 hok.len0
    rw [hs] at this; simpa using this
  have hw0 : 0 < wayZ z zs 0 s n := by
    have h1 := wayZ_at (zs := zs) (m := 0) hok.w.nn h0 hs
    have h2 := hok.w.nn 0 h0
    have h3 := hpos 0 h0
    omega
  have hex : ∀ m, m < ns 0 → ∃ i, i < n ∧ zs i m = (s : Int) := fun m hm => by
    have h1 := (sameB_iff _ _ _).1 (perfB_all hp.2 hm) s hsT
    exact wayZ_some (z := z) n (by omega)
  refine injNat (f := fun m => if h : m < ns 0 then Classical.choose (hex m h) else 0) (fun m hm => ?_) (fun i j hij hj e => ?_)
  · show (if h : m < ns 0 then Classical.choose (hex m h) else 0) < n
    rw [dif_pos hm]
    exact (Classical.choose_spec (hex m hm)).1
  · replace e : (if h : i < ns 0 then Classical.choose (hex i h) else 0) = (if h : j < ns 0 then Classical.choose (hex j h) else 0) := e
    rw [dif_pos (show i < ns 0 by omega), dif_pos hj] at e
    have h1 := Classical.choose_spec (hex i (by omega))
    have h2 := Classical.choose_spec (hex j hj)
    rw [e] at h1
    have h3 := (hrow _ h2.1 j hj).2 i hij
    exact h3 (h1.2.trans h2.2.symm)

theorem sumN_mulR (k : Int) (f : Nat → Int) : ∀ n, sumN (fun i => f i * k) n = sumN f n * k
  | 0 => by simp [sumN]
  | n + 1 => by simp only [sumN, sumN_mulR k f n, Int.add_mul]
theorem sumN_mulL (k : Int) (f : Nat → Int) : ∀ n, sumN (fun i => k * f i) n = k * sumN f n
  | 0 => by simp [sumN]
  | n + 1 => by simp only [sumN, sumN_mulL k f n, Int.mul_add]
theorem sumN_none {f : Nat → Int} : ∀ {n : Nat}, (∀ i, i < n → f i = 0) → sumN f n = 0
  | 0, _ => rfl
  | n + 1, h => by
    have h1 := sumN_none (f := f) (n := n) (fun i hi => h i (by omega))
    have h2 := h n (by omega)
    simp only [sumN, h1, h2]; rfl
/-- A table of products tells nothing. -/
theorem mut_zero {C T N : Nat} {Z : Nat → Nat → Int} {x y : Nat → Int} (hk : OkT C (fun _ => T) Z N) (hZ : ∀ i s, i < C → s < T → Z i s = x s * y i) (hx : ∀ s, s < T → 0 ≤ x s) (hy : ∀ i, i < C → 0 ≤ y i) (q : Int) : sumN (fun i => sumN (mutV (Z i) (rowSum (fun _ => T) Z i) (colV Z C) N q) T) C = 0 := by
  have hr : ∀ i, i < C → rowSum (fun _ => T) Z i = sumN x T * y i := fun i hi => by
    unfold rowSum
    rw [sumN_congr (fun s hs => hZ i s hi hs), sumN_mulR]
  have hc : ∀ s, s < T → colV Z C s = x s * sumN y C := fun s hs => by
    unfold colV
    rw [sumN_congr (fun i hi => hZ i s hi hs), sumN_mulL]
  have hN : (N : Int) = sumN x T * sumN y C := by
    have h1 : sumN (rowSum (fun _ => T) Z) C = (N : Int) := hk.tot
    rw [sumN_congr (z' := fun i => sumN x T * y i) (fun i hi => hr i hi), sumN_mulL] at h1
    exact h1.symm
  have hX := sumN_nonneg hx
  have hY := sumN_nonneg hy
  refine sumN_none fun i hi => sumN_none fun s hs => ?_
  unfold mutV
  by_cases h0 : Z i s = 0
  · rw [h0]; simp
  · have e1 := hZ i s hi hs
    have x0 := hx s hs
    have y0 := hy i hi
    have hxs : 0 < x s := by
      rcases Int.lt_or_eq_of_le x0 with h | h
      · exact h
      · rw [← h, Int.zero_mul] at e1; exact absurd e1 h0
    have hyi : 0 < y i := by
      rcases Int.lt_or_eq_of_le y0 with h | h
      · exact h
      · rw [← h, Int.mul_zero] at e1; exact absurd e1 h0
    have hXs := sumN_ge hx hs
    have hYi := sumN_ge hy hi
    obtain ⟨a, ha⟩ : ∃ a : Nat, x s = (a : Int) := ⟨_, (Int.toNat_of_nonneg x0).symm⟩
    obtain ⟨b, hb⟩ : ∃ b : Nat, y i = (b : Int) := ⟨_, (Int.toNat_of_nonneg y0).symm⟩
    obtain ⟨X, hXe⟩ : ∃ X : Nat, sumN x T = (X : Int) := ⟨_, (Int.toNat_of_nonneg hX).symm⟩
    obtain ⟨Y, hYe⟩ : ∃ Y : Nat, sumN y C = (Y : Int) := ⟨_, (Int.toNat_of_nonneg hY).symm⟩
    have ea : (Z i s).toNat = a * b := by rw [e1, ha, hb, ← Int.natCast_mul]; exact Int.toNat_natCast _
    have er : (rowSum (fun _ => T) Z i).toNat = X * b := by rw [hr i hi, hXe, hb, ← Int.natCast_mul]; exact Int.toNat_natCast _
    have ec : (colV Z C s).toNat = a * Y := by rw [hc s hs, ha, hYe, ← Int.natCast_mul]; exact Int.toNat_natCast _
    have eN : N = X * Y := by rw [hXe, hYe, ← Int.natCast_mul] at hN; omega
    rw [ea, er, ec, eN, multI_mul q (by omega) (by omega), multI_mul q (by omega) (by omega), multI_mul q (by omega) (by omega), multI_mul q (by omega) (by omega)]
    grind
/-- What has no parts is told as nothing. -/
theorem over_none {l : List (Int × Int)} (h : Rising l) (h0 : ∀ x, atL l x = 0) (G : Nat) : overL G l = [] := by
  unfold overL
  rw [List.filter_eq_nil_iff]
  intro e he
  obtain ⟨e', h1, rfl⟩ := List.mem_map.1 he
  have h2 := atL_mem h h1
  rw [h0] at h2
  rw [← h2]
  simp
end Go.Proofs.YtdlbnolnkmhdcaaDoor

/- Polynomials modulo a prime: as many values as coefficients tell them (LAGRANGE); NEWTON's differences. Plain functions. -/
namespace Go.Proofs.YtdlbnolnkmhdcaaDoor

/-- The same modulo p. -/
def Mo (p a b : Int) : Prop := ∃ k, a - b = p * k
theorem Mo.refl (p a : Int) : Mo p a a := ⟨0, by omega⟩
theorem Mo.of {p a b : Int} (h : a = b) : Mo p a b := h ▸ Mo.refl p a
theorem Mo.symm {p a b : Int} : Mo p a b → Mo p b a := fun ⟨k, h⟩ => ⟨-k, by grind⟩
theorem Mo.trans {p a b c : Int} : Mo p a b → Mo p b c → Mo p a c := fun ⟨k, h⟩ ⟨l, h'⟩ => ⟨k + l, by grind⟩
theorem Mo.add {p a b c d : Int} : Mo p a b → Mo p c d → Mo p (a + c) (b + d) := fun ⟨k, h⟩ ⟨l, h'⟩ => ⟨k + l, by grind⟩
theorem Mo.sub {p a b c d : Int} : Mo p a b → Mo p c d → Mo p (a - c) (b - d) := fun ⟨k, h⟩ ⟨l, h'⟩ => ⟨k - l, by grind⟩
theorem Mo.mul {p a b c d : Int} : Mo p a b → Mo p c d → Mo p (a * c) (b * d) := fun ⟨k, h⟩ ⟨l, h'⟩ => ⟨k * c + b * l, by grind⟩
theorem Mo.emod (p a : Int) : Mo p (a % p) a := ⟨-(a / p), by have := Int.mul_ediv_add_emod a p; grind⟩
theorem Mo.eq {p a b : Int} (h : Mo p a b) : a % p = b % p := by
  obtain ⟨k, h⟩ := h
  have : a = b + p * k := by omega
  rw [this, Int.add_mul_emod_self_left]
theorem Mo.exact {p a b : Int} (h : Mo p a b) (ha : 0 ≤ a ∧ a < p) (hb : 0 ≤ b ∧ b < p) : a = b := by
  have := h.eq
  rwa [Int.emod_eq_of_lt ha.1 ha.2, Int.emod_eq_of_lt hb.1 hb.2] at this
theorem Mo.of_eq {p a b : Int} (h : a % p = b % p) : Mo p a b := (Mo.emod p a).symm.trans ((Mo.of h).trans (Mo.emod p b))
theorem Mo.zero_add_p (p a : Int) : Mo p (a + p) a := ⟨1, by omega⟩

/-- Every number that p does not divide has an inverse. -/
def Fl (p : Int) : Prop := ∀ a, ¬ Mo p a 0 → ∃ r, Mo p (a * r) 1
theorem Fl.euclid {p : Int} (h : Fl p) {a b : Int} (ha : ¬ Mo p a 0) (hb : Mo p (a * b) 0) : Mo p b 0 := by
  obtain ⟨r, k, hr⟩ := h a ha
  obtain ⟨l, hl⟩ := hb
  exact ⟨r * l - k * b, by grind⟩

/-- Is it a polynomial with m coefficients? -/
def Pol (p : Int) : Nat → (Int → Int) → Prop
  | 0, f => ∀ x, Mo p (f x) 0
  | m + 1, f => ∃ c g, Pol p m g ∧ ∀ x, Mo p (f x) (c + x * g x)
theorem Pol.same {p : Int} : ∀ {m : Nat} {f g : Int → Int}, Pol p m f → (∀ x, Mo p (g x) (f x)) → Pol p m g
  | 0, _, _, h, he => fun x => (he x).trans (h x)
  | _ + 1, _, _, ⟨c, h, h1, h2⟩, he => ⟨c, h, h1, fun x => (he x).trans (h2 x)⟩
theorem Pol.zero {p : Int} : ∀ (m : Nat), Pol p m (fun _ => 0)
  | 0 => fun _ => Mo.refl _ _
  | m + 1 => ⟨0, _, Pol.zero m, fun x => Mo.of (by grind)⟩
theorem Pol.add {p : Int} : ∀ {m : Nat} {f g : Int → Int}, Pol p m f → Pol p m g → Pol p m (fun x => f x + g x)
  | 0, _, _, h, h' => fun x => (h x).add (h' x)
  | _ + 1, _, _, ⟨c, h, h1, h2⟩, ⟨d, i, i1, i2⟩ => ⟨c + d, _, h1.add i1, fun x => ((h2 x).add (i2 x)).trans (Mo.of (by grind))⟩
theorem Pol.scale {p : Int} (k : Int) : ∀ {m : Nat} {f : Int → Int}, Pol p m f → Pol p m (fun x => k * f x)
  | 0, _, h => fun x => ((Mo.refl p k).mul (h x)).trans (Mo.of (by omega))
  | _ + 1, _, ⟨c, h, h1, h2⟩ => ⟨k * c, _, h1.scale k, fun x => ((Mo.refl p k).mul (h2 x)).trans (Mo.of (by grind))⟩
theorem Pol.sub {p : Int} {m : Nat} {f g : Int → Int} (h : Pol p m f) (h' : Pol p m g) : Pol p m (fun x => f x - g x) :=
  (h.add (h'.scale (-1))).same fun x => Mo.of (by grind)
theorem Pol.more {p : Int} : ∀ {m : Nat} {f : Int → Int}, Pol p m f → Pol p (m + 1) f
  | 0, f, h => ⟨0, fun _ => 0, fun _ => Mo.refl _ _, fun x => (h x).trans (Mo.of (by simp))⟩
  | _ + 1, _, ⟨c, h, h1, h2⟩ => ⟨c, h, h1.more, h2⟩
theorem Pol.up {p : Int} {m n : Nat} (hmn : m ≤ n) {f : Int → Int} (h : Pol p m f) : Pol p n f := by
  induction n with
  | zero => obtain rfl : m = 0 := by omega
            exact h
  | succ n ih =>
    rcases Nat.lt_or_ge n m with h1 | h1
    · obtain rfl : m = n + 1 := by omega
      exact h
    · exact (ih h1).more
theorem Pol.times {p : Int} {m : Nat} {f : Int → Int} (h : Pol p m f) : Pol p (m + 1) (fun x => x * f x) := ⟨0, f, h, fun x => Mo.of (by simp)⟩
theorem Pol.const {p : Int} (c : Int) : Pol p 1 (fun _ => c) := ⟨c, fun _ => 0, fun _ => Mo.refl _ _, fun x => Mo.of (by simp)⟩
theorem Pol.pow {p : Int} : ∀ k : Nat, Pol p (k + 1) (fun x => x ^ k)
  | 0 => (Pol.const 1).same fun x => Mo.of (by simp)
  | k + 1 => (Pol.pow k).times.same fun x => Mo.of (by grind)
theorem Pol.line {p : Int} {m : Nat} {f : Int → Int} (a : Int) (h : Pol p m f) : Pol p (m + 1) (fun x => (x - a) * f x) :=
  (h.times.add (h.more.scale (-a))).same fun x => Mo.of (by grind)
theorem Pol.enil {p : Int} {m : Nat} {f : Int → Int} (a : Int) (h : Pol p m f) : Pol p (m + 1) (fun x => f x * (a - x)) :=
  ((h.line a).scale (-1)).same fun x => Mo.of (by grind)
theorem Pol.quot {p : Int} : ∀ {m : Nat} {f : Int → Int}, Pol p (m + 1) f → ∀ a, ∃ g, Pol p m g ∧ ∀ x, Mo p (f x) (f a + (x - a) * g x)
  | 0, f, ⟨c, h, h1, h2⟩, a => ⟨fun _ => 0, fun _ => Mo.refl _ _, fun x => by
    have e1 := (h2 x).trans ((Mo.refl p c).add ((Mo.refl p x).mul (h1 x)))
    have e2 := (h2 a).trans ((Mo.refl p c).add ((Mo.refl p a).mul (h1 a)))
    exact e1.trans (Mo.symm ((e2.add (Mo.refl p _)).trans (Mo.of (by simp))))⟩
  | m + 1, f, ⟨c, h, h1, h2⟩, a => by
    obtain ⟨g, g1, g2⟩ := h1.quot a
    refine ⟨fun x => h a + x * g x, ⟨h a, g, g1, fun x => Mo.refl _ _⟩, fun x => ?_⟩
    have e1 := (h2 x).trans ((Mo.refl p c).add ((Mo.refl p x).mul (g2 x)))
    have e2 := (h2 a).add (Mo.refl p ((x - a) * (h a + x * g x)))
    exact e1.trans (Mo.trans (Mo.of (by grind)) e2.symm)
/-- Unlike places. -/
def Apart (p : Int) (a : Nat → Int) (m : Nat) : Prop := ∀ i j, i < m → j < m → i ≠ j → ¬ Mo p (a i - a j) 0
theorem Pol.roots {p : Int} (hF : Fl p) (a : Nat → Int) : ∀ {m : Nat} {f : Int → Int}, Pol p m f → Apart p a m → (∀ i, i < m → Mo p (f (a i)) 0) → ∀ x, Mo p (f x) 0
  | 0, _, h, _, _, x => h x
  | m + 1, f, h, ha, hr, x => by
    obtain ⟨g, g1, g2⟩ := h.quot (a m)
    have hg := Pol.roots hF a g1 (fun i j hi hj => ha i j (by omega) (by omega)) (fun i hi => by
      refine hF.euclid (ha i m (by omega) (by omega) (by omega)) ?_
      have e := (g2 (a i)).symm.sub (hr m (by omega))
      exact (Mo.of (by omega)).trans (e.trans ((hr i (by omega)).sub (Mo.refl p 0))))
    exact (g2 x).trans (((hr m (by omega)).add ((Mo.refl p _).mul (hg x))).trans (Mo.of (by omega)))
theorem Pol.unique {p : Int} (hF : Fl p) {a : Nat → Int} {m : Nat} {f g : Int → Int} (hf : Pol p m f) (hg : Pol p m g) (ha : Apart p a m) (h : ∀ i, i < m → Mo p (f (a i)) (g (a i))) (x : Int) : Mo p (f x) (g x) := by
  have := Pol.roots hF a (hf.sub hg) ha (fun i hi => ((h i hi).sub (Mo.refl p _)).trans (Mo.of (by omega))) x
  obtain ⟨k, hk⟩ := this
  exact ⟨k, by omega⟩

/-- The product of all a k - x but the i-th. -/
def prodE (a : Nat → Int) (i : Nat) (x : Int) : Nat → Int
  | 0 => 1
  | n + 1 => if n = i then prodE a i x n else prodE a i x n * (a n - x)
theorem prodE_pol {p : Int} (a : Nat → Int) (i : Nat) : ∀ n, Pol p (if n ≤ i then n + 1 else n) (fun x => prodE a i x n)
  | 0 => by
    rw [if_pos (Nat.zero_le _)]
    exact (Pol.const 1).same fun x => Mo.refl _ _
  | n + 1 => by
    have ih := prodE_pol (p := p) a i n
    by_cases h : n = i
    · rw [if_neg (by omega)]
      rw [if_pos (by omega)] at ih
      exact ih.same fun x => Mo.of (by simp [prodE, h])
    · have e : ∀ x, prodE a i x (n + 1) = prodE a i x n * (a n - x) := fun x => by simp [prodE, h]
      by_cases h2 : n + 1 ≤ i
      · rw [if_pos h2]
        rw [if_pos (by omega)] at ih
        exact (ih.enil (a n)).same fun x => Mo.of (e x)
      · rw [if_neg h2]
        rw [if_neg (by omega)] at ih
        exact (ih.enil (a n)).same fun x => Mo.of (e x)
theorem prodE_zero {a : Nat → Int} {i j : Nat} (hj : j ≠ i) : ∀ {n}, j < n → prodE a i (a j) n = 0
  | 0, h => by omega
  | n + 1, h => by
    simp only [prodE]
    by_cases h1 : n = i
    · rw [if_pos h1]; exact prodE_zero hj (by omega)
    · rw [if_neg h1]
      rcases Nat.lt_or_ge j n with h2 | h2
      · rw [prodE_zero hj h2]; omega
      · obtain rfl : j = n := by omega
        grind
theorem prodE_unit {p : Int} (hF : Fl p) {a : Nat → Int} {m : Nat} (ha : Apart p a m) {i : Nat} (hi : i < m) (h1 : ¬ Mo p 1 0) : ∀ n, n ≤ m → ¬ Mo p (prodE a i (a i) n) 0
  | 0, _ => h1
  | n + 1, h => by
    have ih := prodE_unit hF ha hi h1 n (by omega)
    simp only [prodE]
    by_cases h2 : n = i
    · rw [if_pos h2]; exact ih
    · rw [if_neg h2]
      intro hz
      exact ha n i (by omega) hi h2 (hF.euclid ih hz)
/-- The sum of LAGRANGE's parts. -/
def lag (a v r : Nat → Int) (m : Nat) (x : Int) : Nat → Int
  | 0 => 0
  | n + 1 => lag a v r m x n + v n * (r n * prodE a n x m)
theorem lag_pol {p : Int} (a v r : Nat → Int) (m : Nat) : ∀ n, n ≤ m → Pol p m (fun x => lag a v r m x n)
  | 0, _ => (Pol.zero m).same fun _ => Mo.refl _ _
  | n + 1, h => by
    have h1 := prodE_pol (p := p) a n m
    rw [if_neg (by omega)] at h1
    exact ((lag_pol a v r m n (by omega)).add ((h1.scale (r n)).scale (v n))).same fun x => Mo.refl _ _
theorem lag_at {p : Int} {a v r : Nat → Int} {m : Nat} (hr : ∀ i, i < m → Mo p (r i * prodE a i (a i) m) 1) {j : Nat} (hj : j < m) : ∀ n, n ≤ m → Mo p (lag a v r m (a j) n) (if j < n then v j else 0)
  | 0, _ => by rw [if_neg (by omega)]; exact Mo.refl _ _
  | n + 1, h => by
    have ih := lag_at (v := v) hr hj n (by omega)
    simp only [lag]
    by_cases h1 : j = n
    · subst h1
      rw [if_neg (by omega)] at ih
      rw [if_pos (by omega)]
      exact (ih.add ((Mo.refl p (v j)).mul (hr j hj))).trans (Mo.of (by omega))
    · rw [prodE_zero h1 (by omega)]
      refine (ih.add (Mo.refl p _)).trans (Mo.of ?_)
      by_cases h2 : j < n
      · rw [if_pos h2, if_pos (by omega)]; grind
      · rw [if_neg h2, if_neg (by omega)]; grind
/-- LAGRANGE: what has these values is told by them. -/
theorem lag_tells {p : Int} (hF : Fl p) {a v r : Nat → Int} {m : Nat} (ha : Apart p a m) (hr : ∀ i, i < m → Mo p (r i * prodE a i (a i) m) 1) {f : Int → Int} (hf : Pol p m f) (hv : ∀ i, i < m → Mo p (f (a i)) (v i)) (x : Int) : Mo p (lag a v r m x m) (f x) :=
  Pol.unique hF (lag_pol a v r m m (Nat.le_refl _)) hf ha (fun i hi => by
    have := lag_at (v := v) hr hi m (Nat.le_refl _)
    rw [if_pos hi] at this
    exact this.trans (hv i hi).symm) x

/-- A polynomial with k + 1 coefficients, the last of which is d. -/
def Lead (p : Int) (k : Nat) (d : Int) (f : Int → Int) : Prop := ∃ g, Pol p k g ∧ ∀ x, Mo p (f x) (g x + d * x ^ k)
theorem Lead.pol {p : Int} {k : Nat} {d : Int} {f : Int → Int} : Lead p k d f → Pol p (k + 1) f := fun ⟨_, g1, g2⟩ => (g1.more.add ((Pol.pow k).scale d)).same g2
theorem Lead.diff {p : Int} {k : Nat} {d : Int} {f h : Int → Int} : Lead p k d f → Lead p k 1 h → Pol p k (fun x => f x - d * h x) := fun ⟨g, g1, g2⟩ ⟨i, i1, i2⟩ =>
  (g1.sub (i1.scale d)).same fun x => ((g2 x).sub ((Mo.refl p d).mul (i2 x))).trans (Mo.of (by grind))
theorem Lead.neville {p : Int} {k : Nat} {d e : Int} {f h : Int → Int} (a b : Int) : Lead p k d f → Lead p k e h → Lead p (k + 1) (d - e) (fun x => (x - a) * f x - (x - b) * h x) := fun hf hh => by
  have f1 := hf.pol
  have h1 := hh.pol
  obtain ⟨g, g1, g2⟩ := hf
  obtain ⟨i, i1, i2⟩ := hh
  refine ⟨fun x => (x * g x - x * i x) + ((-a) * f x - (-b) * h x), (g1.times.sub i1.times).add ((f1.scale (-a)).sub (h1.scale (-b))), fun x => ?_⟩
  have e1 := (((Mo.refl p x).mul (g2 x)).sub ((Mo.refl p x).mul (i2 x))).add (Mo.refl p ((-a) * f x - (-b) * h x))
  exact (Mo.of (by grind)).trans (e1.trans (Mo.of (by grind)))
theorem Lead.scale {p : Int} {k : Nat} {d : Int} {f : Int → Int} (c : Int) : Lead p k d f → Lead p k (c * d) (fun x => c * f x) := fun ⟨g, g1, g2⟩ => ⟨_, g1.scale c, fun x => ((Mo.refl p c).mul (g2 x)).trans (Mo.of (by grind))⟩
theorem Lead.same {p : Int} {k : Nat} {d e : Int} {f : Int → Int} (h : Mo p d e) : Lead p k d f → Lead p k e f := fun ⟨g, g1, g2⟩ => ⟨g, g1, fun x => (g2 x).trans ((Mo.refl p _).add (h.mul (Mo.refl p _)))⟩

/-- NEWTON's differences: D k i is that of the places i - k to i. -/
structure Diffs (p : Int) (a v : Nat → Int) (m : Nat) (D : Nat → Nat → Int) : Prop where
  zero : ∀ i, i < m → Mo p (D 0 i) (v i)
  step : ∀ k i, k < i → i < m → Mo p (D (k + 1) i * (a i - a (i - (k + 1)))) (D k i - D k (i - 1))
theorem Diffs.through {p : Int} (hF : Fl p) {a v : Nat → Int} {m : Nat} {D : Nat → Nat → Int} (hD : Diffs p a v m D) (ha : Apart p a m) : ∀ k i, k ≤ i → i < m → ∃ P, Lead p k (D k i) P ∧ ∀ j, i - k ≤ j → j ≤ i → Mo p (P (a j)) (v j)
  | 0, i, _, hi => ⟨fun _ => D 0 i, ⟨fun _ => 0, fun _ => Mo.refl _ _, fun x => Mo.of (by simp)⟩, fun j h1 h2 => by
    obtain rfl : j = i := by omega
    exact hD.zero j hi⟩
  | k + 1, i, hk, hi => by
    obtain ⟨P, P1, P2⟩ := Diffs.through hF hD ha k i (by omega) hi
    obtain ⟨Q, Q1, Q2⟩ := Diffs.through hF hD ha k (i - 1) (by omega) (by omega)
    obtain ⟨r, hr⟩ := hF (a i - a (i - (k + 1))) (ha i (i - (k + 1)) hi (by omega) (by omega))
    have hL := (Lead.neville (a (i - (k + 1))) (a i) P1 Q1).scale r
    have hd : Mo p (r * (D k i - D k (i - 1))) (D (k + 1) i) := by
      have e := (Mo.refl p r).mul (hD.step k i (by omega) hi).symm
      refine e.trans ((Mo.of ?_).trans (((Mo.refl p (D (k + 1) i)).mul hr).trans (Mo.of (Int.mul_one _))))
      grind
    refine ⟨_, hL.same hd, fun j h1 h2 => ?_⟩
    have key : Mo p ((a j - a (i - (k + 1))) * P (a j) - (a j - a i) * Q (a j)) ((a i - a (i - (k + 1))) * v j) := by
      by_cases e1 : j = i
      · subst e1
        have := ((Mo.refl p (a j - a (j - (k + 1)))).mul (P2 j (by omega) (Nat.le_refl _)))
        exact (Mo.of (by grind)).trans this
      · by_cases e2 : j = i - (k + 1)
        · have h3 := ((Mo.refl p (a i - a j)).mul (Q2 j (by omega) (by omega)))
          rw [← e2]
          exact (Mo.of (by grind)).trans h3
        · have h3 := ((Mo.refl p (a j - a (i - (k + 1)))).mul (P2 j (by omega) h2)).sub ((Mo.refl p (a j - a i)).mul (Q2 j (by omega) (by omega)))
          exact h3.trans (Mo.of (by grind))
    have e := (Mo.refl p r).mul key
    refine e.trans ((Mo.of ?_).trans ((hr.mul (Mo.refl p (v j))).trans (Mo.of (Int.one_mul _))))
    grind
/-- The product of the first n of x - a j. -/
def prodF (a : Nat → Int) (x : Int) : Nat → Int
  | 0 => 1
  | n + 1 => prodF a x n * (x - a n)
theorem prodF_lead {p : Int} (a : Nat → Int) : ∀ n, Lead p n 1 (fun x => prodF a x n)
  | 0 => ⟨fun _ => 0, fun _ => Mo.refl _ _, fun x => Mo.of (by simp [prodF])⟩
  | n + 1 => by
    have hp := (prodF_lead (p := p) a n).pol
    obtain ⟨g, g1, g2⟩ := prodF_lead (p := p) a n
    refine ⟨fun x => x * g x + (-(a n)) * prodF a x n, g1.times.add (hp.scale _), fun x => ?_⟩
    have e := ((Mo.refl p x).mul (g2 x)).add (Mo.refl p ((-(a n)) * prodF a x n))
    exact (Mo.of (by simp only [prodF]; grind)).trans (e.trans (Mo.of (by grind)))
theorem prodF_zero {a : Nat → Int} {j : Nat} : ∀ {n}, j < n → prodF a (a j) n = 0
  | 0, h => by omega
  | n + 1, h => by
    simp only [prodF]
    rcases Nat.lt_or_ge j n with h1 | h1
    · rw [prodF_zero h1]; omega
    · obtain rfl : j = n := by omega
      grind
/-- NEWTON's polynomial. -/
def newt (a : Nat → Int) (D : Nat → Nat → Int) (x : Int) : Nat → Int
  | 0 => 0
  | n + 1 => newt a D x n + D n n * prodF a x n
theorem newt_pol {p : Int} (a : Nat → Int) (D : Nat → Nat → Int) : ∀ n, Pol p n (fun x => newt a D x n)
  | 0 => fun _ => Mo.refl _ _
  | n + 1 => ((newt_pol a D n).more.add ((prodF_lead a n).pol.scale (D n n))).same fun _ => Mo.refl _ _
theorem newt_at {p : Int} (hF : Fl p) {a v : Nat → Int} {m : Nat} {D : Nat → Nat → Int} (hD : Diffs p a v m D) (ha : Apart p a m) : ∀ n, n ≤ m → ∀ j, j < n → Mo p (newt a D (a j) n) (v j)
  | 0, _, j, h => by omega
  | n + 1, hn, j, hj => by
    obtain ⟨P, P1, P2⟩ := Diffs.through hF hD ha n n (Nat.le_refl _) (by omega)
    have hq := P1.diff (prodF_lead a n)
    have ih := newt_at hF hD ha n (by omega)
    have hu := Pol.unique hF hq (newt_pol a D n) (fun i j hi hj => ha i j (by omega) (by omega)) (fun i hi => by
      refine Mo.trans ?_ (ih i hi).symm
      have := P2 i (by omega) (by omega)
      refine Mo.trans (Mo.of ?_) this
      simp only [prodF_zero hi]; omega) (a j)
    refine Mo.trans ?_ (P2 j (by omega) (by omega))
    have := hu.symm.add (Mo.refl p (D n n * prodF a (a j) n))
    exact this.trans (Mo.of (by omega))
/-- NEWTON's polynomial as it is reckoned, from the last place down. -/
def horn (a : Nat → Int) (D : Nat → Nat → Int) (m : Nat) (x : Int) : Nat → Int
  | 0 => 0
  | n + 1 => horn a D m x n * (x - a (m - 1 - n)) + D (m - 1 - n) (m - 1 - n)
theorem horn_newt (a : Nat → Int) (D : Nat → Nat → Int) (m : Nat) (x : Int) : ∀ n, n ≤ m → newt a D x m = newt a D x (m - n) + prodF a x (m - n) * horn a D m x n
  | 0, _ => by simp [horn]
  | n + 1, h => by
    have ih := horn_newt a D m x n (by omega)
    have e : m - n = (m - 1 - n) + 1 := by omega
    rw [ih, e, show m - (n + 1) = m - 1 - n by omega]
    simp only [newt, prodF, horn]
    grind
theorem horn_all (a : Nat → Int) (D : Nat → Nat → Int) (m : Nat) (x : Int) : horn a D m x m = newt a D x m := by
  have := horn_newt a D m x m (Nat.le_refl _)
  rw [this]; simp [newt, prodF]

/-- FERMAT, looked through up to 997. -/
def primB (n : Nat) : Bool := decide (2 ≤ n) && (List.range 32).all fun d => d < 2 || n < d * d || n % d != 0
theorem fermat_all : (List.range 998).all (fun p => !primB p || (List.range p).all fun n => n == 0 || n ^ (p - 2) % p * n % p == 1) = true := by decide +kernel
end Go.Proofs.YtdlbnolnkmhdcaaDoor

/- Fields: secret.isModulus, allFrom; the document's IsField, InField. -/
namespace Go.Proofs.YtdlbnolnkmhdcaaDoor
open Go.RowKit

theorem primB_iff {n : Nat} (hn : n ≤ 997) : primB n = true ↔ Pr n := by
  unfold primB Pr
  simp only [Bool.and_eq_true, decide_eq_true_eq, List.all_eq_true, List.mem_range, Bool.or_eq_true, bne_iff_ne]
  constructor
  · rintro ⟨h2, h⟩
    refine ⟨h2, fun d hd hdd => ?_⟩
    have h32 : d < 32 := by
      rcases Nat.lt_or_ge d 32 with h' | h'
      · exact h'
      · have := Nat.mul_le_mul h' h'; omega
    rcases h d h32 with (h1 | h1) | h1
    · omega
    · omega
    · exact h1
  · rintro ⟨h2, h⟩
    refine ⟨h2, fun d hd => ?_⟩
    by_cases h1 : d < 2
    · exact Or.inl (Or.inl h1)
    · by_cases h3 : n < d * d
      · exact Or.inl (Or.inr h3)
      · exact Or.inr (h d (by omega) (by omega))
/-- Is there a field of so many? -/
def fldB (p : Int) : Bool := decide (p ≤ 997) && (decide (2 ≤ p) && primB p.toNat)
theorem fldB_ok {p : Int} (h : fldB p = true) : 2 ≤ p ∧ p ≤ 997 ∧ primB p.toNat = true := by
  unfold fldB at h
  simp only [Bool.and_eq_true, decide_eq_true_eq] at h
  exact ⟨h.2.1, h.1, h.2.2⟩
theorem fermat_at {p n : Nat} (hp : p ≤ 997) (h : primB p = true) (h0 : 0 < n) (hn : n < p) : n ^ (p - 2) % p * n % p = 1 := by
  have h1 := List.all_eq_true.1 fermat_all p (List.mem_range.2 (by omega))
  rw [h] at h1
  simp only [Bool.not_true, Bool.false_or, List.all_eq_true, List.mem_range, Bool.or_eq_true, beq_iff_eq] at h1
  rcases h1 n hn with h2 | h2
  · omega
  · exact h2
theorem fl_of {p : Nat} (hp : p ≤ 997) (h : primB p = true) : Fl (p : Int) := fun a ha => by
  have h2 : 2 ≤ p := by unfold primB at h; simp at h; exact h.1
  obtain ⟨n, hn⟩ : ∃ n : Nat, a % (p : Int) = (n : Int) := ⟨_, (Int.toNat_of_nonneg (Int.emod_nonneg a (by omega))).symm⟩
  have hlt : n < p := by have := Int.emod_lt_of_pos a (show (0 : Int) < p by omega); omega
  have h0 : 0 < n := by
    rcases Nat.eq_zero_or_pos n with h | h
    · exfalso
      refine ha ((Mo.emod p a).symm.trans (Mo.of ?_))
      rw [hn, h]; rfl
    · exact h
  refine ⟨((n ^ (p - 2) % p : Nat) : Int), ?_⟩
  have h3 := fermat_at hp h h0 hlt
  have h4 : Mo (p : Int) (a * ((n ^ (p - 2) % p : Nat) : Int)) ((n : Int) * ((n ^ (p - 2) % p : Nat) : Int)) := ((Mo.emod p a).symm.trans (Mo.of hn)).mul (Mo.refl _ _)
  refine h4.trans (Mo.of_eq ?_)
  rw [show (n : Int) * ((n ^ (p - 2) % p : Nat) : Int) = ((n ^ (p - 2) % p * n : Nat) : Int) by rw [Int.natCast_mul]; exact Int.mul_comm _ _, ← Int.natCast_emod, h3]
  exact (Int.emod_eq_of_lt (by omega) (by omega)).symm

/-- Are the first k from lo on and below p? -/
def inFB (z : Nat → Int) (lo p : Int) : Nat → Bool
  | 0 => true
  | k + 1 => inFB z lo p k && decide (lo ≤ z k ∧ z k < p)
theorem inFB_no {z : Nat → Int} {lo p : Int} {k n : Nat} (h : ¬ (lo ≤ z k ∧ z k < p)) (hk : k < n) : inFB z lo p n = false := by
  induction n with
  | zero => omega
  | succ n ih =>
    rcases Nat.lt_or_ge k n with h1 | h1
    · simp [inFB, ih h1]
    · obtain rfl : k = n := by omega
      simp only [inFB, decide_eq_false h, Bool.and_false]
theorem inFB_next {z : Nat → Int} {lo p : Int} {k : Nat} (h : inFB z lo p k = true) (h1 : lo ≤ z k ∧ z k < p) : inFB z lo p (k + 1) = true := by simp [inFB, h, h1]
theorem inFB_all {z : Nat → Int} {lo p : Int} {n : Nat} (h : inFB z lo p n = true) {k : Nat} (hk : k < n) : lo ≤ z k ∧ z k < p := by
  by_cases e : lo ≤ z k ∧ z k < p
  · exact e
  · rw [inFB_no e hk] at h; cases h
end Go.Proofs.YtdlbnolnkmhdcaaDoor

/- secret.valueAt: a polynomial from its highest power down; slices.Backward. -/
namespace Go.Proofs.YtdlbnolnkmhdcaaDoor
open Go.RowKit Go.Shelf
attribute [local go_sem] Oper.semAt_some

/-- What the rounds in pre have made of the value: round j takes coefficient n - 1 - j. -/
def folV (p x n : Nat) (c : Nat → Nat) (pre : List Nat) : Nat := pre.foldl (fun y j => (y * x + c (n - 1 - j)) % p) 0
theorem folV_snoc (p x n : Nat) (c : Nat → Nat) (pre : List Nat) (j : Nat) : folV p x n c (pre ++ [j]) = (folV p x n c pre * x + c (n - 1 - j)) % p := by simp [folV]
theorem folV_lt {p x n : Nat} {c : Nat → Nat} (hp : 0 < p) (pre : List Nat) : folV p x n c pre < p := by
  rcases List.eq_nil_or_concat pre with rfl | ⟨r, j, rfl⟩
  · simpa [folV] using hp
  · rw [List.concat_eq_append, folV_snoc]; exact Nat.mod_lt _ hp

theorem rem_nat (a b d p : Nat) : ((a : Int) * (b : Int) + (d : Int)) % (p : Int) = (((a * b + d) % p : Nat) : Int) := by
  rw [Int.natCast_emod, Int.natCast_add, Int.natCast_mul]
/-- What a round keeps: what lay below n₀, and the slice's box. -/
def KeepsB (n₀ Bs : Nat) (W W' : World) : Prop := Below n₀ W W' ∧ W'.cell? ⟨Bs, 0, none⟩ = W.cell? ⟨Bs, 0, none⟩
theorem keepsB_t {n₀ Bs : Nat} {A B C : World} (h : KeepsB n₀ Bs A B) (k : KeepsB n₀ Bs B C) : KeepsB n₀ Bs A C := ⟨h.1.trans k.1, k.2.trans h.2⟩
theorem keepsB_b {n₀ Bs : Nat} {w : World} (hn : n₀ ≤ w.heap.size) (hB : Bs < w.heap.size) (W : World) (l : Nat) (o o' : Obj) (hl : w.heap.size ≤ l) (h : W.heap[l]? = some o) (h1 : o.isCells = false) (h2 : o.isWalk = false) : KeepsB n₀ Bs W (W.putObj l o') :=
  ⟨belowK_b (w := w) hn W l o o' hl h h1 h2, (belowK_b (w := w) (Nat.le_refl _) W l o o' hl h h1 h2).cell (p := ⟨Bs, 0, none⟩) hB⟩
end Go.Proofs.YtdlbnolnkmhdcaaDoor

/- A polynomial's values: from the highest power down, and by powers. Plain functions. -/
namespace Go.Proofs.YtdlbnolnkmhdcaaDoor

/-- The powers of x, and the value, as the document reckons them. -/
def pwN (p x : Nat) : Nat → Nat
  | 0 => 1
  | k + 1 => pwN p x k * x % p
def valN (p : Nat) (c : Nat → Nat) (x : Nat) : Nat → Nat
  | 0 => 0
  | k + 1 => (valN p c x k + c k * pwN p x k) % p
def polZ (c : Nat → Nat) (x : Int) : Nat → Int
  | 0 => 0
  | k + 1 => polZ c x k + (c k : Int) * x ^ k
def horC (n : Nat) (c : Nat → Nat) (x : Int) : Nat → Int
  | 0 => 0
  | j + 1 => horC n c x j * x + (c (n - 1 - j) : Int)
theorem horC_pol (n : Nat) (c : Nat → Nat) (x : Int) : ∀ j, j ≤ n → polZ c x n = polZ c x (n - j) + x ^ (n - j) * horC n c x j
  | 0, _ => by simp [horC]
  | j + 1, h => by
    have ih := horC_pol n c x j (by omega)
    rw [ih, show n - j = (n - 1 - j) + 1 by omega, show n - (j + 1) = n - 1 - j by omega]
    simp only [polZ, horC]
    grind
theorem pwN_lt {p x : Nat} (hp : 1 < p) : ∀ k, pwN p x k < p
  | 0 => hp
  | _ + 1 => Nat.mod_lt _ (by omega)
theorem valN_lt {p : Nat} {c : Nat → Nat} {x : Nat} (hp : 0 < p) : ∀ k, valN p c x k < p
  | 0 => hp
  | _ + 1 => Nat.mod_lt _ hp
theorem mo_cast (p a : Nat) : Mo (p : Int) ((a % p : Nat) : Int) (a : Int) := by
  rw [Int.natCast_emod]; exact Mo.emod _ _
theorem pwN_mo (p x : Nat) : ∀ k, Mo (p : Int) (pwN p x k : Int) ((x : Int) ^ k)
  | 0 => Mo.of (by simp [pwN])
  | k + 1 => by
    have ih := (pwN_mo p x k).mul (Mo.refl (p : Int) (x : Int))
    refine (mo_cast p _).trans (Mo.trans (Mo.of (Int.natCast_mul _ _)) (ih.trans (Mo.of (by grind))))
theorem valN_mo (p : Nat) (c : Nat → Nat) (x : Nat) : ∀ k, Mo (p : Int) (valN p c x k : Int) (polZ c (x : Int) k)
  | 0 => Mo.of rfl
  | k + 1 => by
    have h1 := (valN_mo p c x k).add ((Mo.refl (p : Int) (c k : Int)).mul (pwN_mo p x k))
    exact (mo_cast p _).trans (Mo.trans (Mo.of (by rw [Int.natCast_add, Int.natCast_mul])) h1)
theorem folV_mo (p x n : Nat) (c : Nat → Nat) : ∀ j, Mo (p : Int) (folV p x n c (List.range j) : Int) (horC n c (x : Int) j)
  | 0 => Mo.of rfl
  | j + 1 => by
    rw [List.range_succ, folV_snoc]
    have h1 := ((folV_mo p x n c j).mul (Mo.refl (p : Int) (x : Int))).add (Mo.refl (p : Int) (c (n - 1 - j) : Int))
    exact (mo_cast p _).trans (Mo.trans (Mo.of (by rw [Int.natCast_add, Int.natCast_mul])) h1)
theorem folV_pol (p x n : Nat) (c : Nat → Nat) : Mo (p : Int) (folV p x n c (List.range n) : Int) (polZ c (x : Int) n) := by
  refine (folV_mo p x n c n).trans (Mo.of ?_)
  rw [horC_pol n c (x : Int) n (Nat.le_refl _)]
  simp [polZ]
/-- Both ways come to the same. -/
theorem fol_val {p x n : Nat} {c : Nat → Nat} (hp : 0 < p) : folV p x n c (List.range n) = valN p c x n := by
  have h := ((folV_pol p x n c).trans (valN_mo p c x n).symm).exact ⟨by omega, by have := folV_lt (x := x) (n := n) (c := c) hp (List.range n); omega⟩ ⟨by omega, by have := valN_lt (c := c) (x := x) hp n; omega⟩
  omega
theorem polZ_pol (p : Int) (c : Nat → Nat) : ∀ n, Pol p n (fun x => polZ c x n)
  | 0 => fun _ => Mo.refl _ _
  | n + 1 => ((polZ_pol p c n).more.add ((Pol.pow n).scale (c n : Int))).same fun _ => Mo.refl _ _
theorem polZ_zero (c : Nat → Nat) : ∀ n, 0 < n → polZ c 0 n = (c 0 : Int)
  | 0, h => by omega
  | 1, _ => by simp [polZ]
  | n + 2, _ => by
    have ih := polZ_zero c (n + 1) (by omega)
    have e : polZ c 0 (n + 2) = polZ c 0 (n + 1) + (c (n + 1) : Int) * 0 ^ (n + 1) := rfl
    rw [e, ih, Int.zero_pow (by omega)]
    omega
end Go.Proofs.YtdlbnolnkmhdcaaDoor

/- What shares join to: LAGRANGE's parts at 0 as the program reckons them, NEWTON's differences as the document does. Plain functions. -/
namespace Go.Proofs.YtdlbnolnkmhdcaaDoor

/-- The inverse. -/
def ivN (p a : Nat) : Nat := a ^ (p - 2) % p
def invK (p n : Nat) : Nat → Nat
  | 0 => 1
  | k + 1 => invK p n k * n % p
theorem invK_pow {p n : Nat} (hp : 2 ≤ p) : ∀ k, invK p n k = n ^ k % p
  | 0 => by simp [invK]; exact (Nat.mod_eq_of_lt (by omega)).symm
  | k + 1 => by rw [invK, invK_pow hp k, Nat.pow_succ]; simp
/-- A field of p. -/
structure FldN (p : Nat) : Prop where
  two : 2 ≤ p
  le : p ≤ 997
  pr : primB p = true
theorem FldN.fl {p : Nat} (h : FldN p) : Fl (p : Int) := fl_of h.le h.pr
theorem FldN.one {p : Nat} (h : FldN p) : ¬ Mo (p : Int) 1 0 := fun hm => by
  have := hm.exact ⟨by omega, by have := h.two; omega⟩ ⟨by omega, by have := h.two; omega⟩
  omega
theorem mo_zero_iff {p a : Nat} (ha : a < p) : Mo (p : Int) (a : Int) 0 ↔ a = 0 := by
  constructor
  · intro h
    have := h.exact ⟨by omega, by omega⟩ ⟨by omega, by omega⟩
    omega
  · rintro rfl; exact Mo.refl _ _
theorem ivN_lt {p : Nat} (h : FldN p) (a : Nat) : ivN p a < p := Nat.mod_lt _ (by have := h.two; omega)
theorem ivN_mul {p a : Nat} (h : FldN p) (h0 : 0 < a) (ha : a < p) : a * ivN p a % p = 1 := by
  have := fermat_at h.le h.pr h0 ha
  rw [Nat.mul_comm]; exact this
theorem ivN_pos {p a : Nat} (h : FldN p) (h0 : 0 < a) (ha : a < p) : 0 < ivN p a := by
  have h1 := ivN_mul h h0 ha
  rcases Nat.eq_zero_or_pos (ivN p a) with e | e
  · rw [e] at h1; simp at h1
  · exact e
theorem mo_mod_one {p a x : Nat} (h2 : 2 ≤ p) (h : a * x % p = 1) : Mo (p : Int) ((a : Int) * (x : Int)) 1 := by
  refine Mo.of_eq ?_
  rw [← Int.natCast_mul, ← Int.natCast_emod, h]
  exact (Int.emod_eq_of_lt (by omega) (by omega)).symm
/-- There is but one inverse. -/
theorem ivN_only {p a x : Nat} (h : FldN p) (h0 : 0 < a) (ha : a < p) (hx : x < p) (h1 : a * x % p = 1) : x = ivN p a := by
  have e1 := mo_mod_one h.two h1
  have e2 := mo_mod_one h.two (ivN_mul h h0 ha)
  have hm : Mo (p : Int) (x : Int) (ivN p a : Int) := by
    obtain ⟨k, hk⟩ := e1
    obtain ⟨l, hl⟩ := e2
    exact ⟨k * (ivN p a : Int) - l * (x : Int), by grind⟩
  have := hm.exact ⟨by omega, by omega⟩ ⟨by omega, by have := ivN_lt h a; omega⟩
  omega

/-- Right places: from 1 on, below p, unlike. -/
structure Places (p m : Nat) (A : Nat → Nat) : Prop where
  lt : ∀ i, A i < p
  pos : ∀ i, i < m → 0 < A i
  ne : ∀ i j, i < m → j < m → i ≠ j → A i ≠ A j
theorem Places.apart {p m : Nat} {A : Nat → Nat} (h : Places p m A) : Apart (p : Int) (fun i => (A i : Int)) m := fun i j hi hj hij hm => by
  have h1 : Mo (p : Int) (A i : Int) (A j : Int) := by
    obtain ⟨k, hk⟩ := hm
    exact ⟨k, by dsimp only at hk; omega⟩
  have := h1.exact ⟨by omega, by have := h.lt i; omega⟩ ⟨by omega, by have := h.lt j; omega⟩
  exact h.ne i j hi hj hij (by omega)

def upN (p : Nat) (A : Nat → Nat) (i : Nat) : Nat → Nat
  | 0 => 1
  | k + 1 => if k = i then upN p A i k else upN p A i k * A k % p
def dnN (p : Nat) (A : Nat → Nat) (i : Nat) : Nat → Nat
  | 0 => 1
  | k + 1 => if k = i then dnN p A i k else dnN p A i k * (A k + p - A i) % p
def partN (p m : Nat) (A : Nat → Nat) (i : Nat) : Nat := upN p A i m * ivN p (dnN p A i m) % p
def joS (p m : Nat) (A V : Nat → Nat) : Nat → Nat
  | 0 => 0
  | k + 1 => joS p m A V k + V k * partN p m A k
def joN (p m : Nat) (A V : Nat → Nat) : Nat := joS p m A V m % p
theorem upN_lt {p : Nat} {A : Nat → Nat} {i : Nat} (hp : 2 ≤ p) : ∀ k, upN p A i k < p
  | 0 => by simp only [upN]; omega
  | k + 1 => by
    simp only [upN]; split
    · exact upN_lt hp k
    · exact Nat.mod_lt _ (by omega)
theorem dnN_lt {p : Nat} {A : Nat → Nat} {i : Nat} (hp : 2 ≤ p) : ∀ k, dnN p A i k < p
  | 0 => by simp only [dnN]; omega
  | k + 1 => by
    simp only [dnN]; split
    · exact dnN_lt hp k
    · exact Nat.mod_lt _ (by omega)
theorem partN_lt {p m : Nat} {A : Nat → Nat} {i : Nat} (hp : 2 ≤ p) : partN p m A i < p := Nat.mod_lt _ (by omega)
theorem joS_le {p m : Nat} {A V : Nat → Nat} (hp : 2 ≤ p) (hV : ∀ i, V i < p) : ∀ k, joS p m A V k ≤ k * (p * p)
  | 0 => by simp [joS]
  | k + 1 => by
    have ih := joS_le (A := A) (m := m) hp hV k
    have h1 : V k * partN p m A k ≤ p * p := Nat.mul_le_mul (Nat.le_of_lt (hV k)) (Nat.le_of_lt (partN_lt hp))
    simp only [joS]
    rw [Nat.succ_mul]
    omega
theorem upN_mo (p : Nat) (A : Nat → Nat) (i : Nat) : ∀ k, Mo (p : Int) (upN p A i k : Int) (prodE (fun j => (A j : Int)) i 0 k)
  | 0 => Mo.of rfl
  | k + 1 => by
    simp only [upN, prodE]
    by_cases h : k = i
    · rw [if_pos h, if_pos h]; exact upN_mo p A i k
    · rw [if_neg h, if_neg h]
      have h1 := (upN_mo p A i k).mul (Mo.refl (p : Int) (A k : Int))
      exact (mo_cast p _).trans (Mo.trans (Mo.of (Int.natCast_mul _ _)) (h1.trans (Mo.of (by rw [Int.sub_zero]))))
theorem dnN_mo {p : Nat} {A : Nat → Nat} {i : Nat} (hA : ∀ i, A i < p) : ∀ k, Mo (p : Int) (dnN p A i k : Int) (prodE (fun j => (A j : Int)) i (A i : Int) k)
  | 0 => Mo.of rfl
  | k + 1 => by
    simp only [dnN, prodE]
    by_cases h : k = i
    · rw [if_pos h, if_pos h]; exact dnN_mo hA k
    · rw [if_neg h, if_neg h]
      have hi := hA i
      have e : ((A k + p - A i : Nat) : Int) = ((A k : Int) - (A i : Int)) + (p : Int) := by omega
      have h1 := (dnN_mo (i := i) hA k).mul (Mo.zero_add_p (p : Int) ((A k : Int) - (A i : Int)))
      exact (mo_cast p _).trans (Mo.trans (Mo.of (by rw [Int.natCast_mul, e])) h1)
theorem Places.down {p m : Nat} {A : Nat → Nat} (h : Places p m A) (hF : FldN p) {i : Nat} (hi : i < m) : 0 < dnN p A i m := by
  rcases Nat.eq_zero_or_pos (dnN p A i m) with e | e
  · exfalso
    refine prodE_unit hF.fl h.apart hi hF.one m (Nat.le_refl _) ?_
    exact (dnN_mo h.lt m).symm.trans (Mo.of (by rw [e]; rfl))
  · exact e
/-- The parts are LAGRANGE's. -/
theorem Places.unit {p m : Nat} {A : Nat → Nat} (h : Places p m A) (hF : FldN p) {i : Nat} (hi : i < m) : Mo (p : Int) ((ivN p (dnN p A i m) : Int) * prodE (fun j => (A j : Int)) i (A i : Int) m) 1 := by
  have h1 := mo_mod_one hF.two (ivN_mul hF (h.down hF hi) (dnN_lt hF.two m))
  have h2 := (Mo.refl (p : Int) (ivN p (dnN p A i m) : Int)).mul (dnN_mo (i := i) h.lt m)
  exact h2.symm.trans ((Mo.of (Int.mul_comm _ _)).trans h1)
theorem joS_mo (p m : Nat) (A V : Nat → Nat) : ∀ k, Mo (p : Int) (joS p m A V k : Int) (lag (fun j => (A j : Int)) (fun j => (V j : Int)) (fun j => (ivN p (dnN p A j m) : Int)) m 0 k)
  | 0 => Mo.of rfl
  | k + 1 => by
    simp only [joS, lag]
    have hu := upN_mo p A k m
    have h1 : Mo (p : Int) (partN p m A k : Int) ((ivN p (dnN p A k m) : Int) * prodE (fun j => (A j : Int)) k 0 m) := by
      refine (mo_cast p _).trans (Mo.trans (Mo.of (Int.natCast_mul _ _)) ?_)
      exact (hu.mul (Mo.refl (p : Int) _)).trans (Mo.of (Int.mul_comm _ _))
    have h2 := (joS_mo p m A V k).add ((Mo.refl (p : Int) (V k : Int)).mul h1)
    exact (Mo.of (by rw [Int.natCast_add, Int.natCast_mul])).trans h2
/-- What has these values is what they join to. -/
theorem joN_tells {p m : Nat} {A V : Nat → Nat} (h : Places p m A) (hF : FldN p) {f : Int → Int} (hf : Pol (p : Int) m f) (hv : ∀ i, i < m → Mo (p : Int) (f (A i : Int)) (V i : Int)) : Mo (p : Int) (joN p m A V : Int) (f 0) := by
  refine (mo_cast p _).trans ((joS_mo p m A V m).trans ?_)
  exact lag_tells (a := fun j => (A j : Int)) (v := fun j => (V j : Int)) (r := fun j => (ivN p (dnN p A j m) : Int)) hF.fl h.apart (fun i hi => h.unit hF hi) hf hv 0
theorem joN_lt {p m : Nat} {A V : Nat → Nat} (hp : 2 ≤ p) : joN p m A V < p := Nat.mod_lt _ (by omega)

/-- NEWTON's differences. -/
def dfN (p : Nat) (A V : Nat → Nat) : Nat → Nat → Nat
  | 0, i => V i
  | k + 1, i => (dfN p A V k i + p - dfN p A V k (i - 1)) % p * ivN p ((A i + p - A (i - (k + 1))) % p) % p
theorem dfN_lt {p : Nat} {A V : Nat → Nat} (hp : 2 ≤ p) (hV : ∀ i, V i < p) : ∀ k i, dfN p A V k i < p
  | 0, i => hV i
  | _ + 1, _ => Nat.mod_lt _ (by omega)
theorem gap_pos {p m : Nat} {A : Nat → Nat} (h : Places p m A) {i j : Nat} (hi : i < m) (hj : j < m) (hij : i ≠ j) : 0 < (A i + p - A j) % p ∧ (A i + p - A j) % p < p := by
  have h1 := h.lt i
  have h2 := h.lt j
  have h3 := h.ne i j hi hj hij
  refine ⟨?_, Nat.mod_lt _ (by omega)⟩
  rcases Nat.lt_or_ge (A i) (A j) with h4 | h4
  · rw [Nat.mod_eq_of_lt (by omega)]; omega
  · rw [show A i + p - A j = (A i - A j) + p by omega, Nat.add_mod_right, Nat.mod_eq_of_lt (by omega)]; omega
theorem gap_mo {p : Nat} {a b : Nat} (hb : b < p) : Mo (p : Int) (((a + p - b) % p : Nat) : Int) ((a : Int) - (b : Int)) := by
  refine (mo_cast p _).trans (Mo.trans (Mo.of ?_) (Mo.zero_add_p (p : Int) ((a : Int) - (b : Int))))
  omega
theorem dfN_diffs {p m : Nat} {A V : Nat → Nat} (h : Places p m A) (hF : FldN p) (hV : ∀ i, V i < p) : Diffs (p : Int) (fun j => (A j : Int)) (fun j => (V j : Int)) m (fun k i => (dfN p A V k i : Int)) := by
  refine ⟨fun i _ => Mo.refl _ _, fun k i hk hi => ?_⟩
  have hg := gap_pos h (i := i) (j := i - (k + 1)) hi (by omega) (by omega)
  have h1 := mo_mod_one hF.two (ivN_mul hF hg.1 hg.2)
  have h2 := gap_mo (a := A i) (h.lt (i - (k + 1)))
  have h3 := gap_mo (a := dfN p A V k i) (dfN_lt (A := A) hF.two hV k (i - 1))
  have h4 : Mo (p : Int) (dfN p A V (k + 1) i : Int) ((((dfN p A V k i + p - dfN p A V k (i - 1)) % p : Nat) : Int) * (ivN p ((A i + p - A (i - (k + 1))) % p) : Int)) := (mo_cast p _).trans (Mo.of (Int.natCast_mul _ _))
  have h5 := h4.mul h2.symm
  refine h5.trans (Mo.trans (Mo.of ?_) ((h3.mul h1).trans (Mo.of (Int.mul_one _))))
  rw [Int.mul_assoc, Int.mul_comm (ivN p ((A i + p - A (i - (k + 1))) % p) : Int)]
/-- The value at 0, as the document reckons it. -/
def hoN (p m : Nat) (A V : Nat → Nat) : Nat → Nat
  | 0 => 0
  | t + 1 => (hoN p m A V t * (p - A (m - 1 - t)) + dfN p A V (m - 1 - t) (m - 1 - t)) % p
theorem hoN_lt {p m : Nat} {A V : Nat → Nat} (hp : 2 ≤ p) : ∀ t, hoN p m A V t < p
  | 0 => by simp only [hoN]; omega
  | _ + 1 => Nat.mod_lt _ (by omega)
theorem hoN_mo {p m : Nat} {A V : Nat → Nat} (hA : ∀ i, A i < p) : ∀ t, Mo (p : Int) (hoN p m A V t : Int) (horn (fun j => (A j : Int)) (fun k i => (dfN p A V k i : Int)) m 0 t)
  | 0 => Mo.of rfl
  | t + 1 => by
    have hi := hA (m - 1 - t)
    simp only [hoN, horn]
    have e : ((p - A (m - 1 - t) : Nat) : Int) = (0 - (A (m - 1 - t) : Int)) + (p : Int) := by omega
    have h1 := ((hoN_mo (m := m) (V := V) hA t).mul (Mo.zero_add_p (p : Int) (0 - (A (m - 1 - t) : Int)))).add (Mo.refl (p : Int) (dfN p A V (m - 1 - t) (m - 1 - t) : Int))
    exact (mo_cast p _).trans (Mo.trans (Mo.of (by rw [Int.natCast_add, Int.natCast_mul, e])) h1)
/-- LAGRANGE and NEWTON say the same. -/
theorem join_same {p m : Nat} {A V : Nat → Nat} (h : Places p m A) (hF : FldN p) (hV : ∀ i, V i < p) : joN p m A V = hoN p m A V m := by
  have hD := dfN_diffs h hF hV
  have h1 := joN_tells (V := V) h hF (newt_pol (fun j => (A j : Int)) (fun k i => (dfN p A V k i : Int)) m) (fun i hi => newt_at hF.fl hD h.apart m (Nat.le_refl _) i hi)
  have h2 := hoN_mo (m := m) (V := V) h.lt m
  rw [horn_all] at h2
  have := (h1.trans h2.symm).exact ⟨by omega, by have := joN_lt (m := m) (A := A) (V := V) hF.two; omega⟩ ⟨by omega, by have := hoN_lt (m := m) (A := A) (V := V) hF.two m; omega⟩
  omega
end Go.Proofs.YtdlbnolnkmhdcaaDoor

/- Shares: secret.Share; the document's ShareError, ValueAt. -/
namespace Go.Proofs.YtdlbnolnkmhdcaaDoor
open Go.RowKit

/-- What is wrong with shares asked for: p, n coefficients z, x shares. -/
def shE (p : Int) (n : Nat) (z : Nat → Int) (x : Int) : Nat := if fldB p = false then 8 else if x < 1 ∨ p - 1 < x ∨ 24 < x ∨ n = 0 ∨ 12 < n then 2 else if inFB z 0 p n = false then 3 else 0
theorem shE_le (p : Int) (n : Nat) (z : Nat → Int) (x : Int) : shE p n z x ≤ 8 := by
  unfold shE; repeat (split; omega)
  omega
/-- What right ones are, in numbers from 0 on. -/
theorem shE_ok {p : Int} {n : Nat} {z : Nat → Int} {x : Int} (h : shE p n z x = 0) : ∃ (P X : Nat) (c : Nat → Nat), p = (P : Int) ∧ x = (X : Int) ∧ 2 ≤ P ∧ P ≤ 997 ∧ primB P = true ∧ 1 ≤ X ∧ X + 1 ≤ P ∧ X ≤ 24 ∧ 0 < n ∧ n ≤ 12 ∧ (∀ i, c i < P) ∧ ∀ i, i < n → z i = (c i : Int) := by
  unfold shE at h
  cases h1 : fldB p with
  | false => rw [h1, if_pos rfl] at h; cases h
  | true =>
    rw [h1, if_neg (by simp)] at h
    by_cases h2 : x < 1 ∨ p - 1 < x ∨ 24 < x ∨ n = 0 ∨ 12 < n
    · rw [if_pos h2] at h; cases h
    · rw [if_neg h2] at h
      cases h3 : inFB z 0 p n with
      | false => rw [h3, if_pos rfl] at h; cases h
      | true =>
        obtain ⟨a, b, c⟩ := fldB_ok h1
        have hall := fun i (hi : i < n) => inFB_all h3 hi
        refine ⟨p.toNat, x.toNat, fun i => if i < n then (z i).toNat else 0, by omega, by omega, by omega, by omega, c, by omega, by omega, by omega, by omega, by omega, fun i => ?_, fun i hi => ?_⟩
        · show (if i < n then (z i).toNat else 0) < p.toNat
          split
          · rename_i hi; have := hall i hi; omega
          · omega
        · show z i = ((if i < n then (z i).toNat else 0 : Nat) : Int)
          rw [if_pos hi]; have := hall i hi; omega

/-- The share at i + 1. -/
def shaN (p n : Nat) (c : Nat → Nat) (i : Nat) : Int := (valN p c (i + 1) n : Int)
end Go.Proofs.YtdlbnolnkmhdcaaDoor

/- Joining: secret.Join, hasTwice, partAtZero, inverse; slices.Contains. -/
namespace Go.Proofs.YtdlbnolnkmhdcaaDoor
open Go.RowKit

/-- Is one of the first n there twice? -/
def twiB (z : Nat → Int) : Nat → Bool
  | 0 => false
  | k + 1 => twiB z k || inB z k (z k)
theorem twiB_yes {z : Nat → Int} {k n : Nat} (h : inB z k (z k) = true) (hk : k < n) : twiB z n = true := by
  induction n with
  | zero => omega
  | succ n ih =>
    rcases Nat.lt_or_ge k n with h1 | h1
    · simp [twiB, ih h1]
    · obtain rfl : k = n := by omega
      simp [twiB, h]
theorem twiB_no {z : Nat → Int} {n : Nat} (h : twiB z n = false) {i j : Nat} (hij : i < j) (hj : j < n) : z i ≠ z j := fun e => by
  rw [twiB_yes ((inB_iff z (z j) j).2 ⟨i, hij, e⟩) hj] at h; cases h
end Go.Proofs.YtdlbnolnkmhdcaaDoor

/- secret.Join. -/
namespace Go.Proofs.YtdlbnolnkmhdcaaDoor
open Go.RowKit

/-- What is wrong with shares to be joined: p, m places z, n values y. -/
def joE (p : Int) (m : Nat) (z : Nat → Int) (n : Nat) (y : Nat → Int) : Nat := if fldB p = false then 8 else if m = 0 ∨ 12 < m then 2 else if n ≠ m ∨ inFB z 1 p m = false ∨ inFB y 0 p n = false ∨ twiB z m = true then 3 else 0
theorem joE_le (p : Int) (m : Nat) (z : Nat → Int) (n : Nat) (y : Nat → Int) : joE p m z n y ≤ 8 := by
  unfold joE; repeat (split; omega)
  omega
/-- What right ones are, in numbers from 0 on. -/
theorem joE_ok {p : Int} {m : Nat} {z : Nat → Int} {n : Nat} {y : Nat → Int} (h : joE p m z n y = 0) : ∃ (P : Nat) (A V : Nat → Nat), p = (P : Int) ∧ FldN P ∧ 0 < m ∧ m ≤ 12 ∧ n = m ∧ Places P m A ∧ (∀ i, V i < P) ∧ (∀ i, i < m → z i = (A i : Int)) ∧ ∀ i, i < m → y i = (V i : Int) := by
  unfold joE at h
  cases h1 : fldB p with
  | false => rw [h1, if_pos rfl] at h; cases h
  | true =>
    rw [h1, if_neg (by simp)] at h
    by_cases h2 : m = 0 ∨ 12 < m
    · rw [if_pos h2] at h; cases h
    · rw [if_neg h2] at h
      by_cases h3 : n ≠ m ∨ inFB z 1 p m = false ∨ inFB y 0 p n = false ∨ twiB z m = true
      · rw [if_pos h3] at h; cases h
      · have hnm : n = m := by
          by_cases e : n = m
          · exact e
          · exact absurd (Or.inl e) h3
        have hz : inFB z 1 p m = true := by
          cases e : inFB z 1 p m with
          | true => rfl
          | false => exact absurd (Or.inr (Or.inl e)) h3
        have hy : inFB y 0 p n = true := by
          cases e : inFB y 0 p n with
          | true => rfl
          | false => exact absurd (Or.inr (Or.inr (Or.inl e))) h3
        have ht : twiB z m = false := by
          cases e : twiB z m with
          | false => rfl
          | true => exact absurd (Or.inr (Or.inr (Or.inr e))) h3
        subst hnm
        obtain ⟨a, b, c⟩ := fldB_ok h1
        have hz' := fun i (hi : i < n) => inFB_all hz hi
        have hy' := fun i (hi : i < n) => inFB_all hy hi
        refine ⟨p.toNat, fun i => if i < n then (z i).toNat else 0, fun i => if i < n then (y i).toNat else 0, by omega, ⟨by omega, by omega, c⟩, by omega, by omega, rfl, ⟨fun i => ?_, fun i hi => ?_, fun i j hi hj hij => ?_⟩, fun i => ?_, fun i hi => ?_, fun i hi => ?_⟩
        · show (if i < n then (z i).toNat else 0) < p.toNat
          split
          · rename_i hi; have := hz' i hi; omega
          · omega
        · show 0 < (if i < n then (z i).toNat else 0)
          rw [if_pos hi]; have := hz' i hi; omega
        · show (if i < n then (z i).toNat else 0) ≠ (if j < n then (z j).toNat else 0)
          rw [if_pos hi, if_pos hj]
          have e1 := hz' i hi
          have e2 := hz' j hj
          have hne : z i ≠ z j := by
            rcases Nat.lt_or_ge i j with h4 | h4
            · exact twiB_no ht h4 hj
            · exact fun e => twiB_no ht (show j < i by omega) hi e.symm
          omega
        · show (if i < n then (y i).toNat else 0) < p.toNat
          split
          · rename_i hi; have := hy' i hi; omega
          · omega
        · show z i = ((if i < n then (z i).toNat else 0 : Nat) : Int)
          rw [if_pos hi]; have := hz' i hi; omega
        · show y i = ((if i < n then (y i).toNat else 0 : Nat) : Int)
          rw [if_pos hi]; have := hy' i hi; omega
theorem inFB_true {z : Nat → Int} {lo p : Int} : ∀ {n : Nat}, (∀ i, i < n → lo ≤ z i ∧ z i < p) → inFB z lo p n = true
  | 0, _ => rfl
  | n + 1, h => inFB_next (inFB_true fun i hi => h i (by omega)) (h n (by omega))
theorem twiB_false {z : Nat → Int} : ∀ {n : Nat}, (∀ i j, i < j → j < n → z i ≠ z j) → twiB z n = false
  | 0, _ => rfl
  | n + 1, h => by
    have ih := twiB_false (z := z) (n := n) fun i j hij hj => h i j hij (by omega)
    have h1 : inB z n (z n) = false := by
      cases e : inB z n (z n) with
      | false => rfl
      | true =>
        obtain ⟨i, hi, e1⟩ := (inB_iff z (z n) n).1 e
        exact absurd e1 (h i n hi (by omega))
    simp [twiB, ih, h1]
end Go.Proofs.YtdlbnolnkmhdcaaDoor

/- The document's Contains, JoinError, inverse. -/
namespace Go.Proofs.YtdlbnolnkmhdcaaDoor
open Go.RowKit

set_option maxRecDepth 100000 in
set_option maxHeartbeats 1000000 in
theorem DContains_row (b o cap n : Nat) (z : Nat → Int) (v : Int) (w : World) (h : RowAt w b o n z) (hn : n ≤ 1000000) :
    Calls Tryd.prog 19 #[.slice (some ⟨b, o, none⟩) n cap, .int .i64 v] w fun e w' => e = .returned (.bool (inB z n v)) ∧ w' = w := by
  have HR := Hid.mk' h
  clear h
  go_enter Tryd.func19, Tryd.ntmps19
  go_wp2_with fail
  go_loop [5] (fun t => ∃ k : Nat, k ≤ n ∧ t = .int .i64 k ∧ Hid (inB z k v = false)) (fun t => n - (intOf t).toNat)
  case atStart => exact ⟨0, Nat.zero_le _, rfl, rfl⟩
  case round =>
    obtain ⟨k, hk, rfl, HS⟩ := hrel
    rcases Nat.lt_or_ge k n with h1 | h1
    · have hc := HR.out k h1
      have hkI : (k : Int) < (n : Int) := by omega
      by_cases e : z k = v
      · have HX : Hid (inB z n v = true) := (inB_iff z v n).2 ⟨k, h1, e⟩
        have hb : (z k == v) = true := by rw [beq_iff_eq]; exact e
        generalize z k = y at *
        clear e
        go_wp2_with fail
        go_ret
        exact ⟨by rw [HX.out]; rfl, rfl⟩
      · have HN : Hid (inB z (k + 1) v = false) := by show (inB z k v || decide (z k = v)) = false; rw [HS.out, decide_eq_false e]; rfl
        have hb : (z k == v) = false := by rw [beq_eq_false_iff_ne]; exact e
        generalize z k = y at *
        clear e
        go_wp2_with fail
        exact ⟨⟨k + 1, h1, by go_num, HN⟩, by simp [intOf]; omega⟩
    · obtain rfl : n = k := by omega
      go_wp2_with fail
      go_ret
      exact ⟨by rw [HS.out]; rfl, rfl⟩
end Go.Proofs.YtdlbnolnkmhdcaaDoor

/- The document's CipherError, and what the law asks of a cipher first. -/
namespace Go.Proofs.YtdlbnolnkmhdcaaDoor
open Go.RowKit

theorem below_drewN {w W : World} {n : Nat} (h : Below n w W) : ∀ k, Below n w (W.drewN k)
  | 0 => h
  | k + 1 => (below_drewN h k).drew
/-- A table's rows have room for their numbers. -/
def Roomy (R : Nat) (vs : Nat → Value) (ns : Nat → Nat) : Prop := ∀ i, i < R → ∃ ad cap, vs i = .slice ad (ns i) cap ∧ ns i ≤ cap
theorem rowB_mono {z : Nat → Int} {k n : Nat} (h : rowB z n = true) (hk : k ≤ n) : rowB z k = true := (rowB_iff z k).2 fun i hi => (rowB_iff z n).1 h i (by omega)
theorem row_of {w : World} {b o R cap : Nat} {vs : Nat → Value} {ns : Nat → Nat} {zs : Nat → Nat → Int} (hl : TabAt w (.slice (some ⟨b, o, none⟩) R cap) R vs ns zs) (hroom : Roomy R vs ns) {i : Nat} (hi : i < R) (h0 : ns i ≠ 0) :
    ∃ rb ro rc, ns i ≤ rc ∧ vs i = .slice (some ⟨rb, ro, none⟩) (ns i) rc := by
  rcases hl with ⟨_, _, _, h1⟩ | ⟨b', o', c, h1, _, h2⟩
  · omega
  · obtain ⟨ad, rc, e, hle⟩ := hroom i hi
    rcases (h2 i hi).2 with ⟨_, _, _, h5⟩ | ⟨rb, ro, rc', h5, _, _⟩
    · omega
    · rw [e] at h5
      obtain ⟨rfl, rfl⟩ : ad = _ ∧ rc = rc' := by simpa using h5
      exact ⟨rb, ro, rc, hle, e⟩

set_option maxRecDepth 100000 in
set_option maxHeartbeats 8000000 in
theorem CipherError_any (kv lv : Value) (n : Nat) (z : Nat → Int) (R : Nat) (vs : Nat → Value) (ns : Nat → Nat) (zs : Nat → Nat → Int) (w : World) (hk : NumsAt w kv n z) (hl : TabAt w lv R vs ns zs) (hroom : Roomy R vs ns) (hn : n ≤ 1000000) (hR : R ≤ 1000000) (hns : ∀ i, i < R → ns i ≤ 1000000) :
    Calls Tryd.prog 7 #[.agg #[kv, lv]] w fun e w' => e = .returned (.int .i64 (ciErr n z R ns zs : Nat)) ∧ Below w.heap.size w w' := by
  obtain ⟨ka, kc, rfl⟩ := hk.form
  obtain ⟨la, lc, rfl⟩ := hl.form
  obtain ⟨w1, hw1⟩ : ∃ w1, w1 = w.alloc (.cells #[.slice ka n kc, .slice la R lc] 25) := ⟨_, rfl⟩
  have hb1 : Below w.heap.size w w1 := by rw [hw1]; exact (Below.refl _ _).alloc (Nat.le_refl _) _
  have hc0 : w1.cell? ⟨w.heap.size, 0, none⟩ = some (.slice ka n kc) := by rw [hw1]; go_simp
  have hc1 : w1.cell? ⟨w.heap.size, 1, none⟩ = some (.slice la R lc) := by rw [hw1]; go_simp
  have HB1 := Hid.mk' hb1
  have HW1 := Hid.mk' hw1
  have HC : Hid (∀ W, Below w1.heap.size w1 W → W.cell? ⟨w.heap.size, 0, none⟩ = some (.slice ka n kc) ∧ W.cell? ⟨w.heap.size, 1, none⟩ = some (.slice la R lc)) := fun W hb => ⟨by rw [hb.cell (cell_lt hc0)]; exact hc0, by rw [hb.cell (cell_lt hc1)]; exact hc1⟩
  have hV := WeightsError_any _ n z w1 (hk.later hb1) hn
  have HT := Hid.mk' (fun (W : World) (hb : Below w1.heap.size w1 W) => (hl.later hb1).later hb)
  have HNS := Hid.mk' hns
  have HRM := Hid.mk' hroom
  have hwle := weightsErr_le z n
  clear hk hl hb1 hw1 hns hroom
  by_cases he : weightsErr z n ≠ 0
  · have HR : Hid (ciErr n z R ns zs = weightsErr z n) := by show _ = _; unfold ciErr; rw [if_pos he]
    generalize weightsErr z n = q at *
    have hq : (0 : Int) < (q : Int) := by omega
    clear he
    go_enter Tryd.func7, Tryd.ntmps7
    go_wp2_with fail
    rw [← HW1.out]
    refine hV.mono ?_
    rintro e w2 ⟨rfl, hw2⟩
    rw [hw2]
    clear hw2 hV
    go_wp2_with fail
    go_ret
    exact ⟨by rw [HR.out]; rfl, HB1.out⟩
  · have he0 : weightsErr z n = 0 := by omega
    rw [he0] at hV
    by_cases hRn : R ≠ n
    · have HR : Hid (ciErr n z R ns zs = 3) := by show _ = _; unfold ciErr; rw [if_neg he, if_pos hRn]
      have hne : ((R : Int) != (n : Int)) = true := by rw [bne_iff_ne]; omega
      clear he he0 hRn hwle
      go_enter Tryd.func7, Tryd.ntmps7
      go_wp2_with fail
      rw [← HW1.out]
      refine hV.mono ?_
      rintro e w2 ⟨rfl, hw2⟩
      rw [hw2]
      clear hw2 hV
      go_wp2_with fail
      go_ret
      exact ⟨by rw [HR.out]; rfl, HB1.out⟩
    · have hRn' : R = n := by omega
      subst hRn'
      obtain ⟨h16, hok⟩ := weightsErr_ok he0
      have h0 := hok.posN
      have HR : Hid (ciErr R z R ns zs = if badC ns zs R = true then 3 else 0) := by show _ = _; unfold ciErr; rw [if_neg he, if_neg hRn]
      obtain ⟨b, o, rfl⟩ : ∃ b o, la = some ⟨b, o, none⟩ := by
        rcases HT.out w1 (Below.refl _ _) with ⟨_, _, _, h1⟩ | ⟨b, o, c, h1, _, h2⟩
        · omega
        · simp only [Value.slice.injEq, true_and] at h1
          exact ⟨b, o, h1.1⟩
      have HRW : Hid (∀ W, Below w1.heap.size w1 W → ∀ i, i < R → W.cell? ⟨b, o + i, none⟩ = some (vs i) ∧ NumsAt W (vs i) (ns i) (zs i)) := fun W hb => by
        rcases HT.out W hb with ⟨_, _, _, h1⟩ | ⟨b', o', c, h1, _, h2⟩
        · omega
        · simp only [Value.slice.injEq, true_and, Option.some.injEq, Addr.mk.injEq] at h1
          obtain ⟨⟨rfl, rfl, -⟩, rfl⟩ := h1
          exact h2
      have HRO : Hid (∀ i, i < R → ns i ≠ 0 → ∃ rb ro rc, ns i ≤ rc ∧ vs i = .slice (some ⟨rb, ro, none⟩) (ns i) rc) := fun i hi h => row_of (HT.out w1 (Below.refl _ _)) HRM.out hi h
      have hne : ((R : Int) != (R : Int)) = false := by simp
      obtain ⟨a0, c0, he0'⟩ := (HRW.out w1 (Below.refl _ _) 0 h0).2.form
      have HC0 : Hid (∀ W, Below w1.heap.size w1 W → W.cell? ⟨b, o, none⟩ = some (.slice a0 (ns 0) c0)) := fun W hb => by
        have := (HRW.out W hb 0 h0).1
        rwa [he0', Nat.add_zero] at this
      have h0I : (0 : Int) < (R : Int) := by omega
      clear he he0 hRn hok he0' HT hwle hc0
      go_enter Tryd.func7, Tryd.ntmps7
      go_wp2_with fail
      rw [← HW1.out]
      have hc0 := (HC.out w1 (Below.refl _ _)).1
      refine hV.mono ?_
      rintro e w2 ⟨rfl, hw2⟩
      rw [hw2]
      clear hw2 hV
      go_wp2_with fail
      clear hc0 hc1
      go_loopw [4] (fun t wr => ∃ k : Nat, k ≤ R ∧ t = .int .i64 k ∧ Hid (Below w1.heap.size w1 wr) ∧ Hid (badC ns zs k = false)) (fun t _ => R - (intOf t).toNat)
      case atStart => exact ⟨0, Nat.zero_le _, rfl, Below.refl _ _, rfl⟩
      case round =>
        obtain ⟨k, hk, rfl, HB, HS⟩ := hrel
        have hc1 := (HC.out wr HB.out).2
        rcases Nat.lt_or_ge k R with h1 | h1
        · have hkI : (k : Int) < (R : Int) := by omega
          have hk0 : (0 : Int) ≤ (k : Int) := by omega
          obtain ⟨hck, hnum⟩ := HRW.out wr HB.out k h1
          obtain ⟨rad, rcap, hre⟩ := hnum.form
          have hcz := HC0.out wr HB.out
          have hnk := HNS.out k h1
          have HBAD : Hid (ns k = 0 ∨ ns k ≠ ns 0 ∨ rowB (zs k) (ns k) = false → ciErr R z R ns zs = 3) := fun h => by rw [HR.out, if_pos (badC_at h1 h)]
          by_cases hs0 : ns k = 0
          · have HV := Hid.mk' (HBAD.out (Or.inl hs0))
            have hz : ((ns k : Int) == 0) = true := by rw [beq_iff_eq]; omega
            rw [hre] at hck
            generalize ns k = nk at *
            clear HBAD hs0 hnum hre
            go_wp2_with fail
            go_quiet (fail)
            go_wp2_with fail
            go_ret
            exact ⟨by rw [HV.out]; rfl, below_drewN (below_chS HB1.out HB.out) _⟩
          · have hz : ((ns k : Int) == 0) = false := by rw [beq_eq_false_iff_ne]; omega
            by_cases hs6 : 16 < ns k
            · have HV := Hid.mk' (HBAD.out (Or.inr (Or.inr (by
                cases e : rowB (zs k) (ns k) with
                | false => rfl
                | true => exact absurd (rowB_short e) (by omega)))))
              have h16I : (16 : Int) < (ns k : Int) := by omega
              rw [hre] at hck
              generalize ns k = nk at *
              clear HBAD hs0 hs6 hnum hre
              go_wp2_with fail
              go_quiet (fail)
              go_wp2_with fail
              go_ret
              exact ⟨by rw [HV.out]; rfl, below_drewN (below_chS HB1.out HB.out) _⟩
            · have h16I : decide ((16 : Int) < (ns k : Int)) = false := decide_eq_false (by omega)
              by_cases hsh : ns k = ns 0
              · have hq : ((ns k : Int) != (ns 0 : Int)) = false := by rw [hsh]; simp
                obtain ⟨rb, ro, rc, hrc, hvk⟩ := HRO.out k h1 hs0
                have HROW : Hid (∀ W, Below w1.heap.size w1 W → W.cell? ⟨b, o + k, none⟩ = some (.slice (some ⟨rb, ro, none⟩) (ns k) rc) ∧ RowAt W rb ro (ns k) (zs k)) := fun W hb => by
                  obtain ⟨e1, e2⟩ := HRW.out W hb k h1
                  rw [hvk] at e1 e2
                  refine ⟨e1, ?_⟩
                  rcases e2 with ⟨_, _, _, h5⟩ | ⟨rb', ro', rc', h5, _, h6⟩
                  · omega
                  · obtain ⟨⟨rfl, rfl⟩, rfl⟩ : (rb = rb' ∧ ro = ro') ∧ rc = rc' := by simpa using h5
                    exact h6
                have HST : Hid (rowB (zs k) (ns k) = true → badC ns zs (k + 1) = false) := fun h => badC_step HS.out hs0 hsh h
                clear hck
                have hck := (HROW.out wr HB.out).1
                have HBD : Hid (rowB (zs k) (ns k) = false → ciErr R z R ns zs = 3) := fun h => HBAD.out (Or.inr (Or.inr h))
                obtain ⟨nk, hnke⟩ : ∃ nk, nk = ns k := ⟨_, rfl⟩
                rw [← hnke] at hck hz h16I hq HROW HST HBD hnk hrc hs6
                have HRC : Hid ((nk : Int) ≤ (rc : Int)) := by show _ ≤ _; omega
                have HNK : Hid ((nk : Int) ≤ 16) := by show _ ≤ _; omega
                have HBO := HB
                clear HBAD hs0 hnum hre hvk hsh hnke HS
                go_wp2_with fail
                go_quiet (fail)
                have HBQ := Hid.mk' (below_drewN HB.out nq)
                obtain ⟨wo, hwo⟩ : ∃ wo, wo = wr.drewN nq := ⟨_, rfl⟩
                rw [← hwo] at HBQ ⊢
                clear hwo hck hc1 hcz HBO HB
                have hc1 := (HC.out wo HBQ.out).2
                have hck := (HROW.out wo HBQ.out).1
                go_wp2_with fail
                clear hc1 hck
                go_loopw [5] (fun t wx => ∃ j : Nat, j ≤ nk ∧ t = .int .i64 j ∧ Hid (Below w1.heap.size w1 wx) ∧ Hid (rowB (zs k) j = true)) (fun t _ => nk - (intOf t).toNat)
                case atStart => exact ⟨0, Nat.zero_le _, rfl, HBQ, rfl⟩
                case round =>
                  clear HBQ
                  obtain ⟨j, hj, rfl, HX, HT⟩ := hrel
                  have hc1 := (HC.out wr HX.out).2
                  have hck := (HROW.out wr HX.out).1
                  rcases Nat.lt_or_ge j nk with h5 | h5
                  · have hjI : (j : Int) < (nk : Int) := by omega
                    have hj0 : (0 : Int) ≤ (j : Int) := by omega
                    have hjc : (j : Int) ≤ (rc : Int) := by have := HRC.out; omega
                    have HCC : Hid (∀ W, Below w1.heap.size w1 W → W.cell? ⟨w.heap.size, 1, none⟩ = some (.slice (some ⟨b, o, none⟩) R lc) ∧ W.cell? ⟨b, o + k, none⟩ = some (.slice (some ⟨rb, ro, none⟩) nk rc) ∧ W.cell? ⟨rb, ro + j, none⟩ = some (.int .i64 (zs k j))) := fun W hb => ⟨(HC.out W hb).2, (HROW.out W hb).1, (HROW.out W hb).2 j h5⟩
                    have HCT : Hid (∀ W, Below w1.heap.size w1 W → Calls Tryd.prog 19 #[.slice (some ⟨rb, ro, none⟩) j rc, .int .i64 (zs k j)] W fun e w' => e = .returned (.bool (inB (zs k) j (zs k j))) ∧ w' = W) := fun W hb => DContains_row rb ro rc j (zs k) (zs k j) W (fun i hi => (HROW.out W hb).2 i (by omega)) (by omega)
                    have HT1 : Hid (inB (zs k) j (zs k j) = true → ciErr R z R ns zs = 3) := fun h => HBD.out (rowB_twice h h5)
                    have HT2 : Hid (¬ (0 ≤ zs k j ∧ zs k j < 16) → ciErr R z R ns zs = 3) := fun h => HBD.out (rowB_out h h5)
                    have HT3 : Hid (0 ≤ zs k j ∧ zs k j < 16 → inB (zs k) j (zs k j) = false → rowB (zs k) (j + 1) = true) := fun h h' => rowB_next HT.out h h'
                    have hcur0 : Below w1.heap.size w1 wr := HX.out
                    have hcur : Below w1.heap.size w1 wr.drew := HX.out.drew
                    generalize inB (zs k) j (zs k j) = q at *
                    generalize zs k j = x at *
                    go_wp2_with fail
                    go_region_held3 (fun W => W.cell? ⟨w.heap.size, 1, none⟩ = some (.slice (some ⟨b, o, none⟩) R lc) ∧ W.cell? ⟨b, o + k, none⟩ = some (.slice (some ⟨rb, ro, none⟩) nk rc) ∧ W.cell? ⟨rb, ro + j, none⟩ = some (.int .i64 x)) (first | exact HCC.out _ hcur0 | exact HCC.out _ hcur) (first
                      | (go_at_call 19; refine (HCT.out _ hcur).mono ?_; rintro e w5 ⟨rfl, hw5⟩; rw [hw5]; clear hw5 w5))
                    have hd1 := (HCC.out _ hcur).1
                    have hd2 := (HCC.out _ hcur).2.1
                    have hd3 := (HCC.out _ hcur).2.2
                    clear hc1 hck
                    cases q with
                    | true =>
                      have HT1' := Hid.mk' (HT1.out rfl)
                      go_wp2_with fail
                      go_ret
                      exact ⟨by rw [HT1'.out]; rfl, below_chS HB1.out hcur⟩
                    | false =>
                      by_cases hx0 : x < 0
                      · have HT2' := Hid.mk' (HT2.out (by omega))
                        go_wp2_with fail
                        go_ret
                        exact ⟨by rw [HT2'.out]; rfl, below_chS HB1.out hcur⟩
                      · have hx0' : decide (x < 0) = false := decide_eq_false hx0
                        by_cases hx1 : 15 < x
                        · have HT2' := Hid.mk' (HT2.out (by omega))
                          clear hx0
                          go_wp2_with fail
                          go_ret
                          exact ⟨by rw [HT2'.out]; rfl, below_chS HB1.out hcur⟩
                        · have hx1' : decide (15 < x) = false := decide_eq_false hx1
                          have HT3' := Hid.mk' (HT3.out (by omega) rfl)
                          clear hx0 hx1
                          go_wp2_with fail
                          exact ⟨⟨j + 1, h5, by go_num, Hid.mk' hcur, HT3'⟩, by simp [intOf]; omega⟩
                  · obtain rfl : j = nk := by omega
                    have HST' := Hid.mk' (HST.out HT.out)
                    go_wp2_with fail
                    exact ⟨⟨k + 1, h1, by go_num, HX, HST'⟩, by simp [intOf]; omega⟩
              · have HV := Hid.mk' (HBAD.out (Or.inr (Or.inl hsh)))
                have hq : ((ns k : Int) != (ns 0 : Int)) = true := by rw [bne_iff_ne]; omega
                rw [hre] at hck
                generalize ns k = nk at *
                clear HBAD hsh hs0 hnum hre
                go_wp2_with fail
                go_quiet (fail)
                go_wp2_with fail
                go_ret
                exact ⟨by rw [HV.out]; rfl, below_drewN (below_chS HB1.out HB.out) _⟩
        · obtain rfl : R = k := by omega
          have HV : Hid (ciErr R z R ns zs = 0) := by show _ = _; rw [HR.out, HS.out, if_neg (by simp)]
          go_wp2_with fail
          go_ret
          exact ⟨by rw [HV.out]; rfl, below_chS HB1.out HB.out⟩
end Go.Proofs.YtdlbnolnkmhdcaaDoor
