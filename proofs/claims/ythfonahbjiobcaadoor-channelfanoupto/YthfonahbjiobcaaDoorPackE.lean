/- dist.Mutual. -/
import Derived.Test.YthfonahbjiobcaaDoorPackD
import Derived.Test.YthfonahbjiobcaaDoorPackB
import Derived.Test.YthfonahbjiobcaaDoorPackC
import Derived.Test.YthfonahbjiobcaaDoorRatioOps
import Derived.Deep.AppendLies
import Derived.Deep.RegionHeld3
import Derived.Shelf.SlGeneric
import Derived.Shelf.Spec.SlicesGrow
import Derived.Ground.Names8Prog
import Derived.Test.YthfonahbjiobcaaDoorProg
namespace Go.Proofs.YthfonahbjiobcaaDoor
open Go.RowKit Go.Maps

theorem okM_of {R N : Nat} {ns : Nat → Nat} {zs : Nat → Nat → Int} (h : OkT R ns zs N) : OkM R (ns 0) N zs (rowSum ns zs) (colV zs R) :=
  ⟨h.r16, h.c16, h.n1, h.n6, fun i hi j hj => h.cell hi (by rw [h.even i hi]; exact hj), fun i hi => by have h1 := h.row hi; have h2 := h.n6; unfold rowSum; omega, fun j hj => h.col (Nat.le_refl _) hj,
    fun i hi j hj => ⟨sumN_ge (h.nn i hi) (by rw [h.even i hi]; exact hj), sumN_ge (z := fun i => zs i j) (fun i hi => h.nn i hi j (by rw [h.even i hi]; exact hj)) hi⟩⟩
/-- Two rows, and the boxes of their slices. -/
structure TwoRows (W0 W : World) (B1 B2 g1 c1 n1 : Nat) (z1 : Nat → Int) (g2 c2 n2 : Nat) (z2 : Nat → Int) : Prop where
  below : Below W0.heap.size W0 W
  b1 : W.cell? ⟨B1, 0, none⟩ = some (.slice (some ⟨g1, 0, none⟩) n1 c1)
  b2 : W.cell? ⟨B2, 0, none⟩ = some (.slice (some ⟨g2, 0, none⟩) n2 c2)
  r1 : RowAt W g1 0 n1 z1
  r2 : RowAt W g2 0 n2 z2
theorem TwoRows.later {W0 W W' : World} {B1 B2 g1 c1 n1 g2 c2 n2 : Nat} {z1 z2 : Nat → Int} (h : TwoRows W0 W B1 B2 g1 c1 n1 z1 g2 c2 n2 z2) (hb : Below W.heap.size W W') : TwoRows W0 W' B1 B2 g1 c1 n1 z1 g2 c2 n2 z2 :=
  ⟨below_chain h.below hb, (cell_past h.b1 hb).2, (cell_past h.b2 hb).2, h.r1.later hb, h.r2.later hb⟩
/-- A new box with nothing in it. -/
structure NewRow (W0 W : World) (B : Nat) : Prop where
  c0 : W.cell? ⟨B, 0, none⟩ = some (.slice none 0 0)
  f0 : W.frozen? ⟨B, 0, none⟩ = false
  hB : W0.heap.size ≤ B
theorem NewRow.later {W0 W W' : World} {B : Nat} (h : NewRow W0 W B) (hb : Below W.heap.size W W') : NewRow W0 W' B := ⟨(cell_past h.c0 hb).2, (frozen_past h.c0 h.f0 hb).2, h.hB⟩
theorem newRow_new {W0 W : World} (h : Below W0.heap.size W0 W) : NewRow W0 (W.alloc (.cells #[.slice none 0 0] 22)) W.heap.size := ⟨by simp, by simp, h.size⟩

theorem NewRow.al {W0 W : World} {B : Nat} (h : NewRow W0 W B) : (∀ X, (W.alloc X).cell? ⟨B, 0, none⟩ = some (.slice none 0 0)) ∧ ∀ X, (W.alloc X).frozen? ⟨B, 0, none⟩ = false := ⟨fun X => (h.later (new_below _ X)).c0, fun X => (h.later (new_below _ X)).f0⟩
theorem NewRow.ne {W0 W : World} {B : Nat} (h : NewRow W0 W B) : (¬ B = W.heap.size) ∧ ¬ W.heap.size = B := by
  have hz := cell_lt h.c0
  simp only at hz
  exact ⟨by omega, by omega⟩
theorem newRow_of {W0 w w' : World} (h : Below W0.heap.size W0 w) {X : Obj} (hX : X = .cells #[.slice none 0 0] 22) (hb : Below (w.alloc X).heap.size (w.alloc X) w') : NewRow W0 w' w.heap.size := by
  subst hX
  exact (newRow_new h).later hb
theorem newRow_of2 {W0 w w' : World} (h : Below W0.heap.size W0 w) {X Y : Obj} (hX : X = .cells #[.slice none 0 0] 22) (hY : Y = .cells #[.slice none 0 0] 22) (hb : Below ((w.alloc X).alloc Y).heap.size ((w.alloc X).alloc Y) w') : NewRow W0 w' w.heap.size ∧ NewRow W0 w' (w.heap.size + 1) := by
  subst hX
  subst hY
  have h2 := (newRow_new (more_below h (.cells #[.slice none 0 0] 22))).later hb
  rw [World.size_alloc] at h2
  exact ⟨((newRow_new h).later (new_below _ _)).later hb, h2⟩
theorem row_not_box {W0 w : World} {g n B : Nat} {z : Nat → Int} (h : RowAt w g 0 n z) (h0 : 0 < n) (nb : NewRow W0 w B) : g ≠ B := fun e => by
  have h1 := h 0 h0
  rw [e, show (0 : Nat) + 0 = 0 from rfl, nb.c0] at h1
  cases h1
theorem row_set {w : World} {g n B : Nat} {z : Nat → Int} {v : Value} (h : RowAt w g 0 n z) (hne : g ≠ B) : RowAt (w.setCell ⟨B, 0, none⟩ v) g 0 n z := fun i hi => by
  rw [World.cell?_setCell_other _ _ _ _ (by simp <;> omega)]
  exact h i hi
theorem twoRows_a {W0 w : World} {g1 c1 n1 g2 c2 n2 : Nat} {z1 z2 : Nat → Int} (hb : Below W0.heap.size W0 w) (r1 : RowAt w g1 0 n1 z1) (r2 : RowAt w g2 0 n2 z2) : TwoRows W0 ((w.alloc (.cells #[.slice (some ⟨g1, 0, none⟩) n1 c1] 22)).alloc (.cells #[.slice (some ⟨g2, 0, none⟩) n2 c2] 22)) w.heap.size (w.heap.size + 1) g1 c1 n1 z1 g2 c2 n2 z2 :=
  ⟨more_below (more_below hb _) _, new_one (new_below _ _), by rw [World.cell?_alloc_at _ _ _ _ (by simp)]; rfl, (r1.later (new_below _ _)).later (new_below _ _), (r2.later (new_below _ _)).later (new_below _ _)⟩
theorem twoRows_b {W0 w : World} {g1 c1 n1 g2 c2 n2 : Nat} {z1 z2 : Nat → Int} (hb : Below W0.heap.size W0 w) (r1 : RowAt w g1 0 n1 z1) (r2 : RowAt w g2 0 n2 z2) : TwoRows W0 ((w.alloc (.cells #[.slice (some ⟨g2, 0, none⟩) n2 c2] 22)).alloc (.cells #[.slice (some ⟨g1, 0, none⟩) n1 c1] 22)) (w.heap.size + 1) w.heap.size g1 c1 n1 z1 g2 c2 n2 z2 :=
  ⟨more_below (more_below hb _) _, by rw [World.cell?_alloc_at _ _ _ _ (by simp)]; rfl, new_one (new_below _ _), (r1.later (new_below _ _)).later (new_below _ _), (r2.later (new_below _ _)).later (new_below _ _)⟩
theorem twoRows_d {W0 w : World} {B : Nat} {g1 c1 n1 g2 c2 n2 : Nat} {z1 z2 : Nat → Int} (hb : Below W0.heap.size W0 w) (r1 : RowAt w g1 0 n1 z1) (r2 : RowAt w g2 0 n2 z2) (p1 : 0 < n1) (p2 : 0 < n2) (nb : NewRow W0 w B) : TwoRows W0 ((w.alloc (.cells #[.slice (some ⟨g1, 0, none⟩) n1 c1] 22)).setCell ⟨B, 0, none⟩ (.slice (some ⟨g2, 0, none⟩) n2 c2)) w.heap.size B g1 c1 n1 z1 g2 c2 n2 z2 := by
  have hn := nb.later (new_below w (.cells #[.slice (some ⟨g1, 0, none⟩) n1 c1] 22))
  refine ⟨(more_below hb _).setCell hn.hB _, ?_, World.cell?_setCell_same _ _ _ hn.c0, row_set (r1.later (new_below _ _)) (row_not_box r1 p1 nb), row_set (r2.later (new_below _ _)) (row_not_box r2 p2 nb)⟩
  have := nb.ne
  rw [World.cell?_setCell_other _ _ _ _ (by simp <;> omega), World.cell?_alloc_at _ _ _ _ (by simp)]
  rfl
theorem twoRows_e {W0 w : World} {B B' : Nat} {g1 c1 n1 g2 c2 n2 : Nat} {z1 z2 : Nat → Int} (hb : Below W0.heap.size W0 w) (r1 : RowAt w g1 0 n1 z1) (r2 : RowAt w g2 0 n2 z2) (p1 : 0 < n1) (p2 : 0 < n2) (nb : NewRow W0 w B) (nb' : NewRow W0 w B') (hne : B ≠ B') : TwoRows W0 ((w.setCell ⟨B, 0, none⟩ (.slice (some ⟨g1, 0, none⟩) n1 c1)).setCell ⟨B', 0, none⟩ (.slice (some ⟨g2, 0, none⟩) n2 c2)) B B' g1 c1 n1 z1 g2 c2 n2 z2 := by
  have h1 : (w.setCell ⟨B, 0, none⟩ (.slice (some ⟨g1, 0, none⟩) n1 c1)).cell? ⟨B', 0, none⟩ = some (.slice none 0 0) := by rw [World.cell?_setCell_other _ _ _ _ (by simp <;> omega)]; exact nb'.c0
  refine ⟨(hb.setCell nb.hB _).setCell nb'.hB _, ?_, World.cell?_setCell_same _ _ _ h1, row_set (row_set r1 (row_not_box r1 p1 nb)) (row_not_box r1 p1 nb'), row_set (row_set r2 (row_not_box r2 p2 nb)) (row_not_box r2 p2 nb')⟩
  rw [World.cell?_setCell_other _ _ _ _ (by simp <;> omega)]
  exact World.cell?_setCell_same _ _ _ nb.c0
theorem twoRows_c {W0 w : World} {B : Nat} {g1 c1 n1 g2 c2 n2 : Nat} {z1 z2 : Nat → Int} (hb : Below W0.heap.size W0 w) (r1 : RowAt w g1 0 n1 z1) (r2 : RowAt w g2 0 n2 z2) (p1 : 0 < n1) (p2 : 0 < n2) (nb : NewRow W0 w B) : TwoRows W0 (((w.alloc (.cells #[.slice none 0 0] 22)).setCell ⟨B, 0, none⟩ (.slice (some ⟨g1, 0, none⟩) n1 c1)).setCell ⟨w.heap.size, 0, none⟩ (.slice (some ⟨g2, 0, none⟩) n2 c2)) B w.heap.size g1 c1 n1 z1 g2 c2 n2 z2 :=
  twoRows_e (more_below hb _) (r1.later (new_below _ _)) (r2.later (new_below _ _)) p1 p2 (nb.later (new_below _ _)) (newRow_new hb) nb.ne.1

end Go.Proofs.YthfonahbjiobcaaDoor

/- dist.Given. -/
namespace Go.Proofs.YthfonahbjiobcaaDoor
open Go.RowKit Go.Maps

/-- What a row puts. -/
def givV (ns : Nat → Nat) (zs : Nat → Nat → Int) (x : Int) (i : Nat) : Int := sumN (entV (zs i) (sumN (zs i) (ns i)).toNat x) (ns i)
theorem givV_le {R N : Nat} {ns : Nat → Nat} {zs : Nat → Nat → Int} (h : OkT R ns zs N) (x : Int) {i : Nat} (hi : i < R) : -3200000 ≤ givV ns zs x i ∧ givV ns zs x i ≤ 3200000 := by
  have h1 := h.row hi
  have h2 := h.n6
  have h3 := sumN_bound (f := entV (zs i) (sumN (zs i) (ns i)).toNat x) (B := 200000) (n := ns i) (fun j hj => entV_le x (h.cell hi hj) (by omega))
  have h4 := h.even i hi
  have h5 := h.c16
  have : ((ns i : Nat) : Int) * 200000 ≤ 3200000 := by omega
  unfold givV
  omega

set_option maxRecDepth 100000 in
set_option maxHeartbeats 4000000 in
theorem Given_parts (den : Int) (mb B b o cap R N : Nat) (ns : Nat → Nat) (zs : Nat → Nat → Int) (w : World) (hown : w.ownsMap Tryd.prog 3 (plainElem (H := Unit) Tryd.prog 3) mb 0 (mapOf [])) (hB : w.cell? ⟨B, 0, none⟩ = some (.slice (some ⟨b, o, none⟩) R cap)) (hk : OkT R ns zs N)
    (hr : ∀ i, i < R → ∃ b1 o1 cap1, w.cell? ⟨b, o + i, none⟩ = some (.slice (some ⟨b1, o1, none⟩) (ns 0) cap1) ∧ RowAt w b1 o1 (ns 0) (zs i)) :
    Calls Tryd.prog 29 #[putV den mb, .pointer (some ⟨B, 0, none⟩)] w fun e w' => e = .returned (.tuple #[]) ∧ ∃ l nn, Puts w w' mb (fun x => sumN (givV ns zs x) R) (32 * R) [] 0 l nn := by
  have HP0 : Hid (Puts w w mb (fun x => sumN (givV ns zs x) 0) (32 * 0) [] 0 [] 0) := ⟨hown, List.Pairwise.nil, (fun x => by simp [sumN]), (fun e he => by cases he), by omega, by simp, grown_refl _ _⟩
  have HROW : Hid (∀ (wr : World), w.grownBy wr (some mb) → ∀ i, i < R → ∃ b1 o1 cap1, wr.cell? ⟨b, o + i, none⟩ = some (.slice (some ⟨b1, o1, none⟩) (ns 0) cap1) ∧ RowAt wr b1 o1 (ns 0) (zs i)) := fun wr hg i hi => by
    obtain ⟨b1, o1, cap1, h1, h2⟩ := hr i hi
    exact ⟨b1, o1, cap1, cell_side hown hg h1, h2.beside hown hg⟩
  have HK := Hid.mk' hk
  have hR16 := hk.r16
  clear hown hr hk
  unfold putV
  go_enter Tryd.func29, Tryd.ntmps29
  go_wp2_with fail
  go_loopw [4, 7] (fun _ i wr => ∃ (k nn : Nat) (l : List (Int × Int)), k ≤ R ∧ i = .int .i64 k ∧ Hid (Puts w wr mb (fun x => sumN (givV ns zs x) k) (32 * k) [] 0 l nn)) (fun _ i _ => R - (intOf i).toNat)
  case atStart => exact ⟨0, 0, [], Nat.zero_le _, rfl, HP0⟩
  case round =>
    clear HP0 hB
    obtain ⟨k, nn, l, hk, rfl, HP⟩ := hrel
    rcases Nat.lt_or_ge k R with h1 | h1
    · obtain ⟨b1, o1, cap1, hc, hr1⟩ := HROW.out wr HP.out.grow k h1
      have hkn : (k : Int) < (R : Int) := by omega
      have he := HK.out.even k h1
      have HBD : Hid (∀ x, -100000000 ≤ atL l x ∧ atL l x ≤ 100000000) := fun x => by
        rw [HP.out.val]
        have h3 := sumN_bound (f := givV ns zs x) (B := 3200000) (n := k) (fun i hi => givV_le HK.out x (by omega))
        have : (k : Int) * 3200000 ≤ 51200000 := by omega
        simp only [atL]
        omega
      have hp := putEntropy_some den mb nn b1 o1 cap1 (ns 0) (zs k) l wr HP.out.own HP.out.rise HP.out.keys (fun x => by have := HBD.out x; omega) (by have := HP.out.cnt; omega) hr1 (fun j hj => HK.out.nn k h1 j (by rw [he]; exact hj)) (by have h2 := (HK.out.part h1 (k := ns 0) (by omega)).2; exact h2) (by have := HK.out.c16; omega)
      have HV : Hid (∀ x, sumN (givV ns zs x) (k + 1) = sumN (givV ns zs x) k + sumN (entV (zs k) (sumN (zs k) (ns 0)).toNat x) (ns 0)) := fun x => by
        show sumN (givV ns zs x) k + givV ns zs x k = _
        unfold givV
        rw [he]
      have hc16 := HK.out.c16
      unfold putV at hp
      clear hr1 he
      go_wp2_with fail
      refine hp.mono ?_
      clear hp hc
      rintro e w2 ⟨rfl, l2, nn2, hp2⟩
      have HQ2 := Hid.mk' ((HP.out.trans hp2).congr (d := 32 * (k + 1)) (by omega) (g := fun x => sumN (givV ns zs x) (k + 1)) (fun x => (HV.out x).symm))
      clear hp2
      go_wp2_with fail
      exact ⟨⟨k + 1, nn2, l2, h1, by go_num, HQ2⟩, by simp [intOf]; omega⟩
    · obtain rfl : k = R := by omega
      go_wp2_with fail
      go_end0
      exact ⟨rfl, l, nn, HP.out⟩
theorem giv_bound {R N : Nat} {ns : Nat → Nat} {zs : Nat → Nat → Int} (h : OkT R ns zs N) (x : Int) : -1000000000 ≤ sumN (givV ns zs x) R ∧ sumN (givV ns zs x) R ≤ 1000000000 := by
  have h3 := sumN_bound (f := givV ns zs x) (B := 3200000) (n := R) (fun i hi => givV_le h x hi)
  have h4 := h.r16
  have : (R : Int) * 3200000 ≤ 51200000 := by omega
  omega

set_option maxRecDepth 100000 in
set_option maxHeartbeats 2000000 in
theorem Given_ok (a : Nat → Addr) (ad : Option Addr) (R cap N n : Nat) (vs : Nat → Value) (ns : Nat → Nat) (zs : Nat → Nat → Int) (L : List Int) (w : World) (hE : Errs w a) (h : TabAt w (.slice ad R cap) R vs ns zs) (hR : R ≤ 40) (hs : sumT ns R ≤ 400) (h0 : tabErr R ns zs = 0) (hk : OkT R ns zs N) (hL : L = flatL ns zs R) (hn : L.length = n) (hN : sumN (atF L) n = N) :
    Calls Tryd.prog 10 #[.slice ad R cap] w fun e w' => ∃ dn v', e = .returned (.tuple #[.agg #[.int .i64 dn, v'], .nilIface]) ∧ LogBy w.heap.size N (fun x => sumN (givV ns zs x) R) w' dn v' ∧ Below w.heap.size w w' := by
  obtain ⟨_, _, _, hok, hn256⟩ := tabErr_ok h0
  rw [← hL, hn] at hok hn256
  have hp := hok.posN
  have hN1 : 1 ≤ N ∧ N ≤ 4096 := ⟨hk.n1, hk.n6⟩
  obtain ⟨b, o, rfl, hrows⟩ := tab_rows h hk
  obtain ⟨W0, hW0⟩ : ∃ W0, W0 = (w.alloc (.cells #[.slice (some ⟨b, o, none⟩) R cap] 23)).alloc (.cells #[.int .i64 0, .slice none 0 0] 38) := ⟨_, rfl⟩
  have hb0 : Below w.heap.size w W0 := by rw [hW0]; exact below_chain (new_below _ _) (new_below _ _)
  have hz0 : W0.heap.size = w.heap.size + 1 + 1 := by rw [hW0]; simp
  have hbox : W0.cell? ⟨w.heap.size, 0, none⟩ = some (.slice (some ⟨b, o, none⟩) R cap) := by rw [hW0]; exact new_one (new_below _ _)
  have hres : ∀ W, Below W0.heap.size W0 W → W.cell? ⟨w.heap.size + 1, 0, none⟩ = some (.int .i64 0) ∧ W.cell? ⟨w.heap.size + 1, 1, none⟩ = some (.slice none 0 0) ∧ W.frozen? ⟨w.heap.size + 1, 0, none⟩ = false ∧ W.frozen? ⟨w.heap.size + 1, 1, none⟩ = false := fun W hb => by
    rw [hW0] at hb
    have := res_past hb
    simpa using this
  have ht := Table_any a _ R vs ns zs W0 (hE.below hb0) (h.later hb0) hR hs
  rw [h0, errV_zero] at ht
  have HCL : Hid (∀ W, Below W0.heap.size W0 W → Calls Tryd.prog 28 #[.slice (some ⟨b, o, none⟩) R cap] W fun e w' => ∃ g cp, e = .returned (.slice (some ⟨g, 0, none⟩) n cp) ∧ RowAt w' g 0 n (atF L) ∧ Below W.heap.size W w') := fun W hb => (cells_any _ R vs ns zs W ((h.later hb0).later hb) (by omega) (by omega)).mono (fun e w' hx => by
    obtain ⟨v', rfl, hrow, hb'⟩ := hx
    rw [← hL, hn] at hrow
    obtain ⟨g, cp, rfl, hr⟩ := row_some hrow hn hp
    exact ⟨g, cp, rfl, hr, hb'⟩)
  have HSO : Hid (∀ W, Below W0.heap.size W0 W → Calls Tryd.prog 27 #[.int .i64 N, .func (.func 29) #[] #[.pointer (some ⟨w.heap.size, 0, none⟩)]] W fun e w' => ∃ dn v, e = .returned (.tuple #[.agg #[.int .i64 dn, v], .nilIface]) ∧ LogBy W.heap.size N (fun x => sumN (givV ns zs x) R) w' dn v ∧ Below W.heap.size W w') := fun W hb =>
    sumOver_any 29 _ N (32 * R) (fun x => sumN (givV ns zs x) R) W (enters_of Tryd.func29 (by kernel_rfl) rfl) hN1.1 hN1.2 (by have := hk.r16; omega) (fun x => giv_bound hk x)
      (fun W' mb hb' ho => Given_parts N mb w.heap.size b o cap R N ns zs W' ho (cell_past hbox (below_chain hb hb')).2 hk (hrows W' (below_chain hb0 (below_chain hb hb'))))
  have HOK := Hid.mk' hok
  have HNN := Hid.mk' hN
  have HB0 := Hid.mk' hb0
  have HRES := Hid.mk' hres
  have HW0 := Hid.mk' hW0
  have HZ0 := Hid.mk' hz0
  have HBX := Hid.mk' hbox
  clear hE h hb0 hres hW0 hz0 h0 hok hL hn hN hs hrows hk
  go_enter Tryd.func10, Tryd.ntmps10
  go_upto_region 1 with fail
  rw [← HW0.out]
  go_wp2_with fail
  refine ht.mono ?_
  clear ht hbox
  rintro e w1 ⟨rfl, hb1⟩
  have HB1 := Hid.mk' hb1
  have hbx1 := (cell_past HBX.out hb1).2
  clear hb1
  go_wp2_with (first
    | (go_at_call 28; refine (HCL.out w1 HB1.out).mono ?_; rintro e w2 ⟨g, cp, rfl, hr2, hb2⟩; have htt := total_some g 0 cp n (atF L) w2 hr2 (fun k hk => by have := HOK.out.part hk; omega) (fun i hi => by have := HOK.out.lt hi; omega) (by omega); rw [HNN.out] at htt; have HTT := Hid.mk' htt; have HB2 := Hid.mk' (below_chain HB1.out hb2); clear htt hr2 hb2)
    | (go_at_call 20; refine HTT.out.mono ?_; rintro e w3 ⟨rfl, hw3⟩; rw [hw3]; clear hw3)
    | (go_at_call 27; refine (HSO.out w2 HB2.out).mono ?_; rintro e w4 ⟨dn, v4, rfl, hlb, hb4⟩; obtain ⟨c0, c1, q0, q1⟩ := HRES.out w4 (below_chain HB2.out hb4); have HBW := Hid.mk' (below_chain HB0.out (below_chain HB2.out hb4)); have HLB := Hid.mk' hlb; obtain ⟨ad4, n4, c4, rfl⟩ := hlb.form; clear hlb))
  have HLT : Hid (w.heap.size + 1 < w2.heap.size) := by have h1 := HZ0.out; have h2 := HB2.out.size; show _ < _; omega
  refine bodyPost_ret (v := .tuple #[.agg #[.int .i64 dn, .slice ad4 n4 c4], .nilIface]) (by simp [results, Tryd.results10, go_sem, c0, c1]) rfl ⟨_, .slice ad4 n4 c4, rfl, (HLB.out.set HLT.out _ _).lower (by have := HLT.out; omega), ?_⟩
  exact (HBW.out.setCell (by simp) _).setCell (by simp) _

set_option maxRecDepth 100000 in
set_option maxHeartbeats 1000000 in
theorem Given_bad (a : Nat → Addr) (v : Value) (R : Nat) (vs : Nat → Value) (ns : Nat → Nat) (zs : Nat → Nat → Int) (w : World) (hE : Errs w a) (h : TabAt w v R vs ns zs) (hR : R ≤ 40) (hs : sumT ns R ≤ 400) (h0 : tabErr R ns zs ≠ 0) :
    Calls Tryd.prog 10 #[v] w fun e w' => e = .returned (.tuple #[.agg #[.int .i64 0, .slice none 0 0], errV a (tabErr R ns zs)]) ∧ Below w.heap.size w w' := by
  obtain ⟨ad, cap, rfl⟩ := h.form
  obtain ⟨W0, hW0⟩ : ∃ W0, W0 = (w.alloc (.cells #[.slice ad R cap] 23)).alloc (.cells #[.int .i64 0, .slice none 0 0] 38) := ⟨_, rfl⟩
  have hb0 : Below w.heap.size w W0 := by rw [hW0]; exact below_chain (new_below _ _) (new_below _ _)
  have hbox : W0.cell? ⟨w.heap.size, 0, none⟩ = some (.slice ad R cap) := by rw [hW0]; exact new_one (new_below _ _)
  have hres : ∀ W, Below W0.heap.size W0 W → W.cell? ⟨w.heap.size + 1, 0, none⟩ = some (.int .i64 0) ∧ W.cell? ⟨w.heap.size + 1, 1, none⟩ = some (.slice none 0 0) ∧ W.frozen? ⟨w.heap.size + 1, 0, none⟩ = false ∧ W.frozen? ⟨w.heap.size + 1, 1, none⟩ = false := fun W hb => by
    rw [hW0] at hb
    have := res_past hb
    simpa using this
  have ht := Table_any a _ R vs ns zs W0 (hE.below hb0) (h.later hb0) hR hs
  rw [errV_pos a h0] at ht ⊢
  generalize a (tabErr R ns zs - 1) = ea at ht ⊢
  have HB0 := Hid.mk' hb0
  have HRES := Hid.mk' hres
  have HW0 := Hid.mk' hW0
  clear hE h hb0 hres hW0 h0
  go_enter Tryd.func10, Tryd.ntmps10
  go_upto_region 1 with fail
  rw [← HW0.out]
  go_wp2_with (go_at_call 26; refine ht.mono ?_; rintro e w1 ⟨rfl, hb1⟩; obtain ⟨c0, c1, q0, q1⟩ := HRES.out w1 hb1; have HB1 := Hid.mk' (below_chain HB0.out hb1); clear hb1)
  refine bodyPost_ret (v := .tuple #[.agg #[.int .i64 0, .slice none 0 0], .iface 131 (.pointer (some ea))]) (by simp [results, Tryd.results10, go_sem, c0, c1]) rfl ⟨rfl, ?_⟩
  exact (HB1.out.setCell (by simp) _).setCell (by simp) _
end Go.Proofs.YthfonahbjiobcaaDoor

/- The sides of what rows tell of columns; entropies of a table, held against each other. -/
namespace Go.Proofs.YthfonahbjiobcaaDoor
open Go.RowKit

/-- It speaks of primes alone. -/
def Supp (f : Int → Int) : Prop := ∀ x, f x ≠ 0 → 2 ≤ x ∧ x ≤ 4096 ∧ Pr x.toNat
theorem supp_term (c : Int) (m : Nat) (h : c ≠ 0 → 0 < m ∧ m ≤ 4096) : Supp fun x => c * multI x m := fun x hx => by
  dsimp only at hx
  have h1 : c ≠ 0 := fun e => hx (by rw [e]; simp)
  have h2 : multI x m ≠ 0 := fun e => hx (by rw [e]; simp)
  obtain ⟨a1, a2, a3⟩ := multI_support (h h1).1 h2
  have := (h h1).2
  exact ⟨a2, by omega, a1⟩
theorem Supp.add {f g : Int → Int} (hf : Supp f) (hg : Supp g) : Supp fun x => f x + g x := fun x hx => by
  by_cases h : f x = 0
  · exact hg x (fun e => hx (by dsimp only; rw [h, e]; rfl))
  · exact hf x h
theorem Supp.sub {f g : Int → Int} (hf : Supp f) (hg : Supp g) : Supp fun x => f x - g x := fun x hx => by
  by_cases h : f x = 0
  · exact hg x (fun e => hx (by dsimp only; rw [h, e]; rfl))
  · exact hf x h
theorem supp_sum {F : Nat → Int → Int} : ∀ {n : Nat}, (∀ i, i < n → Supp (F i)) → Supp fun x => sumN (fun i => F i x) n
  | 0, _ => fun x hx => absurd rfl hx
  | n + 1, h => (supp_sum fun i hi => h i (by omega)).add (h n (by omega))
theorem sumN_zero : ∀ n, sumN (fun _ => 0) n = 0
  | 0 => rfl
  | n + 1 => by simp only [sumN]; rw [sumN_zero n]; rfl
theorem sumN_plus (f g : Nat → Int) : ∀ n, sumN (fun i => f i + g i) n = sumN f n + sumN g n
  | 0 => rfl
  | n + 1 => by simp only [sumN]; rw [sumN_plus f g n]; omega
theorem sumN_less (f g : Nat → Int) : ∀ n, sumN (fun i => f i - g i) n = sumN f n - sumN g n
  | 0 => rfl
  | n + 1 => by simp only [sumN]; rw [sumN_less f g n]; omega
theorem sumN_times (k : Int) (f : Nat → Int) : ∀ n, sumN (fun i => f i * k) n = sumN f n * k
  | 0 => by simp [sumN]
  | n + 1 => by simp only [sumN]; rw [sumN_times k f n, Int.add_mul]
theorem sumN_swap (F : Nat → Nat → Int) (C : Nat) : ∀ R, sumN (fun i => sumN (fun j => F i j) C) R = sumN (fun j => sumN (fun i => F i j) R) C
  | 0 => by simp only [sumN]; rw [sumN_zero]
  | R + 1 => by
    simp only [sumN]
    rw [sumN_swap F C R, ← sumN_plus]
/-- The columns' entropy by places. -/
theorem ent_cols (zs : Nat → Nat → Int) (R C N : Nat) (x : Int) : sumN (entV (colV zs R) N x) C = sumN (fun i => sumN (fun j => zs i j * (multI x N - multI x (colV zs R j).toNat)) C) R := by
  rw [sumN_swap]
  refine sumN_congr fun j _ => ?_
  rw [sumN_times]
  unfold entV
  show colV zs R j * _ - colV zs R j * _ = colV zs R j * _
  rw [Int.mul_sub]
/-- What is known of the columns less what is told if the row is known is what rows tell. -/
theorem less_told {R N : Nat} {ns : Nat → Nat} {zs : Nat → Nat → Int} (h : OkT R ns zs N) (x : Int) : sumN (entV (colV zs R) N x) (ns 0) - sumN (givV ns zs x) R = sumN (fun i => sumN (mutV (zs i) (rowSum ns zs i) (colV zs R) N x) (ns 0)) R := by
  rw [ent_cols, ← sumN_less]
  refine sumN_congr fun i hi => ?_
  unfold givV
  rw [h.even i hi, ← sumN_less]
  refine sumN_congr fun j _ => ?_
  unfold entV mutV rowSum
  rw [h.even i hi]
  grind
theorem mult_prod1 {x : Nat} (hx : Pr x) {a b : Nat → Nat} : ∀ {n : Nat}, (∀ i, i < n → 0 < a i → 0 < b i) → mult x (prodA (fun i => b i ^ a i) n) = sumA (fun i => a i * mult x (b i)) n ∧ 0 < prodA (fun i => b i ^ a i) n
  | 0, _ => ⟨by simp only [prodA, sumA]; exact mult_one hx.1, by simp [prodA]⟩
  | n + 1, h => by
    obtain ⟨h1, h2⟩ := mult_prod1 hx (n := n) (fun i hi => h i (by omega))
    have h3 : mult x (b n ^ a n) = a n * mult x (b n) ∧ 0 < b n ^ a n := by
      rcases Nat.eq_zero_or_pos (a n) with h0 | h0
      · rw [h0, Nat.pow_zero, Nat.zero_mul]
        exact ⟨mult_one hx.1, by omega⟩
      · exact ⟨mult_power hx (h n (by omega) h0) _, Nat.pow_pos (h n (by omega) h0)⟩
    simp only [prodA, sumA]
    exact ⟨by rw [mult_mul hx _ _ h2 h3.2, h1, h3.1], Nat.mul_pos h2 h3.2⟩
theorem mult_prod2 {x : Nat} (hx : Pr x) {a b : Nat → Nat → Nat} {C : Nat} : ∀ {R : Nat}, (∀ i, i < R → ∀ j, j < C → 0 < a i j → 0 < b i j) → mult x (prodA (fun i => prodA (fun j => b i j ^ a i j) C) R) = sumA (fun i => sumA (fun j => a i j * mult x (b i j)) C) R ∧ 0 < prodA (fun i => prodA (fun j => b i j ^ a i j) C) R
  | 0, _ => ⟨by simp only [prodA, sumA]; exact mult_one hx.1, by simp [prodA]⟩
  | R + 1, h => by
    obtain ⟨h1, h2⟩ := mult_prod2 hx (R := R) (fun i hi => h i (by omega))
    obtain ⟨h3, h4⟩ := mult_prod1 hx (fun j hj => h R (by omega) j hj)
    simp only [prodA, sumA]
    exact ⟨by rw [mult_mul hx _ _ h2 h4, h1, h3], Nat.mul_pos h2 h4⟩
theorem sumN_nat2 {z : Nat → Int} {a : Nat → Nat} : ∀ {n : Nat}, (∀ i, i < n → z i = (a i : Int)) → sumN z n = (sumA a n : Int)
  | 0, _ => rfl
  | n + 1, h => by
    simp only [sumN, sumA]
    rw [sumN_nat2 (n := n) (fun i hi => h i (by omega)), h n (by omega)]
    simp
/-- The sides of what rows tell. -/
theorem told_sides {R N : Nat} {ns : Nat → Nat} {zs : Nat → Nat → Int} (h : OkT R ns zs N) :
    ∃ U D : Nat, 0 < U ∧ 0 < D ∧ D ≤ U ∧ ∀ x : Nat, Pr x → sumN (fun i => sumN (mutV (zs i) (rowSum ns zs i) (colV zs R) N (x : Int)) (ns 0)) R = (mult x U : Int) - (mult x D : Int) := by
  obtain ⟨a, ha⟩ : ∃ a : Nat → Nat → Nat, ∀ i, i < R → ∀ j, j < ns 0 → zs i j = (a i j : Int) := ⟨fun i j => (zs i j).toNat, fun i hi j hj => by have := h.nn i hi j (by rw [h.even i hi]; exact hj); dsimp only; omega⟩
  have hr : ∀ i, i < R → rowSum ns zs i = (sumA (a i) (ns 0) : Int) := fun i hi => by
    unfold rowSum
    rw [h.even i hi]
    exact sumN_nat2 (fun j hj => ha i hi j hj)
  have hc : ∀ j, j < ns 0 → colV zs R j = (sumA (fun i => a i j) R : Int) := fun j hj => sumN_nat2 (fun i hi => ha i hi j hj)
  have hN : N = sumA (fun i => sumA (a i) (ns 0)) R := by
    have h1 := h.tot
    have h2 : sumN (fun i => sumN (zs i) (ns i)) R = (sumA (fun i => sumA (a i) (ns 0)) R : Int) := sumN_nat2 (fun i hi => hr i hi)
    omega
  have hN0 : 0 < N := h.n1
  have hle : ∀ i, i < R → ∀ j, j < ns 0 → a i j ≤ sumA (a i) (ns 0) ∧ a i j ≤ sumA (fun k => a k j) R := fun i hi j hj => ⟨sumA_ge (a i) hj, sumA_ge (fun k => a k j) hi⟩
  have h2 : Pr 2 := ⟨by omega, fun d hd hdd => by have := Nat.mul_le_mul hd hd; omega⟩
  have p1 : ∀ i, i < R → ∀ j, j < ns 0 → 0 < a i j → 0 < a i j := fun _ _ _ _ h => h
  have p2 : ∀ i, i < R → ∀ j, j < ns 0 → 0 < a i j → 0 < sumA (a i) (ns 0) * sumA (fun k => a k j) R := fun i hi j hj h0 => by
    have := hle i hi j hj
    exact Nat.mul_pos (by omega) (by omega)
  have u2 := (mult_prod2 h2 (b := a) p1).2
  have d2 := (mult_prod2 h2 (a := a) (b := fun i j => sumA (a i) (ns 0) * sumA (fun k => a k j) R) p2).2
  refine ⟨N ^ N * prodA (fun i => prodA (fun j => a i j ^ a i j) (ns 0)) R, prodA (fun i => prodA (fun j => (sumA (a i) (ns 0) * sumA (fun k => a k j) R) ^ a i j) (ns 0)) R, Nat.mul_pos (Nat.pow_pos hN0) u2, d2, told_le a (ns 0) R N hN hN0, fun x hx => ?_⟩
  rw [mult_mul hx _ _ (Nat.pow_pos hN0) u2, mult_power hx hN0, (mult_prod2 hx (b := a) p1).1, (mult_prod2 hx (a := a) (b := fun i j => sumA (a i) (ns 0) * sumA (fun k => a k j) R) p2).1]
  have e : ∀ m, multI (x : Int) m = (mult x m : Int) := fun m => by rw [multI_pr (by simpa using hx)]; simp
  have key : sumN (fun i => sumN (mutV (zs i) (rowSum ns zs i) (colV zs R) N (x : Int)) (ns 0)) R = sumN (fun i => sumN (fun j => ((a i j * mult x (a i j) : Nat) : Int) + ((a i j : Nat) : Int) * (mult x N : Int) - ((a i j * mult x (sumA (a i) (ns 0) * sumA (fun k => a k j) R) : Nat) : Int)) (ns 0)) R := by
    refine sumN_congr fun i hi => sumN_congr fun j hj => ?_
    unfold mutV
    rw [ha i hi j hj, hr i hi, hc j hj]
    simp only [Int.toNat_natCast, e]
    rcases Nat.eq_zero_or_pos (a i j) with h0 | h0
    · rw [h0]; simp
    · have := hle i hi j hj
      rw [mult_mul hx _ _ (show 0 < sumA (a i) (ns 0) by omega) (show 0 < sumA (fun k => a k j) R by omega)]
      simp only [Int.natCast_mul, Int.natCast_add]
      grind
  rw [key]
  have split3 : ∀ i, sumN (fun j => ((a i j * mult x (a i j) : Nat) : Int) + ((a i j : Nat) : Int) * (mult x N : Int) - ((a i j * mult x (sumA (a i) (ns 0) * sumA (fun k => a k j) R) : Nat) : Int)) (ns 0) = ((sumA (fun j => a i j * mult x (a i j)) (ns 0) : Nat) : Int) + ((sumA (a i) (ns 0) : Nat) : Int) * (mult x N : Int) - ((sumA (fun j => a i j * mult x (sumA (a i) (ns 0) * sumA (fun k => a k j) R)) (ns 0) : Nat) : Int) := fun i => by
    rw [sumN_less, sumN_plus, sumN_times]
    rw [sumN_nat2 (z := fun j => ((a i j * mult x (a i j) : Nat) : Int)) (fun _ _ => rfl), sumN_nat2 (z := fun j => ((a i j : Nat) : Int)) (fun _ _ => rfl), sumN_nat2 (z := fun j => ((a i j * mult x (sumA (a i) (ns 0) * sumA (fun k => a k j) R) : Nat) : Int)) (fun _ _ => rfl)]
  rw [sumN_congr (fun i _ => split3 i), sumN_less, sumN_plus, sumN_times]
  rw [sumN_nat2 (z := fun i => ((sumA (fun j => a i j * mult x (a i j)) (ns 0) : Nat) : Int)) (fun _ _ => rfl), sumN_nat2 (z := fun i => ((sumA (a i) (ns 0) : Nat) : Int)) (fun _ _ => rfl), sumN_nat2 (z := fun i => ((sumA (fun j => a i j * mult x (sumA (a i) (ns 0) * sumA (fun k => a k j) R)) (ns 0) : Nat) : Int)) (fun _ _ => rfl), ← hN]
  simp only [Int.natCast_add, Int.natCast_mul]
  omega
theorem OkT.pos {R N : Nat} {ns : Nat → Nat} {zs : Nat → Nat → Int} (h : OkT R ns zs N) {i j : Nat} (hi : i < R) (hj : j < ns 0) : zs i j ≠ 0 → (0 < (zs i j).toNat ∧ (zs i j).toNat ≤ 4096) ∧ (0 < (rowSum ns zs i).toNat ∧ (rowSum ns zs i).toNat ≤ 4096) ∧ (0 < (colV zs R j).toNat ∧ (colV zs R j).toNat ≤ 4096) := fun h0 => by
  have h1 := h.cell hi (by rw [h.even i hi]; exact hj)
  have h2 := h.row hi
  have h3 := h.col (Nat.le_refl R) hj
  have h4 := sumN_ge (z := zs i) (n := ns i) (i := j) (fun k hk => h.nn i hi k hk) (by rw [h.even i hi]; exact hj)
  have h5 := sumN_ge (z := fun k => zs k j) (n := R) (i := i) (fun k hk => h.nn k hk j (by rw [h.even k hk]; exact hj)) hi
  have h6 := h.n6
  unfold rowSum
  have h7 : zs i j ≤ colV zs R j := h5
  omega
theorem ent_prim {R N : Nat} {ns : Nat → Nat} {zs : Nat → Nat → Int} (h : OkT R ns zs N) : Prim fun x => sumN (entV (colV zs R) N x) (ns 0) := by
  refine ⟨fun x => ent_bound (fun j hj => h.col (Nat.le_refl R) hj) h.n6 (by have := h.c16; omega) x, ?_⟩
  refine supp_sum (F := fun j x => entV (colV zs R) N x j) fun j hj => ?_
  have hc := h.col (Nat.le_refl R) hj
  exact (supp_term _ N (fun _ => ⟨h.n1, h.n6⟩)).sub (supp_term _ _ (fun h0 => by omega))
theorem giv_prim {R N : Nat} {ns : Nat → Nat} {zs : Nat → Nat → Int} (h : OkT R ns zs N) : Prim fun x => sumN (givV ns zs x) R := by
  refine ⟨fun x => giv_bound h x, ?_⟩
  refine supp_sum (F := fun i x => givV ns zs x i) fun i hi => ?_
  refine supp_sum (F := fun j x => entV (zs i) (sumN (zs i) (ns i)).toNat x j) fun j hj => ?_
  have hp := h.pos hi (j := j) (by rw [← h.even i hi]; exact hj)
  exact (supp_term _ _ (fun h0 => (hp h0).2.1)).sub (supp_term _ _ (fun h0 => (hp h0).1))
theorem mut_prim {R N : Nat} {ns : Nat → Nat} {zs : Nat → Nat → Int} (h : OkT R ns zs N) : Prim fun x => sumN (fun i => sumN (mutV (zs i) (rowSum ns zs i) (colV zs R) N x) (ns 0)) R := by
  refine ⟨fun x => ?_, ?_⟩
  · have h1 := sumN_bound (f := fun i => sumN (mutV (zs i) (rowSum ns zs i) (colV zs R) N x) (ns 0)) (B := 6400000) (n := R) (fun i hi => by
      have h2 := sumN_bound (f := mutV (zs i) (rowSum ns zs i) (colV zs R) N x) (B := 400000) (n := ns 0) (fun j hj => mutV_le x (h.cell hi (by rw [h.even i hi]; exact hj)) (by have := h.row hi; have := h.n6; unfold rowSum; omega) (h.col (Nat.le_refl R) hj) h.n6)
      have : (ns 0 : Int) * 400000 ≤ 6400000 := by have := h.c16; omega
      omega)
    have : (R : Int) * 6400000 ≤ 102400000 := by have := h.r16; omega
    omega
  · refine supp_sum (F := fun i x => sumN (mutV (zs i) (rowSum ns zs i) (colV zs R) N x) (ns 0)) fun i hi => ?_
    refine supp_sum (F := fun j x => mutV (zs i) (rowSum ns zs i) (colV zs R) N x j) fun j hj => ?_
    have hp := h.pos hi hj
    refine (((supp_term _ _ (fun h0 => (hp h0).1)).add (supp_term _ N (fun _ => ⟨h.n1, h.n6⟩))).add (supp_term _ _ (fun h0 => ?_))).add (supp_term _ _ (fun h0 => ?_))
    · exact (hp (by omega)).2.1
    · exact (hp (by omega)).2.2
end Go.Proofs.YthfonahbjiobcaaDoor

/- The sides of FANO's inequality: the multiplicities of a prime. -/
namespace Go.Proofs.YthfonahbjiobcaaDoor
open Go.RowKit

theorem self_mult {x : Nat} (hx : Pr x) (m : Nat) : mult x (m ^ m) = m * mult x m := by
  rcases Nat.eq_zero_or_pos m with h | h
  · subst h; rw [Nat.pow_zero, Nat.zero_mul]; exact mult_one hx.1
  · exact mult_power hx h m
/-- What is not known of the row, behind the column, as multiplicities. -/
theorem giv_nat {x : Nat} (hx : Pr x) {n C : Nat} {T : Nat → Nat → Int} {Z : Nat → Nat → Nat} (hT : ∀ k, k < C → ∀ i, i < n → T k i = (Z i k : Int)) :
    sumN (givV (fun _ => n) T (x : Int)) C = (sumA (fun k => colN Z n k * mult x (colN Z n k)) C : Int) - (sumA (fun k => sumA (fun i => Z i k * mult x (Z i k)) n) C : Int) := by
  have e : ∀ m, multI (x : Int) m = (mult x m : Int) := fun m => by rw [multI_pr (by simpa using hx)]; simp
  have row : ∀ k, k < C → givV (fun _ => n) T (x : Int) k = ((colN Z n k * mult x (colN Z n k) : Nat) : Int) - ((sumA (fun i => Z i k * mult x (Z i k)) n : Nat) : Int) := fun k hk => by
    have hs : sumN (T k) n = (colN Z n k : Int) := by
      rw [sumN_nat2 (a := fun i => Z i k) (fun i hi => hT k hk i hi)]
      unfold colN; rw [sumW_A]
    have h1 : sumN (entV (T k) (colN Z n k) (x : Int)) n = sumN (fun i => ((Z i k : Nat) : Int) * (mult x (colN Z n k) : Int) - ((Z i k * mult x (Z i k) : Nat) : Int)) n := sumN_congr fun i hi => by
      unfold entV
      rw [hT k hk i hi]
      simp only [Int.toNat_natCast, e, Int.natCast_mul]
    have h2 : sumN (fun i => ((Z i k : Nat) : Int)) n = (colN Z n k : Int) := by
      rw [sumN_nat2 (a := fun i => Z i k) (fun _ _ => rfl)]
      unfold colN; rw [sumW_A]
    unfold givV
    rw [hs, Int.toNat_natCast, h1, sumN_less, sumN_times, h2, sumN_nat2 (a := fun i => Z i k * mult x (Z i k)) (fun _ _ => rfl), Int.natCast_mul]
  rw [sumN_congr row, sumN_less, sumN_nat2 (a := fun k => colN Z n k * mult x (colN Z n k)) (fun _ _ => rfl), sumN_nat2 (a := fun k => sumA (fun i => Z i k * mult x (Z i k)) n) (fun _ _ => rfl)]
/-- The sides of FANO's inequality: S of N guesses are right, E are wrong. -/
theorem fano_sides {n C N S E : Nat} {T : Nat → Nat → Int} {Z : Nat → Nat → Nat} (hn : 1 < n) (h0 : 0 < N) (hN : N = allN Z n C) (hS : S = rightN Z n C) (hE : E = N - S) (hT : ∀ k, k < C → ∀ i, i < n → T k i = (Z i k : Int)) :
    ∃ U D : Nat, 0 < U ∧ 0 < D ∧ D ≤ U ∧ ∀ x : Nat, Pr x → ((E : Int) * multI (x : Int) N - (E : Int) * multI (x : Int) E) + ((S : Int) * multI (x : Int) N - (S : Int) * multI (x : Int) S) + (E : Int) * multI (x : Int) (n - 1) - sumN (givV (fun _ => n) T (x : Int)) C = (mult x U : Int) - (mult x D : Int) := by
  have hle : S ≤ N := by rw [hS, hN]; exact rightN_le Z n C
  have h2 : Pr 2 := ⟨by omega, fun d hd hdd => by have := Nat.mul_le_mul hd hd; omega⟩
  have p1 : ∀ k, k < C → ∀ i, i < n → 0 < Z i k → 0 < Z i k := fun _ _ _ _ h => h
  have p2 : ∀ k, k < C → 0 < colN Z n k → 0 < colN Z n k := fun _ _ h => h
  have u2 := (mult_prod2 h2 (a := fun k i => Z i k) (b := fun k i => Z i k) p1).2
  have d2 := (mult_prod1 h2 (a := colN Z n) (b := colN Z n) p2).2
  have hf := fano_guess Z n C N S hn hN hS
  rw [← hE] at hf
  have n1 : 0 < n - 1 := by omega
  refine ⟨_, _, Nat.mul_pos (Nat.mul_pos (Nat.pow_pos n1) (Nat.pow_pos h0)) u2, Nat.mul_pos d2 (Nat.mul_pos (self_pos S) (self_pos E)), hf, fun x hx => ?_⟩
  have e : ∀ m, multI (x : Int) m = (mult x m : Int) := fun m => by rw [multI_pr (by simpa using hx)]; simp
  rw [giv_nat hx hT, mult_mul hx _ _ (Nat.mul_pos (Nat.pow_pos n1) (Nat.pow_pos h0)) u2, mult_mul hx _ _ (Nat.pow_pos n1) (Nat.pow_pos h0), mult_mul hx _ _ d2 (Nat.mul_pos (self_pos S) (self_pos E)), mult_mul hx _ _ (self_pos S) (self_pos E), self_mult hx S, self_mult hx E, mult_power hx n1, mult_power hx h0, (mult_prod2 hx (a := fun k i => Z i k) (b := fun k i => Z i k) p1).1, (mult_prod1 hx (a := colN Z n) (b := colN Z n) p2).1]
  simp only [e, Int.natCast_add, Int.natCast_mul]
  have h4 : (N : Int) = (S : Int) + (E : Int) := by omega
  have h5 : (N : Int) * (mult x N : Int) = (S : Int) * (mult x N : Int) + (E : Int) * (mult x N : Int) := by rw [h4, Int.add_mul]
  omega
end Go.Proofs.YthfonahbjiobcaaDoor

/- The pieces of ChannelFano's right side, by their values over N. -/
namespace Go.Proofs.YthfonahbjiobcaaDoor
open Go.RowKit

theorem log2_f6 {k m : Nat} (h : 2 ^ k * 1 ≤ m) (h6 : m ≤ 1000000) : k ≤ 19 := by
  rcases Nat.lt_or_ge k 20 with h1 | h1
  · omega
  · have := Nat.pow_le_pow_right (show 0 < 2 by omega) h1
    omega
/-- Of a whole number, by its value. -/
theorem Of_lv (m : Nat) (w : World) (h1 : 1 ≤ m) (h6 : m ≤ 1000000) :
    Calls Tryd.prog 12 #[.agg #[.int .i64 (m : Int), .int .i64 1]] w fun e w' => ∃ v, e = .returned (.tuple #[.agg #[.int .i64 1, v], .nilIface]) ∧ LV w' 1 (fun x => multI x m) 40 1 v ∧ Below w.heap.size w w' := by
  have h : Calls Tryd.prog 12 #[.agg #[.int .i64 (m : Int), .int .i64 1]] w _ := Of_any m 1 w h1 h6 (Nat.le_refl _) (by decide)
  refine h.mono ?_
  rintro e w' ⟨v, t, rfl, hl, hi, hb⟩
  obtain ⟨k, j, h2, h3, h4⟩ := hi.len
  have k1 := log2_f6 h2 h6
  have j1 := log2_f6 h3 (by decide)
  exact ⟨v, rfl, ⟨1, t, rfl, hl, by omega, hi.ok (by omega) h6 (by decide) (by decide), fun x => by rw [hi.val, multI_one, Int.sub_zero]⟩, hb⟩
/-- A part of an entropy, over what both are times of. -/
theorem ent_times (x : Int) (g e n : Nat) (hg : 0 < g) (hn : 0 < n) : (g : Int) * ((e : Int) * multI x n - (e : Int) * multI x e) = ((g * e : Nat) : Int) * multI x (g * n) - ((g * e : Nat) : Int) * multI x (g * e) := by
  rcases Nat.eq_zero_or_pos e with h | h
  · subst h; simp
  · rw [multI_mul x hg hn, multI_mul x hg h, Int.natCast_mul]
    grind
/-- The right side of FANO's inequality: what the lowest terms of the chance to be wrong say, over N. -/
theorem fano_low (x : Int) (E N n g e d : Nat) (hg : 0 < g) (hd : 0 < d) (hE : E = g * e) (hN : N = g * d) (z : Nat → Int) (z0 : z 0 = (e : Int)) (z1 : z 1 = ((d - e : Nat) : Int)) :
    (g : Int) * (sumN (entV z d x) 2 + (e : Int) * multI x n) = ((E : Int) * multI x N - (E : Int) * multI x E) + (((N - E : Nat) : Int) * multI x N - ((N - E : Nat) : Int) * multI x (N - E)) + (E : Int) * multI x n := by
  have h1 : N - E = g * (d - e) := by rw [hE, hN, Nat.mul_sub]
  have h2 : sumN (entV z d x) 2 = ((e : Int) * multI x d - (e : Int) * multI x e) + (((d - e : Nat) : Int) * multI x d - ((d - e : Nat) : Int) * multI x (d - e)) := by
    simp only [sumN, entV, z0, z1, Int.toNat_natCast]
    omega
  have h3 := ent_times x g e d hg hd
  have h4 := ent_times x g (d - e) d hg hd
  rw [h2, Int.mul_add, Int.mul_add, h3, h4, h1, hE, hN]
  have h5 : ((g * e : Nat) : Int) * multI x n = (g : Int) * ((e : Int) * multI x n) := by rw [Int.natCast_mul, Int.mul_assoc]
  rw [h5]
end Go.Proofs.YthfonahbjiobcaaDoor

/- The law's helper sign, of two logarithms by their values. -/
namespace Go.Proofs.YthfonahbjiobcaaDoor
open Go.RowKit

set_option maxRecDepth 100000 in
set_option maxHeartbeats 2000000 in
theorem sign_lv {M L1 L2 : Nat} {f1 f2 : Int → Int} {d1 d2 : Int} {v1 v2 : Value} {U D : Nat} (a : Nat → Addr) (w : World) (hE : Errs w a) (h1 : LV w M f1 L1 d1 v1) (h2 : LV w M f2 L2 d2 v2) (hL : L1 + L2 ≤ 10000) (hM : 1 ≤ M) (hU : 0 < U) (hD : 0 < D) (hm : ∀ q : Nat, Pr q → f1 (q : Int) - f2 (q : Int) = (mult q U : Int) - (mult q D : Int)) (hle : D ≤ U) :
    Calls Tryd.prog 15 #[.agg #[.int .i64 d1, v1], .agg #[.int .i64 d2, v2]] w fun e w' => (∃ z : Int, 0 ≤ z ∧ e = .returned (.int .i64 z)) ∧ Below w.heap.size w w' := by
  obtain ⟨ad1, k1, cap1, rfl⟩ := h1.form
  obtain ⟨ad2, k2, cap2, rfl⟩ := h2.form
  obtain ⟨e1, t1, rfl, l1, n1, o1, w1'⟩ := h1
  obtain ⟨e2, t2, rfl, l2, n2, o2, w2'⟩ := h2
  obtain ⟨W0, hW0⟩ : ∃ W0, W0 = (w.alloc (.cells #[.int .i64 (e1 : Int), .slice ad1 k1 cap1] 38)).alloc (.cells #[.int .i64 (e2 : Int), .slice ad2 k2 cap2] 38) := ⟨_, rfl⟩
  have hb0 : Below w.heap.size w W0 := by rw [hW0]; exact below_chain (new_below _ _) (new_below _ _)
  have HC0 : Hid (∀ W, Below W0.heap.size W0 W → (W.cell? ⟨w.heap.size, 0, none⟩ = some (.int .i64 (e1 : Int)) ∧ W.cell? ⟨w.heap.size, 1, none⟩ = some (.slice ad1 k1 cap1)) ∧ (W.cell? ⟨w.heap.size + 1, 0, none⟩ = some (.int .i64 (e2 : Int)) ∧ W.cell? ⟨w.heap.size + 1, 1, none⟩ = some (.slice ad2 k2 cap2))) := fun W hb => by
    have hr := hb
    rw [hW0] at hr
    have r2 := res_past hr
    rw [World.size_alloc] at r2
    have r1 := res_past (w := w) (below_chain (new_below _ _) hr)
    exact ⟨⟨r1.1, r1.2.1⟩, r2.1, r2.2.1⟩
  have hsc := Scale_back (e2 : Int) (.slice ad2 k2 cap2) t2.length (pOf t2) (cOf t2) a W0 (hE.below hb0) (listAt_log (l2.later hb0)) o2 (by omega)
  obtain ⟨np, nc, nl⟩ := negL_parts t2
  have o2' : OkLog e2 (negL t2).length (pOf (negL t2)) (cOf (negL t2)) := by rw [np, nc, nl]; exact okLog_neg o2
  have HAD : Hid (∀ (W : World) (v : Value), Below W0.heap.size W0 W → OwnAt W v t2.length (pOf t2) (fun i => -cOf t2 i) → Calls Tryd.prog 14 #[.agg #[.int .i64 (e1 : Int), .slice ad1 k1 cap1], .agg #[.int .i64 (e2 : Int), v]] W fun e w' => ((∃ d t v, SumOk e1 e2 t1 (negL t2) d t ∧ e = .returned (.tuple #[.agg #[.int .i64 (d : Nat), v], .nilIface]) ∧ ListAt w' v t) ∨ ∃ ad, e = .returned (.tuple #[.agg #[.int .i64 0, .slice none 0 0], .iface 131 (.pointer (some ad))])) ∧ Below W.heap.size W w') := fun W v hb hv => by
    have hv' : ListAt W v (negL t2) := by unfold ListAt; rw [np, nc, nl]; exact hv
    refine (Add_all e1 e2 _ v t1 (negL t2) a W (hE.below (below_chain hb0 hb)) (listAt_log ((l1.later hb0).later hb)) (listAt_log hv') (by omega)).mono ?_
    rintro e w' ⟨h | ⟨_, h⟩, hb'⟩
    · exact ⟨Or.inl h, hb'⟩
    · exact ⟨Or.inr h, hb'⟩
  have HSG : Hid (∀ (W : World) (d : Nat) (t : List (Int × Int)) (v : Value), Below W0.heap.size W0 W → SumOk e1 e2 t1 (negL t2) d t → ListAt W v t → Calls Tryd.prog 40 #[.agg #[.int .i64 (d : Int), v]] W fun e w' => ((∃ z : Int, 0 ≤ z ∧ e = .returned (.tuple #[.int .i64 z, .nilIface])) ∨ ∃ ad, e = .returned (.tuple #[.int .i64 0, .iface 131 (.pointer (some ad))])) ∧ Below W.heap.size W w') := fun W d t v hb hs hl => by
    have hok := hs.ok
    have hval := hs.2.2.1.val
    have hlen := hs.2.2.1.len
    simp only [Int.toNat_natCast] at hval
    have hd : ∀ x, (M : Int) * atL t x = (d : Int) * (f1 x - f2 x) := fun x => by
      have h8 := hval x
      rw [negL_at] at h8
      have h9 := lv_add (f2 := -f2 x) (OkLog.canon (d := e1) o1).pos (OkLog.canon (d := e2) o2).pos (w1' x) (by rw [Int.mul_neg, w2' x, Int.mul_neg]) h8
      rw [h9, Int.sub_eq_add_neg]
    obtain ⟨s1, s2, s3⟩ := by_sides2 hok hd hU hD hm
    have hc := cmp_ge s1 hM s2 s3 hU hle
    by_cases hfit : cost (pOf t) (cOf t) t.length ≤ 40000
    · refine (Sign_log d v t.length (pOf t) (cOf t) a true true (by simpa using hok) (by simpa using hfit) W (hE.below (below_chain hb0 hb)) (listAt_log hl) (by omega)).mono ?_
      rintro e w' ⟨rfl, hb'⟩
      exact ⟨Or.inl ⟨_, hc, rfl⟩, hb'⟩
    · refine (Sign_log d v t.length (pOf t) (cOf t) a true false (by simpa using hok) (by simpa using hfit) W (hE.below (below_chain hb0 hb)) (listAt_log hl) (by omega)).mono ?_
      rintro e w' ⟨rfl, hb'⟩
      exact ⟨Or.inr ⟨_, rfl⟩, hb'⟩
  have HB0 := Hid.mk' hb0
  have HW0 := Hid.mk' hW0
  have c00 := HC0.out W0 (Below.refl _ _)
  obtain ⟨⟨x0, x1⟩, y0, y1⟩ := c00
  clear hE hb0 hW0 o1 o2 o2' l1 l2 w1' w2' hm hle np nc nl
  go_enter Tryd.func15, Tryd.ntmps15
  go_upto_region 1 with fail
  rw [← HW0.out]
  go_wp2_with fail
  refine hsc.mono ?_
  clear hsc x0 x1 y0 y1
  rintro e w1 ⟨v1, rfl, hv1, hb1⟩
  obtain ⟨ad3, k3, cap3, rfl⟩ := ownAt_slice hv1
  obtain ⟨W1, hW1⟩ : ∃ W1, W1 = w1.alloc (.cells #[.int .i64 (e2 : Int), .slice ad3 k3 cap3] 38) := ⟨_, rfl⟩
  have hb01 : Below W0.heap.size W0 W1 := by rw [hW1]; exact below_chain hb1 (new_below _ _)
  have hv1' : OwnAt W1 (.slice ad3 k3 cap3) t2.length (pOf t2) (fun i => -cOf t2 i) := by rw [hW1]; exact hv1.later (new_below _ _)
  have HC1 : Hid (∀ W, Below W1.heap.size W1 W → W.cell? ⟨w1.heap.size, 0, none⟩ = some (.int .i64 (e2 : Int)) ∧ W.cell? ⟨w1.heap.size, 1, none⟩ = some (.slice ad3 k3 cap3) ∧ W.frozen? ⟨w1.heap.size, 0, none⟩ = false ∧ W.frozen? ⟨w1.heap.size, 1, none⟩ = false) := fun W hb => by
    rw [hW1] at hb
    exact res_past hb
  have hB1 : W0.heap.size ≤ w1.heap.size := hb1.size
  have had := HAD.out W1 _ hb01 hv1'
  obtain ⟨⟨x0, x1⟩, _, _⟩ := HC0.out W1 hb01
  obtain ⟨y0, y1, _, _⟩ := HC1.out W1 (Below.refl _ _)
  have HW1 := Hid.mk' hW1
  have HB01 := Hid.mk' hb01
  clear hv1 hb1 hv1' hb01 hW1 HAD
  go_upto_region 2 with fail
  rw [← HW1.out]
  clear HW1
  go_wp2_with fail
  refine had.mono ?_
  clear had x0 x1 y0 y1
  rintro e w2 ⟨⟨d, t, v2, hs, rfl, hl2⟩ | ⟨ad, rfl⟩, hb2⟩
  · obtain ⟨ad4, k4, cap4, rfl⟩ := ownAt_slice hl2
    obtain ⟨z0, z1, f0, f1⟩ := HC1.out w2 hb2
    obtain ⟨W2, hW2⟩ : ∃ W2, W2 = (w2.setCell ⟨w1.heap.size, 0, none⟩ (.int .i64 (d : Int))).setCell ⟨w1.heap.size, 1, none⟩ (.slice ad4 k4 cap4) := ⟨_, rfl⟩
    have hb02 : Below W0.heap.size W0 W2 := by rw [hW2]; exact ((below_chain HB01.out hb2).setCell hB1 _).setCell hB1 _
    have hl2' : ListAt W2 (.slice ad4 k4 cap4) t := by rw [hW2]; exact ownAt_put hl2 z1
    have q0 : W2.cell? ⟨w1.heap.size, 0, none⟩ = some (.int .i64 (d : Int)) := by
      rw [hW2, World.cell?_setCell_other _ _ _ _ (by simp)]
      exact World.cell?_setCell_same _ _ _ z0
    have q1 : W2.cell? ⟨w1.heap.size, 1, none⟩ = some (.slice ad4 k4 cap4) := by
      rw [hW2]
      exact World.cell?_setCell_same _ _ _ (by rw [World.cell?_setCell_other _ _ _ _ (by simp)]; exact z1)
    have hsg := HSG.out W2 d t _ hb02 hs hl2'
    have HB2 := Hid.mk' (below_chain HB0.out hb02)
    have HW2 := Hid.mk' hW2
    clear hs hl2 hb2 hb02 hl2' hW2 HSG HC0
    go_upto_region 5 with fail
    rw [← HW2.out]
    clear HW2 z0 z1 f0 f1
    go_wp2_with fail
    refine hsg.mono ?_
    clear hsg
    rintro e w3 ⟨⟨z, hz, rfl⟩ | ⟨ad, rfl⟩, hb3⟩
    · have HB3 := Hid.mk' (below_chain HB2.out hb3)
      clear hb3
      go_wp2_with fail
      go_ret
      exact ⟨⟨z, hz, rfl⟩, HB3.out⟩
    · have HB3 := Hid.mk' (below_chain HB2.out hb3)
      clear hb3
      go_wp2_with fail
      go_ret
      exact ⟨⟨2, by omega, rfl⟩, HB3.out⟩
  · obtain ⟨z0, z1, f0, f1⟩ := HC1.out w2 hb2
    have HB2 := Hid.mk' (below_chain (below_chain HB0.out HB01.out) hb2)
    have hB1' : w.heap.size ≤ w1.heap.size := by have := HB0.out.size; omega
    clear hb2 HSG HC0
    go_wp2_with fail
    go_ret
    exact ⟨⟨2, by omega, rfl⟩, (HB2.out.setCell hB1' _).setCell hB1' _⟩
end Go.Proofs.YthfonahbjiobcaaDoor

/- Sums of what is told of a table: the chain rule; logs.Add and SameLog of what is told of sums. -/
namespace Go.Proofs.YthfonahbjiobcaaDoor
open Go.RowKit

theorem ent_primW {z : Nat → Int} {n N : Nat} (h : OkW z n) (hn : n ≤ 256) (hN : 1 ≤ N ∧ N ≤ 4096) : Prim fun x => sumN (entV z N x) n := by
  refine ⟨fun x => ent_bound (fun i hi => h.lt hi) hN.2 hn x, ?_⟩
  refine supp_sum (F := fun i x => entV z N x i) fun i hi => ?_
  have hc := h.lt hi
  exact (supp_term _ N (fun _ => hN)).sub (supp_term _ _ (fun h0 => by omega))
theorem ent_rows {R N : Nat} {ns : Nat → Nat} {zs : Nat → Nat → Int} (h : OkT R ns zs N) (x : Int) : sumN (entV (rowSum ns zs) N x) R = sumN (fun i => sumN (fun j => zs i j * (multI x N - multI x (rowSum ns zs i).toNat)) (ns 0)) R := by
  refine sumN_congr fun i hi => ?_
  rw [sumN_times]
  unfold entV
  have e : sumN (fun j => zs i j) (ns 0) = rowSum ns zs i := by unfold rowSum; rw [h.even i hi]
  rw [e, Int.mul_sub]
theorem ent_flat {R N n : Nat} {ns : Nat → Nat} {zs : Nat → Nat → Int} {L : List Int} (h : OkT R ns zs N) (hL : L = flatL ns zs R) (hn : L.length = n) (x : Int) : sumN (entV (atF L) N x) n = sumN (fun i => sumN (fun j => zs i j * multI x N - zs i j * multI x (zs i j).toNat) (ns 0)) R := by
  have h1 := sumN_map (fun z => z * multI x N - z * multI x z.toNat) L
  rw [hL, lsum_flat, ← hL, hn] at h1
  show sumN (fun i => atF L i * multI x N - atF L i * multI x (atF L i).toNat) n = _
  rw [h1]
  exact sumN_congr fun i hi => by rw [h.even i hi]
/-- The chain rule, by places. -/
theorem chain_one {R N n : Nat} {ns : Nat → Nat} {zs : Nat → Nat → Int} {L : List Int} (h : OkT R ns zs N) (hL : L = flatL ns zs R) (hn : L.length = n) (x : Int) : sumN (entV (rowSum ns zs) N x) R + sumN (givV ns zs x) R = sumN (entV (atF L) N x) n := by
  rw [ent_flat h hL hn, ent_rows h, ← sumN_plus]
  refine sumN_congr fun i hi => ?_
  unfold givV
  rw [h.even i hi, ← sumN_plus]
  refine sumN_congr fun j _ => ?_
  unfold entV rowSum
  rw [h.even i hi]
  grind
theorem chain_two {R N n : Nat} {ns : Nat → Nat} {zs : Nat → Nat → Int} {L : List Int} (h : OkT R ns zs N) (hL : L = flatL ns zs R) (hn : L.length = n) (x : Int) : sumN (entV (rowSum ns zs) N x) R + sumN (entV (colV zs R) N x) (ns 0) = sumN (fun i => sumN (mutV (zs i) (rowSum ns zs i) (colV zs R) N x) (ns 0)) R + sumN (entV (atF L) N x) n := by
  rw [ent_flat h hL hn, ent_rows h, ent_cols, ← sumN_plus, ← sumN_plus]
  refine sumN_congr fun i _ => ?_
  rw [← sumN_plus, ← sumN_plus]
  refine sumN_congr fun j _ => ?_
  unfold mutV
  grind
theorem chain_turned {R N : Nat} {ns : Nat → Nat} {zs : Nat → Nat → Int} (h : OkT R ns zs N) (x : Int) : sumN (fun i => sumN (mutV (zs i) (rowSum ns zs i) (colV zs R) N x) (ns 0)) R = sumN (fun j => sumN (mutV (fun i => zs i j) (rowSum (fun _ => R) (fun j i => zs i j) j) (colV (fun j i => zs i j) (ns 0)) N x) R) (ns 0) := by
  rw [sumN_swap]
  refine sumN_congr fun j _ => sumN_congr fun i hi => ?_
  have e1 : colV (fun j i => zs i j) (ns 0) i = rowSum ns zs i := by unfold colV rowSum; rw [h.even i hi]
  have e2 : rowSum (fun _ => R) (fun j i => zs i j) j = colV zs R j := rfl
  unfold mutV
  rw [e1, e2]
  grind
/-- The table turned over is right, too. -/
theorem okT_turned {R N : Nat} {ns : Nat → Nat} {zs : Nat → Nat → Int} (h : OkT R ns zs N) : OkT (ns 0) (fun _ => R) (fun j i => zs i j) N := by
  refine ⟨h.c0, h.c16, h.r0, h.r16, fun _ _ => rfl, fun j hj i hi => h.nn i hi j (by rw [h.even i hi]; exact hj), ?_, h.n1, h.n6⟩
  have h2 := h.tot
  have h3 : sumN (fun i => sumN (zs i) (ns i)) R = sumN (fun i => sumN (fun j => zs i j) (ns 0)) R := sumN_congr fun i hi => by rw [h.even i hi]
  rw [h3, sumN_swap] at h2
  exact h2
/-- A logarithm in its form, of a sum over M. -/
def FormBy (W : World) (M : Nat) (F : Int → Int) (d : Int) (v : Value) : Prop := ∃ (t : List (Int × Int)) (n : Nat), d = (n : Int) ∧ ListAt W v t ∧ Canon n t ∧ (∀ x, (M : Int) * atL t x = (n : Int) * F x) ∧ t.length ≤ 10000
theorem FormBy.later {W W' : World} {M : Nat} {F : Int → Int} {d : Int} {v : Value} (h : FormBy W M F d v) (hb : Below W.heap.size W W') : FormBy W' M F d v := by
  obtain ⟨t, n, h1, h2, h3⟩ := h
  exact ⟨t, n, h1, h2.later hb, h3⟩
theorem FormBy.slice {W : World} {M : Nat} {F : Int → Int} {d : Int} {v : Value} (h : FormBy W M F d v) : ∃ ad n cap, v = .slice ad n cap := by
  obtain ⟨t, n, _, h2, _⟩ := h
  exact ownAt_slice h2
theorem LogBy.formed {base M : Nat} {f : Int → Int} {w : World} {dn : Int} {v : Value} (h : LogBy base M f w dn v) (hM : 1 ≤ M) (hM6 : M ≤ 1000000) (hf : Prim f) : FormBy w M f dn v := by
  obtain ⟨t, d, G, rfl, hl, hn, hMG, hG, hv, hok⟩ := h.ok hM hM6 hf
  refine ⟨t, d, rfl, hl, hok.canon, fun x => ?_, by omega⟩
  rw [hv x, hMG]
  simp only [Int.natCast_mul]
  grind
theorem atL_over_any (F : Int → Int) : ∀ (t : List (Int × Int)) (x : Int), (∀ e ∈ t, e.1 ≠ x) ∧ atL (t.map fun e => (e.1, F e.1)) x = 0 ∨ atL (t.map fun e => (e.1, F e.1)) x = F x
  | [], x => Or.inl ⟨(fun e he => by cases he), rfl⟩
  | e :: r, x => by
    simp only [List.map_cons, atL]
    by_cases h : e.1 = x
    · refine Or.inr ?_
      simp [h]
    · rcases atL_over_any F r x with ⟨h1, h2⟩ | h1
      · refine Or.inl ⟨fun f hf => ?_, by simp [h, h2]⟩
        rcases List.mem_cons.1 hf with rfl | hf
        · exact h
        · exact h1 f hf
      · refine Or.inr ?_
        simp [h, h1]
/-- logs.Add of two that are told of sums over one number: it is in form. -/
theorem Add_by {M b1 b2 : Nat} {f1 f2 : Int → Int} {d1 d2 : Int} {v1 v2 : Value} (a : Nat → Addr) (w : World) (hE : Errs w a) (h1 : LogBy b1 M f1 w d1 v1) (h2 : LogBy b2 M f2 w d2 v2) (hM : 1 ≤ M) (hM6 : M ≤ 1000000) (p1 : Prim f1) (p2 : Prim f2) :
    Calls Tryd.prog 14 #[.agg #[.int .i64 d1, v1], .agg #[.int .i64 d2, v2]] w fun e w' => ∃ d v, e = .returned (.tuple #[.agg #[.int .i64 d, v], .nilIface]) ∧ FormBy w' M (fun x => f1 x + f2 x) d v ∧ Below w.heap.size w w' := by
  obtain ⟨t1, e1, G1, rfl, l1, n1, m1, g1, w1', o1⟩ := h1.ok hM hM6 p1
  obtain ⟨t2, e2, G2, rfl, l2, n2, m2, g2, w2', o2⟩ := h2.ok hM hM6 p2
  have q1 := listAt_log l1
  have q2 := listAt_log l2
  obtain ⟨ad1, cap1, rfl⟩ := q1.slice
  obtain ⟨ad2, cap2, rfl⟩ := q2.slice
  have pa : 0 < e1 := by have := o1.1; omega
  have pb : 0 < e2 := by have := o2.1; omega
  refine (Add_any e1 e2 ad1 ad2 cap1 cap2 t1 t2 a w hE q1 q2 o1 o2 (by omega) _ rfl).mono ?_
  rintro e w' ⟨⟨l, G, hr, hv, hG, hlen, hres⟩, hb⟩
  obtain ⟨s1, s2, s3, s4⟩ := sum_value rfl pa pb hr hv hG
  obtain ⟨t, ht⟩ : ∃ t, t = overL G l := ⟨_, rfl⟩
  obtain ⟨d, hd⟩ : ∃ d, d = e1 / Int.gcd (e1 : Int) (e2 : Int) * e2 / G := ⟨_, rfl⟩
  have hlt := length_over l G
  rw [← hd] at s1 s2 s3 s4
  rw [← ht] at s1 s3 s4 hlt
  have hval : ∀ x, (M : Int) * atL t x = (d : Int) * (f1 x + f2 x) := fun x => by
    have hx := s3 x
    rw [w1' x, w2' x]
    have k1 : (M : Int) = (G1 : Int) * (e1 : Int) := by rw [m1]; simp
    have k2 : (M : Int) = (G2 : Int) * (e2 : Int) := by rw [m2]; simp
    generalize atL t x = T at *
    generalize atL t1 x = A at *
    generalize atL t2 x = B at *
    refine Int.eq_of_mul_eq_mul_left (show (M : Int) ≠ 0 by omega) ?_
    have c1 : (M : Int) * ((M : Int) * T) = (G1 : Int) * (G2 : Int) * (T * ((e1 : Int) * (e2 : Int))) := by
      calc (M : Int) * ((M : Int) * T) = ((G1 : Int) * (e1 : Int)) * (((G2 : Int) * (e2 : Int)) * T) := by rw [← k1, ← k2]
        _ = _ := by grind
    rw [c1, hx]
    have c2 : (M : Int) * ((d : Int) * ((G1 : Int) * A + (G2 : Int) * B)) = (d : Int) * ((G1 : Int) * A * (M : Int) + (G2 : Int) * B * (M : Int)) := by grind
    rw [c2]
    have c3 : (G1 : Int) * A * (M : Int) = (G1 : Int) * A * ((G2 : Int) * (e2 : Int)) := by rw [← k2]
    have c4 : (G2 : Int) * B * (M : Int) = (G2 : Int) * B * ((G1 : Int) * (e1 : Int)) := by rw [← k1]
    rw [c3, c4]
    grind
  have hd0 : 0 < d := s1.pos
  have hdM : d ∣ M := canon_dvd (t' := t.map fun e => (e.1, f1 e.1 + f2 e.1)) s1 (fun x => by
    have hx := hval x
    rcases atL_over_any (fun y => f1 y + f2 y) t x with ⟨h3, h4⟩ | h4
    · rw [h4, atL_none h3]; simp
    · rw [h4]
      grind)
  obtain ⟨c, hc⟩ := hdM
  have hfit : d ≤ 1000000 ∧ ∀ e ∈ t, e.2.natAbs ≤ 1099511627776 := by
    refine ⟨Nat.le_trans (Nat.le_of_dvd hM ⟨c, hc⟩) hM6, fun e he => ?_⟩
    have hx := hval e.1
    rw [atL_mem s1.rise he] at hx
    have b1 := p1.le e.1
    have b2 := p2.le e.1
    have hc0 : 0 < c := by
      rcases Nat.eq_zero_or_pos c with h0 | h0
      · rw [h0] at hc; omega
      · exact h0
    have h5 : (c : Int) * e.2 = f1 e.1 + f2 e.1 := by
      refine Int.eq_of_mul_eq_mul_left (show (d : Int) ≠ 0 by omega) ?_
      rw [← hx, hc]
      simp only [Int.natCast_mul]
      grind
    have h6 : e.2.natAbs ≤ (f1 e.1 + f2 e.1).natAbs := by
      rw [← h5, Int.natAbs_mul, Int.natAbs_natCast]
      exact Nat.le_mul_of_pos_left _ hc0
    omega
  rcases hres with ⟨_, v, rfl, hlist⟩ | ⟨hf, _⟩
  · rw [← ht] at hlist
    exact ⟨_, v, by rw [s2], ⟨t, d, rfl, hlist, s1, hval, by omega⟩, hb⟩
  · exact absurd (s4.2 hfit) hf
end Go.Proofs.YthfonahbjiobcaaDoor

/- dist.Rows and dist.Columns. -/
namespace Go.Proofs.YthfonahbjiobcaaDoor
open Go.RowKit

end Go.Proofs.YthfonahbjiobcaaDoor

/- The law DistChainRule. -/
namespace Go.Proofs.YthfonahbjiobcaaDoor
open Go.RowKit

theorem wErr_of {z : Nat → Int} {n : Nat} (hn : n ≤ 16) (h : OkW z n) : weightsErr z n = 0 := by
  unfold weightsErr listErr
  rw [if_neg (by omega)]
  have h1 : ¬ (negB z n = true ∨ someB z n = false) := by
    rintro (h1 | h1)
    · obtain ⟨i, hi, hz⟩ := (negB_iff z n).1 h1
      have := h.nn i hi
      omega
    · have h2 : ∀ i, i < n → z i = 0 := fun i hi => by
        have := h.nn i hi
        rcases Int.lt_or_le 0 (z i) with h3 | h3
        · have := (someB_iff z n).2 ⟨i, hi, h3⟩
          rw [h1] at this
          cases this
        · omega
      have h3 : sumN z n = 0 := by
        rw [sumN_congr h2]
        exact sumN_zero n
      have := h.pos
      omega
  rw [if_neg h1, if_neg (by have := h.le; omega)]
theorem colW {R N : Nat} {ns : Nat → Nat} {zs : Nat → Nat → Int} (h : OkT R ns zs N) : OkW (colV zs R) (ns 0) ∧ sumN (colV zs R) (ns 0) = N := by
  have h1 : sumN (colV zs R) (ns 0) = N := (okT_turned h).tot
  have := h.n1
  have := h.n6
  exact ⟨⟨fun j hj => (h.col (Nat.le_refl R) hj).1, by omega, by omega⟩, h1⟩
theorem rowW {R N : Nat} {ns : Nat → Nat} {zs : Nat → Nat → Int} (h : OkT R ns zs N) : OkW (rowSum ns zs) R ∧ sumN (rowSum ns zs) R = N := by
  have h1 : sumN (rowSum ns zs) R = N := h.tot
  have := h.n1
  have := h.n6
  exact ⟨⟨fun i hi => (h.row hi).1, by omega, by omega⟩, h1⟩
theorem longB_some {ns : Nat → Nat} : ∀ {n : Nat}, longB ns n = true → ∃ i, i < n ∧ 16 < ns i
  | 0, h => by cases h
  | n + 1, h => by
    unfold longB at h
    rcases Bool.or_eq_true _ _ ▸ h with h1 | h1
    · obtain ⟨i, hi, h2⟩ := longB_some h1
      exact ⟨i, by omega, h2⟩
    · exact ⟨n, by omega, by simpa using h1⟩
theorem unevenB_some {ns : Nat → Nat} : ∀ {n : Nat}, unevenB ns n = true → ∃ i, i < n ∧ ns i ≠ ns 0
  | 0, h => by cases h
  | n + 1, h => by
    unfold unevenB at h
    rcases Bool.or_eq_true _ _ ▸ h with h1 | h1
    · obtain ⟨i, hi, h2⟩ := unevenB_some h1
      exact ⟨i, by omega, h2⟩
    · exact ⟨n, by omega, by simpa using h1⟩
theorem flat_nonneg {ns : Nat → Nat} {zs : Nat → Nat → Int} : ∀ {R : Nat}, (∀ i, i < R → ∀ j, j < ns i → 0 ≤ zs i j) → ∀ x ∈ flatL ns zs R, 0 ≤ x
  | 0, _, x, hx => by simp [flatL] at hx
  | R + 1, h, x, hx => by
    simp only [flatL, List.mem_append] at hx
    rcases hx with hx | hx
    · exact flat_nonneg (fun i hi => h i (by omega)) x hx
    · simp only [rowL, List.mem_map, List.mem_range] at hx
      obtain ⟨j, hj, rfl⟩ := hx
      exact h R (by omega) j hj
theorem sumT_const (R : Nat) : ∀ C, sumT (fun _ => R) C = C * R
  | 0 => by simp [sumT]
  | C + 1 => by
    simp only [sumT]
    rw [sumT_const R C, Nat.succ_mul]
theorem tabErr_turned {R N : Nat} {ns : Nat → Nat} {zs : Nat → Nat → Int} (h : OkT R ns zs N) : tabErr R ns zs = 0 := by
  have hL : OkW (atF (flatL ns zs R)) (flatL ns zs R).length := by
    have h1 := sumN_map (fun z => z) (flatL ns zs R)
    rw [lsum_flat] at h1
    have h2 : sumN (atF (flatL ns zs R)) (flatL ns zs R).length = N := by
      have h3 := h.tot
      rw [← h3]
      exact h1
    have := h.n1
    have := h.n6
    refine ⟨fun i hi => ?_, by omega, by omega⟩
    have hm : atF (flatL ns zs R) i ∈ flatL ns zs R := by
      unfold atF
      rw [List.getD_eq_getElem?_getD, List.getElem?_eq_getElem hi]
      exact List.getElem_mem hi
    exact flat_nonneg (fun i hi j hj => h.nn i hi j hj) _ hm
  unfold tabErr
  rw [if_neg (by have := h.r16; omega)]
  have hl : ¬ longB ns R = true := fun e => by
    obtain ⟨i, hi, h1⟩ := longB_some e
    have := h.even i hi
    have := h.c16
    omega
  have hu : ¬ unevenB ns R = true := fun e => by
    obtain ⟨i, hi, h1⟩ := unevenB_some e
    exact h1 (h.even i hi)
  rw [if_neg hl, if_neg hu]
  have h3 := hL
  unfold listErr
  have h4 : ¬ (negB (atF (flatL ns zs R)) (flatL ns zs R).length = true ∨ someB (atF (flatL ns zs R)) (flatL ns zs R).length = false) := by
    rintro (h1 | h1)
    · obtain ⟨i, hi, hz⟩ := (negB_iff _ _).1 h1
      have := h3.nn i hi
      omega
    · have h2 : ∀ i, i < (flatL ns zs R).length → atF (flatL ns zs R) i = 0 := fun i hi => by
        have := h3.nn i hi
        rcases Int.lt_or_le 0 (atF (flatL ns zs R) i) with h5 | h5
        · have := (someB_iff _ _).2 ⟨i, hi, h5⟩
          rw [h1] at this
          cases this
        · omega
      have h5 : sumN (atF (flatL ns zs R)) (flatL ns zs R).length = 0 := by
        rw [sumN_congr h2]
        exact sumN_zero _
      have := h3.pos
      omega
  rw [if_neg h4, if_neg (by have := h3.le; omega)]
/-- A variable that holds what is told of a sum. -/
structure CBox (W : World) (B : Nat) (d : Int) (ad : Option Addr) (n cap base N : Nat) (f : Int → Int) : Prop where
  c0 : W.cell? ⟨B, 0, none⟩ = some (.int .i64 d)
  c1 : W.cell? ⟨B, 1, none⟩ = some (.slice ad n cap)
  log : LogBy base N f W d (.slice ad n cap)
theorem CBox.later {W W' : World} {B : Nat} {d : Int} {ad : Option Addr} {n cap base N : Nat} {f : Int → Int} (h : CBox W B d ad n cap base N f) (hb : Below W.heap.size W W') : CBox W' B d ad n cap base N f :=
  ⟨(cell_past h.c0 hb).2, (cell_past h.c1 hb).2, h.log.later hb⟩
theorem cBox_new {w : World} {d : Int} {ad : Option Addr} {n cap base N : Nat} {f : Int → Int} (h : LogBy base N f w d (.slice ad n cap)) : CBox (w.alloc (.cells #[.int .i64 d, .slice ad n cap] 38)) w.heap.size d ad n cap base N f :=
  ⟨by simp, by simp, h.later (new_below _ _)⟩
structure GBox (W : World) (B : Nat) (d : Int) (ad : Option Addr) (n cap N : Nat) (f : Int → Int) : Prop where
  c0 : W.cell? ⟨B, 0, none⟩ = some (.int .i64 d)
  c1 : W.cell? ⟨B, 1, none⟩ = some (.slice ad n cap)
  form : FormBy W N f d (.slice ad n cap)
theorem GBox.later {W W' : World} {B : Nat} {d : Int} {ad : Option Addr} {n cap N : Nat} {f : Int → Int} (h : GBox W B d ad n cap N f) (hb : Below W.heap.size W W') : GBox W' B d ad n cap N f :=
  ⟨(cell_past h.c0 hb).2, (cell_past h.c1 hb).2, h.form.later hb⟩
theorem gBox_new {w : World} {d : Int} {ad : Option Addr} {n cap N : Nat} {f : Int → Int} (h : FormBy w N f d (.slice ad n cap)) : GBox (w.alloc (.cells #[.int .i64 d, .slice ad n cap] 38)) w.heap.size d ad n cap N f :=
  ⟨by simp, by simp, h.later (new_below _ _)⟩

end Go.Proofs.YthfonahbjiobcaaDoor

/- A list of fractions of any size in memory, as it grows: no whole number lies in its own block, so what is appended turns no digit. -/
namespace Go.Proofs.YthfonahbjiobcaaDoor
open Go.RowKit

def notI (v : Value) : Prop := ∀ x, v ≠ .int .i64 x
/-- Where a block's cells are none of them whole numbers. -/
theorem noInts_of_block {w : World} {g : Nat} {cs : Array Value} {t : TypeId} {q : Nat × Nat} (hg : w.heap[g]? = some (.cells cs t q)) (h : ∀ u, u ∈ cs.toList → notI u) : NoInts w g := fun j x e => by
  have e2 : cs[j]? = some (.int .i64 x) := by simpa [World.cell?, hg] using e
  exact h _ (Array.mem_toList_iff.mpr (Array.mem_of_getElem? e2)) x rfl
theorem zero_notI {z : Value} (hz : ∀ u, u ∈ z.cells.toList → notI u) (k : Nat) : ∀ u, u ∈ (Builtin.zeroCells z.cells k).toList → notI u := fun u hu => by
  obtain ⟨j, hj⟩ := List.getElem?_of_mem hu
  simp only [Builtin.zeroCells, Array.getElem?_toList] at hj
  have hu2 := Array.mem_of_getElem? hj
  simp only [Array.mem_map] at hu2
  obtain ⟨i, hi, rfl⟩ := hu2
  refine hz _ ?_
  have hlt : i < k * z.cells.size := by simpa using hi
  have hs : 0 < z.cells.size := by
    rcases Nat.eq_zero_or_pos z.cells.size with h | h
    · rw [h, Nat.mul_zero] at hlt; omega
    · exact h
  have hm := Nat.mod_lt i hs
  rw [getElem!_pos z.cells _ hm]
  exact Array.mem_toList_iff.mpr (Array.getElem_mem hm)
theorem row_notI {w : World} {base : Nat} {e : TypeId} {size : Nat} {n cap g : Nat} {xs : List Value} (h : w.ownsRow base e size (.slice (some ⟨g, 0, none⟩) n cap) n xs) (hcl : NoInts w g) : ∀ u, u ∈ xs → notI u := fun u hu x e => by
  obtain ⟨j, hj⟩ := List.getElem?_of_mem hu
  have hc := h.cells (g := g) rfl j u hj
  rw [add_plain, Nat.zero_add, e] at hc
  exact hcl j x hc
/-- An append onto a block without whole numbers leaves one. -/
theorem append_clean {P : Program} (w : World) {t ty : TypeId} {base : Nat} {e : TypeId} {i : TypeInfo} {z : Value} {size bytes : Nat} (ht : P.underlying t = some (.slice e)) (hi : P.info? e = some i) (hz : i.zero = some z)
    (hsize : i.size = size) (hby : i.bytes = bytes) {v : Value} {n : Nat} {xs : List Value} (hown : w.ownsRow base e size v n xs)
    {ad : Addr} {m c : Nat} {news : List Value} (hl : news.length = m * size) (hnews : ∀ j u, news[j]? = some u → w.cell? (ad.add j) = some u) (h1 : ∀ u ∈ news, u.oneCell' = true)
    (hm : 0 < m) (h63 : n + m ≤ maxLen) (hbytes : (n + m) * bytes ≤ 140737488355328) (hz0 : ∀ u, u ∈ z.cells.toList → notI u) (hnw : ∀ u, u ∈ news → notI u) (hcl : ∀ g, v.ownBlock = some g → NoInts w g)
    {g cap : Nat} {w' : World} (hr : (Builtin.append_ #[t, t] ty #[v, .slice (some ad) m c]).run P w = .ok (.slice (some ⟨g, 0, none⟩) (n + m) cap) w') : NoInts w' g := by
  subst hsize
  subst hby
  unfold maxLen at h63
  have hnew : ∀ (cs : Array Value), (∀ u, u ∈ cs.toList → notI u) → NoInts (w.drew.alloc (.cells cs e)) w.heap.size := fun cs hcs => noInts_of_block (heap_alloc_new w.drew _) hcs
  rcases hown.2 with ⟨rfl, rfl⟩ | ⟨g0, cap0, cur, rfl, hbg, hg, hnc, hcm, hcs, htake⟩
  · have hr2 := run_append_nil (P := P) w t ty e i z ht hi hz ad m c news hl hnews hm (by omega) (by rw [Nat.zero_add] at hbytes; omega)
    rw [hr] at hr2
    simp only [Result.ok.injEq, Value.slice.injEq, Option.some.injEq, Addr.mk.injEq, and_true] at hr2
    obtain ⟨⟨rfl, _⟩, rfl⟩ := hr2
    refine hnew _ fun u hu => ?_
    rw [Array.toList_append] at hu
    rcases List.mem_append.mp hu with h | h
    · exact hnw u (by simpa using h)
    · exact zero_notI hz0 _ u h
  · have hc0 := hcl g0 rfl
    by_cases hroom : n + m ≤ cap0
    · have hfit : n * i.size + news.length ≤ cur.size := by rw [hl, hcs, ← Nat.add_mul]; exact Nat.mul_le_mul_right _ hroom
      have hr2 := run_append_room (P := P) w t ty e i ht hi g0 n cap0 cur hg ad m c news hl hnews h1 hroom hfit
      rw [hr] at hr2
      simp only [Result.ok.injEq, Value.slice.injEq, Option.some.injEq, Addr.mk.injEq, and_true, true_and] at hr2
      obtain ⟨⟨rfl, _⟩, rfl⟩ := hr2
      have hcur : ∀ u, u ∈ cur.toList → notI u := fun u hu x e2 => by
        obtain ⟨j, hj⟩ := List.getElem?_of_mem hu
        refine hc0 j x ?_
        rw [Array.getElem?_toList, e2] at hj
        simp [World.cell?, hg, hj]
      refine noInts_of_block (setRow_heap w g cur _ e _ hg) fun u hu => ?_
      simp only [List.append_assoc, List.mem_append] at hu
      rcases hu with h | h | h
      · exact hcur u (List.mem_of_mem_take h)
      · exact hnw u h
      · exact hcur u (List.mem_of_mem_drop h)
    · have hr2 := run_append_grow (P := P) w t ty e i z ht hi hz ⟨g0, 0, none⟩ n cap0 xs hown.1 (hown.cells (g := g0) rfl) ad m c news hl hnews (by omega) (by omega) (growslice_fits (by omega) hbytes)
      rw [hr] at hr2
      simp only [Result.ok.injEq, Value.slice.injEq, Option.some.injEq, Addr.mk.injEq, and_true, true_and] at hr2
      obtain ⟨⟨rfl, _⟩, rfl⟩ := hr2
      refine hnew _ fun u hu => ?_
      simp only [Array.toList_append, List.append_assoc, List.mem_append] at hu
      rcases hu with h | h | h
      · exact row_notI hown hc0 u h
      · exact hnw u h
      · exact zero_notI hz0 _ u h
/-- The same at a step of a region that draws its order. -/
theorem step_append_clean {P : Program} (w : World) {ops : Array Oper} {o : Oper} {a : Act} {K : Act → World → Prop} {Q : Exit → Act → World → Prop} {E : Prop} (hgd : o.guard = none) (s x : Operand) (t : TypeId)
    (ho : o.op = .call { callee := .builtin .append, args := #[s, x], argTypes := #[t, t] })
    (base : Nat) (e : TypeId) (i : TypeInfo) (z : Value) (size bytes : Nat) (ht : P.underlying t = some (.slice e)) (hI : P.info? e = some i ∧ i.zero = some z ∧ i.size = size ∧ i.bytes = bytes) (hzs : z.cells.size = size) (hsz : 0 < size)
    (v : Value) (n : Nat) (xs : List Value) (hs : a.eval s = v) (hown : w.ownsRow base e size v n xs)
    (ad : Addr) (m c : Nat) (news : List Value) (hx : a.eval x = .slice (some ad) m c) (hl : news.length = m * size) (hnews : ∀ j u, news[j]? = some u → w.cell? (ad.add j) = some u) (h1 : ∀ u ∈ news, u.oneCell' = true)
    (hm : 0 < m) (hN : n + m ≤ 100000) (hB : bytes ≤ 1000) (hbase : base ≤ w.heap.size) (hz0 : ∀ u, u ∈ z.cells.toList → notI u) (hnw : ∀ u, u ∈ news → notI u) (hcl : ∀ g, v.ownBlock = some g → NoInts w g)
    (h : ∀ g cap w', w'.ownsRow base e size (.slice (some ⟨g, 0, none⟩) (n + m) cap) (n + m) (xs ++ news) → w.grownBy w' v.ownBlock → NoInts w' g → K (a.put o.dst (.slice (some ⟨g, 0, none⟩) (n + m) cap)) w') :
    if Region.wanted o (yielded ops a.tmps) = true then Oper.wp P o a w K Q else E := by
  obtain ⟨hi, hz, hsize, hby⟩ := hI
  have h63 : n + m ≤ maxLen := by unfold maxLen; omega
  have hbytes : (n + m) * bytes ≤ 140737488355328 := Nat.le_trans (Nat.mul_le_mul hN hB) (by decide)
  obtain ⟨g, cap, w', hr, h2, h3, _, _⟩ := run_append_lies (P := P) w t o.type base e i z size bytes ht hi hz hsize hby hzs hsz v n xs hown ad m c news hl hnews h1 hm h63 hbytes hbase _ rfl
  have hC := append_clean w ht hi hz hsize hby hown hl hnews h1 hm h63 hbytes hz0 hnw hcl hr
  have hw : Region.wanted o (yielded ops a.tmps) = true := by simp [Region.wanted, hgd]
  rw [if_pos hw]
  unfold Oper.wp
  simp [execOp, ho, resolve, invoke, builtin, hs, hx, hr, Result.andThen]
  exact h g cap w' h2 h3 hC

/-- The cells of fractions from 0 on: a sign, two numbers. -/
def rtL : List (Value × Value) → List Value
  | [] => []
  | c :: r => .bool false :: c.1 :: c.2 :: rtL r
theorem rtL_append : ∀ a b, rtL (a ++ b) = rtL a ++ rtL b
  | [], b => rfl
  | p :: a, b => by simp [rtL, rtL_append a b]
theorem rtL_length : ∀ l, (rtL l).length = l.length * 3
  | [] => rfl
  | p :: r => by simp [rtL, rtL_length r]; omega
theorem rtL_at : ∀ (l : List (Value × Value)) (i : Nat) (c : Value × Value), l[i]? = some c → (rtL l)[i * 3]? = some (.bool false) ∧ (rtL l)[i * 3 + 1]? = some c.1 ∧ (rtL l)[i * 3 + 2]? = some c.2
  | [], i, p, h => by simp at h
  | d :: r, 0, p, h => by
    obtain rfl : d = p := by simpa using h
    exact ⟨rfl, rfl, rfl⟩
  | d :: r, i + 1, p, h => by
    obtain ⟨h0, h1, h2⟩ := rtL_at r i p (by simpa using h)
    have e : ∀ k, (rtL (d :: r))[(i + 1) * 3 + k]? = (rtL r)[i * 3 + k]? := fun k => by
      rw [show (i + 1) * 3 + k = i * 3 + k + 1 + 1 + 1 by omega]
      rfl
    exact ⟨by rw [show (i + 1) * 3 = (i + 1) * 3 + 0 by omega, e 0]; exact h0, by rw [e 1]; exact h1, by rw [e 2]; exact h2⟩
/-- Fractions of any size from 0 on in memory. -/
def RtAt (w : World) (v : Value) (l : List (Nat × Nat)) : Prop := ∃ ad cap, v = .slice ad l.length cap ∧ ∀ i p, l[i]? = some p → ∃ b o u q, ad = some ⟨b, o, none⟩ ∧ w.cell? ⟨b, o + i * 3, none⟩ = some (.bool false) ∧ w.cell? ⟨b, o + i * 3 + 1, none⟩ = some u ∧ w.cell? ⟨b, o + i * 3 + 2, none⟩ = some q ∧ BigAt w u p.1 ∧ BigAt w q p.2
theorem RtAt.later {w w' : World} {v : Value} {l : List (Nat × Nat)} (h : RtAt w v l) (hb : Below w.heap.size w w') : RtAt w' v l := by
  obtain ⟨ad, cap, hv, hr⟩ := h
  refine ⟨ad, cap, hv, fun i p hp => ?_⟩
  obtain ⟨b, o, u, q, e, h0, h1, h2, h3, h4⟩ := hr i p hp
  exact ⟨b, o, u, q, e, by rw [hb.cell (cell_lt h0)]; exact h0, by rw [hb.cell (cell_lt h1)]; exact h1, by rw [hb.cell (cell_lt h2)]; exact h2, h3.later hb, h4.later hb⟩
theorem IntsAt.far {w w' : World} {u : Value} {l : List Nat} {row : Option Nat} (h : IntsAt w u l) (hg : w.grownBy w' row) (hcl : ∀ g, row = some g → NoInts w g) : IntsAt w' u l := by
  rcases h with h | ⟨b, o, cap, hv, hle, h0, hc⟩
  · exact Or.inl h
  · refine Or.inr ⟨b, o, cap, hv, hle, h0, fun i hi => ?_⟩
    rw [hg.cell_far _ (cell_lt (hc i hi)) (fun e => hcl b e.symm _ _ (hc i hi))]
    exact hc i hi
theorem BigAt.far {w w' : World} {u : Value} {n : Nat} {row : Option Nat} (h : BigAt w u n) (hg : w.grownBy w' row) (hcl : ∀ g, row = some g → NoInts w g) : BigAt w' u n := by
  obtain ⟨l, h1, h2, h3, h4⟩ := h
  exact ⟨l, h1, h2, h3, h4.far hg hcl⟩
end Go.Proofs.YthfonahbjiobcaaDoor

/- Rows of their own that are made one by one and filled. -/
namespace Go.Proofs.YthfonahbjiobcaaDoor
open Go.RowKit

/-- Cells of a row that is made. -/
structure RowIs (wr : World) (b n : Nat) (f : Nat → Value) : Prop where
  row : ∀ k, k < n → wr.cell? ⟨b, k, none⟩ = some (f k)
  fz : ∀ k, k < n → wr.frozen? ⟨b, k, none⟩ = false
theorem RowIs.later {w w' : World} {b n : Nat} {f : Nat → Value} (h : RowIs w b n f) (hb : Below w.heap.size w w') : RowIs w' b n f :=
  ⟨fun k hk => by rw [hb.cell (cell_lt (h.row k hk))]; exact h.row k hk, fun k hk => by rw [hb.frozen (cell_lt (h.row k hk))]; exact h.fz k hk⟩
theorem rowIs_made {w w2 : World} {g n : Nat} {t : TypeId} {z : Value} {xs : List Value} (h : w2.ownsRow w.heap.size t 1 (.slice (some ⟨g, 0, none⟩) n n) n xs) (hx : ∀ i, i < n → xs[i]? = some z) : RowIs w2 g n (fun _ => z) := by
  obtain ⟨hl, hr⟩ := h
  rcases hr with ⟨hx, _⟩ | ⟨g', cap', cur, hv, hb, hh, _, _, hs, ht⟩
  · cases hx
  · obtain ⟨rfl, rfl⟩ : g = g' ∧ n = cap' := by simpa using hv
    refine ⟨fun i hi => ?_, fun i hi => ?_⟩
    · rw [← hx i hi, ← ht, List.getElem?_take_of_lt (by omega)]
      simp [World.cell?, hh]
    · simp [World.frozen?, hh]
theorem made_one (z : Value) (hz : z.cells = #[z]) (n i : Nat) (hi : i < n) : (madeCells z.cells (n * 1)).toList[i]? = some z := by
  simp [madeCells, hi, Nat.mod_one, hz]
theorem made_below {w w2 : World} (hg : w.grownBy w2 none) : Below w.heap.size w w2 := (Below.refl _ _).grown hg (Nat.le_refl _) (fun k hk => by cases hk)
theorem put_cell {W : World} {p : Addr} {x : Value} (y : Value) (h : W.cell? p = some x) (q : Addr) : (W.setCell p y).cell? q = if q = p then some y else W.cell? q := by
  split
  · rename_i e; subst e; exact World.cell?_setCell_same _ _ _ h
  · rename_i e; exact World.cell?_setCell_other _ _ _ _ (fun e' => e e'.symm)

/-- The first m of n rows are made, of C cells each. -/
structure GridB (w wr : World) (g n C m : Nat) (rb : Nat → Nat) (f : Nat → Nat → Value) : Prop where
  below : Below w.heap.size w wr
  hg : w.heap.size ≤ g
  outer : ∀ i, i < n → ∃ x, wr.cell? ⟨g, i, none⟩ = some x
  made : ∀ i, i < m → wr.cell? ⟨g, i, none⟩ = some (.slice (some ⟨rb i, 0, none⟩) C C)
  ofz : ∀ i, i < n → wr.frozen? ⟨g, i, none⟩ = false
  rge : ∀ i, i < m → w.heap.size ≤ rb i ∧ rb i ≠ g ∧ rb i < wr.heap.size
  inj : ∀ i j, i < m → j < m → rb i = rb j → i = j
  rows : ∀ i, i < m → RowIs wr (rb i) C (f i)
theorem GridB.later {w wr wn : World} {g n C m : Nat} {rb : Nat → Nat} {f : Nat → Nat → Value} (h : GridB w wr g n C m rb f) (hb : Below wr.heap.size wr wn) : GridB w wn g n C m rb f := by
  refine ⟨h.below.trans (hb.mono h.below.size), h.hg, fun i hi => ?_, fun i hi => ?_, fun i hi => ?_, fun i hi => ⟨(h.rge i hi).1, (h.rge i hi).2.1, Nat.lt_of_lt_of_le (h.rge i hi).2.2 hb.size⟩, h.inj, fun i hi => (h.rows i hi).later hb⟩
  · obtain ⟨x, hx⟩ := h.outer i hi
    exact ⟨x, by rw [hb.cell (cell_lt hx)]; exact hx⟩
  · rw [hb.cell (cell_lt (h.made i hi))]; exact h.made i hi
  · obtain ⟨x, hx⟩ := h.outer i hi
    rw [hb.frozen (cell_lt hx)]; exact h.ofz i hi
theorem gridB_start {w w2 : World} {g n C : Nat} {z : Value} (h : RowIs w2 g n (fun _ => z)) (hb : Below w.heap.size w w2) (hg : w.heap.size ≤ g) (rb : Nat → Nat) (f : Nat → Nat → Value) : GridB w w2 g n C 0 rb f :=
  ⟨hb, hg, fun i hi => ⟨z, h.row i hi⟩, fun i hi => by omega, fun i hi => h.fz i hi, fun i hi => by omega, fun i j hi => by omega, fun i hi => by omega⟩
/-- A row more. -/
theorem GridB.push {w wr w2 : World} {g n C m r : Nat} {rb : Nat → Nat} {f : Nat → Nat → Value} {z : Value} (h : GridB w wr g n C m rb f) (hm : m < n) (hb : Below wr.heap.size wr w2) (hr : wr.heap.size ≤ r) (hr2 : r < w2.heap.size) (hz : RowIs w2 r C (fun _ => z)) :
    GridB w (w2.setCell ⟨g, m, none⟩ (.slice (some ⟨r, 0, none⟩) C C)) g n C (m + 1) (fun i => if i = m then r else rb i) (fun i k => if i = m then z else f i k) := by
  have h2 := h.later hb
  obtain ⟨x, hx⟩ := h2.outer m hm
  obtain ⟨x0, hx0⟩ := h.outer m hm
  have hgl : g < wr.heap.size := cell_lt hx0
  have hgr : g ≠ r := by omega
  refine ⟨h2.below.setCell h.hg _, h.hg, fun i hi => ?_, fun i hi => ?_, fun i hi => ?_, fun i hi => ?_, fun i j hi hj e => ?_, fun i hi => ?_⟩
  · rw [put_cell _ hx]
    split
    · exact ⟨_, rfl⟩
    · exact h2.outer i hi
  · rw [put_cell _ hx]
    by_cases him : i = m
    · subst him; rw [if_pos rfl, if_pos rfl]
    · rw [if_neg (fun e => him (by simpa using congrArg Addr.off e)), if_neg him]
      exact h2.made i (by omega)
  · rw [World.frozen?_setCell]; exact h2.ofz i hi
  · by_cases him : i = m
    · subst him
      rw [if_pos rfl]
      have := h.below.size
      exact ⟨by omega, fun e => hgr e.symm, by simpa using hr2⟩
    · rw [if_neg him]; simpa using h2.rge i (by omega)
  · by_cases him : i = m
    · subst him
      by_cases hjm : j = i
      · exact hjm.symm
      · rw [if_pos rfl, if_neg hjm] at e
        have h5 := (h.rge j (by omega)).2.2
        omega
    · by_cases hjm : j = m
      · subst hjm
        rw [if_neg him, if_pos rfl] at e
        have h5 := (h.rge i (by omega)).2.2
        omega
      · rw [if_neg him, if_neg hjm] at e
        exact h.inj i j (by omega) (by omega) e
  · refine ⟨fun k hk => ?_, fun k hk => ?_⟩
    · rw [put_cell _ hx]
      by_cases him : i = m
      · subst him
        rw [if_pos rfl, if_pos rfl, if_neg (fun e => hgr (congrArg Addr.block e).symm)]
        exact hz.row k hk
      · rw [if_neg him, if_neg him, if_neg (fun e => (h.rge i (by omega)).2.1 (congrArg Addr.block e))]
        exact (h2.rows i (by omega)).row k hk
    · rw [World.frozen?_setCell]
      by_cases him : i = m
      · subst him; rw [if_pos rfl]; exact hz.fz k hk
      · rw [if_neg him]; exact (h2.rows i (by omega)).fz k hk
/-- A cell of a row is put. -/
theorem GridB.set {w wr : World} {g n C m : Nat} {rb : Nat → Nat} {f : Nat → Nat → Value} (h : GridB w wr g n C m rb f) {i k : Nat} (hi : i < m) (hk : k < C) (y : Value) {f' : Nat → Nat → Value} (hf : ∀ i' k', i' < m → k' < C → f' i' k' = if i' = i ∧ k' = k then y else f i' k') :
    GridB w (wr.setCell ⟨rb i, k, none⟩ y) g n C m rb f' := by
  have hx := (h.rows i hi).row k hk
  have hne := (h.rge i hi).2.1
  refine ⟨h.below.setCell (h.rge i hi).1 _, h.hg, fun j hj => ?_, fun j hj => ?_, fun j hj => ?_, fun j hj => by simpa using h.rge j hj, h.inj, fun j hj => ⟨fun c hc => ?_, fun c hc => ?_⟩⟩
  · rw [put_cell _ hx, if_neg (fun e => hne (congrArg Addr.block e).symm)]
    exact h.outer j hj
  · rw [put_cell _ hx, if_neg (fun e => hne (congrArg Addr.block e).symm)]
    exact h.made j hj
  · rw [World.frozen?_setCell]; exact h.ofz j hj
  · rw [put_cell _ hx, hf j c hj hc]
    by_cases hjc : j = i ∧ c = k
    · obtain ⟨rfl, rfl⟩ := hjc
      rw [if_pos rfl, if_pos ⟨rfl, rfl⟩]
    · rw [if_neg hjc, if_neg (fun e => hjc ⟨h.inj j i hj hi (congrArg Addr.block e), congrArg Addr.off e⟩)]
      exact (h.rows j hj).row c hc
  · rw [World.frozen?_setCell]; exact (h.rows j hj).fz c hc
theorem GridB.drewN {w wr : World} {g n C m : Nat} {rb : Nat → Nat} {f : Nat → Nat → Value} (h : GridB w wr g n C m rb f) : GridB w wr.drew g n C m rb f := h.later (Below.refl _ _).drew

/-- A table of cells, as one reads it. -/
def GridAt (w : World) (v : Value) (n C : Nat) (f : Nat → Nat → Value) : Prop := ∃ g o cap, v = .slice (some ⟨g, o, none⟩) n cap ∧ ∀ i, i < n → ∃ b o' cap', w.cell? ⟨g, o + i, none⟩ = some (.slice (some ⟨b, o', none⟩) C cap') ∧ ∀ k, k < C → w.cell? ⟨b, o' + k, none⟩ = some (f i k)
theorem GridAt.later {w w' : World} {v : Value} {n C : Nat} {f : Nat → Nat → Value} (h : GridAt w v n C f) (hb : Below w.heap.size w w') : GridAt w' v n C f := by
  obtain ⟨g, o, cap, hv, hr⟩ := h
  refine ⟨g, o, cap, hv, fun i hi => ?_⟩
  obtain ⟨b, o', cap', h1, h2⟩ := hr i hi
  exact ⟨b, o', cap', by rw [hb.cell (cell_lt h1)]; exact h1, fun k hk => by rw [hb.cell (cell_lt (h2 k hk))]; exact h2 k hk⟩
theorem GridAt.rowAt {w : World} {b o n C cap : Nat} {f : Nat → Nat → Value} (h : GridAt w (.slice (some ⟨b, o, none⟩) n cap) n C f) (i : Nat) (hi : i < n) : ∃ b1 o1 cap1, w.cell? ⟨b, o + i, none⟩ = some (.slice (some ⟨b1, o1, none⟩) C cap1) ∧ ∀ k, k < C → w.cell? ⟨b1, o1 + k, none⟩ = some (f i k) := by
  obtain ⟨b', o', cap', hv', hr'⟩ := h
  simp only [Value.slice.injEq, Option.some.injEq, Addr.mk.injEq, and_true, true_and] at hv'
  obtain ⟨⟨rfl, rfl⟩, rfl⟩ := hv'
  exact hr' i hi
theorem GridB.at {w wr : World} {g n C : Nat} {rb : Nat → Nat} {f : Nat → Nat → Value} (h : GridB w wr g n C n rb f) : GridAt wr (.slice (some ⟨g, 0, none⟩) n n) n C f :=
  ⟨g, 0, n, rfl, fun i hi => ⟨rb i, 0, C, by rw [Nat.zero_add]; exact h.made i hi, fun k hk => by rw [Nat.zero_add]; exact (h.rows i hi).row k hk⟩⟩
/-- The rows of a chain. -/
def RowsAt (w : World) (v : Value) (n : Nat) (zs : Nat → Nat → Int) : Prop := GridAt w v n n (fun i k => .int .i64 (zs i k))
theorem rowsAt_of_tab {w : World} {v : Value} {n : Nat} {vs : Nat → Value} {ns : Nat → Nat} {zs : Nat → Nat → Int} (h : TabAt w v n vs ns zs) (h0 : 0 < n) (he : ∀ i, i < n → ns i = n) : RowsAt w v n zs := by
  rcases h with ⟨_, _, _, h'⟩ | ⟨b, o, c, hv, _, hr⟩
  · omega
  · refine ⟨b, o, c, hv, fun i hi => ?_⟩
    obtain ⟨h1, h2⟩ := hr i hi
    rw [he i hi] at h2
    rcases h2 with ⟨_, _, _, h3⟩ | ⟨b1, o1, c1, hv1, _, hr1⟩
    · omega
    · exact ⟨b1, o1, c1, by rw [h1, hv1], hr1⟩
end Go.Proofs.YthfonahbjiobcaaDoor

/- The program's fractions: parts, leastSum, ofSum. -/
namespace Go.Proofs.YthfonahbjiobcaaDoor
open Go.RowKit

theorem Tryd.infoFc : (Tryd.prog.info? 58).map (fun i => (i.zero, i.size, i.bytes)) = some (some (.agg #[.int .i64 0, .int .i64 0]), 2, 16) := by kernel_rfl
/-- Fractions as cells. -/
def frC (f : Nat → Nat × Nat) (j : Nat) : Value := if j % 2 = 0 then .int .i64 ((f (j / 2)).1 : Int) else .int .i64 ((f (j / 2)).2 : Int)
theorem frC_num (f : Nat → Nat × Nat) (i : Nat) : frC f (i * 2) = .int .i64 ((f i).1 : Int) := by
  unfold frC; rw [if_pos (by omega), show i * 2 / 2 = i by omega]
theorem frC_den (f : Nat → Nat × Nat) (i : Nat) : frC f (i * 2 + 1) = .int .i64 ((f i).2 : Int) := by
  unfold frC; rw [if_neg (by omega), show (i * 2 + 1) / 2 = i by omega]
theorem made_fc (n j : Nat) (hj : j < 2 * n) : (madeCells (Value.agg #[.int .i64 0, .int .i64 0]).cells (n * 2)).toList[j]? = some (.int .i64 0) := by
  have : j < n * 2 := by omega
  simp [madeCells, this, Value.cells]
  rcases (show j % 2 = 0 ∨ j % 2 = 1 by omega) with h | h <;> simp [h]
theorem rowIs_madeF {w w2 : World} {g n m : Nat} {t : TypeId} {z : Value} {xs : List Value} (h : w2.ownsRow w.heap.size t 2 (.slice (some ⟨g, 0, none⟩) n n) n xs) (hm : m = 2 * n) (hx : ∀ i, i < m → xs[i]? = some z) : RowIs w2 g m (fun _ => z) := by
  obtain ⟨hl, hr⟩ := h
  rcases hr with ⟨hx, _⟩ | ⟨g', cap', cur, hv, hb, hh, _, _, hs, ht⟩
  · cases hx
  · obtain ⟨rfl, rfl⟩ : g = g' ∧ n = cap' := by simpa using hv
    refine ⟨fun i hi => ?_, fun i hi => ?_⟩
    · rw [← hx i hi, ← ht, List.getElem?_take_of_lt (by omega)]
      simp [World.cell?, hh]
    · simp [World.frozen?, hh]
theorem RowIs.setF {W : World} {g m j : Nat} {f f' : Nat → Value} (h : RowIs W g m f) (hj : j < m) (y : Value) (hf : ∀ i, i < m → f' i = if i = j then y else f i) : RowIs (W.setCell ⟨g, j, none⟩ y) g m f' :=
  ⟨fun i hi => by
    rw [put_cell _ (h.row j hj), hf i hi]
    by_cases hij : i = j
    · subst hij; rw [if_pos rfl, if_pos rfl]
    · rw [if_neg (fun e => hij (congrArg Addr.off e)), if_neg hij]; exact h.row i hi, fun i hi => by rw [World.frozen?_setCell]; exact h.fz i hi⟩

set_option maxRecDepth 100000 in
set_option maxHeartbeats 4000000 in
theorem parts_any (b o cap n num den : Nat) (X : Nat → Nat) (w : World) (h : RowAt w b o n (fun i => (X i : Int))) (hn : n ≤ 16) (hX : ∀ i, i < n → X i ≤ 256) (hnum : num ≤ 4096) (hd0 : 0 < den) (hd : den ≤ 1048576) :
    Calls Tryd.prog 21 #[.slice (some ⟨b, o, none⟩) n cap, .int .i64 num, .int .i64 den] w fun e w' => e = .returned (.slice (some ⟨w.heap.size, 0, none⟩) n n) ∧ RowIs w' w.heap.size (2 * n) (frC fun i => lowP (X i * num) den) ∧ Below w.heap.size w w' := by
  obtain ⟨i0, hi, hz0, hz1, hz2⟩ := info_parts Tryd.infoFc
  have HINF : Hid (Tryd.prog.info? 58 = some i0 ∧ i0.zero = some (.agg #[.int .i64 0, .int .i64 0]) ∧ i0.size = 2 ∧ i0.bytes = 16) := ⟨hi, hz0, hz1, hz2⟩
  have HR : Hid (∀ W, Below w.heap.size w W → ∀ i, i < n → W.cell? ⟨b, o + i, none⟩ = some (.int .i64 (X i : Int))) := fun W hb i hi => by rw [hb.cell (cell_lt (h i hi))]; exact h i hi
  have HX := Hid.mk' hX
  clear hi hz0 hz1 hz2 h hX
  go_enter Tryd.func21, Tryd.ntmps21
  go_wp2_with (at_make; go_must (refine wpList_make_full _ rfl _ _ _ rfl w.heap.size 58 i0 _ 2 Tryd.underlying53 HINF.out.1 HINF.out.2.1 HINF.out.2.2.1 .i64 .i64 _ _ n rfl rfl rfl rfl (by rw [HINF.out.2.2.2]; omega) (by unfold maxLen; omega) (Nat.le_refl _) ?_; intro w2 hown2 hgrow2; have HF2 := Hid.mk' (rowIs_madeF hown2 rfl (made_fc n)); have HB2 := Hid.mk' (made_below hgrow2); clear hown2 hgrow2))
  go_loopw [15] (fun t wr => ∃ (i : Nat) (f : Nat → Value), i ≤ n ∧ t = .int .i64 i ∧ Hid (RowIs wr w.heap.size (2 * n) f ∧ ∀ j, j < 2 * i → f j = frC (fun i => lowP (X i * num) den) j) ∧ Hid (Below w.heap.size w wr)) (fun t _ => n - (intOf t).toNat)
  case atStart => exact ⟨0, _, Nat.zero_le _, rfl, ⟨HF2.out, fun j hj => by omega⟩, HB2⟩
  case round =>
    clear HF2 HB2
    obtain ⟨i, f, hi, rfl, HF, HB⟩ := hrel
    rcases Nat.lt_or_ge i n with h1 | h1
    · have hiI : (i : Int) < (n : Int) := by omega
      have hi0 : (0 : Int) ≤ (i : Int) := by omega
      have hc := HR.out wr HB.out i h1
      have hxm := HX.out i h1
      have hle : X i * num ≤ 1048576 := Nat.le_trans (Nat.mul_le_mul hxm hnum) (by decide)
      have hcast : ((X i : Int) * (num : Int)) = ((X i * num : Nat) : Int) := by simp
      have hlow := lowest_any ((X i * num : Nat) : Int) den wr (by omega) (by omega) hd0 (by omega) (Nat.gcd (X i * num) den) (by rw [Int.natAbs_natCast])
      have hq : ((X i * num : Nat) : Int).tdiv (Nat.gcd (X i * num) den : Int) = ((X i * num / Nat.gcd (X i * num) den : Nat) : Int) := by rw [Int.tdiv_eq_ediv_of_nonneg (by omega)]; simp
      rw [hq] at hlow
      have HP : Hid (frC (fun i => lowP (X i * num) den) (i * 2) = .int .i64 ((X i * num / Nat.gcd (X i * num) den : Nat) : Int) ∧ frC (fun i => lowP (X i * num) den) (i * 2 + 1) = .int .i64 ((den / Nat.gcd (X i * num) den : Nat) : Int)) := ⟨frC_num _ i, frC_den _ i⟩
      generalize X i * num / Nat.gcd (X i * num) den = p at *
      generalize den / Nat.gcd (X i * num) den = q at *
      generalize hY : X i * num = y at *
      generalize X i = x at *
      clear hq hY
      go_wp2_with fail
      refine hlow.mono ?_
      clear hlow
      rintro e w4 ⟨rfl, hb4⟩
      have hF5 := HF.out.1.later hb4
      have y0 := hF5.row (i * 2) (by omega)
      have y1 := hF5.row (i * 2 + 1) (by omega)
      have z0 := hF5.fz (i * 2) (by omega)
      have z1 := hF5.fz (i * 2 + 1) (by omega)
      have HS : Hid (RowIs ((w4.setCell ⟨w.heap.size, i * 2, none⟩ (.int .i64 (p : Int))).setCell ⟨w.heap.size, i * 2 + 1, none⟩ (.int .i64 (q : Int))) w.heap.size (2 * n) (fun j => if j = i * 2 + 1 then .int .i64 (q : Int) else if j = i * 2 then .int .i64 (p : Int) else f j)) := (hF5.setF (j := i * 2) (f' := fun j => if j = i * 2 then .int .i64 (p : Int) else f j) (by omega) _ (fun _ _ => rfl)).setF (by omega) _ (fun _ _ => rfl)
      have HB5 := Hid.mk' (below_chain HB.out hb4)
      clear hF5 hb4 hcast
      go_wp2_with fail
      refine ⟨⟨i + 1, _, h1, by go_num, ⟨HS.out, fun j hj => ?_⟩, ?_⟩, by simp [intOf]; omega⟩
      · by_cases h2 : j = i * 2 + 1
        · rw [if_pos h2, h2]; exact HP.out.2.symm
        · rw [if_neg h2]
          by_cases h3 : j = i * 2
          · rw [if_pos h3, h3]; exact HP.out.1.symm
          · rw [if_neg h3]; exact HF.out.2 j (by omega)
      · exact (HB5.out.setCell (Nat.le_refl _) _).setCell (Nat.le_refl _) _
    · obtain rfl : n = i := by omega
      go_wp2_with fail
      go_ret
      exact ⟨rfl, ⟨fun j hj => by rw [← HF.out.2 j hj]; exact HF.out.1.row j hj, HF.out.1.fz⟩, HB.out⟩

/-- Fractions in memory. -/
def FcAt (w : World) (v : Value) (l : List (Nat × Nat)) : Prop := ∃ ad cap, v = .slice ad l.length cap ∧ ∀ i p, l[i]? = some p → ∃ b o, ad = some ⟨b, o, none⟩ ∧ w.cell? ⟨b, o + i * 2, none⟩ = some (.int .i64 (p.1 : Int)) ∧ w.cell? ⟨b, o + i * 2 + 1, none⟩ = some (.int .i64 (p.2 : Int))
theorem FcAt.later {w w' : World} {v : Value} {l : List (Nat × Nat)} (h : FcAt w v l) (hb : Below w.heap.size w w') : FcAt w' v l := by
  obtain ⟨ad, cap, hv, hr⟩ := h
  refine ⟨ad, cap, hv, fun i p hp => ?_⟩
  obtain ⟨b, o, e, h1, h2⟩ := hr i p hp
  exact ⟨b, o, e, by rw [hb.cell (cell_lt h1)]; exact h1, by rw [hb.cell (cell_lt h2)]; exact h2⟩
theorem lcm_step (s d : Nat) : s * (d / Nat.gcd s d) = Nat.lcm s d := by
  rw [Nat.lcm, Nat.mul_div_assoc _ (Nat.gcd_dvd_right s d)]
theorem lcmP_take_le (l : List (Nat × Nat)) (hl : ∀ p, p ∈ l → 0 < p.2) (k : Nat) : lcmP (l.take k) ≤ lcmP l :=
  Nat.le_of_dvd (lcmP_pos l hl) (lcmP_least _ _ fun p hp => lcmP_dvd l p (List.mem_of_mem_take hp))

theorem quo_nat62 {a b : Nat} (h : a ≤ 4611686018427387904) : wrap64 ((a : Int) / (b : Int)) = ((a / b : Nat) : Int) := by
  have h0 : (a : Int) / (b : Int) = ((a / b : Nat) : Int) := by simp
  have h1 : a / b ≤ a := Nat.div_le_self _ _
  rw [h0]
  generalize a / b = q at h1
  rw [w64 _ (by omega)]
set_option maxRecDepth 100000 in
set_option maxHeartbeats 4000000 in
theorem leastSum_big (v : Value) (l : List (Nat × Nat)) (most : Nat) (w : World) (h : FcAt w v l) (hl : ∀ p, p ∈ l → 0 < p.2 ∧ p.2 ≤ 4611686018427387904) (hn : l.length ≤ 1000) (hm : most ≤ 4096) (hm1 : 1 ≤ most) :
    Calls Tryd.prog 22 #[v, .int .i64 most] w fun e w' => (lcmP l ≤ most → e = .returned (.tuple #[.int .i64 (lcmP l : Int), .bool true])) ∧ (most < lcmP l → e = .returned (.tuple #[.int .i64 0, .bool false])) ∧ Below w.heap.size w w' := by
  have HL : Hid (∀ k, lcmP (l.take k) ≤ lcmP l) := lcmP_take_le l fun p hp => (hl p hp).1
  have HLP : Hid (∀ k, 0 < lcmP (l.take k)) := fun k => lcmP_pos _ fun p hp => (hl p (List.mem_of_mem_take hp)).1
  have HF := Hid.mk' h
  have HLL := Hid.mk' hl
  obtain ⟨ad, cap, rfl, _⟩ := h
  clear hl
  go_enter Tryd.func22, Tryd.ntmps22
  go_wp2_with fail
  go_loopw [6, 12] (fun s t wr => ∃ (k y : Nat), k ≤ l.length ∧ t = .int .i64 k ∧ s = .int .i64 (y : Int) ∧ Hid (y = lcmP (l.take k) ∧ y ≤ most) ∧ Hid (Below w.heap.size w wr)) (fun _ t _ => l.length - (intOf t).toNat)
  case atStart => exact ⟨0, 1, Nat.zero_le _, rfl, rfl, ⟨by simp [lcmP], hm1⟩, Below.refl _ _⟩
  case round =>
    obtain ⟨k, y, hk, rfl, rfl, HY, HB⟩ := hrel
    rcases Nat.lt_or_ge k l.length with h1 | h1
    · have hkI : (k : Int) < (l.length : Int) := by omega
      have hk0 : (0 : Int) ≤ (k : Int) := by omega
      obtain ⟨p, hp⟩ : ∃ p, l[k]? = some p := ⟨l[k], by simp [h1]⟩
      obtain ⟨ad', cap', hv', hr'⟩ := HF.out.later HB.out
      simp only [Value.slice.injEq, true_and] at hv'
      obtain ⟨rfl, rfl⟩ := hv'
      obtain ⟨b, o, rfl, hc0, hc1⟩ := hr' k p hp
      clear hr'
      obtain ⟨hd0, hd1⟩ := HLL.out p (List.mem_of_getElem? hp)
      have hy0 : 0 < y := by rw [HY.out.1]; exact HLP.out k
      have hy1 := HY.out.2
      have HT : Hid (lcmP (l.take (k + 1)) = y * (p.2 / Nat.gcd y p.2)) := by show _ = _; rw [lcmP_take hp, ← HY.out.1, lcm_step]
      have hgp : 0 < Nat.gcd y p.2 := Nat.gcd_pos_of_pos_left _ hy0
      have hgl : Nat.gcd y p.2 ≤ y := Nat.gcd_le_left _ hy0
      have hql : p.2 / Nat.gcd y p.2 ≤ p.2 := Nat.div_le_self _ _
      obtain ⟨u, d⟩ := p
      obtain ⟨Wb, hWb⟩ : ∃ Wb, Wb = wr.alloc (.cells #[.int .i64 (u : Int), .int .i64 (d : Int)] 58) := ⟨_, rfl⟩
      have HBb : Hid (Below w.heap.size w Wb) := by show Below _ _ _; rw [hWb]; exact HB.out.alloc HB.out.size _
      have hcb : Wb.cell? ⟨wr.heap.size, 1, none⟩ = some (.int .i64 (d : Int)) := by rw [hWb, World.cell?_alloc_at _ _ _ _ rfl]; rfl
      have HCB : Hid (∀ W, Below Wb.heap.size Wb W → W.cell? ⟨wr.heap.size, 1, none⟩ = some (.int .i64 (d : Int))) := fun W hb => by rw [hb.cell (cell_lt hcb)]; exact hcb
      have HGC : Hid (∀ W, Calls Tryd.prog 38 #[.int .i64 (y : Int), .int .i64 (d : Int)] W fun e w' => e = .returned (.int .i64 (Nat.gcd y d : Int)) ∧ Below W.heap.size W w') := fun W => by
        refine (GCD_any (y : Int) (d : Int) W (by omega) (by omega) (by omega) (by omega)).mono ?_
        rintro e w1 ⟨rfl, m, rfl⟩
        exact ⟨by simp [Int.gcd], below_drewN (Below.refl _ _) _⟩
      simp only at hc0 hc1 hd0 hd1 HT hgp hgl hql
      have hgI : ¬ Nat.gcd y d = 0 := by omega
      have HQ : Hid (wrap64 ((d : Int) / ((Nat.gcd y d : Nat) : Int)) = ((d / Nat.gcd y d : Nat) : Int)) := quo_nat62 (by omega)
      have HQM : Hid (wrap64 ((most : Int) / (y : Int)) = ((most / y : Nat) : Int)) := quo_nat30 (by omega)
      generalize hg : Nat.gcd y d = g at *
      have hcur0 : Below Wb.heap.size Wb Wb := Below.refl _ _
      have hcur : Below Wb.heap.size Wb Wb.drew := (Below.refl _ _).drew
      clear hg hp
      by_cases hfit : y * (d / g) ≤ most
      · have hbr : wrap64 ((d : Int) / (g : Int)) ≤ wrap64 ((most : Int) / (y : Int)) := by
          rw [HQ.out, HQM.out]
          have : d / g ≤ most / y := (Nat.le_div_iff_mul_le hy0).2 (by rw [Nat.mul_comm]; exact hfit)
          omega
        have HFIT := Hid.mk' hfit
        have HWR : Hid (wrap64 ((y : Int) * wrap64 ((d : Int) / (g : Int))) = ((y * (d / g) : Nat) : Int)) := by
          show _ = _
          rw [HQ.out, ← Int.natCast_mul, w64 _ (by omega)]
        clear hfit
        go_wp2_with fail
        rw [← hWb]
        clear hWb hc0 hc1
        go_region_held3 (fun W => W.cell? ⟨wr.heap.size, 1, none⟩ = some (.int .i64 (d : Int)))
          (first | exact HCB.out _ hcur0 | exact HCB.out _ hcur | exact HCB.out _ hbw1)
          (first
            | (go_at_call 38; refine (HGC.out _).mono ?_; rintro e w10 ⟨rfl, hb10⟩; have hbw1 := below_chain hcur hb10; clear hb10))
        go_wp2_with fail
        exact ⟨⟨k + 1, y * (d / g), h1, by go_num, by rw [HWR.out], ⟨HT.out.symm, HFIT.out⟩, below_chain HBb.out hbw1⟩, by simp [intOf]; omega⟩
      · have hbr : wrap64 ((most : Int) / (y : Int)) < wrap64 ((d : Int) / (g : Int)) := by
          rw [HQ.out, HQM.out]
          have : ¬ d / g ≤ most / y := fun h => hfit (by rw [Nat.mul_comm]; exact (Nat.le_div_iff_mul_le hy0).1 h)
          omega
        have HBIG : Hid (most < lcmP l) := by
          have h5 := HL.out (k + 1)
          rw [HT.out] at h5
          show _ < _
          omega
        clear hfit
        go_wp2_with fail
        rw [← hWb]
        clear hWb hc0 hc1
        go_region_held3 (fun W => W.cell? ⟨wr.heap.size, 1, none⟩ = some (.int .i64 (d : Int)))
          (first | exact HCB.out _ hcur0 | exact HCB.out _ hcur | exact HCB.out _ hbw1)
          (first
            | (go_at_call 38; refine (HGC.out _).mono ?_; rintro e w10 ⟨rfl, hb10⟩; have hbw1 := below_chain hcur hb10; clear hb10))
        go_wp2_with fail
        go_ret2
        exact ⟨(fun h => by have := HBIG.out; omega), (fun _ => rfl), below_chain HBb.out hbw1⟩
    · obtain rfl : k = l.length := by omega
      have HE : Hid (y = lcmP l) := by have := HY.out.1; rw [List.take_length] at this; exact this
      go_wp2_with fail
      go_ret2
      exact ⟨(fun _ => by rw [← HE.out]; rfl), (fun h => by have := HE.out; have := HY.out.2; omega), HB.out⟩

theorem leastSum_any (v : Value) (l : List (Nat × Nat)) (most : Nat) (w : World) (h : FcAt w v l) (hl : ∀ p, p ∈ l → 0 < p.2 ∧ p.2 ≤ 1048576) (hn : l.length ≤ 1000) (hm : most ≤ 4096) (hm1 : 1 ≤ most) :
    Calls Tryd.prog 22 #[v, .int .i64 most] w fun e w' => (lcmP l ≤ most → e = .returned (.tuple #[.int .i64 (lcmP l : Int), .bool true])) ∧ (most < lcmP l → e = .returned (.tuple #[.int .i64 0, .bool false])) ∧ Below w.heap.size w w' :=
  leastSum_big v l most w h (fun p hp => ⟨(hl p hp).1, by have := (hl p hp).2; omega⟩) hn hm hm1

set_option maxRecDepth 100000 in
set_option maxHeartbeats 4000000 in
theorem ofSum_any (b n cap L : Nat) (f : Nat → Nat × Nat) (w : World) (h : RowIs w b (2 * n) (frC f)) (hn : n ≤ 16) (hf : ∀ i, i < n → 0 < (f i).2 ∧ (f i).2 ≤ 1048576 ∧ (f i).1 ≤ 1048576) (hL : L ≤ 4096) :
    Calls Tryd.prog 24 #[.slice (some ⟨b, 0, none⟩) n cap, .int .i64 L] w fun e w' => e = .returned (.slice (some ⟨w.heap.size, 0, none⟩) n n) ∧ RowIs w' w.heap.size n (fun k => .int .i64 (wholeP L (f k) : Int)) ∧ Below w.heap.size w w' := by
  obtain ⟨i0, hi, hz0, hz1, hz2⟩ := info_parts Tryd.infoInt
  have HINF : Hid (Tryd.prog.info? 3 = some i0 ∧ i0.zero = some (.int .i64 0) ∧ i0.size = 1 ∧ i0.bytes = 8) := ⟨hi, hz0, hz1, hz2⟩
  have HR : Hid (∀ W, Below w.heap.size w W → ∀ i, i < n → W.cell? ⟨b, 0 + i * 2, none⟩ = some (.int .i64 ((f i).1 : Int)) ∧ W.cell? ⟨b, 0 + i * 2 + 1, none⟩ = some (.int .i64 ((f i).2 : Int))) := fun W hb i hi => by
    have h1 := (h.row (i * 2) (by omega)).trans (congrArg some (frC_num f i))
    have h2 := (h.row (i * 2 + 1) (by omega)).trans (congrArg some (frC_den f i))
    rw [Nat.zero_add]
    exact ⟨by rw [hb.cell (cell_lt h1)]; exact h1, by rw [hb.cell (cell_lt h2)]; exact h2⟩
  have HF := Hid.mk' hf
  clear hi hz0 hz1 hz2 h hf
  go_enter Tryd.func24, Tryd.ntmps24
  go_wp2_with (at_make; go_must (refine wpList_make_full _ rfl _ _ _ rfl w.heap.size 3 i0 _ 1 Tryd.underlying22 HINF.out.1 HINF.out.2.1 HINF.out.2.2.1 .i64 .i64 _ _ n rfl rfl rfl rfl (by rw [HINF.out.2.2.2]; omega) (by unfold maxLen; omega) (Nat.le_refl _) ?_; intro w2 hown2 hgrow2; have HF2 := Hid.mk' (rowIs_made hown2 (made_one (.int .i64 0) rfl n)); have HB2 := Hid.mk' (made_below hgrow2); clear hown2 hgrow2))
  go_loopw [13] (fun t wr => ∃ (i : Nat) (q : Nat → Value), i ≤ n ∧ t = .int .i64 i ∧ Hid (RowIs wr w.heap.size n q ∧ ∀ j, j < i → q j = .int .i64 (wholeP L (f j) : Int)) ∧ Hid (Below w.heap.size w wr)) (fun t _ => n - (intOf t).toNat)
  case atStart => exact ⟨0, _, Nat.zero_le _, rfl, ⟨HF2.out, fun j hj => by omega⟩, HB2⟩
  case round =>
    clear HF2 HB2
    obtain ⟨i, q, hi, rfl, HQ, HB⟩ := hrel
    rcases Nat.lt_or_ge i n with h1 | h1
    · have hiI : (i : Int) < (n : Int) := by omega
      have hi0 : (0 : Int) ≤ (i : Int) := by omega
      obtain ⟨hc0, hc1⟩ := HR.out wr HB.out i h1
      rw [Nat.zero_add] at hc0 hc1
      obtain ⟨hd0, hd1, hu1⟩ := HF.out i h1
      have HW : Hid (wholeP L (f i) = (f i).1 * (L / (f i).2)) := rfl
      have hqI : L / (f i).2 ≤ 4096 := Nat.le_trans (Nat.div_le_self _ _) hL
      have hmul : (f i).1 * (L / (f i).2) ≤ 4294967296 := Nat.le_trans (Nat.mul_le_mul hu1 hqI) (by decide)
      have HQQ : Hid (wrap64 ((L : Int) / (((f i).2 : Nat) : Int)) = ((L / (f i).2 : Nat) : Int)) := quo_nat30 (by omega)
      have HWR : Hid (wrap64 (((f i).1 : Int) * wrap64 ((L : Int) / (((f i).2 : Nat) : Int))) = (wholeP L (f i) : Int)) := by
        show _ = _
        rw [HQQ.out, HW.out, ← Int.natCast_mul, w64 _ (by omega)]
      have hnz : ¬ (f i).2 = 0 := by omega
      have HX : Hid (∀ W, Below wr.heap.size wr W → RowIs W w.heap.size n q) := fun W hb => HQ.out.1.later hb
      clear hqI hmul HW
      generalize hu : (f i).1 = u at *
      generalize hd : (f i).2 = d at *
      clear hu hd
      have hba : Below wr.heap.size wr (wr.alloc (.cells #[.int .i64 (u : Int), .int .i64 (d : Int)] 58)) := (Below.refl _ _).alloc (Nat.le_refl _) _
      have hrow := HX.out _ hba
      have y0 := hrow.row i h1
      have z0 := hrow.fz i h1
      have hsz : w.heap.size < wr.heap.size := cell_lt (HQ.out.1.row i h1)
      go_wp2_with fail
      go_region
      all_goals
        go_wp2_with fail
        refine ⟨⟨i + 1, fun j => if j = i then .int .i64 (wholeP L (f i) : Int) else q j, h1, by go_num, ⟨?_, fun j hj => ?_⟩, ?_⟩, by simp [intOf]; omega⟩
        · rw [HWR.out]
          exact (HQ.out.1.setF h1 _ (fun _ _ => rfl)).later (((Below.refl _ _).alloc (Nat.le_refl _) _).drew)
        · dsimp only
          by_cases h2 : j = i
          · rw [if_pos h2, h2]
          · rw [if_neg h2]; exact HQ.out.2 j (by omega)
        · exact ((HB.out.setCell (Nat.le_refl _) _).alloc (by have := HB.out.size; simpa using this) _).drew
    · obtain rfl : n = i := by omega
      go_wp2_with fail
      go_ret
      exact ⟨rfl, ⟨fun j hj => by rw [← HQ.out.2 j hj]; exact HQ.out.1.row j hj, HQ.out.1.fz⟩, HB.out⟩
end Go.Proofs.YthfonahbjiobcaaDoor

/- The library contracts of slices.Grow laid at the numbers of this translation. -/
namespace Go.Proofs
open Go.Shelf
def Tryd.growF_ren : Go.Shelf.Ren := ⟨fun | 4 => 45 | n => n, fun | 22 => 53 | 25 => 58 | 3 => 3 | 4 => 4 | 9 => 9 | 20 => 20 | 0 => 0 | 2 => 3 | n => n, fun | n => n⟩
theorem Tryd.growF : Go.Proofs.Lays8.n4 Tryd.prog Tryd.growF_ren := {
  mixed := by kernel_rfl
  f4 := ⟨Tryd.f45.name, by decide, Tryd.func45.trans (congrArg some (by kernel_rfl))⟩
  t0 := Tryd.underlying0
  a0 := Tryd.isAgg0
  z0 := Tryd.sizeOf0
  v0 := Tryd.zeroValue0
  t3 := Tryd.underlying3
  a3 := Tryd.isAgg3
  z3 := Tryd.sizeOf3
  v3 := Tryd.zeroValue3
  t4 := Tryd.underlying4
  a4 := Tryd.isAgg4
  z4 := Tryd.sizeOf4
  v4 := Tryd.zeroValue4
  t9 := Tryd.underlying9
  a9 := Tryd.isAgg9
  z9 := Tryd.sizeOf9
  v9 := Tryd.zeroValue9
  t20 := Tryd.underlying20
  a20 := Tryd.isAgg20
  z20 := Tryd.sizeOf20
  v20 := Tryd.zeroValue20
  t22 := Tryd.underlying53
  a22 := Tryd.isAgg53
  z22 := Tryd.sizeOf53
  v22 := Tryd.zeroValue53 }
end Go.Proofs
