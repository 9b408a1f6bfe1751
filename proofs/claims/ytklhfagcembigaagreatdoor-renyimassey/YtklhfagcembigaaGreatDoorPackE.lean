/- dist.Mutual. -/
import Derived.Test.YtklhfagcembigaaGreatDoorPackD
import Derived.Test.YtklhfagcembigaaGreatDoorPackC
import Derived.Shelf.SlGeneric
import Derived.Shelf.Slices.Clone
import Derived.Shelf.Slices.Reverse
import Derived.Shelf.Sort.Plain
import Derived.Ground.NamesProg
import Derived.Ground.Names2Prog
import Derived.Test.YtklhfagcembigaaGreatDoorProg
import Derived.Test.YtklhfagcembigaaGreatDoorValidWalk
import Derived.Sort.LotA
import Derived.Test.YtklhfagcembigaaGreatDoorPackB
import Derived.Test.YtklhfagcembigaaGreatDoorOfAny
import Derived.Test.YtklhfagcembigaaGreatDoorWeights
import Derived.BigQuiet
import Derived.Deep.CutRange
import Derived.Deep.DeepCutAuto
import Derived.Deep.RegionHeld3
import Derived.Deep.AppendLies
import Derived.Deep.QuietTactic
namespace Go.Proofs.YtklhfagcembigaaGreatDoor
open Go.RowKit Go.Maps

theorem okM_of {R N : Nat} {ns : Nat → Nat} {zs : Nat → Nat → Int} (h : OkT R ns zs N) : OkM R (ns 0) N zs (rowSum ns zs) (colV zs R) :=
  ⟨h.r16, h.c16, h.n1, h.n6, fun i hi j hj => h.cell hi (by rw [h.even i hi]; exact hj), fun i hi => by have h1 := h.row hi; have h2 := h.n6; unfold rowSum; omega, fun j hj => h.col (Nat.le_refl _) hj,
    fun i hi j hj => ⟨sumN_ge (h.nn i hi) (by rw [h.even i hi]; exact hj), sumN_ge (z := fun i => zs i j) (fun i hi => h.nn i hi j (by rw [h.even i hi]; exact hj)) hi⟩⟩
/-- Two rows, and the boxes of their slices. -/
structure TwoRows (W0 W : World) (B1 B2 g1 c1 n1 : Nat) (z1 : Nat → Int) (g2 c2 n2 : Nat) (z2 : Nat → Int) : Prop where
  below : Below W0.heap.size W0 W
  b1 : W.cell? ⟨B1, 0, none⟩ = some (.slice (some ⟨g1, 0, none⟩) n1 c1)
  b2 : W.cell? ⟨B2, 0, none⟩ = some (.slice (some ⟨g2, 0, none⟩) n2 c2)
  r1 : RowAt W g1 0 n1 z1
  r2 : RowAt W g2 0 n2 z2
theorem TwoRows.later {W0 W W' : World} {B1 B2 g1 c1 n1 g2 c2 n2 : Nat} {z1 z2 : Nat → Int} (h : TwoRows W0 W B1 B2 g1 c1 n1 z1 g2 c2 n2 z2) (hb : Below W.heap.size W W') : TwoRows W0 W' B1 B2 g1 c1 n1 z1 g2 c2 n2 z2 :=
  ⟨below_chain h.below hb, (cell_past h.b1 hb).2, (cell_past h.b2 hb).2, h.r1.later hb, h.r2.later hb⟩
/-- A new box with nothing in it. -/
structure NewRow (W0 W : World) (B : Nat) : Prop where
  c0 : W.cell? ⟨B, 0, none⟩ = some (.slice none 0 0)
  f0 : W.frozen? ⟨B, 0, none⟩ = false
  hB : W0.heap.size ≤ B
theorem NewRow.later {W0 W W' : World} {B : Nat} (h : NewRow W0 W B) (hb : Below W.heap.size W W') : NewRow W0 W' B := ⟨(cell_past h.c0 hb).2, (frozen_past h.c0 h.f0 hb).2, h.hB⟩
theorem newRow_new {W0 W : World} (h : Below W0.heap.size W0 W) : NewRow W0 (W.alloc (.cells #[.slice none 0 0] 22)) W.heap.size := ⟨by simp, by simp, h.size⟩

theorem NewRow.al {W0 W : World} {B : Nat} (h : NewRow W0 W B) : (∀ X, (W.alloc X).cell? ⟨B, 0, none⟩ = some (.slice none 0 0)) ∧ ∀ X, (W.alloc X).frozen? ⟨B, 0, none⟩ = false := ⟨fun X => (h.later (new_below _ X)).c0, fun X => (h.later (new_below _ X)).f0⟩
theorem NewRow.ne {W0 W : World} {B : Nat} (h : NewRow W0 W B) : (¬ B = W.heap.size) ∧ ¬ W.heap.size = B := by
  have hz := cell_lt h.c0
  simp only at hz
  exact ⟨by omega, by omega⟩
theorem newRow_of {W0 w w' : World} (h : Below W0.heap.size W0 w) {X : Obj} (hX : X = .cells #[.slice none 0 0] 22) (hb : Below (w.alloc X).heap.size (w.alloc X) w') : NewRow W0 w' w.heap.size := by
  subst hX
  exact (newRow_new h).later hb
theorem newRow_of2 {W0 w w' : World} (h : Below W0.heap.size W0 w) {X Y : Obj} (hX : X = .cells #[.slice none 0 0] 22) (hY : Y = .cells #[.slice none 0 0] 22) (hb : Below ((w.alloc X).alloc Y).heap.size ((w.alloc X).alloc Y) w') : NewRow W0 w' w.heap.size ∧ NewRow W0 w' (w.heap.size + 1) := by
  subst hX
  subst hY
  have h2 := (newRow_new (more_below h (.cells #[.slice none 0 0] 22))).later hb
  rw [World.size_alloc] at h2
  exact ⟨((newRow_new h).later (new_below _ _)).later hb, h2⟩
theorem row_not_box {W0 w : World} {g n B : Nat} {z : Nat → Int} (h : RowAt w g 0 n z) (h0 : 0 < n) (nb : NewRow W0 w B) : g ≠ B := fun e => by
  have h1 := h 0 h0
  rw [e, show (0 : Nat) + 0 = 0 from rfl, nb.c0] at h1
  cases h1
theorem row_set {w : World} {g n B : Nat} {z : Nat → Int} {v : Value} (h : RowAt w g 0 n z) (hne : g ≠ B) : RowAt (w.setCell ⟨B, 0, none⟩ v) g 0 n z := fun i hi => by
  rw [World.cell?_setCell_other _ _ _ _ (by simp <;> omega)]
  exact h i hi
theorem twoRows_a {W0 w : World} {g1 c1 n1 g2 c2 n2 : Nat} {z1 z2 : Nat → Int} (hb : Below W0.heap.size W0 w) (r1 : RowAt w g1 0 n1 z1) (r2 : RowAt w g2 0 n2 z2) : TwoRows W0 ((w.alloc (.cells #[.slice (some ⟨g1, 0, none⟩) n1 c1] 22)).alloc (.cells #[.slice (some ⟨g2, 0, none⟩) n2 c2] 22)) w.heap.size (w.heap.size + 1) g1 c1 n1 z1 g2 c2 n2 z2 :=
  ⟨more_below (more_below hb _) _, new_one (new_below _ _), by rw [World.cell?_alloc_at _ _ _ _ (by simp)]; rfl, (r1.later (new_below _ _)).later (new_below _ _), (r2.later (new_below _ _)).later (new_below _ _)⟩
theorem twoRows_b {W0 w : World} {g1 c1 n1 g2 c2 n2 : Nat} {z1 z2 : Nat → Int} (hb : Below W0.heap.size W0 w) (r1 : RowAt w g1 0 n1 z1) (r2 : RowAt w g2 0 n2 z2) : TwoRows W0 ((w.alloc (.cells #[.slice (some ⟨g2, 0, none⟩) n2 c2] 22)).alloc (.cells #[.slice (some ⟨g1, 0, none⟩) n1 c1] 22)) (w.heap.size + 1) w.heap.size g1 c1 n1 z1 g2 c2 n2 z2 :=
  ⟨more_below (more_below hb _) _, by rw [World.cell?_alloc_at _ _ _ _ (by simp)]; rfl, new_one (new_below _ _), (r1.later (new_below _ _)).later (new_below _ _), (r2.later (new_below _ _)).later (new_below _ _)⟩
theorem twoRows_d {W0 w : World} {B : Nat} {g1 c1 n1 g2 c2 n2 : Nat} {z1 z2 : Nat → Int} (hb : Below W0.heap.size W0 w) (r1 : RowAt w g1 0 n1 z1) (r2 : RowAt w g2 0 n2 z2) (p1 : 0 < n1) (p2 : 0 < n2) (nb : NewRow W0 w B) : TwoRows W0 ((w.alloc (.cells #[.slice (some ⟨g1, 0, none⟩) n1 c1] 22)).setCell ⟨B, 0, none⟩ (.slice (some ⟨g2, 0, none⟩) n2 c2)) w.heap.size B g1 c1 n1 z1 g2 c2 n2 z2 := by
  have hn := nb.later (new_below w (.cells #[.slice (some ⟨g1, 0, none⟩) n1 c1] 22))
  refine ⟨(more_below hb _).setCell hn.hB _, ?_, World.cell?_setCell_same _ _ _ hn.c0, row_set (r1.later (new_below _ _)) (row_not_box r1 p1 nb), row_set (r2.later (new_below _ _)) (row_not_box r2 p2 nb)⟩
  have := nb.ne
  rw [World.cell?_setCell_other _ _ _ _ (by simp <;> omega), World.cell?_alloc_at _ _ _ _ (by simp)]
  rfl
theorem twoRows_e {W0 w : World} {B B' : Nat} {g1 c1 n1 g2 c2 n2 : Nat} {z1 z2 : Nat → Int} (hb : Below W0.heap.size W0 w) (r1 : RowAt w g1 0 n1 z1) (r2 : RowAt w g2 0 n2 z2) (p1 : 0 < n1) (p2 : 0 < n2) (nb : NewRow W0 w B) (nb' : NewRow W0 w B') (hne : B ≠ B') : TwoRows W0 ((w.setCell ⟨B, 0, none⟩ (.slice (some ⟨g1, 0, none⟩) n1 c1)).setCell ⟨B', 0, none⟩ (.slice (some ⟨g2, 0, none⟩) n2 c2)) B B' g1 c1 n1 z1 g2 c2 n2 z2 := by
  have h1 : (w.setCell ⟨B, 0, none⟩ (.slice (some ⟨g1, 0, none⟩) n1 c1)).cell? ⟨B', 0, none⟩ = some (.slice none 0 0) := by rw [World.cell?_setCell_other _ _ _ _ (by simp <;> omega)]; exact nb'.c0
  refine ⟨(hb.setCell nb.hB _).setCell nb'.hB _, ?_, World.cell?_setCell_same _ _ _ h1, row_set (row_set r1 (row_not_box r1 p1 nb)) (row_not_box r1 p1 nb'), row_set (row_set r2 (row_not_box r2 p2 nb)) (row_not_box r2 p2 nb')⟩
  rw [World.cell?_setCell_other _ _ _ _ (by simp <;> omega)]
  exact World.cell?_setCell_same _ _ _ nb.c0
theorem twoRows_c {W0 w : World} {B : Nat} {g1 c1 n1 g2 c2 n2 : Nat} {z1 z2 : Nat → Int} (hb : Below W0.heap.size W0 w) (r1 : RowAt w g1 0 n1 z1) (r2 : RowAt w g2 0 n2 z2) (p1 : 0 < n1) (p2 : 0 < n2) (nb : NewRow W0 w B) : TwoRows W0 (((w.alloc (.cells #[.slice none 0 0] 22)).setCell ⟨B, 0, none⟩ (.slice (some ⟨g1, 0, none⟩) n1 c1)).setCell ⟨w.heap.size, 0, none⟩ (.slice (some ⟨g2, 0, none⟩) n2 c2)) B w.heap.size g1 c1 n1 z1 g2 c2 n2 z2 :=
  twoRows_e (more_below hb _) (r1.later (new_below _ _)) (r2.later (new_below _ _)) p1 p2 (nb.later (new_below _ _)) (newRow_new hb) nb.ne.1

end Go.Proofs.YtklhfagcembigaaGreatDoor

/- dist.Given. -/
namespace Go.Proofs.YtklhfagcembigaaGreatDoor
open Go.RowKit Go.Maps

/-- What a row puts. -/
def givV (ns : Nat → Nat) (zs : Nat → Nat → Int) (x : Int) (i : Nat) : Int := sumN (entV (zs i) (sumN (zs i) (ns i)).toNat x) (ns i)
theorem givV_le {R N : Nat} {ns : Nat → Nat} {zs : Nat → Nat → Int} (h : OkT R ns zs N) (x : Int) {i : Nat} (hi : i < R) : -3200000 ≤ givV ns zs x i ∧ givV ns zs x i ≤ 3200000 := by
  have h1 := h.row hi
  have h2 := h.n6
  have h3 := sumN_bound (f := entV (zs i) (sumN (zs i) (ns i)).toNat x) (B := 200000) (n := ns i) (fun j hj => entV_le x (h.cell hi hj) (by omega))
  have h4 := h.even i hi
  have h5 := h.c16
  have : ((ns i : Nat) : Int) * 200000 ≤ 3200000 := by omega
  unfold givV
  omega

theorem giv_bound {R N : Nat} {ns : Nat → Nat} {zs : Nat → Nat → Int} (h : OkT R ns zs N) (x : Int) : -1000000000 ≤ sumN (givV ns zs x) R ∧ sumN (givV ns zs x) R ≤ 1000000000 := by
  have h3 := sumN_bound (f := givV ns zs x) (B := 3200000) (n := R) (fun i hi => givV_le h x hi)
  have h4 := h.r16
  have : (R : Int) * 3200000 ≤ 51200000 := by omega
  omega

end Go.Proofs.YtklhfagcembigaaGreatDoor

/- The sides of what rows tell of columns; entropies of a table, held against each other. -/
namespace Go.Proofs.YtklhfagcembigaaGreatDoor
open Go.RowKit

/-- It speaks of primes alone. -/
def Supp (f : Int → Int) : Prop := ∀ x, f x ≠ 0 → 2 ≤ x ∧ x ≤ 4096 ∧ Pr x.toNat
theorem supp_term (c : Int) (m : Nat) (h : c ≠ 0 → 0 < m ∧ m ≤ 4096) : Supp fun x => c * multI x m := fun x hx => by
  dsimp only at hx
  have h1 : c ≠ 0 := fun e => hx (by rw [e]; simp)
  have h2 : multI x m ≠ 0 := fun e => hx (by rw [e]; simp)
  obtain ⟨a1, a2, a3⟩ := multI_support (h h1).1 h2
  have := (h h1).2
  exact ⟨a2, by omega, a1⟩
theorem Supp.add {f g : Int → Int} (hf : Supp f) (hg : Supp g) : Supp fun x => f x + g x := fun x hx => by
  by_cases h : f x = 0
  · exact hg x (fun e => hx (by dsimp only; rw [h, e]; rfl))
  · exact hf x h
theorem Supp.sub {f g : Int → Int} (hf : Supp f) (hg : Supp g) : Supp fun x => f x - g x := fun x hx => by
  by_cases h : f x = 0
  · exact hg x (fun e => hx (by dsimp only; rw [h, e]; rfl))
  · exact hf x h
theorem supp_sum {F : Nat → Int → Int} : ∀ {n : Nat}, (∀ i, i < n → Supp (F i)) → Supp fun x => sumN (fun i => F i x) n
  | 0, _ => fun x hx => absurd rfl hx
  | n + 1, h => (supp_sum fun i hi => h i (by omega)).add (h n (by omega))
theorem sumN_zero : ∀ n, sumN (fun _ => 0) n = 0
  | 0 => rfl
  | n + 1 => by simp only [sumN]; rw [sumN_zero n]; rfl
theorem sumN_plus (f g : Nat → Int) : ∀ n, sumN (fun i => f i + g i) n = sumN f n + sumN g n
  | 0 => rfl
  | n + 1 => by simp only [sumN]; rw [sumN_plus f g n]; omega
theorem sumN_less (f g : Nat → Int) : ∀ n, sumN (fun i => f i - g i) n = sumN f n - sumN g n
  | 0 => rfl
  | n + 1 => by simp only [sumN]; rw [sumN_less f g n]; omega
theorem sumN_times (k : Int) (f : Nat → Int) : ∀ n, sumN (fun i => f i * k) n = sumN f n * k
  | 0 => by simp [sumN]
  | n + 1 => by simp only [sumN]; rw [sumN_times k f n, Int.add_mul]
theorem sumN_swap (F : Nat → Nat → Int) (C : Nat) : ∀ R, sumN (fun i => sumN (fun j => F i j) C) R = sumN (fun j => sumN (fun i => F i j) R) C
  | 0 => by simp only [sumN]; rw [sumN_zero]
  | R + 1 => by
    simp only [sumN]
    rw [sumN_swap F C R, ← sumN_plus]
/-- The columns' entropy by places. -/
theorem ent_cols (zs : Nat → Nat → Int) (R C N : Nat) (x : Int) : sumN (entV (colV zs R) N x) C = sumN (fun i => sumN (fun j => zs i j * (multI x N - multI x (colV zs R j).toNat)) C) R := by
  rw [sumN_swap]
  refine sumN_congr fun j _ => ?_
  rw [sumN_times]
  unfold entV
  show colV zs R j * _ - colV zs R j * _ = colV zs R j * _
  rw [Int.mul_sub]
/-- What is known of the columns less what is told if the row is known is what rows tell. -/
theorem less_told {R N : Nat} {ns : Nat → Nat} {zs : Nat → Nat → Int} (h : OkT R ns zs N) (x : Int) : sumN (entV (colV zs R) N x) (ns 0) - sumN (givV ns zs x) R = sumN (fun i => sumN (mutV (zs i) (rowSum ns zs i) (colV zs R) N x) (ns 0)) R := by
  rw [ent_cols, ← sumN_less]
  refine sumN_congr fun i hi => ?_
  unfold givV
  rw [h.even i hi, ← sumN_less]
  refine sumN_congr fun j _ => ?_
  unfold entV mutV rowSum
  rw [h.even i hi]
  grind
theorem mult_prod1 {x : Nat} (hx : Pr x) {a b : Nat → Nat} : ∀ {n : Nat}, (∀ i, i < n → 0 < a i → 0 < b i) → mult x (prodA (fun i => b i ^ a i) n) = sumA (fun i => a i * mult x (b i)) n ∧ 0 < prodA (fun i => b i ^ a i) n
  | 0, _ => ⟨by simp only [prodA, sumA]; exact mult_one hx.1, by simp [prodA]⟩
  | n + 1, h => by
    obtain ⟨h1, h2⟩ := mult_prod1 hx (n := n) (fun i hi => h i (by omega))
    have h3 : mult x (b n ^ a n) = a n * mult x (b n) ∧ 0 < b n ^ a n := by
      rcases Nat.eq_zero_or_pos (a n) with h0 | h0
      · rw [h0, Nat.pow_zero, Nat.zero_mul]
        exact ⟨mult_one hx.1, by omega⟩
      · exact ⟨mult_power hx (h n (by omega) h0) _, Nat.pow_pos (h n (by omega) h0)⟩
    simp only [prodA, sumA]
    exact ⟨by rw [mult_mul hx _ _ h2 h3.2, h1, h3.1], Nat.mul_pos h2 h3.2⟩
theorem mult_prod2 {x : Nat} (hx : Pr x) {a b : Nat → Nat → Nat} {C : Nat} : ∀ {R : Nat}, (∀ i, i < R → ∀ j, j < C → 0 < a i j → 0 < b i j) → mult x (prodA (fun i => prodA (fun j => b i j ^ a i j) C) R) = sumA (fun i => sumA (fun j => a i j * mult x (b i j)) C) R ∧ 0 < prodA (fun i => prodA (fun j => b i j ^ a i j) C) R
  | 0, _ => ⟨by simp only [prodA, sumA]; exact mult_one hx.1, by simp [prodA]⟩
  | R + 1, h => by
    obtain ⟨h1, h2⟩ := mult_prod2 hx (R := R) (fun i hi => h i (by omega))
    obtain ⟨h3, h4⟩ := mult_prod1 hx (fun j hj => h R (by omega) j hj)
    simp only [prodA, sumA]
    exact ⟨by rw [mult_mul hx _ _ h2 h4, h1, h3], Nat.mul_pos h2 h4⟩
theorem sumN_nat2 {z : Nat → Int} {a : Nat → Nat} : ∀ {n : Nat}, (∀ i, i < n → z i = (a i : Int)) → sumN z n = (sumA a n : Int)
  | 0, _ => rfl
  | n + 1, h => by
    simp only [sumN, sumA]
    rw [sumN_nat2 (n := n) (fun i hi => h i (by omega)), h n (by omega)]
    simp
/-- The sides of what rows tell. -/
theorem told_sides {R N : Nat} {ns : Nat → Nat} {zs : Nat → Nat → Int} (h : OkT R ns zs N) :
    ∃ U D : Nat, 0 < U ∧ 0 < D ∧ D ≤ U ∧ ∀ x : Nat, Pr x → sumN (fun i => sumN (mutV (zs i) (rowSum ns zs i) (colV zs R) N (x : Int)) (ns 0)) R = (mult x U : Int) - (mult x D : Int) := by
  obtain ⟨a, ha⟩ : ∃ a : Nat → Nat → Nat, ∀ i, i < R → ∀ j, j < ns 0 → zs i j = (a i j : Int) := ⟨fun i j => (zs i j).toNat, fun i hi j hj => by have := h.nn i hi j (by rw [h.even i hi]; exact hj); dsimp only; omega⟩
  have hr : ∀ i, i < R → rowSum ns zs i = (sumA (a i) (ns 0) : Int) := fun i hi => by
    unfold rowSum
    rw [h.even i hi]
    exact sumN_nat2 (fun j hj => ha i hi j hj)
  have hc : ∀ j, j < ns 0 → colV zs R j = (sumA (fun i => a i j) R : Int) := fun j hj => sumN_nat2 (fun i hi => ha i hi j hj)
  have hN : N = sumA (fun i => sumA (a i) (ns 0)) R := by
    have h1 := h.tot
    have h2 : sumN (fun i => sumN (zs i) (ns i)) R = (sumA (fun i => sumA (a i) (ns 0)) R : Int) := sumN_nat2 (fun i hi => hr i hi)
    omega
  have hN0 : 0 < N := h.n1
  have hle : ∀ i, i < R → ∀ j, j < ns 0 → a i j ≤ sumA (a i) (ns 0) ∧ a i j ≤ sumA (fun k => a k j) R := fun i hi j hj => ⟨sumA_ge (a i) hj, sumA_ge (fun k => a k j) hi⟩
  have h2 : Pr 2 := ⟨by omega, fun d hd hdd => by have := Nat.mul_le_mul hd hd; omega⟩
  have p1 : ∀ i, i < R → ∀ j, j < ns 0 → 0 < a i j → 0 < a i j := fun _ _ _ _ h => h
  have p2 : ∀ i, i < R → ∀ j, j < ns 0 → 0 < a i j → 0 < sumA (a i) (ns 0) * sumA (fun k => a k j) R := fun i hi j hj h0 => by
    have := hle i hi j hj
    exact Nat.mul_pos (by omega) (by omega)
  have u2 := (mult_prod2 h2 (b := a) p1).2
  have d2 := (mult_prod2 h2 (a := a) (b := fun i j => sumA (a i) (ns 0) * sumA (fun k => a k j) R) p2).2
  refine ⟨N ^ N * prodA (fun i => prodA (fun j => a i j ^ a i j) (ns 0)) R, prodA (fun i => prodA (fun j => (sumA (a i) (ns 0) * sumA (fun k => a k j) R) ^ a i j) (ns 0)) R, Nat.mul_pos (Nat.pow_pos hN0) u2, d2, told_le a (ns 0) R N hN hN0, fun x hx => ?_⟩
  rw [mult_mul hx _ _ (Nat.pow_pos hN0) u2, mult_power hx hN0, (mult_prod2 hx (b := a) p1).1, (mult_prod2 hx (a := a) (b := fun i j => sumA (a i) (ns 0) * sumA (fun k => a k j) R) p2).1]
  have e : ∀ m, multI (x : Int) m = (mult x m : Int) := fun m => by rw [multI_pr (by simpa using hx)]; simp
  have key : sumN (fun i => sumN (mutV (zs i) (rowSum ns zs i) (colV zs R) N (x : Int)) (ns 0)) R = sumN (fun i => sumN (fun j => ((a i j * mult x (a i j) : Nat) : Int) + ((a i j : Nat) : Int) * (mult x N : Int) - ((a i j * mult x (sumA (a i) (ns 0) * sumA (fun k => a k j) R) : Nat) : Int)) (ns 0)) R := by
    refine sumN_congr fun i hi => sumN_congr fun j hj => ?_
    unfold mutV
    rw [ha i hi j hj, hr i hi, hc j hj]
    simp only [Int.toNat_natCast, e]
    rcases Nat.eq_zero_or_pos (a i j) with h0 | h0
    · rw [h0]; simp
    · have := hle i hi j hj
      rw [mult_mul hx _ _ (show 0 < sumA (a i) (ns 0) by omega) (show 0 < sumA (fun k => a k j) R by omega)]
      simp only [Int.natCast_mul, Int.natCast_add]
      grind
  rw [key]
  have split3 : ∀ i, sumN (fun j => ((a i j * mult x (a i j) : Nat) : Int) + ((a i j : Nat) : Int) * (mult x N : Int) - ((a i j * mult x (sumA (a i) (ns 0) * sumA (fun k => a k j) R) : Nat) : Int)) (ns 0) = ((sumA (fun j => a i j * mult x (a i j)) (ns 0) : Nat) : Int) + ((sumA (a i) (ns 0) : Nat) : Int) * (mult x N : Int) - ((sumA (fun j => a i j * mult x (sumA (a i) (ns 0) * sumA (fun k => a k j) R)) (ns 0) : Nat) : Int) := fun i => by
    rw [sumN_less, sumN_plus, sumN_times]
    rw [sumN_nat2 (z := fun j => ((a i j * mult x (a i j) : Nat) : Int)) (fun _ _ => rfl), sumN_nat2 (z := fun j => ((a i j : Nat) : Int)) (fun _ _ => rfl), sumN_nat2 (z := fun j => ((a i j * mult x (sumA (a i) (ns 0) * sumA (fun k => a k j) R) : Nat) : Int)) (fun _ _ => rfl)]
  rw [sumN_congr (fun i _ => split3 i), sumN_less, sumN_plus, sumN_times]
  rw [sumN_nat2 (z := fun i => ((sumA (fun j => a i j * mult x (a i j)) (ns 0) : Nat) : Int)) (fun _ _ => rfl), sumN_nat2 (z := fun i => ((sumA (a i) (ns 0) : Nat) : Int)) (fun _ _ => rfl), sumN_nat2 (z := fun i => ((sumA (fun j => a i j * mult x (sumA (a i) (ns 0) * sumA (fun k => a k j) R)) (ns 0) : Nat) : Int)) (fun _ _ => rfl), ← hN]
  simp only [Int.natCast_add, Int.natCast_mul]
  omega
theorem OkT.pos {R N : Nat} {ns : Nat → Nat} {zs : Nat → Nat → Int} (h : OkT R ns zs N) {i j : Nat} (hi : i < R) (hj : j < ns 0) : zs i j ≠ 0 → (0 < (zs i j).toNat ∧ (zs i j).toNat ≤ 4096) ∧ (0 < (rowSum ns zs i).toNat ∧ (rowSum ns zs i).toNat ≤ 4096) ∧ (0 < (colV zs R j).toNat ∧ (colV zs R j).toNat ≤ 4096) := fun h0 => by
  have h1 := h.cell hi (by rw [h.even i hi]; exact hj)
  have h2 := h.row hi
  have h3 := h.col (Nat.le_refl R) hj
  have h4 := sumN_ge (z := zs i) (n := ns i) (i := j) (fun k hk => h.nn i hi k hk) (by rw [h.even i hi]; exact hj)
  have h5 := sumN_ge (z := fun k => zs k j) (n := R) (i := i) (fun k hk => h.nn k hk j (by rw [h.even k hk]; exact hj)) hi
  have h6 := h.n6
  unfold rowSum
  have h7 : zs i j ≤ colV zs R j := h5
  omega
theorem ent_prim {R N : Nat} {ns : Nat → Nat} {zs : Nat → Nat → Int} (h : OkT R ns zs N) : Prim fun x => sumN (entV (colV zs R) N x) (ns 0) := by
  refine ⟨fun x => ent_bound (fun j hj => h.col (Nat.le_refl R) hj) h.n6 (by have := h.c16; omega) x, ?_⟩
  refine supp_sum (F := fun j x => entV (colV zs R) N x j) fun j hj => ?_
  have hc := h.col (Nat.le_refl R) hj
  exact (supp_term _ N (fun _ => ⟨h.n1, h.n6⟩)).sub (supp_term _ _ (fun h0 => by omega))
theorem giv_prim {R N : Nat} {ns : Nat → Nat} {zs : Nat → Nat → Int} (h : OkT R ns zs N) : Prim fun x => sumN (givV ns zs x) R := by
  refine ⟨fun x => giv_bound h x, ?_⟩
  refine supp_sum (F := fun i x => givV ns zs x i) fun i hi => ?_
  refine supp_sum (F := fun j x => entV (zs i) (sumN (zs i) (ns i)).toNat x j) fun j hj => ?_
  have hp := h.pos hi (j := j) (by rw [← h.even i hi]; exact hj)
  exact (supp_term _ _ (fun h0 => (hp h0).2.1)).sub (supp_term _ _ (fun h0 => (hp h0).1))
theorem mut_prim {R N : Nat} {ns : Nat → Nat} {zs : Nat → Nat → Int} (h : OkT R ns zs N) : Prim fun x => sumN (fun i => sumN (mutV (zs i) (rowSum ns zs i) (colV zs R) N x) (ns 0)) R := by
  refine ⟨fun x => ?_, ?_⟩
  · have h1 := sumN_bound (f := fun i => sumN (mutV (zs i) (rowSum ns zs i) (colV zs R) N x) (ns 0)) (B := 6400000) (n := R) (fun i hi => by
      have h2 := sumN_bound (f := mutV (zs i) (rowSum ns zs i) (colV zs R) N x) (B := 400000) (n := ns 0) (fun j hj => mutV_le x (h.cell hi (by rw [h.even i hi]; exact hj)) (by have := h.row hi; have := h.n6; unfold rowSum; omega) (h.col (Nat.le_refl R) hj) h.n6)
      have : (ns 0 : Int) * 400000 ≤ 6400000 := by have := h.c16; omega
      omega)
    have : (R : Int) * 6400000 ≤ 102400000 := by have := h.r16; omega
    omega
  · refine supp_sum (F := fun i x => sumN (mutV (zs i) (rowSum ns zs i) (colV zs R) N x) (ns 0)) fun i hi => ?_
    refine supp_sum (F := fun j x => mutV (zs i) (rowSum ns zs i) (colV zs R) N x j) fun j hj => ?_
    have hp := h.pos hi hj
    refine (((supp_term _ _ (fun h0 => (hp h0).1)).add (supp_term _ N (fun _ => ⟨h.n1, h.n6⟩))).add (supp_term _ _ (fun h0 => ?_))).add (supp_term _ _ (fun h0 => ?_))
    · exact (hp (by omega)).2.1
    · exact (hp (by omega)).2.2
end Go.Proofs.YtklhfagcembigaaGreatDoor

/- The sides of FANO's inequality: the multiplicities of a prime. -/
namespace Go.Proofs.YtklhfagcembigaaGreatDoor
open Go.RowKit

theorem self_mult {x : Nat} (hx : Pr x) (m : Nat) : mult x (m ^ m) = m * mult x m := by
  rcases Nat.eq_zero_or_pos m with h | h
  · subst h; rw [Nat.pow_zero, Nat.zero_mul]; exact mult_one hx.1
  · exact mult_power hx h m
/-- What is not known of the row, behind the column, as multiplicities. -/
theorem giv_nat {x : Nat} (hx : Pr x) {n C : Nat} {T : Nat → Nat → Int} {Z : Nat → Nat → Nat} (hT : ∀ k, k < C → ∀ i, i < n → T k i = (Z i k : Int)) :
    sumN (givV (fun _ => n) T (x : Int)) C = (sumA (fun k => colN Z n k * mult x (colN Z n k)) C : Int) - (sumA (fun k => sumA (fun i => Z i k * mult x (Z i k)) n) C : Int) := by
  have e : ∀ m, multI (x : Int) m = (mult x m : Int) := fun m => by rw [multI_pr (by simpa using hx)]; simp
  have row : ∀ k, k < C → givV (fun _ => n) T (x : Int) k = ((colN Z n k * mult x (colN Z n k) : Nat) : Int) - ((sumA (fun i => Z i k * mult x (Z i k)) n : Nat) : Int) := fun k hk => by
    have hs : sumN (T k) n = (colN Z n k : Int) := by
      rw [sumN_nat2 (a := fun i => Z i k) (fun i hi => hT k hk i hi)]
      unfold colN; rw [sumW_A]
    have h1 : sumN (entV (T k) (colN Z n k) (x : Int)) n = sumN (fun i => ((Z i k : Nat) : Int) * (mult x (colN Z n k) : Int) - ((Z i k * mult x (Z i k) : Nat) : Int)) n := sumN_congr fun i hi => by
      unfold entV
      rw [hT k hk i hi]
      simp only [Int.toNat_natCast, e, Int.natCast_mul]
    have h2 : sumN (fun i => ((Z i k : Nat) : Int)) n = (colN Z n k : Int) := by
      rw [sumN_nat2 (a := fun i => Z i k) (fun _ _ => rfl)]
      unfold colN; rw [sumW_A]
    unfold givV
    rw [hs, Int.toNat_natCast, h1, sumN_less, sumN_times, h2, sumN_nat2 (a := fun i => Z i k * mult x (Z i k)) (fun _ _ => rfl), Int.natCast_mul]
  rw [sumN_congr row, sumN_less, sumN_nat2 (a := fun k => colN Z n k * mult x (colN Z n k)) (fun _ _ => rfl), sumN_nat2 (a := fun k => sumA (fun i => Z i k * mult x (Z i k)) n) (fun _ _ => rfl)]
/-- The sides of FANO's inequality: S of N guesses are right, E are wrong. -/
theorem fano_sides {n C N S E : Nat} {T : Nat → Nat → Int} {Z : Nat → Nat → Nat} (hn : 1 < n) (h0 : 0 < N) (hN : N = allN Z n C) (hS : S = rightN Z n C) (hE : E = N - S) (hT : ∀ k, k < C → ∀ i, i < n → T k i = (Z i k : Int)) :
    ∃ U D : Nat, 0 < U ∧ 0 < D ∧ D ≤ U ∧ ∀ x : Nat, Pr x → ((E : Int) * multI (x : Int) N - (E : Int) * multI (x : Int) E) + ((S : Int) * multI (x : Int) N - (S : Int) * multI (x : Int) S) + (E : Int) * multI (x : Int) (n - 1) - sumN (givV (fun _ => n) T (x : Int)) C = (mult x U : Int) - (mult x D : Int) := by
  have hle : S ≤ N := by rw [hS, hN]; exact rightN_le Z n C
  have h2 : Pr 2 := ⟨by omega, fun d hd hdd => by have := Nat.mul_le_mul hd hd; omega⟩
  have p1 : ∀ k, k < C → ∀ i, i < n → 0 < Z i k → 0 < Z i k := fun _ _ _ _ h => h
  have p2 : ∀ k, k < C → 0 < colN Z n k → 0 < colN Z n k := fun _ _ h => h
  have u2 := (mult_prod2 h2 (a := fun k i => Z i k) (b := fun k i => Z i k) p1).2
  have d2 := (mult_prod1 h2 (a := colN Z n) (b := colN Z n) p2).2
  have hf := fano_guess Z n C N S hn hN hS
  rw [← hE] at hf
  have n1 : 0 < n - 1 := by omega
  refine ⟨_, _, Nat.mul_pos (Nat.mul_pos (Nat.pow_pos n1) (Nat.pow_pos h0)) u2, Nat.mul_pos d2 (Nat.mul_pos (self_pos S) (self_pos E)), hf, fun x hx => ?_⟩
  have e : ∀ m, multI (x : Int) m = (mult x m : Int) := fun m => by rw [multI_pr (by simpa using hx)]; simp
  rw [giv_nat hx hT, mult_mul hx _ _ (Nat.mul_pos (Nat.pow_pos n1) (Nat.pow_pos h0)) u2, mult_mul hx _ _ (Nat.pow_pos n1) (Nat.pow_pos h0), mult_mul hx _ _ d2 (Nat.mul_pos (self_pos S) (self_pos E)), mult_mul hx _ _ (self_pos S) (self_pos E), self_mult hx S, self_mult hx E, mult_power hx n1, mult_power hx h0, (mult_prod2 hx (a := fun k i => Z i k) (b := fun k i => Z i k) p1).1, (mult_prod1 hx (a := colN Z n) (b := colN Z n) p2).1]
  simp only [e, Int.natCast_add, Int.natCast_mul]
  have h4 : (N : Int) = (S : Int) + (E : Int) := by omega
  have h5 : (N : Int) * (mult x N : Int) = (S : Int) * (mult x N : Int) + (E : Int) * (mult x N : Int) := by rw [h4, Int.add_mul]
  omega
end Go.Proofs.YtklhfagcembigaaGreatDoor

/- Lists put in order, the greatest first; guesses one by one. -/
namespace Go.Proofs.YtklhfagcembigaaGreatDoor

/-- The numbers of a list, the greatest first. -/
def dnL (z : Nat → Int) (n : Nat) : List Int := ((rowL z n).mergeSort fun x y => decide (x ≤ y)).reverse
theorem dnL_perm (z : Nat → Int) (n : Nat) : (dnL z n).Perm (rowL z n) := (List.reverse_perm _).trans (List.mergeSort_perm _ _)
theorem dnL_length (z : Nat → Int) (n : Nat) : (dnL z n).length = n := by rw [(dnL_perm z n).length_eq, rowL_length]
theorem dnL_down (z : Nat → Int) (n : Nat) : (dnL z n).Pairwise (fun a b => b ≤ a) := by
  unfold dnL
  rw [List.pairwise_reverse]
  have h := List.pairwise_mergeSort (le := fun x y : Int => decide (x ≤ y)) (fun a b c h1 h2 => by simp at *; omega) (fun a b => by simp; omega) (rowL z n)
  exact h.imp fun h => by simpa using h
theorem dnL_only {z : Nat → Int} {n : Nat} {l : List Int} (hp : l.Perm (rowL z n)) (hd : l.Pairwise (fun a b => b ≤ a)) : l = dnL z n :=
  List.Perm.eq_of_pairwise (le := fun a b => b ≤ a) (fun a b _ _ h1 h2 => by omega) hd (dnL_down z n) (hp.trans (dnL_perm z n).symm)
theorem dnL_mem {z : Nat → Int} {n : Nat} {x : Int} (h : x ∈ dnL z n) : ∃ i, i < n ∧ x = z i := by
  have h1 := (dnL_perm z n).mem_iff.1 h
  unfold rowL at h1
  obtain ⟨i, hi, rfl⟩ := List.mem_map.1 h1
  exact ⟨i, List.mem_range.1 hi, rfl⟩
theorem dnL_at {z : Nat → Int} {n j : Nat} (hj : j < n) : ∃ i, i < n ∧ atF (dnL z n) j = z i := by
  have hl := dnL_length z n
  have h1 : atF (dnL z n) j ∈ dnL z n := by
    unfold atF
    rw [List.getD_eq_getElem?_getD, List.getElem?_eq_getElem (by omega)]
    exact List.getElem_mem _
  exact dnL_mem h1
/-- Guesses, one by one. -/
def gueN (f : Nat → Int) (n : Nat) : Int := sumN (fun i => ((i : Int) + 1) * f i) n
theorem gue_part {f : Nat → Int} {n k : Nat} (hn : n ≤ 16) (h : ∀ i, i < n → 0 ≤ f i ∧ f i ≤ 4096) (hk : k ≤ n) : 0 ≤ gueN f k ∧ gueN f k ≤ (k : Int) * 65536 := by
  induction k with
  | zero => exact ⟨Int.le_refl _, Int.le_refl _⟩
  | succ k ih =>
    have h1 := ih (by omega)
    have h2 := h k (by omega)
    have h3 : 0 ≤ ((k : Int) + 1) * f k := Int.mul_nonneg (by omega) h2.1
    have h4 : ((k : Int) + 1) * f k ≤ 16 * 4096 := Int.mul_le_mul (by omega) h2.2 h2.1 (by omega)
    show 0 ≤ gueN f k + ((k : Int) + 1) * f k ∧ gueN f k + ((k : Int) + 1) * f k ≤ _
    omega
theorem gue_term {f : Nat → Int} {n k : Nat} (hn : n ≤ 16) (h : ∀ i, i < n → 0 ≤ f i ∧ f i ≤ 4096) (hk : k < n) : 0 ≤ ((k : Int) + 1) * f k ∧ ((k : Int) + 1) * f k ≤ 65536 := by
  have h2 := h k hk
  exact ⟨Int.mul_nonneg (by omega) h2.1, Int.mul_le_mul (c := 16) (d := 4096) (by omega) h2.2 h2.1 (by omega)⟩
/-- Guesses of weights. -/
def gueZ (z : Nat → Int) (n : Nat) : Nat := (gueN (atF (dnL z n)) n).toNat
theorem dn_right {z : Nat → Int} {n : Nat} (h : OkW z n) (i : Nat) (hi : i < n) : 0 ≤ atF (dnL z n) i ∧ atF (dnL z n) i ≤ 4096 := by
  obtain ⟨j, hj, e⟩ := dnL_at (z := z) hi
  rw [e]; exact h.lt hj
theorem gueZ_eq {z : Nat → Int} {n : Nat} (h : OkW z n) (hn : n ≤ 16) : (gueZ z n : Int) = gueN (atF (dnL z n)) n ∧ gueZ z n ≤ 1048576 := by
  have h1 := gue_part hn (dn_right h) (Nat.le_refl n)
  unfold gueZ
  exact ⟨by omega, by omega⟩
/-- A fraction in its lowest terms. -/
def gueV (T S : Nat) : Value := .agg #[.int .i64 ((T / Nat.gcd T S : Nat) : Int), .int .i64 ((S / Nat.gcd T S : Nat) : Int)]
end Go.Proofs.YtklhfagcembigaaGreatDoor

/- The library contracts of slices.Clone, slices.Sort and slices.Reverse laid at the numbers of this translation. -/
namespace Go.Proofs
open Go.Shelf
def Tryz.cloneA_ren : Go.Shelf.Ren := ⟨fun | 15 => 43 | n => n, fun | 22 => 22 | 3 => 3 | 4 => 4 | n => n, fun | n => n⟩
theorem Tryz.cloneA : Go.Proofs.Lays2.n15 Tryz.prog Tryz.cloneA_ren := {
  mixed := by kernel_rfl
  f15 := Tryz.func43.trans (congrArg some (by kernel_rfl))
  t3 := Tryz.underlying3
  a3 := Tryz.isAgg3
  z3 := Tryz.sizeOf3
  v3 := Tryz.zeroValue3
  t4 := Tryz.underlying4
  a4 := Tryz.isAgg4
  z4 := Tryz.sizeOf4
  v4 := Tryz.zeroValue4
  t22 := Tryz.underlying22
  a22 := Tryz.isAgg22
  z22 := Tryz.sizeOf22
  v22 := Tryz.zeroValue22
  i3 := by kernel_rfl }
def Tryz.sortR_ren : Go.Shelf.Ren := ⟨fun | 189 => 44 | 125 => 76 | 257 => 75 | 128 => 108 | 129 => 109 | 294 => 99 | 295 => 100 | 296 => 101 | 297 => 102 | 298 => 103 | 299 => 104 | 216 => 105 | 300 => 106 | 301 => 107 | 328 => 119 | 329 => 120 | 330 => 121 | 331 => 122 | 332 => 123 | 215 => 115 | 343 => 126 | n => n, fun | 28 => 22 | 3 => 3 | 46 => 115 | 0 => 0 | 51 => 153 | 53 => 118 | 4 => 4 | 183 => 146 | 182 => 145 | 131 => 93 | 5 => 5 | 9 => 9 | 218 => 173 | 222 => 177 | 228 => 181 | 229 => 73 | n => n, fun | n => n⟩
theorem Tryz.sortR : Go.Proofs.Lays.n189 Tryz.prog Tryz.sortR_ren := {
  mixed := by kernel_rfl
  f125 := Tryz.func76.trans (congrArg some (by kernel_rfl))
  f128 := Tryz.func108.trans (congrArg some (by kernel_rfl))
  f129 := Tryz.func109.trans (congrArg some (by kernel_rfl))
  f189 := Tryz.func44.trans (congrArg some (by kernel_rfl))
  f215 := Tryz.func115.trans (congrArg some (by kernel_rfl))
  f216 := Tryz.func105.trans (congrArg some (by kernel_rfl))
  f257 := Tryz.func75.trans (congrArg some (by kernel_rfl))
  f294 := Tryz.func99.trans (congrArg some (by kernel_rfl))
  f295 := Tryz.func100.trans (congrArg some (by kernel_rfl))
  f296 := Tryz.func101.trans (congrArg some (by kernel_rfl))
  f297 := Tryz.func102.trans (congrArg some (by kernel_rfl))
  f298 := Tryz.func103.trans (congrArg some (by kernel_rfl))
  f299 := Tryz.func104.trans (congrArg some (by kernel_rfl))
  f300 := Tryz.func106.trans (congrArg some (by kernel_rfl))
  f301 := Tryz.func107.trans (congrArg some (by kernel_rfl))
  f328 := Tryz.func119.trans (congrArg some (by kernel_rfl))
  f329 := Tryz.func120.trans (congrArg some (by kernel_rfl))
  f330 := Tryz.func121.trans (congrArg some (by kernel_rfl))
  f331 := Tryz.func122.trans (congrArg some (by kernel_rfl))
  f332 := Tryz.func123.trans (congrArg some (by kernel_rfl))
  f343 := Tryz.func126.trans (congrArg some (by kernel_rfl))
  t0 := Tryz.underlying0
  a0 := Tryz.isAgg0
  z0 := Tryz.sizeOf0
  v0 := Tryz.zeroValue0
  t3 := Tryz.underlying3
  a3 := Tryz.isAgg3
  z3 := Tryz.sizeOf3
  v3 := Tryz.zeroValue3
  t4 := Tryz.underlying4
  a4 := Tryz.isAgg4
  z4 := Tryz.sizeOf4
  v4 := Tryz.zeroValue4
  t5 := Tryz.underlying5
  a5 := Tryz.isAgg5
  z5 := Tryz.sizeOf5
  v5 := Tryz.zeroValue5
  t9 := Tryz.underlying9
  a9 := Tryz.isAgg9
  z9 := Tryz.sizeOf9
  v9 := Tryz.zeroValue9
  t28 := Tryz.underlying22
  a28 := Tryz.isAgg22
  z28 := Tryz.sizeOf22
  v28 := Tryz.zeroValue22
  t46 := Tryz.underlying115
  a46 := Tryz.isAgg115
  z46 := Tryz.sizeOf115
  v46 := Tryz.zeroValue115
  t51 := Tryz.underlying153
  a51 := Tryz.isAgg153
  z51 := Tryz.sizeOf153
  v51 := Tryz.zeroValue153
  t53 := Tryz.underlying118
  a53 := Tryz.isAgg118
  z53 := Tryz.sizeOf118
  v53 := Tryz.zeroValue118
  t131 := Tryz.underlying93
  a131 := Tryz.isAgg93
  z131 := Tryz.sizeOf93
  v131 := Tryz.zeroValue93
  t182 := Tryz.underlying145
  a182 := Tryz.isAgg145
  z182 := Tryz.sizeOf145
  v182 := Tryz.zeroValue145
  t183 := Tryz.underlying146
  a183 := Tryz.isAgg146
  z183 := Tryz.sizeOf146
  v183 := Tryz.zeroValue146
  t218 := Tryz.underlying173
  a218 := Tryz.isAgg173
  z218 := Tryz.sizeOf173
  v218 := Tryz.zeroValue173
  t222 := Tryz.underlying177
  a222 := Tryz.isAgg177
  z222 := Tryz.sizeOf177
  v222 := Tryz.zeroValue177
  t228 := Tryz.underlying181
  a228 := Tryz.isAgg181
  z228 := Tryz.sizeOf181
  v228 := Tryz.zeroValue181
  t229 := Tryz.underlying73
  a229 := Tryz.isAgg73
  z229 := Tryz.sizeOf73
  v229 := Tryz.zeroValue73 }
def Tryz.reverseA_ren : Go.Shelf.Ren := ⟨fun | 112 => 45 | n => n, fun | 28 => 22 | 3 => 3 | 4 => 4 | 0 => 0 | n => n, fun | n => n⟩
theorem Tryz.reverseA : Go.Proofs.Lays.n112 Tryz.prog Tryz.reverseA_ren := {
  mixed := by kernel_rfl
  f112 := Tryz.func45.trans (congrArg some (by kernel_rfl))
  t0 := Tryz.underlying0
  a0 := Tryz.isAgg0
  z0 := Tryz.sizeOf0
  v0 := Tryz.zeroValue0
  t3 := Tryz.underlying3
  a3 := Tryz.isAgg3
  z3 := Tryz.sizeOf3
  v3 := Tryz.zeroValue3
  t4 := Tryz.underlying4
  a4 := Tryz.isAgg4
  z4 := Tryz.sizeOf4
  v4 := Tryz.zeroValue4
  t28 := Tryz.underlying22
  a28 := Tryz.isAgg22
  z28 := Tryz.sizeOf22
  v28 := Tryz.zeroValue22 }
end Go.Proofs

/- A list of one's own, put in order and turned over. -/
namespace Go.Proofs.YtklhfagcembigaaGreatDoor
open Go.RowKit Go.Shelf Go.Sort

/-- A row that may be put into. -/
def FreeAt (w : World) (g n : Nat) (z : Nat → Int) : Prop := RowAt w g 0 n z ∧ ∀ j, j < n → w.frozen? ⟨g, 0 + j, none⟩ = false
theorem FreeAt.holds {w : World} {g : Nat} {l : List Int} (h : FreeAt w g l.length (atF l)) : Sort.Holds (Value.int .i64) w g 0 l.toArray := fun j hj => by
  have hj' : j < l.length := by simpa using hj
  refine ⟨?_, h.2 j hj'⟩
  rw [h.1 j hj', getElem!_pos l.toArray j hj]
  simp [atF, hj']
theorem FreeAt.of_holds {w : World} {g : Nat} {l : List Int} (h : Sort.Holds (Value.int .i64) w g 0 l.toArray) : FreeAt w g l.length (atF l) :=
  ⟨fun j hj => by
    have hj' : j < l.toArray.size := by simpa using hj
    rw [(h j hj').1, getElem!_pos l.toArray j hj']
    simp [atF, hj], fun j hj => (h j (by simpa using hj)).2⟩
theorem below_sortR {g n : Nat} {w W : World} {D : Array Int} {os : Array Obj} (h : Below w.heap.size w W) (hg : w.heap.size ≤ g) : Below w.heap.size w (Sort.grow (Sort.putRow (Value.int .i64) (Sort.ahead W n) g 0 D) os) :=
  ⟨h.os, h.tape, h.output, by have := h.size; rw [Sort.size_grow, Sort.size_putRow]; show w.heap.size ≤ W.heap.size + os.size; omega, fun k hk => by
    have := h.size
    rw [← h.block k hk, Sort.heap_grow_old _ _ (by rw [Sort.size_putRow]; show k < W.heap.size; omega)]
    simp only [Sort.putRow, Sort.mapBlock, Array.getElem?_modify]
    rw [if_neg (by omega)]; rfl⟩
theorem clone_free (v : Value) (n : Nat) (z : Nat → Int) (w : World) (h : NumsAt w v n z) (h0 : 0 < n) (hn : n ≤ 100000) :
    Calls Tryz.prog 43 #[v] w fun e w' => ∃ g cap, e = .returned (.slice (some ⟨g, 0, none⟩) n cap) ∧ w.heap.size ≤ g ∧ g < w'.heap.size ∧ FreeAt w' g n z ∧ Below w.heap.size w w' := by
  rcases h with ⟨_, _, _, h1⟩ | ⟨b, o, cap, rfl, _, hr⟩
  · omega
  refine (Any.slices_Clone_int (ρ := Tryz.cloneA_ren) Tryz.cloneA b o n cap (rowL z n) w (by rw [rowL_length]; exact Nat.le_refl _) (by omega) (fun j hj => ?_)).mono ?_
  · rw [rowL_length] at hj
    rw [hr j hj]
    simp [rowL, hj]
  · rintro e w' ⟨v', rfl, h1, _, h2⟩
    obtain ⟨hl, hrr⟩ := h1
    rcases hrr with ⟨hx, hy⟩ | ⟨g', cap', cur, hv, hg, hh, hnc, _, hs, ht⟩
    · omega
    · have hgl : g' < w'.heap.size := (Array.getElem?_eq_some_iff.1 hh).1
      refine ⟨g', cap', by rw [hv], hg, hgl, ⟨fun i hi => ?_, fun i hi => by simp [World.frozen?, hh]⟩, h2⟩
      have e1 : cur.toList[i]? = some (.int .i64 (z i)) := by
        have e2 : (cur.toList.take (n * 1))[i]? = some (.int .i64 (z i)) := by
          rw [ht, List.take_of_length_le (by rw [rowL_length]; exact Nat.le_refl _)]
          simp [rowL, hi]
        rwa [List.getElem?_take_of_lt (by omega)] at e2
      simp only [World.cell?, hh, Nat.zero_add]
      simp only [Option.isSome_none, Bool.false_eq_true, if_false]
      rw [← Array.getElem?_toList]; exact e1
theorem sort_free (g cap n : Nat) (z : Nat → Int) (w0 w : World) (h : FreeAt w g n z) (hg : w0.heap.size ≤ g) (hgl : g < w.heap.size) (hn : n ≤ 100000) (hb : Below w0.heap.size w0 w) :
    Calls Tryz.prog 44 #[.slice (some ⟨g, 0, none⟩) n cap] w fun e w' => e = .returned (.tuple #[]) ∧ g < w'.heap.size ∧ FreeAt w' g n (atF ((rowL z n).mergeSort fun x y => decide (x ≤ y))) ∧ Below w0.heap.size w0 w' := by
  have hl := rowL_length z n
  have hH : Sort.Holds (Value.int .i64) w g 0 (rowL z n).toArray := FreeAt.holds (l := rowL z n) (by
    rw [hl]
    exact ⟨fun j hj => by rw [h.1 j hj]; simp [atF, rowL, hj], h.2⟩)
  have hs := Any.slices_Sort_int (ρ := Tryz.sortR_ren) Tryz.sortR g 0 cap (rowL z n) w hH hgl (by rw [hl]; omega)
  rw [hl] at hs
  refine hs.mono ?_
  rintro e w' ⟨rfl, m, os, rfl⟩
  have hl2 : ((rowL z n).mergeSort fun x y => decide (x ≤ y)).length = n := by rw [List.length_mergeSort, hl]
  refine ⟨rfl, by rw [Sort.size_grow, Sort.size_putRow]; show g < w.heap.size + os.size; omega, ?_, below_sortR hb hg⟩
  have h1 := Sort.holds_grow (Value.int .i64) (Sort.putRow (Value.int .i64) (Sort.ahead w m) g 0 ((rowL z n).mergeSort fun x y => decide (x ≤ y)).toArray) os g 0 ((rowL z n).mergeSort fun x y => decide (x ≤ y)).toArray (by rw [Sort.size_putRow]; exact hgl) (Sort.holds_putRow (Value.int .i64) (Sort.ahead w m) g 0 (rowL z n).toArray _ hH (by simp))
  have h2 := FreeAt.of_holds h1
  rwa [hl2] at h2
theorem turn_free (g cap n : Nat) (l : List Int) (w0 w : World) (hl : l.length = n) (h : FreeAt w g n (atF l)) (hg : w0.heap.size ≤ g) (hn : n ≤ 100000) (hb : Below w0.heap.size w0 w) :
    Calls Tryz.prog 45 #[.slice (some ⟨g, 0, none⟩) n cap] w fun e w' => e = .returned (.tuple #[]) ∧ FreeAt w' g n (atF l.reverse) ∧ Below w0.heap.size w0 w' := by
  subst hl
  have hH := FreeAt.holds h
  have hs := Any.slices_Reverse_int (ρ := Tryz.reverseA_ren) Tryz.reverseA g 0 cap l w hH (by omega)
  refine hs.mono ?_
  rintro e w' ⟨rfl, m, rfl⟩
  refine ⟨rfl, ?_, ?_⟩
  · have h2 := FreeAt.of_holds (Sort.holds_putRow (Value.int .i64) (Sort.ahead w m) g 0 l.toArray l.reverse.toArray hH (by simp))
    rwa [List.length_reverse] at h2
  · have := below_sortR (n := m) (D := l.reverse.toArray) (os := #[]) hb hg
    rwa [Sort.grow_empty] at this
end Go.Proofs.YtklhfagcembigaaGreatDoor

/- The program's Guesses; the closed fact at the head of all Renyi laws: of four even ones two and a half guesses. -/
namespace Go.Proofs.YtklhfagcembigaaGreatDoor
open Go.RowKit

theorem put_twoR {W : World} {b : Nat} {x0 x1 : Value} (y0 y1 : Value) (h0 : W.cell? ⟨b, 0, none⟩ = some x0) (h1 : W.cell? ⟨b, 1, none⟩ = some x1) :
    (W.setCell ⟨b, 0, none⟩ y0).cell? ⟨b, 1, none⟩ = some x1 ∧ ((W.setCell ⟨b, 0, none⟩ y0).setCell ⟨b, 1, none⟩ y1).cell? ⟨b, 0, none⟩ = some y0 ∧ ((W.setCell ⟨b, 0, none⟩ y0).setCell ⟨b, 1, none⟩ y1).cell? ⟨b, 1, none⟩ = some y1 := by
  have e1 : (W.setCell ⟨b, 0, none⟩ y0).cell? ⟨b, 1, none⟩ = some x1 := by rw [World.cell?_setCell_other _ _ _ _ (by simp)]; exact h1
  refine ⟨e1, ?_, World.cell?_setCell_same _ _ _ e1⟩
  rw [World.cell?_setCell_other _ _ _ _ (by simp)]
  exact World.cell?_setCell_same _ _ _ h0
theorem nums_row {w : World} {v : Value} {n : Nat} {z : Nat → Int} (h : NumsAt w v n z) (h0 : 0 < n) : ∃ b o cap, v = .slice (some ⟨b, o, none⟩) n cap ∧ RowAt w b o n z := by
  rcases h with ⟨_, _, _, h1⟩ | ⟨b, o, cap, hv, _, hr⟩
  · omega
  · exact ⟨b, o, cap, hv, hr⟩

set_option maxRecDepth 100000 in
set_option maxHeartbeats 4000000 in
theorem Guesses_ok (a : Nat → Addr) (v : Value) (n S : Nat) (z : Nat → Int) (w : World) (hE : Errs w a) (h : NumsAt w v n z) (hS : sumN z n = (S : Int)) (hw0 : weightsErr z n = 0) :
    Calls Tryz.prog 20 #[v] w fun e w' => e = .returned (.tuple #[gueV (gueZ z n) S, .nilIface]) ∧ Below w.heap.size w w' := by
  obtain ⟨h16, hok⟩ := weightsErr_ok hw0
  have hn0 := hok.posN
  obtain ⟨b, o, cap, rfl, hrow⟩ := nums_row h hn0
  have hp := hok.pos
  have hl := hok.le
  obtain ⟨W0, hW0⟩ : ∃ W0, W0 = w.alloc (.cells #[.int .i64 0, .int .i64 0] 38) := ⟨_, rfl⟩
  have hb0 : Below w.heap.size w W0 := by rw [hW0]; exact (Below.refl _ _).alloc (Nat.le_refl _) _
  have c0 : W0.cell? ⟨w.heap.size, 0, none⟩ = some (.int .i64 0) := by rw [hW0]; simp
  have c1 : W0.cell? ⟨w.heap.size, 1, none⟩ = some (.int .i64 0) := by rw [hW0]; simp
  have f0 : W0.frozen? ⟨w.heap.size, 0, none⟩ = false := by rw [hW0]; simp
  have f1 : W0.frozen? ⟨w.heap.size, 1, none⟩ = false := by rw [hW0]; simp
  have HC : Hid (∀ W, Below W0.heap.size W0 W → (W.cell? ⟨w.heap.size, 0, none⟩ = some (.int .i64 0) ∧ W.cell? ⟨w.heap.size, 1, none⟩ = some (.int .i64 0)) ∧ W.frozen? ⟨w.heap.size, 0, none⟩ = false ∧ W.frozen? ⟨w.heap.size, 1, none⟩ = false) := fun W hb => ⟨⟨by rw [hb.cell (cell_lt c0)]; exact c0, by rw [hb.cell (cell_lt c1)]; exact c1⟩, by rw [hb.frozen (show w.heap.size < W0.heap.size from cell_lt c0)]; exact f0, by rw [hb.frozen (show w.heap.size < W0.heap.size from cell_lt c0)]; exact f1⟩
  have HEND : Hid (∀ W, Below W0.heap.size W0 W → Below w.heap.size w W) := fun W hb => hb0.trans (hb.mono hb0.size)
  have HV := Hid.mk' (Valid_weights a _ n z W0 (hE.below hb0) (h.later hb0) (by omega))
  rw [hw0, errV_zero] at HV
  have HCL := Hid.mk' (clone_free _ n z W0 (h.later hb0) hn0 (by omega))
  have HTO := Hid.mk' (fun (W : World) (hb : Below W0.heap.size W0 W) => by
    have h9 := total_some b o cap n z W ((hrow.later hb0).later hb) (fun k hk => by have := hok.part hk; omega) (fun k hk => by have := hok.lt hk; omega) (by omega)
    rw [hS] at h9
    exact h9)
  have HG := Hid.mk' (gueZ_eq hok h16)
  have HGP := Hid.mk' (fun k hk => gue_part (f := atF (dnL z n)) (n := n) (k := k) h16 (dn_right hok) hk)
  have HGT := Hid.mk' (fun k hk => gue_term (f := atF (dnL z n)) (n := n) (k := k) h16 (dn_right hok) hk)
  have hS0 : 1 ≤ S := by omega
  have hS4 : S ≤ 4096 := by omega
  have HLO := Hid.mk' (fun (W : World) (T : Nat) (hT : T ≤ 1048576) => lowest_any (T : Int) S W (by omega) (by omega) hS0 (by omega) (Nat.gcd T S) rfl)
  have HTD : Hid (∀ T : Nat, ((T : Int).tdiv ((Nat.gcd T S : Nat) : Int)) = ((T / Nat.gcd T S : Nat) : Int)) := fun T => rfl
  have HW0 := Hid.mk' hW0
  have HSF := Hid.mk' (fun (g cap' : Nat) (W : World) hf hg hgl hb => sort_free g cap' n z W0 W hf hg hgl (by omega) hb)
  have HTF := Hid.mk' (fun (g cap' : Nat) (W : World) hf hg hb => turn_free g cap' n ((rowL z n).mergeSort fun x y => decide (x ≤ y)) W0 W (by rw [List.length_mergeSort, rowL_length]) hf hg (by omega) hb)
  clear hE h hrow hok hw0 hS hb0 hW0 hp hl c0 c1 f0 f1
  go_enter Tryz.func20, Tryz.ntmps20
  go_upto_region 1 with fail
  rw [← HW0.out]
  go_wp2_with fail
  refine HV.out.mono ?_
  rintro e w2 ⟨rfl, hw2⟩
  rw [hw2]
  clear hw2 HV
  go_wp2_with fail
  refine HCL.out.mono ?_
  rintro e w3 ⟨g, gcap, rfl, hg, hgl, hf3, hb3⟩
  have HS3 := Hid.mk' (HSF.out g gcap w3 hf3 hg hgl hb3)
  have HGG := Hid.mk' hg
  clear hf3 hgl hb3 HCL HSF hg
  go_wp2_with fail
  refine HS3.out.mono ?_
  rintro e w4 ⟨rfl, hgl, hf4, hb4⟩
  have HS4 := Hid.mk' (HTF.out g gcap w4 hf4 HGG.out hb4)
  clear hf4 hgl hb4 HS3 HTF
  go_wp2_with fail
  refine HS4.out.mono ?_
  rintro e w5 ⟨rfl, hf5, hb5⟩
  have HR : Hid (RowAt w5 g 0 n (atF (dnL z n))) := hf5.1
  have HB5 := Hid.mk' hb5
  clear hf5 hb5 HS4
  go_wp2_with fail
  go_loopw [6, 23] (fun s t wr => ∃ k : Nat, k ≤ n ∧ s = .int .i64 (gueN (atF (dnL z n)) k) ∧ t = .int .i64 (k : Int) ∧ wr = w5) (fun _ t _ => n - (intOf t).toNat)
  case atStart => exact ⟨0, Nat.zero_le _, rfl, rfl, rfl⟩
  case round =>
    obtain ⟨k, hk, rfl, rfl, hwr⟩ := hrel
    rw [hwr]
    clear hwr
    have hk0 : (0 : Int) ≤ (k : Int) := by omega
    have hgp := HGP.out k hk
    rcases Nat.lt_or_ge k n with h1 | h1
    · have hkI : (k : Int) < (n : Int) := by omega
      have hc := HR.out k h1
      rw [Nat.zero_add] at hc
      have hgt := HGT.out k h1
      have HN : Hid (gueN (atF (dnL z n)) (k + 1) = gueN (atF (dnL z n)) k + ((k : Int) + 1) * atF (dnL z n) k) := rfl
      generalize gueN (atF (dnL z n)) k = s at *
      generalize atF (dnL z n) k = x at *
      go_wp2_with fail
      exact ⟨⟨k + 1, h1, by rw [HN.out], by go_num, trivial⟩, by simp [intOf]; omega⟩
    · obtain rfl : k = n := by omega
      have hkI : ¬ (k : Int) < (k : Int) := by omega
      have HT5 := Hid.mk' (HTO.out w5 HB5.out)
      have HL5 := Hid.mk' (HLO.out w5 (gueZ z k) HG.out.2)
      have HTR := Hid.mk' (HTD.out (gueZ z k))
      have HFV : Hid (gueV (gueZ z k) S = .agg #[.int .i64 ((gueZ z k / Nat.gcd (gueZ z k) S : Nat) : Int), .int .i64 ((S / Nat.gcd (gueZ z k) S : Nat) : Int)]) := rfl
      rw [HTR.out] at HL5
      rw [← HG.out.1]
      clear HTR HLO HGP HGT HTO HR hgp HG
      generalize S / Nat.gcd (gueZ z k) S = q2 at *
      generalize gueZ z k / Nat.gcd (gueZ z k) S = q1 at *
      obtain ⟨T, hT⟩ : ∃ T, T = gueZ z k := ⟨_, rfl⟩
      rw [← hT] at HL5 ⊢
      clear hT
      go_wp2_with fail
      refine HT5.out.mono ?_
      rintro e w6 ⟨rfl, hw6⟩
      rw [hw6]
      clear hw6 HT5
      go_wp2_with fail
      refine HL5.out.mono ?_
      rintro e w7 ⟨rfl, hb7⟩
      obtain ⟨⟨d0, d1⟩, d2, d3⟩ := HC.out w7 (below_chain HB5.out hb7)
      have HG := Hid.mk' (put_twoR (.int .i64 (q1 : Int)) (.int .i64 (q2 : Int)) d0 d1)
      have HBE : Hid (Below w.heap.size w ((w7.setCell ⟨w.heap.size, 0, none⟩ (.int .i64 (q1 : Int))).setCell ⟨w.heap.size, 1, none⟩ (.int .i64 (q2 : Int)))) := ((HEND.out w7 (below_chain HB5.out hb7)).setCell (Nat.le_refl _) _).setCell (Nat.le_refl _) _
      obtain ⟨q0, _, _⟩ := HG.out
      clear hb7 HL5
      go_wp2_with fail
      generalize (w7.setCell ⟨w.heap.size, 0, none⟩ (.int .i64 (q1 : Int))).setCell ⟨w.heap.size, 1, none⟩ (.int .i64 (q2 : Int)) = W9 at *
      exact bodyPost_ret (v := .tuple #[.agg #[.int .i64 (q1 : Int), .int .i64 (q2 : Int)], .nilIface]) (by simp [results, Tryz.results20, go_sem, HG.out.2.1, HG.out.2.2]) rfl ⟨by rw [HFV.out], HBE.out⟩
set_option maxRecDepth 100000 in
set_option maxHeartbeats 2000000 in
theorem Guesses_bad (a : Nat → Addr) (v : Value) (n : Nat) (z : Nat → Int) (w : World) (hE : Errs w a) (h : NumsAt w v n z) (hn : n ≤ 1000000) (h0 : weightsErr z n ≠ 0) :
    Calls Tryz.prog 20 #[v] w fun e w' => e = .returned (.tuple #[.agg #[.int .i64 0, .int .i64 0], errV a (weightsErr z n)]) ∧ Below w.heap.size w w' := by
  obtain ⟨W0, hW0⟩ : ∃ W0, W0 = w.alloc (.cells #[.int .i64 0, .int .i64 0] 38) := ⟨_, rfl⟩
  have hb0 : Below w.heap.size w W0 := by rw [hW0]; exact (Below.refl _ _).alloc (Nat.le_refl _) _
  have c0 : W0.cell? ⟨w.heap.size, 0, none⟩ = some (.int .i64 0) := by rw [hW0]; simp
  have c1 : W0.cell? ⟨w.heap.size, 1, none⟩ = some (.int .i64 0) := by rw [hW0]; simp
  have f0 : W0.frozen? ⟨w.heap.size, 0, none⟩ = false := by rw [hW0]; simp
  have f1 : W0.frozen? ⟨w.heap.size, 1, none⟩ = false := by rw [hW0]; simp
  have HV := Hid.mk' (Valid_weights a _ n z W0 (hE.below hb0) (h.later hb0) hn)
  obtain ⟨ad, cap, rfl⟩ := h.form
  rw [errV_pos a h0] at HV ⊢
  have HG := Hid.mk' (put_twoR (.int .i64 0) (.int .i64 0) c0 c1)
  have HBE : Hid (Below w.heap.size w ((W0.setCell ⟨w.heap.size, 0, none⟩ (.int .i64 0)).setCell ⟨w.heap.size, 1, none⟩ (.int .i64 0))) := (hb0.setCell (Nat.le_refl _) _).setCell (Nat.le_refl _) _
  obtain ⟨q0, _, _⟩ := HG.out
  have HW0 := Hid.mk' hW0
  clear hE h hb0 hW0
  go_enter Tryz.func20, Tryz.ntmps20
  go_upto_region 1 with fail
  rw [← HW0.out]
  go_wp2_with fail
  refine HV.out.mono ?_
  rintro e w2 ⟨rfl, hw2⟩
  rw [hw2]
  clear hw2 HV
  go_wp2_with fail
  generalize (W0.setCell ⟨w.heap.size, 0, none⟩ (.int .i64 0)).setCell ⟨w.heap.size, 1, none⟩ (.int .i64 0) = W9 at *
  exact bodyPost_ret (v := .tuple #[.agg #[.int .i64 0, .int .i64 0], .iface 183 (.pointer (some (a (weightsErr z n - 1))))]) (by simp [results, Tryz.results20, go_sem, HG.out.2.1, HG.out.2.2]) rfl ⟨rfl, HBE.out⟩

def evenZ : Nat → Int := fun _ => 1
theorem even_err : weightsErr evenZ 4 = 0 := by decide +kernel
theorem even_list : dnL evenZ 4 = [1, 1, 1, 1] := (dnL_only (z := evenZ) (n := 4) (l := [1, 1, 1, 1]) (List.Perm.refl _) (by decide)).symm
theorem even_ten : gueZ evenZ 4 = 10 := by unfold gueZ; rw [even_list]; decide
theorem even_gue : gueV (gueZ evenZ 4) 4 = .agg #[.int .i64 5, .int .i64 2] := by rw [even_ten]; rfl
set_option maxRecDepth 100000 in
set_option maxHeartbeats 2000000 in
theorem dice_any (a : Nat → Addr) (w : World) (hE : Errs w a) :
    Calls Tryz.prog 6 #[] w fun e w' => e = .returned (.bool true) ∧ Below w.heap.size w w' := by
  obtain ⟨W0, hW0⟩ : ∃ W0, W0 = w.alloc (.cells #[.int .i64 1, .int .i64 1, .int .i64 1, .int .i64 1] 3) := ⟨_, rfl⟩
  have hb0 : Below w.heap.size w W0 := by rw [hW0]; exact (Below.refl _ _).alloc (Nat.le_refl _) _
  have hN : NumsAt W0 (.slice (some ⟨w.heap.size, 0, none⟩) 4 4) 4 evenZ := by
    refine Or.inr ⟨_, 0, 4, rfl, by decide, fun i hi => ?_⟩
    rw [hW0]
    rcases (show i = 0 ∨ i = 1 ∨ i = 2 ∨ i = 3 by omega) with rfl | rfl | rfl | rfl <;> go_simp <;> rfl
  have hG := Guesses_ok a _ 4 4 evenZ W0 (hE.below hb0) hN (by decide +kernel) even_err
  rw [even_gue] at hG
  have HG := Hid.mk' hG
  have HB := Hid.mk' hb0
  have HW := Hid.mk' hW0
  clear hE hb0 hN hG hW0
  go_enter Tryz.func6, Tryz.ntmps6
  go_wp2_with fail
  rw [← HW.out]
  refine HG.out.mono ?_
  rintro e w2 ⟨rfl, hb2⟩
  have HB2 := Hid.mk' (below_chain HB.out hb2)
  clear hb2 HG
  go_wp2_with fail
  go_ret
  exact ⟨rfl, (HB2.out.alloc (by have := HB2.out.size; omega) _)⟩
end Go.Proofs.YtklhfagcembigaaGreatDoor

/- MASSEY's bound, in whole numbers: 4 times (guesses less 1) has a logarithm of the entropy at least, where that is 2 at least. -/
namespace Go.Proofs.YtklhfagcembigaaGreatDoor

theorem prodA_mulR (f g : Nat → Nat) : ∀ n, prodA (fun i => f i * g i) n = prodA f n * prodA g n
  | 0 => rfl
  | n + 1 => by
    show prodA (fun i => f i * g i) n * (f n * g n) = prodA f n * f n * (prodA g n * g n)
    rw [prodA_mulR f g n]
    generalize prodA f n = x
    generalize prodA g n = y
    grind
theorem prodA_powR (a : Nat) (e : Nat → Nat) : ∀ n, prodA (fun i => a ^ e i) n = a ^ sumA e n
  | 0 => rfl
  | n + 1 => by
    show prodA (fun i => a ^ e i) n * a ^ e n = a ^ (sumA e n + e n)
    rw [prodA_powR a e n, Nat.pow_add]
theorem prodA_congrR {f g : Nat → Nat} : ∀ {n : Nat}, (∀ i, i < n → f i = g i) → prodA f n = prodA g n
  | 0, _ => rfl
  | n + 1, h => by
    show prodA f n * f n = prodA g n * g n
    rw [prodA_congrR (fun i hi => h i (by omega)), h n (by omega)]
theorem sumA_congrR {f g : Nat → Nat} : ∀ {n : Nat}, (∀ i, i < n → f i = g i) → sumA f n = sumA g n
  | 0, _ => rfl
  | n + 1, h => by
    show sumA f n + f n = sumA g n + g n
    rw [sumA_congrR (fun i hi => h i (by omega)), h n (by omega)]
theorem sumA_plusR (f g : Nat → Nat) : ∀ n, sumA (fun i => f i + g i) n = sumA f n + sumA g n
  | 0 => rfl
  | n + 1 => by
    show sumA (fun i => f i + g i) n + (f n + g n) = sumA f n + f n + (sumA g n + g n)
    rw [sumA_plusR f g n]; omega
theorem sumA_timesR (k : Nat) (f : Nat → Nat) : ∀ n, sumA (fun i => k * f i) n = k * sumA f n
  | 0 => rfl
  | n + 1 => by
    show sumA (fun i => k * f i) n + k * f n = k * (sumA f n + f n)
    rw [sumA_timesR k f n, Nat.mul_add]
/-- A geometric sum. -/
theorem geo_sum (A S n : Nat) : ∀ m, m ≤ n → sumA (fun i => S * (A ^ i * (A + S) ^ (n - 1 - i))) m + A ^ m * (A + S) ^ (n - m) = (A + S) ^ n
  | 0, _ => by simp [sumA]
  | m + 1, h => by
    have ih := geo_sum A S n m (by omega)
    show sumA (fun i => S * (A ^ i * (A + S) ^ (n - 1 - i))) m + S * (A ^ m * (A + S) ^ (n - 1 - m)) + A ^ (m + 1) * (A + S) ^ (n - (m + 1)) = _
    have e : n - m = (n - 1 - m) + 1 := by omega
    have e2 : n - (m + 1) = n - 1 - m := by omega
    rw [← ih, e, e2, Nat.pow_succ, Nat.pow_succ]
    generalize sumA (fun i => S * (A ^ i * (A + S) ^ (n - 1 - i))) m = x
    generalize (A + S) ^ (n - 1 - m) = y
    generalize A ^ m = z
    grind
theorem massey_geo (w : Nat → Nat) (n A S : Nat) (hS : S = sumA w n) (hA : A = sumA (fun i => i * w i) n) (hS0 : 0 < S) :
    S ^ S * (S ^ S * A ^ A) ≤ (A + S) ^ (A + S) * prodA (fun i => w i ^ w i) n := by
  obtain ⟨T, hT⟩ : ∃ T, T = A + S := ⟨_, rfl⟩
  obtain ⟨b, hb⟩ : ∃ b : Nat → Nat, b = fun i => S * (A ^ i * (A + S) ^ (n - 1 - i)) := ⟨_, rfl⟩
  have h1 := sums_le w b n
  have h2 : sumA b n ≤ T ^ n := by
    have := geo_sum A S n n (Nat.le_refl _)
    rw [hb, hT]; omega
  obtain ⟨E, hE⟩ : ∃ E, E = sumA (fun i => (n - 1 - i) * w i) n := ⟨_, rfl⟩
  have h3 : prodA (fun i => b i ^ w i) n = S ^ S * (A ^ A * T ^ E) := by
    have e : prodA (fun i => b i ^ w i) n = prodA (fun i => S ^ w i * (A ^ (i * w i) * T ^ ((n - 1 - i) * w i))) n := prodA_congrR fun i _ => by
      rw [hb]
      show (S * (A ^ i * (A + S) ^ (n - 1 - i))) ^ w i = _
      rw [Nat.mul_pow, Nat.mul_pow, ← Nat.pow_mul, ← Nat.pow_mul, ← hT]
    rw [e, prodA_mulR, prodA_mulR, prodA_powR, prodA_powR, prodA_powR, ← hS, ← hA, ← hE]
  have h4 : E + T = n * S := by
    rw [hE, hT, hA, hS]
    have e1 : sumA (fun i => (n - 1 - i) * w i) n + (sumA (fun i => i * w i) n + sumA w n) = sumA (fun i => n * w i) n := by
      rw [← sumA_plusR, ← sumA_plusR]
      refine sumA_congrR fun i hi => ?_
      obtain ⟨d, rfl⟩ : ∃ d, n = i + 1 + d := ⟨n - (i + 1), by omega⟩
      have : i + 1 + d - 1 - i = d := by omega
      rw [this]; grind
    rw [e1, sumA_timesR]
  rw [h3, ← hS] at h1
  have hT0 : 0 < T ^ E := Nat.pow_pos (by omega)
  have h5 : S ^ S * (S ^ S * (A ^ A * T ^ E)) ≤ (T ^ n) ^ S * prodA (fun i => w i ^ w i) n := Nat.le_trans h1 (Nat.mul_le_mul_right _ (Nat.pow_le_pow_left h2 S))
  rw [← Nat.pow_mul, ← h4, Nat.pow_add] at h5
  rw [← hT]
  refine Nat.le_of_mul_le_mul_right (c := T ^ E) ?_ hT0
  generalize prodA (fun i => w i ^ w i) n = W at *
  generalize T ^ E = t1 at *
  generalize T ^ T = t2 at *
  generalize S ^ S = t3 at *
  generalize A ^ A = t4 at *
  have e1 : t3 * (t3 * t4) * t1 = t3 * (t3 * (t4 * t1)) := by grind
  have e2 : t2 * W * t1 = t1 * t2 * W := by grind
  rw [e1, e2]; exact h5
/-- Where there is as much ahead as behind. -/
theorem half_chord (A S : Nat) (h : S ≤ A) : (A + S) ^ (A + S) ≤ 4 ^ S * A ^ (A + S) := by
  rcases Nat.eq_zero_or_pos S with rfl | hS
  · simp
  have h1 := sum2_le (A - S) (2 * S) (2 * (A - S)) (2 * S)
  have e1 : A - S + 2 * S = A + S := by omega
  have e2 : 2 * (A - S) + 2 * S = 2 * A := by omega
  rw [e1, e2, Nat.mul_pow 2 (A - S) (A - S), Nat.mul_pow 2 A] at h1
  have p1 : 0 < (A - S) ^ (A - S) := self_pos _
  have p2 : 0 < (2 * S) ^ (2 * S) := self_pos _
  have p3 : 0 < 2 ^ (A - S) := Nat.pow_pos (by omega)
  have e3 : (2 : Nat) ^ (A + S) = 2 ^ (A - S) * 4 ^ S := by
    rw [show (4 : Nat) = 2 ^ 2 from rfl, ← Nat.pow_mul, ← Nat.pow_add]
    congr 1; omega
  rw [e3] at h1
  generalize (A - S) ^ (A - S) = x at *
  generalize (2 * S) ^ (2 * S) = y at *
  generalize (2 : Nat) ^ (A - S) = z at *
  generalize (A + S) ^ (A + S) = u at *
  generalize A ^ (A + S) = v at *
  generalize 4 ^ S = f at *
  refine Nat.le_of_mul_le_mul_right (c := z * (x * y)) ?_ (Nat.mul_pos p3 (Nat.mul_pos p1 p2))
  have e5 : u * (z * (x * y)) = u * (z * x * y) := by grind
  have e6 : f * v * (z * (x * y)) = z * f * v * (x * y) := by grind
  rw [e5, e6]; exact h1
theorem massey_le (w : Nat → Nat) (n A S : Nat) (hS : S = sumA w n) (hA : A = sumA (fun i => i * w i) n) (hS0 : 0 < S) (h : S ≤ A) :
    S ^ S * S ^ S ≤ (4 * A) ^ S * prodA (fun i => w i ^ w i) n := by
  have h1 := massey_geo w n A S hS hA hS0
  have h2 := half_chord A S h
  have hp : 0 < A ^ A := self_pos _
  refine Nat.le_of_mul_le_mul_right (c := A ^ A) ?_ hp
  have h3 : S ^ S * (S ^ S * A ^ A) ≤ 4 ^ S * A ^ (A + S) * prodA (fun i => w i ^ w i) n := Nat.le_trans h1 (Nat.mul_le_mul_right _ h2)
  rw [Nat.pow_add] at h3
  rw [Nat.mul_pow]
  generalize prodA (fun i => w i ^ w i) n = W at *
  generalize A ^ A = x at *
  generalize A ^ S = y at *
  generalize S ^ S = z at *
  generalize 4 ^ S = f at *
  have e1 : z * z * x = z * (z * x) := by grind
  have e2 : f * y * W * x = f * (x * y) * W := by grind
  rw [e1, e2]; exact h3
theorem massey_lt (w : Nat → Nat) (n A S : Nat) (hS : S = sumA w n) (hA : A = sumA (fun i => i * w i) n) (hS0 : 0 < S) (hW : 0 < prodA (fun i => w i ^ w i) n) (h : A < S) :
    S ^ S < 4 ^ S * prodA (fun i => w i ^ w i) n := by
  have h1 := massey_geo w n A S hS hA hS0
  have h2 := sum2_le A S 1 1
  simp only [Nat.one_pow, Nat.mul_one] at h2
  have hp : 0 < A ^ A := self_pos _
  have hq : 0 < S ^ S := self_pos _
  have h3 : S ^ S * (S ^ S * A ^ A) ≤ (1 + 1) ^ (A + S) * (A ^ A * S ^ S) * prodA (fun i => w i ^ w i) n := Nat.le_trans h1 (Nat.mul_le_mul_right _ h2)
  have h4 : (1 + 1) ^ (A + S) < 4 ^ S := by
    rw [show (4 : Nat) = 2 ^ 2 from rfl, ← Nat.pow_mul]
    exact Nat.pow_lt_pow_right (by omega) (by omega)
  have h5 : S ^ S ≤ (1 + 1) ^ (A + S) * prodA (fun i => w i ^ w i) n := by
    refine Nat.le_of_mul_le_mul_right (c := S ^ S * A ^ A) ?_ (Nat.mul_pos hq hp)
    generalize prodA (fun i => w i ^ w i) n = W at *
    generalize A ^ A = x at *
    generalize S ^ S = z at *
    generalize (1 + 1) ^ (A + S) = f at *
    have e2 : f * W * (z * x) = f * (x * z) * W := by grind
    rw [e2]; exact h3
  exact Nat.lt_of_le_of_lt h5 (Nat.mul_lt_mul_of_pos_right h4 hW)
end Go.Proofs.YtklhfagcembigaaGreatDoor

/- The program's Collision, Least, Support. -/
namespace Go.Proofs.YtklhfagcembigaaGreatDoor
open Go.RowKit

theorem own_setR {w : World} {v : Value} {n : Nat} {p c : Nat → Int} {B : Nat} {ad : Option Addr} {l cap : Nat} {x y : Value} (h : OwnAt w v n p c) (hx : w.cell? ⟨B, 1, none⟩ = some (.slice ad l cap)) : OwnAt ((w.setCell ⟨B, 0, none⟩ x).setCell ⟨B, 1, none⟩ y) v n p c := by
  rcases h with h | ⟨g, cap', rfl, ht⟩
  · exact Or.inl h
  · refine Or.inr ⟨g, cap', rfl, fun i hi => ?_⟩
    have hne : B ≠ g := fun e => by
      have h1 := (ht 0 (by omega)).2
      rw [← e] at h1
      simp only [Nat.zero_mul, Nat.zero_add] at h1
      rw [hx] at h1
      cases h1
    constructor
    · rw [World.cell?_setCell_far _ _ _ _ hne, World.cell?_setCell_far _ _ _ _ hne]; exact (ht i hi).1
    · rw [World.cell?_setCell_far _ _ _ _ hne, World.cell?_setCell_far _ _ _ _ hne]; exact (ht i hi).2
/-- Numbers of a list. -/
def wN (z : Nat → Int) (i : Nat) : Nat := (z i).toNat
theorem wN_sum {z : Nat → Int} : ∀ {n : Nat}, (∀ i, i < n → 0 ≤ z i) → (sumA (wN z) n : Int) = sumN z n
  | 0, _ => rfl
  | n + 1, h => by
    show ((sumA (wN z) n + wN z n : Nat) : Int) = sumN z n + z n
    have := h n (by omega)
    rw [Int.natCast_add, wN_sum (fun i hi => h i (by omega))]
    unfold wN; omega
/-- The sum of the squares. -/
def sqNR (z : Nat → Int) (n : Nat) : Nat := sumA (fun i => wN z i * wN z i) n
theorem sqN_leR {z : Nat → Int} {S : Nat} : ∀ {n : Nat}, sumA (wN z) n ≤ S → sqNR z n ≤ S * sumA (wN z) n
  | 0, _ => Nat.zero_le _
  | n + 1, h => by
    have h1 : sumA (wN z) n + wN z n ≤ S := h
    have h2 := sqN_leR (z := z) (S := S) (n := n) (by omega)
    show sqNR z n + wN z n * wN z n ≤ S * (sumA (wN z) n + wN z n)
    rw [Nat.mul_add]
    have : wN z n * wN z n ≤ S * wN z n := Nat.mul_le_mul_right _ (by omega)
    omega
theorem sqN_posR {z : Nat → Int} : ∀ {n : Nat}, 0 < sumA (wN z) n → 0 < sqNR z n
  | 0, h => h
  | n + 1, h => by
    have h1 : 0 < sumA (wN z) n + wN z n := h
    show 0 < sqNR z n + wN z n * wN z n
    rcases Nat.eq_zero_or_pos (wN z n) with h2 | h2
    · have := sqN_posR (z := z) (n := n) (by omega); omega
    · have := Nat.mul_pos h2 h2; omega
/-- How many are above 0. -/
def cntP (z : Nat → Int) : Nat → Nat
  | 0 => 0
  | n + 1 => cntP z n + if 0 < z n then 1 else 0
theorem cntP_le (z : Nat → Int) : ∀ n, cntP z n ≤ n
  | 0 => Nat.le_refl _
  | n + 1 => by
    have := cntP_le z n
    show cntP z n + (if 0 < z n then 1 else 0) ≤ n + 1
    split <;> omega
theorem cntP_pos {z : Nat → Int} : ∀ {n : Nat}, (∀ i, i < n → 0 ≤ z i) → 0 < sumN z n → 0 < cntP z n
  | 0, _, h => by simp [sumN] at h
  | n + 1, hn, h => by
    have h1 : 0 < sumN z n + z n := h
    show 0 < cntP z n + (if 0 < z n then 1 else 0)
    by_cases h2 : 0 < z n
    · rw [if_pos h2]; omega
    · have := cntP_pos (z := z) (n := n) (fun i hi => hn i (by omega)) (by omega)
      omega
/-- The greatest. -/
def mxNR (z : Nat → Int) (n : Nat) : Nat := (maxTo z (n - 1)).toNat
theorem mxN_atR {z : Nat → Int} {n : Nat} (h : OkW z n) : (mxNR z n : Int) = maxTo z (n - 1) ∧ 1 ≤ mxNR z n ∧ mxNR z n ≤ 4096 ∧ ∀ i, i < n → wN z i ≤ mxNR z n := by
  have hn := h.posN
  obtain ⟨j, hj, e⟩ := maxTo_mem z (n - 1)
  have hz := h.lt (i := j) (by omega)
  have hpos : 0 < maxTo z (n - 1) := by
    rw [maxTo_pos, show n - 1 + 1 = n by omega]
    rcases hs : someB z n with _ | _
    · exfalso
      have h1 : ∀ i, i < n → z i = 0 := fun i hi => by
        have := h.nn i hi
        rcases Int.lt_or_le 0 (z i) with h2 | h2
        · have := (someB_iff z n).2 ⟨i, hi, h2⟩
          rw [hs] at this; cases this
        · omega
      have h2 : sumN z n = sumN (fun _ => 0) n := sumN_congr h1
      have h3 : ∀ m, sumN (fun _ => 0) m = 0 := fun m => by
        induction m with
        | zero => rfl
        | succ m ih => show sumN (fun _ => 0) m + 0 = 0; rw [ih]; rfl
      have := h.pos
      rw [h2, h3] at this; omega
    · rfl
  unfold mxNR
  refine ⟨by omega, by omega, by omega, fun i hi => ?_⟩
  have := maxTo_ge z (n - 1) i (by omega)
  unfold wN; omega

theorem over_anyR (p q : Int) (w : World) :
    Calls Tryz.prog 28 #[.int .i64 p, .int .i64 q] w fun e w' => e = .returned (.agg #[.int .i64 p, .int .i64 q]) ∧ Below w.heap.size w w' := by
  have HB : Hid (Below w.heap.size w (w.alloc (.cells #[.int .i64 p, .int .i64 q] 38))) := (Below.refl _ _).alloc (Nat.le_refl _) _
  go_enter Tryz.func28, Tryz.ntmps28
  go_wp2_with fail
  have g0 : (w.alloc (.cells #[.int .i64 p, .int .i64 q] 38)).cell? ⟨w.heap.size, 0, none⟩ = some (.int .i64 p) := by simp
  have g1 : (w.alloc (.cells #[.int .i64 p, .int .i64 q] 38)).cell? ⟨w.heap.size, 1, none⟩ = some (.int .i64 q) := by simp
  exact bodyPost_ret (v := .agg #[.int .i64 p, .int .i64 q]) (by simp [results, Tryz.results28, go_sem, g0, g1]) rfl ⟨rfl, HB.out⟩
set_option maxRecDepth 100000 in
set_option maxHeartbeats 1000000 in
theorem squares_any (b o cap n : Nat) (z : Nat → Int) (w : World) (h : RowAt w b o n z) (hn : n ≤ 16) (hz : ∀ i, i < n → 0 ≤ z i ∧ z i ≤ 4096) :
    Calls Tryz.prog 26 #[.slice (some ⟨b, o, none⟩) n cap] w fun e w' => e = .returned (.int .i64 (sqNR z n : Nat)) ∧ w' = w := by
  have HR := Hid.mk' h
  have HZ := Hid.mk' hz
  have HSB : Hid (∀ k, k ≤ n → sqNR z k ≤ k * 16777216) := fun k => by
    induction k with
    | zero => intro _; exact Nat.le_refl _
    | succ k ih =>
      intro hk
      have h1 := ih (by omega)
      have h2 := hz k (by omega)
      have h3 : wN z k ≤ 4096 := by unfold wN; omega
      have h4 : wN z k * wN z k ≤ 4096 * 4096 := Nat.mul_le_mul h3 h3
      show sqNR z k + wN z k * wN z k ≤ _
      omega
  clear h hz
  go_enter Tryz.func26, Tryz.ntmps26
  go_wp2_with fail
  go_loop [3, 8] (fun s t => ∃ k : Nat, k ≤ n ∧ s = .int .i64 (sqNR z k : Nat) ∧ t = .int .i64 (k : Int)) (fun _ t => n - (intOf t).toNat)
  case atStart => exact ⟨0, Nat.zero_le _, rfl, rfl⟩
  case round =>
    obtain ⟨k, hk, rfl, rfl⟩ := hrel
    have hsb := HSB.out k hk
    rcases Nat.lt_or_ge k n with h1 | h1
    · have hkI : (k : Int) < (n : Int) := by omega
      have hk0 : (0 : Int) ≤ (k : Int) := by omega
      have hc := HR.out k h1
      have hx := HZ.out k h1
      have HN : Hid (((sqNR z (k + 1) : Nat) : Int) = (sqNR z k : Int) + z k * z k) := by
        show ((sqNR z k + wN z k * wN z k : Nat) : Int) = _
        have : (wN z k : Int) = z k := by unfold wN; omega
        rw [Int.natCast_add, Int.natCast_mul, this]
      have hxx : 0 ≤ z k * z k ∧ z k * z k ≤ 16777216 := ⟨Int.mul_nonneg hx.1 hx.1, Int.mul_le_mul (c := 4096) (d := 4096) hx.2 hx.2 hx.1 (by omega)⟩
      generalize sqNR z k = s at *
      generalize z k = x at *
      go_wp2_with fail
      exact ⟨⟨k + 1, h1, by rw [HN.out], by go_num⟩, by simp [intOf]; omega⟩
    · obtain rfl : k = n := by omega
      have hkI : ¬ (k : Int) < (k : Int) := by omega
      go_wp2_with fail
      go_ret
      exact ⟨rfl, rfl⟩
/-- What a function of these tells where all is right. -/
def Tells (p q : Nat) (e : Ending) (w' : World) : Prop := ∃ u t, e = .returned (.tuple #[.agg #[.int .i64 1, u], .nilIface]) ∧ ListAt w' u t ∧ IsOf p q t
set_option maxRecDepth 100000 in
set_option maxHeartbeats 2000000 in
theorem Least_badR (a : Nat → Addr) (v : Value) (n : Nat) (z : Nat → Int) (w : World) (hE : Errs w a) (h : NumsAt w v n z) (hn : n ≤ 1000000) (h0 : weightsErr z n ≠ 0) :
    Calls Tryz.prog 10 #[v] w fun e w' => e = .returned (.tuple #[.agg #[.int .i64 0, .slice none 0 0], errV a (weightsErr z n)]) ∧ Below w.heap.size w w' := by
  obtain ⟨W0, hW0⟩ : ∃ W0, W0 = w.alloc (.cells #[.int .i64 0, .slice none 0 0] 27) := ⟨_, rfl⟩
  have hb0 : Below w.heap.size w W0 := by rw [hW0]; exact (Below.refl _ _).alloc (Nat.le_refl _) _
  have c0 : W0.cell? ⟨w.heap.size, 0, none⟩ = some (.int .i64 0) := by rw [hW0]; simp
  have c1 : W0.cell? ⟨w.heap.size, 1, none⟩ = some (.slice none 0 0) := by rw [hW0]; simp
  have f0 : W0.frozen? ⟨w.heap.size, 0, none⟩ = false := by rw [hW0]; simp
  have f1 : W0.frozen? ⟨w.heap.size, 1, none⟩ = false := by rw [hW0]; simp
  have HV := Hid.mk' (Valid_weights a _ n z W0 (hE.below hb0) (h.later hb0) hn)
  obtain ⟨ad, cap, rfl⟩ := h.form
  rw [errV_pos a h0] at HV ⊢
  have HG := Hid.mk' (put_twoR (.int .i64 0) (.slice none 0 0) c0 c1)
  have HBE : Hid (Below w.heap.size w ((W0.setCell ⟨w.heap.size, 0, none⟩ (.int .i64 0)).setCell ⟨w.heap.size, 1, none⟩ (.slice none 0 0))) := (hb0.setCell (Nat.le_refl _) _).setCell (Nat.le_refl _) _
  obtain ⟨q0, _, _⟩ := HG.out
  have HW0 := Hid.mk' hW0
  clear hE h hb0 hW0
  go_enter Tryz.func10, Tryz.ntmps10
  go_upto_region 1 with fail
  rw [← HW0.out]
  go_wp2_with fail
  refine HV.out.mono ?_
  rintro e w2 ⟨rfl, hw2⟩
  rw [hw2]
  clear hw2 HV
  go_wp2_with fail
  generalize (W0.setCell ⟨w.heap.size, 0, none⟩ (.int .i64 0)).setCell ⟨w.heap.size, 1, none⟩ (.slice none 0 0) = W9 at *
  exact bodyPost_ret (v := .tuple #[.agg #[.int .i64 0, .slice none 0 0], .iface 183 (.pointer (some (a (weightsErr z n - 1))))]) (by simp [results, Tryz.results10, go_sem, HG.out.2.1, HG.out.2.2]) rfl ⟨rfl, HBE.out⟩
set_option maxRecDepth 100000 in
set_option maxHeartbeats 2000000 in
theorem Support_bad (a : Nat → Addr) (v : Value) (n : Nat) (z : Nat → Int) (w : World) (hE : Errs w a) (h : NumsAt w v n z) (hn : n ≤ 1000000) (h0 : weightsErr z n ≠ 0) :
    Calls Tryz.prog 11 #[v] w fun e w' => e = .returned (.tuple #[.agg #[.int .i64 0, .slice none 0 0], errV a (weightsErr z n)]) ∧ Below w.heap.size w w' := by
  obtain ⟨W0, hW0⟩ : ∃ W0, W0 = w.alloc (.cells #[.int .i64 0, .slice none 0 0] 27) := ⟨_, rfl⟩
  have hb0 : Below w.heap.size w W0 := by rw [hW0]; exact (Below.refl _ _).alloc (Nat.le_refl _) _
  have c0 : W0.cell? ⟨w.heap.size, 0, none⟩ = some (.int .i64 0) := by rw [hW0]; simp
  have c1 : W0.cell? ⟨w.heap.size, 1, none⟩ = some (.slice none 0 0) := by rw [hW0]; simp
  have f0 : W0.frozen? ⟨w.heap.size, 0, none⟩ = false := by rw [hW0]; simp
  have f1 : W0.frozen? ⟨w.heap.size, 1, none⟩ = false := by rw [hW0]; simp
  have HV := Hid.mk' (Valid_weights a _ n z W0 (hE.below hb0) (h.later hb0) hn)
  obtain ⟨ad, cap, rfl⟩ := h.form
  rw [errV_pos a h0] at HV ⊢
  have HG := Hid.mk' (put_twoR (.int .i64 0) (.slice none 0 0) c0 c1)
  have HBE : Hid (Below w.heap.size w ((W0.setCell ⟨w.heap.size, 0, none⟩ (.int .i64 0)).setCell ⟨w.heap.size, 1, none⟩ (.slice none 0 0))) := (hb0.setCell (Nat.le_refl _) _).setCell (Nat.le_refl _) _
  obtain ⟨q0, _, _⟩ := HG.out
  have HW0 := Hid.mk' hW0
  clear hE h hb0 hW0
  go_enter Tryz.func11, Tryz.ntmps11
  go_upto_region 1 with fail
  rw [← HW0.out]
  go_wp2_with fail
  refine HV.out.mono ?_
  rintro e w2 ⟨rfl, hw2⟩
  rw [hw2]
  clear hw2 HV
  go_wp2_with fail
  generalize (W0.setCell ⟨w.heap.size, 0, none⟩ (.int .i64 0)).setCell ⟨w.heap.size, 1, none⟩ (.slice none 0 0) = W9 at *
  exact bodyPost_ret (v := .tuple #[.agg #[.int .i64 0, .slice none 0 0], .iface 183 (.pointer (some (a (weightsErr z n - 1))))]) (by simp [results, Tryz.results11, go_sem, HG.out.2.1, HG.out.2.2]) rfl ⟨rfl, HBE.out⟩
set_option maxRecDepth 100000 in
set_option maxHeartbeats 2000000 in
theorem Collision_bad (a : Nat → Addr) (v : Value) (n : Nat) (z : Nat → Int) (w : World) (hE : Errs w a) (h : NumsAt w v n z) (hn : n ≤ 1000000) (h0 : weightsErr z n ≠ 0) :
    Calls Tryz.prog 8 #[v] w fun e w' => e = .returned (.tuple #[.agg #[.int .i64 0, .slice none 0 0], errV a (weightsErr z n)]) ∧ Below w.heap.size w w' := by
  obtain ⟨W0, hW0⟩ : ∃ W0, W0 = w.alloc (.cells #[.int .i64 0, .slice none 0 0] 27) := ⟨_, rfl⟩
  have hb0 : Below w.heap.size w W0 := by rw [hW0]; exact (Below.refl _ _).alloc (Nat.le_refl _) _
  have c0 : W0.cell? ⟨w.heap.size, 0, none⟩ = some (.int .i64 0) := by rw [hW0]; simp
  have c1 : W0.cell? ⟨w.heap.size, 1, none⟩ = some (.slice none 0 0) := by rw [hW0]; simp
  have f0 : W0.frozen? ⟨w.heap.size, 0, none⟩ = false := by rw [hW0]; simp
  have f1 : W0.frozen? ⟨w.heap.size, 1, none⟩ = false := by rw [hW0]; simp
  have HV := Hid.mk' (Valid_weights a _ n z W0 (hE.below hb0) (h.later hb0) hn)
  obtain ⟨ad, cap, rfl⟩ := h.form
  rw [errV_pos a h0] at HV ⊢
  have HG := Hid.mk' (put_twoR (.int .i64 0) (.slice none 0 0) c0 c1)
  have HBE : Hid (Below w.heap.size w ((W0.setCell ⟨w.heap.size, 0, none⟩ (.int .i64 0)).setCell ⟨w.heap.size, 1, none⟩ (.slice none 0 0))) := (hb0.setCell (Nat.le_refl _) _).setCell (Nat.le_refl _) _
  obtain ⟨q0, _, _⟩ := HG.out
  have HW0 := Hid.mk' hW0
  clear hE h hb0 hW0
  go_enter Tryz.func8, Tryz.ntmps8
  go_upto_region 1 with fail
  rw [← HW0.out]
  go_wp2_with fail
  refine HV.out.mono ?_
  rintro e w2 ⟨rfl, hw2⟩
  rw [hw2]
  clear hw2 HV
  go_wp2_with fail
  generalize (W0.setCell ⟨w.heap.size, 0, none⟩ (.int .i64 0)).setCell ⟨w.heap.size, 1, none⟩ (.slice none 0 0) = W9 at *
  exact bodyPost_ret (v := .tuple #[.agg #[.int .i64 0, .slice none 0 0], .iface 183 (.pointer (some (a (weightsErr z n - 1))))]) (by simp [results, Tryz.results8, go_sem, HG.out.2.1, HG.out.2.2]) rfl ⟨rfl, HBE.out⟩
set_option maxRecDepth 100000 in
set_option maxHeartbeats 4000000 in
theorem Least_okR (a : Nat → Addr) (v : Value) (n S : Nat) (z : Nat → Int) (w : World) (hE : Errs w a) (h : NumsAt w v n z) (hS : sumN z n = (S : Int)) (hw0 : weightsErr z n = 0) :
    Calls Tryz.prog 10 #[v] w fun e w' => Tells S (mxNR z n) e w' ∧ Below w.heap.size w w' := by
  obtain ⟨h16, hok⟩ := weightsErr_ok hw0
  have hn0 := hok.posN
  obtain ⟨b, o, cap, rfl, hrow⟩ := nums_row h hn0
  have hp := hok.pos
  have hl := hok.le
  obtain ⟨W0, hW0⟩ : ∃ W0, W0 = w.alloc (.cells #[.int .i64 0, .slice none 0 0] 27) := ⟨_, rfl⟩
  have hb0 : Below w.heap.size w W0 := by rw [hW0]; exact (Below.refl _ _).alloc (Nat.le_refl _) _
  have c0 : W0.cell? ⟨w.heap.size, 0, none⟩ = some (.int .i64 0) := by rw [hW0]; simp
  have c1 : W0.cell? ⟨w.heap.size, 1, none⟩ = some (.slice none 0 0) := by rw [hW0]; simp
  have f0 : W0.frozen? ⟨w.heap.size, 0, none⟩ = false := by rw [hW0]; simp
  have f1 : W0.frozen? ⟨w.heap.size, 1, none⟩ = false := by rw [hW0]; simp
  have HC : Hid (∀ W, Below W0.heap.size W0 W → (W.cell? ⟨w.heap.size, 0, none⟩ = some (.int .i64 0) ∧ W.cell? ⟨w.heap.size, 1, none⟩ = some (.slice none 0 0)) ∧ W.frozen? ⟨w.heap.size, 0, none⟩ = false ∧ W.frozen? ⟨w.heap.size, 1, none⟩ = false) := fun W hb => ⟨⟨by rw [hb.cell (cell_lt c0)]; exact c0, by rw [hb.cell (cell_lt c1)]; exact c1⟩, by rw [hb.frozen (show w.heap.size < W0.heap.size from cell_lt c0)]; exact f0, by rw [hb.frozen (show w.heap.size < W0.heap.size from cell_lt c0)]; exact f1⟩
  have HEND : Hid (∀ W, Below W0.heap.size W0 W → Below w.heap.size w W) := fun W hb => hb0.trans (hb.mono hb0.size)
  have HV := Hid.mk' (Valid_weights a _ n z W0 (hE.below hb0) (h.later hb0) (by omega))
  rw [hw0, errV_zero] at HV
  have HTO := Hid.mk' (fun (W : World) (hb : Below W0.heap.size W0 W) => by
    have h9 := total_some b o cap n z W ((hrow.later hb0).later hb) (fun k hk => by have := hok.part hk; omega) (fun k hk => by have := hok.lt hk; omega) (by omega)
    rw [hS] at h9
    exact h9)
  have hS0 : 1 ≤ S := by omega
  have hS4 : S ≤ 4096 := by omega
  have HW0 := Hid.mk' hW0
  have hmx := mxN_atR hok
  have HMX := Hid.mk' (fun (W : World) (hb : Below W0.heap.size W0 W) => by
    have h9 := Max_some b o cap n z W ((hrow.later hb0).later hb) hn0 (by omega)
    rw [← hmx.1] at h9
    exact h9)
  have HOF := Hid.mk' (fun (W : World) => Of_any S (mxNR z n) W hS0 (by omega) hmx.2.1 (by omega))
  clear hE h hrow hok hw0 hS hb0 hW0 hp hl c0 c1 f0 f1 hmx
  generalize mxNR z n = mx at *
  go_enter Tryz.func10, Tryz.ntmps10
  go_upto_region 1 with fail
  rw [← HW0.out]
  go_wp2_with fail
  refine HV.out.mono ?_
  rintro e w2 ⟨rfl, hw2⟩
  rw [hw2]
  clear hw2 HV
  go_wp2_with fail
  refine (HTO.out W0 (Below.refl _ _)).mono ?_
  rintro e w3 ⟨rfl, hwx⟩
  rw [hwx]
  clear hwx
  go_wp2_with fail
  refine (HMX.out W0 (Below.refl _ _)).mono ?_
  rintro e w4 ⟨rfl, hwx⟩
  rw [hwx]
  clear hwx
  go_wp2_with fail
  refine (over_anyR (S : Int) (mx : Int) W0).mono ?_
  rintro e w5 ⟨rfl, hb5⟩
  have HB5 := Hid.mk' hb5
  clear hb5
  go_wp2_with fail
  refine (HOF.out w5).mono ?_
  rintro e wF ⟨u, t, rfl, hu, hi, hbF⟩
  obtain ⟨ua, un, uc, rfl⟩ := (show ∃ ua un uc, u = .slice ua un uc from by rcases hu with ⟨rfl, _⟩ | ⟨g, cp, rfl, _⟩ <;> exact ⟨_, _, _, rfl⟩)
  have hcurF := below_chain HB5.out hbF
  obtain ⟨⟨d0, d1⟩, d2, d3⟩ := HC.out wF hcurF
  have HG := Hid.mk' (put_twoR (.int .i64 1) (.slice ua un uc) d0 d1)
  have HUU : Hid (ListAt ((wF.setCell ⟨w.heap.size, 0, none⟩ (.int .i64 1)).setCell ⟨w.heap.size, 1, none⟩ (.slice ua un uc)) (.slice ua un uc) t) := own_setR hu d1
  have HII := Hid.mk' hi
  have HBE : Hid (Below w.heap.size w ((wF.setCell ⟨w.heap.size, 0, none⟩ (.int .i64 1)).setCell ⟨w.heap.size, 1, none⟩ (.slice ua un uc))) := ((HEND.out wF hcurF).setCell (Nat.le_refl _) _).setCell (Nat.le_refl _) _
  obtain ⟨q0, _, _⟩ := HG.out
  clear hbF hu hi hcurF
  go_wp2_with fail
  generalize (wF.setCell ⟨w.heap.size, 0, none⟩ (.int .i64 1)).setCell ⟨w.heap.size, 1, none⟩ (.slice ua un uc) = W9 at *
  exact bodyPost_ret (v := .tuple #[.agg #[.int .i64 1, .slice ua un uc], .nilIface]) (by simp [results, Tryz.results10, go_sem, HG.out.2.1, HG.out.2.2]) rfl ⟨⟨_, t, rfl, HUU.out, HII.out⟩, HBE.out⟩
set_option maxRecDepth 100000 in
set_option maxHeartbeats 4000000 in
theorem Support_ok (a : Nat → Addr) (v : Value) (n S : Nat) (z : Nat → Int) (w : World) (hE : Errs w a) (h : NumsAt w v n z) (hS : sumN z n = (S : Int)) (hw0 : weightsErr z n = 0) :
    Calls Tryz.prog 11 #[v] w fun e w' => Tells (cntP z n) 1 e w' ∧ Below w.heap.size w w' := by
  obtain ⟨h16, hok⟩ := weightsErr_ok hw0
  have hn0 := hok.posN
  obtain ⟨b, o, cap, rfl, hrow⟩ := nums_row h hn0
  have hp := hok.pos
  have hl := hok.le
  obtain ⟨W0, hW0⟩ : ∃ W0, W0 = w.alloc (.cells #[.int .i64 0, .slice none 0 0] 27) := ⟨_, rfl⟩
  have hb0 : Below w.heap.size w W0 := by rw [hW0]; exact (Below.refl _ _).alloc (Nat.le_refl _) _
  have c0 : W0.cell? ⟨w.heap.size, 0, none⟩ = some (.int .i64 0) := by rw [hW0]; simp
  have c1 : W0.cell? ⟨w.heap.size, 1, none⟩ = some (.slice none 0 0) := by rw [hW0]; simp
  have f0 : W0.frozen? ⟨w.heap.size, 0, none⟩ = false := by rw [hW0]; simp
  have f1 : W0.frozen? ⟨w.heap.size, 1, none⟩ = false := by rw [hW0]; simp
  have HC : Hid (∀ W, Below W0.heap.size W0 W → (W.cell? ⟨w.heap.size, 0, none⟩ = some (.int .i64 0) ∧ W.cell? ⟨w.heap.size, 1, none⟩ = some (.slice none 0 0)) ∧ W.frozen? ⟨w.heap.size, 0, none⟩ = false ∧ W.frozen? ⟨w.heap.size, 1, none⟩ = false) := fun W hb => ⟨⟨by rw [hb.cell (cell_lt c0)]; exact c0, by rw [hb.cell (cell_lt c1)]; exact c1⟩, by rw [hb.frozen (show w.heap.size < W0.heap.size from cell_lt c0)]; exact f0, by rw [hb.frozen (show w.heap.size < W0.heap.size from cell_lt c0)]; exact f1⟩
  have HEND : Hid (∀ W, Below W0.heap.size W0 W → Below w.heap.size w W) := fun W hb => hb0.trans (hb.mono hb0.size)
  have HV := Hid.mk' (Valid_weights a _ n z W0 (hE.below hb0) (h.later hb0) (by omega))
  rw [hw0, errV_zero] at HV
  have HTO := Hid.mk' (fun (W : World) (hb : Below W0.heap.size W0 W) => by
    have h9 := total_some b o cap n z W ((hrow.later hb0).later hb) (fun k hk => by have := hok.part hk; omega) (fun k hk => by have := hok.lt hk; omega) (by omega)
    rw [hS] at h9
    exact h9)
  have hS0 : 1 ≤ S := by omega
  have hS4 : S ≤ 4096 := by omega
  have HW0 := Hid.mk' hW0
  have HRW := Hid.mk' (hrow.later hb0)
  have HCL := Hid.mk' (fun k => cntP_le z k)
  have HCP := Hid.mk' (cntP_pos hok.nn hp)
  have HOF := Hid.mk' (fun (W : World) (h1 : 1 ≤ cntP z n) (h2 : cntP z n ≤ 1000000) => Of_any (cntP z n) 1 W h1 h2 (Nat.le_refl _) (by decide))
  have HLT := Hid.mk' (fun i (hi : i < n) => hok.lt hi)
  clear hE h hrow hok hw0 hS hb0 hW0 hp hl c0 c1 f0 f1 HTO
  go_enter Tryz.func11, Tryz.ntmps11
  go_upto_region 1 with fail
  rw [← HW0.out]
  go_wp2_with fail
  refine HV.out.mono ?_
  rintro e w2 ⟨rfl, hw2⟩
  rw [hw2]
  clear hw2 HV
  go_wp2_with fail
  go_loop [5, 16] (fun s t => ∃ k : Nat, k ≤ n ∧ s = .int .i64 (cntP z k : Nat) ∧ t = .int .i64 (k : Int)) (fun _ t => n - (intOf t).toNat)
  case atStart => exact ⟨0, Nat.zero_le _, rfl, rfl⟩
  case round =>
  obtain ⟨k, hk, rfl, rfl⟩ := hrel
  have hcl := HCL.out k
  rcases Nat.lt_or_ge k n with h1 | h1
  · have hkI : (k : Int) < (n : Int) := by omega
    have hk0 : (0 : Int) ≤ (k : Int) := by omega
    have hc := HRW.out k h1
    have HN : Hid (cntP z (k + 1) = cntP z k + if 0 < z k then 1 else 0) := rfl
    generalize cntP z k = s at *
    generalize z k = x at *
    by_cases hx : 0 < x
    · rw [if_pos hx] at HN
      go_wp2_with fail
      exact ⟨⟨k + 1, h1, by rw [HN.out]; go_num, by go_num⟩, by simp [intOf]; omega⟩
    · rw [if_neg hx, Nat.add_zero] at HN
      go_wp2_with fail
      exact ⟨⟨k + 1, h1, by rw [HN.out, Nat.add_zero], by go_num⟩, by simp [intOf]; omega⟩
  obtain rfl : k = n := by omega
  have hkI : ¬ (k : Int) < (k : Int) := by omega
  have HO := Hid.mk' (fun W => HOF.out W HCP.out (by omega))
  clear HOF HCP HCL HRW hcl HLT
  go_wp2_with fail
  refine (over_anyR (cntP z k : Int) 1 W0).mono ?_
  rintro e w5 ⟨rfl, hb5⟩
  have HB5 := Hid.mk' hb5
  clear hb5
  go_wp2_with fail
  refine (HO.out w5).mono ?_
  rintro e wF ⟨u, t, rfl, hu, hi, hbF⟩
  obtain ⟨ua, un, uc, rfl⟩ := (show ∃ ua un uc, u = .slice ua un uc from by rcases hu with ⟨rfl, _⟩ | ⟨g, cp, rfl, _⟩ <;> exact ⟨_, _, _, rfl⟩)
  have hcurF := below_chain HB5.out hbF
  obtain ⟨⟨d0, d1⟩, d2, d3⟩ := HC.out wF hcurF
  have HG := Hid.mk' (put_twoR (.int .i64 1) (.slice ua un uc) d0 d1)
  have HUU : Hid (ListAt ((wF.setCell ⟨w.heap.size, 0, none⟩ (.int .i64 1)).setCell ⟨w.heap.size, 1, none⟩ (.slice ua un uc)) (.slice ua un uc) t) := own_setR hu d1
  have HII := Hid.mk' hi
  have HBE : Hid (Below w.heap.size w ((wF.setCell ⟨w.heap.size, 0, none⟩ (.int .i64 1)).setCell ⟨w.heap.size, 1, none⟩ (.slice ua un uc))) := ((HEND.out wF hcurF).setCell (Nat.le_refl _) _).setCell (Nat.le_refl _) _
  obtain ⟨q0, _, _⟩ := HG.out
  clear hbF hu hi hcurF
  go_wp2_with fail
  generalize (wF.setCell ⟨w.heap.size, 0, none⟩ (.int .i64 1)).setCell ⟨w.heap.size, 1, none⟩ (.slice ua un uc) = W9 at *
  exact bodyPost_ret (v := .tuple #[.agg #[.int .i64 1, .slice ua un uc], .nilIface]) (by simp [results, Tryz.results11, go_sem, HG.out.2.1, HG.out.2.2]) rfl ⟨⟨_, t, rfl, HUU.out, HII.out⟩, HBE.out⟩
end Go.Proofs.YtklhfagcembigaaGreatDoor

/- Families of functions: the program's allBelow and Valid. -/
namespace Go.Proofs.YtklhfagcembigaaGreatDoor
open Go.RowKit

/-- Is there one of n? -/
def anyR (p : Nat → Bool) : Nat → Bool
  | 0 => false
  | n + 1 => anyR p n || p n
theorem anyR_at {p : Nat → Bool} : ∀ {n k : Nat}, p k = true → k < n → anyR p n = true
  | 0, k, _, h => by omega
  | n + 1, k, hk, h => by
    show (anyR p n || _) = true
    rcases Nat.lt_or_ge k n with h' | h'
    · rw [anyR_at hk h', Bool.true_or]
    · obtain rfl : k = n := by omega
      rw [hk, Bool.or_true]
theorem anyR_no {p : Nat → Bool} : ∀ {n : Nat}, anyR p n = false → ∀ k, k < n → p k = false
  | 0, _, k, h => by omega
  | n + 1, hn, k, h => by
    have h1 : (anyR p n || p n) = false := hn
    rw [Bool.or_eq_false_iff] at h1
    rcases Nat.lt_or_ge k n with h' | h'
    · exact anyR_no h1.1 k h'
    · obtain rfl : k = n := by omega
      exact h1.2
theorem anyR_none {p : Nat → Bool} : ∀ {n : Nat}, (∀ k, k < n → p k = false) → anyR p n = false
  | 0, _ => rfl
  | n + 1, h => by show (anyR p n || p n) = false; rw [anyR_none (fun k hk => h k (by omega)), h n (by omega)]; rfl
/-- Is a value not from 0 to M - 1? -/
def offB (M x : Int) : Bool := decide (x < 0) || decide (M ≤ x)
def outB (M : Int) (z : Nat → Int) (n : Nat) : Bool := anyR (fun k => offB M (z k)) n
def fRow (M : Int) (ns : Nat → Nat) (zs : Nat → Nat → Int) (i : Nat) : Bool := decide (ns i ≠ ns 0) || outB M (zs i) (ns i)
/-- What is wrong with a family. -/
def famErr (M : Int) (R : Nat) (ns : Nat → Nat) (zs : Nat → Nat → Int) : Nat :=
  if 64 < R ∨ M < 1 ∨ 16 < M then 2 else if longB ns R = true then 2 else if R = 0 ∨ ns 0 = 0 then 3 else if anyR (fRow M ns zs) R = true then 3 else 0
/-- A right one. -/
structure FamOk (M : Int) (R : Nat) (ns : Nat → Nat) (zs : Nat → Nat → Int) : Prop where
  pos : 0 < R
  le : R ≤ 64
  m1 : 1 ≤ M
  m16 : M ≤ 16
  n0 : 0 < ns 0
  n16 : ns 0 ≤ 16
  len : ∀ i, i < R → ns i = ns 0
  num : ∀ i, i < R → ∀ k, k < ns 0 → 0 ≤ zs i k ∧ zs i k < M
theorem offB_no {M x : Int} (h : offB M x = false) : 0 ≤ x ∧ x < M := by
  unfold offB at h
  rw [Bool.or_eq_false_iff] at h
  have h1 := of_decide_eq_false h.1
  have h2 := of_decide_eq_false h.2
  omega
theorem famErr_ok {M : Int} {R : Nat} {ns : Nat → Nat} {zs : Nat → Nat → Int} (h : famErr M R ns zs = 0) : FamOk M R ns zs := by
  unfold famErr at h
  by_cases h1 : 64 < R ∨ M < 1 ∨ 16 < M
  · rw [if_pos h1] at h; cases h
  · rw [if_neg h1] at h
    cases h2 : longB ns R with
    | true => rw [h2, if_pos rfl] at h; cases h
    | false =>
      rw [h2, if_neg (by decide)] at h
      by_cases h3 : R = 0 ∨ ns 0 = 0
      · rw [if_pos h3] at h; cases h
      · rw [if_neg h3] at h
        cases h4 : anyR (fRow M ns zs) R with
        | true => rw [h4, if_pos rfl] at h; cases h
        | false =>
          have hl : ∀ i, i < R → ns i = ns 0 ∧ ∀ k, k < ns i → 0 ≤ zs i k ∧ zs i k < M := fun i hi => by
            have h5 := anyR_no h4 i hi
            unfold fRow at h5
            rw [Bool.or_eq_false_iff] at h5
            exact ⟨by simpa using h5.1, fun k hk => offB_no (anyR_no h5.2 k hk)⟩
          have hlong : ns 0 ≤ 16 := by
            rcases Nat.lt_or_ge 16 (ns 0) with h6 | h6
            · have := longB_mono (n := R) (k := 0) (by omega) h6
              rw [h2] at this; cases this
            · exact h6
          exact ⟨by omega, by omega, by omega, by omega, by omega, hlong, fun i hi => (hl i hi).1, fun i hi k hk => (hl i hi).2 k (by rw [(hl i hi).1]; exact hk)⟩
theorem famErr_le (M : Int) (R : Nat) (ns : Nat → Nat) (zs : Nat → Nat → Int) : famErr M R ns zs ≤ 8 := by
  unfold famErr
  split
  · omega
  · split
    · omega
    · split
      · omega
      · split <;> omega
theorem TabAt.rowR {w : World} {ad : Option Addr} {R cap : Nat} {vs : Nat → Value} {ns : Nat → Nat} {zs : Nat → Nat → Int} (h : TabAt w (.slice ad R cap) R vs ns zs) {i : Nat} (hi : i < R) : ∃ b o, ad = some ⟨b, o, none⟩ ∧ w.cell? ⟨b, o + i, none⟩ = some (vs i) ∧ NumsAt w (vs i) (ns i) (zs i) := by
  rcases h with ⟨_, _, h1', h2'⟩ | ⟨b, o, c, h1', _, h2⟩
  · omega
  · simp only [Value.slice.injEq, true_and] at h1'
    exact ⟨b, o, h1'.1, h2 i hi⟩
end Go.Proofs.YtklhfagcembigaaGreatDoor

/- Families of functions: the program's together and Universal. -/
namespace Go.Proofs.YtklhfagcembigaaGreatDoor
open Go.RowKit

theorem below_drewR {w W : World} {n : Nat} (h : Below n w W) : ∀ k, Below n w (W.drewN k)
  | 0 => h
  | k + 1 => (below_drewR h k).drew
/-- By how many functions two things go to one value. -/
def togN (zs : Nat → Nat → Int) (x y : Nat) : Nat → Nat
  | 0 => 0
  | n + 1 => togN zs x y n + if zs n x = zs n y then 1 else 0
theorem togN_le (zs : Nat → Nat → Int) (x y : Nat) : ∀ n, togN zs x y n ≤ n
  | 0 => Nat.le_refl _
  | n + 1 => by
    have := togN_le zs x y n
    show togN zs x y n + (if zs n x = zs n y then 1 else 0) ≤ n + 1
    split <;> omega
theorem togN_sym (zs : Nat → Nat → Int) (x y : Nat) : ∀ n, togN zs x y n = togN zs y x n
  | 0 => rfl
  | n + 1 => by
    show togN zs x y n + (if zs n x = zs n y then 1 else 0) = togN zs y x n + (if zs n y = zs n x then 1 else 0)
    rw [togN_sym zs x y n]
    by_cases h : zs n x = zs n y
    · rw [if_pos h, if_pos h.symm]
    · rw [if_neg h, if_neg (fun h' => h h'.symm)]
/-- Do two things go to one value too often? -/
def tooB (M : Int) (R : Nat) (zs : Nat → Nat → Int) (x y : Nat) : Bool := decide ((R : Int) < (togN zs x y R : Int) * M)
def uniB (M : Int) (R n : Nat) (zs : Nat → Nat → Int) : Bool := !anyR (fun x => anyR (fun y => tooB M R zs x y) x) n
theorem prod_small {t : Nat} {M : Int} (ht : t ≤ 1000) (h1 : 1 ≤ M) (h2 : M ≤ 16) : IntKind.i64.wrap ((t : Int) * M) = (t : Int) * M := by
  have h3 : 0 ≤ (t : Int) * M := Int.mul_nonneg (by omega) (by omega)
  have h4 : (t : Int) * M ≤ 1000 * 16 := Int.mul_le_mul (by omega) h2 (by omega) (by omega)
  rw [IntKind.wrap_i64]
  generalize (t : Int) * M = x at *
  omega

end Go.Proofs.YtklhfagcembigaaGreatDoor

/- The program's Collision. -/
namespace Go.Proofs.YtklhfagcembigaaGreatDoor
open Go.RowKit

set_option maxRecDepth 100000 in
set_option maxHeartbeats 4000000 in
theorem Collision_ok (a : Nat → Addr) (v : Value) (n S : Nat) (z : Nat → Int) (w : World) (hE : Errs w a) (h : NumsAt w v n z) (hS : sumN z n = (S : Int)) (hw0 : weightsErr z n = 0) (hd : S * S / Nat.gcd (sqNR z n) (S * S) ≤ 1000000) :
    Calls Tryz.prog 8 #[v] w fun e w' => Tells (S * S / Nat.gcd (sqNR z n) (S * S)) (sqNR z n / Nat.gcd (sqNR z n) (S * S)) e w' ∧ Below w.heap.size w w' := by
  obtain ⟨h16, hok⟩ := weightsErr_ok hw0
  have hn0 := hok.posN
  obtain ⟨b, o, cap, rfl, hrow⟩ := nums_row h hn0
  have hp := hok.pos
  have hl := hok.le
  obtain ⟨W0, hW0⟩ : ∃ W0, W0 = w.alloc (.cells #[.int .i64 0, .slice none 0 0] 27) := ⟨_, rfl⟩
  have hb0 : Below w.heap.size w W0 := by rw [hW0]; exact (Below.refl _ _).alloc (Nat.le_refl _) _
  have c0 : W0.cell? ⟨w.heap.size, 0, none⟩ = some (.int .i64 0) := by rw [hW0]; simp
  have c1 : W0.cell? ⟨w.heap.size, 1, none⟩ = some (.slice none 0 0) := by rw [hW0]; simp
  have f0 : W0.frozen? ⟨w.heap.size, 0, none⟩ = false := by rw [hW0]; simp
  have f1 : W0.frozen? ⟨w.heap.size, 1, none⟩ = false := by rw [hW0]; simp
  have HC : Hid (∀ W, Below W0.heap.size W0 W → (W.cell? ⟨w.heap.size, 0, none⟩ = some (.int .i64 0) ∧ W.cell? ⟨w.heap.size, 1, none⟩ = some (.slice none 0 0)) ∧ W.frozen? ⟨w.heap.size, 0, none⟩ = false ∧ W.frozen? ⟨w.heap.size, 1, none⟩ = false) := fun W hb => ⟨⟨by rw [hb.cell (cell_lt c0)]; exact c0, by rw [hb.cell (cell_lt c1)]; exact c1⟩, by rw [hb.frozen (show w.heap.size < W0.heap.size from cell_lt c0)]; exact f0, by rw [hb.frozen (show w.heap.size < W0.heap.size from cell_lt c0)]; exact f1⟩
  have HEND : Hid (∀ W, Below W0.heap.size W0 W → Below w.heap.size w W) := fun W hb => hb0.trans (hb.mono hb0.size)
  have HV := Hid.mk' (Valid_weights a _ n z W0 (hE.below hb0) (h.later hb0) (by omega))
  rw [hw0, errV_zero] at HV
  have HTO := Hid.mk' (fun (W : World) (hb : Below W0.heap.size W0 W) => by
    have h9 := total_some b o cap n z W ((hrow.later hb0).later hb) (fun k hk => by have := hok.part hk; omega) (fun k hk => by have := hok.lt hk; omega) (by omega)
    rw [hS] at h9
    exact h9)
  have hS0 : 1 ≤ S := by omega
  have hS4 : S ≤ 4096 := by omega
  have HW0 := Hid.mk' hW0
  have hS1 : sumA (wN z) n = S := by have := wN_sum hok.nn; omega
  have hT1 : sqNR z n ≤ S * S := by have := sqN_leR (z := z) (S := S) (n := n) (by omega); rwa [hS1] at this
  have hT0 : 0 < sqNR z n := sqN_posR (by omega)
  have hSS : S * S ≤ 16777216 := Nat.mul_le_mul (show S ≤ 4096 from hS4) hS4
  have hSP : 0 < S * S := Nat.mul_pos hS0 hS0
  have HSQ := Hid.mk' (squares_any b o cap n z W0 (hrow.later hb0) h16 (fun i hi => hok.lt hi))
  have HLO : Hid (∀ W, Calls Tryz.prog 25 #[.int .i64 (sqNR z n : Nat), .int .i64 ((S : Int) * (S : Int))] W fun e w' => e = .returned (.agg #[.int .i64 ((sqNR z n / Nat.gcd (sqNR z n) (S * S) : Nat) : Int), .int .i64 ((S * S / Nat.gcd (sqNR z n) (S * S) : Nat) : Int)]) ∧ Below W.heap.size W w') := fun W => by
    have h9 := lowest_any (sqNR z n : Int) (S * S) W (by omega) (by omega) hSP (by omega) (Nat.gcd (sqNR z n) (S * S)) rfl
    rw [Int.natCast_mul] at h9
    exact h9
  have hSI : (S : Int) * (S : Int) = ((S * S : Nat) : Int) := (Int.natCast_mul _ _).symm
  have hSI1 : 0 ≤ (S : Int) * (S : Int) ∧ (S : Int) * (S : Int) ≤ 16777216 := by rw [hSI]; omega
  have hq1 : 0 < sqNR z n / Nat.gcd (sqNR z n) (S * S) := Nat.div_pos (Nat.gcd_le_left _ hT0) (Nat.gcd_pos_of_pos_left _ hT0)
  have hq2 : sqNR z n / Nat.gcd (sqNR z n) (S * S) ≤ S * S / Nat.gcd (sqNR z n) (S * S) := Nat.div_le_div_right hT1
  have hq3 : S * S / Nat.gcd (sqNR z n) (S * S) ≤ 16777216 := Nat.le_trans (Nat.div_le_self _ _) hSS
  have HOF := Hid.mk' (fun (W : World) => Of_any (S * S / Nat.gcd (sqNR z n) (S * S)) (sqNR z n / Nat.gcd (sqNR z n) (S * S)) W (by omega) hd hq1 (by omega))
  have hdI : ¬ (1000000 : Int) < ((S * S / Nat.gcd (sqNR z n) (S * S) : Nat) : Int) := by omega
  clear hE h hrow hok hw0 hS hb0 hW0 hp hl c0 c1 f0 f1 hS1 hT1 hT0 hSS hSP hSI hS0 hS4
  generalize S * S / Nat.gcd (sqNR z n) (S * S) = q at *
  generalize sqNR z n / Nat.gcd (sqNR z n) (S * S) = p at *
  generalize sqNR z n = T at *
  go_enter Tryz.func8, Tryz.ntmps8
  go_upto_region 1 with fail
  rw [← HW0.out]
  go_wp2_with fail
  refine HV.out.mono ?_
  rintro e w2 ⟨rfl, hw2⟩
  rw [hw2]
  clear hw2 HV
  go_wp2_with fail
  refine HSQ.out.mono ?_
  rintro e w3 ⟨rfl, hwx⟩
  rw [hwx]
  clear hwx
  go_wp2_with fail
  refine (HTO.out W0 (Below.refl _ _)).mono ?_
  rintro e w4 ⟨rfl, hwx⟩
  rw [hwx]
  clear hwx
  go_wp2_with fail
  refine (HTO.out W0 (Below.refl _ _)).mono ?_
  rintro e w4 ⟨rfl, hwx⟩
  rw [hwx]
  clear hwx
  go_wp2_with fail
  refine (HLO.out W0).mono ?_
  rintro e w5 ⟨rfl, hb5⟩
  have HB5 : Hid (Below W0.heap.size W0 (w5.alloc (.cells #[.int .i64 (p : Int), .int .i64 (q : Int)] 38))) := below_chain hb5 ((Below.refl _ _).alloc (Nat.le_refl _) _)
  have g0 : (w5.alloc (.cells #[.int .i64 (p : Int), .int .i64 (q : Int)] 38)).cell? ⟨w5.heap.size, 0, none⟩ = some (.int .i64 (p : Int)) := by simp
  have g1 : (w5.alloc (.cells #[.int .i64 (p : Int), .int .i64 (q : Int)] 38)).cell? ⟨w5.heap.size, 1, none⟩ = some (.int .i64 (q : Int)) := by simp
  have HLA : Hid (w5.alloc (.cells #[.int .i64 (p : Int), .int .i64 (q : Int)] 38) = w5.alloc (.cells #[.int .i64 (p : Int), .int .i64 (q : Int)] 38)) := rfl
  clear hb5
  go_upto_region 5 with fail
  generalize w5.alloc (.cells #[.int .i64 (p : Int), .int .i64 (q : Int)] 38) = W5 at *
  generalize w5.heap.size = B5 at *
  go_wp2_with fail
  refine (over_anyR (q : Int) (p : Int) W5).mono ?_
  rintro e w6 ⟨rfl, hb6⟩
  have HB6 := Hid.mk' (below_chain HB5.out hb6)
  clear hb6 g0 g1 HLA
  go_wp2_with fail
  refine (HOF.out w6).mono ?_
  rintro e wF ⟨u, t, rfl, hu, hi, hbF⟩
  obtain ⟨ua, un, uc, rfl⟩ := (show ∃ ua un uc, u = .slice ua un uc from by rcases hu with ⟨rfl, _⟩ | ⟨g, cp, rfl, _⟩ <;> exact ⟨_, _, _, rfl⟩)
  have hcurF := below_chain HB6.out hbF
  obtain ⟨⟨d0, d1⟩, d2, d3⟩ := HC.out wF hcurF
  have HG := Hid.mk' (put_twoR (.int .i64 1) (.slice ua un uc) d0 d1)
  have HUU : Hid (ListAt ((wF.setCell ⟨w.heap.size, 0, none⟩ (.int .i64 1)).setCell ⟨w.heap.size, 1, none⟩ (.slice ua un uc)) (.slice ua un uc) t) := own_setR hu d1
  have HII := Hid.mk' hi
  have HBE : Hid (Below w.heap.size w ((wF.setCell ⟨w.heap.size, 0, none⟩ (.int .i64 1)).setCell ⟨w.heap.size, 1, none⟩ (.slice ua un uc))) := ((HEND.out wF hcurF).setCell (Nat.le_refl _) _).setCell (Nat.le_refl _) _
  obtain ⟨q0, _, _⟩ := HG.out
  clear hbF hu hi hcurF
  go_wp2_with fail
  generalize (wF.setCell ⟨w.heap.size, 0, none⟩ (.int .i64 1)).setCell ⟨w.heap.size, 1, none⟩ (.slice ua un uc) = W9 at *
  exact bodyPost_ret (v := .tuple #[.agg #[.int .i64 1, .slice ua un uc], .nilIface]) (by simp [results, Tryz.results8, go_sem, HG.out.2.1, HG.out.2.2]) rfl ⟨⟨_, t, rfl, HUU.out, HII.out⟩, HBE.out⟩
set_option maxRecDepth 100000 in
set_option maxHeartbeats 4000000 in
theorem Collision_big (a : Nat → Addr) (v : Value) (n S : Nat) (z : Nat → Int) (w : World) (hE : Errs w a) (h : NumsAt w v n z) (hS : sumN z n = (S : Int)) (hw0 : weightsErr z n = 0) (hd : 1000000 < S * S / Nat.gcd (sqNR z n) (S * S)) :
    Calls Tryz.prog 8 #[v] w fun e w' => e = .returned (.tuple #[.agg #[.int .i64 0, .slice none 0 0], errV a 2]) ∧ Below w.heap.size w w' := by
  obtain ⟨h16, hok⟩ := weightsErr_ok hw0
  have hn0 := hok.posN
  obtain ⟨b, o, cap, rfl, hrow⟩ := nums_row h hn0
  have hp := hok.pos
  have hl := hok.le
  obtain ⟨W0, hW0⟩ : ∃ W0, W0 = w.alloc (.cells #[.int .i64 0, .slice none 0 0] 27) := ⟨_, rfl⟩
  have hb0 : Below w.heap.size w W0 := by rw [hW0]; exact (Below.refl _ _).alloc (Nat.le_refl _) _
  have c0 : W0.cell? ⟨w.heap.size, 0, none⟩ = some (.int .i64 0) := by rw [hW0]; simp
  have c1 : W0.cell? ⟨w.heap.size, 1, none⟩ = some (.slice none 0 0) := by rw [hW0]; simp
  have f0 : W0.frozen? ⟨w.heap.size, 0, none⟩ = false := by rw [hW0]; simp
  have f1 : W0.frozen? ⟨w.heap.size, 1, none⟩ = false := by rw [hW0]; simp
  have HC : Hid (∀ W, Below W0.heap.size W0 W → (W.cell? ⟨w.heap.size, 0, none⟩ = some (.int .i64 0) ∧ W.cell? ⟨w.heap.size, 1, none⟩ = some (.slice none 0 0)) ∧ W.frozen? ⟨w.heap.size, 0, none⟩ = false ∧ W.frozen? ⟨w.heap.size, 1, none⟩ = false) := fun W hb => ⟨⟨by rw [hb.cell (cell_lt c0)]; exact c0, by rw [hb.cell (cell_lt c1)]; exact c1⟩, by rw [hb.frozen (show w.heap.size < W0.heap.size from cell_lt c0)]; exact f0, by rw [hb.frozen (show w.heap.size < W0.heap.size from cell_lt c0)]; exact f1⟩
  have HEND : Hid (∀ W, Below W0.heap.size W0 W → Below w.heap.size w W) := fun W hb => hb0.trans (hb.mono hb0.size)
  have HV := Hid.mk' (Valid_weights a _ n z W0 (hE.below hb0) (h.later hb0) (by omega))
  rw [hw0, errV_zero] at HV
  have HTO := Hid.mk' (fun (W : World) (hb : Below W0.heap.size W0 W) => by
    have h9 := total_some b o cap n z W ((hrow.later hb0).later hb) (fun k hk => by have := hok.part hk; omega) (fun k hk => by have := hok.lt hk; omega) (by omega)
    rw [hS] at h9
    exact h9)
  have hS0 : 1 ≤ S := by omega
  have hS4 : S ≤ 4096 := by omega
  have HW0 := Hid.mk' hW0
  have hS1 : sumA (wN z) n = S := by have := wN_sum hok.nn; omega
  have hT1 : sqNR z n ≤ S * S := by have := sqN_leR (z := z) (S := S) (n := n) (by omega); rwa [hS1] at this
  have hT0 : 0 < sqNR z n := sqN_posR (by omega)
  have hSS : S * S ≤ 16777216 := Nat.mul_le_mul (show S ≤ 4096 from hS4) hS4
  have hSP : 0 < S * S := Nat.mul_pos hS0 hS0
  have HSQ := Hid.mk' (squares_any b o cap n z W0 (hrow.later hb0) h16 (fun i hi => hok.lt hi))
  have HLO : Hid (∀ W, Calls Tryz.prog 25 #[.int .i64 (sqNR z n : Nat), .int .i64 ((S : Int) * (S : Int))] W fun e w' => e = .returned (.agg #[.int .i64 ((sqNR z n / Nat.gcd (sqNR z n) (S * S) : Nat) : Int), .int .i64 ((S * S / Nat.gcd (sqNR z n) (S * S) : Nat) : Int)]) ∧ Below W.heap.size W w') := fun W => by
    have h9 := lowest_any (sqNR z n : Int) (S * S) W (by omega) (by omega) hSP (by omega) (Nat.gcd (sqNR z n) (S * S)) rfl
    rw [Int.natCast_mul] at h9
    exact h9
  have hSI : (S : Int) * (S : Int) = ((S * S : Nat) : Int) := (Int.natCast_mul _ _).symm
  have hSI1 : 0 ≤ (S : Int) * (S : Int) ∧ (S : Int) * (S : Int) ≤ 16777216 := by rw [hSI]; omega
  have hq1 : 0 < sqNR z n / Nat.gcd (sqNR z n) (S * S) := Nat.div_pos (Nat.gcd_le_left _ hT0) (Nat.gcd_pos_of_pos_left _ hT0)
  have hq2 : sqNR z n / Nat.gcd (sqNR z n) (S * S) ≤ S * S / Nat.gcd (sqNR z n) (S * S) := Nat.div_le_div_right hT1
  have hq3 : S * S / Nat.gcd (sqNR z n) (S * S) ≤ 16777216 := Nat.le_trans (Nat.div_le_self _ _) hSS
  have hdI : (1000000 : Int) < ((S * S / Nat.gcd (sqNR z n) (S * S) : Nat) : Int) := by omega
  have HER := Hid.mk' (fun (W : World) (hb : Below W0.heap.size W0 W) => ((hE.below hb0).below hb).c1)
  have HGL : Hid (_ < w.heap.size) := cell_lt hE.c1
  have HEV : Hid (errV a 2 = .iface 183 (.pointer (some (a 1)))) := rfl
  clear hE h hrow hok hw0 hS hb0 hW0 hp hl c0 c1 f0 f1 hS1 hT1 hT0 hSS hSP hSI hS0 hS4
  generalize S * S / Nat.gcd (sqNR z n) (S * S) = q at *
  generalize sqNR z n / Nat.gcd (sqNR z n) (S * S) = p at *
  generalize sqNR z n = T at *
  go_enter Tryz.func8, Tryz.ntmps8
  go_upto_region 1 with fail
  rw [← HW0.out]
  go_wp2_with fail
  refine HV.out.mono ?_
  rintro e w2 ⟨rfl, hw2⟩
  rw [hw2]
  clear hw2 HV
  go_wp2_with fail
  refine HSQ.out.mono ?_
  rintro e w3 ⟨rfl, hwx⟩
  rw [hwx]
  clear hwx
  go_wp2_with fail
  refine (HTO.out W0 (Below.refl _ _)).mono ?_
  rintro e w4 ⟨rfl, hwx⟩
  rw [hwx]
  clear hwx
  go_wp2_with fail
  refine (HTO.out W0 (Below.refl _ _)).mono ?_
  rintro e w4 ⟨rfl, hwx⟩
  rw [hwx]
  clear hwx
  go_wp2_with fail
  refine (HLO.out W0).mono ?_
  rintro e w5 ⟨rfl, hb5⟩
  have HB5 : Hid (Below W0.heap.size W0 (w5.alloc (.cells #[.int .i64 (p : Int), .int .i64 (q : Int)] 38))) := below_chain hb5 ((Below.refl _ _).alloc (Nat.le_refl _) _)
  have g0 : (w5.alloc (.cells #[.int .i64 (p : Int), .int .i64 (q : Int)] 38)).cell? ⟨w5.heap.size, 0, none⟩ = some (.int .i64 (p : Int)) := by simp
  have g1 : (w5.alloc (.cells #[.int .i64 (p : Int), .int .i64 (q : Int)] 38)).cell? ⟨w5.heap.size, 1, none⟩ = some (.int .i64 (q : Int)) := by simp
  have HLA : Hid (w5.alloc (.cells #[.int .i64 (p : Int), .int .i64 (q : Int)] 38) = w5.alloc (.cells #[.int .i64 (p : Int), .int .i64 (q : Int)] 38)) := rfl
  clear hb5
  go_upto_region 5 with fail
  generalize w5.alloc (.cells #[.int .i64 (p : Int), .int .i64 (q : Int)] 38) = W5 at *
  generalize w5.heap.size = B5 at *
  have er := HER.out W5 HB5.out
  have hgl := HGL.out
  have er2 := (World.cell?_setCell_other W5 ⟨w.heap.size, 0, none⟩ _ (.int .i64 0) (fun e => absurd (congrArg Addr.block e) (Nat.ne_of_gt hgl))).trans er
  obtain ⟨⟨d0, d1⟩, d2, d3⟩ := HC.out W5 HB5.out
  clear HLA
  go_wp2_with fail
  go_region
  all_goals
    have HG := Hid.mk' (put_twoR (.int .i64 0) (.slice none 0 0) d0 d1)
    have HBE : Hid (Below w.heap.size w ((W5.setCell ⟨w.heap.size, 0, none⟩ (.int .i64 0)).setCell ⟨w.heap.size, 1, none⟩ (.slice none 0 0)).drew) := (((HEND.out W5 HB5.out).setCell (Nat.le_refl _) _).setCell (Nat.le_refl _) _).drew
    go_wp2_with fail
    have G1 := Hid.mk' HG.out.2.1
    have G2 := Hid.mk' HG.out.2.2
    clear HG d0 d1 d2 d3 er2
    generalize (W5.setCell ⟨w.heap.size, 0, none⟩ (.int .i64 0)).setCell ⟨w.heap.size, 1, none⟩ (.slice none 0 0) = W9 at *
    exact bodyPost_ret (v := .tuple #[.agg #[.int .i64 0, .slice none 0 0], .iface 183 (.pointer (some (a 1)))]) (by simp [results, Tryz.results8, go_sem, G1.out, G2.out]) rfl ⟨by rw [HEV.out], HBE.out⟩
end Go.Proofs.YtklhfagcembigaaGreatDoor
