/- Variables that hold fractions from 0 on, beside a list of numbers that grows. -/
import Derived.Test.YtnihclkaaglnjaaDoorCnRi
import Derived.Test.YtnihclkaaglnjaaDoorCgMath
import Derived.Test.YtnihclkaaglnjaaDoorCnCh
import Derived.Test.YtnihclkaaglnjaaDoorLol
import Derived.Test.YtnihclkaaglnjaaDoorMinus
import Derived.Test.YtnihclkaaglnjaaDoorRCmp
namespace Go.Proofs.YtnihclkaaglnjaaDoor
open Go.RowKit

theorem BigAt.over1 {w : World} {u v : Value} {n B j : Nat} {y : Value} (h : BigAt w u n) (hc : w.cell? ⟨B, j, none⟩ = some v) (hv : ∀ x, v ≠ .int .i64 x) : BigAt (w.setCell ⟨B, j, none⟩ y) u n := by
  obtain ⟨l, h1, h2, h3, h4⟩ := h
  refine ⟨l, h1, h2, h3, ?_⟩
  rcases h4 with h4 | ⟨b, o, cap, h5, h6, h7, h8⟩
  · exact Or.inl h4
  · refine Or.inr ⟨b, o, cap, h5, h6, h7, fun i hi => ?_⟩
    rw [World.cell?_setCell_other _ _ _ _ (fun e => ?_)]
    · exact h8 i hi
    · have := h8 i hi
      rw [← e, hc] at this
      exact hv _ (Option.some.inj this)
/-- A variable that holds a fraction. -/
structure GBox (W0 W : World) (B a d : Nat) : Prop where
  below : Below W0.heap.size W0 W
  hB : W0.heap.size ≤ B
  f0 : W.frozen? ⟨B, 0, none⟩ = false
  f1 : W.frozen? ⟨B, 1, none⟩ = false
  f2 : W.frozen? ⟨B, 2, none⟩ = false
  box : ∃ ad l cap ad' l' cap', W.cell? ⟨B, 0, none⟩ = some (.bool false) ∧ W.cell? ⟨B, 1, none⟩ = some (.slice ad l cap) ∧ W.cell? ⟨B, 2, none⟩ = some (.slice ad' l' cap') ∧ BigAt W (.slice ad l cap) a ∧ BigAt W (.slice ad' l' cap') d
theorem GBox.later {W0 W W' : World} {B a d : Nat} (h : GBox W0 W B a d) (hb : Below W.heap.size W W') : GBox W0 W' B a d := by
  obtain ⟨ad, l, cap, ad', l', cap', c0, c1, c2, h1, h2⟩ := h.box
  exact ⟨below_chain h.below hb, h.hB, by rw [hb.frozen (cell_lt c0)]; exact h.f0, by rw [hb.frozen (cell_lt c1)]; exact h.f1, by rw [hb.frozen (cell_lt c2)]; exact h.f2, ad, l, cap, ad', l', cap', by rw [hb.cell (cell_lt c0)]; exact c0, by rw [hb.cell (cell_lt c1)]; exact c1, by rw [hb.cell (cell_lt c2)]; exact c2, h1.later hb, h2.later hb⟩
theorem gBox_new {W0 W : World} {a d : Nat} {ad ad' : Option Addr} {l cap l' cap' : Nat} {t : TypeId} (h : Below W0.heap.size W0 W) (h1 : BigAt W (.slice ad l cap) a) (h2 : BigAt W (.slice ad' l' cap') d) : GBox W0 (W.alloc (.cells #[.bool false, .slice ad l cap, .slice ad' l' cap'] t)) W.heap.size a d := by
  have hb : Below W.heap.size W (W.alloc (.cells #[.bool false, .slice ad l cap, .slice ad' l' cap'] t)) := (Below.refl _ _).alloc (Nat.le_refl _) _
  exact ⟨below_chain h hb, h.size, by simp, by simp, by simp, ad, l, cap, ad', l', cap', by simp, by simp, by simp, h1.later hb, h2.later hb⟩
theorem gBox_put {W0 W : World} {B a d : Nat} {ad ad' bd bd' : Option Addr} {l cap l' cap' m bap m' bap' : Nat} (h : Below W0.heap.size W0 W) (hB : W0.heap.size ≤ B) (f0 : W.frozen? ⟨B, 0, none⟩ = false) (f1 : W.frozen? ⟨B, 1, none⟩ = false) (f2 : W.frozen? ⟨B, 2, none⟩ = false) (c0 : W.cell? ⟨B, 0, none⟩ = some (.bool false)) (c1 : W.cell? ⟨B, 1, none⟩ = some (.slice bd m bap)) (c2 : W.cell? ⟨B, 2, none⟩ = some (.slice bd' m' bap')) (h1 : BigAt W (.slice ad l cap) a) (h2 : BigAt W (.slice ad' l' cap') d) : GBox W0 (((W.setCell ⟨B, 0, none⟩ (.bool false)).setCell ⟨B, 1, none⟩ (.slice ad l cap)).setCell ⟨B, 2, none⟩ (.slice ad' l' cap')) B a d := by
  have e1 : (W.setCell ⟨B, 0, none⟩ (.bool false)).cell? ⟨B, 1, none⟩ = some (.slice bd m bap) := by rw [World.cell?_setCell_other _ _ _ _ (by simp)]; exact c1
  have e2 : ((W.setCell ⟨B, 0, none⟩ (.bool false)).setCell ⟨B, 1, none⟩ (.slice ad l cap)).cell? ⟨B, 2, none⟩ = some (.slice bd' m' bap') := by rw [World.cell?_setCell_other _ _ _ _ (by simp), World.cell?_setCell_other _ _ _ _ (by simp)]; exact c2
  refine ⟨below_set3 h hB _ _ _, hB, by simpa using f0, by simpa using f1, by simpa using f2, ad, l, cap, ad', l', cap', ?_, ?_, ?_, ?_, ?_⟩
  · rw [World.cell?_setCell_other _ _ _ _ (by simp), World.cell?_setCell_other _ _ _ _ (by simp)]; exact World.cell?_setCell_same _ _ _ c0
  · rw [World.cell?_setCell_other _ _ _ _ (by simp)]; exact World.cell?_setCell_same _ _ _ e1
  · exact World.cell?_setCell_same _ _ _ e2
  · exact ((h1.over1 c0 (by simp)).over1 e1 (by simp)).over1 e2 (by simp)
  · exact ((h2.over1 c0 (by simp)).over1 e1 (by simp)).over1 e2 (by simp)
/-- All of a growing list's block are numbers: so it is no variable's. -/
theorem own_not_box {w : World} {base : Nat} {t : TypeId} {v : Value} {n B : Nat} {l : List Int} {b : Bool} (hn : l.length = n) (h : w.ownsRow base t 1 v n (cellL l)) (hsp : Spare0 w v n) (hc : w.cell? ⟨B, 0, none⟩ = some (.bool b)) : v.ownBlock ≠ some B := fun e => by
  rcases Nat.eq_zero_or_pos n with h0 | h0
  · have := hsp B e 0 _ (by omega) hc
    cases this
  · obtain ⟨g, cap, rfl, _, _⟩ := h.form h0
    obtain rfl : g = B := by simpa [Value.ownBlock] using e
    cases l with
    | nil => simp at hn; omega
    | cons x r =>
      have := h.cells (g := g) rfl 0 (.int .i64 x) (by simp [cellL])
      rw [add_plain, Nat.zero_add, hc] at this
      cases this
theorem Spare0.put {w : World} {v : Value} {n : Nat} (h : Spare0 w v n) (p : Addr) (y : Value) (hne : v.ownBlock ≠ some p.block) : Spare0 (w.setCell p y) v n := fun g hg j x hj hx => by
  refine h g hg j x hj ?_
  rw [World.cell?_setCell_other _ _ _ _ (fun e => hne (by rw [hg, e]))] at hx
  exact hx
/-- A variable stays as it is while the list grows. -/
theorem GBox.grown {W0 W W' : World} {B a d base n : Nat} {t : TypeId} {v : Value} {l : List Int} (h : GBox W0 W B a d) (hn : l.length = n) (hown : W.ownsRow base t 1 v n (cellL l)) (hsp : Spare0 W v n) (hb : Below W0.heap.size W0 W') (hg : W.grownBy W' v.ownBlock) (hK : ∀ u N, BigAt W u N → BigAt W' u N) : GBox W0 W' B a d := by
  obtain ⟨ad, k, cap, ad', k', cap', c0, c1, c2, h1, h2⟩ := h.box
  have hne := own_not_box hn hown hsp c0
  have far : ∀ j x, W.cell? ⟨B, j, none⟩ = some x → W'.cell? ⟨B, j, none⟩ = some x := fun j x hx => by
    rw [hg.cell_far _ (cell_lt hx) (fun e => hne e.symm)]; exact hx
  have ffar : ∀ j x, W.cell? ⟨B, j, none⟩ = some x → W.frozen? ⟨B, j, none⟩ = false → W'.frozen? ⟨B, j, none⟩ = false := fun j x hx hf => by
    rw [hg.frozen_far _ (cell_lt hx) (fun e => hne e.symm)]; exact hf
  exact ⟨hb, h.hB, ffar 0 _ c0 h.f0, ffar 1 _ c1 h.f1, ffar 2 _ c2 h.f2, ad, k, cap, ad', k', cap', far 0 _ c0, far 1 _ c1, far 2 _ c2, hK _ _ h1, hK _ _ h2⟩

theorem RatioOf_parts (a b : Nat) (w : World) (ha : a ≤ 4611686018427387904) (hb0 : 0 < b) (hb : b ≤ 4611686018427387904) :
    Calls Tryd.prog 36 #[.int .i64 (a : Int), .int .i64 (b : Int)] w fun e w' => ∃ a1 l1 c1 a2 l2 c2, e = .returned (.agg #[.bool false, .slice a1 l1 c1, .slice a2 l2 c2]) ∧ BigAt w' (.slice a1 l1 c1) (lowP a b).1 ∧ BigAt w' (.slice a2 l2 c2) (lowP a b).2 ∧ Below w.heap.size w w' := by
  refine (RatioOf_lowP a b w ha hb0 hb).mono ?_
  rintro e w' ⟨r, rfl, ⟨u, q, rfl, hu, hq⟩, hbw⟩
  rw [Int.natAbs_natCast] at hu
  obtain ⟨a1, l1, c1, rfl, _⟩ := hu.len
  obtain ⟨a2, l2, c2, rfl, _⟩ := hq.len
  exact ⟨a1, l1, c1, a2, l2, c2, by rw [decide_eq_false (Int.not_lt.mpr (Int.natCast_nonneg _))], hu, hq, hbw⟩
theorem ratio_parts {w : World} {u q : Value} {a d : Nat} (h1 : BigAt w u a) (h2 : BigAt w q d) : RatioAt w (.agg #[.bool false, u, q]) (a : Int) d :=
  ⟨u, q, by rw [decide_eq_false (Int.not_lt.mpr (Int.natCast_nonneg _))], by rw [Int.natAbs_natCast]; exact h1, h2⟩
/-- Minus of two fractions over one number, the greater first. -/
theorem Minus_lowP (u1 q1 u2 q2 : Value) (x y L : Nat) (w : World) (h1 : BigAt w u1 (lowP x L).1) (h2 : BigAt w q1 (lowP x L).2) (h3 : BigAt w u2 (lowP y L).1) (h4 : BigAt w q2 (lowP y L).2) (hL : 0 < L) (hyx : y ≤ x) (hx : x ≤ 1000000000) (hL4 : L ≤ 1000000000) :
    Calls Tryd.prog 38 #[.agg #[.bool false, u1, q1], .agg #[.bool false, u2, q2]] w fun e w' => ∃ a1 l1 c1 a2 l2 c2, e = .returned (.agg #[.bool false, .slice a1 l1 c1, .slice a2 l2 c2]) ∧ BigAt w' (.slice a1 l1 c1) (lowP (x - y) L).1 ∧ BigAt w' (.slice a2 l2 c2) (lowP (x - y) L).2 ∧ Below w.heap.size w w' := by
  have k1 := lowP_le x L
  have k2 := lowP_le y L
  have hp : (1000000000 : Nat) < 1000000 ^ 2 := by decide
  refine (Minus_ratio _ _ _ _ _ _ 2 w (ratio_parts h1 h2) (ratio_parts h3 h4) (lowP_low hL).1 (lowP_low hL).1 (by rw [Int.natAbs_natCast]; omega) (by rw [Int.natAbs_natCast]; omega) (by omega) (by omega) (by omega)).mono ?_
  rintro e w' ⟨r, rfl, ⟨u, q, rfl, hu, hq⟩, hbw⟩
  have hle := lowP_le_cross (x := x) (y := y) hL hyx
  have e1 : ((lowP x L).1 : Int) * ((lowP y L).2 : Int) + -((lowP y L).1 : Int) * ((lowP x L).2 : Int) = (((lowP x L).1 * (lowP y L).2 - (lowP y L).1 * (lowP x L).2 : Nat) : Int) := by
    rw [Int.ofNat_sub hle, Int.neg_mul, Int.natCast_mul, Int.natCast_mul]; rfl
  rw [e1, Int.natAbs_natCast, tdiv_nat] at hu
  rw [e1, Int.natAbs_natCast] at hq
  rw [Int.natAbs_natCast] at hu
  have hs := lowP_sub (x := x) (y := y) hL
  have hu2 : BigAt w' u (lowP ((lowP x L).1 * (lowP y L).2 - (lowP y L).1 * (lowP x L).2) ((lowP x L).2 * (lowP y L).2)).1 := hu
  have hq2 : BigAt w' q (lowP ((lowP x L).1 * (lowP y L).2 - (lowP y L).1 * (lowP x L).2) ((lowP x L).2 * (lowP y L).2)).2 := hq
  rw [hs] at hu2 hq2
  obtain ⟨a1, l1, c1, rfl, _⟩ := hu2.len
  obtain ⟨a2, l2, c2, rfl, _⟩ := hq2.len
  refine ⟨a1, l1, c1, a2, l2, c2, ?_, hu2, hq2, hbw⟩
  rw [e1, Int.natAbs_natCast, tdiv_nat, decide_eq_false (Int.not_lt.mpr (Int.natCast_nonneg _))]
/-- Cmp of two fractions over one number. -/
theorem Cmp_lowP (u1 q1 u2 q2 : Value) (x y L : Nat) (w : World) (h1 : BigAt w u1 (lowP x L).1) (h2 : BigAt w q1 (lowP x L).2) (h3 : BigAt w u2 (lowP y L).1) (h4 : BigAt w q2 (lowP y L).2) (hL : 0 < L) (hx : x ≤ 1000000000) (hy : y ≤ 1000000000) (hL4 : L ≤ 1000000000) :
    Calls Tryd.prog 37 #[.agg #[.bool false, u1, q1], .agg #[.bool false, u2, q2]] w fun e w' => (∃ c : Int, e = .returned (.int .i64 c) ∧ (0 < c ↔ y < x)) ∧ Below w.heap.size w w' := by
  have k1 := lowP_le x L
  have k2 := lowP_le y L
  have hp : (1000000000 : Nat) < 1000000 ^ 2 := by decide
  refine (RCmp_any _ _ _ _ _ _ 2 w (ratio_parts h1 h2) (ratio_parts h3 h4) (by rw [Int.natAbs_natCast]; omega) (by rw [Int.natAbs_natCast]; omega) (by omega) (by omega) (by omega)).mono ?_
  rintro e w' ⟨rfl, hbw⟩
  refine ⟨⟨_, rfl, ?_⟩, hbw⟩
  rw [← lowP_lt hL]
  have e1 : ((lowP x L).1 : Int) * ((lowP y L).2 : Int) = (((lowP x L).1 * (lowP y L).2 : Nat) : Int) := by simp
  have e2 : ((lowP y L).1 : Int) * ((lowP x L).2 : Int) = (((lowP y L).1 * (lowP x L).2 : Nat) : Int) := by simp
  rw [e1, e2]
  generalize (lowP x L).1 * (lowP y L).2 = A
  generalize (lowP y L).1 * (lowP x L).2 = B
  unfold sgnZ
  by_cases hz : ((A : Int) - (B : Int)) = 0
  · rw [if_pos hz]
    constructor
    · intro h; omega
    · intro h; omega
  · rw [if_neg hz]
    by_cases hn : ((A : Int) - (B : Int)) < 0
    · rw [if_pos hn]
      constructor
      · intro h; omega
      · intro h; omega
    · rw [if_neg hn]
      constructor
      · intro _; omega
      · intro _; omega
end Go.Proofs.YtnihclkaaglnjaaDoor
