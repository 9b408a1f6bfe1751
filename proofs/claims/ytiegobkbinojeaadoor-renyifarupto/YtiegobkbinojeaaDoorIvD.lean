/- The document's interval of a message. -/
import Derived.Test.YtiegobkbinojeaaDoorWideMath
import Derived.Test.YtiegobkbinojeaaDoorLastOp
import Derived.Test.YtiegobkbinojeaaDoorPlus
namespace Go.Proofs.YtiegobkbinojeaaDoor
open Go.RowKit

theorem cell_put {W : World} {p : Addr} {x : Value} (y : Value) (h : W.cell? p = some x) (q : Addr) : (W.setCell p y).cell? q = if q = p then some y else W.cell? q := by
  split
  · rename_i e; subst e; exact World.cell?_setCell_same _ _ _ h
  · rename_i e; exact World.cell?_setCell_other _ _ _ _ (fun e' => e e'.symm)
theorem put_three' {W : World} {b : Nat} {x0 x1 x2 : Value} (y0 y1 y2 : Value) (h0 : W.cell? ⟨b, 0, none⟩ = some x0) (h1 : W.cell? ⟨b, 1, none⟩ = some x1) (h2 : W.cell? ⟨b, 2, none⟩ = some x2) :
    ((W.setCell ⟨b, 0, none⟩ y0).cell? ⟨b, 1, none⟩ = some x1 ∧ ((W.setCell ⟨b, 0, none⟩ y0).setCell ⟨b, 1, none⟩ y1).cell? ⟨b, 2, none⟩ = some x2) ∧
    ((((W.setCell ⟨b, 0, none⟩ y0).setCell ⟨b, 1, none⟩ y1).setCell ⟨b, 2, none⟩ y2).cell? ⟨b, 0, none⟩ = some y0 ∧ (((W.setCell ⟨b, 0, none⟩ y0).setCell ⟨b, 1, none⟩ y1).setCell ⟨b, 2, none⟩ y2).cell? ⟨b, 1, none⟩ = some y1) ∧
    (((W.setCell ⟨b, 0, none⟩ y0).setCell ⟨b, 1, none⟩ y1).setCell ⟨b, 2, none⟩ y2).cell? ⟨b, 2, none⟩ = some y2 := by
  have e1 : (W.setCell ⟨b, 0, none⟩ y0).cell? ⟨b, 1, none⟩ = some x1 := by rw [cell_put _ h0, if_neg (by simp)]; exact h1
  have e2 : ((W.setCell ⟨b, 0, none⟩ y0).setCell ⟨b, 1, none⟩ y1).cell? ⟨b, 2, none⟩ = some x2 := by rw [cell_put _ e1, if_neg (by simp), cell_put _ h0, if_neg (by simp)]; exact h2
  refine ⟨⟨e1, e2⟩, ⟨?_, ?_⟩, ?_⟩
  · rw [cell_put _ e2, if_neg (by simp), cell_put _ e1, if_neg (by simp), cell_put _ h0, if_pos rfl]
  · rw [cell_put _ e2, if_neg (by simp), cell_put _ e1, if_pos rfl]
  · rw [cell_put _ e2, if_pos rfl]
theorem RatioAt.sl {w : World} {v : Value} {n : Int} {d : Nat} (h : RatioAt w v n d) : ∃ s ad l cap ad' l' cap', v = .agg #[.bool s, .slice ad l cap, .slice ad' l' cap'] := by
  obtain ⟨u, q, rfl, h1, h2⟩ := h
  obtain ⟨ad, l, cap, rfl, _⟩ := h1.len
  obtain ⟨ad', l', cap', rfl, _⟩ := h2.len
  exact ⟨_, _, _, _, _, _, _, rfl⟩
theorem IntsAt.setA {w : World} {u y : Value} {l : List Nat} {p : Addr} {v : Value} (h : IntsAt w u l) (hc : w.cell? p = some v) (hv : ∀ x, v ≠ .int .i64 x) : IntsAt (w.setCell p y) u l := by
  rcases h with h | ⟨b, o, cap, h1, h2, h3, h4⟩
  · exact Or.inl h
  · refine Or.inr ⟨b, o, cap, h1, h2, h3, fun i hi => ?_⟩
    rw [World.cell?_setCell_other _ _ _ _ (fun e => ?_)]
    · exact h4 i hi
    · have := h4 i hi
      rw [← e, hc] at this
      exact hv _ (Option.some.inj this)
theorem BigAt.setA {w : World} {u y : Value} {n : Nat} {p : Addr} {v : Value} (h : BigAt w u n) (hc : w.cell? p = some v) (hv : ∀ x, v ≠ .int .i64 x) : BigAt (w.setCell p y) u n := by
  obtain ⟨l, h1, h2, h3, h4⟩ := h
  exact ⟨l, h1, h2, h3, h4.setA hc hv⟩
theorem RatioAt.setA {w : World} {u y : Value} {n : Int} {d : Nat} {p : Addr} {v : Value} (h : RatioAt w u n d) (hc : w.cell? p = some v) (hv : ∀ x, v ≠ .int .i64 x) : RatioAt (w.setCell p y) u n d := by
  obtain ⟨a, b, h1, h2, h3⟩ := h
  exact ⟨a, b, h1, h2.setA hc hv, h3.setA hc hv⟩
def put3 (w : World) (b : Nat) (x y z : Value) : World := ((w.setCell ⟨b, 0, none⟩ x).setCell ⟨b, 1, none⟩ y).setCell ⟨b, 2, none⟩ z
/-- A variable that holds a fraction of the document. -/
structure RBox (w : World) (b : Nat) (s : Bool) (x : Option Addr) (l c : Nat) (x' : Option Addr) (l' c' : Nat) (n : Int) (d : Nat) : Prop where
  c0 : w.cell? ⟨b, 0, none⟩ = some (.bool s)
  c1 : w.cell? ⟨b, 1, none⟩ = some (.slice x l c)
  c2 : w.cell? ⟨b, 2, none⟩ = some (.slice x' l' c')
  rat : RatioAt w (.agg #[.bool s, .slice x l c, .slice x' l' c']) n d
  fz : ∀ j, j < 3 → w.frozen? ⟨b, j, none⟩ = false
theorem RBox.later {w w' : World} {b : Nat} {s : Bool} {x : Option Addr} {l c : Nat} {x' : Option Addr} {l' c' : Nat} {n : Int} {d : Nat} (h : RBox w b s x l c x' l' c' n d) (hb : Below w.heap.size w w') : RBox w' b s x l c x' l' c' n d :=
  ⟨by rw [hb.cell (cell_lt h.c0)]; exact h.c0, by rw [hb.cell (cell_lt h.c1)]; exact h.c1, by rw [hb.cell (cell_lt h.c2)]; exact h.c2, h.rat.later hb, fun j hj => by rw [hb.frozen (show b < w.heap.size from cell_lt h.c0)]; exact h.fz j hj⟩
theorem RatioAt.put3 {w : World} {b : Nat} {s : Bool} {x : Option Addr} {l c : Nat} {x' : Option Addr} {l' c' : Nat} {n m : Int} {d e : Nat} {v : Value} (h : RBox w b s x l c x' l' c' n d) (hr : RatioAt w v m e) (y0 y1 y2 : Value) : RatioAt (put3 w b y0 y1 y2) v m e := by
  obtain ⟨⟨g0, g1⟩, _, _⟩ := put_three' y0 y1 y2 h.c0 h.c1 h.c2
  unfold Go.Proofs.YtiegobkbinojeaaDoor.put3
  exact ((hr.setA h.c0 (by simp)).setA g0 (by simp)).setA g1 (by simp)
theorem RBox.put {w : World} {b : Nat} {s t : Bool} {x y : Option Addr} {l c m q : Nat} {x' y' : Option Addr} {l' c' m' q' : Nat} {n n2 : Int} {d d2 : Nat} (h : RBox w b s x l c x' l' c' n d) (hr : RatioAt w (.agg #[.bool t, .slice y m q, .slice y' m' q']) n2 d2) : RBox (put3 w b (.bool t) (.slice y m q) (.slice y' m' q')) b t y m q y' m' q' n2 d2 := by
  obtain ⟨_, ⟨g2, g3⟩, g4⟩ := put_three' (.bool t) (.slice y m q) (.slice y' m' q') h.c0 h.c1 h.c2
  exact ⟨g2, g3, g4, hr.put3 h _ _ _, fun j hj => by unfold Go.Proofs.YtiegobkbinojeaaDoor.put3; rw [World.frozen?_setCell, World.frozen?_setCell, World.frozen?_setCell]; exact h.fz j hj⟩
theorem RBox.aside {w : World} {b b2 : Nat} {s s2 : Bool} {x x2 : Option Addr} {l c l2 c2 : Nat} {x' x2' : Option Addr} {l' c' l2' c2' : Nat} {n n2 : Int} {d d2 : Nat} (h : RBox w b s x l c x' l' c' n d) (h2 : RBox w b2 s2 x2 l2 c2 x2' l2' c2' n2 d2) (hne : b2 ≠ b) (y0 y1 y2 : Value) : RBox (put3 w b2 y0 y1 y2) b s x l c x' l' c' n d := by
  have hcell : ∀ j, (put3 w b2 y0 y1 y2).cell? ⟨b, j, none⟩ = w.cell? ⟨b, j, none⟩ := fun j => by
    unfold Go.Proofs.YtiegobkbinojeaaDoor.put3
    rw [World.cell?_setCell_other _ _ _ _ (fun e => hne (congrArg Addr.block e)), World.cell?_setCell_other _ _ _ _ (fun e => hne (congrArg Addr.block e)), World.cell?_setCell_other _ _ _ _ (fun e => hne (congrArg Addr.block e))]
  exact ⟨by rw [hcell]; exact h.c0, by rw [hcell]; exact h.c1, by rw [hcell]; exact h.c2, h.rat.put3 h2 _ _ _, fun j hj => by unfold Go.Proofs.YtiegobkbinojeaaDoor.put3; rw [World.frozen?_setCell, World.frozen?_setCell, World.frozen?_setCell]; exact h.fz j hj⟩
theorem big_none (w : World) : BigAt w (.slice none 0 0) 0 := ⟨[], fun i hi => by simp at hi, fun i hi => by simp at hi, rfl, Or.inl ⟨_, _, rfl, rfl⟩⟩
theorem RBox.fresh {w : World} {s : Bool} {x : Option Addr} {l c : Nat} {x' : Option Addr} {l' c' : Nat} {n : Int} {d : Nat} (hr : RatioAt w (.agg #[.bool s, .slice x l c, .slice x' l' c']) n d) : RBox (w.alloc (.cells #[.bool s, .slice x l c, .slice x' l' c'] 50)) w.heap.size s x l c x' l' c' n d :=
  ⟨by simp, by simp, by simp, hr.later ((Below.refl _ _).alloc (Nat.le_refl _) _), fun j hj => by rcases (show j = 0 ∨ j = 1 ∨ j = 2 by omega) with rfl | rfl | rfl <;> simp⟩

/-- The steps, in lowest terms. -/
theorem low_step {M S : Nat} (hM : 0 < M) (hS : 0 < S) (W A : Int) : (lowN M W * lowN S A).tdiv ((Nat.gcd (lowN M W * lowN S A).natAbs (lowD M W * lowD S A) : Nat) : Int) = lowN (M * S) (W * A) ∧ lowD M W * lowD S A / Nat.gcd (lowN M W * lowN S A).natAbs (lowD M W * lowD S A) = lowD (M * S) (W * A) := by
  refine low_same (Nat.mul_pos hM hS) (Nat.mul_pos (lowD_pos hM W) (lowD_pos hS A)) ?_
  have h1 := low_cross hM W
  have h2 := low_cross hS A
  rw [Int.natCast_mul, Int.natCast_mul]
  generalize lowN M W = a at *
  generalize lowN S A = b at *
  generalize (lowD M W : Int) = c at *
  generalize (lowD S A : Int) = e at *
  generalize (M : Int) = m at *
  generalize (S : Int) = s at *
  calc a * b * (m * s) = (a * m) * (b * s) := by grind
    _ = (W * c) * (A * e) := by rw [h1, h2]
    _ = W * A * (c * e) := by grind
theorem low_add {M S : Nat} (hM : 0 < M) (hS : 0 < S) (L X : Int) : (lowN M L * (lowD (M * S) X : Int) + lowN (M * S) X * (lowD M L : Int)).tdiv ((Nat.gcd (lowN M L * (lowD (M * S) X : Int) + lowN (M * S) X * (lowD M L : Int)).natAbs (lowD M L * lowD (M * S) X) : Nat) : Int) = lowN (M * S) (L * S + X) ∧ lowD M L * lowD (M * S) X / Nat.gcd (lowN M L * (lowD (M * S) X : Int) + lowN (M * S) X * (lowD M L : Int)).natAbs (lowD M L * lowD (M * S) X) = lowD (M * S) (L * S + X) := by
  refine low_same (Nat.mul_pos hM hS) (Nat.mul_pos (lowD_pos hM L) (lowD_pos (Nat.mul_pos hM hS) X)) ?_
  have h1 := low_cross hM L
  have h2 := low_cross (Nat.mul_pos hM hS) X
  rw [Int.natCast_mul] at h2
  rw [Int.natCast_mul, Int.natCast_mul]
  generalize lowN M L = a at *
  generalize lowN (M * S) X = b at *
  generalize (lowD M L : Int) = c at *
  generalize (lowD (M * S) X : Int) = e at *
  generalize (M : Int) = m at *
  generalize (S : Int) = s at *
  calc (a * e + b * c) * (m * s) = (a * m) * (e * s) + (b * (m * s)) * c := by grind
    _ = (L * c) * (e * s) + (X * e) * c := by rw [h1, h2]
    _ = (L * s + X) * (c * e) := by grind
theorem low_room {M : Nat} (hM : 0 < M) {x : Nat} (hx : x ≤ M) (hR : M < 1000000 ^ 20) : (lowN M (x : Int)).natAbs < 1000000 ^ 20 ∧ lowD M (x : Int) < 1000000 ^ 20 := by
  have h1 := lowN_le hM (x : Int)
  have h2 := lowD_le M (x : Int)
  rw [Int.natAbs_natCast] at h1
  exact ⟨by omega, by omega⟩
theorem pow_small {S j : Nat} (hS : S ≤ 4096) (hj : j ≤ 25) : S ^ j < 1000000 ^ 20 :=
  Nat.lt_of_le_of_lt (Nat.pow_le_pow_left hS j) (Nat.lt_of_le_of_lt (Nat.pow_le_pow_right (by decide) hj) (by decide))

end Go.Proofs.YtiegobkbinojeaaDoor
