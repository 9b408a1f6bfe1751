/- (*Wide).Log: a logarithm, so often. -/
import Derived.Test.YtklhfagcembigaaGreatDoorPrimeAny
import Derived.Test.YtklhfagcembigaaGreatDoorNumber
import Derived.Test.YtklhfagcembigaaGreatDoorValidWalk
namespace Go.Proofs.YtklhfagcembigaaGreatDoor
open Go.RowKit

/-- The coefficients of a number among the first k terms. -/
def sumAt (p c : Nat → Int) (x : Int) : Nat → Int
  | 0 => 0
  | k + 1 => sumAt p c x k + if x = p k then c k else 0
theorem LogAt.kept {w w' : World} {sv : Value} {n : Nat} {p c : Nat → Int} (h : LogAt w sv n p c) (hk : IntsKept w w') : LogAt w' sv n p c := by
  rcases h with h | ⟨b, o, cap, h1, h2, h3⟩
  · exact Or.inl h
  · exact Or.inr ⟨b, o, cap, h1, h2, fun k hk' => ⟨hk _ _ (h3 k hk').1, hk _ _ (h3 k hk').2⟩⟩
theorem LogAt.cellsOf {w : World} {ad : Option Addr} {n cap : Nat} {p c : Nat → Int} (h : LogAt w (.slice ad n cap) n p c) {k : Nat} (hk : k < n) : ∃ b o, ad = some ⟨b, o, none⟩ ∧ w.cell? ⟨b, o + k * 2, none⟩ = some (.int .i64 (p k)) ∧ w.cell? ⟨b, o + k * 2 + 1, none⟩ = some (.int .i64 (c k)) := by
  rcases h with ⟨_, _, _, rfl⟩ | ⟨b, o, _, h1, _, h3⟩
  · omega
  · simp only [Value.slice.injEq] at h1
    exact ⟨b, o, h1.1, h3 k hk⟩
theorem WideAt.not_mine' {base M : Nat} {w W : World} {B : Nat} {vp vc : Value} {L : List Ent} (h : WideAt base M w B vp vc L) (hb : Below w.heap.size w W) {k : Nat} (hk : w.heap.size ≤ k) : ¬ Mine B W k := by
  have hB := h.lt
  rintro (h1 | ⟨n, cap, h1⟩)
  · omega
  · rw [(h.later hb).cc] at h1
    have hv := Option.some.inj h1
    subst hv
    rcases h.C.2 with ⟨h2, _⟩ | ⟨g, c, cur, h2, _, h3, _⟩
    · cases h2
    · have h4 : k = g := by injection h2 with h2; injection h2 with h2; injection h2
      have h5 := h.C.lt g (by rw [h2]; rfl)
      omega
/-- A coefficient of a logarithm times a fraction, over M. -/
theorem coef_low {M d xd m : Nat} {xn c : Int} (hM : M = d * xd * m) (hM0 : 0 < M) : (xn * c.tdiv ((Nat.gcd c.natAbs d : Nat) : Int)).tdiv ((Nat.gcd (xn * c.tdiv ((Nat.gcd c.natAbs d : Nat) : Int)).natAbs (xd * (d / Nat.gcd c.natAbs d)) : Nat) : Int) = lowN M (xn * m * c) ∧ xd * (d / Nat.gcd c.natAbs d) / Nat.gcd (xn * c.tdiv ((Nat.gcd c.natAbs d : Nat) : Int)).natAbs (xd * (d / Nat.gcd c.natAbs d)) = lowD M (xn * m * c) := by
  have hd : 0 < d := Nat.pos_of_ne_zero fun h => by rw [h, Nat.zero_mul, Nat.zero_mul] at hM; omega
  have hx : 0 < xd := Nat.pos_of_ne_zero fun h => by rw [h, Nat.mul_zero, Nat.zero_mul] at hM; omega
  obtain ⟨g1, g2, g3, _, _, g6⟩ := low_parts (n := c) hd
  refine low_same hM0 (Nat.mul_pos hx g6) ?_
  have h3 : (d : Int) = ((Nat.gcd c.natAbs d : Nat) : Int) * ((d / Nat.gcd c.natAbs d : Nat) : Int) := by rw [← Int.natCast_mul, ← g3]
  rw [hM, Int.natCast_mul, Int.natCast_mul, Int.natCast_mul]
  generalize Nat.gcd c.natAbs d = g at *
  generalize ((d / g : Nat) : Int) = e at *
  generalize c.tdiv (g : Int) = f at *
  rw [h3]
  conv => rhs; rw [g2]
  grind

/-- What Log keeps: k terms are put. -/
structure InLog (base M B : Nat) (W0 wr : World) (F : Int) (p c : Nat → Int) (L0 : List Ent) (k : Nat) (vp vc : Value) (L : List Ent) : Prop where
  wide : WideAt base M wr B vp vc L
  rise : Rising (absL L)
  val : ∀ x, atL (absL L) x = atL (absL L0) x + F * sumAt p c x k
  len : L.length ≤ L0.length + k
  kept : IntsKept W0 wr
  moved : Moved B W0 wr
  below : Below base W0 wr
theorem InLog.put {base M B : Nat} {W0 wr w1 : World} {F : Int} {p c : Nat → Int} {L0 : List Ent} {k q : Nat} {vp vc vp' vc' : Value} {L L' : List Ent} (h : InLog base M B W0 wr F p c L0 k vp vc L) (hq : p k = (q : Int))
    (hw : WideAt base M w1 B vp' vc' L') (hp : Put (absL L) (absL L') q (F * c k)) (hk : IntsKept wr w1) (hmv : Moved B wr w1) (hb : Below base wr w1) : InLog base M B W0 w1 F p c L0 (k + 1) vp' vc' L' := by
  refine ⟨hw, hp.rise, fun x => ?_, ?_, h.kept.trans hk, h.moved.trans hmv, h.below.trans hb⟩
  · rw [hp.val x, h.val x]
    show _ = _ + F * (sumAt p c x k + if x = p k then c k else 0)
    rw [Int.mul_add, hq]
    by_cases hx : x = (q : Int)
    · rw [if_pos hx, if_pos hx]; omega
    · rw [if_neg hx, if_neg hx, Int.mul_zero]; omega
  · have h1 := hp.len
    have h2 := h.len
    rw [absL_length, absL_length] at h1
    omega
theorem InLog.coef {base M B : Nat} {W0 wr : World} {F : Int} {p c : Nat → Int} {L0 : List Ent} {k E : Nat} {vp vc : Value} {L : List Ent} (h : InLog base M B W0 wr F p c L0 k vp vc L) (hb : ∀ x, (atL (absL L0) x + F * sumAt p c x k).natAbs < E) : ∀ e ∈ L, e.z.natAbs < E := fun e he => by
  have h0 := atL_mem h.rise (absL_mem he)
  simp only at h0
  rw [← h0, h.val]
  exact hb _

end Go.Proofs.YtklhfagcembigaaGreatDoor
