/- The document's Entropy of a Wide, and EntropyOf. -/
import Derived.Test.YtdhbphdgdkfhfaaGreatDoorMinus
import Derived.Test.YtdhbphdgdkfhfaaGreatDoorWLog
import Derived.Test.YtdhbphdgdkfhfaaGreatDoorWTold
import Derived.Test.YtdhbphdgdkfhfaaGreatDoorPutEnt
namespace Go.Proofs.YtdhbphdgdkfhfaaGreatDoor
open Go.RowKit

/-- A Wide to which f came, in at most c calls. -/
structure WPuts (base M B : Nat) (W0 wr : World) (f : Int → Int) (c : Nat) (L0 : List Ent) (vp vc : Value) (L : List Ent) : Prop where
  wide : WideAt base M wr B vp vc L
  rise : Rising (absL L)
  val : ∀ x, atL (absL L) x = atL (absL L0) x + f x
  len : L.length ≤ L0.length + 20 * c
  kept : IntsKept W0 wr
  moved : Moved B W0 wr
  below : Below base W0 wr
theorem WPuts.trans {base M B : Nat} {W0 W1 W2 : World} {f g : Int → Int} {c d : Nat} {L0 L1 L2 : List Ent} {vp vc vp' vc' : Value} (h : WPuts base M B W0 W1 f c L0 vp vc L1) (k : WPuts base M B W1 W2 g d L1 vp' vc' L2) : WPuts base M B W0 W2 (fun x => f x + g x) (c + d) L0 vp' vc' L2 :=
  ⟨k.wide, k.rise, fun x => by rw [k.val, h.val]; omega, by have := h.len; have := k.len; omega, h.kept.trans k.kept, h.moved.trans k.moved, h.below.trans k.below⟩
theorem WPuts.congr {base M B : Nat} {W0 W1 : World} {f g : Int → Int} {c d : Nat} {L0 L1 : List Ent} {vp vc : Value} (h : WPuts base M B W0 W1 f c L0 vp vc L1) (hc : c ≤ d) (he : ∀ x, f x = g x) : WPuts base M B W0 W1 g d L0 vp vc L1 :=
  ⟨h.wide, h.rise, fun x => by rw [h.val, he], by have := h.len; omega, h.kept, h.moved, h.below⟩
theorem WPuts.later {base M B : Nat} {W0 W1 W2 : World} {f : Int → Int} {c : Nat} {L0 L1 : List Ent} {vp vc : Value} (h : WPuts base M B W0 W1 f c L0 vp vc L1) (hb : Below W1.heap.size W1 W2) : WPuts base M B W0 W2 f c L0 vp vc L1 :=
  ⟨h.wide.later hb, h.rise, h.val, h.len, h.kept.trans (IntsKept.of_below hb), h.moved.trans (Moved.of_below hb h.wide.lt), h.below.trans (hb.mono (by have := h.wide.hB; have := h.wide.lt; omega))⟩
theorem WPuts.start {base M B : Nat} {W0 : World} {L : List Ent} {vp vc : Value} (h : WideAt base M W0 B vp vc L) (hr : Rising (absL L)) {f : Int → Int} (hf : ∀ x, f x = 0) (c : Nat) : WPuts base M B W0 W0 f c L vp vc L :=
  ⟨h, hr, fun x => by rw [hf]; omega, by omega, IntsKept.refl _, Moved.refl _ _, Below.refl _ _⟩
/-- Number, in these words. -/
theorem Number_by (base M B n0 : Nat) (z : Int) (cv vp vc : Value) (L : List Ent) (w : World) (hW : WideAt base M w B vp vc L) (hc : RatioAt w cv (lowN M z) (lowD M z)) (hM : 0 < M) (hM6 : M ≤ 4096) (hr : Rising (absL L)) (hlen : L.length ≤ 90000) (hn1 : 1 ≤ n0) (hn6 : n0 ≤ 1000000) (hb : ∀ x, -1000000000000000 ≤ atL (absL L) x ∧ atL (absL L) x ≤ 1000000000000000) (hz : -1000000 ≤ z ∧ z ≤ 1000000) :
    Calls Tryz.prog 27 #[.pointer (some ⟨B, 0, none⟩), .int .i64 n0, cv] w fun e w' => e = .returned (.tuple #[]) ∧ ∃ vp' vc' L', WPuts base M B w w' (fun x => z * multI x n0) 1 L vp' vc' L' := by
  have p3 : (1000000 : Nat) ^ 3 = 1000000000000000000 := by decide
  refine (Number_any base M B n0 z cv vp vc L 3 w hW hc hM hr hlen hn1 hn6 (fun x => by rw [p3]; have := hb x; omega) (by rw [p3]; omega) (by decide)).mono ?_
  rintro e w' ⟨rfl, vp', vc', L', k, h⟩
  have hk := h.cnt_le (by decide) hn6
  refine ⟨rfl, vp', vc', L', h.wide, h.rise, fun x => ?_, by have := h.len; omega, h.kept, h.moved, h.below⟩
  have := h.val x
  rw [multI_one, Int.mul_zero, Int.add_zero] at this
  exact this

/-- A fraction in a box. -/
structure RBox (W0 W : World) (B : Nat) (n : Int) (d : Nat) : Prop where
  below : Below W0.heap.size W0 W
  hB : W0.heap.size ≤ B
  box : ∃ s ad l cap ad' l' cap', W.cell? ⟨B, 0, none⟩ = some (.bool s) ∧ W.cell? ⟨B, 1, none⟩ = some (.slice ad l cap) ∧ W.cell? ⟨B, 2, none⟩ = some (.slice ad' l' cap') ∧ RatioAt W (.agg #[.bool s, .slice ad l cap, .slice ad' l' cap']) n d
theorem rBox_late {W0 W : World} {n : Int} {d : Nat} {s : Bool} {ad ad' : Option Addr} {l cap l' cap' : Nat} (h : Below W0.heap.size W0 W) (hr : RatioAt W (.agg #[.bool s, .slice ad l cap, .slice ad' l' cap']) n d) : RBox W0 (W.alloc (.cells #[.bool s, .slice ad l cap, .slice ad' l' cap'] 54)) W.heap.size n d :=
  ⟨more_below h _, h.size, s, ad, l, cap, ad', l', cap', by simp, by simp, by simp, hr.later (new_below _ _)⟩
theorem rBox_soon {W0 W : World} {B : Nat} {n : Int} {d : Nat} {s : Bool} {ad ad' : Option Addr} {l cap l' cap' : Nat} (h : Below W0.heap.size W0 W) (hr : RatioAt W (.agg #[.bool s, .slice ad l cap, .slice ad' l' cap']) n d) (hn : NewBox3 W0 W B) : RBox W0 (((W.setCell ⟨B, 0, none⟩ (.bool s)).setCell ⟨B, 1, none⟩ (.slice ad l cap)).setCell ⟨B, 2, none⟩ (.slice ad' l' cap')) B n d := by
  refine ⟨below_set3 h hn.hB _ _ _, hn.hB, s, ad, l, cap, ad', l', cap', ?_, ?_, ?_, ?_⟩
  · rw [World.cell?_setCell_other _ _ _ _ (by simp), World.cell?_setCell_other _ _ _ _ (by simp)]; exact World.cell?_setCell_same _ _ _ hn.c0
  · rw [World.cell?_setCell_other _ _ _ _ (by simp)]; exact World.cell?_setCell_same _ _ _ (by rw [World.cell?_setCell_other _ _ _ _ (by simp)]; exact hn.c1)
  · exact World.cell?_setCell_same _ _ _ (by rw [World.cell?_setCell_other _ _ _ _ (by simp), World.cell?_setCell_other _ _ _ _ (by simp)]; exact hn.c2)
  · obtain ⟨u, q, hv, hu, hq⟩ := hr
    have hv' := hv
    simp only [Value.agg.injEq, Array.mk.injEq, List.cons.injEq, and_true] at hv'
    obtain ⟨_, rfl, rfl⟩ := hv'
    exact ⟨_, _, hv, hu.set3 hn.no hn.c0 hn.c1, hq.set3 hn.no hn.c0 hn.c1⟩
theorem RatioOf_low (x : Int) (n : Nat) (w : World) (h0 : -1000000 ≤ x ∧ x ≤ 1000000) (hd : 0 < n) (hd1 : n ≤ 1000000) :
    Calls Tryz.prog 17 #[.int .i64 x, .int .i64 n] w fun e w' => ∃ r, e = .returned r ∧ RatioAt w' r (lowN n x) (lowD n x) ∧ Below w.heap.size w w' := RatioOf_any x n w (by omega) (by omega) hd (by omega)
theorem low_lt {M : Nat} (hM : 0 < M) {z : Int} (hM6 : M ≤ 4096) (hz : -1000000 ≤ z ∧ z ≤ 1000000) : (lowN M z).natAbs < 1000000 ^ 3 ∧ lowD M z < 1000000 ^ 3 := by
  have p3 : (1000000 : Nat) ^ 3 = 1000000000000000000 := by decide
  have h1 := lowN_le hM z
  have h2 := lowD_le M z
  rw [p3]
  omega
/-- A chance of a chance. -/
theorem Times_low (M n : Nat) (x : Int) (c r : Value) (w : World) (hc : RatioAt w c (lowN M n) (lowD M n)) (hr : RatioAt w r (lowN n x) (lowD n x)) (hM : 0 < M) (hM6 : M ≤ 4096) (hn : 0 < n) (hn6 : n ≤ 4096) (hx : -1000000 ≤ x ∧ x ≤ 1000000) :
    Calls Tryz.prog 30 #[c, r] w fun e w' => ∃ r', e = .returned r' ∧ RatioAt w' r' (lowN M x) (lowD M x) ∧ Below w.heap.size w w' := by
  have l1 := low_lt hM (z := (n : Int)) hM6 (by omega)
  have l2 := low_lt hn (z := x) hn6 hx
  have h := Times_ratio c r _ _ _ _ 3 w hc hr (lowD_pos hM _) (lowD_pos hn _) l1.1 l2.1 l1.2 l2.2 (by decide)
  have e := low_times hM hn x
  rw [e.1, e.2] at h
  exact h
/-- What is less than nothing. -/
theorem Minus_low (M : Nat) (x : Int) (o r : Value) (w : World) (ho : RatioAt w o (lowN 1 0) (lowD 1 0)) (hr : RatioAt w r (lowN M x) (lowD M x)) (hM : 0 < M) (hM6 : M ≤ 4096) (hx : -1000000 ≤ x ∧ x ≤ 1000000) :
    Calls Tryz.prog 26 #[o, r] w fun e w' => ∃ r', e = .returned r' ∧ RatioAt w' r' (lowN M (-x)) (lowD M (-x)) ∧ Below w.heap.size w w' := by
  have l2 := low_lt hM (z := x) hM6 hx
  have l1 := low_lt (M := 1) (by decide) (z := 0) (by decide) (by omega)
  rw [(low_one 0).1, (low_one 0).2] at ho l1
  have h := Minus_ratio o r 0 _ 1 _ 3 w ho hr (by decide) (lowD_pos hM _) l1.1 l2.1 l1.2 l2.2 (by decide)
  have e := low_minus hM x
  rw [e.1, e.2] at h
  exact h
end Go.Proofs.YtdhbphdgdkfhfaaGreatDoor
