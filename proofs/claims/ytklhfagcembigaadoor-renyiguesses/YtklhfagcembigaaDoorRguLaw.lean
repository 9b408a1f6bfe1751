/- RenyiGuesses: the law. -/
import Derived.Test.YtklhfagcembigaaDoorRyGs
import Derived.Test.YtklhfagcembigaaDoorRyGd
import Derived.Test.YtklhfagcembigaaDoorRTold
import Derived.Test.YtklhfagcembigaaDoorCodedV
import Derived.Test.YtklhfagcembigaaDoorCopy
namespace Go.Proofs.YtklhfagcembigaaDoor
open Go.RowKit

theorem low_natR (N D : Nat) : lowN D (N : Int) = ((N / Nat.gcd N D : Nat) : Int) ∧ lowD D (N : Int) = D / Nat.gcd N D := by
  unfold lowN lowD lowG
  rw [Int.natAbs_natCast]
  exact ⟨rfl, rfl⟩
/-- A fraction in a box. -/
structure FrR (w : World) (b : Nat) (p q : Int) : Prop where
  c0 : w.cell? ⟨b, 0, none⟩ = some (.int .i64 p)
  c1 : w.cell? ⟨b, 1, none⟩ = some (.int .i64 q)
  f0 : w.frozen? ⟨b, 0, none⟩ = false
  f1 : w.frozen? ⟨b, 1, none⟩ = false
theorem FrR.later {w w' : World} {b : Nat} {p q : Int} (h : FrR w b p q) (hb : Below w.heap.size w w') : FrR w' b p q :=
  ⟨by rw [hb.cell (cell_lt h.c0)]; exact h.c0, by rw [hb.cell (cell_lt h.c1)]; exact h.c1, by rw [hb.frozen (show b < w.heap.size from cell_lt h.c0)]; exact h.f0, by rw [hb.frozen (show b < w.heap.size from cell_lt h.c0)]; exact h.f1⟩
theorem FrR.fresh (w : World) (p q : Int) : FrR (w.alloc (.cells #[.int .i64 p, .int .i64 q] 26)) w.heap.size p q :=
  ⟨by simp, by simp, by simp, by simp⟩
theorem FrR.put {w : World} {b : Nat} {p q : Int} (h : FrR w b p q) (x y : Int) : FrR ((w.setCell ⟨b, 0, none⟩ (.int .i64 x)).setCell ⟨b, 1, none⟩ (.int .i64 y)) b x y := by
  have := put_twoR (.int .i64 x) (.int .i64 y) h.c0 h.c1
  exact ⟨this.2.1, this.2.2, by rw [World.frozen?_setCell, World.frozen?_setCell]; exact h.f0, by rw [World.frozen?_setCell, World.frozen?_setCell]; exact h.f1⟩
theorem new_belowR (w : World) (X : Obj) : Below w.heap.size w (w.alloc X) := (Below.refl _ _).alloc (Nat.le_refl _) _
set_option maxRecDepth 100000 in
set_option maxHeartbeats 4000000 in
theorem Rgu_few (a : Nat → Addr) (ad : Option Addr) (n cap : Nat) (w : World) (hE : Errs w a) (hm : n ≤ maxLen) (hq : 400 < n) :
    Calls Tryd.prog 3 #[.slice ad n cap] w fun e w' => e = .returned (.bool true) ∧ Below w.heap.size w w' := by
  have HTH := Hid.mk' (dice_any a w hE)
  unfold maxLen at hm
  have hmI : (n : Int) ≤ 9223372036854775807 := by omega
  have hqI : (400 : Int) < (n : Int) := by omega
  have hqd : decide ((400 : Int) < (n : Int)) = true := decide_eq_true hqI
  clear hE
  go_enter Tryd.func3, Tryd.ntmps3
  go_wp2_with fail
  refine HTH.out.mono ?_
  rintro e w2 ⟨rfl, hb2⟩
  have HB2 := Hid.mk' hb2
  clear hb2 HTH
  go_wp2_with fail
  go_ret
  exact ⟨rfl, HB2.out⟩
set_option maxRecDepth 100000 in
set_option maxHeartbeats 4000000 in
theorem Rgu_ok (a : Nat → Addr) (ad : Option Addr) (n cap : Nat) (z : Nat → Int) (w : World) (hE : Errs w a) (h : NumsAt w (.slice ad n cap) n z) (h0 : weightsErr z n = 0) :
    Calls Tryd.prog 3 #[.slice ad n cap] w fun e w' => e = .returned (.bool true) ∧ Below w.heap.size w w' := by
  have HTH := Hid.mk' (dice_any a w hE)
  obtain ⟨h16, hok⟩ := weightsErr_ok h0
  have hp := hok.pos
  have hl := hok.le
  obtain ⟨S, hS⟩ : ∃ S : Nat, sumN z n = (S : Int) := ⟨(sumN z n).toNat, by omega⟩
  have hqI : ¬ (400 : Int) < (n : Int) := by omega
  have hqd : decide ((400 : Int) < (n : Int)) = false := decide_eq_false hqI
  have HWE := Hid.mk' (fun (W : World) (hb : Below w.heap.size w W) => WeightsError_any (.slice ad n cap) n z W (h.later hb) (by omega))
  rw [h0] at HWE
  have HIN := Hid.mk' (fun (W : World) (hb : Below w.heap.size w W) => ints_any (.slice ad n cap) n z W (h.later hb) (by omega))
  obtain ⟨R, hR⟩ : ∃ R, R = gueZ z n := ⟨_, rfl⟩
  have hfl := gueZ_eq hok h16
  have HFL : Hid (∀ W v, Below w.heap.size w W → NumsAt W v n z → Calls Tryd.prog 8 #[v] W fun e w' => e = .returned (.tuple #[gueV R S, .nilIface]) ∧ Below W.heap.size W w') := fun W v hb hv => by
    rw [hR]; exact Guesses_ok a v n S z W (hE.below hb) hv hS h0
  have HFO : Hid (∀ W, Below w.heap.size w W → Calls Tryd.prog 7 #[.slice ad n cap] W fun e w' => ∃ r, e = .returned r ∧ LR w' r S (R : Int) ∧ Below W.heap.size W w') := fun W hbw => by
    rw [hR, hfl.1]
    exact GuessesOf_any _ n S z W (h.later hbw) hS h0
  have HTO : Hid (∀ W v, LR W v S (R : Int) → Calls Tryd.prog 6 #[v] W fun e w' => e = .returned (.tuple #[gueV R S, .bool true]) ∧ Below W.heap.size W w') := fun W v hv => by
    have h1 := low_natR R S
    unfold LR at hv
    rw [h1.1, h1.2] at hv
    exact RTold_ok v _ _ W hv (Nat.le_trans (Nat.div_le_self _ _) (by rw [hR]; omega)) (Nat.le_trans (Nat.div_le_self _ _) (by omega))
  have HCD := Hid.mk' (fun (W : World) (hb : Below w.heap.size w W) => coded_errV a 0 (by decide) W (hE.below hb))
  rw [errV_zero] at HCD
  unfold gueV at HFL HTO
  clear hE h hok h0 hR hfl hp hl hS
  generalize ((R / Nat.gcd R S : Nat) : Int) = p at *
  generalize ((S / Nat.gcd R S : Nat) : Int) = q at *
  go_enter Tryd.func3, Tryd.ntmps3
  go_wp2_with fail
  refine HTH.out.mono ?_
  rintro e w2 ⟨rfl, hb2⟩
  have HB1 := Hid.mk' hb2
  clear hb2 HTH
  go_wp2_with fail
  refine (HWE.out w2 HB1.out).mono ?_
  rintro e w3 ⟨rfl, hw3⟩
  rw [hw3]
  clear hw3 HWE
  have HB2 := Hid.mk' (below_chain HB1.out (new_belowR w2 (.cells #[.int .i64 0, .int .i64 0] 26)))
  have HLT : Hid (w.heap.size ≤ w2.heap.size) := HB1.out.size
  have HF2 := Hid.mk' (FrR.fresh w2 0 0)
  go_upto_region 6 with fail
  generalize w2.alloc (.cells #[.int .i64 0, .int .i64 0] 26) = W2 at *
  generalize w2.heap.size = B2 at *
  go_wp2_with fail
  refine (HFO.out W2 HB2.out).mono ?_
  rintro e w3 ⟨v3, rfl, hv3, hb3⟩
  have HB3 := Hid.mk' (below_chain HB2.out hb3)
  have HF3 := Hid.mk' (HF2.out.later hb3)
  have HV3 := Hid.mk' hv3
  clear hb3 hv3
  go_wp2_with fail
  refine (HTO.out w3 v3 HV3.out).mono ?_
  rintro e w4 ⟨rfl, hb4⟩
  have HB4 := Hid.mk' (below_chain HB3.out hb4)
  have HF4 := Hid.mk' (HF3.out.later hb4)
  obtain ⟨g0, g1, f0, f1⟩ := HF4.out
  clear hb4
  have HB5 : Hid (Below w.heap.size w ((w4.setCell ⟨B2, 0, none⟩ (.int .i64 p)).setCell ⟨B2, 1, none⟩ (.int .i64 q))) := (HB4.out.setCell HLT.out _).setCell HLT.out _
  have HF5 := Hid.mk' (HF4.out.put p q)
  go_wp2_with fail
  generalize (w4.setCell ⟨B2, 0, none⟩ (.int .i64 p)).setCell ⟨B2, 1, none⟩ (.int .i64 q) = W5 at *
  clear g0 g1 f0 f1 HF4 HB4
  refine (HIN.out W5 HB5.out).mono ?_
  rintro e w5 ⟨v5, rfl, hv5, hb5⟩
  have HB55 := Hid.mk' (below_chain HB5.out hb5)
  have HF55 := Hid.mk' (HF5.out.later hb5)
  have HD5 := Hid.mk' (HFL.out w5 v5 HB55.out hv5)
  clear hv5 hb5
  go_wp2_with fail
  refine HD5.out.mono ?_
  rintro e w6 ⟨rfl, hb6⟩
  have HB6 := Hid.mk' (below_chain (below_chain HB55.out hb6) (new_belowR w6 (.cells #[.int .i64 p, .int .i64 q] 26)))
  have HF6 := Hid.mk' ((HF55.out.later hb6).later (new_belowR w6 (.cells #[.int .i64 p, .int .i64 q] 26)))
  have HG6 := Hid.mk' (FrR.fresh w6 p q)
  clear hb6
  go_wp2_with fail
  generalize w6.alloc (.cells #[.int .i64 p, .int .i64 q] 26) = W6 at *
  generalize w6.heap.size = B6 at *
  refine (HCD.out W6 HB6.out).mono ?_
  rintro e w7 ⟨rfl, hb7⟩
  have HB7 := Hid.mk' (below_chain HB6.out hb7)
  obtain ⟨x0, x1, _, _⟩ := HF6.out.later hb7
  obtain ⟨z0, z1, _, _⟩ := HG6.out.later hb7
  clear hb7
  go_wp2_with fail
  go_ret
  exact ⟨rfl, HB7.out⟩
set_option maxRecDepth 100000 in
set_option maxHeartbeats 4000000 in
theorem Rgu_bad (a : Nat → Addr) (ad : Option Addr) (n cap : Nat) (z : Nat → Int) (w : World) (hE : Errs w a) (h : NumsAt w (.slice ad n cap) n z) (hq : n ≤ 400) (h0 : weightsErr z n ≠ 0) :
    Calls Tryd.prog 3 #[.slice ad n cap] w fun e w' => e = .returned (.bool true) ∧ Below w.heap.size w w' := by
  have HTH := Hid.mk' (dice_any a w hE)
  have hqI : ¬ (400 : Int) < (n : Int) := by omega
  have hqd : decide ((400 : Int) < (n : Int)) = false := decide_eq_false hqI
  have HWE := Hid.mk' (fun (W : World) (hb : Below w.heap.size w W) => WeightsError_any (.slice ad n cap) n z W (h.later hb) (by omega))
  have HIN := Hid.mk' (fun (W : World) (hb : Below w.heap.size w W) => ints_any (.slice ad n cap) n z W (h.later hb) (by omega))
  have HFL := Hid.mk' (fun (W : World) (v : Value) (hb : Below w.heap.size w W) (hv : NumsAt W v n z) => Guesses_bad a v n z W (hE.below hb) hv (by omega) h0)
  have HCD := Hid.mk' (fun (W : World) (hb : Below w.heap.size w W) => coded_errV a (weightsErr z n) (by have := weightsErr_le z n; omega) W (hE.below hb))
  have hcb : (((weightsErr z n : Nat) : Int) == 0) = false := by rw [beq_eq_false_iff_ne]; omega
  obtain ⟨ev, hev⟩ : ∃ ev, ev = errV a (weightsErr z n) := ⟨_, rfl⟩
  rw [← hev] at HFL HCD
  generalize weightsErr z n = ce at *
  clear hE h h0 hev
  go_enter Tryd.func3, Tryd.ntmps3
  go_wp2_with fail
  refine HTH.out.mono ?_
  rintro e w2 ⟨rfl, hb2⟩
  have HB1 := Hid.mk' hb2
  clear hb2 HTH
  go_wp2_with fail
  refine (HWE.out w2 HB1.out).mono ?_
  rintro e w3 ⟨rfl, hw3⟩
  rw [hw3]
  clear hw3 HWE
  have HB2 := Hid.mk' (below_chain HB1.out (new_belowR w2 (.cells #[.int .i64 0, .int .i64 0] 26)))
  have HF2 := Hid.mk' (FrR.fresh w2 0 0)
  go_upto_region 6 with fail
  generalize w2.alloc (.cells #[.int .i64 0, .int .i64 0] 26) = W2 at *
  generalize w2.heap.size = B2 at *
  go_wp2_with fail
  refine (HIN.out W2 HB2.out).mono ?_
  rintro e w5 ⟨v5, rfl, hv5, hb5⟩
  have HB55 := Hid.mk' (below_chain HB2.out hb5)
  have HF55 := Hid.mk' (HF2.out.later hb5)
  have HD5 := Hid.mk' (HFL.out w5 v5 HB55.out hv5)
  clear hv5 hb5
  go_wp2_with fail
  refine HD5.out.mono ?_
  rintro e w6 ⟨rfl, hb6⟩
  have HB6 := Hid.mk' (below_chain (below_chain HB55.out hb6) (new_belowR w6 (.cells #[.int .i64 0, .int .i64 0] 26)))
  have HF6 := Hid.mk' ((HF55.out.later hb6).later (new_belowR w6 (.cells #[.int .i64 0, .int .i64 0] 26)))
  have HG6 := Hid.mk' (FrR.fresh w6 0 0)
  clear hb6
  go_wp2_with fail
  generalize w6.alloc (.cells #[.int .i64 0, .int .i64 0] 26) = W6 at *
  generalize w6.heap.size = B6 at *
  refine (HCD.out W6 HB6.out).mono ?_
  rintro e w7 ⟨rfl, hb7⟩
  have HB7 := Hid.mk' (below_chain HB6.out hb7)
  obtain ⟨x0, x1, _, _⟩ := HF6.out.later hb7
  obtain ⟨z0, z1, _, _⟩ := HG6.out.later hb7
  clear hb7
  go_wp2_with fail
  go_ret
  exact ⟨rfl, HB7.out⟩
theorem RenyiGuesses_all (a : Nat → Addr) (ad : Option Addr) (n cap : Nat) (z : Nat → Int) (w : World) (hE : Errs w a) (h : NumsAt w (.slice ad n cap) n z) (hm : n ≤ maxLen) :
    Calls Tryd.prog 3 #[.slice ad n cap] w fun e w' => e = .returned (.bool true) ∧ Below w.heap.size w w' := by
  by_cases hq : 400 < n
  · exact Rgu_few a ad n cap w hE hm hq
  · by_cases h0 : weightsErr z n = 0
    · exact Rgu_ok a ad n cap z w hE h h0
    · exact Rgu_bad a ad n cap z w hE h (by omega) h0
end Go.Proofs.YtklhfagcembigaaDoor
