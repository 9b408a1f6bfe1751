/- The law TypesBounds. -/
import Derived.Test.YthknaphclijncaaDoorPackC
import Derived.Test.YthknaphclijncaaDoorPackE
import Derived.Test.YthknaphclijncaaDoorRows
import Derived.Test.YthknaphclijncaaDoorErrs
import Derived.ChangeSame
import Derived.ChangeVars
import Derived.JoinedOf
import Derived.LaidLaws
import Derived.LaidHandle
import Derived.LaidMore
import Derived.Stop.Joined
import Derived.Test.YthknaphclijncaaDoorInts
import Derived.Test.YthknaphclijncaaDoorCards
import Derived.Test.YthknaphclijncaaDoorTie
import Derived.SevenTiedAt
import Derived.ProofKit
import Derived.OpenShut
import Derived.ChangeOld
import Derived.Lib.SmallJoins
import Derived.Deep.Matrix
namespace Go.Proofs.YthknaphclijncaaDoor
open Go.RowKit

theorem ent_no {z : Nat → Int} {N : Nat} {x : Int} (hx : ¬ Pr x.toNat) : ∀ n, sumN (entV z N x) n = 0
  | 0 => rfl
  | n + 1 => by
    simp only [sumN]
    rw [ent_no hx n]
    unfold entV
    rw [multI_no hx, multI_no hx]
    simp
theorem ent_prim20 {z : Nat → Int} {n N : Nat} (hz : ∀ i, i < n → 0 ≤ z i ∧ z i ≤ 20) (hn : n ≤ 6) (h0 : 0 < N) (hN : N ≤ 20) : Prim fun x => sumN (entV z N x) n :=
  ⟨fun x => ent_bound (fun i hi => ⟨(hz i hi).1, by have := hz i hi; omega⟩) (by omega) (by omega) x, fun x hx => by
    have hp : Pr x.toNat := Classical.byContradiction fun hc => hx (ent_no hc n)
    have h2 := hp.1
    refine ⟨by omega, ?_, hp⟩
    exact Classical.byContradiction fun hc => hx (ent_high hz hN h0 (by omega))⟩
/-- A log in a box. -/
structure LgAt (w : World) (b : Nat) (d : Int) (x : Option Addr) (l c : Nat) : Prop where
  c0 : w.cell? ⟨b, 0, none⟩ = some (.int .i64 d)
  c1 : w.cell? ⟨b, 1, none⟩ = some (.slice x l c)
  f0 : w.frozen? ⟨b, 0, none⟩ = false
  f1 : w.frozen? ⟨b, 1, none⟩ = false
theorem LgAt.later {w w' : World} {b : Nat} {d : Int} {x : Option Addr} {l c : Nat} (h : LgAt w b d x l c) (hb : Below w.heap.size w w') : LgAt w' b d x l c :=
  ⟨by rw [hb.cell (cell_lt h.c0)]; exact h.c0, by rw [hb.cell (cell_lt h.c1)]; exact h.c1, by rw [hb.frozen (show b < w.heap.size from cell_lt h.c0)]; exact h.f0, by rw [hb.frozen (show b < w.heap.size from cell_lt h.c0)]; exact h.f1⟩
theorem LgAt.fresh (w : World) (d : Int) (x : Option Addr) (l c : Nat) : LgAt (w.alloc (.cells #[.int .i64 d, .slice x l c] 32)) w.heap.size d x l c := by
  have := res_past (x := .int .i64 d) (y := .slice x l c) (w := w) (t := 32) (Below.refl _ _)
  exact ⟨this.1, this.2.1, this.2.2.1, this.2.2.2⟩
theorem LgAt.put {w : World} {b : Nat} {d : Int} {x : Option Addr} {l c : Nat} (h : LgAt w b d x l c) (d' : Int) (x' : Option Addr) (l' c' : Nat) : LgAt ((w.setCell ⟨b, 0, none⟩ (.int .i64 d')).setCell ⟨b, 1, none⟩ (.slice x' l' c')) b d' x' l' c' := by
  refine ⟨?_, ?_, ?_, ?_⟩
  · rw [World.cell?_setCell_other _ _ _ _ (by simp)]
    exact World.cell?_setCell_same _ _ _ h.c0
  · exact World.cell?_setCell_same _ _ _ (by rw [World.cell?_setCell_other _ _ _ _ (by simp)]; exact h.c1)
  · rw [World.frozen?_setCell, World.frozen?_setCell]; exact h.f0
  · rw [World.frozen?_setCell, World.frozen?_setCell]; exact h.f1
theorem LgAt.aside {w : World} {b b2 : Nat} {d : Int} {x : Option Addr} {l c : Nat} (h : LgAt w b d x l c) (hne : b2 ≠ b) (y0 y1 : Value) : LgAt ((w.setCell ⟨b2, 0, none⟩ y0).setCell ⟨b2, 1, none⟩ y1) b d x l c := by
  have hcell : ∀ j, ((w.setCell ⟨b2, 0, none⟩ y0).setCell ⟨b2, 1, none⟩ y1).cell? ⟨b, j, none⟩ = w.cell? ⟨b, j, none⟩ := fun j => by
    rw [World.cell?_setCell_other _ _ _ _ (fun e => hne (congrArg Addr.block e)), World.cell?_setCell_other _ _ _ _ (fun e => hne (congrArg Addr.block e))]
  refine ⟨by rw [hcell]; exact h.c0, by rw [hcell]; exact h.c1, ?_, ?_⟩
  · rw [World.frozen?_setCell, World.frozen?_setCell]; exact h.f0
  · rw [World.frozen?_setCell, World.frozen?_setCell]; exact h.f1
set_option maxRecDepth 100000 in
theorem TypeError_long (ad : Option Addr) (n c : Nat) (w : World) (h6 : 6 < n) (hm : n ≤ maxLen) :
    Calls Tryd.prog 6 #[.slice ad n c] w fun e w' => e = .returned (.int .i64 2) ∧ w' = w := by
  unfold maxLen at hm
  have hI : (6 : Int) < (n : Int) := by omega
  go_enter Tryd.func6, Tryd.ntmps6
  go_wp2_with fail
  go_ret
  exact ⟨rfl, rfl⟩

set_option maxRecDepth 100000 in
set_option maxHeartbeats 8000000 in
theorem TypesBounds_ok (a : Nat → Addr) (b o n c : Nat) (z : Nat → Int) (t : Nat → Nat) (w : World) (hE : Errs w a) (hr : RowAt w b o n z) (h0 : 0 < n) (h6 : n ≤ 6) (he : tyE n z = 0) (hw : weightsErr z n = 0) (ht : ∀ i, i < n → z i = (t i : Int)) (hN1 : 1 ≤ sumU t n) (hN : sumU t n ≤ 20) :
    Calls Tryd.prog 3 #[.slice (some ⟨b, o, none⟩) n c] w fun e w' => e = .returned (.bool true) ∧ Below w.heap.size w w' := by
  have HP := Hid.mk' (pair_any w)
  have HE := Hid.mk' (fun (W : World) (hb : Below w.heap.size w W) => hE.below hb)
  have HNA : Hid (∀ W, Below w.heap.size w W → NumsAt W (.slice (some ⟨b, o, none⟩) n c) n z) := fun W hb => Or.inr ⟨b, o, c, rfl, h0, hr.later hb⟩
  have HTE : Hid (∀ W, Below w.heap.size w W → Calls Tryd.prog 6 #[.slice (some ⟨b, o, none⟩) n c] W fun e w' => e = .returned (.int .i64 0) ∧ w' = W) := fun W hb => by
    have := TypeError_any _ n z W (HNA.out W hb) (by omega)
    rw [he] at this
    exact this
  have HWE : Hid (∀ W, Below w.heap.size w W → Calls Tryd.prog 7 #[.slice (some ⟨b, o, none⟩) n c] W fun e w' => e = .returned (.int .i64 0) ∧ w' = W) := fun W hb => by
    have := WeightsError_any _ n z W (HNA.out W hb) (by omega)
    rw [hw] at this
    exact this
  have hzi : ∀ i, i < n → 0 ≤ z i ∧ z i ≤ 20 := fun i hi => by
    have h1 := sumU_le t (show i + 1 ≤ n by omega)
    have h2 : sumU t (i + 1) = sumU t i + t i := rfl
    have h3 := ht i hi
    omega
  have hsz : ∀ k, k ≤ n → sumN z k = (sumU t k : Int) := fun k hk => sumU_sumN (fun i hi => ht i (by omega))
  have HSU : Hid (∀ W, Below w.heap.size w W → Calls Tryd.prog 8 #[.slice (some ⟨b, o, none⟩) n c] W fun e w' => e = .returned (.int .i64 (sumU t n : Nat)) ∧ w' = W) := fun W hb => by
    have := Sum_some b o c n z W (hr.later hb) (fun k hk => by have h1 := hsz k hk; have h2 := sumU_le t hk; omega) (fun i hi => by have := hzi i hi; omega) (by omega)
    rw [hsz n (Nat.le_refl _)] at this
    exact this
  have HIN := Hid.mk' (fun (W : World) (hb : Below w.heap.size w W) => ints_any _ n z W (HNA.out W hb) (by omega))
  have HSZ := Hid.mk' (fun (v : Value) (W : World) (hb : Below w.heap.size w W) (hv : NumsAt W v n z) => Size_ok a v n z t W (HE.out W hb) hv he ht)
  have HEN : Hid (∀ (v : Value) (W : World), Below w.heap.size w W → NumsAt W v n z → Calls Tryd.prog 11 #[v] W fun e w' => ∃ dn v', e = .returned (.tuple #[.agg #[.int .i64 dn, v'], .nilIface]) ∧ LogBy W.heap.size (sumU t n) (fun x => sumN (entV z (sumU t n) x) n) w' dn v' ∧ Below W.heap.size W w') := fun v W hb hv => by
    rcases hv with ⟨_, _, _, h4⟩ | ⟨b', o', cap', rfl, _, hr'⟩
    · omega
    · exact Entropy_ok a b' o' cap' n (sumU t n) z W (HE.out W hb) hr' hw (hsz n (Nat.le_refl _)) (fun i hi => (hzi i hi).1) (by omega) hN1 (by omega) h0
  have hpr : Prim fun x => sumN (entV z (sumU t n) x) n := ent_prim20 hzi h6 hN1 hN
  have hhigh : ∀ x, sumN (entV z (sumU t n) x) n ≠ 0 → x ≤ 90 := fun x hx => Classical.byContradiction fun hc => hx (ent_high hzi hN hN1 (by omega))
  have hRl : rowU t n ≤ 2432902008176640000 := rowU_le t (by omega)
  have hR1 : 1 ≤ rowU t n := rowU_pos t n (by omega)
  have hbe := class_below t n (by omega)
  have hab := class_above t n (by omega)
  obtain ⟨f, hf⟩ : ∃ f : Int → Int, f = fun x => sumN (entV z (sumU t n) x) n := ⟨_, rfl⟩
  have hm1 : ∀ q : Nat, Pr q → f (q : Int) + -multI (q : Int) (rowU t n) = (mult q (sumU t n ^ sumU t n) : Int) - (mult q (rowU t n * ownU t n) : Int) := fun q hq => by rw [hf]; exact below_sides ht hN1 hR1 q hq
  have hm2 : ∀ q : Nat, Pr q → (multI (q : Int) (rowU t n) + (n : Int) * multI (q : Int) (sumU t n + 1)) + -f (q : Int) = (mult q (rowU t n * ownU t n * (sumU t n + 1) ^ n) : Int) - (mult q (sumU t n ^ sumU t n) : Int) := fun q hq => by rw [hf]; exact above_sides ht hN1 hR1 q hq
  have hU1 : 0 < sumU t n ^ sumU t n := Nat.pow_pos hN1
  have hD1 : 0 < rowU t n * ownU t n := Nat.mul_pos hR1 (ownU_pos t n)
  have hU2 : 0 < rowU t n * ownU t n * (sumU t n + 1) ^ n := Nat.mul_pos hD1 (Nat.pow_pos (Nat.succ_pos _))
  rw [← hf] at HEN hpr
  have hhiF : ∀ x, f x ≠ 0 → x ≤ 90 := fun x hx => hhigh x (by rw [hf] at hx; exact hx)
  clear hf hsz hzi hw he ht hr
  generalize sumU t n ^ sumU t n = U1 at *
  generalize rowU t n * ownU t n * (sumU t n + 1) ^ n = U2 at *
  generalize rowU t n * ownU t n = D1 at *
  generalize sumU t n = N at *
  generalize rowU t n = R at *
  have HSC : Hid (∀ (W : World) (base : Nat) (dn : Int) (v : Value), Below w.heap.size w W → LogBy base N f W dn v → Calls Tryd.prog 12 #[.agg #[.int .i64 dn, v], .agg #[.int .i64 (N : Int), .int .i64 1]] W fun e w' => ∃ v', e = .returned (.tuple #[.agg #[.int .i64 1, v'], .nilIface]) ∧ IL w' 100 v' f ∧ Below W.heap.size W w') := fun W base dn v hb hl => Scale_ent a W (HE.out W hb) hl hN1 hN hpr hhiF
  have hNI : (N : Int) ≤ 20 := by omega
  have hN0 : (0 : Int) ≤ (N : Int) := by omega
  have hnI : (n : Int) ≤ 6 := by omega
  have hn0 : (0 : Int) ≤ (n : Int) := by omega
  have hRI : (1 : Int) ≤ (R : Int) := by omega
  have hR0 : ¬ (R : Int) < 1 := by omega
  have hRn : (0 : Int) ≤ (R : Int) := by omega

  by_cases hbig : R ≤ 1000000
  · have hbI : (R : Int) ≤ 1000000 := by omega
    have HO1 := Hid.mk' (fun W => Of_int R W hR1 hbig)
    have HO2 : Hid (∀ W, Calls Tryd.prog 13 #[.agg #[.int .i64 ((N : Int) + 1), .int .i64 1]] W fun e w' => ∃ v, e = .returned (.tuple #[.agg #[.int .i64 1, v], .nilIface]) ∧ IL w' 40 v (fun x => multI x (N + 1)) ∧ Below W.heap.size W w') := fun W => Of_int (N + 1) W (by omega) (by omega)
    have s1 : ∀ x, 0 ≤ multI x R ∧ multI x R ≤ 19 := fun x => multI_small x (by omega)
    have s2 : ∀ x, 0 ≤ multI x (N + 1) ∧ multI x (N + 1) ≤ 19 := fun x => multI_small x (by omega)
    have s3 : ∀ x, 0 ≤ (n : Int) * multI x (N + 1) ∧ (n : Int) * multI x (N + 1) ≤ 114 := fun x => by
      have h := s2 x
      exact ⟨Int.mul_nonneg hn0 h.1, Int.le_trans (Int.mul_le_mul hnI h.2 h.1 (by decide)) (by decide)⟩
    have HS2 : Hid (∀ (W : World) (v : Value), Below w.heap.size w W → IL W 40 v (fun x => multI x (N + 1)) → Calls Tryd.prog 12 #[.agg #[.int .i64 1, v], .agg #[.int .i64 (n : Int), .int .i64 1]] W fun e w' => ∃ v', e = .returned (.tuple #[.agg #[.int .i64 1, v'], .nilIface]) ∧ IL w' 40 v' (fun x => (n : Int) * multI x (N + 1)) ∧ Below W.heap.size W w') := fun W v hb hl => Scale_int n 40 v _ a W (HE.out W hb) hl (by omega) h0 (by omega) (fun x => by have := s3 x; omega)
    have HAD : Hid (∀ (W : World) (v1 v2 : Value), Below w.heap.size w W → IL W 40 v1 (fun x => multI x R) → IL W 40 v2 (fun x => (n : Int) * multI x (N + 1)) → Calls Tryd.prog 14 #[.agg #[.int .i64 1, v1], .agg #[.int .i64 1, v2]] W fun e w' => ∃ v', e = .returned (.tuple #[.agg #[.int .i64 1, v'], .nilIface]) ∧ IL w' (40 + 40) v' (fun x => multI x R + (n : Int) * multI x (N + 1)) ∧ Below W.heap.size W w') := fun W v1 v2 hb h1 h2 => Add_int 40 40 v1 v2 _ _ a W (HE.out W hb) h1 h2 (by omega) (fun x => by have := s3 x; have := s1 x; omega)
    have HV1 : Hid (∀ (W : World) (v1 v2 : Value), Below w.heap.size w W → IL W 100 v1 f → IL W 40 v2 (fun x => multI x R) → Calls Tryd.prog 15 #[.agg #[.int .i64 1, v1], .agg #[.int .i64 1, v2]] W fun e w' => (∃ z : Int, 0 ≤ z ∧ e = .returned (.int .i64 z)) ∧ Below W.heap.size W w') := fun W v1 v2 hb h1 h2 => over_int 100 40 v1 v2 _ _ a W (HE.out W hb) h1 h2 (by omega) (fun x => by have := s1 x; have := hpr.le x; omega) hU1 hD1 hm1 hbe
    have HV2 : Hid (∀ (W : World) (v1 v2 : Value), Below w.heap.size w W → IL W (40 + 40) v1 (fun x => multI x R + (n : Int) * multI x (N + 1)) → IL W 100 v2 f → Calls Tryd.prog 15 #[.agg #[.int .i64 1, v1], .agg #[.int .i64 1, v2]] W fun e w' => (∃ z : Int, 0 ≤ z ∧ e = .returned (.int .i64 z)) ∧ Below W.heap.size W w') := fun W v1 v2 hb h1 h2 => over_int (40 + 40) 100 v1 v2 _ _ a W (HE.out W hb) h1 h2 (by omega) (fun x => by have := s1 x; have := s3 x; have := hpr.le x; omega) hU2 hU1 hm2 hab
    generalize (fun x => multI x R + (n : Int) * multI x (N + 1)) = g3 at *
    generalize (fun x => (n : Int) * multI x (N + 1)) = g2 at *
    generalize (fun x => multI x (N + 1)) = g4 at *
    generalize (fun x => multI x R) = g1 at *
    clear hE hpr hhigh hhiF s1 s2 s3 hm1 hm2 hbe hab hU1 hD1 hU2 HE HNA
    go_enter Tryd.func3, Tryd.ntmps3
    go_wp2_with fail
    refine HP.out.mono ?_
    rintro e w1 ⟨rfl, hb1⟩
    have HB1 := Hid.mk' hb1
    clear hb1
    go_wp2_with fail
    refine (HTE.out _ HB1.out).mono ?_
    rintro e w2 ⟨rfl, hw2⟩
    rw [hw2]
    clear hw2 w2
    go_wp2_with fail
    refine (HWE.out _ HB1.out).mono ?_
    rintro e w2 ⟨rfl, hw2⟩
    rw [hw2]
    clear hw2 w2
    go_wp2_with fail
    refine (HSU.out _ HB1.out).mono ?_
    rintro e w2 ⟨rfl, hw2⟩
    rw [hw2]
    clear hw2 w2
    go_wp2_with fail
    refine (HIN.out _ HB1.out).mono ?_
    rintro e w3 ⟨v3, rfl, hv3, hb3⟩
    have HB3 := Hid.mk' (below_chain HB1.out hb3)
    have HV3 := Hid.mk' hv3
    obtain ⟨a3, c3, rfl⟩ := hv3.form
    clear hb3 hv3
    go_wp2_with fail
    refine (HSZ.out _ _ HB3.out HV3.out).mono ?_
    rintro e w4 ⟨rfl, hw4⟩
    rw [hw4]
    clear hw4 w4
    go_wp2_with fail
    refine (HIN.out _ HB3.out).mono ?_
    rintro e w4 ⟨v4, rfl, hv4, hb4⟩
    have HB4 := Hid.mk' (below_chain HB3.out hb4)
    have HV4 := Hid.mk' hv4
    obtain ⟨a4, c4, rfl⟩ := hv4.form
    clear hb4 hv4
    go_wp2_with fail
    refine (HEN.out _ _ HB4.out HV4.out).mono ?_
    rintro e w5 ⟨dn, v5, rfl, hv5, hb5⟩
    obtain ⟨a5, l5, c5, rfl⟩ := hv5.form
    have hc := below_chain HB4.out hb5
    have HLT7 := Hid.mk' hc.size
    have HB5 := Hid.mk' (below_chain hc (new_below w5 (.cells #[.int .i64 dn, .slice a5 l5 c5] 32)))
    have HL5 := Hid.mk' (hv5.later (new_below w5 (.cells #[.int .i64 dn, .slice a5 l5 c5] 32)))
    have HG7 := Hid.mk' (LgAt.fresh w5 dn a5 l5 c5)
    clear hv5 hb5 hc
    go_wp2_with fail
    generalize w5.alloc (.cells #[.int .i64 dn, .slice a5 l5 c5] 32) = W5 at *
    generalize w5.heap.size = B7 at *
    refine (HSC.out _ _ _ _ HB5.out HL5.out).mono ?_
    rintro e w6 ⟨v6, rfl, hv6, hb6⟩
    obtain ⟨a6, l6, c6, rfl⟩ := hv6.slice
    have hg := HG7.out.later hb6
    have HB6 : Hid (Below w.heap.size w ((w6.setCell ⟨B7, 0, none⟩ (.int .i64 1)).setCell ⟨B7, 1, none⟩ (.slice a6 l6 c6))) := ((below_chain HB5.out hb6).setCell HLT7.out _).setCell HLT7.out _
    have HI7 := Hid.mk' (hv6.put (x := .int .i64 1) (y := .slice a6 l6 c6) hg.c1)
    have HG7 := Hid.mk' (hg.put 1 a6 l6 c6)
    obtain ⟨x0, x1, f0, f1⟩ := hg
    clear hv6 hb6 HL5 HB5
    go_wp2_with fail
    clear x0 x1 f0 f1
    generalize (w6.setCell ⟨B7, 0, none⟩ (.int .i64 1)).setCell ⟨B7, 1, none⟩ (.slice a6 l6 c6) = W6 at *
    refine (HO1.out _).mono ?_
    rintro e w7 ⟨v7, rfl, hv7, hb7⟩
    obtain ⟨a7, l7, c7, rfl⟩ := hv7.slice
    have hn7 := new_below w7 (.cells #[.int .i64 1, .slice a7 l7 c7] 32)
    have hc := below_chain HB6.out hb7
    have HB7 := Hid.mk' (below_chain hc hn7)
    have HG7 := Hid.mk' ((HG7.out.later hb7).later hn7)
    have HI7 := Hid.mk' ((HI7.out.later hb7).later hn7)
    have HG10 := Hid.mk' (LgAt.fresh w7 1 a7 l7 c7)
    have HI10 := Hid.mk' (hv7.later hn7)
    clear hv7 hb7 hn7 hc HB6
    go_wp2_with fail
    generalize w7.alloc (.cells #[.int .i64 1, .slice a7 l7 c7] 32) = W7 at *
    generalize w7.heap.size = B10 at *
    refine (HO2.out _).mono ?_
    rintro e w8 ⟨v8, rfl, hv8, hb8⟩
    obtain ⟨a8, l8, c8, rfl⟩ := hv8.slice
    have hn8 := new_below w8 (.cells #[.int .i64 1, .slice a8 l8 c8] 32)
    have hc := below_chain HB7.out hb8
    have HLT11 := Hid.mk' hc.size
    have HB8 := Hid.mk' (below_chain hc hn8)
    have hg7 := HG7.out.later hb8
    have hg10 := HG10.out.later hb8
    have HN7 : Hid (w8.heap.size ≠ B7) := Nat.ne_of_gt (cell_lt hg7.c0)
    have HN10 : Hid (w8.heap.size ≠ B10) := Nat.ne_of_gt (cell_lt hg10.c0)
    have HG7 := Hid.mk' (hg7.later hn8)
    have HI7 := Hid.mk' ((HI7.out.later hb8).later hn8)
    have HG10 := Hid.mk' (hg10.later hn8)
    have HI10 := Hid.mk' ((HI10.out.later hb8).later hn8)
    have HG11 := Hid.mk' (LgAt.fresh w8 1 a8 l8 c8)
    have HI11 := Hid.mk' (hv8.later hn8)
    clear hv8 hb8 hn8 hc hg7 hg10 HB7
    go_wp2_with fail
    generalize w8.alloc (.cells #[.int .i64 1, .slice a8 l8 c8] 32) = W8 at *
    generalize w8.heap.size = B11 at *
    refine (HS2.out _ _ HB8.out HI11.out).mono ?_
    rintro e w9 ⟨v9, rfl, hv9, hb9⟩
    obtain ⟨a9, l9, c9, rfl⟩ := hv9.slice
    have hg := HG11.out.later hb9
    have HB9 : Hid (Below w.heap.size w ((w9.setCell ⟨B11, 0, none⟩ (.int .i64 1)).setCell ⟨B11, 1, none⟩ (.slice a9 l9 c9))) := ((below_chain HB8.out hb9).setCell HLT11.out _).setCell HLT11.out _
    have HI11 := Hid.mk' (hv9.put (x := .int .i64 1) (y := .slice a9 l9 c9) hg.c1)
    have HI7 := Hid.mk' ((HI7.out.later hb9).put (x := .int .i64 1) (y := .slice a9 l9 c9) hg.c1)
    have HI10 := Hid.mk' ((HI10.out.later hb9).put (x := .int .i64 1) (y := .slice a9 l9 c9) hg.c1)
    have HG7 := Hid.mk' ((HG7.out.later hb9).aside HN7.out (.int .i64 1) (.slice a9 l9 c9))
    have hg10 := (HG10.out.later hb9).aside HN10.out (.int .i64 1) (.slice a9 l9 c9)
    have hg11 := hg.put 1 a9 l9 c9
    have HG10 := Hid.mk' hg10
    obtain ⟨x0, x1, f0, f1⟩ := hg
    obtain ⟨y0, y1, _, _⟩ := hg10
    obtain ⟨u0, u1, _, _⟩ := hg11
    clear hv9 hb9 HB8 HG11
    go_wp2_with fail
    clear x0 x1 f0 f1 y0 y1 u0 u1
    generalize (w9.setCell ⟨B11, 0, none⟩ (.int .i64 1)).setCell ⟨B11, 1, none⟩ (.slice a9 l9 c9) = W9 at *
    refine (HAD.out _ _ _ HB9.out HI10.out HI11.out).mono ?_
    rintro e w10 ⟨v10, rfl, hv10, hb10⟩
    obtain ⟨a10, l10, c10, rfl⟩ := hv10.slice
    have hn10 := new_below w10 (.cells #[.int .i64 1, .slice a10 l10 c10] 32)
    have HBA := Hid.mk' (below_chain (below_chain HB9.out hb10) hn10)
    have HG7 := Hid.mk' ((HG7.out.later hb10).later hn10)
    have HI7 := Hid.mk' ((HI7.out.later hb10).later hn10)
    have HG10 := Hid.mk' ((HG10.out.later hb10).later hn10)
    have HI10 := Hid.mk' ((HI10.out.later hb10).later hn10)
    have HG13 := Hid.mk' (LgAt.fresh w10 1 a10 l10 c10)
    have HI13 := Hid.mk' (hv10.later hn10)
    obtain ⟨x0, x1, _, _⟩ := HG7.out
    obtain ⟨y0, y1, _, _⟩ := HG10.out
    clear hv10 hb10 hn10 HB9
    go_wp2_with fail
    clear x0 x1 y0 y1
    generalize w10.alloc (.cells #[.int .i64 1, .slice a10 l10 c10] 32) = WA at *
    generalize w10.heap.size = B13 at *
    refine (HV1.out _ _ _ HBA.out HI7.out HI10.out).mono ?_
    rintro e wB ⟨⟨z1, hz1, rfl⟩, hbB⟩
    have HBB := Hid.mk' (below_chain HBA.out hbB)
    have HI7 := Hid.mk' (HI7.out.later hbB)
    have HI13 := Hid.mk' (HI13.out.later hbB)
    obtain ⟨x0, x1, _, _⟩ := HG7.out.later hbB
    obtain ⟨y0, y1, _, _⟩ := HG13.out.later hbB
    clear hbB
    go_wp2_with fail
    refine (HV2.out _ _ _ HBB.out HI13.out HI7.out).mono ?_
    rintro e wC ⟨⟨z2, hz2, rfl⟩, hbC⟩
    have HBC := Hid.mk' (below_chain HBB.out hbC)
    clear hbC
    go_wp2_with fail
    go_ret
    exact ⟨rfl, HBC.out⟩
  · have hbI : ¬ (R : Int) ≤ 1000000 := by omega
    have hbJ : (1000000 : Int) < (R : Int) := by omega
    clear hE hpr hhigh hhiF hm1 hm2 hbe hab hU1 hD1 hU2 HE HNA
    go_enter Tryd.func3, Tryd.ntmps3
    go_wp2_with fail
    refine HP.out.mono ?_
    rintro e w1 ⟨rfl, hb1⟩
    have HB1 := Hid.mk' hb1
    clear hb1
    go_wp2_with fail
    refine (HTE.out _ HB1.out).mono ?_
    rintro e w2 ⟨rfl, hw2⟩
    rw [hw2]
    clear hw2 w2
    go_wp2_with fail
    refine (HWE.out _ HB1.out).mono ?_
    rintro e w2 ⟨rfl, hw2⟩
    rw [hw2]
    clear hw2 w2
    go_wp2_with fail
    refine (HSU.out _ HB1.out).mono ?_
    rintro e w2 ⟨rfl, hw2⟩
    rw [hw2]
    clear hw2 w2
    go_wp2_with fail
    refine (HIN.out _ HB1.out).mono ?_
    rintro e w3 ⟨v3, rfl, hv3, hb3⟩
    have HB3 := Hid.mk' (below_chain HB1.out hb3)
    have HV3 := Hid.mk' hv3
    obtain ⟨a3, c3, rfl⟩ := hv3.form
    clear hb3 hv3
    go_wp2_with fail
    refine (HSZ.out _ _ HB3.out HV3.out).mono ?_
    rintro e w4 ⟨rfl, hw4⟩
    rw [hw4]
    clear hw4 w4
    go_wp2_with fail
    refine (HIN.out _ HB3.out).mono ?_
    rintro e w4 ⟨v4, rfl, hv4, hb4⟩
    have HB4 := Hid.mk' (below_chain HB3.out hb4)
    have HV4 := Hid.mk' hv4
    obtain ⟨a4, c4, rfl⟩ := hv4.form
    clear hb4 hv4
    go_wp2_with fail
    refine (HEN.out _ _ HB4.out HV4.out).mono ?_
    rintro e w5 ⟨dn, v5, rfl, hv5, hb5⟩
    obtain ⟨a5, l5, c5, rfl⟩ := hv5.form
    have hc := below_chain HB4.out hb5
    have HLT7 := Hid.mk' hc.size
    have HB5 := Hid.mk' (below_chain hc (new_below w5 (.cells #[.int .i64 dn, .slice a5 l5 c5] 32)))
    have HL5 := Hid.mk' (hv5.later (new_below w5 (.cells #[.int .i64 dn, .slice a5 l5 c5] 32)))
    have HG7 := Hid.mk' (LgAt.fresh w5 dn a5 l5 c5)
    clear hv5 hb5 hc
    go_wp2_with fail
    generalize w5.alloc (.cells #[.int .i64 dn, .slice a5 l5 c5] 32) = W5 at *
    generalize w5.heap.size = B7 at *
    refine (HSC.out _ _ _ _ HB5.out HL5.out).mono ?_
    rintro e w6 ⟨v6, rfl, hv6, hb6⟩
    obtain ⟨a6, l6, c6, rfl⟩ := hv6.slice
    have hg := HG7.out.later hb6
    have HB6 : Hid (Below w.heap.size w ((w6.setCell ⟨B7, 0, none⟩ (.int .i64 1)).setCell ⟨B7, 1, none⟩ (.slice a6 l6 c6))) := ((below_chain HB5.out hb6).setCell HLT7.out _).setCell HLT7.out _
    have HI7 := Hid.mk' (hv6.put (x := .int .i64 1) (y := .slice a6 l6 c6) hg.c1)
    have HG7 := Hid.mk' (hg.put 1 a6 l6 c6)
    obtain ⟨x0, x1, f0, f1⟩ := hg
    clear hv6 hb6 HL5 HB5
    go_wp2_with fail
    go_ret
    exact ⟨rfl, HB6.out⟩

set_option maxRecDepth 100000 in
theorem TypesBounds_all (a : Nat → Addr) (ad : Option Addr) (n c : Nat) (z : Nat → Int) (w : World) (hE : Errs w a) (hz : NumsAt w (.slice ad n c) n z) (hm : n ≤ maxLen) :
    Calls Tryd.prog 3 #[.slice ad n c] w fun e w' => e = .returned (.bool true) ∧ Below w.heap.size w w' := by
  have HP := Hid.mk' (pair_any w)
  have HZ := Hid.mk' (fun (W : World) (hb : Below w.heap.size w W) => hz.later hb)
  by_cases he : n ≤ 6 ∧ tyE n z = 0
  · obtain ⟨h6, he⟩ := he
    obtain ⟨h0, _, hzp, hs⟩ := tyE_ok he
    have HTE : Hid (∀ W, Below w.heap.size w W → Calls Tryd.prog 6 #[.slice ad n c] W fun e w' => e = .returned (.int .i64 0) ∧ w' = W) := fun W hb => by
      have := TypeError_any _ n z W (HZ.out W hb) (by omega)
      rw [he] at this
      exact this
    by_cases hw : weightsErr z n = 0
    · obtain ⟨t, ht⟩ : ∃ t : Nat → Nat, ∀ i, i < n → z i = (t i : Int) := ⟨fun i => (z i).toNat, fun i hi => by have := hzp i hi; show z i = ((z i).toNat : Int); omega⟩
      have hp := (weightsErr_ok hw).2.pos
      rw [sumU_sumN ht] at hs hp
      obtain ⟨b, o, rfl, hrow⟩ : ∃ b o, ad = some ⟨b, o, none⟩ ∧ RowAt w b o n z := by
        rcases hz with ⟨_, _, _, hx⟩ | ⟨b, o, cap, hx, _, hr⟩
        · omega
        · obtain ⟨rfl, _⟩ : ad = _ ∧ _ := by simpa using hx
          exact ⟨b, o, rfl, hr⟩
      exact TypesBounds_ok a b o n c z t w hE hrow h0 h6 he hw ht (by omega) (by omega)
    · have HWE := Hid.mk' (fun (W : World) (hb : Below w.heap.size w W) => WeightsError_any _ n z W (HZ.out W hb) (by omega))
      generalize weightsErr z n = q at *
      have hq : (0 : Int) < (q : Int) := by omega
      clear hE hz he hw hzp hs
      go_enter Tryd.func3, Tryd.ntmps3
      go_wp2_with fail
      refine HP.out.mono ?_
      rintro e w1 ⟨rfl, hb1⟩
      have HB1 := Hid.mk' hb1
      clear hb1
      go_wp2_with fail
      refine (HTE.out _ HB1.out).mono ?_
      rintro e w2 ⟨rfl, hw2⟩
      rw [hw2]
      clear hw2 w2
      go_wp2_with fail
      refine (HWE.out _ HB1.out).mono ?_
      rintro e w2 ⟨rfl, hw2⟩
      rw [hw2]
      clear hw2 w2
      go_wp2_with fail
      go_ret
      exact ⟨rfl, HB1.out⟩
  · obtain ⟨q, hq, HTE⟩ : ∃ q : Int, 0 < q ∧ Hid (∀ W, Below w.heap.size w W → Calls Tryd.prog 6 #[.slice ad n c] W fun e w' => e = .returned (.int .i64 q) ∧ w' = W) := by
      by_cases h6 : n ≤ 6
      · exact ⟨(tyE n z : Nat), by have : tyE n z ≠ 0 := fun h => he ⟨h6, h⟩; omega, fun W hb => TypeError_any _ n z W (HZ.out W hb) (by omega)⟩
      · exact ⟨2, by decide, fun W _ => TypeError_long ad n c W (by omega) hm⟩
    clear hE hz he
    go_enter Tryd.func3, Tryd.ntmps3
    go_wp2_with fail
    refine HP.out.mono ?_
    rintro e w1 ⟨rfl, hb1⟩
    have HB1 := Hid.mk' hb1
    clear hb1
    go_wp2_with fail
    refine (HTE.out _ HB1.out).mono ?_
    rintro e w2 ⟨rfl, hw2⟩
    rw [hw2]
    clear hw2 w2
    go_wp2_with fail
    go_ret
    exact ⟨rfl, HB1.out⟩
end Go.Proofs.YthknaphclijncaaDoor

/- What the rows' condition on package variables gives a walk: two sentinels. -/
namespace Go.Proofs.YthknaphclijncaaDoor
open Go.ChangeShapes Go.WideShapes Go.RowKit

theorem Tryd.own : ownKnob Tryd.prog.godebug = none := by kernel_rfl
theorem Tryd.star : ("*" ++ "errors.errorString" : String) = "*errors.errorString" := by decide
theorem Tryd.rowE (u : TypeId) (h : Tryd.prog.typeName? 3 u = some "*errors.errorString") : u = 199 :=
  typeName_ptr_named (nm := "errors.errorString") (by rw [Tryd.star]; kernel_rfl) (by kernel_rfl) (by decide) u (by rw [Tryd.star]; exact h)
theorem Tryd.cellsE : Tryd.prog.cellsOf 220 = 1 := by kernel_rfl
theorem Tryd.cellsS : Tryd.prog.cellsOf 9 = 1 := by kernel_rfl
theorem Tryd.g1 : Tryd.prog.globalNamed "demon/api.ErrBound" = some 1 := by kernel_rfl
theorem Tryd.g2 : Tryd.prog.globalNamed "demon/api.ErrShape" = some 0 := by kernel_rfl

/-- Any number of listed sentinels of one type: each one's pointer, text and row; no two are one. -/
theorem laid_list {P : Program} {W : World} {nm : String} {ti tp te ts : TypeId} {ms : Array (String × TypeId)} {f : Field}
    (hi : P.underlying ti = some (.interface ms)) (hrow : ∀ u, P.typeName? 3 u = some nm → u = tp)
    (hp : P.underlying tp = some (.pointer te)) (he : P.underlying te = some (.struct #[f])) (hft : f.type = ts) (hfo : f.offset = 0) (hs : P.underlying ts = some .string) (hc : P.cellsOf te = 1) (hcs : P.cellsOf ts = 1) :
    ∀ (L : List (String × List UInt8)) (ps : List MemPlace), (∀ x, x ∈ L → ∃ g, P.globalNamed x.1 = some g ∧ (P.globals[g]?).map (·.type) = some ti) →
      DataW.LaidVars P W (L.map fun x => (x.1, .iface nm (.ptr (.agg [.lit (.string x.2)])))) ps → ps.Nodup →
      (∀ b off, MemPlace.cell b off ∈ ps → (∃ c t, W.heap[b]? = some (.cells c t (0, 0))) ∧ ∀ u v, W.cell? ⟨b, off, none⟩ = some (.iface u v) → Value.okWide P W .any 0 u v) →
      ∃ a : Nat → Addr, (∀ i x, L[i]? = some x → W.var? P x.1 = some #[.iface tp (.pointer (some (a i)))] ∧ (∃ s, W.cell? (a i) = some (.string s) ∧ s.data.toList = x.2) ∧
          (∃ c t, W.heap[(a i).block]? = some (.cells c t (0, 0))) ∧ MemPlace.cell (a i).block (a i).off ∈ ps) ∧
        ∀ i j, i < L.length → j < L.length → i ≠ j → a i ≠ a j := by
  intro L
  induction L with
  | nil => intro ps _ _ _ _; exact ⟨fun _ => default, fun i x h => by simp at h, fun i j h => by simp at h⟩
  | cons x r ih =>
    intro ps hgs hv hnd hrows
    obtain ⟨n, text⟩ := x
    obtain ⟨g0, t0, cs0, f0, p0, q0, hg0, ht0, hv0, hd0, hvr, e0⟩ := hv
    obtain ⟨g, hg, ht⟩ := hgs (n, text) (List.mem_cons_self ..)
    obtain rfl := Option.some.inj (hg.symm.trans hg0)
    obtain rfl := Option.some.inj (ht.symm.trans ht0)
    subst e0
    obtain ⟨l0⟩ := cs0
    have ok0 : ∀ u v, l0 = [.iface u v] → Value.okWide P W .any 0 u v := fun u v e => by
      subst e
      exact (hrows g 0 (by simp [MemPlace.row])).2 u v (by simpa using World.var?_cell hg0 hv0 0)
    obtain ⟨a0, s0, rfl, hc0, hs0, hz0, rfl⟩ := errorString_of_trod hi hrow hp he hft hfo hs hc hcs hd0 ok0
    obtain ⟨c0, tt0, hb0⟩ := (hrows a0.block a0.off (by simp [MemPlace.row])).1
    have hnq : q0.Nodup := List.Nodup.sublist (List.sublist_append_right _ _) hnd
    obtain ⟨a', ha', hne'⟩ := ih q0 (fun x hx => hgs x (List.mem_cons_of_mem _ hx)) hvr hnq (fun b off hm => hrows b off (List.mem_append_right _ hm))
    have hnot : MemPlace.cell a0.block a0.off ∉ q0 := by
      intro hm
      have := (List.nodup_append.1 hnd).2.2
      exact this (.cell a0.block a0.off) (by simp [MemPlace.row]) (.cell a0.block a0.off) hm rfl
    refine ⟨fun i => match i with | 0 => a0 | k + 1 => a' k, ?_, ?_⟩
    · intro i x hx
      cases i with
      | zero =>
        simp only [List.getElem?_cons_zero, Option.some.injEq] at hx
        subst hx
        exact ⟨hv0, ⟨s0, hc0, hs0⟩, ⟨c0, tt0, hb0⟩, by simp [MemPlace.row]⟩
      | succ k =>
        simp only [List.getElem?_cons_succ] at hx
        obtain ⟨h1, h2, h3, h4⟩ := ha' k x hx
        exact ⟨h1, h2, h3, List.mem_append_right _ h4⟩
    · have far : ∀ k, k < r.length → a0 ≠ a' k := fun k hk e => by
        obtain ⟨_, _, _, h4⟩ := ha' k r[k] (by simp [hk])
        rw [← e] at h4
        exact hnot h4
      intro i j hi' hj' hij
      cases i with
      | zero =>
        cases j with
        | zero => exact absurd rfl hij
        | succ k => exact far k (by simpa using hj')
      | succ m =>
        cases j with
        | zero => exact (far m (by simpa using hi')).symm
        | succ k => exact hne' m k (by simpa using hi') (by simpa using hj') (by omega)

/-- The names and texts, in the rows' order. -/
def twoNames : List (String × List UInt8) := [("demon/api.ErrBound", [100, 101, 109, 111, 110, 58, 32, 98, 111, 117, 110, 100]), ("demon/api.ErrShape", [100, 101, 109, 111, 110, 58, 32, 115, 104, 97, 112, 101])]
def laidAll : List (String × DataW Unit) := [("demon/api.ErrBound", Rows.laid_demon_api_ErrBound), ("demon/api.ErrShape", Rows.laid_demon_api_ErrShape)]
theorem laidAll_parts (W : World) : laidMetH Tryd.prog laidAll W = laidMet Tryd.prog (twoNames.map fun x => (x.1, .iface "*errors.errorString" (.ptr (.agg [.lit (.string x.2)])))) W := by kernel_rfl

theorem var_at {W : World} {n : String} {g : Nat} {v : Value} (hg : Tryd.prog.globalNamed n = some g) (h : W.var? Tryd.prog n = some #[v]) : W.cell? ⟨g, 0, none⟩ = some v := by
  simpa using World.var?_cell hg h 0

theorem errs_of_laid {W : World} (h : laidMetH Tryd.prog laidAll W) : ∃ a : Nat → Addr, Errs W a := by
  rw [laidAll_parts] at h
  obtain ⟨ps, hv, hnd, hrows⟩ := h
  obtain ⟨a, ha, hne⟩ := laid_list Tryd.underlying26 Tryd.rowE Tryd.underlying199 Tryd.underlying220 rfl rfl Tryd.underlying9 Tryd.cellsE Tryd.cellsS twoNames ps
    (fun x hx => by
      simp only [twoNames, List.mem_cons, List.not_mem_nil, or_false] at hx
      rcases hx with rfl | rfl
      · exact ⟨_, Tryd.g1, by kernel_rfl⟩
      · exact ⟨_, Tryd.g2, by kernel_rfl⟩) hv hnd hrows
  exact ⟨fun i => a (i - 1), ⟨var_at Tryd.g1 (ha 0 _ rfl).1, var_at Tryd.g2 (ha 1 _ rfl).1⟩⟩

/-- The door's own heap meets the condition. -/
theorem door_met (os : Os) (args : Array Value) : laidMetH Tryd.prog laidAll ((World.doorLaid Tryd.prog 168 os).forCall (fun _ _ => 0) ⟨#[], args, []⟩).memory := by
  rw [laidAll_parts]
  exact laidMet_of_run' 8 (by kernel_rfl) (by kernel_rfl)
end Go.Proofs.YthknaphclijncaaDoor

/- A parameter of type []int opened. -/
namespace Go.Proofs.YthknaphclijncaaDoor
open Go.ChangeShapes Go.WideShapes Go.ChangeAt Go.RowKit Go.Joins Go.Deep

theorem Tryd.laidOut : laidOutB Tryd.prog = true := by kernel_rfl
theorem Tryd.cellsInt : Tryd.prog.cellsOf 3 = 1 := by kernel_rfl
theorem Tryd.cellsInts : Tryd.prog.cellsOf 22 = 1 := by kernel_rfl

set_option maxRecDepth 100000 in
/-- What a parameter of type []int gives: its slice, its numbers. -/
theorem open_nums {H : Type} {enc : TypeId × Value → H} {W : World} {base : Nat} {v : Value} {d : DataW H} {p : List MemPlace} (hv : Value.okWide Tryd.prog W .any base 22 v)
    (h : DataW.Trod enc Tryd.prog W 0 (fun _ => true) true 22 v d p) :
    ∃ (ad : Option Addr) (n cap : Nat) (z : Nat → Int), v = .slice ad n cap ∧ n ≤ maxLen ∧ NumsAt W (.slice ad n cap) n z := by
  obtain ⟨ad, n, cap, rfl⟩ := okWide_slice Tryd.underlying22 hv
  obtain ⟨fuel, hf⟩ := h
  rcases open_ints Tryd.underlying22 Tryd.underlying3 Tryd.cellsInt hf with ⟨hc, _⟩ | ⟨a, len, cap', zs, hc, _, hl, hm, hz, _, hcell, _⟩
  · simp [Value.cells] at hc
    obtain ⟨rfl, rfl, rfl⟩ := hc
    exact ⟨none, 0, 0, fun _ => 0, rfl, Nat.zero_le _, Or.inl ⟨none, 0, rfl, rfl⟩⟩
  · simp [Value.cells] at hc
    obtain ⟨rfl, rfl, rfl⟩ := hc
    simp only [if_true] at hz
    rcases Nat.eq_zero_or_pos n with rfl | hpos
    · exact ⟨some a, 0, cap, fun _ => 0, rfl, Nat.zero_le _, Or.inl ⟨some a, cap, rfl, rfl⟩⟩
    · obtain ⟨b, o, spot⟩ := a
      have hspot : spot = none := by simpa [Addr.add] using World.cell?_spot (hcell 0 (by omega))
      subst hspot
      refine ⟨_, n, cap, fun i => zs.getD i 0, rfl, by omega, Or.inr ⟨b, o, cap, rfl, hpos, fun i hi => ?_⟩⟩
      have := hcell i (by omega)
      rw [Go.Proofs.YthknaphclijncaaDoor.add_plain] at this
      exact this
end Go.Proofs.YthknaphclijncaaDoor
