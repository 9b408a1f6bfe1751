/- What is carried, in numbers: how great it grows, and what is told of it in the end. -/
import Derived.Test.YthomgmhmbalnbaaGreatDoorPackA
import Derived.Test.YthomgmhmbalnbaaGreatDoorNatTold
import Derived.Test.YthomgmhmbalnbaaGreatDoorHtGain
import Derived.Test.YthomgmhmbalnbaaGreatDoorHtStep
import Derived.Test.YthomgmhmbalnbaaGreatDoorLastOp
import Derived.Test.YthomgmhmbalnbaaGreatDoorHtCar
import Derived.Test.YthomgmhmbalnbaaGreatDoorWeights
import Derived.Test.YthomgmhmbalnbaaGreatDoorCode
import Derived.Test.YthomgmhmbalnbaaGreatDoorBig
import Derived.OwnWalk
namespace Go.Proofs.YthomgmhmbalnbaaGreatDoor
open Go.RowKit

/-- How great the denominator may be behind t steps. -/
def bdT (t : Nat) : Nat := 2 ^ (14 + 96 * t)
theorem bdT_step (t : Nat) : bdT t * 2 ^ 96 = bdT (t + 1) := by unfold bdT; rw [← Nat.pow_add]; congr 1
theorem bdT_pos (t : Nat) : 0 < bdT t := Nat.pow_pos (by decide)
theorem bdT_le {s t : Nat} (h : s ≤ t) : bdT s ≤ bdT t := by unfold bdT; exact Nat.pow_le_pow_right (by decide) (by omega)
theorem bdT_four : bdT 4 ≤ 2 ^ 199 * 2 ^ 199 := by decide +kernel
theorem bdT_mono {t : Nat} (h : t ≤ 4) : bdT t ≤ 2 ^ 199 * 2 ^ 199 := Nat.le_trans (bdT_le h) bdT_four
theorem pow4 {n : Nat} (h : n ≤ 4) : 4096 ^ n ≤ 2 ^ 48 := by
  calc 4096 ^ n ≤ 4096 ^ 4 := Nat.pow_le_pow_right (by decide) h
    _ = 2 ^ 48 := by decide
theorem prdU_sml {u : Nat → Nat} {n k : Nat} (hn : n ≤ 4) (hk : k ≤ n) (hu : ∀ i, i < n → u i ≤ 4096) : prdU u k ≤ 2 ^ 48 := Nat.le_trans (prdU_le (fun i hi => hu i (by omega))) (pow4 (by omega))
theorem prdX_sml {u : Nat → Nat} {i n k : Nat} (hn : n ≤ 4) (hk : k ≤ n) (hu : ∀ i, i < n → u i ≤ 4096) : prdX u i k ≤ 2 ^ 48 := Nat.le_trans (prdX_le (by decide) (fun i hi => hu i (by omega))) (pow4 (by omega))
theorem car_le {n S : Nat} {w P : Nat → Nat} {D : Nat} (h : Car n S w P D) (hS : 0 < S) (hw : ∀ i, i < n → w i ≤ 4096) {i : Nat} (hi : i < n) : P i ≤ 4096 * D := by
  have h1 := h i hi
  have h2 : P i ≤ P i * S := Nat.le_mul_of_pos_right _ hS
  rw [h1] at h2
  exact Nat.le_trans h2 (Nat.mul_le_mul_right _ (hw i hi))
theorem big_room {x : Nat} (h : x ≤ 2 ^ 250 * 2 ^ 250 * 2 ^ 200) : x < 18446744073709551616 ^ 12 := Nat.lt_of_le_of_lt h (by decide +kernel)
/-- All that a round asks of sizes. -/
theorem round_sml {n S t : Nat} {u v X : Nat → Nat} {E : Nat} {q : Nat → Nat → Nat} {R : Nat → Nat} (hC : Car n S u X E) (hS : 0 < S) (hn : n ≤ 4) (ht : t < 4) (hE : E ≤ bdT t) (hu : ∀ i, i < n → u i ≤ 4096) (hv : ∀ i, i < n → v i ≤ 4096) (hR : ∀ i, i < n → R i ≤ 4096) (hq : ∀ i k, i < n → k < n → q i k ≤ 4096) :
    (∀ i, i < n → ∀ k, k ≤ n → X i * prdX u i k < 18446744073709551616 ^ 12) ∧ (∀ k, k ≤ n → E * prdU u k < 18446744073709551616 ^ 12) ∧ (∀ i, i < n → ∀ k, k ≤ n → X i * prdX u i n * v i * prdX R i k < 18446744073709551616 ^ 12) ∧ (∀ k, k ≤ n → E * prdU u n * prdU R k < 18446744073709551616 ^ 12) ∧ (∀ k, k < n → ∀ i, i ≤ n → smU (fun j => X j * prdX u j n * v j * prdX R j n * q j k) i < 18446744073709551616 ^ 12) ∧ E * prdU u n * prdU R n ≤ bdT (t + 1) := by
  have hE2 : E ≤ (2 ^ 199 * 2 ^ 199) := Nat.le_trans hE (bdT_mono (by omega))
  have hX : ∀ i, i < n → X i ≤ 2 ^ 12 * (2 ^ 199 * 2 ^ 199) := fun i hi => Nat.le_trans (car_le hC hS hu hi) (Nat.mul_le_mul_left _ hE2)
  have a1 : ∀ i, i < n → ∀ k, k ≤ n → X i * prdX u i k ≤ 2 ^ 12 * (2 ^ 199 * 2 ^ 199) * 2 ^ 48 := fun i hi k hk => Nat.mul_le_mul (hX i hi) (prdX_sml hn hk hu)
  have a2 : ∀ k, k ≤ n → E * prdU u k ≤ (2 ^ 199 * 2 ^ 199) * 2 ^ 48 := fun k hk => Nat.mul_le_mul hE2 (prdU_sml hn hk hu)
  have a3 : ∀ i, i < n → ∀ k, k ≤ n → X i * prdX u i n * v i * prdX R i k ≤ 2 ^ 12 * (2 ^ 199 * 2 ^ 199) * 2 ^ 48 * 2 ^ 12 * 2 ^ 48 := fun i hi k hk => Nat.mul_le_mul (Nat.mul_le_mul (a1 i hi n (Nat.le_refl _)) (hv i hi)) (prdX_sml hn hk hR)
  have a4 : ∀ k, k ≤ n → E * prdU u n * prdU R k ≤ (2 ^ 199 * 2 ^ 199) * 2 ^ 48 * 2 ^ 48 := fun k hk => Nat.mul_le_mul (a2 n (Nat.le_refl _)) (prdU_sml hn hk hR)
  have a5 : ∀ k, k < n → ∀ i, i ≤ n → smU (fun j => X j * prdX u j n * v j * prdX R j n * q j k) i ≤ 4 * (2 ^ 12 * (2 ^ 199 * 2 ^ 199) * 2 ^ 48 * 2 ^ 12 * 2 ^ 48 * 2 ^ 12) := fun k hk i hi => by
    refine Nat.le_trans (smU_le (u := fun j => X j * prdX u j n * v j * prdX R j n * q j k) (B := 2 ^ 12 * (2 ^ 199 * 2 ^ 199) * 2 ^ 48 * 2 ^ 12 * 2 ^ 48 * 2 ^ 12) (fun j hj => Nat.mul_le_mul (a3 j (by omega) n (Nat.le_refl _)) (hq j k (by omega) hk))) ?_
    exact Nat.mul_le_mul_right _ (by omega)
  refine ⟨fun i hi k hk => big_room (Nat.le_trans (a1 i hi k hk) (by decide +kernel)), fun k hk => big_room (Nat.le_trans (a2 k hk) (by decide +kernel)), fun i hi k hk => big_room (Nat.le_trans (a3 i hi k hk) (by decide +kernel)), fun k hk => big_room (Nat.le_trans (a4 k hk) (by decide +kernel)), fun k hk i hi => big_room (Nat.le_trans (a5 k hk i hi) (by decide +kernel)), ?_⟩
  rw [← bdT_step]
  have b1 : E * prdU u n * prdU R n ≤ bdT t * 2 ^ 48 * 2 ^ 48 := Nat.mul_le_mul (Nat.mul_le_mul hE (prdU_sml hn (Nat.le_refl _) hu)) (prdU_sml hn (Nat.le_refl _) hR)
  have b2 : bdT t * 2 ^ 48 * 2 ^ 48 = bdT t * 2 ^ 96 := by rw [Nat.mul_assoc, ← Nat.pow_add]
  rw [b2] at b1
  exact b1
theorem end_sml {n S : Nat} {u X : Nat → Nat} {E : Nat} (hC : Car n S u X E) (hS : 0 < S) (hn : n ≤ 4) (hE : E ≤ bdT 4) (hu : ∀ i, i < n → u i ≤ 4096) : E < 18446744073709551616 ^ 12 ∧ (∀ k, k ≤ n → smU X k < 18446744073709551616 ^ 12) ∧ ∀ i, i < n → X i < 18446744073709551616 ^ 12 := by
  have hE2 : E ≤ (2 ^ 199 * 2 ^ 199) := Nat.le_trans hE (bdT_mono (by omega))
  have hX : ∀ i, i < n → X i ≤ 2 ^ 12 * (2 ^ 199 * 2 ^ 199) := fun i hi => Nat.le_trans (car_le hC hS hu hi) (Nat.mul_le_mul_left _ hE2)
  refine ⟨big_room (Nat.le_trans hE2 (by decide +kernel)), fun k hk => big_room ?_, fun i hi => big_room (Nat.le_trans (hX i hi) (by decide +kernel))⟩
  refine Nat.le_trans (smU_le (fun i hi => hX i (by omega))) ?_
  exact Nat.le_trans (Nat.mul_le_mul_right _ (show k ≤ 4 by omega)) (by decide +kernel)
/-- What is told of N over D is what is told of A over B, if they are the same. -/
theorem told_same {a : Nat → Addr} {N D A B : Nat} (hD : 0 < D) (hB : 0 < B) (h : N * B = A * D) : N / Nat.gcd N D = A / Nat.gcd A B ∧ D / Nat.gcd N D = B / Nat.gcd A B ∧ toldV a N D = toldV a A B := by
  have h1 := low_same (M := B) (d := D) (z := (A : Int)) (n := (N : Int)) hB hD (by rw [← Int.natCast_mul, ← Int.natCast_mul, h])
  unfold lowN lowD lowG at h1
  rw [Int.natAbs_natCast, Int.natAbs_natCast] at h1
  have h3 : ((N / Nat.gcd N D : Nat) : Int) = ((A / Nat.gcd A B : Nat) : Int) := h1.1
  have h2 : N / Nat.gcd N D = A / Nat.gcd A B := by omega
  refine ⟨h2, h1.2, ?_⟩
  unfold toldV
  rw [h2, h1.2]
/-- Numbers of a right process. -/
def nU (W : Nat → Nat → Int) (t i : Nat) : Nat := (W t i).toNat
def nQ (P : Nat → Nat → Nat → Int) (t i k : Nat) : Nat := (P t i k).toNat
section
variable {L n : Nat} {ns : Nat → Nat} {W : Nat → Nat → Int} {T : Nat} {R : Nat → Nat} {rn : Nat → Nat → Nat} {P : Nat → Nat → Nat → Int}
theorem OkP.u_cast (h : OkP L n ns W T R rn P) {t i : Nat} (ht : t < L) (hi : i < n) : W t i = ((nU W t i : Nat) : Int) := by have := h.hW t i ht hi; unfold nU; omega
theorem OkP.u_bd (h : OkP L n ns W T R rn P) {t i : Nat} (ht : t < L) (hi : i < n) : 1 ≤ nU W t i ∧ nU W t i ≤ 1000 := by have := h.hW t i ht hi; unfold nU; omega
theorem OkP.q_cast (h : OkP L n ns W T R rn P) {t i k : Nat} (ht : t < T) (hi : i < n) (hk : k < n) : P t i k = ((nQ P t i k : Nat) : Int) := by have := (h.hP t i ht hi).lt hk; unfold nQ; omega
theorem OkP.q_sum (h : OkP L n ns W T R rn P) {t i : Nat} (ht : t < T) (hi : i < n) : sumN (P t i) n = ((smU (nQ P t i) n : Nat) : Int) := sumN_smU fun _ hk => h.q_cast ht hi hk
theorem OkP.r_bd (h : OkP L n ns W T R rn P) {t i : Nat} (ht : t < T) (hi : i < n) : 0 < smU (nQ P t i) n ∧ smU (nQ P t i) n ≤ 4096 := by
  have h1 := h.q_sum ht hi
  have h2 := (h.hP t i ht hi).le
  have h3 := (h.hP t i ht hi).pos
  omega
theorem OkP.q_bd (h : OkP L n ns W T R rn P) {t i k : Nat} (ht : t < T) (hi : i < n) (hk : k < n) : nQ P t i k ≤ 4096 := Nat.le_trans (smU_ge (u := nQ P t i) hk) (h.r_bd ht hi).2
theorem OkP.balN (h : OkP L n ns W T R rn P) {t : Nat} (ht : t < T) : Bal n (nU W (t + 1)) (nQ P t) := fun i k hi hk => by
  have h1 := h.bal t i k ht hi hk
  have hL := h.hL
  rw [h.u_cast (t := t + 1) (by omega) hi, h.u_cast (t := t + 1) (by omega) hk, h.q_cast ht hi hk, h.q_cast ht hk hi, h.q_sum ht hi, h.q_sum ht hk] at h1
  exact_mod_cast h1
theorem OkP.s_bd (h : OkP L n ns W T R rn P) {t : Nat} (ht : t < L) : 0 < smU (nU W t) n ∧ smU (nU W t) n ≤ 4000 := by
  have h1 := smU_ge (u := nU W t) h.n0
  have h2 := (h.u_bd ht h.n0).1
  have h3 := smU_le (u := nU W t) (B := 1000) (n := n) (fun i hi => (h.u_bd ht hi).2)
  have h4 : n * 1000 ≤ 4 * 1000 := Nat.mul_le_mul_right _ h.n4
  omega
end
end Go.Proofs.YthomgmhmbalnbaaGreatDoor

/- heat.Mean. -/
namespace Go.Proofs.YthomgmhmbalnbaaGreatDoor
open Go.RowKit

/-- The variable that is carried on. -/
structure NowS (w1 wr : World) (B n S t : Nat) (u : Nat → Nat) (g : Nat) (y : Value) (E : Nat) (F : Nat → Value) (X : Nat → Nat) : Prop where
  below : Below w1.heap.size w1 wr
  hB : w1.heap.size ≤ B
  ne : B ≠ g
  c0 : wr.cell? ⟨B, 0, none⟩ = some (.slice (some ⟨g, 0, none⟩) n n)
  c1 : wr.cell? ⟨B, 1, none⟩ = some y
  f0 : wr.frozen? ⟨B, 0, none⟩ = false
  f1 : wr.frozen? ⟨B, 1, none⟩ = false
  nd : NatAt wr y E
  nts : NtsAt wr g n F X
  car : Car n S u X E
  pos : 0 < E
  bd : E ≤ bdT t
theorem NowS.later {w1 wr wn : World} {B n S t : Nat} {u : Nat → Nat} {g : Nat} {y : Value} {E : Nat} {F : Nat → Value} {X : Nat → Nat} (h : NowS w1 wr B n S t u g y E F X) (hb : Below wr.heap.size wr wn) : NowS w1 wn B n S t u g y E F X :=
  ⟨below_chain h.below hb, h.hB, h.ne, by rw [hb.cell (cell_lt h.c0)]; exact h.c0, by rw [hb.cell (cell_lt h.c1)]; exact h.c1, by rw [hb.frozen (show B < wr.heap.size from cell_lt h.c1)]; exact h.f0, by rw [hb.frozen (show B < wr.heap.size from cell_lt h.c1)]; exact h.f1, h.nd.later hb, h.nts.later hb, h.car, h.pos, h.bd⟩
theorem NowS.put {w1 wr : World} {B n S t : Nat} {u : Nat → Nat} {g : Nat} {y : Value} {E : Nat} {F : Nat → Value} {X : Nat → Nat} (h : NowS w1 wr B n S t u g y E F X) {t' : Nat} {u' : Nat → Nat} {g' : Nat} {y' : Value} {E' : Nat} {F' : Nat → Value} {X' : Nat → Nat} (hne : B ≠ g') (hN : NtsAt wr g' n F' X') (hD : NatAt wr y' E') (hC : Car n S u' X' E') (hp : 0 < E') (hb : E' ≤ bdT t') :
    NowS w1 ((wr.setCell ⟨B, 0, none⟩ (.slice (some ⟨g', 0, none⟩) n n)).setCell ⟨B, 1, none⟩ y') B n S t' u' g' y' E' F' X' := by
  have c0 := h.c0
  obtain ⟨ya, yl, yc, hy⟩ := h.nd.isSlice
  have c1 := h.c1
  rw [hy] at c1
  have e1 : (wr.setCell ⟨B, 0, none⟩ (.slice (some ⟨g', 0, none⟩) n n)).cell? ⟨B, 1, none⟩ = some (.slice ya yl yc) := by rw [cell_put _ c0, if_neg (by simp)]; exact c1
  refine ⟨(h.below.setCell h.hB _).setCell h.hB _, h.hB, hne, ?_, ?_, ?_, ?_, (hD.putS c0).putS e1, (hN.aside c0 hne).aside e1 hne, hC, hp, hb⟩
  · rw [cell_put _ e1, if_neg (by simp), cell_put _ c0, if_pos rfl]
  · rw [cell_put _ e1, if_pos rfl]
  · rw [World.frozen?_setCell, World.frozen?_setCell]; exact h.f0
  · rw [World.frozen?_setCell, World.frozen?_setCell]; exact h.f1

set_option maxRecDepth 100000 in
set_option maxHeartbeats 4000000 in
theorem Mean_bad (a : Nat → Addr) (v : Value) (L : Nat) (vs : Nat → Value) (ns : Nat → Nat) (W : Nat → Nat → Int) (sv : Value) (T : Nat) (tv : Nat → Value) (R : Nat → Nat) (rv : Nat → Nat → Value) (rn : Nat → Nat → Nat) (P : Nat → Nat → Nat → Int) (w : World) (hE : Errs w a) (h : TabAt w v L vs ns W) (hS : StpAt w sv T tv R rv rn P) (hL : L ≤ 1000000) (hns : ∀ i, i < L → ns i ≤ 1000000) (hT : T ≤ 1000000) (hR : ∀ t, t < T → R t ≤ 1000000) (hb : (prF L ns W T R rn P).1 ≠ 0) :
    Calls Tryz.prog 14 #[.agg #[v, sv]] w fun e w' => ∃ x, e = .returned (.tuple #[.agg #[.int .i64 0, .int .i64 0], x]) ∧ ErrPl a w' x (prF L ns W T R rn P) ∧ Below w.heap.size w w' := by
  obtain ⟨ad, cap, rfl⟩ := h.form
  obtain ⟨sa, sc, rfl⟩ := hS.form
  have HBAD := Hid.mk' hb
  clear hb
  obtain ⟨w1, hw1⟩ : ∃ w1, w1 = (w.alloc (.cells #[.slice ad L cap, .slice sa T sc] 32)).alloc (.cells #[.int .i64 0, .int .i64 0] 38) := ⟨_, rfl⟩
  have hb1 : Below w.heap.size w w1 := by rw [hw1]; exact ((Below.refl _ _).alloc (Nat.le_refl _) _).alloc (by simp) _
  have c0 : w1.cell? ⟨w.heap.size, 0, none⟩ = some (.slice ad L cap) := by rw [hw1, World.cell?_alloc_lt _ _ ⟨w.heap.size, 0, none⟩ (by simp), World.cell?_alloc_at _ _ _ _ rfl]; rfl
  have c1 : w1.cell? ⟨w.heap.size, 1, none⟩ = some (.slice sa T sc) := by rw [hw1, World.cell?_alloc_lt _ _ ⟨w.heap.size, 1, none⟩ (by simp), World.cell?_alloc_at _ _ _ _ rfl]; rfl
  have c2 : w1.cell? ⟨w.heap.size + 1, 0, none⟩ = some (.int .i64 0) := by rw [hw1, World.cell?_alloc_at _ _ _ _ (by simp)]; rfl
  have c3 : w1.cell? ⟨w.heap.size + 1, 1, none⟩ = some (.int .i64 0) := by rw [hw1, World.cell?_alloc_at _ _ _ _ (by simp)]; rfl
  have c4 : w1.frozen? ⟨w.heap.size + 1, 0, none⟩ = false := by rw [hw1]; exact frozen_new (by simp)
  have c5 : w1.frozen? ⟨w.heap.size + 1, 1, none⟩ = false := by rw [hw1]; exact frozen_new (by simp)
  have hsz : w.heap.size + 1 < w1.heap.size := by rw [hw1]; simp
  have HSZ := Hid.mk' hsz
  have HC : Hid (∀ W, Below w1.heap.size w1 W → (W.cell? ⟨w.heap.size, 0, none⟩ = some (.slice ad L cap) ∧ W.cell? ⟨w.heap.size, 1, none⟩ = some (.slice sa T sc)) ∧ (W.cell? ⟨w.heap.size + 1, 0, none⟩ = some (.int .i64 0) ∧ W.cell? ⟨w.heap.size + 1, 1, none⟩ = some (.int .i64 0)) ∧ W.frozen? ⟨w.heap.size + 1, 0, none⟩ = false ∧ W.frozen? ⟨w.heap.size + 1, 1, none⟩ = false) := fun W hb => ⟨⟨by rw [hb.cell (cell_lt c0)]; exact c0, by rw [hb.cell (cell_lt c1)]; exact c1⟩, ⟨by rw [hb.cell (cell_lt c2)]; exact c2, by rw [hb.cell (cell_lt c3)]; exact c3⟩, by rw [hb.frozen (show w.heap.size + 1 < w1.heap.size from hsz)]; exact c4, by rw [hb.frozen (show w.heap.size + 1 < w1.heap.size from hsz)]; exact c5⟩
  have HEND : Hid (∀ W, Below w1.heap.size w1 W → Below w.heap.size w W) := fun W hb => hb1.trans (hb.mono hb1.size)
  have HW1 := Hid.mk' hw1
  have HVA := Hid.mk' (heatValid_any a _ L vs ns W _ T tv R rv rn P w1 (hE.below hb1) (h.later hb1) (hS.later hb1) hL hns hT hR)
  clear hE h hS hb1 hw1 hsz hns hL hT hR c2 c3 c4 c5
  go_enter Tryz.func14, Tryz.ntmps14
  go_upto_region 1 with fail
  rw [← HW1.out]
  go_wp2_with fail
  refine HVA.out.mono ?_
  rintro e w2 ⟨x, rfl, hx, hb2⟩
  obtain ⟨xt, xx, rfl⟩ := hx.iface HBAD.out
  have HX := Hid.mk' hx
  have HB2 := Hid.mk' hb2
  clear hx hb2 HVA c0 c1
  obtain ⟨_, ⟨d2, d3⟩, d4, d5⟩ := HC.out _ HB2.out
  have HXX : Hid (ErrPl a ((w2.setCell ⟨w.heap.size + 1, 0, none⟩ (.int .i64 0)).setCell ⟨w.heap.size + 1, 1, none⟩ (.int .i64 0)) (.iface xt xx) (prF L ns W T R rn P)) := by
    have e1 : (w2.setCell ⟨w.heap.size + 1, 0, none⟩ (.int .i64 0)).cell? ⟨w.heap.size + 1, 1, none⟩ = some (.int .i64 0) := by rw [cell_put _ d2, if_neg (by simp)]; exact d3
    have hall : ∀ p, ((w2.setCell ⟨w.heap.size + 1, 0, none⟩ (.int .i64 0)).setCell ⟨w.heap.size + 1, 1, none⟩ (.int .i64 0)).cell? p = w2.cell? p := fun p => by
      rw [cell_put _ e1]
      split
      · rename_i e9; rw [e9]; exact d3.symm
      · rw [cell_put _ d2]
        split
        · rename_i e9; rw [e9]; exact d2.symm
        · rfl
    rcases HX.out with hl | ⟨pb, g1, g2, g3, g4⟩
    · exact Or.inl hl
    · exact Or.inr ⟨pb, g1, by rw [hall]; exact g2, by rw [hall]; exact g3, g4⟩
  have HBE : Hid (Below w.heap.size w ((w2.setCell ⟨w.heap.size + 1, 0, none⟩ (.int .i64 0)).setCell ⟨w.heap.size + 1, 1, none⟩ (.int .i64 0))) := ((HEND.out _ HB2.out).setCell (by simp) _).setCell (by simp) _
  have G0 : ((w2.setCell ⟨w.heap.size + 1, 0, none⟩ (.int .i64 0)).setCell ⟨w.heap.size + 1, 1, none⟩ (.int .i64 0)).cell? ⟨w.heap.size + 1, 0, none⟩ = some (.int .i64 0) := (put_two _ _ d2 d3).2.1
  have G1 : ((w2.setCell ⟨w.heap.size + 1, 0, none⟩ (.int .i64 0)).setCell ⟨w.heap.size + 1, 1, none⟩ (.int .i64 0)).cell? ⟨w.heap.size + 1, 1, none⟩ = some (.int .i64 0) := (put_two _ _ d2 d3).2.2
  have HG : Hid (((w2.setCell ⟨w.heap.size + 1, 0, none⟩ (.int .i64 0)).setCell ⟨w.heap.size + 1, 1, none⟩ (.int .i64 0)).cell? ⟨w.heap.size + 1, 0, none⟩ = some (.int .i64 0) ∧ ((w2.setCell ⟨w.heap.size + 1, 0, none⟩ (.int .i64 0)).setCell ⟨w.heap.size + 1, 1, none⟩ (.int .i64 0)).cell? ⟨w.heap.size + 1, 1, none⟩ = some (.int .i64 0)) := ⟨G0, G1⟩
  clear G0 G1 HC HX HB2
  go_wp2_with fail
  generalize (w2.setCell ⟨w.heap.size + 1, 0, none⟩ (.int .i64 0)).setCell ⟨w.heap.size + 1, 1, none⟩ (.int .i64 0) = W9 at *
  exact bodyPost_ret (v := .tuple #[.agg #[.int .i64 0, .int .i64 0], .iface xt xx]) (by simp [results, Tryz.results14, go_sem, HG.out.1, HG.out.2]) rfl ⟨_, rfl, HXX.out, HBE.out⟩
set_option maxRecDepth 100000 in
set_option maxHeartbeats 16000000 in
theorem Mean_ok (a : Nat → Addr) (v : Value) (L : Nat) (vs : Nat → Value) (ns : Nat → Nat) (W : Nat → Nat → Int) (sv : Value) (T : Nat) (tv : Nat → Value) (R : Nat → Nat) (rv : Nat → Nat → Value) (rn : Nat → Nat → Nat) (P : Nat → Nat → Nat → Int) (w : World) (hE : Errs w a) (h : TabAt w v L vs ns W) (hS : StpAt w sv T tv R rv rn P) (hL : L ≤ 1000000) (hns : ∀ i, i < L → ns i ≤ 1000000) (hT : T ≤ 1000000) (hR : ∀ t, t < T → R t ≤ 1000000) (hz : (prF L ns W T R rn P).1 = 0) :
    Calls Tryz.prog 14 #[.agg #[v, sv]] w fun e w' => e = .returned (.tuple #[.agg #[.int .i64 ((smU (nU W T) (ns 0) / Nat.gcd (smU (nU W T) (ns 0)) (smU (nU W 0) (ns 0)) : Nat) : Int), .int .i64 ((smU (nU W 0) (ns 0) / Nat.gcd (smU (nU W T) (ns 0)) (smU (nU W 0) (ns 0)) : Nat) : Int)], .nilIface]) ∧ Below w.heap.size w w' := by
  have hOK := prF_ok hz
  have hL4 := hOK.hL
  have hT4 := hOK.hT
  obtain ⟨b, o, cap, rfl, hr⟩ := tab_of h (by omega)
  obtain ⟨sa, sc, rfl⟩ := hS.form
  obtain ⟨w1, hw1⟩ : ∃ w1, w1 = (w.alloc (.cells #[.slice (some ⟨b, o, none⟩) L cap, .slice sa T sc] 32)).alloc (.cells #[.int .i64 0, .int .i64 0] 38) := ⟨_, rfl⟩
  have hb1 : Below w.heap.size w w1 := by rw [hw1]; exact ((Below.refl _ _).alloc (Nat.le_refl _) _).alloc (by simp) _
  have c0 : w1.cell? ⟨w.heap.size, 0, none⟩ = some (.slice (some ⟨b, o, none⟩) L cap) := by rw [hw1, World.cell?_alloc_lt _ _ ⟨w.heap.size, 0, none⟩ (by simp), World.cell?_alloc_at _ _ _ _ rfl]; rfl
  have c1 : w1.cell? ⟨w.heap.size, 1, none⟩ = some (.slice sa T sc) := by rw [hw1, World.cell?_alloc_lt _ _ ⟨w.heap.size, 1, none⟩ (by simp), World.cell?_alloc_at _ _ _ _ rfl]; rfl
  have c2 : w1.cell? ⟨w.heap.size + 1, 0, none⟩ = some (.int .i64 0) := by rw [hw1, World.cell?_alloc_at _ _ _ _ (by simp)]; rfl
  have c3 : w1.cell? ⟨w.heap.size + 1, 1, none⟩ = some (.int .i64 0) := by rw [hw1, World.cell?_alloc_at _ _ _ _ (by simp)]; rfl
  have c4 : w1.frozen? ⟨w.heap.size + 1, 0, none⟩ = false := by rw [hw1]; exact frozen_new (by simp)
  have c5 : w1.frozen? ⟨w.heap.size + 1, 1, none⟩ = false := by rw [hw1]; exact frozen_new (by simp)
  have hsz : w.heap.size + 1 < w1.heap.size := by rw [hw1]; simp
  have HSZ := Hid.mk' hsz
  have HC : Hid (∀ W, Below w1.heap.size w1 W → (W.cell? ⟨w.heap.size, 0, none⟩ = some (.slice (some ⟨b, o, none⟩) L cap) ∧ W.cell? ⟨w.heap.size, 1, none⟩ = some (.slice sa T sc)) ∧ (W.cell? ⟨w.heap.size + 1, 0, none⟩ = some (.int .i64 0) ∧ W.cell? ⟨w.heap.size + 1, 1, none⟩ = some (.int .i64 0)) ∧ W.frozen? ⟨w.heap.size + 1, 0, none⟩ = false ∧ W.frozen? ⟨w.heap.size + 1, 1, none⟩ = false) := fun W hb => ⟨⟨by rw [hb.cell (cell_lt c0)]; exact c0, by rw [hb.cell (cell_lt c1)]; exact c1⟩, ⟨by rw [hb.cell (cell_lt c2)]; exact c2, by rw [hb.cell (cell_lt c3)]; exact c3⟩, by rw [hb.frozen (show w.heap.size + 1 < w1.heap.size from hsz)]; exact c4, by rw [hb.frozen (show w.heap.size + 1 < w1.heap.size from hsz)]; exact c5⟩
  have HEND : Hid (∀ W, Below w1.heap.size w1 W → Below w.heap.size w W) := fun W hb => hb1.trans (hb.mono hb1.size)
  have HW1 := Hid.mk' hw1
  have HVA := Hid.mk' (heatValid_any a _ L vs ns W _ T tv R rv rn P w1 (hE.below hb1) (h.later hb1) (hS.later hb1) hL hns hT hR)
  have HWT : Hid (∀ t, t < L → ∃ rb ro rc, ∀ W', Below w1.heap.size w1 W' → W'.cell? ⟨b, o + t, none⟩ = some (.slice (some ⟨rb, ro, none⟩) (ns 0) rc) ∧ RowAt W' rb ro (ns 0) (fun i => ((nU W t i : Nat) : Int))) := fun t ht => by
    obtain ⟨h1, h2⟩ := hr t ht
    rw [hOK.hn t ht] at h2
    obtain ⟨rb, ro, rc, h3, h4⟩ := row_of h2 hOK.n0
    refine ⟨rb, ro, rc, fun W' hb => ⟨by rw [(HEND.out W' hb).cell (cell_lt h1), h1, h3], fun i hi => ?_⟩⟩
    have := h4.later (HEND.out W' hb) i hi
    rw [hOK.u_cast ht hi] at this
    exact this
  have HST : Hid (∀ t, t < T → ∃ sb so tb t0 tc, sa = some ⟨sb, so, none⟩ ∧ ∀ W', Below w1.heap.size w1 W' → W'.cell? ⟨sb, so + t, none⟩ = some (.slice (some ⟨tb, t0, none⟩) (ns 0) tc) ∧ ∀ i, i < ns 0 → ∃ rb ro rc, W'.cell? ⟨tb, t0 + i, none⟩ = some (.slice (some ⟨rb, ro, none⟩) (ns 0) rc) ∧ RowAt W' rb ro (ns 0) (fun k => ((nQ P t i k : Nat) : Int))) := fun t ht => by
    obtain ⟨sb, so, rfl, hst⟩ := hS.at ht
    obtain ⟨h1, h2⟩ := hst t ht
    rw [hOK.hR t ht] at h2
    obtain ⟨tb, t0, tc, h3, h4⟩ := tab_of h2 hOK.n0
    refine ⟨sb, so, tb, t0, tc, rfl, fun W' hb => ⟨by rw [(HEND.out W' hb).cell (cell_lt h1), h1, h3], fun i hi => ?_⟩⟩
    obtain ⟨h5, h6⟩ := h4 i hi
    rw [hOK.hrn t i ht hi] at h6
    obtain ⟨rb, ro, rc, h7, h8⟩ := row_of h6 hOK.n0
    refine ⟨rb, ro, rc, by rw [(HEND.out W' hb).cell (cell_lt h5), h5, h7], fun k hk => ?_⟩
    have := h8.later (HEND.out W' hb) k hk
    rw [hOK.q_cast ht hi hk] at this
    exact this
  have HE : Hid (∀ W', Below w1.heap.size w1 W' → Errs W' a) := fun W' hb => (hE.below hb1).below hb
  have HOK := Hid.mk' hOK
  have hn0 := hOK.n0
  have hn4 := hOK.n4
  have hTI : (T : Int) ≤ 4 := by omega
  have hLI : (L : Int) ≤ 5 := by omega
  have hL0 : (0 : Int) < (L : Int) := by omega
  have HPZ := Hid.mk' hz
  have hLa : T + 1 ≤ L := by omega
  have hLb : L ≤ T + 1 := by omega
  clear hE h hS hb1 hw1 hsz hns hL hT hR c2 c3 c4 c5 hr hOK hz hL4
  generalize ns 0 = n at *
  obtain ⟨S, hSe⟩ : ∃ S, S = smU (nU W 0) n := ⟨_, rfl⟩
  have HSP : Hid (0 < S ∧ S ≤ 4000) := by rw [hSe]; exact HOK.out.s_bd (by omega)
  have HSE := Hid.mk' hSe
  rw [← hSe]
  clear hSe
  obtain ⟨rb, ro, rc, hrow⟩ := HWT.out 0 (by omega)
  have HR0 := Hid.mk' hrow
  clear hrow
  go_enter Tryz.func14, Tryz.ntmps14
  go_upto_region 1 with fail
  rw [← HW1.out]
  go_wp2_with fail
  refine HVA.out.mono ?_
  rintro e w2 ⟨x, rfl, hx, hb2⟩
  obtain rfl := hx.nil0 HPZ.out
  have HB2 := Hid.mk' hb2
  clear hx hb2 HVA c0 c1 HPZ
  obtain ⟨⟨c0, c1⟩, _⟩ := HC.out _ HB2.out
  obtain ⟨d0, d1⟩ := HR0.out _ HB2.out
  rw [Nat.add_zero] at d0
  have HSO := Hid.mk' (start_any n rb ro rc (nU W 0) w2 d1 hn0 hn4 (fun i hi => by have := (HOK.out.u_bd (t := 0) (by omega) hi).2; omega))
  clear d1 HR0
  go_wp2_with fail
  refine HSO.out.mono ?_
  rintro e w3 ⟨g1, y, rfl, ⟨F1, hN1⟩, hy, hge, hb3⟩
  obtain ⟨ya, yl, yc, rfl⟩ := hy.isSlice
  rw [← HSE.out] at hy
  have hgl : g1 < w3.heap.size := cell_lt (hN1.row.row 0 hn0)
  have HB3 := Hid.mk' (below_chain HB2.out hb3)
  have h9 : Below w3.heap.size w3 (w3.alloc (.cells #[.slice (some ⟨g1, 0, none⟩) n n, .slice ya yl yc] 77)) := (Below.refl _ _).alloc (Nat.le_refl _) _
  have HNO : Hid (NowS w1 (w3.alloc (.cells #[.slice (some ⟨g1, 0, none⟩) n n, .slice ya yl yc] 77)) w3.heap.size n S 0 (nU W 0) g1 (.slice ya yl yc) S F1 (nU W 0)) := ⟨below_chain HB3.out h9, HB3.out.size, by omega, by simp, by simp, by simp, by simp, hy.later h9, hN1.later h9, fun i _ => rfl, HSP.out.1, Nat.le_trans HSP.out.2 (by decide)⟩
  obtain ⟨B, hB⟩ : ∃ B, B = w3.heap.size := ⟨_, rfl⟩
  clear hN1 hy hge hb3 hgl h9 HSO c0 c1 d0 HB2
  go_upto_region 5 with fail
  rw [← hB] at HNO ⊢
  clear hB
  generalize w3.alloc (.cells #[.slice (some ⟨g1, 0, none⟩) n n, .slice ya yl yc] 77) = wc at *
  obtain ⟨⟨c0, c1⟩, _⟩ := HC.out _ HNO.out.below
  go_wp2_with fail
  clear c0 c1
  go_loopw [24] (fun t wr => ∃ (t' g1 : Nat) (ya : Option Addr) (yl yc E : Nat) (F1 : Nat → Value) (X : Nat → Nat), t' ≤ T ∧ t = .int .i64 t' ∧ Hid (NowS w1 wr B n S t' (nU W t') g1 (.slice ya yl yc) E F1 X)) (fun t _ => T - (intOf t).toNat)
  case atStart => exact ⟨0, g1, ya, yl, yc, S, F1, nU W 0, Nat.zero_le _, rfl, HNO⟩
  case round =>
    clear HNO
    obtain ⟨t, g1, ya, yl, yc, E, F1, X, ht, rfl, HNO⟩ := hrel
    rcases Nat.lt_or_ge t T with h1 | h1
    · have htI : (t : Int) < (T : Int) := by omega
      have ht0 : (0 : Int) ≤ (t : Int) := by omega
      have htL : (t : Int) < (L : Int) := by omega
      have htL1 : (t : Int) + 1 < (L : Int) := by omega
      have htw : IntKind.i64.wrap ((t : Int) + 1) = (t : Int) + 1 := by rw [IntKind.wrap_i64]; omega
      have htp : (0 : Int) ≤ (t : Int) + 1 := by omega
      have htn : ((t : Int) + 1).toNat = t + 1 := by omega
      obtain ⟨rb, ro, rc, hro⟩ := HWT.out t (by omega)
      obtain ⟨qb, qo, qc, hqo⟩ := HWT.out (t + 1) (by omega)
      obtain ⟨sb, so, tb, t0, tc, rfl, hto⟩ := HST.out t h1
      have HRO := Hid.mk' hro
      have HQO := Hid.mk' hqo
      have HTO := Hid.mk' hto
      clear hro hqo hto
      have HSM := Hid.mk' (round_sml (v := nU W (t + 1)) (q := nQ P t) (R := fun i => smU (nQ P t i) n) HNO.out.car HSP.out.1 hn4 (by omega) HNO.out.bd (fun i hi => by have := (HOK.out.u_bd (t := t) (by omega) hi).2; omega) (fun i hi => by have := (HOK.out.u_bd (t := t + 1) (by omega) hi).2; omega) (fun i hi => (HOK.out.r_bd h1 hi).2) (fun i k hi hk => HOK.out.q_bd h1 hi hk))
      have HBW : Hid (∀ W, Below wr.heap.size wr W → Below w1.heap.size w1 W) := fun W hb => (HNO.out.later hb).below
      have HGA : Hid (∀ W', Below wr.heap.size wr W' → Calls Tryz.prog 34 #[.agg #[.slice (some ⟨g1, 0, none⟩) n n, .slice ya yl yc], .slice (some ⟨rb, ro, none⟩) n rc, .slice (some ⟨qb, qo, none⟩) n qc] W' fun e w' => ∃ g' y, e = .returned (.agg #[.slice (some ⟨g', 0, none⟩) n n, y]) ∧ (∃ F', NtsAt w' g' n F' (fun i => X i * prdX (nU W t) i n * nU W (t + 1) i)) ∧ NatAt w' y (E * prdU (nU W t) n) ∧ W'.heap.size ≤ g' ∧ Below W'.heap.size W' w') := fun W' hb => gain_any n g1 F1 X _ E rb ro rc (nU W t) qb qo qc (nU W (t + 1)) W' (HNO.out.later hb).nts (HNO.out.later hb).nd (HRO.out W' (HBW.out W' hb)).2 (HQO.out W' (HBW.out W' hb)).2 hn0 hn4 (fun i hi => by have := (HOK.out.u_bd (t := t) (by omega) hi).2; omega) (fun i hi => by have := (HOK.out.u_bd (t := t + 1) (by omega) hi).2; omega) HSM.out.1 HSM.out.2.1
      have HSG : Hid (∀ W' g' F' y, Below wr.heap.size wr W' → NtsAt W' g' n F' (fun i => X i * prdX (nU W t) i n * nU W (t + 1) i) → NatAt W' y (E * prdU (nU W t) n) → Calls Tryz.prog 35 #[.agg #[.slice (some ⟨g', 0, none⟩) n n, y], .slice (some ⟨tb, t0, none⟩) n tc] W' fun e w' => ∃ g' y, e = .returned (.agg #[.slice (some ⟨g', 0, none⟩) n n, y]) ∧ (∃ F', NtsAt w' g' n F' (fun k => smU (fun j => X j * prdX (nU W t) j n * nU W (t + 1) j * prdX (fun i => smU (nQ P t i) n) j n * nQ P t j k) n)) ∧ NatAt w' y (E * prdU (nU W t) n * prdU (fun i => smU (nQ P t i) n) n) ∧ W'.heap.size ≤ g' ∧ Below W'.heap.size W' w') := fun W' g' F' y hb hN hD => step_any n g' F' _ y _ tb t0 tc (nQ P t) (fun i => smU (nQ P t i) n) W' hN hD (HTO.out W' (HBW.out W' hb)).2 (fun _ _ => rfl) hn0 hn4 (fun i hi => (HOK.out.r_bd h1 hi).2) HSM.out.2.2.1 HSM.out.2.2.2.1 HSM.out.2.2.2.2.1
      have HKS : Hid (∀ W, Below wr.heap.size wr W → W.cell? ⟨B, 0, none⟩ = some (.slice (some ⟨g1, 0, none⟩) n n) ∧ W.cell? ⟨B, 1, none⟩ = some (.slice ya yl yc) ∧ W.cell? ⟨w.heap.size, 0, none⟩ = some (.slice (some ⟨b, o, none⟩) L cap) ∧ W.cell? ⟨w.heap.size, 1, none⟩ = some (.slice (some ⟨sb, so, none⟩) T sc) ∧ W.cell? ⟨b, o + t, none⟩ = some (.slice (some ⟨rb, ro, none⟩) n rc) ∧ W.cell? ⟨b, o + (t + 1), none⟩ = some (.slice (some ⟨qb, qo, none⟩) n qc) ∧ W.cell? ⟨sb, so + t, none⟩ = some (.slice (some ⟨tb, t0, none⟩) n tc)) := fun W hb => ⟨(HNO.out.later hb).c0, (HNO.out.later hb).c1, (HC.out W (HBW.out W hb)).1.1, (HC.out W (HBW.out W hb)).1.2, (HRO.out W (HBW.out W hb)).1, (HQO.out W (HBW.out W hb)).1, (HTO.out W (HBW.out W hb)).1⟩
      have hcur : Below wr.heap.size wr wr.drew := (Below.refl _ _).drew
      have HCN : Hid (Car n S (nU W (t + 1)) (fun k => smU (fun j => X j * prdX (nU W t) j n * nU W (t + 1) j * prdX (fun i => smU (nQ P t i) n) j n * nQ P t j k) n) (E * prdU (nU W t) n * prdU (fun i => smU (nQ P t i) n) n)) := car_step (car_gain HNO.out.car) (HOK.out.balN h1) (fun k hk => (HOK.out.r_bd h1 hk).1)
      have HPN : Hid (0 < E * prdU (nU W t) n * prdU (fun i => smU (nQ P t i) n) n) := Nat.mul_pos (Nat.mul_pos HNO.out.pos (prdU_pos (fun i hi => (HOK.out.u_bd (t := t) (by omega) hi).1))) (prdU_pos (fun i hi => (HOK.out.r_bd h1 hi).1))
      go_upto_region 8 with fail
      refine region_but_last (n := 19) (S := fun W => W.cell? ⟨B, 0, none⟩ = some (.slice (some ⟨g1, 0, none⟩) n n) ∧ W.cell? ⟨B, 1, none⟩ = some (.slice ya yl yc) ∧ W.cell? ⟨w.heap.size, 0, none⟩ = some (.slice (some ⟨b, o, none⟩) L cap) ∧ W.cell? ⟨w.heap.size, 1, none⟩ = some (.slice (some ⟨sb, so, none⟩) T sc) ∧ W.cell? ⟨b, o + t, none⟩ = some (.slice (some ⟨rb, ro, none⟩) n rc) ∧ W.cell? ⟨b, o + (t + 1), none⟩ = some (.slice (some ⟨qb, qo, none⟩) n qc) ∧ W.cell? ⟨sb, so + t, none⟩ = some (.slice (some ⟨tb, t0, none⟩) n tc)) (by kernel_rfl) (by kernel_rfl) (by kernel_rfl) (HKS.out _ hcur) (fun hHeld => ?_)
      refine wpAnyH_take (i := 0) (v := ?v0c) rfl (by kernel_rfl) (by kernel_rfl) (by kernel_rfl) (fun _ _ _ h => h) (Or.inl ⟨by rfl, ?hy0c⟩) (by assumption) ?rest0c
      case hy0c => (intro w hSw; (try dsimp only at hSw); go_simp <;> (try with_reducible rfl))
      simp only [Act.put]
      refine wpAnyH_take (i := 1) (v := ?v1c) rfl (by kernel_rfl) (by kernel_rfl) (by kernel_rfl) (fun _ _ _ h => h) (Or.inl ⟨by rfl, ?hy1c⟩) (by assumption) ?rest1c
      case hy1c => (intro w hSw; (try dsimp only at hSw); go_simp <;> (try with_reducible rfl))
      simp only [Act.put]
      refine wpAnyH_take (i := 2) (v := ?v2c) rfl (by kernel_rfl) (by kernel_rfl) (by kernel_rfl) (fun _ _ _ h => h) (Or.inl ⟨by rfl, ?hy2c⟩) (by assumption) ?rest2c
      case hy2c => (intro w hSw; (try dsimp only at hSw); go_simp <;> (try with_reducible rfl))
      simp only [Act.put]
      refine wpAnyH_take (i := 3) (v := ?v3c) rfl (by kernel_rfl) (by kernel_rfl) (by kernel_rfl) (fun _ _ _ h => h) (Or.inl ⟨by rfl, ?hy3c⟩) (by assumption) ?rest3c
      case hy3c => (intro w hSw; (try dsimp only at hSw); go_simp <;> (try with_reducible rfl))
      simp only [Act.put]
      refine wpAnyH_take (i := 4) (v := ?v4c) rfl (by kernel_rfl) (by kernel_rfl) (by kernel_rfl) (fun _ _ _ h => h) (Or.inl ⟨by rfl, ?hy4c⟩) (by assumption) ?rest4c
      case hy4c => (intro w hSw; (try dsimp only at hSw); go_simp <;> (try with_reducible rfl))
      simp only [Act.put]
      refine wpAnyH_take (i := 5) (v := ?v5c) rfl (by kernel_rfl) (by kernel_rfl) (by kernel_rfl) (fun _ _ _ h => h) (Or.inl ⟨by rfl, ?hy5c⟩) (by assumption) ?rest5c
      case hy5c => (intro w hSw; (try dsimp only at hSw); go_simp <;> (try with_reducible rfl))
      simp only [Act.put]
      refine wpAnyH_take (i := 6) (v := ?v6c) rfl (by kernel_rfl) (by kernel_rfl) (by kernel_rfl) (fun _ _ _ h => h) (Or.inl ⟨by rfl, ?hy6c⟩) (by assumption) ?rest6c
      case hy6c => (intro w hSw; (try dsimp only at hSw); go_simp <;> (try with_reducible rfl))
      simp only [Act.put]
      refine wpAnyH_take (i := 7) (v := ?v7c) rfl (by kernel_rfl) (by kernel_rfl) (by kernel_rfl) (fun _ _ _ h => h) (Or.inl ⟨by rfl, ?hy7c⟩) (by assumption) ?rest7c
      case hy7c => (intro w hSw; (try dsimp only at hSw); go_simp <;> (try with_reducible rfl))
      simp only [Act.put]
      refine wpAnyH_take (i := 8) (v := ?v8c) rfl (by kernel_rfl) (by kernel_rfl) (by kernel_rfl) (fun _ _ _ h => h) (Or.inl ⟨by rfl, ?hy8c⟩) (by assumption) ?rest8c
      case hy8c => (intro w hSw; (try dsimp only at hSw); go_simp <;> (try with_reducible rfl))
      simp only [Act.put]
      refine wpAnyH_take (i := 9) (v := ?v9c) rfl (by kernel_rfl) (by kernel_rfl) (by kernel_rfl) (fun _ _ _ h => h) (Or.inl ⟨by rfl, ?hy9c⟩) (by assumption) ?rest9c
      case hy9c => (intro w hSw; (try dsimp only at hSw); go_simp <;> (try with_reducible rfl))
      simp only [Act.put]
      refine wpAnyH_take (i := 10) (v := ?v10c) rfl (by kernel_rfl) (by kernel_rfl) (by kernel_rfl) (fun _ _ _ h => h) (Or.inl ⟨by rfl, ?hy10c⟩) (by assumption) ?rest10c
      case hy10c => (intro w hSw; (try dsimp only at hSw); go_simp <;> (try with_reducible rfl))
      simp only [Act.put]
      refine wpAnyH_take (i := 11) (v := ?v11c) rfl (by kernel_rfl) (by kernel_rfl) (by kernel_rfl) (fun _ _ _ h => h) (Or.inl ⟨by rfl, ?hy11c⟩) (by assumption) ?rest11c
      case hy11c => (intro w hSw; (try dsimp only at hSw); go_simp <;> (try with_reducible rfl))
      simp only [Act.put]
      refine wpAnyH_take (i := 13) (v := ?v13c) rfl (by kernel_rfl) (by kernel_rfl) (by kernel_rfl) (fun _ _ _ h => h) (Or.inl ⟨by rfl, ?hy13c⟩) (by assumption) ?rest13c
      case hy13c => (intro w hSw; (try dsimp only at hSw); go_simp <;> (try with_reducible rfl))
      simp only [Act.put]
      refine wpAnyH_take (i := 14) (v := ?v14c) rfl (by kernel_rfl) (by kernel_rfl) (by kernel_rfl) (fun _ _ _ h => h) (Or.inl ⟨by rfl, ?hy14c⟩) (by assumption) ?rest14c
      case hy14c => (intro w hSw; (try dsimp only at hSw); go_simp <;> (try with_reducible rfl))
      simp only [Act.put]
      refine wpAnyH_take (i := 15) (v := ?v15c) rfl (by kernel_rfl) (by kernel_rfl) (by kernel_rfl) (fun _ _ _ h => h) (Or.inl ⟨by rfl, ?hy15c⟩) (by assumption) ?rest15c
      case hy15c => (intro w hSw; (try dsimp only at hSw); go_simp <;> (try with_reducible rfl))
      simp only [Act.put]
      refine wpAnyH_take (i := 16) (v := ?v16c) rfl (by kernel_rfl) (by kernel_rfl) (by kernel_rfl) (fun _ _ _ h => h) (Or.inl ⟨by rfl, ?hy16c⟩) (by assumption) ?rest16c
      case hy16c => (intro w hSw; (try dsimp only at hSw); go_simp <;> (try with_reducible rfl))
      simp only [Act.put]
      refine wpAnyH_take (i := 17) (v := ?v17c) rfl (by kernel_rfl) (by kernel_rfl) (by kernel_rfl) (fun _ _ _ h => h) (Or.inl ⟨by rfl, ?hy17c⟩) (by assumption) ?rest17c
      case hy17c => (intro w hSw; (try dsimp only at hSw); go_simp <;> (try with_reducible rfl))
      simp only [Act.put]
      refine wpAnyH_ready (rs := [12]) (by kernel_rfl) (by simp) ?_
      refine AllReadyH.cons rfl (fun K hK => ?_) AllReadyH.nil
      go_simp
      refine (HGA.out _ hcur).mono ?_
      rintro e w5 ⟨g2, y2, rfl, ⟨F2, hN2⟩, hy2, hge2, hb5⟩
      obtain ⟨za, zl, zc, rfl⟩ := hy2.isSlice
      have hcur := below_chain hcur hb5
      have HN2 := Hid.mk' hN2
      have HY2 := Hid.mk' hy2
      clear hN2 hy2 hge2 hb5
      go_wp2_with fail
      refine hK.out _ _ ?_ (fun hHeld => ?_)
      · exact HKS.out _ hcur
      clear hK K
      refine wpAnyH_ready (rs := [18]) (by kernel_rfl) (by simp) ?_
      refine AllReadyH.cons rfl (fun K hK => ?_) AllReadyH.nil
      go_simp
      refine (HSG.out _ _ _ _ hcur HN2.out HY2.out).mono ?_
      rintro e w6 ⟨g3, y3, rfl, ⟨F3, hN3⟩, hy3, hge3, hb6⟩
      obtain ⟨ua, ul, uc, rfl⟩ := hy3.isSlice
      have hBl : B < w5.heap.size := Nat.lt_of_lt_of_le (cell_lt HNO.out.c0) hcur.size
      have hcur := below_chain hcur hb6
      have HO9 := Hid.mk' ((HNO.out.later hcur).put (t' := t + 1) (u' := nU W (t + 1)) (g' := g3) (by omega) hN3 hy3 HCN.out HPN.out HSM.out.2.2.2.2.2)
      have z0 := (HNO.out.later hcur).c0
      have z1 := (HNO.out.later hcur).c1
      have z2 := (HNO.out.later hcur).f0
      have z3 := (HNO.out.later hcur).f1
      obtain ⟨z4, z5, z6⟩ := put_two (.slice (some ⟨g3, 0, none⟩) n n) (.slice ua ul uc) z0 z1
      clear hN3 hy3 hge3 hb6 hBl
      go_wp2_with fail
      refine hK.out _ _ ?_ (fun hHeld => ?_)
      · exact HKS.out _ hcur
      clear hK K
      refine wpAnyH_done (by kernel_rfl) ?_ _
      refine ahead_last rfl (fun K hK => ?_)
      go_simp
      refine hK _ _ ?_
      clear hK K
      clear HGA HSG HKS z0 z1 z2 z3 z4 z5 z6 hHeld HNO hcur HCN HPN HN2 HY2 HSM HBW
      go_wp2_with fail
      exact ⟨⟨t + 1, g3, ua, ul, uc, _, F3, _, h1, by go_num, HO9⟩, by simp [intOf]; omega⟩
    · obtain rfl : t = T := by omega
      have htI : ¬ ((t : Int) < (t : Int)) := by omega
      have HES := Hid.mk' (end_sml HNO.out.car HSP.out.1 hn4 (Nat.le_trans HNO.out.bd (bdT_le (by omega))) (fun i hi => by have := (HOK.out.u_bd (t := t) (by omega) hi).2; omega))
      have HTS : Hid (toldV a (smU X n) E = toldV a (smU (nU W t) n) S) := (told_same (a := a) HNO.out.pos HSP.out.1 (car_sum HNO.out.car)).2.2
      have HTV : Hid (toldV a (smU (nU W t) n) S = .tuple #[.agg #[.int .i64 ((smU (nU W t) n / Nat.gcd (smU (nU W t) n) S : Nat) : Int), .int .i64 ((S / Nat.gcd (smU (nU W t) n) S : Nat) : Int)], .nilIface]) := by
        have hs1 := (HOK.out.s_bd (t := t) (by omega)).2
        have hs2 := HSP.out.2
        have hs3 := Nat.div_le_self (smU (nU W t) n) (Nat.gcd (smU (nU W t) n) S)
        have hs4 := Nat.div_le_self S (Nat.gcd (smU (nU W t) n) S)
        exact if_pos ⟨by omega, by omega⟩
      obtain ⟨W4, hW4⟩ : ∃ W4, W4 = wr := ⟨_, rfl⟩
      rw [← hW4] at HNO ⊢
      clear hW4
      go_wp2_with fail
      refine (NatOf_zeroH _).mono ?_
      rintro e w9 ⟨rfl, hw9⟩
      rw [hw9]
      clear hw9
      have k0 := HNO.out.c0
      go_wp2_with fail
      clear k0
      go_loopw [7, 51] (fun s i wr => ∃ (k : Nat) (pa : Option Addr) (pl pc : Nat), k ≤ n ∧ s = .slice pa pl pc ∧ i = .int .i64 k ∧ Hid (NatAt wr (.slice pa pl pc) (smU X k)) ∧ Hid (Below W4.heap.size W4 wr)) (fun _ i _ => n - (intOf i).toNat)
      case atStart => exact ⟨0, _, _, _, Nat.zero_le _, rfl, rfl, natAt_nilH _, Below.refl _ _⟩
      case round =>
        obtain ⟨k, pa, pl, pc, hk, rfl, rfl, HS, HB⟩ := hrel
        rcases Nat.lt_or_ge k n with h2 | h2
        · have hkI : (k : Int) < (n : Int) := by omega
          have hk0 : (0 : Int) ≤ (k : Int) := by omega
          have hnI : (n : Int) ≤ 4 := by omega
          have k1 := (HNO.out.later HB.out).nts.row.row k h2
          obtain ⟨fa, fl, fc, hfe⟩ := (HNO.out.nts.nat k h2).isSlice
          have HPL := Hid.mk' (Plus_any (.slice pa pl pc) (F1 k) (smU X k) (X k) 12 wr HS.out ((HNO.out.later HB.out).nts.nat k h2) (HES.out.2.1 k hk) (HES.out.2.2 k h2) (by decide))
          rw [hfe] at k1 HPL
          clear hfe
          go_wp2_with fail
          refine HPL.out.mono ?_
          rintro e w5 ⟨r, rfl, hr5, hb5⟩
          obtain ⟨ra, rl, rc', rfl⟩ := hr5.isSlice
          have HR5 : Hid (NatAt w5 (.slice ra rl rc') (smU X (k + 1))) := hr5
          have HB5 := Hid.mk' (below_chain HB.out hb5)
          clear hr5 hb5 HPL k1
          go_wp2_with fail
          exact ⟨⟨k + 1, ra, rl, rc', h2, rfl, by go_num, HR5, HB5⟩, by simp [intOf]; omega⟩
        · obtain rfl : k = n := by omega
          have hkI : ¬ ((k : Int) < (k : Int)) := by omega
          have HNL := Hid.mk' (HNO.out.later HB.out)
          have k1 := HNL.out.c1
          have HTD := Hid.mk' (Told_any a (.slice pa pl pc) (.slice ya yl yc) (smU X k) E 12 wr (HE.out wr HNL.out.below) HS.out HNL.out.nd HNL.out.pos (HES.out.2.1 k (Nat.le_refl _)) HES.out.1 (by decide))
          rw [HTS.out, HTV.out] at HTD
          obtain ⟨NN, hNN⟩ : ∃ NN : Int, NN = ((smU (nU W t) k / Nat.gcd (smU (nU W t) k) S : Nat) : Int) := ⟨_, rfl⟩
          obtain ⟨DD, hDD⟩ : ∃ DD : Int, DD = ((S / Nat.gcd (smU (nU W t) k) S : Nat) : Int) := ⟨_, rfl⟩
          rw [← hNN, ← hDD] at HTD
          have HNN := Hid.mk' hNN
          have HDD := Hid.mk' hDD
          clear hNN hDD
          go_wp2_with fail
          refine HTD.out.mono ?_
          rintro e w5 ⟨rfl, hb5⟩
          have HB5 := Hid.mk' (below_chain HNL.out.below hb5)
          clear hb5 HTD k1
          obtain ⟨_, ⟨d2, d3⟩, d4, d5⟩ := HC.out _ HB5.out
          have HBE : Hid (Below w.heap.size w ((w5.setCell ⟨w.heap.size + 1, 0, none⟩ (.int .i64 NN)).setCell ⟨w.heap.size + 1, 1, none⟩ (.int .i64 DD))) := ((HEND.out _ HB5.out).setCell (by simp) _).setCell (by simp) _
          have HG := Hid.mk' (put_two (.int .i64 NN) (.int .i64 DD) d2 d3)
          obtain ⟨q0, _, _⟩ := HG.out
          go_wp2_with fail
          generalize (w5.setCell ⟨w.heap.size + 1, 0, none⟩ (.int .i64 NN)).setCell ⟨w.heap.size + 1, 1, none⟩ (.int .i64 DD) = W9 at *
          exact bodyPost_ret (v := .tuple #[.agg #[.int .i64 NN, .int .i64 DD], .nilIface]) (by simp [results, Tryz.results14, go_sem, HG.out.2.1, HG.out.2.2]) rfl ⟨by rw [HNN.out, HDD.out], HBE.out⟩
end Go.Proofs.YthomgmhmbalnbaaGreatDoor

/- What stands at the head of all Heat laws: still, a closed fact; brief: a process of which something is said. -/
namespace Go.Proofs.YthomgmhmbalnbaaGreatDoor
open Go.RowKit

theorem still_err : prF 1 (fun _ => 2) (fun _ i => if i = 0 then 1 else 3) 0 (fun _ => 0) (fun _ _ => 0) (fun _ _ _ => 0) = (0, -1) := by decide +kernel
theorem still_sum : smU (nU (fun _ i => if i = 0 then 1 else 3) 0) 2 = 4 := by decide +kernel

set_option maxRecDepth 100000 in
set_option maxHeartbeats 4000000 in
theorem still_any (a : Nat → Addr) (w : World) (hE : Errs w a) :
    Calls Tryz.prog 6 #[] w fun e w' => e = .returned (.bool true) ∧ Below w.heap.size w w' := by
  obtain ⟨W0, hW0⟩ : ∃ W0, W0 = (w.alloc (.cells #[.int .i64 1, .int .i64 3] 3)).alloc (.cells #[.slice (some ⟨w.heap.size, 0, none⟩) 2 2] 41) := ⟨_, rfl⟩
  have hb0 : Below w.heap.size w W0 := by rw [hW0]; exact ((Below.refl _ _).alloc (Nat.le_refl _) _).alloc (by simp) _
  have hT : TabAt W0 (.slice (some ⟨w.heap.size + 1, 0, none⟩) 1 1) 1 (fun _ => .slice (some ⟨w.heap.size, 0, none⟩) 2 2) (fun _ => 2) (fun _ i => if i = 0 then 1 else 3) := by
    refine Or.inr ⟨_, 0, 1, rfl, by decide, fun i hi => ?_⟩
    obtain rfl : i = 0 := by omega
    refine ⟨by rw [hW0]; go_simp, Or.inr ⟨w.heap.size, 0, 2, rfl, by decide, fun k hk => ?_⟩⟩
    rw [hW0]
    have hk2 : k < 2 := hk
    rcases (show k = 0 ∨ k = 1 by omega) with rfl | rfl <;> go_simp
  have HA := Hid.mk' (Mean_ok a _ 1 _ (fun _ => 2) _ (.slice none 0 0) 0 (fun _ => .nilIface) (fun _ => 0) (fun _ _ => .nilIface) (fun _ _ => 0) (fun _ _ _ => 0) W0 (hE.below hb0) hT (Or.inl ⟨none, 0, rfl, rfl⟩) (by decide) (fun _ _ => by decide) (by decide) (fun t ht => by omega) (by rw [still_err]))
  rw [still_sum] at HA
  have HB0 := Hid.mk' hb0
  have HW0 := Hid.mk' hW0
  clear hE hb0 hT hW0
  have e1 : ((4 / Nat.gcd 4 4 : Nat) : Int) = 1 := by decide
  rw [e1] at HA
  clear e1
  go_enter Tryz.func6, Tryz.ntmps6
  go_wp2_with fail
  rw [← HW0.out]
  refine HA.out.mono ?_
  rintro e w2 ⟨rfl, hb2⟩
  have HB2 := Hid.mk' (below_chain HB0.out hb2)
  have hsz := HB2.out.size
  clear hb2 HA HW0 HB0
  go_wp2_with fail
  go_ret
  exact ⟨rfl, by first | exact HB2.out.alloc hsz _ | exact (HB2.out.alloc hsz _).drew⟩

def fwB (L : Nat) (ns : Nat → Nat) : Bool := decide (L ≤ 70) && decide (sumT ns L ≤ 600)
theorem fwB_iff (L : Nat) (ns : Nat → Nat) : fwB L ns = true ↔ L ≤ 70 ∧ sumT ns L ≤ 600 := by simp [fwB]
def brK (L : Nat) (ns : Nat → Nat) (R : Nat → Nat) (rn : Nat → Nat → Nat) : Nat → Bool
  | 0 => fwB L ns
  | k + 1 => brK L ns R rn k && fwB (R k) (rn k)
theorem brK_no {L : Nat} {ns R : Nat → Nat} {rn : Nat → Nat → Nat} {k : Nat} (h : brK L ns R rn k = false) : brK L ns R rn (k + 1) = false := by rw [brK, h]; rfl
theorem brK_all {L : Nat} {ns R : Nat → Nat} {rn : Nat → Nat → Nat} : ∀ {k : Nat}, brK L ns R rn k = true → (L ≤ 70 ∧ sumT ns L ≤ 600) ∧ ∀ t, t < k → R t ≤ 70 ∧ sumT (rn t) (R t) ≤ 600
  | 0, h => ⟨(fwB_iff _ _).1 h, fun t ht => by omega⟩
  | k + 1, h => by
    rw [brK, Bool.and_eq_true] at h
    obtain ⟨h1, h2⟩ := brK_all h.1
    refine ⟨h1, fun t ht => ?_⟩
    rcases Nat.lt_or_ge t k with h3 | h3
    · exact h2 t h3
    · obtain rfl : t = k := by omega
      exact (fwB_iff _ _).1 h.2
/-- Is something said of it? -/
def brB (L : Nat) (ns : Nat → Nat) (T : Nat) (R : Nat → Nat) (rn : Nat → Nat → Nat) : Bool := brK L ns R rn (min T 20) && decide (T ≤ 20)
theorem brB_all {L T : Nat} {ns R : Nat → Nat} {rn : Nat → Nat → Nat} (h : brB L ns T R rn = true) : (L ≤ 70 ∧ sumT ns L ≤ 600) ∧ T ≤ 20 ∧ ∀ t, t < T → R t ≤ 70 ∧ sumT (rn t) (R t) ≤ 600 := by
  unfold brB at h
  rw [Bool.and_eq_true, decide_eq_true_eq] at h
  obtain ⟨h1, h2⟩ := brK_all h.1
  exact ⟨h1, h.2, fun t ht => h2 t (by omega)⟩

set_option maxRecDepth 100000 in
set_option maxHeartbeats 4000000 in
theorem brief_any (v : Value) (L : Nat) (vs : Nat → Value) (ns : Nat → Nat) (W : Nat → Nat → Int) (sv : Value) (T : Nat) (tv : Nat → Value) (R : Nat → Nat) (rv : Nat → Nat → Value) (rn : Nat → Nat → Nat) (P : Nat → Nat → Nat → Int) (w : World) (h : TabAt w v L vs ns W) (hS : StpAt w sv T tv R rv rn P) (hL : L ≤ maxLen) (hs : sumT ns L ≤ 2000000) (hT : T ≤ maxLen) (hR : ∀ t, t < T → R t ≤ maxLen) (hrs : ∀ t, t < T → sumT (rn t) (R t) ≤ 2000000) :
    Calls Tryz.prog 7 #[.agg #[v, sv]] w fun e w' => e = .returned (.bool (brB L ns T R rn)) ∧ Below w.heap.size w w' := by
  obtain ⟨ad, cap, rfl⟩ := h.form
  obtain ⟨sa, sc, rfl⟩ := hS.form
  obtain ⟨w1, hw1⟩ : ∃ w1, w1 = w.alloc (.cells #[.slice ad L cap, .slice sa T sc] 25) := ⟨_, rfl⟩
  have hb1 : Below w.heap.size w w1 := by rw [hw1]; exact (Below.refl _ _).alloc (Nat.le_refl _) _
  have c0 : w1.cell? ⟨w.heap.size, 0, none⟩ = some (.slice ad L cap) := by rw [hw1]; go_simp
  have c1 : w1.cell? ⟨w.heap.size, 1, none⟩ = some (.slice sa T sc) := by rw [hw1]; go_simp
  have HC : Hid (∀ W', Below w1.heap.size w1 W' → W'.cell? ⟨w.heap.size, 1, none⟩ = some (.slice sa T sc)) := fun W' hb => by rw [hb.cell (cell_lt c1)]; exact c1
  have HEND : Hid (∀ W', Below w1.heap.size w1 W' → Below w.heap.size w W') := fun W' hb => hb1.trans (hb.mono hb1.size)
  have HFW := Hid.mk' (few_any _ L vs ns W w1 (h.later hb1) hL hs (fwB L ns) (fwB_iff L ns))
  have HST : Hid (∀ W', Below w1.heap.size w1 W' → StpAt W' (.slice sa T sc) T tv R rv rn P) := fun W' hb => hS.later (HEND.out W' hb)
  have HRM := Hid.mk' hR
  have HRS := Hid.mk' hrs
  have HW1 := Hid.mk' hw1
  have hTI : (T : Int) ≤ 9223372036854775807 := by unfold maxLen at hT; omega
  have HB0 : Hid (brK L ns R rn 0 = fwB L ns) := rfl
  clear h hS hb1 hw1 hR hrs hL hs hT
  go_enter Tryz.func7, Tryz.ntmps7
  go_upto_region 1 with fail
  rw [← HW1.out]
  go_wp2_with fail
  refine HFW.out.mono ?_
  rintro e w2 ⟨rfl, hb2⟩
  have HB2 := Hid.mk' hb2
  clear hb2 HFW c0 c1
  go_wp2_with fail
  go_loopw [3, 4] (fun s t wr => ∃ (k : Nat), k ≤ T ∧ k ≤ 20 ∧ t = .int .i64 k ∧ Hid (s = .bool (brK L ns R rn k)) ∧ Hid (Below w1.heap.size w1 wr)) (fun _ t _ => 20 - (intOf t).toNat)
  case atStart => exact ⟨0, Nat.zero_le _, by decide, rfl, by rw [HB0.out]; exact rfl, HB2⟩
  case round =>
    obtain ⟨k, hk, hk20, rfl, HS, HB⟩ := hrel
    have c1 := HC.out wr HB.out
    have hk0 : (0 : Int) ≤ (k : Int) := by omega
    obtain ⟨bk, hbk⟩ : ∃ bk, bk = brK L ns R rn k := ⟨_, rfl⟩
    have HBK := Hid.mk' hbk
    have hs := HS.out
    rw [← hbk] at hs
    clear hbk HS
    subst hs
    by_cases hc : k < T ∧ k < 20
    · have hkI : (k : Int) < (T : Int) := by omega
      have hkJ : (k : Int) < 20 := by omega
      obtain ⟨sb, so, rfl, hst⟩ := (HST.out wr HB.out).at hc.1
      obtain ⟨hcell, htab⟩ := hst k hc.1
      obtain ⟨ra, rc, hre⟩ := htab.form
      have HFK := Hid.mk' (few_any _ (R k) (rv k) (rn k) (P k) wr htab (HRM.out k hc.1) (HRS.out k hc.1) (fwB (R k) (rn k)) (fwB_iff _ _))
      rw [hre] at hcell HFK
      have HNX : Hid (brK L ns R rn (k + 1) = (brK L ns R rn k && fwB (R k) (rn k))) := rfl
      have HKT : Hid (k + 1 ≤ T ∧ k + 1 ≤ 20) := ⟨by omega, by omega⟩
      clear hst htab hre hc
      cases bk with
      | true =>
        go_wp2_with fail
        refine HFK.out.mono ?_
        rintro e w3 ⟨rfl, hb3⟩
        have HB3 := Hid.mk' (below_chain HB.out hb3)
        clear hb3 HFK c1
        have HSN : Hid (Value.bool (fwB (R k) (rn k)) = .bool (brK L ns R rn (k + 1))) := by show _ = _; rw [HNX.out, ← HBK.out]; rfl
        go_wp2_with fail
        exact ⟨⟨k + 1, HKT.out.1, HKT.out.2, by go_num, HSN, HB3⟩, by simp [intOf]; have := HKT.out.2; omega⟩
      | false =>
        have HSN : Hid (Value.bool false = .bool (brK L ns R rn (k + 1))) := by show _ = _; rw [brK_no HBK.out.symm]
        go_wp2_with fail
        exact ⟨⟨k + 1, HKT.out.1, HKT.out.2, by go_num, HSN, HB⟩, by simp [intOf]; have := HKT.out.2; omega⟩
    · have hmin : min T 20 = k := by omega
      have HR : Hid (brB L ns T R rn = (bk && decide ((T : Int) ≤ 20))) := by
        show _ = _
        unfold brB
        rw [hmin, HBK.out]
        congr 1
        by_cases h5 : T ≤ 20
        · rw [decide_eq_true h5, decide_eq_true (by omega)]
        · rw [decide_eq_false h5, decide_eq_false (by omega)]
      by_cases h6 : k < T
      · have hkI : (k : Int) < (T : Int) := by omega
        have hkJ : decide ((k : Int) < 20) = false := decide_eq_false (by omega)
        have hkJ2 : ¬ (k : Int) < 20 := by omega
        clear hmin hc h6
        cases bk with
        | true =>
          go_wp2_with fail
          go_ret
          exact ⟨by rw [HR.out]; rfl, HEND.out _ HB.out⟩
        | false =>
          go_wp2_with fail
          go_ret
          exact ⟨by rw [HR.out]; rfl, HEND.out _ HB.out⟩
      · have hkI : ¬ (k : Int) < (T : Int) := by omega
        have hkI2 : decide ((k : Int) < (T : Int)) = false := decide_eq_false hkI
        clear hmin hc h6
        cases bk with
        | true =>
          go_wp2_with fail
          go_ret
          exact ⟨by rw [HR.out]; rfl, HEND.out _ HB.out⟩
        | false =>
          go_wp2_with fail
          go_ret
          exact ⟨by rw [HR.out]; rfl, HEND.out _ HB.out⟩
end Go.Proofs.YthomgmhmbalnbaaGreatDoor

/- The law's copy of a process. -/
namespace Go.Proofs.YthomgmhmbalnbaaGreatDoor
open Go.RowKit

theorem Tryz.infoTab : (Tryz.prog.info? 22).map (fun i => (i.zero, i.size, i.bytes)) = some (some (.slice none 0 0), 1, 24) := by kernel_rfl
/-- A table of its own. -/
def OwnT (w : World) (base : Nat) (v : Value) (R : Nat) (vs : Nat → Value) (ns : Nat → Nat) (zs : Nat → Nat → Int) : Prop := w.ownsRow base 41 1 v R (rowV vs R) ∧ ∀ i, i < R → w.ownsRow base 3 1 (vs i) (ns i) (numCells (zs i) (ns i))
theorem OwnT.later {w w' : World} {base : Nat} {v : Value} {R : Nat} {vs : Nat → Value} {ns : Nat → Nat} {zs : Nat → Nat → Int} (h : OwnT w base v R vs ns zs) (hb : Below w.heap.size w w') : OwnT w' base v R vs ns zs := ⟨own_past h.1 hb, fun i hi => own_past (h.2 i hi) hb⟩
theorem OwnT.mono {w : World} {base b2 : Nat} {v : Value} {R : Nat} {vs : Nat → Value} {ns : Nat → Nat} {zs : Nat → Nat → Int} (h : OwnT w base v R vs ns zs) (hb : b2 ≤ base) : OwnT w b2 v R vs ns zs := ⟨h.1.mono hb, fun i hi => (h.2 i hi).mono hb⟩
theorem OwnT.beside {w w' : World} {b1 b2 : Nat} {v u : Value} {R m : Nat} {vs : Nat → Value} {ns : Nat → Nat} {zs : Nat → Nat → Int} {ys : List Value} (h : OwnT w b1 v R vs ns zs) (k : w.ownsRow b2 22 1 u m ys) (hg : w.grownBy w' u.ownBlock) : OwnT w' b1 v R vs ns zs := ⟨own_beside h.1 k (by decide) hg, fun i hi => own_beside (h.2 i hi) k (by decide) hg⟩
theorem OwnT.tab {w : World} {base : Nat} {v : Value} {R : Nat} {vs : Nat → Value} {ns : Nat → Nat} {zs : Nat → Nat → Int} (h : OwnT w base v R vs ns zs) : TabAt w v R vs ns zs := tabAt_of_row h.1 fun i hi => numsAt_own (h.2 i hi)
theorem own_put {w : World} {base B j : Nat} {e t : TypeId} {s n : Nat} {v y : Value} {xs : List Value} {cs : Array Value} {q : Nat × Nat} (h : w.ownsRow base e s v n xs) (hB : w.heap[B]? = some (.cells cs t q)) (ht : e ≠ t) : (w.setCell ⟨B, j, none⟩ y).ownsRow base e s v n xs := by
  obtain ⟨hl, hr⟩ := h
  refine ⟨hl, ?_⟩
  rcases hr with hr | ⟨g, cap, cur, hv, hb1, hh, rest⟩
  · exact Or.inl hr
  · refine Or.inr ⟨g, cap, cur, hv, hb1, ?_, rest⟩
    rw [Below.heap_setCell _ _ _ _ (fun e9 => ?_)]
    · exact hh
    · have e9' : g = B := e9
      rw [e9', hB] at hh
      simp at hh
      exact ht hh.2.1.symm
theorem own_low {w : World} {base : Nat} {e : TypeId} {s n : Nat} {v y : Value} {xs : List Value} {p : Addr} (h : w.ownsRow base e s v n xs) (hp : p.block < base) : (w.setCell p y).ownsRow base e s v n xs := by
  obtain ⟨hl, hr⟩ := h
  refine ⟨hl, ?_⟩
  rcases hr with hr | ⟨g, cap, cur, hv, hb1, hh, rest⟩
  · exact Or.inl hr
  · exact Or.inr ⟨g, cap, cur, hv, hb1, by rw [Below.heap_setCell _ _ _ _ (by omega)]; exact hh, rest⟩
theorem OwnT.put {w : World} {base B j : Nat} {v y : Value} {R : Nat} {vs : Nat → Value} {ns : Nat → Nat} {zs : Nat → Nat → Int} {cs : Array Value} {q : Nat × Nat} (h : OwnT w base v R vs ns zs) (hB : w.heap[B]? = some (.cells cs 32 q)) : OwnT (w.setCell ⟨B, j, none⟩ y) base v R vs ns zs := ⟨own_put h.1 hB (by decide), fun i hi => own_put (h.2 i hi) hB (by decide)⟩
theorem OwnT.low {w : World} {base : Nat} {v y : Value} {R : Nat} {vs : Nat → Value} {ns : Nat → Nat} {zs : Nat → Nat → Int} {p : Addr} (h : OwnT w base v R vs ns zs) (hp : p.block < base) : OwnT (w.setCell p y) base v R vs ns zs := ⟨own_low h.1 hp, fun i hi => own_low (h.2 i hi) hp⟩
theorem put_kind {w : World} {B j : Nat} {y : Value} {t : TypeId} (h : ∃ cs q, w.heap[B]? = some (.cells cs t q)) : ∃ cs q, (w.setCell ⟨B, j, none⟩ y).heap[B]? = some (.cells cs t q) := by
  obtain ⟨cs, q, h⟩ := h
  have hl : B < w.heap.size := heap_lt h
  have hg : w.heap[B] = .cells cs t q := by
    rw [Array.getElem?_eq_getElem hl] at h
    exact Option.some.inj h
  refine ⟨cs.setIfInBounds j y, q, ?_⟩
  simp [World.setCell, hl, Array.getElem_modify, hg]

/-- A process that is copied: so many steps are. -/
structure PcS (w1 wr : World) (B L T k : Nat) (wv u : Value) (ws : Nat → Value) (ns : Nat → Nat) (W : Nat → Nat → Int) (us : Nat → Value) (rs : Nat → Nat → Value) (R : Nat → Nat) (rn : Nat → Nat → Nat) (P : Nat → Nat → Nat → Int) : Prop where
  below : Below w1.heap.size w1 wr
  hB : w1.heap.size ≤ B
  c0 : wr.cell? ⟨B, 0, none⟩ = some wv
  c1 : wr.cell? ⟨B, 1, none⟩ = some u
  f1 : wr.frozen? ⟨B, 1, none⟩ = false
  bt : ∃ cs q, wr.heap[B]? = some (.cells cs 32 q)
  wt : OwnT wr w1.heap.size wv L ws ns W
  row : wr.ownsRow w1.heap.size 22 1 u k (rowV us k)
  tab : ∀ t, t < k → OwnT wr w1.heap.size (us t) (R t) (rs t) (rn t) (P t)
section
variable {w1 wr : World} {B L T k : Nat} {wv u : Value} {ws : Nat → Value} {ns : Nat → Nat} {W : Nat → Nat → Int} {us : Nat → Value} {rs : Nat → Nat → Value} {R : Nat → Nat} {rn : Nat → Nat → Nat} {P : Nat → Nat → Nat → Int}
theorem PcS.later (h : PcS w1 wr B L T k wv u ws ns W us rs R rn P) {wn : World} (hb : Below wr.heap.size wr wn) : PcS w1 wn B L T k wv u ws ns W us rs R rn P :=
  ⟨below_chain h.below hb, h.hB, by rw [hb.cell (cell_lt h.c0)]; exact h.c0, by rw [hb.cell (cell_lt h.c1)]; exact h.c1, by rw [hb.frozen (show B < wr.heap.size from cell_lt h.c1)]; exact h.f1, (by obtain ⟨cs, q, hq⟩ := h.bt; exact ⟨cs, q, by rw [hb.block B (heap_lt hq)]; exact hq⟩), h.wt.later hb, own_past h.row hb, fun t ht => (h.tab t ht).later hb⟩
theorem PcS.apart (h : PcS w1 wr B L T k wv u ws ns W us rs R rn P) : some B ≠ u.ownBlock := fun e => by
  obtain ⟨cs, q, hq⟩ := h.bt
  rcases h.row.2 with ⟨hu, _⟩ | ⟨g, cap, cur, hu, _, hh, _⟩
  · rw [hu] at e; cases e
  · rw [hu] at e
    obtain rfl : B = g := by simpa [Value.ownBlock] using e
    rw [hq] at hh
    simp at hh
/-- A step more. -/
theorem PcS.push (h : PcS w1 wr B L T k wv u ws ns W us rs R rn P) {x1 w8 : World} {X : Obj} {y : Value} {vs : Nat → Value} {g cap : Nat} (hx : Below wr.heap.size wr x1) (hy : OwnT x1 wr.heap.size y (R k) vs (rn k) (P k)) (ho : w8.ownsRow w1.heap.size 22 1 (.slice (some ⟨g, 0, none⟩) (k + 1) cap) (k + 1) (rowV us k ++ [y])) (hg : (x1.alloc X).grownBy w8 u.ownBlock) :
    (w8.cell? ⟨B, 1, none⟩ = some u ∧ w8.frozen? ⟨B, 1, none⟩ = false ∧ Below w1.heap.size w1 w8) ∧ ∃ us' rs', PcS w1 (w8.setCell ⟨B, 1, none⟩ (.slice (some ⟨g, 0, none⟩) (k + 1) cap)) B L T (k + 1) wv (.slice (some ⟨g, 0, none⟩) (k + 1) cap) ws ns W us' rs' R rn P := by
  have hxa : Below wr.heap.size wr (x1.alloc X) := hx.alloc hx.size _
  have h1 := h.later hxa
  have hBl : B < (x1.alloc X).heap.size := cell_lt h1.c0
  have hbk : w8.heap[B]? = (x1.alloc X).heap[B]? := hg.block B hBl h1.apart
  have hcell : ∀ j, w8.cell? ⟨B, j, none⟩ = (x1.alloc X).cell? ⟨B, j, none⟩ := fun j => by simp only [World.cell?, hbk]
  have hfz : ∀ j, w8.frozen? ⟨B, j, none⟩ = (x1.alloc X).frozen? ⟨B, j, none⟩ := fun j => by simp only [World.frozen?, hbk]
  obtain ⟨cs, q, hq⟩ := h1.bt
  have hq8 : w8.heap[B]? = some (.cells cs 32 q) := by rw [hbk]; exact hq
  have d1 : w8.cell? ⟨B, 1, none⟩ = some u := by rw [hcell]; exact h1.c1
  have hy1 : OwnT (x1.alloc X) w1.heap.size y (R k) vs (rn k) (P k) := (hy.mono h.below.size).later ((Below.refl _ _).alloc (Nat.le_refl _) _)
  have hbe : Below w1.heap.size w1 w8 := below_push (below_chain h.below hx) (own_past h.row hx) hg
  refine ⟨⟨d1, by rw [hfz]; exact h1.f1, hbe⟩, fun i => if i = k then y else us i, fun t => if t = k then vs else rs t, ⟨hbe.setCell h.hB _, h.hB, ?_, ?_, ?_, put_kind ⟨cs, q, hq8⟩, ?_, ?_, fun t ht => ?_⟩⟩
  · rw [cell_put _ d1, if_neg (by simp), hcell]; exact h1.c0
  · rw [cell_put _ d1, if_pos rfl]
  · rw [World.frozen?_setCell, hfz]; exact h1.f1
  · exact (h1.wt.beside h1.row hg).put hq8
  · rw [← rowV_push]; exact own_put ho hq8 (by decide)
  · by_cases e : t = k
    · subst e
      rw [if_pos rfl, if_pos rfl]
      exact (hy1.beside h1.row hg).put hq8
    · rw [if_neg e, if_neg e]
      exact ((h1.tab t (by omega)).beside h1.row hg).put hq8
theorem stpAt_of {w : World} {base : Nat} {t : TypeId} {v : Value} (h : w.ownsRow base t 1 v T (rowV us T)) (hn : ∀ i, i < T → TabAt w (us i) (R i) (rs i) (rn i) (P i)) : StpAt w v T us R rs rn P := by
  rcases h.2 with ⟨hv, h0⟩ | ⟨g, cap, cur, hv, _, hh, _, _, hs, ht⟩
  · exact Or.inl ⟨none, 0, hv, h0⟩
  · rcases Nat.eq_zero_or_pos T with h0 | h0
    · exact Or.inl ⟨_, _, by rw [hv, h0], h0⟩
    · refine Or.inr ⟨g, 0, cap, hv, h0, fun i hi => ⟨?_, hn i hi⟩⟩
      have h1 : (rowV us T)[i]? = some (us i) := by simp [rowV, hi]
      rw [← h1, ← ht, List.getElem?_take_of_lt (by omega)]
      simp [World.cell?, hh]
/-- What is handed back. -/
theorem PcS.fin (h : PcS w1 wr B L T T wv u ws ns W us rs R rn P) {Rb : Nat} (hR : Rb < w1.heap.size) {x0 x1 : Value} (c0 : wr.cell? ⟨Rb, 0, none⟩ = some x0) (c1 : wr.cell? ⟨Rb, 1, none⟩ = some x1) :
    (((wr.setCell ⟨Rb, 0, none⟩ wv).setCell ⟨Rb, 1, none⟩ u).cell? ⟨Rb, 0, none⟩ = some wv ∧ ((wr.setCell ⟨Rb, 0, none⟩ wv).setCell ⟨Rb, 1, none⟩ u).cell? ⟨Rb, 1, none⟩ = some u) ∧ (∃ vs', TabAt ((wr.setCell ⟨Rb, 0, none⟩ wv).setCell ⟨Rb, 1, none⟩ u) wv L vs' ns W) ∧ (∃ tv' rv', StpAt ((wr.setCell ⟨Rb, 0, none⟩ wv).setCell ⟨Rb, 1, none⟩ u) u T tv' R rv' rn P) :=
  ⟨⟨(put_two wv u c0 c1).2.1, (put_two wv u c0 c1).2.2⟩, ⟨ws, ((h.wt.low (p := ⟨Rb, 0, none⟩) hR).low (p := ⟨Rb, 1, none⟩) hR).tab⟩, ⟨us, rs, stpAt_of (own_low (own_low h.row (p := ⟨Rb, 0, none⟩) hR) (p := ⟨Rb, 1, none⟩) hR) (fun i hi => (((h.tab i hi).low (p := ⟨Rb, 0, none⟩) hR).low (p := ⟨Rb, 1, none⟩) hR).tab)⟩⟩
end

set_option maxRecDepth 100000 in
set_option maxHeartbeats 16000000 in
theorem process_any (v : Value) (L : Nat) (vs : Nat → Value) (ns : Nat → Nat) (W : Nat → Nat → Int) (sv : Value) (T : Nat) (tv : Nat → Value) (R : Nat → Nat) (rv : Nat → Nat → Value) (rn : Nat → Nat → Nat) (P : Nat → Nat → Nat → Int) (w : World) (h : TabAt w v L vs ns W) (hS : StpAt w sv T tv R rv rn P) (hL : L ≤ 70) (hs : sumT ns L ≤ 600) (hT : T ≤ 20) (hR : ∀ t, t < T → R t ≤ 70) (hrs : ∀ t, t < T → sumT (rn t) (R t) ≤ 600) :
    Calls Tryz.prog 10 #[.agg #[v, sv]] w fun e w' => ∃ v' sv', e = .returned (.agg #[v', sv']) ∧ (∃ vs', TabAt w' v' L vs' ns W) ∧ (∃ tv' rv', StpAt w' sv' T tv' R rv' rn P) ∧ Below w.heap.size w w' := by
  obtain ⟨ad, cap, rfl⟩ := h.form
  obtain ⟨sa, sc, rfl⟩ := hS.form
  obtain ⟨i0, hi, hz0, hz1, hz2⟩ := info_parts Tryz.infoTab
  have HINF : Hid (Tryz.prog.info? 22 = some i0 ∧ i0.zero = some (.slice none 0 0) ∧ i0.size = 1 ∧ i0.bytes = 24) := ⟨hi, hz0, hz1, hz2⟩
  clear hi hz0 hz1 hz2
  obtain ⟨w1, hw1⟩ : ∃ w1, w1 = (w.alloc (.cells #[.slice ad L cap, .slice sa T sc] 25)).alloc (.cells #[.slice none 0 0, .slice none 0 0] 32) := ⟨_, rfl⟩
  have hb1 : Below w.heap.size w w1 := by rw [hw1]; exact ((Below.refl _ _).alloc (Nat.le_refl _) _).alloc (by simp) _
  have c0 : w1.cell? ⟨w.heap.size, 0, none⟩ = some (.slice ad L cap) := by rw [hw1, World.cell?_alloc_lt _ _ ⟨w.heap.size, 0, none⟩ (by simp), World.cell?_alloc_at _ _ _ _ rfl]; rfl
  have c1 : w1.cell? ⟨w.heap.size, 1, none⟩ = some (.slice sa T sc) := by rw [hw1, World.cell?_alloc_lt _ _ ⟨w.heap.size, 1, none⟩ (by simp), World.cell?_alloc_at _ _ _ _ rfl]; rfl
  have c2 : w1.cell? ⟨w.heap.size + 1, 0, none⟩ = some (.slice none 0 0) := by rw [hw1, World.cell?_alloc_at _ _ _ _ (by simp)]; rfl
  have c3 : w1.cell? ⟨w.heap.size + 1, 1, none⟩ = some (.slice none 0 0) := by rw [hw1, World.cell?_alloc_at _ _ _ _ (by simp)]; rfl
  have c4 : w1.frozen? ⟨w.heap.size + 1, 0, none⟩ = false := by rw [hw1]; exact frozen_new (by simp)
  have c5 : w1.frozen? ⟨w.heap.size + 1, 1, none⟩ = false := by rw [hw1]; exact frozen_new (by simp)
  have hsz : w.heap.size + 1 < w1.heap.size := by rw [hw1]; simp
  have HSZ := Hid.mk' hsz
  have HC : Hid (∀ W, Below w1.heap.size w1 W → (W.cell? ⟨w.heap.size, 0, none⟩ = some (.slice ad L cap) ∧ W.cell? ⟨w.heap.size, 1, none⟩ = some (.slice sa T sc)) ∧ (W.cell? ⟨w.heap.size + 1, 0, none⟩ = some (.slice none 0 0) ∧ W.cell? ⟨w.heap.size + 1, 1, none⟩ = some (.slice none 0 0)) ∧ W.frozen? ⟨w.heap.size + 1, 0, none⟩ = false ∧ W.frozen? ⟨w.heap.size + 1, 1, none⟩ = false) := fun W hb => ⟨⟨by rw [hb.cell (cell_lt c0)]; exact c0, by rw [hb.cell (cell_lt c1)]; exact c1⟩, ⟨by rw [hb.cell (cell_lt c2)]; exact c2, by rw [hb.cell (cell_lt c3)]; exact c3⟩, by rw [hb.frozen (show w.heap.size + 1 < w1.heap.size from hsz)]; exact c4, by rw [hb.frozen (show w.heap.size + 1 < w1.heap.size from hsz)]; exact c5⟩
  have HEND : Hid (∀ W, Below w1.heap.size w1 W → Below w.heap.size w W) := fun W hb => hb1.trans (hb.mono hb1.size)
  have HW1 := Hid.mk' hw1
  have HLI := Hid.mk' (lists_own _ L vs ns W w1 (h.later hb1) hL hs)
  have HST : Hid (∀ W', Below w1.heap.size w1 W' → StpAt W' (.slice sa T sc) T tv R rv rn P) := fun W' hb => hS.later (HEND.out W' hb)
  have HRB := Hid.mk' hR
  have HRS := Hid.mk' hrs
  have hTI : (T : Int) ≤ 20 := by omega
  clear h hS hb1 hw1 hsz hR hrs
  go_enter Tryz.func10, Tryz.ntmps10
  go_upto_region 1 with fail
  rw [← HW1.out]
  go_wp2_with fail
  refine HLI.out.mono ?_
  rintro e w2 ⟨wv, ws, rfl, ho2, hn2, hb2⟩
  obtain ⟨wa, wc', rfl, _⟩ := row_shape ho2
  have HOT : Hid (OwnT w2 w1.heap.size (.slice wa L wc') L ws ns W) := ⟨ho2, hn2⟩
  have h9 : Below w2.heap.size w2 (w2.alloc (.cells #[.slice wa L wc', .slice none 0 0] 32)) := (Below.refl _ _).alloc (Nat.le_refl _) _
  have HPC : Hid (PcS w1 (w2.alloc (.cells #[.slice wa L wc', .slice none 0 0] 32)) w2.heap.size L T 0 (.slice wa L wc') (.slice none 0 0) ws ns W tv rv R rn P) := ⟨below_chain hb2 h9, hb2.size, by simp, by simp, by simp, ⟨_, _, heap_alloc_new w2 _⟩, HOT.out.later h9, ⟨rfl, Or.inl ⟨rfl, rfl⟩⟩, fun t ht => by omega⟩
  clear HLI ho2 hn2 hb2 HOT h9 c0 c1 c2 c3 c4 c5
  go_upto_region 2 with fail
  obtain ⟨B, hB⟩ : ∃ B, B = w2.heap.size := ⟨_, rfl⟩
  rw [← hB] at HPC ⊢
  clear hB
  generalize w2.alloc (.cells #[.slice wa L wc', .slice none 0 0] 32) = wc at *
  go_wp2_with fail
  go_loopw [4] (fun t wr => ∃ (k : Nat) (ua : Option Addr) (ul uc : Nat) (us : Nat → Value) (rs : Nat → Nat → Value), k ≤ T ∧ t = .int .i64 k ∧ Hid (PcS w1 wr B L T k (.slice wa L wc') (.slice ua ul uc) ws ns W us rs R rn P)) (fun t _ => T - (intOf t).toNat)
  case atStart => exact ⟨0, none, 0, 0, tv, rv, Nat.zero_le _, rfl, HPC⟩
  case round =>
    clear HPC
    obtain ⟨k, ua, ul, uc, us, rs, hk, rfl, HPC⟩ := hrel
    obtain ⟨⟨c0, c1⟩, _⟩ := HC.out wr HPC.out.below
    rcases Nat.lt_or_ge k T with h1 | h1
    · have hkI : (k : Int) < (T : Int) := by omega
      have hk0 : (0 : Int) ≤ (k : Int) := by omega
      obtain ⟨sb, so, rfl, hst⟩ := (HST.out w1 (Below.refl _ _)).at h1
      obtain ⟨hcell, htab⟩ := hst k h1
      obtain ⟨ra, rc, hre⟩ := htab.form
      rw [hre] at hcell htab
      have HCE : Hid (∀ W', Below w1.heap.size w1 W' → W'.cell? ⟨sb, so + k, none⟩ = some (.slice ra (R k) rc)) := fun W' hb => by rw [hb.cell (cell_lt hcell)]; exact hcell
      have HLK : Hid (∀ W, Below wr.heap.size wr W → Calls Tryz.prog 28 #[.slice ra (R k) rc] W fun e w' => ∃ v' vs', e = .returned v' ∧ w'.ownsRow W.heap.size 41 1 v' (R k) (rowV vs' (R k)) ∧ (∀ i, i < R k → w'.ownsRow W.heap.size 3 1 (vs' i) (rn k i) (numCells (P k i) (rn k i))) ∧ Below W.heap.size W w') := fun W hb => lists_own _ (R k) (rv k) (rn k) (P k) W (htab.later (HPC.out.later hb).below) (HRB.out k h1) (HRS.out k h1)
      have HKS : Hid (∀ W, Below wr.heap.size wr W → W.cell? ⟨B, 1, none⟩ = some (.slice ua ul uc) ∧ W.cell? ⟨w.heap.size, 1, none⟩ = some (.slice (some ⟨sb, so, none⟩) T sc) ∧ W.cell? ⟨sb, so + k, none⟩ = some (.slice ra (R k) rc)) := fun W hb => ⟨(HPC.out.later hb).c1, (HC.out W (HPC.out.later hb).below).1.2, HCE.out W (HPC.out.later hb).below⟩
      have hcur : Below wr.heap.size wr wr.drew := (Below.refl _ _).drew
      have hkm : k < 20 := by omega
      clear hst hcell htab hre
      go_upto_region 5 with fail
      clear c0 c1
      refine region_but_last (n := 11) (S := fun W => W.cell? ⟨B, 1, none⟩ = some (.slice ua ul uc) ∧ W.cell? ⟨w.heap.size, 1, none⟩ = some (.slice (some ⟨sb, so, none⟩) T sc) ∧ W.cell? ⟨sb, so + k, none⟩ = some (.slice ra (R k) rc)) (by kernel_rfl) (by kernel_rfl) (by kernel_rfl) (HKS.out _ hcur) (fun hHeld => ?_)
      refine wpAnyH_take (i := 0) (v := ?v0a) rfl (by kernel_rfl) (by kernel_rfl) (by kernel_rfl) (fun _ _ _ h => h) (Or.inl ⟨by rfl, ?hy0a⟩) (by assumption) ?rest0a
      case hy0a => (intro w hSw; (try dsimp only at hSw); go_simp <;> (try with_reducible rfl))
      simp only [Act.put]
      refine wpAnyH_take (i := 1) (v := ?v1a) rfl (by kernel_rfl) (by kernel_rfl) (by kernel_rfl) (fun _ _ _ h => h) (Or.inl ⟨by rfl, ?hy1a⟩) (by assumption) ?rest1a
      case hy1a => (intro w hSw; (try dsimp only at hSw); go_simp <;> (try with_reducible rfl))
      simp only [Act.put]
      refine wpAnyH_take (i := 2) (v := ?v2a) rfl (by kernel_rfl) (by kernel_rfl) (by kernel_rfl) (fun _ _ _ h => h) (Or.inl ⟨by rfl, ?hy2a⟩) (by assumption) ?rest2a
      case hy2a => (intro w hSw; (try dsimp only at hSw); go_simp <;> (try with_reducible rfl))
      simp only [Act.put]
      refine wpAnyH_take (i := 3) (v := ?v3a) rfl (by kernel_rfl) (by kernel_rfl) (by kernel_rfl) (fun _ _ _ h => h) (Or.inl ⟨by rfl, ?hy3a⟩) (by assumption) ?rest3a
      case hy3a => (intro w hSw; (try dsimp only at hSw); go_simp <;> (try with_reducible rfl))
      simp only [Act.put]
      refine wpAnyH_take (i := 4) (v := ?v4a) rfl (by kernel_rfl) (by kernel_rfl) (by kernel_rfl) (fun _ _ _ h => h) (Or.inl ⟨by rfl, ?hy4a⟩) (by assumption) ?rest4a
      case hy4a => (intro w hSw; (try dsimp only at hSw); go_simp <;> (try with_reducible rfl))
      simp only [Act.put]
      refine wpAnyH_take (i := 5) (v := ?v5a) rfl (by kernel_rfl) (by kernel_rfl) (by kernel_rfl) (fun _ _ _ h => h) (Or.inl ⟨by rfl, ?hy5a⟩) (by assumption) ?rest5a
      case hy5a => (intro w hSw; (try dsimp only at hSw); go_simp <;> (try with_reducible rfl))
      simp only [Act.put]
      refine wpAnyH_take (i := 6) (v := ?v6a) rfl (by kernel_rfl) (by kernel_rfl) (by kernel_rfl) (fun _ _ _ h => h) (Or.inl ⟨by rfl, ?hy6a⟩) (by assumption) ?rest6a
      case hy6a => (intro w hSw; (try dsimp only at hSw); go_simp <;> (try with_reducible rfl))
      simp only [Act.put]
      refine wpAnyH_ready (rs := [7]) (by kernel_rfl) (by simp) ?_
      refine AllReadyH.cons rfl (fun K hK => ?_) AllReadyH.nil
      go_simp
      refine (HLK.out _ hcur).mono ?_
      rintro e x1 ⟨y, ys, rfl, hy1, hy2, hb5⟩
      obtain ⟨ya, yc, rfl, _⟩ := row_shape hy1
      have hszd := hcur.size
      have HYT : Hid (OwnT x1 wr.heap.size (.slice ya (R k) yc) (R k) ys (rn k) (P k)) := OwnT.mono ⟨hy1, hy2⟩ hszd
      have hcur := below_chain hcur hb5
      have hcurA : Below wr.heap.size wr (x1.alloc (.cells #[.slice ya (R k) yc] 22)) := hcur.alloc hcur.size _
      have HXB := Hid.mk' hcur
      clear hy1 hy2 hb5 hszd
      go_wp2_with fail
      refine hK.out _ _ ?_ (fun hHeld => ?_)
      · exact HKS.out _ hcur
      clear hK K
      refine wpAnyH_ready (rs := [8]) (by kernel_rfl) (by simp) ?_
      refine AllReadyH.cons rfl (fun K hK => ?_) AllReadyH.nil
      go_simp
      go_wp2_with fail
      refine hK.out _ _ ?_ (fun hHeld => ?_)
      · exact HKS.out _ hcurA
      clear hK K
      refine wpAnyH_ready (rs := [9]) (by kernel_rfl) (by simp) ?_
      refine AllReadyH.cons rfl (fun K hK => ?_) AllReadyH.nil
      refine step_append_lies _ rfl _ _ _ rfl w1.heap.size 22 i0 _ 1 24 Tryz.underlying23 HINF.out.1 HINF.out.2.1 HINF.out.2.2.1 HINF.out.2.2.2 rfl (by decide) (.slice ua ul uc) k (rowV us k) rfl (HPC.out.later hcurA).row ⟨x1.heap.size, 0, none⟩ 1 1 [.slice ya (R k) yc] rfl rfl (one_new _ _ _) (by simp [Value.oneCell']) (by omega) (by unfold maxLen; omega) (by omega) (HPC.out.later hcurA).below.size _ rfl ?_
      intro g8 cap8 w8 hown8 hgrow8 hat8 hlt8
      obtain ⟨⟨z1, z2, hbe8⟩, us2, rs2, hpc⟩ := HPC.out.push HXB.out HYT.out hown8 hgrow8
      have HPN := Hid.mk' hpc
      have HS8 : Hid (w8.cell? ⟨B, 1, none⟩ = some (.slice ua ul uc) ∧ w8.cell? ⟨w.heap.size, 1, none⟩ = some (.slice (some ⟨sb, so, none⟩) T sc) ∧ w8.cell? ⟨sb, so + k, none⟩ = some (.slice ra (R k) rc)) := ⟨z1, (HC.out w8 hbe8).1.2, HCE.out w8 hbe8⟩
      clear hpc hown8 hgrow8 hat8 hlt8 hbe8
      refine hK.out _ _ ?_ (fun hHeld => ?_)
      · exact HS8.out
      clear hK K
      refine wpAnyH_take (i := 10) (v := ?v10a) rfl (by kernel_rfl) (by kernel_rfl) (by kernel_rfl) (fun _ _ _ h => h) (Or.inl ⟨by rfl, ?hy10a⟩) (by assumption) ?rest10a
      case hy10a => (intro w hSw; (try dsimp only at hSw); go_simp <;> (try with_reducible rfl))
      simp only [Act.put]
      refine wpAnyH_done (by kernel_rfl) ?_ _
      refine ahead_last rfl (fun K hK => ?_)
      go_simp
      refine hK _ _ ?_
      clear hK K
      clear HLK HKS HCE z1 z2 hHeld hcur hcurA HXB HYT HS8 HPC
      go_wp2_with fail
      exact ⟨⟨k + 1, _, _, _, us2, rs2, h1, by go_num, HPN⟩, by simp [intOf]; omega⟩
    · obtain rfl : k = T := by omega
      have hkI : ¬ ((k : Int) < (k : Int)) := by omega
      obtain ⟨_, ⟨d2, d3⟩, d4, d5⟩ := HC.out _ HPC.out.below
      have HFI := Hid.mk' (HPC.out.fin (Rb := w.heap.size + 1) HSZ.out d2 d3)
      have HBE : Hid (Below w.heap.size w ((wr.setCell ⟨w.heap.size + 1, 0, none⟩ (.slice wa L wc')).setCell ⟨w.heap.size + 1, 1, none⟩ (.slice ua ul uc))) := ((HEND.out _ HPC.out.below).setCell (by simp) _).setCell (by simp) _
      have k0 := HPC.out.c0
      have k1 := HPC.out.c1
      clear HPC
      go_wp2_with fail
      generalize (wr.setCell ⟨w.heap.size + 1, 0, none⟩ (.slice wa L wc')).setCell ⟨w.heap.size + 1, 1, none⟩ (.slice ua ul uc) = W9 at *
      exact bodyPost_ret (v := .agg #[.slice wa L wc', .slice ua ul uc]) (by simp [results, Tryz.results10, go_sem, HFI.out.1.1, HFI.out.1.2]) rfl ⟨_, _, rfl, HFI.out.2.1, HFI.out.2.2, HBE.out⟩
end Go.Proofs.YthomgmhmbalnbaaGreatDoor

/- Messages: which are right, in the program and in the document; errors with their places. -/
namespace Go.Proofs.YthomgmhmbalnbaaGreatDoor
open Go.RowKit

set_option maxRecDepth 100000 in
theorem Total_nums (b o cap n : Nat) (z : Nat → Int) (w : World) (h : RowAt w b o n z) (hz : ∀ k, k ≤ n → -1000000 ≤ sumN z k ∧ sumN z k ≤ 1000000) (hzi : ∀ i, i < n → -1000000 ≤ z i ∧ z i ≤ 1000000) (hn : n ≤ 1000000) :
    Calls Tryz.prog 63 #[.slice (some ⟨b, o, none⟩) n cap] w fun e w' => e = .returned (.int .i64 (sumN z n)) ∧ w' = w := by
  have HR := Hid.mk' h
  have HZ := Hid.mk' hz
  have HZI := Hid.mk' hzi
  clear h hz hzi
  go_enter Tryz.func63, Tryz.ntmps63
  go_wp2_with fail
  go_loopw [3, 8] (fun s i wr => ∃ k : Nat, k ≤ n ∧ s = .int .i64 (sumN z k) ∧ i = .int .i64 k ∧ wr = w) (fun _ i _ => n - (intOf i).toNat)
  case atStart => exact ⟨0, Nat.zero_le _, rfl, rfl, rfl⟩
  case round =>
    obtain ⟨k, hk, rfl, rfl, rfl⟩ := hrel
    rcases Nat.lt_or_ge k n with h1 | h1
    · have hc := HR.out k h1
      have hs1 := HZ.out k hk
      have hs2 := HZ.out (k + 1) h1
      have hs3 := HZI.out k h1
      have HE : Hid (sumN z (k + 1) = sumN z k + z k) := rfl
      have hkn : (k : Int) < (n : Int) := by omega
      obtain ⟨x, hx⟩ : ∃ x, x = z k := ⟨_, rfl⟩
      rw [← hx] at hc hs3 HE
      obtain ⟨s, hs⟩ : ∃ s, s = sumN z k := ⟨_, rfl⟩
      rw [← hs] at hs1 HE ⊢
      clear hx hs
      go_wp2_with fail
      exact ⟨⟨k + 1, h1, by rw [HE.out], by go_num, trivial⟩, by simp [intOf]; omega⟩
    · obtain rfl : k = n := by omega
      go_wp2_with fail
      go_ret
      exact ⟨rfl, rfl⟩

/-- The first one of n of which something holds; n, if there is none. -/
def fstB (p : Nat → Bool) : Nat → Nat
  | 0 => 0
  | n + 1 => if fstB p n < n then fstB p n else if p n then n else n + 1
theorem fstB_le (p : Nat → Bool) : ∀ n, fstB p n ≤ n
  | 0 => Nat.le_refl _
  | n + 1 => by
    have := fstB_le p n
    unfold fstB
    split
    · omega
    · split <;> omega
theorem fstB_none {p : Nat → Bool} : ∀ {n : Nat}, fstB p n = n → ∀ i, i < n → p i = false
  | 0, _, i, hi => by omega
  | n + 1, h, i, hi => by
    unfold fstB at h
    have hle := fstB_le p n
    by_cases h1 : fstB p n < n
    · rw [if_pos h1] at h; omega
    · rw [if_neg h1] at h
      cases hp : p n with
      | true => rw [hp] at h; simp at h
      | false =>
        rcases Nat.lt_or_ge i n with h2 | h2
        · exact fstB_none (by omega) i h2
        · obtain rfl : i = n := by omega
          exact hp
theorem fstB_all {p : Nat → Bool} : ∀ {n : Nat}, (∀ i, i < n → p i = false) → fstB p n = n
  | 0, _ => rfl
  | n + 1, h => by
    unfold fstB
    rw [fstB_all (fun i hi => h i (by omega)), if_neg (Nat.lt_irrefl _), h n (by omega)]
    rfl
theorem fstB_at {p : Nat → Bool} {k : Nat} (h0 : ∀ i, i < k → p i = false) (h1 : p k = true) : ∀ {n : Nat}, k < n → fstB p n = k
  | 0, h => by omega
  | n + 1, h => by
    unfold fstB
    rcases Nat.lt_or_ge k n with h2 | h2
    · rw [fstB_at h0 h1 h2, if_pos h2]
    · obtain rfl : k = n := by omega
      rw [fstB_all h0, if_neg (Nat.lt_irrefl _), h1, if_pos rfl]
theorem fstB_is {p : Nat → Bool} : ∀ {n : Nat}, fstB p n < n → p (fstB p n) = true ∧ ∀ i, i < fstB p n → p i = false
  | 0, h => by omega
  | n + 1, h => by
    have hle := fstB_le p n
    by_cases h1 : fstB p n < n
    · have e : fstB p (n + 1) = fstB p n := by
        show (if fstB p n < n then fstB p n else if p n then n else n + 1) = _
        rw [if_pos h1]
      rw [e]; exact fstB_is h1
    · have h2 : fstB p n = n := by omega
      have e : fstB p (n + 1) = if p n then n else n + 1 := by
        show (if fstB p n < n then fstB p n else if p n then n else n + 1) = _
        rw [if_neg h1]
      rw [e] at h ⊢
      cases hp : p n with
      | false => rw [hp] at h; simp at h
      | true =>
        rw [if_pos rfl]
        exact ⟨hp, fstB_none h2⟩

/-- A symbol that is none; one whose weight is 0. -/
def badS (n : Nat) (l : Nat → Int) (i : Nat) : Bool := decide (l i < 0 ∨ (n : Int) ≤ l i)
def zerS (z : Nat → Int) (l : Nat → Int) (i : Nat) : Bool := decide (z (l i).toNat = 0)
/-- The number of a message's error, and its place. -/
def msgE (z : Nat → Int) (n m : Nat) (l : Nat → Int) : Nat × Int :=
  if 200 < m then (2, -1) else if fstB (badS n l) m < m then (3, (fstB (badS n l) m : Int)) else if fstB (zerS z l) m < m then (4, (fstB (zerS z l) m : Int)) else (0, -1)
def mesE (z : Nat → Int) (n m : Nat) (l : Nat → Int) : Nat × Int := if weightsErr z n = 0 then msgE z n m l else (weightsErr z n, -1)
/-- An error by its number and place, in memory. -/
def ErrIs (a : Nat → Addr) (w : World) (v : Value) (c : Nat × Int) : Prop :=
  (v = errV a c.1 ∧ c.2 = -1 ∧ c.1 ≤ 8) ∨ ∃ pb, v = .iface 97 (.pointer (some ⟨pb, 0, none⟩)) ∧ w.cell? ⟨pb, 0, none⟩ = some (.int .i64 c.2) ∧ w.cell? ⟨pb, 1, none⟩ = some (.iface 173 (.pointer (some (a (c.1 - 1))))) ∧ 1 ≤ c.1 ∧ c.1 ≤ 8
theorem ErrIs.later {a : Nat → Addr} {w w' : World} {v : Value} {c : Nat × Int} (h : ErrIs a w v c) (hb : Below w.heap.size w w') : ErrIs a w' v c := by
  rcases h with h | ⟨pb, h1, h2, h3, h4⟩
  · exact Or.inl h
  · exact Or.inr ⟨pb, h1, by rw [hb.cell (cell_lt h2)]; exact h2, by rw [hb.cell (cell_lt h3)]; exact h3, h4⟩

theorem NumsAt.cellAt {w : World} {v : Value} {n : Nat} {z : Nat → Int} (h : NumsAt w v n z) (h0 : 0 < n) : ∃ b o cap, v = .slice (some ⟨b, o, none⟩) n cap ∧ RowAt w b o n z := by
  rcases h with ⟨_, _, _, rfl⟩ | ⟨b, o, cap, h1, _, h2⟩
  · omega
  · exact ⟨b, o, cap, h1, h2⟩
/-- A list whose length and row are known (nothing is said of the place of an empty one). -/
theorem NumsAt.rowAt {w : World} {v : Value} {n : Nat} {z : Nat → Int} (h : NumsAt w v n z) : ∃ ad cap, v = .slice ad n cap ∧ ∀ i, i < n → ∃ b o, ad = some ⟨b, o, none⟩ ∧ w.cell? ⟨b, o + i, none⟩ = some (.int .i64 (z i)) := by
  rcases h with ⟨ad, cap, rfl, rfl⟩ | ⟨b, o, cap, rfl, _, h2⟩
  · exact ⟨ad, cap, rfl, fun i hi => by omega⟩
  · exact ⟨_, cap, rfl, fun i hi => ⟨b, o, rfl, h2 i hi⟩⟩

end Go.Proofs.YthomgmhmbalnbaaGreatDoor

/- The interval that a message leaves: arith.cut. -/
namespace Go.Proofs.YthomgmhmbalnbaaGreatDoor
open Go.RowKit

theorem put_three' {W : World} {b : Nat} {x0 x1 x2 : Value} (y0 y1 y2 : Value) (h0 : W.cell? ⟨b, 0, none⟩ = some x0) (h1 : W.cell? ⟨b, 1, none⟩ = some x1) (h2 : W.cell? ⟨b, 2, none⟩ = some x2) :
    ((W.setCell ⟨b, 0, none⟩ y0).cell? ⟨b, 1, none⟩ = some x1 ∧ ((W.setCell ⟨b, 0, none⟩ y0).setCell ⟨b, 1, none⟩ y1).cell? ⟨b, 2, none⟩ = some x2) ∧
    ((((W.setCell ⟨b, 0, none⟩ y0).setCell ⟨b, 1, none⟩ y1).setCell ⟨b, 2, none⟩ y2).cell? ⟨b, 0, none⟩ = some y0 ∧ (((W.setCell ⟨b, 0, none⟩ y0).setCell ⟨b, 1, none⟩ y1).setCell ⟨b, 2, none⟩ y2).cell? ⟨b, 1, none⟩ = some y1) ∧
    (((W.setCell ⟨b, 0, none⟩ y0).setCell ⟨b, 1, none⟩ y1).setCell ⟨b, 2, none⟩ y2).cell? ⟨b, 2, none⟩ = some y2 := by
  have e1 : (W.setCell ⟨b, 0, none⟩ y0).cell? ⟨b, 1, none⟩ = some x1 := by rw [cell_put _ h0, if_neg (by simp)]; exact h1
  have e2 : ((W.setCell ⟨b, 0, none⟩ y0).setCell ⟨b, 1, none⟩ y1).cell? ⟨b, 2, none⟩ = some x2 := by rw [cell_put _ e1, if_neg (by simp), cell_put _ h0, if_neg (by simp)]; exact h2
  refine ⟨⟨e1, e2⟩, ⟨?_, ?_⟩, ?_⟩
  · rw [cell_put _ e2, if_neg (by simp), cell_put _ e1, if_neg (by simp), cell_put _ h0, if_pos rfl]
  · rw [cell_put _ e2, if_neg (by simp), cell_put _ e1, if_pos rfl]
  · rw [cell_put _ e2, if_pos rfl]
theorem NatAt.isSl {w : World} {v : Value} {n : Nat} (h : NatAt w v n) : ∃ a l c, v = .slice a l c := by
  obtain ⟨l, _, _, _, h⟩ := h
  obtain ⟨ad, cap, rfl⟩ := h.form
  exact ⟨_, _, _, rfl⟩
/-- A number's words are none of a cell that holds a list. -/
theorem NatAt.putL {W : World} {v y : Value} {n : Nat} {p : Addr} {ad : Option Addr} {l c : Nat} (h : NatAt W v n) (hc : W.cell? p = some (.slice ad l c)) : NatAt (W.setCell p y) v n := by
  obtain ⟨x, h1, h2, h3, h4⟩ := h
  refine ⟨x, h1, h2, h3, ?_⟩
  rcases h4 with h4 | ⟨b, o, cap, hv, hl, hp, hr⟩
  · exact Or.inl h4
  · refine Or.inr ⟨b, o, cap, hv, hl, hp, fun i hi => ?_⟩
    rw [cell_put _ hc, if_neg (fun e => ?_)]
    · exact hr i hi
    · have h5 := hr i hi
      rw [e, hc] at h5
      cases h5
theorem NatAt.putL3 {W : World} {v y0 y1 y2 : Value} {n b : Nat} {a0 a1 a2 : Option Addr} {l0 l1 l2 c0 c1 c2 : Nat} (h : NatAt W v n) (h0 : W.cell? ⟨b, 0, none⟩ = some (.slice a0 l0 c0)) (h1 : W.cell? ⟨b, 1, none⟩ = some (.slice a1 l1 c1)) (h2 : W.cell? ⟨b, 2, none⟩ = some (.slice a2 l2 c2)) : NatAt (((W.setCell ⟨b, 0, none⟩ y0).setCell ⟨b, 1, none⟩ y1).setCell ⟨b, 2, none⟩ y2) v n := by
  obtain ⟨⟨g0, g1⟩, _, _⟩ := put_three' y0 y1 y2 h0 h1 h2
  exact ((h.putL h0).putL g0).putL g1

set_option maxRecDepth 100000 in
theorem Times_zero (u : Value) (n : Nat) (w : World) (h : NatAt w u n) :
    Calls Tryz.prog 65 #[u, .int .u64 0] w fun e w' => ∃ v, e = .returned v ∧ NatAt w' v (n * 0) ∧ Below w.heap.size w w' := by
  obtain ⟨ad, l, cap, rfl⟩ := h.isSl
  clear h
  go_enter Tryz.func65, Tryz.ntmps65
  go_wp2_with fail
  go_ret
  exact ⟨_, rfl, ⟨[], fun i hi => by simp at hi, fun i hi => by simp at hi, by simp [wv], Or.inl ⟨_, _, rfl, rfl⟩⟩, Below.refl _ _⟩
theorem Times_all (u : Value) (n m k : Nat) (w : World) (h : NatAt w u n) (hm : m < 18446744073709551616) (hk : n < 18446744073709551616 ^ k) (hk6 : k ≤ 1000000) :
    Calls Tryz.prog 65 #[u, .int .u64 m] w fun e w' => ∃ v, e = .returned v ∧ NatAt w' v (n * m) ∧ Below w.heap.size w w' := by
  rcases Nat.eq_zero_or_pos m with rfl | hm0
  · exact Times_zero u n w h
  · exact Times_any u n m k w h hm0 hm hk hk6

/-- What a message leaves: where it begins and how wide it is, over the sum's power. -/
def cutW (z l : Nat → Int) : Nat → Nat
  | 0 => 1
  | k + 1 => cutW z l k * (z (l k).toNat).toNat
def cutL (z l : Nat → Int) (S : Nat) : Nat → Nat
  | 0 => 0
  | k + 1 => cutL z l S k * S + cutW z l k * (sumN z (l k).toNat).toNat
theorem cut_le {z l : Nat → Int} {n m S : Nat} (hz : OkW z n) (hS : sumN z n = (S : Int)) (hl : ∀ i, i < m → 0 ≤ l i ∧ l i < (n : Int)) : ∀ k, k ≤ m → cutL z l S k + cutW z l k ≤ S ^ k
  | 0, _ => by simp [cutL, cutW]
  | k + 1, hk => by
    have ih := cut_le hz hS hl k (by omega)
    obtain ⟨h0, h1⟩ := hl k (by omega)
    obtain ⟨s, hs⟩ : ∃ s : Nat, l k = (s : Int) := ⟨(l k).toNat, by omega⟩
    have hsn : s < n := by omega
    show cutL z l S k * S + cutW z l k * (sumN z (l k).toNat).toNat + cutW z l k * (z (l k).toNat).toNat ≤ S ^ (k + 1)
    rw [hs, Int.toNat_natCast]
    have hm := sumN_mono hz.nn (k := s + 1) hsn
    rw [hS] at hm
    have e : sumN z (s + 1) = sumN z s + z s := rfl
    have p1 := hz.part (k := s) (by omega)
    have p2 := hz.lt hsn
    have hle : (sumN z s).toNat + (z s).toNat ≤ S := by omega
    calc cutL z l S k * S + cutW z l k * (sumN z s).toNat + cutW z l k * (z s).toNat = cutL z l S k * S + cutW z l k * ((sumN z s).toNat + (z s).toNat) := by rw [Nat.mul_add, Nat.add_assoc]
      _ ≤ cutL z l S k * S + cutW z l k * S := Nat.add_le_add_left (Nat.mul_le_mul_left _ hle) _
      _ = (cutL z l S k + cutW z l k) * S := by rw [Nat.add_mul]
      _ ≤ S ^ k * S := Nat.mul_le_mul_right _ ih
      _ = S ^ (k + 1) := (Nat.pow_succ ..).symm
theorem cutW_pos {z l : Nat → Int} : ∀ {k : Nat}, (∀ i, i < k → 0 < z (l i).toNat) → 0 < cutW z l k
  | 0, _ => Nat.one_pos
  | k + 1, h => Nat.mul_pos (cutW_pos (fun i hi => h i (by omega))) (by have := h k (by omega); omega)
theorem pow_room {S j : Nat} (hS : S ≤ 4096) (hj : j ≤ 249) : S ^ j < 18446744073709551616 ^ 250 :=
  Nat.lt_of_le_of_lt (Nat.pow_le_pow_left (Nat.le_trans hS (by decide : 4096 ≤ 18446744073709551616)) j) (Nat.pow_lt_pow_right (by decide) (by omega))

/-- A span in memory. -/
structure SpanAt (w : World) (b : Nat) (u0 u1 u2 : Value) (x0 x1 x2 : Nat) : Prop where
  c0 : w.cell? ⟨b, 0, none⟩ = some u0
  c1 : w.cell? ⟨b, 1, none⟩ = some u1
  c2 : w.cell? ⟨b, 2, none⟩ = some u2
  n0 : NatAt w u0 x0
  n1 : NatAt w u1 x1
  n2 : NatAt w u2 x2
  fz : ∀ j, j < 3 → w.frozen? ⟨b, j, none⟩ = false

end Go.Proofs.YthomgmhmbalnbaaGreatDoor

/- The document's BigMul: times. -/
namespace Go.Proofs.YthomgmhmbalnbaaGreatDoor
open Go.RowKit

theorem bv_set : ∀ (l : List Nat) (j d : Nat), j < l.length → bv (l.set j d) + 1000000 ^ j * l.getD j 0 = bv l + 1000000 ^ j * d
  | [], j, d, h => by simp at h
  | e :: r, 0, d, _ => by simp [bv]; omega
  | e :: r, j + 1, d, h => by
    have := bv_set r j d (by simpa using h)
    simp only [List.set_cons_succ, bv, List.getD_cons_succ, Nat.pow_succ]
    have h1 : 1000000 ^ j * 1000000 * r.getD j 0 = 1000000 * (1000000 ^ j * r.getD j 0) := by grind
    have h2 : 1000000 ^ j * 1000000 * d = 1000000 * (1000000 ^ j * d) := by grind
    rw [h1, h2]
    omega
theorem getD_set_same {l : List Nat} {j d : Nat} (h : j < l.length) : (l.set j d).getD j 0 = d := by
  rw [List.getD_eq_getElem?_getD, List.getElem?_set_self h]; rfl
theorem getD_set_other {l : List Nat} {j i d : Nat} (h : j ≠ i) : (l.set j d).getD i 0 = l.getD i 0 := by
  rw [List.getD_eq_getElem?_getD, List.getElem?_set_ne h, ← List.getD_eq_getElem?_getD]
theorem Dig.set {l : List Nat} (h : Dig l) (j : Nat) {d : Nat} (hd : d < 1000000) : Dig (l.set j d) := fun i hi => by
  rw [List.length_set] at hi
  by_cases hj : j = i
  · subst hj; rw [getD_set_same hi]; exact hd
  · rw [getD_set_other hj]; exact h i hi
theorem digCells_set (l : List Nat) (j d : Nat) : (digCells l).set j (.int .i64 (d : Int)) = digCells (l.set j d) := by
  unfold digCells
  rw [List.map_set]
theorem digCells_length (l : List Nat) : (digCells l).length = l.length := by simp [digCells]
theorem digCells_get {l : List Nat} {j : Nat} (h : j < l.length) : (digCells l)[j]? = some (.int .i64 ((l.getD j 0 : Nat) : Int)) := by
  simp [digCells, h]
theorem digCells_zeros (n : Nat) : (madeCells (Value.int .i64 0).cells (n * 1)).toList = digCells (List.replicate n 0) := by
  rw [Nat.mul_one, show (Value.int .i64 0).cells = #[.int .i64 0] from rfl, toList_madeCells_one]
  simp [digCells]
theorem bv_replicate (n : Nat) : bv (List.replicate n 0) = 0 := by
  induction n with
  | zero => rfl
  | succ n ih => simp [List.replicate_succ, bv, ih]
theorem getD_replicate (n j : Nat) : (List.replicate n 0).getD j 0 = 0 := by
  rw [List.getD_eq_getElem?_getD]
  rcases Nat.lt_or_ge j n with h | h
  · rw [List.getElem?_replicate, if_pos h]; rfl
  · rw [List.getElem?_eq_none (by simpa using h)]; rfl

/-- One step of the inner loop. -/
theorem mul_step {l y : List Nat} {P i k c a t : Nat} (hj : i + k < l.length) (ht : t = c + l.getD (i + k) 0 + a * y.getD k 0) (h : bv l + 1000000 ^ (i + k) * c = P + 1000000 ^ i * (a * bv (y.take k))) :
    bv (l.set (i + k) (t % 1000000)) + 1000000 ^ (i + (k + 1)) * (t / 1000000) = P + 1000000 ^ i * (a * bv (y.take (k + 1))) := by
  have h1 := bv_set l (i + k) (t % 1000000) hj
  have h2 := bv_take_digit y k
  have h3 := Nat.mod_add_div t 1000000
  have h5 : 1000000 ^ (i + k) * (t % 1000000) + 1000000 ^ (i + (k + 1)) * (t / 1000000) = 1000000 ^ (i + k) * t := by
    rw [← Nat.add_assoc, Nat.pow_succ, Nat.mul_assoc, ← Nat.mul_add, h3]
  rw [h2, ht] at *
  have h4 : 1000000 ^ (i + k) = 1000000 ^ i * 1000000 ^ k := Nat.pow_add _ _ _
  have h6 : 1000000 ^ (i + k) * (c + l.getD (i + k) 0 + a * y.getD k 0) = 1000000 ^ (i + k) * c + 1000000 ^ (i + k) * l.getD (i + k) 0 + 1000000 ^ i * (a * (1000000 ^ k * y.getD k 0)) := by
    rw [h4]; grind
  have h7 : P + 1000000 ^ i * (a * (bv (y.take k) + 1000000 ^ k * y.getD k 0)) = P + 1000000 ^ i * (a * bv (y.take k)) + 1000000 ^ i * (a * (1000000 ^ k * y.getD k 0)) := by grind
  rw [h7]
  omega
/-- The inner loop's end. -/
theorem mul_row {l x y : List Nat} {i c : Nat} (hj : i + y.length < l.length) (h0 : l.getD (i + y.length) 0 = 0) (h : bv l + 1000000 ^ (i + y.length) * c = bv (x.take i) * bv y + 1000000 ^ i * (x.getD i 0 * bv (y.take y.length))) :
    bv (l.set (i + y.length) c) = bv (x.take (i + 1)) * bv y := by
  have h1 := bv_set l (i + y.length) c hj
  rw [h0, Nat.mul_zero, Nat.add_zero] at h1
  rw [List.take_length] at h
  rw [h1, h, bv_take_digit x i]
  grind

theorem mul_small {a b : Nat} (ha : a < 1000000) (hb : b < 1000000) : a * b ≤ 999998000001 := by
  have := Nat.mul_le_mul (show a ≤ 999999 by omega) (show b ≤ 999999 by omega)
  omega

set_option maxRecDepth 10000 in
set_option maxHeartbeats 2000000 in
theorem BigMul_ints (u v : Value) (x y : List Nat) (w : World) (hx : Dig x) (hy : Dig y) (h1 : IntsAt w u x) (h2 : IntsAt w v y) (hlx : x.length ≤ 1000000) (hly : y.length ≤ 1000000) :
    Calls Tryz.prog 75 #[u, v] w fun e w' => ∃ r, e = .returned r ∧ BigAt w' r (bv x * bv y) ∧ Below w.heap.size w w' := by
  obtain ⟨i0, hi, hz0, hz1, hz2⟩ := info_parts Tryz.infoInt
  have HINF : Hid (Tryz.prog.info? 3 = some i0 ∧ i0.zero = some (.int .i64 0) ∧ i0.size = 1 ∧ i0.bytes = 8) := ⟨hi, hz0, hz1, hz2⟩
  clear hi hz0 hz1 hz2
  obtain ⟨a1, c1, rfl⟩ := h1.form
  obtain ⟨a2, c2, rfl⟩ := h2.form
  have H1 := Hid.mk' h1
  have H2 := Hid.mk' h2
  have HX := Hid.mk' hx
  have HY := Hid.mk' hy
  clear h1 h2 hx hy
  go_enter Tryz.func75, Tryz.ntmps75
  go_wp2_with (at_make; go_must (refine wpList_make_full _ rfl _ _ _ rfl w.heap.size 3 i0 _ 1 Tryz.underlying42 HINF.out.1 HINF.out.2.1 HINF.out.2.2.1 _ _ _ _ (x.length + y.length) rfl rfl (by omega) (by omega) (by rw [HINF.out.2.2.2]; omega) (by unfold maxLen; omega) (Nat.le_refl _) ?_; intro w1 hown hgrow; have HO := Hid.mk' hown; have HG := Hid.mk' hgrow; clear hown hgrow))
  go_loopw [6] (fun t wr => ∃ (i : Nat) (l : List Nat), t = .int .i64 i ∧ i ≤ x.length ∧ Hid (l.length = x.length + y.length) ∧ Hid (bv l = bv (x.take i) * bv y ∧ Dig l ∧ ∀ j, i + y.length ≤ j → l.getD j 0 = 0) ∧ Hid (wr.ownsRow w.heap.size 3 1 (.slice (some ⟨w.heap.size, 0, none⟩) (x.length + y.length) (x.length + y.length)) (x.length + y.length) (digCells l)) ∧ Hid (Below w.heap.size w wr)) (fun t _ => x.length - (intOf t).toNat)
  case atStart =>
    have ho := HO.out
    rw [digCells_zeros] at ho
    exact ⟨0, List.replicate (x.length + y.length) 0, rfl, by omega, by show _ = _; simp, ⟨by rw [bv_replicate]; simp [bv], (fun i _ => by rw [getD_replicate]; decide), (fun j _ => getD_replicate _ _)⟩, ho, (Below.refl _ _).grown HG.out (Nat.le_refl _) (fun k h => by cases h)⟩
  case round =>
    clear HO HG
    obtain ⟨i, l, rfl, hi, HLN, HV, HO, HB⟩ := hrel
    by_cases hlt : i < x.length
    · obtain ⟨b1, o1, rfl, _⟩ := (H1.out.later HB.out).cellAt hlt
      have hiI : (i : Int) < (x.length : Int) := by omega
      have hi0 : (0 : Int) ≤ (i : Int) := by omega
      obtain ⟨wo, rfl⟩ : ∃ wo, wo = wr := ⟨_, rfl⟩
      obtain ⟨a, ha⟩ : ∃ a, a = x.getD i 0 := ⟨_, rfl⟩
      have hax := HX.out i hlt
      rw [← ha] at hax
      have HA := Hid.mk' ha
      clear ha
      go_wp2_with fail
      go_loopw [7, 8] (fun s t wr => ∃ (c k : Nat) (l : List Nat), s = .int .i64 c ∧ t = .int .i64 k ∧ c < 1000000 ∧ k ≤ y.length ∧ Hid (l.length = x.length + y.length) ∧ Hid (bv l + 1000000 ^ (i + k) * c = bv (x.take i) * bv y + 1000000 ^ i * (a * bv (y.take k)) ∧ Dig l ∧ ∀ j, i + y.length ≤ j → l.getD j 0 = 0) ∧ Hid (wr.ownsRow w.heap.size 3 1 (.slice (some ⟨w.heap.size, 0, none⟩) (x.length + y.length) (x.length + y.length)) (x.length + y.length) (digCells l)) ∧ Hid (Below w.heap.size w wr)) (fun _ t _ => y.length - (intOf t).toNat)
      case atStart => exact ⟨0, 0, l, rfl, rfl, by omega, by omega, HLN, ⟨by rw [HV.out.1]; simp [bv], HV.out.2.1, HV.out.2.2⟩, HO, HB⟩
      case round =>
        clear HLN HV HO HB l
        obtain ⟨c, k, l, rfl, rfl, hc, hk, HLN, HV, HO, HB⟩ := hrel
        by_cases hkt : k < y.length
        · have hca := (H1.out.later HB.out).cellAt hlt
          obtain ⟨_, _, hh, hca⟩ := hca
          cases hh
          obtain ⟨b2, o2, rfl, hcb⟩ := (H2.out.later HB.out).cellAt hkt
          have hby := HY.out k hkt
          rw [← HA.out] at hca
          obtain ⟨b, hb⟩ : ∃ b, b = y.getD k 0 := ⟨_, rfl⟩
          rw [← hb] at hcb hby
          have HBB := Hid.mk' hb
          have hln := HLN.out
          have hco := (HO.out.cellAt (i + k) (by omega)).trans (digCells_get (by omega))
          have hfo := HO.out.frozenAt (i + k)
          have hdo := HV.out.2.1 (i + k) (by omega)
          obtain ⟨d, hd⟩ : ∃ d, d = l.getD (i + k) 0 := ⟨_, rfl⟩
          rw [← hd] at hco hdo
          have HDD := Hid.mk' hd
          clear hb hd hln
          have hkI : (k : Int) < (y.length : Int) := by omega
          have hk0 : (0 : Int) ≤ (k : Int) := by omega
          have hab := mul_small hax hby
          have habI : (0 : Int) ≤ (a : Int) * (b : Int) ∧ (a : Int) * (b : Int) ≤ 999998000001 := by
            have h0 : (a : Int) * (b : Int) = ((a * b : Nat) : Int) := by simp
            omega
          clear hab
          have hikI : (i : Int) + (k : Int) < ((x.length + y.length : Nat) : Int) := by omega
          have hik0 : (0 : Int) ≤ (i : Int) + (k : Int) := by omega
          go_wp2_with fail
          go_quiet (fail)
          go_wp2_with fail
          obtain ⟨ho2, _⟩ := World.ownsRow.stored (w := wr.drewN nq) HO.out (i + k) (.int .i64 (((c + d + a * b) % 1000000 : Nat) : Int))
          rw [digCells_set] at ho2
          have e1 : (c : Int) + (d : Int) + (a : Int) * (b : Int) = ((c + d + a * b : Nat) : Int) := by simp
          have hab' := mul_small hax hby
          have hln := HLN.out
          have hst := mul_step (l := l) (y := y) (P := bv (x.take i) * bv y) (i := i) (k := k) (c := c) (a := a) (t := c + d + a * b) (by omega) (by rw [HDD.out, HBB.out]) HV.out.1
          rw [e1]
          have e2 : (((c + d + a * b : Nat) : Int) / 1000000) = (((c + d + a * b) / 1000000 : Nat) : Int) := by omega
          have e3 : (((c + d + a * b : Nat) : Int) % 1000000) = (((c + d + a * b) % 1000000 : Nat) : Int) := by omega
          rw [e2, e3]
          refine ⟨⟨(c + d + a * b) / 1000000, k + 1, l.set (i + k) ((c + d + a * b) % 1000000), rfl, by go_num, by omega, by omega, by show _ = _; rw [List.length_set]; exact hln, ⟨hst, HV.out.2.1.set _ (Nat.mod_lt _ (by decide)), fun j hj => ?_⟩, ho2, (below_drewN HB.out nq).setCell (Nat.le_refl _) _⟩, by simp [intOf]; omega⟩
          rw [getD_set_other (by omega)]
          exact HV.out.2.2 j hj
        · obtain rfl : k = y.length := by omega
          have hln := HLN.out
          have hco := (HO.out.cellAt (i + y.length) (by omega)).trans (digCells_get (by omega))
          have hfo := HO.out.frozenAt (i + y.length)
          have hdo := HV.out.2.2 (i + y.length) (Nat.le_refl _)
          rw [hdo] at hco
          have hikI : (i : Int) + (y.length : Int) < ((x.length + y.length : Nat) : Int) := by omega
          have hik0 : (0 : Int) ≤ (i : Int) + (y.length : Int) := by omega
          clear hln
          go_wp2_with fail
          obtain ⟨ho2, _⟩ := World.ownsRow.stored HO.out (i + y.length) (.int .i64 (c : Int))
          rw [digCells_set] at ho2
          have hln := HLN.out
          have hrow := mul_row (l := l) (x := x) (y := y) (i := i) (c := c) (by omega) hdo (by rw [← HA.out]; exact HV.out.1)
          refine ⟨⟨i + 1, l.set (i + y.length) c, by go_num, by omega, by show _ = _; rw [List.length_set]; exact hln, ⟨hrow, HV.out.2.1.set _ hc, fun j hj => ?_⟩, ho2, HB.out.setCell (Nat.le_refl _) _⟩, by simp [intOf]; omega⟩
          rw [getD_set_other (by omega)]
          exact HV.out.2.2 j (by omega)
    · obtain rfl : i = x.length := by omega
      have hrow := HO.out
      rw [show x.length + y.length = l.length from HLN.out.symm] at hrow
      obtain ⟨hI, hcap⟩ := intsAt_of_row hrow
      have ht := trimmed_at _ l wr HV.out.2.1 hI hcap
      rw [HLN.out] at ht
      have hval : Hid (bv l = bv x * bv y) := by
        have := HV.out.1
        rw [List.take_length] at this
        exact this
      clear hI hcap hrow
      go_wp2_with fail
      refine ht.mono ?_
      rintro e w4 ⟨r, rfl, hr, hw4⟩
      go_wp2_with fail
      go_ret
      exact ⟨r, rfl, by rw [← hval.out]; exact hr, HB.out⟩

/-- BigMul of any two that are not of a million digits. -/
theorem BigMul_any (u v : Value) (a b k : Nat) (w : World) (ha : BigAt w u a) (hb : BigAt w v b) (hka : a < 1000000 ^ k) (hkb : b < 1000000 ^ k) (hk : k ≤ 1000000) :
    Calls Tryz.prog 75 #[u, v] w fun e w' => ∃ r, e = .returned r ∧ BigAt w' r (a * b) ∧ Below w.heap.size w w' := by
  obtain ⟨x, hx1, hx2, rfl, hx⟩ := ha
  obtain ⟨y, hy1, hy2, rfl, hy⟩ := hb
  exact BigMul_ints u v x y w hx1 hy1 hx hy (by have := len_le_of_lt hx2 hka; omega) (by have := len_le_of_lt hy2 hkb; omega)
end Go.Proofs.YthomgmhmbalnbaaGreatDoor
