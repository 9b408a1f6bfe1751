/- Entropies by their values; what RENYI's are, by products. -/
import Derived.Test.YtklhfagcembigaaGreatDoorPackD
import Derived.Test.YtklhfagcembigaaGreatDoorPackE
import Derived.Test.YtklhfagcembigaaGreatDoorPackB
import Derived.Test.YtklhfagcembigaaGreatDoorCode
import Derived.Test.YtklhfagcembigaaGreatDoorWeights
import Derived.Test.YtklhfagcembigaaGreatDoorRows
import Derived.ChangeSame
import Derived.ChangeVars
import Derived.JoinedOf
import Derived.LaidLaws
import Derived.LaidHandle
import Derived.LaidMore
import Derived.Stop.Joined
import Derived.Test.YtklhfagcembigaaGreatDoorInts
import Derived.Test.YtklhfagcembigaaGreatDoorCards
import Derived.Test.YtklhfagcembigaaGreatDoorTie
import Derived.SevenTiedAt
import Derived.ProofKit
import Derived.OpenShut
import Derived.ChangeOld
import Derived.Lib.SmallJoins
import Derived.Deep.Matrix
namespace Go.Proofs.YtklhfagcembigaaGreatDoor
open Go.RowKit

/-- A number to its own power. -/
def selfPR (x : Nat) : Nat := x ^ x
theorem selfP_posR (x : Nat) : 0 < selfPR x := by
  unfold selfPR
  rcases Nat.eq_zero_or_pos x with e | e
  · rw [e]; decide
  · exact Nat.pow_pos e
def prdOR (z : Nat → Int) : Nat → Nat
  | 0 => 1
  | m + 1 => prdOR z m * selfPR (z m).toNat
theorem prdO_posR (z : Nat → Int) : ∀ m, 0 < prdOR z m
  | 0 => Nat.one_pos
  | m + 1 => Nat.mul_pos (prdO_posR z m) (selfP_posR _)
/-- It speaks of primes alone. -/
def SuppOR (f : Int → Int) : Prop := ∀ x, f x ≠ 0 → 2 ≤ x ∧ x ≤ 4096 ∧ Pr x.toNat
theorem supp_termOR (c : Int) (m : Nat) (h : c ≠ 0 → 0 < m ∧ m ≤ 4096) : SuppOR fun x => c * multI x m := fun x hx => by
  dsimp only at hx
  have h1 : c ≠ 0 := fun e => hx (by rw [e]; simp)
  have h2 : multI x m ≠ 0 := fun e => hx (by rw [e]; simp)
  obtain ⟨a1, a2, a3⟩ := multI_support (h h1).1 h2
  have := (h h1).2
  exact ⟨a2, by omega, a1⟩
theorem SuppOR.add {f g : Int → Int} (hf : SuppOR f) (hg : SuppOR g) : SuppOR fun x => f x + g x := fun x hx => by
  by_cases h : f x = 0
  · exact hg x (fun e => hx (by dsimp only; rw [h, e]; rfl))
  · exact hf x h
theorem SuppOR.sub {f g : Int → Int} (hf : SuppOR f) (hg : SuppOR g) : SuppOR fun x => f x - g x := fun x hx => by
  by_cases h : f x = 0
  · exact hg x (fun e => hx (by dsimp only; rw [h, e]; rfl))
  · exact hf x h
theorem supp_sumOR {F : Nat → Int → Int} : ∀ {n : Nat}, (∀ i, i < n → SuppOR (F i)) → SuppOR fun x => sumN (fun i => F i x) n
  | 0, _ => fun x hx => absurd rfl hx
  | n + 1, h => (supp_sumOR fun i hi => h i (by omega)).add (h n (by omega))
theorem ent_primOR {z : Nat → Int} {n N : Nat} (h : OkW z n) (hn : n ≤ 256) (hN : 1 ≤ N ∧ N ≤ 4096) : Prim fun x => sumN (entV z N x) n := by
  refine ⟨fun x => ent_bound (fun i hi => h.lt hi) hN.2 hn x, ?_⟩
  refine supp_sumOR (F := fun i x => entV z N x i) fun i hi => ?_
  have hc := h.lt hi
  exact (supp_termOR _ N (fun _ => hN)).sub (supp_termOR _ _ (fun h0 => by omega))
theorem mult_selfPR {q : Nat} (hq : Pr q) (x : Nat) : mult q (selfPR x) = x * mult q x := by
  unfold selfPR
  rcases Nat.eq_zero_or_pos x with e | e
  · rw [e, Nat.zero_mul]; exact mult_one hq.1
  · exact mult_power hq e _
theorem ent_prdR {z : Nat → Int} {S q : Nat} (hq : Pr q) : ∀ {n : Nat}, (∀ i, i < n → 0 ≤ z i) → sumN (entV z S (q : Int)) n = sumN z n * (mult q S : Int) - (mult q (prdOR z n) : Int)
  | 0, _ => by simp [sumN, prdOR, mult_one hq.1]
  | n + 1, h => by
    have hm : ∀ m, multI (q : Int) m = (mult q m : Int) := fun m => by rw [multI_pr (by simpa using hq)]; simp
    have h0 := h n (by omega)
    have e : z n = ((z n).toNat : Int) := by omega
    rw [sumN, ent_prdR hq (fun i hi => h i (by omega)), sumN, prdOR, mult_mul hq _ _ (prdO_posR z n) (selfP_posR _), mult_selfPR hq, entV, hm, hm, Int.natCast_add, Int.natCast_mul, ← e]
    grind
theorem Entropy_lvOR (a : Nat → Addr) (v : Value) (n S : Nat) (z : Nat → Int) (w : World) (hE : Errs w a) (h : NumsAt w v n z) (h0 : weightsErr z n = 0) (hS : sumN z n = (S : Int)) :
    Calls Tryz.prog 17 #[v] w fun e w' => ∃ dn u, e = .returned (.tuple #[.agg #[.int .i64 dn, u], .nilIface]) ∧ LV w' S (fun x => sumN (entV z S x) n) 4096 dn u ∧ Below w.heap.size w w' := by
  obtain ⟨h16, hok⟩ := weightsErr_ok h0
  have hp := hok.pos
  have hl := hok.le
  have hS0 : 1 ≤ S := by omega
  have hS4 : S ≤ 4096 := by omega
  rcases h with ⟨_, _, _, h1⟩ | ⟨b, o, c, rfl, _, hr⟩
  · have := hok.posN; omega
  refine (Entropy_ok a b o c n S z w hE hr h0 hS (fun i hi => (hok.lt hi).1) h16 hS0 hS4 hok.posN).mono ?_
  rintro e w' ⟨dn, u, rfl, hu, hb'⟩
  exact ⟨dn, u, rfl, hu.lv hS0 (by omega) (ent_primOR hok (by omega) ⟨hS0, hS4⟩), hb'⟩


theorem prdR_prod (z : Nat → Int) : ∀ n, prdOR z n = prodA (fun i => wN z i ^ wN z i) n
  | 0 => rfl
  | n + 1 => by
    show prdOR z n * selfPR (z n).toNat = prodA _ n * (wN z n ^ wN z n)
    rw [prdR_prod z n]; rfl
theorem log2_r6 {k m : Nat} (h : 2 ^ k * 1 ≤ m) (h6 : m ≤ 1000000) : k ≤ 19 := by
  rcases Nat.lt_or_ge k 20 with h1 | h1
  · omega
  · have := Nat.pow_le_pow_right (show 0 < 2 by omega) h1
    omega
/-- What is told of a fraction, by its value. -/
theorem Tells.lv {p q : Nat} {e : Ending} {w' : World} (h : Tells p q e w') (hp : 1 ≤ p) (hp6 : p ≤ 1000000) (hq : 1 ≤ q) (hq6 : q ≤ 1000000) : ∃ u, e = .returned (.tuple #[.agg #[.int .i64 1, u], .nilIface]) ∧ LV w' 1 (fun x => multI x p - multI x q) 40 1 u := by
  obtain ⟨u, t, rfl, hl, hi⟩ := h
  obtain ⟨k, j, h2, h3, h4⟩ := hi.len
  have k1 := log2_r6 h2 hp6
  have j1 := log2_r6 h3 hq6
  exact ⟨u, rfl, 1, t, rfl, hl, by omega, hi.ok (by omega) hp6 (by omega) hq6, fun x => by rw [hi.val]⟩
theorem multR_pr {q : Nat} (hq : Pr q) (m : Nat) : multI (q : Int) m = (mult q m : Int) := by rw [multI_pr (by simpa using hq)]; simp
/-- The sum of weights to any power is the product of powers. -/
theorem prodA_le_powR {f e : Nat → Nat} {m : Nat} : ∀ {n : Nat}, (∀ i, i < n → f i ≤ m) → prodA (fun i => f i ^ e i) n ≤ m ^ sumA e n
  | 0, _ => Nat.le_refl _
  | n + 1, h => by
    show prodA (fun i => f i ^ e i) n * f n ^ e n ≤ m ^ (sumA e n + e n)
    rw [Nat.pow_add]
    exact Nat.mul_le_mul (prodA_le_powR (fun i hi => h i (by omega))) (Nat.pow_le_pow_left (h n (by omega)) _)
theorem least_leR {z : Nat → Int} {n S : Nat} (hok : OkW z n) (hS : sumA (wN z) n = S) : prdOR z n ≤ mxNR z n ^ S := by
  rw [prdR_prod, ← hS]
  exact prodA_le_powR (mxN_atR hok).2.2.2
theorem sumA_leR {f g : Nat → Nat} : ∀ {n : Nat}, (∀ i, i < n → f i ≤ g i) → sumA f n ≤ sumA g n
  | 0, _ => Nat.le_refl _
  | n + 1, h => Nat.add_le_add (sumA_leR fun i hi => h i (by omega)) (h n (by omega))
theorem sqN_mxR {z : Nat → Int} {n S : Nat} (hok : OkW z n) (hS : sumA (wN z) n = S) : sqNR z n ≤ S * mxNR z n := by
  have h1 : sqNR z n ≤ sumA (fun i => mxNR z n * wN z i) n := sumA_leR fun i hi => Nat.mul_le_mul_right _ ((mxN_atR hok).2.2.2 i hi)
  rw [sumA_timesR, hS, Nat.mul_comm] at h1
  exact h1
/-- RENYI's second is no more than SHANNON's. -/
theorem coll_leR {z : Nat → Int} {n S : Nat} (hS : sumA (wN z) n = S) : S ^ S * prdOR z n ≤ sqNR z n ^ S := by
  have h1 := sums_le (wN z) (fun i => wN z i * wN z i) n
  rw [hS] at h1
  have e : prodA (fun i => (wN z i * wN z i) ^ wN z i) n = prdOR z n * prdOR z n := by
    rw [prdR_prod, ← prodA_mulR]
    exact prodA_congrR fun i _ => Nat.mul_pow _ _ _
  rw [e, ← prdR_prod] at h1
  have hp := prdO_posR z n
  refine Nat.le_of_mul_le_mul_right (c := prdOR z n) ?_ hp
  rw [Nat.mul_assoc]; exact h1
theorem cnt_sum (z : Nat → Int) : ∀ n, sumA (fun i => if 0 < z i then 1 else 0) n = cntP z n
  | 0 => rfl
  | n + 1 => by
    show sumA (fun i => if 0 < z i then 1 else 0) n + (if 0 < z n then 1 else 0) = cntP z n + (if 0 < z n then 1 else 0)
    rw [cnt_sum z n]
theorem cnt_prod (z : Nat → Int) : ∀ n, prodA (fun i => (if 0 < z i then 1 else 0) ^ wN z i) n = 1
  | 0 => rfl
  | n + 1 => by
    show prodA (fun i => (if 0 < z i then 1 else 0) ^ wN z i) n * (if 0 < z n then 1 else 0) ^ wN z n = 1
    rw [cnt_prod z n]
    by_cases h : 0 < z n
    · rw [if_pos h, Nat.one_pow]
    · rw [if_neg h]
      have : wN z n = 0 := by unfold wN; omega
      rw [this]
/-- SHANNON's is no more than HARTLEY's. -/
theorem supp_leR {z : Nat → Int} {n S : Nat} (hS : sumA (wN z) n = S) : S ^ S ≤ cntP z n ^ S * prdOR z n := by
  have h1 := sums_le (wN z) (fun i => if 0 < z i then 1 else 0) n
  rw [hS, cnt_prod, cnt_sum, Nat.mul_one, ← prdR_prod] at h1
  exact h1
end Go.Proofs.YtklhfagcembigaaGreatDoor

/- The law's helper sign, of two logarithms by their values. -/
namespace Go.Proofs.YtklhfagcembigaaGreatDoor
open Go.RowKit

set_option maxRecDepth 100000 in
set_option maxHeartbeats 2000000 in
theorem sign_lv {M L1 L2 : Nat} {f1 f2 : Int → Int} {d1 d2 : Int} {v1 v2 : Value} {U D : Nat} (a : Nat → Addr) (w : World) (hE : Errs w a) (h1 : LV w M f1 L1 d1 v1) (h2 : LV w M f2 L2 d2 v2) (hL : L1 + L2 ≤ 10000) (hM : 1 ≤ M) (hU : 0 < U) (hD : 0 < D) (hm : ∀ q : Nat, Pr q → f1 (q : Int) - f2 (q : Int) = (mult q U : Int) - (mult q D : Int)) (hle : D ≤ U) :
    Calls Tryz.prog 18 #[.agg #[.int .i64 d1, v1], .agg #[.int .i64 d2, v2]] w fun e w' => (∃ z : Int, 0 ≤ z ∧ e = .returned (.int .i64 z)) ∧ Below w.heap.size w w' := by
  obtain ⟨ad1, k1, cap1, rfl⟩ := h1.form
  obtain ⟨ad2, k2, cap2, rfl⟩ := h2.form
  obtain ⟨e1, t1, rfl, l1, n1, o1, w1'⟩ := h1
  obtain ⟨e2, t2, rfl, l2, n2, o2, w2'⟩ := h2
  obtain ⟨W0, hW0⟩ : ∃ W0, W0 = (w.alloc (.cells #[.int .i64 (e1 : Int), .slice ad1 k1 cap1] 27)).alloc (.cells #[.int .i64 (e2 : Int), .slice ad2 k2 cap2] 27) := ⟨_, rfl⟩
  have hb0 : Below w.heap.size w W0 := by rw [hW0]; exact below_chain (new_below _ _) (new_below _ _)
  have HC0 : Hid (∀ W, Below W0.heap.size W0 W → (W.cell? ⟨w.heap.size, 0, none⟩ = some (.int .i64 (e1 : Int)) ∧ W.cell? ⟨w.heap.size, 1, none⟩ = some (.slice ad1 k1 cap1)) ∧ (W.cell? ⟨w.heap.size + 1, 0, none⟩ = some (.int .i64 (e2 : Int)) ∧ W.cell? ⟨w.heap.size + 1, 1, none⟩ = some (.slice ad2 k2 cap2))) := fun W hb => by
    have hr := hb
    rw [hW0] at hr
    have r2 := res_past hr
    rw [World.size_alloc] at r2
    have r1 := res_past (w := w) (below_chain (new_below _ _) hr)
    exact ⟨⟨r1.1, r1.2.1⟩, r2.1, r2.2.1⟩
  have hsc := Scale_back (e2 : Int) (.slice ad2 k2 cap2) t2.length (pOf t2) (cOf t2) a W0 (hE.below hb0) (listAt_log (l2.later hb0)) o2 (by omega)
  obtain ⟨np, nc, nl⟩ := negL_parts t2
  have o2' : OkLog e2 (negL t2).length (pOf (negL t2)) (cOf (negL t2)) := by rw [np, nc, nl]; exact okLog_neg o2
  have HAD : Hid (∀ (W : World) (v : Value), Below W0.heap.size W0 W → OwnAt W v t2.length (pOf t2) (fun i => -cOf t2 i) → Calls Tryz.prog 40 #[.agg #[.int .i64 (e1 : Int), .slice ad1 k1 cap1], .agg #[.int .i64 (e2 : Int), v]] W fun e w' => ((∃ d t v, SumOk e1 e2 t1 (negL t2) d t ∧ e = .returned (.tuple #[.agg #[.int .i64 (d : Nat), v], .nilIface]) ∧ ListAt w' v t) ∨ ∃ ad, e = .returned (.tuple #[.agg #[.int .i64 0, .slice none 0 0], .iface 183 (.pointer (some ad))])) ∧ Below W.heap.size W w') := fun W v hb hv => by
    have hv' : ListAt W v (negL t2) := by unfold ListAt; rw [np, nc, nl]; exact hv
    refine (Add_all e1 e2 _ v t1 (negL t2) a W (hE.below (below_chain hb0 hb)) (listAt_log ((l1.later hb0).later hb)) (listAt_log hv') (by omega)).mono ?_
    rintro e w' ⟨h | ⟨_, h⟩, hb'⟩
    · exact ⟨Or.inl h, hb'⟩
    · exact ⟨Or.inr h, hb'⟩
  have HSG : Hid (∀ (W : World) (d : Nat) (t : List (Int × Int)) (v : Value), Below W0.heap.size W0 W → SumOk e1 e2 t1 (negL t2) d t → ListAt W v t → Calls Tryz.prog 41 #[.agg #[.int .i64 (d : Int), v]] W fun e w' => ((∃ z : Int, 0 ≤ z ∧ e = .returned (.tuple #[.int .i64 z, .nilIface])) ∨ ∃ ad, e = .returned (.tuple #[.int .i64 0, .iface 183 (.pointer (some ad))])) ∧ Below W.heap.size W w') := fun W d t v hb hs hl => by
    have hok := hs.ok
    have hval := hs.2.2.1.val
    have hlen := hs.2.2.1.len
    simp only [Int.toNat_natCast] at hval
    have hd : ∀ x, (M : Int) * atL t x = (d : Int) * (f1 x - f2 x) := fun x => by
      have h8 := hval x
      rw [negL_at] at h8
      have h9 := lv_add (f2 := -f2 x) (OkLog.canon (d := e1) o1).pos (OkLog.canon (d := e2) o2).pos (w1' x) (by rw [Int.mul_neg, w2' x, Int.mul_neg]) h8
      rw [h9, Int.sub_eq_add_neg]
    obtain ⟨s1, s2, s3⟩ := by_sides2 hok hd hU hD hm
    have hc := cmp_ge s1 hM s2 s3 hU hle
    by_cases hfit : cost (pOf t) (cOf t) t.length ≤ 40000
    · refine (Sign_log d v t.length (pOf t) (cOf t) a true true (by simpa using hok) (by simpa using hfit) W (hE.below (below_chain hb0 hb)) (listAt_log hl) (by omega)).mono ?_
      rintro e w' ⟨rfl, hb'⟩
      exact ⟨Or.inl ⟨_, hc, rfl⟩, hb'⟩
    · refine (Sign_log d v t.length (pOf t) (cOf t) a true false (by simpa using hok) (by simpa using hfit) W (hE.below (below_chain hb0 hb)) (listAt_log hl) (by omega)).mono ?_
      rintro e w' ⟨rfl, hb'⟩
      exact ⟨Or.inr ⟨_, rfl⟩, hb'⟩
  have HB0 := Hid.mk' hb0
  have HW0 := Hid.mk' hW0
  have c00 := HC0.out W0 (Below.refl _ _)
  obtain ⟨⟨x0, x1⟩, y0, y1⟩ := c00
  clear hE hb0 hW0 o1 o2 o2' l1 l2 w1' w2' hm hle np nc nl
  go_enter Tryz.func18, Tryz.ntmps18
  go_upto_region 1 with fail
  rw [← HW0.out]
  go_wp2_with fail
  refine hsc.mono ?_
  clear hsc x0 x1 y0 y1
  rintro e w1 ⟨v1, rfl, hv1, hb1⟩
  obtain ⟨ad3, k3, cap3, rfl⟩ := ownAt_slice hv1
  obtain ⟨W1, hW1⟩ : ∃ W1, W1 = w1.alloc (.cells #[.int .i64 (e2 : Int), .slice ad3 k3 cap3] 27) := ⟨_, rfl⟩
  have hb01 : Below W0.heap.size W0 W1 := by rw [hW1]; exact below_chain hb1 (new_below _ _)
  have hv1' : OwnAt W1 (.slice ad3 k3 cap3) t2.length (pOf t2) (fun i => -cOf t2 i) := by rw [hW1]; exact hv1.later (new_below _ _)
  have HC1 : Hid (∀ W, Below W1.heap.size W1 W → W.cell? ⟨w1.heap.size, 0, none⟩ = some (.int .i64 (e2 : Int)) ∧ W.cell? ⟨w1.heap.size, 1, none⟩ = some (.slice ad3 k3 cap3) ∧ W.frozen? ⟨w1.heap.size, 0, none⟩ = false ∧ W.frozen? ⟨w1.heap.size, 1, none⟩ = false) := fun W hb => by
    rw [hW1] at hb
    exact res_past hb
  have hB1 : W0.heap.size ≤ w1.heap.size := hb1.size
  have had := HAD.out W1 _ hb01 hv1'
  obtain ⟨⟨x0, x1⟩, _, _⟩ := HC0.out W1 hb01
  obtain ⟨y0, y1, _, _⟩ := HC1.out W1 (Below.refl _ _)
  have HW1 := Hid.mk' hW1
  have HB01 := Hid.mk' hb01
  clear hv1 hb1 hv1' hb01 hW1 HAD
  go_upto_region 2 with fail
  rw [← HW1.out]
  clear HW1
  go_wp2_with fail
  refine had.mono ?_
  clear had x0 x1 y0 y1
  rintro e w2 ⟨⟨d, t, v2, hs, rfl, hl2⟩ | ⟨ad, rfl⟩, hb2⟩
  · obtain ⟨ad4, k4, cap4, rfl⟩ := ownAt_slice hl2
    obtain ⟨z0, z1, f0, f1⟩ := HC1.out w2 hb2
    obtain ⟨W2, hW2⟩ : ∃ W2, W2 = (w2.setCell ⟨w1.heap.size, 0, none⟩ (.int .i64 (d : Int))).setCell ⟨w1.heap.size, 1, none⟩ (.slice ad4 k4 cap4) := ⟨_, rfl⟩
    have hb02 : Below W0.heap.size W0 W2 := by rw [hW2]; exact ((below_chain HB01.out hb2).setCell hB1 _).setCell hB1 _
    have hl2' : ListAt W2 (.slice ad4 k4 cap4) t := by rw [hW2]; exact ownAt_put hl2 z1
    have q0 : W2.cell? ⟨w1.heap.size, 0, none⟩ = some (.int .i64 (d : Int)) := by
      rw [hW2, World.cell?_setCell_other _ _ _ _ (by simp)]
      exact World.cell?_setCell_same _ _ _ z0
    have q1 : W2.cell? ⟨w1.heap.size, 1, none⟩ = some (.slice ad4 k4 cap4) := by
      rw [hW2]
      exact World.cell?_setCell_same _ _ _ (by rw [World.cell?_setCell_other _ _ _ _ (by simp)]; exact z1)
    have hsg := HSG.out W2 d t _ hb02 hs hl2'
    have HB2 := Hid.mk' (below_chain HB0.out hb02)
    have HW2 := Hid.mk' hW2
    clear hs hl2 hb2 hb02 hl2' hW2 HSG HC0
    go_upto_region 5 with fail
    rw [← HW2.out]
    clear HW2 z0 z1 f0 f1
    go_wp2_with fail
    refine hsg.mono ?_
    clear hsg
    rintro e w3 ⟨⟨z, hz, rfl⟩ | ⟨ad, rfl⟩, hb3⟩
    · have HB3 := Hid.mk' (below_chain HB2.out hb3)
      clear hb3
      go_wp2_with fail
      go_ret
      exact ⟨⟨z, hz, rfl⟩, HB3.out⟩
    · have HB3 := Hid.mk' (below_chain HB2.out hb3)
      clear hb3
      go_wp2_with fail
      go_ret
      exact ⟨⟨2, by omega, rfl⟩, HB3.out⟩
  · obtain ⟨z0, z1, f0, f1⟩ := HC1.out w2 hb2
    have HB2 := Hid.mk' (below_chain (below_chain HB0.out HB01.out) hb2)
    have hB1' : w.heap.size ≤ w1.heap.size := by have := HB0.out.size; omega
    clear hb2 HSG HC0
    go_wp2_with fail
    go_ret
    exact ⟨⟨2, by omega, rfl⟩, (HB2.out.setCell hB1' _).setCell hB1' _⟩
end Go.Proofs.YtklhfagcembigaaGreatDoor

/- The law's sign, of RENYI's entropies. -/
namespace Go.Proofs.YtklhfagcembigaaGreatDoor
open Go.RowKit

theorem lv_wideR {W : World} {F : Int → Int} {L : Nat} {dn : Int} {v : Value} (h : LV W 1 F L dn v) (S : Nat) : LV W S (fun x => (S : Int) * F x) L dn v := by
  have h1 := h.wide S
  rwa [Nat.mul_one] at h1
theorem coll_mult {S T q : Nat} (hq : Pr q) (hS : 0 < S) (hT : 0 < T) : (mult q (S * S / Nat.gcd T (S * S)) : Int) - (mult q (T / Nat.gcd T (S * S)) : Int) = 2 * (mult q S : Int) - (mult q T : Int) := by
  have hSS : 0 < S * S := Nat.mul_pos hS hS
  have hg : 0 < Nat.gcd T (S * S) := Nat.gcd_pos_of_pos_left _ hT
  have e1 : S * S = Nat.gcd T (S * S) * (S * S / Nat.gcd T (S * S)) := (Nat.mul_div_cancel' (Nat.gcd_dvd_right _ _)).symm
  have e2 : T = Nat.gcd T (S * S) * (T / Nat.gcd T (S * S)) := (Nat.mul_div_cancel' (Nat.gcd_dvd_left _ _)).symm
  have p1 : 0 < S * S / Nat.gcd T (S * S) := Nat.div_pos (Nat.gcd_le_right _ hSS) hg
  have p2 : 0 < T / Nat.gcd T (S * S) := Nat.div_pos (Nat.gcd_le_left _ hT) hg
  have m1 : mult q (S * S) = mult q (Nat.gcd T (S * S)) + mult q (S * S / Nat.gcd T (S * S)) := by
    conv => lhs; rw [e1]
    exact mult_mul hq _ _ hg p1
  have m2 : mult q T = mult q (Nat.gcd T (S * S)) + mult q (T / Nat.gcd T (S * S)) := by
    conv => lhs; rw [e2]
    exact mult_mul hq _ _ hg p2
  have m3 : mult q (S * S) = mult q S + mult q S := mult_mul hq _ _ hS hS
  omega
theorem sgn_ca {W : World} {z : Nat → Int} {n S : Nat} {d1 d2 : Int} {v1 v2 : Value} (a : Nat → Addr) (hE : Errs W a) (hok : OkW z n) (hS : sumN z n = (S : Int)) (h1 : LV W S (fun x => sumN (entV z S x) n) 4096 d1 v1) (h2 : LV W 1 (fun x => multI x S - multI x (mxNR z n)) 40 d2 v2) :
    Calls Tryz.prog 18 #[.agg #[.int .i64 d1, v1], .agg #[.int .i64 d2, v2]] W fun e w' => (∃ z : Int, 0 ≤ z ∧ e = .returned (.int .i64 z)) ∧ Below W.heap.size W w' := by
  have hS0 : 0 < S := by have := hok.pos; omega
  have hw := wN_sum hok.nn
  have hmx := (mxN_atR hok).2.1
  refine sign_lv (U := mxNR z n ^ S) (D := prdOR z n) a W hE h1 (lv_wideR h2 S) (by decide) hS0 (Nat.pow_pos hmx) (prdO_posR _ _) (fun q hq => ?_) (least_leR hok (by omega))
  have e1 := ent_prdR (z := z) (S := S) hq (n := n) hok.nn
  rw [hS] at e1
  show sumN (entV z S (q : Int)) n - (S : Int) * (multI (q : Int) S - multI (q : Int) (mxNR z n)) = _
  rw [e1, multR_pr hq, multR_pr hq, mult_power hq hmx S, Int.natCast_mul, Int.mul_sub]
  omega
theorem sgn_dc {W : World} {z : Nat → Int} {n S : Nat} {d1 d2 : Int} {v1 v2 : Value} (a : Nat → Addr) (hE : Errs W a) (hok : OkW z n) (hS : sumN z n = (S : Int)) (h1 : LV W S (fun x => sumN (entV z S x) n) 4096 d1 v1) (h2 : LV W 1 (fun x => multI x (cntP z n) - multI x 1) 40 d2 v2) :
    Calls Tryz.prog 18 #[.agg #[.int .i64 d2, v2], .agg #[.int .i64 d1, v1]] W fun e w' => (∃ z : Int, 0 ≤ z ∧ e = .returned (.int .i64 z)) ∧ Below W.heap.size W w' := by
  have hS0 : 0 < S := by have := hok.pos; omega
  have hw := wN_sum hok.nn
  have hc := cntP_pos hok.nn hok.pos
  have hcs : 0 < cntP z n ^ S := Nat.pow_pos hc
  refine sign_lv (U := cntP z n ^ S * prdOR z n) (D := S ^ S) a W hE (lv_wideR h2 S) h1 (by decide) hS0 (Nat.mul_pos hcs (prdO_posR _ _)) (Nat.pow_pos hS0) (fun q hq => ?_) (supp_leR (by omega))
  have e1 := ent_prdR (z := z) (S := S) hq (n := n) hok.nn
  rw [hS] at e1
  show (S : Int) * (multI (q : Int) (cntP z n) - multI (q : Int) 1) - sumN (entV z S (q : Int)) n = _
  rw [e1, multR_pr hq, multR_pr hq, mult_one hq.1, mult_mul hq _ _ hcs (prdO_posR _ _), mult_power hq hc S, mult_power hq hS0 S, Int.natCast_add, Int.natCast_mul, Int.natCast_mul, Int.mul_sub]
  simp
  omega
theorem sgn_ba {W : World} {z : Nat → Int} {n S : Nat} {d1 d2 : Int} {v1 v2 : Value} (a : Nat → Addr) (hE : Errs W a) (hok : OkW z n) (hS : sumN z n = (S : Int)) (h1 : LV W 1 (fun x => multI x (S * S / Nat.gcd (sqNR z n) (S * S)) - multI x (sqNR z n / Nat.gcd (sqNR z n) (S * S))) 40 d1 v1) (h2 : LV W 1 (fun x => multI x S - multI x (mxNR z n)) 40 d2 v2) :
    Calls Tryz.prog 18 #[.agg #[.int .i64 d1, v1], .agg #[.int .i64 d2, v2]] W fun e w' => (∃ z : Int, 0 ≤ z ∧ e = .returned (.int .i64 z)) ∧ Below W.heap.size W w' := by
  have hS0 : 0 < S := by have := hok.pos; omega
  have hw := wN_sum hok.nn
  have hmx := (mxN_atR hok).2.1
  have hT : 0 < sqNR z n := sqN_posR (by omega)
  refine sign_lv (U := S * mxNR z n) (D := sqNR z n) a W hE h1 h2 (by decide) (Nat.le_refl _) (Nat.mul_pos hS0 hmx) hT (fun q hq => ?_) (sqN_mxR hok (by omega))
  have e1 := coll_mult (S := S) (T := sqNR z n) hq hS0 hT
  show multI (q : Int) _ - multI (q : Int) _ - (multI (q : Int) S - multI (q : Int) (mxNR z n)) = _
  rw [multR_pr hq, multR_pr hq, multR_pr hq, multR_pr hq, e1, mult_mul hq _ _ hS0 hmx, Int.natCast_add]
  omega
theorem sgn_cb {W : World} {z : Nat → Int} {n S : Nat} {d1 d2 : Int} {v1 v2 : Value} (a : Nat → Addr) (hE : Errs W a) (hok : OkW z n) (hS : sumN z n = (S : Int)) (h1 : LV W S (fun x => sumN (entV z S x) n) 4096 d1 v1) (h2 : LV W 1 (fun x => multI x (S * S / Nat.gcd (sqNR z n) (S * S)) - multI x (sqNR z n / Nat.gcd (sqNR z n) (S * S))) 40 d2 v2) :
    Calls Tryz.prog 18 #[.agg #[.int .i64 d1, v1], .agg #[.int .i64 d2, v2]] W fun e w' => (∃ z : Int, 0 ≤ z ∧ e = .returned (.int .i64 z)) ∧ Below W.heap.size W w' := by
  have hS0 : 0 < S := by have := hok.pos; omega
  have hw := wN_sum hok.nn
  have hT : 0 < sqNR z n := sqN_posR (by omega)
  have hSS : 0 < S ^ S := Nat.pow_pos hS0
  refine sign_lv (U := sqNR z n ^ S) (D := S ^ S * prdOR z n) a W hE h1 (lv_wideR h2 S) (by decide) hS0 (Nat.pow_pos hT) (Nat.mul_pos hSS (prdO_posR _ _)) (fun q hq => ?_) (coll_leR (by omega))
  have e0 := coll_mult (S := S) (T := sqNR z n) hq hS0 hT
  have e1 := ent_prdR (z := z) (S := S) hq (n := n) hok.nn
  rw [hS] at e1
  show sumN (entV z S (q : Int)) n - (S : Int) * (multI (q : Int) _ - multI (q : Int) _) = _
  rw [e1, multR_pr hq, multR_pr hq, e0, mult_mul hq _ _ hSS (prdO_posR _ _), mult_power hq hS0 S, mult_power hq hT S, Int.natCast_add, Int.natCast_mul, Int.natCast_mul, Int.mul_sub]
  have e2 : (S : Int) * (2 * (mult q S : Int)) = 2 * ((S : Int) * (mult q S : Int)) := by grind
  rw [e2]
  omega
end Go.Proofs.YtklhfagcembigaaGreatDoor

/- coded of an error by its number. -/
namespace Go.Proofs.YtklhfagcembigaaGreatDoor
open Go.RowKit

theorem coded_errV (a : Nat → Addr) (c : Nat) (hc : c ≤ 8) (w : World) (h : Errs w a) :
    Calls Tryz.prog 19 #[errV a c, .int .i64 (c : Int)] w fun e w' => e = .returned (.bool true) ∧ Below w.heap.size w w' := by
  by_cases h0 : c = 0
  · subst h0
    rw [errV_zero]
    refine (coded_nil 0 w).mono ?_
    rintro e w' ⟨rfl, rfl⟩
    exact ⟨rfl, Below.refl _ _⟩
  · rw [errV_pos a h0]
    have h1 := coded_err a (c - 1) (by omega) (c : Int) w h
    have e : decide ((c : Int) = ((c - 1 : Nat) : Int) + 1) = true := decide_eq_true (by omega)
    rw [e] at h1
    exact h1
end Go.Proofs.YtklhfagcembigaaGreatDoor

/- RenyiOrder: the law. -/
namespace Go.Proofs.YtklhfagcembigaaGreatDoor
open Go.RowKit

/-- A logarithm in a box. -/
structure LgB (w : World) (b : Nat) (d : Int) (v : Value) : Prop where
  c0 : w.cell? ⟨b, 0, none⟩ = some (.int .i64 d)
  c1 : w.cell? ⟨b, 1, none⟩ = some v
theorem LgB.later {w w' : World} {b : Nat} {d : Int} {v : Value} (h : LgB w b d v) (hb : Below w.heap.size w w') : LgB w' b d v :=
  ⟨by rw [hb.cell (cell_lt h.c0)]; exact h.c0, by rw [hb.cell (cell_lt h.c1)]; exact h.c1⟩
theorem LgB.fresh (w : World) (d : Int) (v : Value) : LgB (w.alloc (.cells #[.int .i64 d, v] 27)) w.heap.size d v := ⟨by simp, by simp⟩
theorem new_belowL (w : World) (X : Obj) : Below w.heap.size w (w.alloc X) := (Below.refl _ _).alloc (Nat.le_refl _) _
theorem Ror_few (a : Nat → Addr) (ad : Option Addr) (n cap : Nat) (w : World) (hE : Errs w a) (hm : n ≤ maxLen) (hq : 16 < n) :
    Calls Tryz.prog 4 #[.slice ad n cap] w fun e w' => e = .returned (.bool true) ∧ Below w.heap.size w w' := by
  have HTH := Hid.mk' (dice_any a w hE)
  unfold maxLen at hm
  have hmI : (n : Int) ≤ 9223372036854775807 := by omega
  have hqd : decide ((16 : Int) < (n : Int)) = true := decide_eq_true (by omega)
  clear hE
  go_enter Tryz.func4, Tryz.ntmps4
  go_wp2_with fail
  refine HTH.out.mono ?_
  rintro e w2 ⟨rfl, hb2⟩
  have HB2 := Hid.mk' hb2
  clear hb2 HTH
  go_wp2_with fail
  go_ret
  exact ⟨rfl, HB2.out⟩
theorem Ror_bad (a : Nat → Addr) (ad : Option Addr) (n cap : Nat) (z : Nat → Int) (w : World) (hE : Errs w a) (h : NumsAt w (.slice ad n cap) n z) (hq : n ≤ 16) (h0 : weightsErr z n ≠ 0) :
    Calls Tryz.prog 4 #[.slice ad n cap] w fun e w' => e = .returned (.bool true) ∧ Below w.heap.size w w' := by
  have HTH := Hid.mk' (dice_any a w hE)
  have hqd : decide ((16 : Int) < (n : Int)) = false := decide_eq_false (by omega)
  have HWE := Hid.mk' (fun (W : World) (hb : Below w.heap.size w W) => WeightsError_any (.slice ad n cap) n z W (h.later hb) (by omega))
  have hcb : 0 < weightsErr z n := by omega
  generalize weightsErr z n = ce at *
  clear hE h h0
  go_enter Tryz.func4, Tryz.ntmps4
  go_wp2_with fail
  refine HTH.out.mono ?_
  rintro e w2 ⟨rfl, hb2⟩
  have HB1 := Hid.mk' hb2
  clear hb2 HTH
  go_wp2_with fail
  refine (HWE.out w2 HB1.out).mono ?_
  rintro e w3 ⟨rfl, hw3⟩
  rw [hw3]
  clear hw3 HWE
  go_wp2_with fail
  go_ret
  exact ⟨rfl, HB1.out⟩
set_option maxRecDepth 100000 in
set_option maxHeartbeats 8000000 in
theorem Ror_ok (a : Nat → Addr) (ad : Option Addr) (n cap : Nat) (z : Nat → Int) (w : World) (hE : Errs w a) (h : NumsAt w (.slice ad n cap) n z) (h0 : weightsErr z n = 0) :
    Calls Tryz.prog 4 #[.slice ad n cap] w fun e w' => e = .returned (.bool true) ∧ Below w.heap.size w w' := by
  have HTH := Hid.mk' (dice_any a w hE)
  obtain ⟨h16, hok⟩ := weightsErr_ok h0
  have hp := hok.pos
  have hl := hok.le
  obtain ⟨S, hS⟩ : ∃ S : Nat, sumN z n = (S : Int) := ⟨(sumN z n).toNat, by omega⟩
  have hqd : decide ((16 : Int) < (n : Int)) = false := decide_eq_false (by omega)
  have HWE := Hid.mk' (fun (W : World) (hb : Below w.heap.size w W) => WeightsError_any (.slice ad n cap) n z W (h.later hb) (by omega))
  rw [h0] at HWE
  have HIN := Hid.mk' (fun (W : World) (hb : Below w.heap.size w W) => ints_any (.slice ad n cap) n z W (h.later hb) (by omega))
  have HE := Hid.mk' (fun (W : World) (hb : Below w.heap.size w W) => hE.below hb)
  have hS0 : 1 ≤ S := by omega
  have hS4 : S ≤ 4096 := by omega
  have hmx := mxN_atR hok
  have hcp := cntP_pos hok.nn hp
  have hcl := cntP_le z n
  have hw := wN_sum hok.nn
  have hT := sqN_posR (z := z) (n := n) (by omega)
  have hT1 : sqNR z n ≤ S * S := by have := sqN_leR (z := z) (S := S) (n := n) (by omega); rwa [show sumA (wN z) n = S by omega] at this
  have hSP : 0 < S * S := Nat.mul_pos hS0 hS0
  have HLS : Hid (∀ W v, Below w.heap.size w W → NumsAt W v n z → Calls Tryz.prog 10 #[v] W fun e w' => (∃ va vn vc, e = .returned (.tuple #[.agg #[.int .i64 1, .slice va vn vc], .nilIface]) ∧ LV w' 1 (fun x => multI x S - multI x (mxNR z n)) 40 1 (.slice va vn vc)) ∧ Below W.heap.size W w') := fun W v hb hv => by
    refine (Least_okR a v n S z W (hE.below hb) hv hS h0).mono ?_
    rintro e w' ⟨ht, hb'⟩
    obtain ⟨u, rfl, hu⟩ := ht.lv hS0 (by omega) hmx.2.1 (by omega)
    obtain ⟨va, vn, vc, rfl⟩ := hu.form
    exact ⟨⟨va, vn, vc, rfl, hu⟩, hb'⟩
  have HSU : Hid (∀ W v, Below w.heap.size w W → NumsAt W v n z → Calls Tryz.prog 11 #[v] W fun e w' => (∃ va vn vc, e = .returned (.tuple #[.agg #[.int .i64 1, .slice va vn vc], .nilIface]) ∧ LV w' 1 (fun x => multI x (cntP z n) - multI x 1) 40 1 (.slice va vn vc)) ∧ Below W.heap.size W w') := fun W v hb hv => by
    refine (Support_ok a v n S z W (hE.below hb) hv hS h0).mono ?_
    rintro e w' ⟨ht, hb'⟩
    obtain ⟨u, rfl, hu⟩ := ht.lv hcp (by omega) (Nat.le_refl _) (by omega)
    obtain ⟨va, vn, vc, rfl⟩ := hu.form
    exact ⟨⟨va, vn, vc, rfl, hu⟩, hb'⟩
  have HEN : Hid (∀ W v, Below w.heap.size w W → NumsAt W v n z → Calls Tryz.prog 17 #[v] W fun e w' => (∃ dn va vn vc, e = .returned (.tuple #[.agg #[.int .i64 dn, .slice va vn vc], .nilIface]) ∧ LV w' S (fun x => sumN (entV z S x) n) 4096 dn (.slice va vn vc)) ∧ Below W.heap.size W w') := fun W v hb hv => by
    refine (Entropy_lvOR a v n S z W (hE.below hb) hv h0 hS).mono ?_
    rintro e w' ⟨dn, u, rfl, hu, hb'⟩
    obtain ⟨va, vn, vc, rfl⟩ := hu.form
    exact ⟨⟨dn, va, vn, vc, rfl, hu⟩, hb'⟩
  have HCA := Hid.mk' (fun (W : World) (hb : Below w.heap.size w W) (d1 d2 : Int) (v1 v2 : Value) h1 h2 => sgn_ca (W := W) (d1 := d1) (d2 := d2) (v1 := v1) (v2 := v2) a (hE.below hb) hok hS h1 h2)
  have HDC := Hid.mk' (fun (W : World) (hb : Below w.heap.size w W) (d1 d2 : Int) (v1 v2 : Value) h1 h2 => sgn_dc (W := W) (d1 := d1) (d2 := d2) (v1 := v1) (v2 := v2) a (hE.below hb) hok hS h1 h2)
  have HBA := Hid.mk' (fun (W : World) (hb : Below w.heap.size w W) (d1 d2 : Int) (v1 v2 : Value) h1 h2 => sgn_ba (W := W) (d1 := d1) (d2 := d2) (v1 := v1) (v2 := v2) a (hE.below hb) hok hS h1 h2)
  have HCB := Hid.mk' (fun (W : World) (hb : Below w.heap.size w W) (d1 d2 : Int) (v1 v2 : Value) h1 h2 => sgn_cb (W := W) (d1 := d1) (d2 := d2) (v1 := v1) (v2 := v2) a (hE.below hb) hok hS h1 h2)
  have HCO : Hid (∀ W v, Below w.heap.size w W → NumsAt W v n z → Calls Tryz.prog 8 #[v] W fun e w' => ((∃ va vn vc, e = .returned (.tuple #[.agg #[.int .i64 1, .slice va vn vc], .nilIface]) ∧ LV w' 1 (fun x => multI x (S * S / Nat.gcd (sqNR z n) (S * S)) - multI x (sqNR z n / Nat.gcd (sqNR z n) (S * S))) 40 1 (.slice va vn vc)) ∨ e = .returned (.tuple #[.agg #[.int .i64 0, .slice none 0 0], errV a 2])) ∧ Below W.heap.size W w') := fun W v hb hv => by
    rcases Nat.lt_or_ge 1000000 (S * S / Nat.gcd (sqNR z n) (S * S)) with h1 | h1
    · refine (Collision_big a v n S z W (hE.below hb) hv hS h0 h1).mono ?_
      rintro e w' ⟨rfl, hb'⟩
      exact ⟨Or.inr rfl, hb'⟩
    · refine (Collision_ok a v n S z W (hE.below hb) hv hS h0 h1).mono ?_
      rintro e w' ⟨ht, hb'⟩
      have hg : 0 < Nat.gcd (sqNR z n) (S * S) := Nat.gcd_pos_of_pos_left _ hT
      have p1 : 0 < S * S / Nat.gcd (sqNR z n) (S * S) := Nat.div_pos (Nat.gcd_le_right _ hSP) hg
      have p2 : 0 < sqNR z n / Nat.gcd (sqNR z n) (S * S) := Nat.div_pos (Nat.gcd_le_left _ hT) hg
      have p3 : sqNR z n / Nat.gcd (sqNR z n) (S * S) ≤ S * S / Nat.gcd (sqNR z n) (S * S) := Nat.div_le_div_right hT1
      obtain ⟨u, rfl, hu⟩ := ht.lv p1 h1 p2 (by omega)
      obtain ⟨va, vn, vc, rfl⟩ := hu.form
      exact ⟨Or.inl ⟨va, vn, vc, rfl, hu⟩, hb'⟩
  have HCD := Hid.mk' (fun (W : World) (hb : Below w.heap.size w W) => coded_errV a 2 (by decide) W (hE.below hb))
  have hEV : errV a 2 = .iface 183 (.pointer (some (a 1))) := rfl
  rw [hEV] at HCO HCD
  clear hE h hok h0 hp hl hS hS0 hS4 hmx hcp hcl hw hT hT1 hSP hEV
  generalize (fun x => multI x S - multI x (mxNR z n)) = fA at *
  generalize (fun x => multI x (cntP z n) - multI x 1) = fD at *
  generalize (fun x => sumN (entV z S x) n) = fC at *
  generalize (fun x => multI x (S * S / Nat.gcd (sqNR z n) (S * S)) - multI x (sqNR z n / Nat.gcd (sqNR z n) (S * S))) = fB at *
  go_enter Tryz.func4, Tryz.ntmps4
  go_wp2_with fail
  refine HTH.out.mono ?_
  rintro e w2 ⟨rfl, hb2⟩
  have HB1 := Hid.mk' hb2
  clear hb2 HTH
  go_wp2_with fail
  refine (HWE.out w2 HB1.out).mono ?_
  rintro e w3 ⟨rfl, hw3⟩
  rw [hw3]
  clear hw3 HWE
  go_wp2_with fail
  -- Least
  refine (HIN.out w2 HB1.out).mono ?_
  rintro e w3 ⟨v3, rfl, hv3, hb3⟩
  have HB3 := Hid.mk' (below_chain HB1.out hb3)
  have HD3 := Hid.mk' (HLS.out w3 v3 HB3.out hv3)
  clear hv3 hb3
  go_wp2_with fail
  refine HD3.out.mono ?_
  rintro e w4 ⟨⟨aa, an, ac, rfl, hla⟩, hb4⟩
  have HB4 := Hid.mk' (below_chain (below_chain HB3.out hb4) (new_belowL w4 (.cells #[.int .i64 1, .slice aa an ac] 27)))
  have HLA := Hid.mk' (hla.later (new_belowL w4 (.cells #[.int .i64 1, .slice aa an ac] 27)))
  have HXA := Hid.mk' (LgB.fresh w4 1 (.slice aa an ac))
  clear hla hb4 HD3 HB3
  go_upto_region 5 with fail
  generalize w4.alloc (.cells #[.int .i64 1, .slice aa an ac] 27) = W4 at *
  generalize w4.heap.size = B4 at *
  go_wp2_with fail
  -- Entropy
  refine (HIN.out W4 HB4.out).mono ?_
  rintro e w5 ⟨v5, rfl, hv5, hb5⟩
  have HB5 := Hid.mk' (below_chain HB4.out hb5)
  have HD5 := Hid.mk' (HEN.out w5 v5 HB5.out hv5)
  have HQ5 := Hid.mk' hb5
  clear hv5 hb5
  go_wp2_with fail
  refine HD5.out.mono ?_
  rintro e w6 ⟨⟨dc, ca, cn, cc, rfl, hlc⟩, hb6⟩
  have hk6 := below_chain (below_chain HQ5.out hb6) (new_belowL w6 (.cells #[.int .i64 dc, .slice ca cn cc] 27))
  have HB6 := Hid.mk' (below_chain HB4.out hk6)
  have HLC := Hid.mk' (hlc.later (new_belowL w6 (.cells #[.int .i64 dc, .slice ca cn cc] 27)))
  have HXC := Hid.mk' (LgB.fresh w6 dc (.slice ca cn cc))
  have HLA := Hid.mk' (HLA.out.later hk6)
  have HXA := Hid.mk' (HXA.out.later hk6)
  clear hlc hb6 hk6 HD5 HQ5 HB5 HB4
  go_upto_region 6 with fail
  generalize w6.alloc (.cells #[.int .i64 dc, .slice ca cn cc] 27) = W6 at *
  generalize w6.heap.size = B6 at *
  go_wp2_with fail
  -- Support
  refine (HIN.out W6 HB6.out).mono ?_
  rintro e w7 ⟨v7, rfl, hv7, hb7⟩
  have HB7 := Hid.mk' (below_chain HB6.out hb7)
  have HD7 := Hid.mk' (HSU.out w7 v7 HB7.out hv7)
  have HQ7 := Hid.mk' hb7
  clear hv7 hb7
  go_wp2_with fail
  refine HD7.out.mono ?_
  rintro e w8 ⟨⟨da, dn, dd, rfl, hld⟩, hb8⟩
  have hk8 := below_chain (below_chain HQ7.out hb8) (new_belowL w8 (.cells #[.int .i64 1, .slice da dn dd] 27))
  have HB8 := Hid.mk' (below_chain HB6.out hk8)
  have HLD := Hid.mk' (hld.later (new_belowL w8 (.cells #[.int .i64 1, .slice da dn dd] 27)))
  have HXD := Hid.mk' (LgB.fresh w8 1 (.slice da dn dd))
  have HLA := Hid.mk' (HLA.out.later hk8)
  have HXA := Hid.mk' (HXA.out.later hk8)
  have HLC := Hid.mk' (HLC.out.later hk8)
  have HXC := Hid.mk' (HXC.out.later hk8)
  clear hld hb8 hk8 HD7 HQ7 HB7 HB6
  go_upto_region 7 with fail
  generalize w8.alloc (.cells #[.int .i64 1, .slice da dn dd] 27) = W8 at *
  generalize w8.heap.size = B8 at *
  go_wp2_with fail
  -- Collision
  refine (HIN.out W8 HB8.out).mono ?_
  rintro e w9 ⟨v9, rfl, hv9, hb9⟩
  have HB9 := Hid.mk' (below_chain HB8.out hb9)
  have HD9 := Hid.mk' (HCO.out w9 v9 HB9.out hv9)
  have HQ9 := Hid.mk' hb9
  clear hv9 hb9
  go_wp2_with fail
  refine HD9.out.mono ?_
  rintro e wa ⟨hor, hba⟩
  have hka := below_chain HQ9.out hba
  have HBA1 := Hid.mk' (below_chain HB8.out hka)
  have HLA := Hid.mk' (HLA.out.later hka)
  have HXA := Hid.mk' (HXA.out.later hka)
  have HLC := Hid.mk' (HLC.out.later hka)
  have HXC := Hid.mk' (HXC.out.later hka)
  have HLD := Hid.mk' (HLD.out.later hka)
  have HXD := Hid.mk' (HXD.out.later hka)
  clear hka hba HD9 HQ9 HB9 HB8
  rcases hor with ⟨ba, bn, bc, rfl, hlb⟩ | rfl
  · have hkn := new_belowL wa (.cells #[.int .i64 1, .slice ba bn bc] 27)
    have HB := Hid.mk' (below_chain HBA1.out hkn)
    have HLB := Hid.mk' (hlb.later hkn)
    have HXB := Hid.mk' (LgB.fresh wa 1 (.slice ba bn bc))
    have HLA := Hid.mk' (HLA.out.later hkn)
    have HXA := Hid.mk' (HXA.out.later hkn)
    have HLC := Hid.mk' (HLC.out.later hkn)
    have HXC := Hid.mk' (HXC.out.later hkn)
    have HLD := Hid.mk' (HLD.out.later hkn)
    have HXD := Hid.mk' (HXD.out.later hkn)
    clear hlb hkn HBA1
    go_upto_region 8 with fail
    generalize wa.alloc (.cells #[.int .i64 1, .slice ba bn bc] 27) = WA at *
    generalize wa.heap.size = BA at *
    obtain ⟨x0, x1⟩ := HXA.out
    obtain ⟨y0, y1⟩ := HXC.out
    go_wp2_with fail
    refine (HCA.out WA HB.out _ _ _ _ HLC.out HLA.out).mono ?_
    rintro e wb ⟨⟨s1, hs1, rfl⟩, hbb⟩
    have HBb := Hid.mk' (below_chain HB.out hbb)
    have HQb := Hid.mk' hbb
    have hn1 : decide (s1 < 0) = false := decide_eq_false (by omega)
    clear x0 x1 y0 y1 hbb hs1
    obtain ⟨x0, x1⟩ := HXC.out.later HQb.out
    obtain ⟨y0, y1⟩ := HXD.out.later HQb.out
    go_wp2_with fail
    refine (HDC.out wb HBb.out _ _ _ _ (HLC.out.later HQb.out) (HLD.out.later HQb.out)).mono ?_
    rintro e wc ⟨⟨s2, hs2, rfl⟩, hbc⟩
    have HBc := Hid.mk' (below_chain HBb.out hbc)
    have HQc := Hid.mk' (below_chain HQb.out hbc)
    have hn2 : decide (s2 < 0) = false := decide_eq_false (by omega)
    clear x0 x1 y0 y1 hbc hs2
    obtain ⟨x0, x1⟩ := HXB.out.later HQc.out
    obtain ⟨y0, y1⟩ := HXA.out.later HQc.out
    go_wp2_with fail
    refine (HBA.out wc HBc.out _ _ _ _ (HLB.out.later HQc.out) (HLA.out.later HQc.out)).mono ?_
    rintro e wd ⟨⟨s3, hs3, rfl⟩, hbd⟩
    have HBd := Hid.mk' (below_chain HBc.out hbd)
    have HQd := Hid.mk' (below_chain HQc.out hbd)
    have hn3 : decide (0 ≤ s3) = true := decide_eq_true hs3
    clear x0 x1 y0 y1 hbd hs3
    obtain ⟨x0, x1⟩ := HXC.out.later HQd.out
    obtain ⟨y0, y1⟩ := HXB.out.later HQd.out
    go_wp2_with fail
    refine (HCB.out wd HBd.out _ _ _ _ (HLC.out.later HQd.out) (HLB.out.later HQd.out)).mono ?_
    rintro e we ⟨⟨s4, hs4, rfl⟩, hbe⟩
    have HBe := Hid.mk' (below_chain HBd.out hbe)
    have hn4 : decide (0 ≤ s4) = true := decide_eq_true hs4
    clear x0 x1 y0 y1 hbe hs4
    go_wp2_with fail
    go_ret
    exact ⟨rfl, HBe.out⟩
  · have hkn := new_belowL wa (.cells #[.int .i64 0, .slice none 0 0] 27)
    have HB := Hid.mk' (below_chain HBA1.out hkn)
    have HLA := Hid.mk' (HLA.out.later hkn)
    have HXA := Hid.mk' (HXA.out.later hkn)
    have HLC := Hid.mk' (HLC.out.later hkn)
    have HXC := Hid.mk' (HXC.out.later hkn)
    have HLD := Hid.mk' (HLD.out.later hkn)
    have HXD := Hid.mk' (HXD.out.later hkn)
    clear hkn HBA1
    go_upto_region 8 with fail
    generalize wa.alloc (.cells #[.int .i64 0, .slice none 0 0] 27) = WA at *
    generalize wa.heap.size = BA at *
    obtain ⟨x0, x1⟩ := HXA.out
    obtain ⟨y0, y1⟩ := HXC.out
    go_wp2_with fail
    refine (HCA.out WA HB.out _ _ _ _ HLC.out HLA.out).mono ?_
    rintro e wb ⟨⟨s1, hs1, rfl⟩, hbb⟩
    have HBb := Hid.mk' (below_chain HB.out hbb)
    have HQb := Hid.mk' hbb
    have hn1 : decide (s1 < 0) = false := decide_eq_false (by omega)
    clear x0 x1 y0 y1 hbb hs1
    obtain ⟨x0, x1⟩ := HXC.out.later HQb.out
    obtain ⟨y0, y1⟩ := HXD.out.later HQb.out
    go_wp2_with fail
    refine (HDC.out wb HBb.out _ _ _ _ (HLC.out.later HQb.out) (HLD.out.later HQb.out)).mono ?_
    rintro e wc ⟨⟨s2, hs2, rfl⟩, hbc⟩
    have HBc := Hid.mk' (below_chain HBb.out hbc)
    have hn2 : decide (s2 < 0) = false := decide_eq_false (by omega)
    clear x0 x1 y0 y1 hbc hs2
    go_wp2_with fail
    refine (HCD.out wc HBc.out).mono ?_
    rintro e wd ⟨rfl, hbd⟩
    have HBd := Hid.mk' (below_chain HBc.out hbd)
    clear hbd
    go_wp2_with fail
    go_ret
    exact ⟨rfl, HBd.out⟩
theorem RenyiOrder_all (a : Nat → Addr) (ad : Option Addr) (n cap : Nat) (z : Nat → Int) (w : World) (hE : Errs w a) (h : NumsAt w (.slice ad n cap) n z) (hm : n ≤ maxLen) :
    Calls Tryz.prog 4 #[.slice ad n cap] w fun e w' => e = .returned (.bool true) ∧ Below w.heap.size w w' := by
  by_cases hq : 16 < n
  · exact Ror_few a ad n cap w hE hm hq
  · by_cases h0 : weightsErr z n = 0
    · exact Ror_ok a ad n cap z w hE h h0
    · exact Ror_bad a ad n cap z w hE h (by omega) h0
end Go.Proofs.YtklhfagcembigaaGreatDoor

/- What grains of an entropy say; MASSEY's bound of weights. -/
namespace Go.Proofs.YtklhfagcembigaaGreatDoor
open Go.RowKit

/-- Its sides, 32 times, are as the sides of the sum. -/
theorem by_sides32R {d G U D : Nat} {t : List (Int × Int)} {f : Int → Int} (hok : OkLog d t.length (pOf t) (cOf t)) (hv : ∀ x, f x = (G : Int) * atL t x) (hU : 0 < U) (hD : 0 < D) (hm : ∀ q : Nat, Pr q → f (q : Int) = (mult q U : Int) - (mult q D : Int)) :
    sideUp (pOf t) (cOf t) 32 t.length ^ G * D ^ 32 = sideDown (pOf t) (cOf t) 32 t.length ^ G * U ^ 32 := by
  have h2 : Pr 2 := ⟨by omega, fun d hd hdd => by have := Nat.mul_le_mul hd hd; omega⟩
  obtain ⟨_, a1, a2⟩ := hok.side 32 h2
  refine eq_of_mult _ _ (Nat.mul_pos (Nat.pow_pos a1) (Nat.pow_pos hD)) (Nat.mul_pos (Nat.pow_pos a2) (Nat.pow_pos hU)) (fun q hq => ?_)
  have e1 := (hok.side 32 hq).1
  have e2 := hm q hq
  rw [hv] at e2
  rw [mult_mul hq _ _ (Nat.pow_pos a1) (Nat.pow_pos hD), mult_mul hq _ _ (Nat.pow_pos a2) (Nat.pow_pos hU), mult_power hq a1, mult_power hq a2, mult_power hq hD, mult_power hq hU]
  generalize mult q (sideUp (pOf t) (cOf t) 32 t.length) = A at *
  generalize mult q (sideDown (pOf t) (cOf t) 32 t.length) = B at *
  generalize mult q U = u at *
  generalize mult q D = e at *
  generalize atL t (q : Int) = z at *
  apply Int.ofNat_inj.1
  simp only [Int.natCast_add, Int.natCast_mul]
  have h3 : (A : Int) = B + z * 32 := by omega
  rw [h3]
  grind
theorem grains_high {d G M U D su sd : Nat} {q : Int} (hs : su ^ G * D ^ 32 = sd ^ G * U ^ 32) (hM : M = G * d) (hd : 0 < d) (hsd : 0 < sd) (hl : IsLog q su sd) (hz : 64 ≤ q / (d : Int)) : 4 ^ M * D ≤ U := by
  obtain ⟨h4, _⟩ := isLog_floor (show (0 : Int) < (d : Int) by omega) hl rfl
  have h5 : ((64 * d : Nat) : Int) ≤ q / (d : Int) * (d : Int) := by
    have := Int.mul_le_mul_of_nonneg_right hz (show (0 : Int) ≤ (d : Int) by omega)
    simpa using this
  have h6 := (le2_iff (x := 64 * d) (y := 0) (by omega)).1 (le2_anti h4 h5)
  have h7 : (sd * 2 ^ (64 * d)) ^ G ≤ su ^ G := Nat.pow_le_pow_left (by simpa using h6) G
  have h8 : sd ^ G * (2 ^ (64 * M) * D ^ 32) ≤ sd ^ G * U ^ 32 := by
    rw [← hs, ← Nat.mul_assoc]
    refine Nat.mul_le_mul_right _ ?_
    rw [Nat.mul_pow, ← Nat.pow_mul, show 64 * d * G = 64 * M by rw [hM]; grind] at h7
    exact h7
  have h9 : 2 ^ (64 * M) * D ^ 32 ≤ U ^ 32 := Nat.le_of_mul_le_mul_left h8 (Nat.pow_pos hsd)
  have h10 : (4 ^ M * D) ^ 32 ≤ U ^ 32 := by
    rw [Nat.mul_pow, ← Nat.pow_mul, show (4 : Nat) = 2 ^ 2 from rfl, ← Nat.pow_mul, show 2 * (M * 32) = 64 * M by omega]
    exact h9
  rcases Nat.lt_or_ge U (4 ^ M * D) with h | h
  · have := Nat.pow_lt_pow_left h (show (32 : Nat) ≠ 0 by decide)
    omega
  · exact h
theorem Grains_ent {base n S : Nat} {z : Nat → Int} {w : World} {dn : Int} {v : Value} (a : Nat → Addr) (hE : Errs w a) (hok : OkW z n) (hn : n ≤ 16) (hS : sumN z n = (S : Int)) (h : LogBy base S (fun x => sumN (entV z S x) n) w dn v) :
    Calls Tryz.prog 21 #[.agg #[.int .i64 dn, v]] w fun e w' => ((∃ k : Int, e = .returned (.tuple #[.int .i64 k, .nilIface]) ∧ (64 ≤ k → 4 ^ S * prdOR z n ≤ S ^ S)) ∨ e = .returned (.tuple #[.int .i64 0, .iface 183 (.pointer (some (a 1)))])) ∧ Below w.heap.size w w' := by
  have hp := hok.pos
  have hl := hok.le
  have hS0 : 1 ≤ S := by omega
  have hS4 : S ≤ 4096 := by omega
  obtain ⟨t, d, G, rfl, hlt, hn', hMG, hG, hv, ho⟩ := h.ok hS0 (by omega) (ent_primOR hok (by omega) ⟨hS0, hS4⟩)
  have hm : ∀ q : Nat, Pr q → (fun x => sumN (entV z S x) n) (q : Int) = (mult q (S ^ S) : Int) - (mult q (prdOR z n) : Int) := fun q hq => by
    have e1 := ent_prdR (z := z) (S := S) hq (n := n) hok.nn
    rw [hS] at e1
    show sumN (entV z S (q : Int)) n = _
    rw [e1, mult_power hq hS0 S, Int.natCast_mul]
  have hs := by_sides32R ho hv (Nat.pow_pos hS0) (prdO_posR z n) hm
  have hd0 : 0 < d := by have := ho.1; omega
  have h2 : Pr 2 := ⟨by omega, fun d hd hdd => by have := Nat.mul_le_mul hd hd; omega⟩
  have hsd := (ho.side 32 h2).2.2
  by_cases hfit : cost (pOf t) (cOf t) t.length ≤ 1250
  · refine (Grains_fit_log d v t.length (pOf t) (cOf t) a ho hfit w hE (listAt_log hlt) (by omega)).mono ?_
    rintro e w' ⟨k, rfl, h1, _, _, hb⟩
    exact ⟨Or.inl ⟨_, rfl, fun hk => grains_high hs hMG hd0 hsd h1 hk⟩, hb⟩
  · refine (Grains_err_log d v t.length (pOf t) (cOf t) a true ⟨fun _ => ho, fun _ => rfl⟩ (fun _ => hfit) w hE (listAt_log hlt) (by omega)).mono ?_
    rintro e w' ⟨rfl, hb⟩
    exact ⟨Or.inr rfl, hb⟩
def prdLR : List Int → Nat
  | [] => 1
  | x :: l => selfPR x.toNat * prdLR l
theorem prdLR_perm {l r : List Int} (h : l.Perm r) : prdLR l = prdLR r := by
  induction h with
  | nil => rfl
  | cons x _ ih => show selfPR x.toNat * _ = selfPR x.toNat * _; rw [ih]
  | swap x y l =>
    show selfPR y.toNat * (selfPR x.toNat * prdLR l) = selfPR x.toNat * (selfPR y.toNat * prdLR l)
    exact Nat.mul_left_comm _ _ _
  | trans _ _ h1 h2 => rw [h1, h2]
theorem prdLR_append : ∀ a b : List Int, prdLR (a ++ b) = prdLR a * prdLR b
  | [], b => (Nat.one_mul _).symm
  | x :: a, b => by show selfPR x.toNat * prdLR (a ++ b) = selfPR x.toNat * prdLR a * prdLR b; rw [prdLR_append a b, Nat.mul_assoc]
theorem rowL_last (z : Nat → Int) (n : Nat) : rowL z (n + 1) = rowL z n ++ [z n] := by unfold rowL; rw [List.range_succ, List.map_append]; rfl
theorem prdOR_list (z : Nat → Int) : ∀ n, prdOR z n = prdLR (rowL z n)
  | 0 => rfl
  | n + 1 => by
    rw [rowL_last, prdLR_append, ← prdOR_list z n]
    show prdOR z n * selfPR (z n).toNat = prdOR z n * (selfPR (z n).toNat * 1)
    rw [Nat.mul_one]
theorem sumLR (z : Nat → Int) : ∀ n, sumN z n = (rowL z n).sum
  | 0 => rfl
  | n + 1 => by
    rw [rowL_last, List.sum_append, ← sumLR z n]
    show sumN z n + z n = sumN z n + (z n + 0)
    rw [Int.add_zero]
theorem rowL_all (l : List Int) : rowL (atF l) l.length = l := by
  refine List.ext_getElem (by simp [rowL]) (fun i h1 h2 => ?_)
  simp [rowL, atF, List.getD, h2]
theorem dn_prod (z : Nat → Int) (n : Nat) : prdOR (atF (dnL z n)) n = prdOR z n := by
  have h := rowL_all (dnL z n)
  rw [dnL_length] at h
  rw [prdOR_list, h, prdOR_list]
  exact prdLR_perm (dnL_perm z n)
theorem sum_permR {l r : List Int} (h : l.Perm r) : l.sum = r.sum := by
  induction h with
  | nil => rfl
  | cons x _ ih => rw [List.sum_cons, List.sum_cons, ih]
  | swap x y l => simp only [List.sum_cons]; omega
  | trans _ _ h1 h2 => rw [h1, h2]
theorem dn_sum (z : Nat → Int) (n : Nat) : sumN (atF (dnL z n)) n = sumN z n := by
  have h := rowL_all (dnL z n)
  rw [dnL_length] at h
  rw [sumLR, h, sumLR]
  exact sum_permR (dnL_perm z n)
/-- Guesses less one each. -/
def gueA (z : Nat → Int) (n : Nat) : Nat := sumA (fun i => i * wN (atF (dnL z n)) i) n
theorem gueN_A {f : Nat → Int} : ∀ {n : Nat}, (∀ i, i < n → 0 ≤ f i) → gueN f n = ((sumA (fun i => i * wN f i) n + sumA (wN f) n : Nat) : Int)
  | 0, _ => rfl
  | n + 1, h => by
    have ih := gueN_A (f := f) (n := n) (fun i hi => h i (by omega))
    have h1 : (wN f n : Int) = f n := by have := h n (by omega); unfold wN; omega
    show gueN f n + ((n : Int) + 1) * f n = ((sumA (fun i => i * wN f i) n + n * wN f n + (sumA (wN f) n + wN f n) : Nat) : Int)
    rw [ih, ← h1]
    simp only [Int.natCast_add, Int.natCast_mul]
    grind
theorem idx_le {f : Nat → Nat} : ∀ {n m : Nat}, n ≤ m → sumA (fun i => i * f i) n ≤ m * sumA f n
  | 0, _, _ => Nat.zero_le _
  | n + 1, m, h => by
    have ih := idx_le (f := f) (n := n) (m := m) (by omega)
    show sumA (fun i => i * f i) n + n * f n ≤ m * (sumA f n + f n)
    rw [Nat.mul_add]
    have := Nat.mul_le_mul_right (f n) (show n ≤ m by omega)
    omega
theorem gueZ_A {z : Nat → Int} {n S : Nat} (hok : OkW z n) (hn : n ≤ 16) (hS : sumN z n = (S : Int)) : gueZ z n = gueA z n + S ∧ gueA z n ≤ 65536 ∧ sumA (wN (atF (dnL z n))) n = S := by
  have h1 := gueZ_eq hok hn
  have h2 := gueN_A (f := atF (dnL z n)) (n := n) (fun i hi => (dn_right hok i hi).1)
  have h3 := wN_sum (z := atF (dnL z n)) (n := n) (fun i hi => (dn_right hok i hi).1)
  rw [dn_sum, hS] at h3
  have h4 : sumA (wN (atF (dnL z n))) n = S := by omega
  have h5 := idx_le (f := wN (atF (dnL z n))) hn
  rw [h4] at h2 h5
  have := hok.le
  unfold gueA
  exact ⟨by omega, by omega, h4⟩
theorem massey_w {z : Nat → Int} {n S : Nat} (hok : OkW z n) (hn : n ≤ 16) (hS : sumN z n = (S : Int)) (hg : 4 ^ S * prdOR z n ≤ S ^ S) : S ≤ gueA z n ∧ S ^ S * S ^ S ≤ (4 * gueA z n) ^ S * prdOR z n := by
  have hS0 : 0 < S := by have := hok.pos; omega
  obtain ⟨_, _, h4⟩ := gueZ_A hok hn hS
  have hp : prodA (fun i => wN (atF (dnL z n)) i ^ wN (atF (dnL z n)) i) n = prdOR z n := by rw [← prdR_prod, dn_prod]
  have hP := prdO_posR z n
  have hle : S ≤ gueA z n := by
    rcases Nat.lt_or_ge (gueA z n) S with h | h
    · have := massey_lt (wN (atF (dnL z n))) n (gueA z n) S h4.symm rfl hS0 (by rw [hp]; exact hP) h
      rw [hp] at this
      omega
    · exact h
  have := massey_le (wN (atF (dnL z n))) n (gueA z n) S h4.symm rfl hS0 hle
  rw [hp] at this
  exact ⟨hle, this⟩
/-- The law's sign of MASSEY's. -/
theorem sgn_ma {W : World} {z : Nat → Int} {n S g u v : Nat} {d1 d2 : Int} {v1 v2 : Value} (a : Nat → Addr) (hE : Errs W a) (hok : OkW z n) (hS : sumN z n = (S : Int)) (hle : S ^ S * S ^ S ≤ (4 * gueA z n) ^ S * prdOR z n) (hA : 0 < gueA z n) (e1 : 4 * gueA z n = g * u) (e2 : S = g * v)
    (h1 : LV W 1 (fun x => multI x u - multI x v) 40 d1 v1) (h2 : LV W S (fun x => sumN (entV z S x) n) 4096 d2 v2) :
    Calls Tryz.prog 18 #[.agg #[.int .i64 d1, v1], .agg #[.int .i64 d2, v2]] W fun e w' => (∃ z : Int, 0 ≤ z ∧ e = .returned (.int .i64 z)) ∧ Below W.heap.size W w' := by
  have hS0 : 0 < S := by have := hok.pos; omega
  have hg : 0 < g := Nat.pos_of_ne_zero fun e => by rw [e, Nat.zero_mul] at e2; omega
  have hv0 : 0 < v := Nat.pos_of_ne_zero fun e => by rw [e, Nat.mul_zero] at e2; omega
  have hu0 : 0 < u := Nat.pos_of_ne_zero fun e => by rw [e, Nat.mul_zero] at e1; omega
  have hSS : 0 < S ^ S := Nat.pow_pos hS0
  have hAA : 0 < (4 * gueA z n) ^ S := Nat.pow_pos (by omega)
  refine sign_lv (U := (4 * gueA z n) ^ S * prdOR z n) (D := S ^ S * S ^ S) a W hE (lv_wideR h1 S) h2 (by decide) hS0 (Nat.mul_pos hAA (prdO_posR _ _)) (Nat.mul_pos hSS hSS) (fun q hq => ?_) hle
  have e3 := ent_prdR (z := z) (S := S) hq (n := n) hok.nn
  rw [hS] at e3
  have m1 : mult q (4 * gueA z n) = mult q g + mult q u := by rw [e1]; exact mult_mul hq _ _ hg hu0
  have m2 : mult q S = mult q g + mult q v := by
    conv => lhs; rw [e2]
    exact mult_mul hq _ _ hg hv0
  show (S : Int) * (multI (q : Int) u - multI (q : Int) v) - sumN (entV z S (q : Int)) n = _
  rw [e3, multR_pr hq, multR_pr hq, mult_mul hq _ _ hAA (prdO_posR _ _), mult_mul hq _ _ hSS hSS, mult_power hq (show 0 < 4 * gueA z n by omega) S, mult_power hq hS0 S]
  have m3 : (mult q u : Int) - (mult q v : Int) = (mult q (4 * gueA z n) : Int) - (mult q S : Int) := by omega
  rw [m3]
  simp only [Int.natCast_add, Int.natCast_mul]
  rw [Int.mul_sub]
  omega
end Go.Proofs.YtklhfagcembigaaGreatDoor

/- RenyiMassey: the law. -/
namespace Go.Proofs.YtklhfagcembigaaGreatDoor
open Go.RowKit

/-- A fraction in a box. -/
structure FrM (w : World) (b : Nat) (p q : Int) : Prop where
  c0 : w.cell? ⟨b, 0, none⟩ = some (.int .i64 p)
  c1 : w.cell? ⟨b, 1, none⟩ = some (.int .i64 q)
theorem FrM.later {w w' : World} {b : Nat} {p q : Int} (h : FrM w b p q) (hb : Below w.heap.size w w') : FrM w' b p q :=
  ⟨by rw [hb.cell (cell_lt h.c0)]; exact h.c0, by rw [hb.cell (cell_lt h.c1)]; exact h.c1⟩
theorem FrM.fresh (w : World) (p q : Int) : FrM (w.alloc (.cells #[.int .i64 p, .int .i64 q] 38)) w.heap.size p q := ⟨by simp, by simp⟩
theorem Rma_few (a : Nat → Addr) (ad : Option Addr) (n cap : Nat) (w : World) (hE : Errs w a) (hm : n ≤ maxLen) (hq : 16 < n) :
    Calls Tryz.prog 5 #[.slice ad n cap] w fun e w' => e = .returned (.bool true) ∧ Below w.heap.size w w' := by
  have HTH := Hid.mk' (dice_any a w hE)
  unfold maxLen at hm
  have hmI : (n : Int) ≤ 9223372036854775807 := by omega
  have hqd : decide ((16 : Int) < (n : Int)) = true := decide_eq_true (by omega)
  clear hE
  go_enter Tryz.func5, Tryz.ntmps5
  go_wp2_with fail
  refine HTH.out.mono ?_
  rintro e w2 ⟨rfl, hb2⟩
  have HB2 := Hid.mk' hb2
  clear hb2 HTH
  go_wp2_with fail
  go_ret
  exact ⟨rfl, HB2.out⟩
theorem Rma_bad (a : Nat → Addr) (ad : Option Addr) (n cap : Nat) (z : Nat → Int) (w : World) (hE : Errs w a) (h : NumsAt w (.slice ad n cap) n z) (hq : n ≤ 16) (h0 : weightsErr z n ≠ 0) :
    Calls Tryz.prog 5 #[.slice ad n cap] w fun e w' => e = .returned (.bool true) ∧ Below w.heap.size w w' := by
  have HTH := Hid.mk' (dice_any a w hE)
  have hqd : decide ((16 : Int) < (n : Int)) = false := decide_eq_false (by omega)
  have HWE := Hid.mk' (fun (W : World) (hb : Below w.heap.size w W) => WeightsError_any (.slice ad n cap) n z W (h.later hb) (by omega))
  have hcb : 0 < weightsErr z n := by omega
  generalize weightsErr z n = ce at *
  clear hE h h0
  go_enter Tryz.func5, Tryz.ntmps5
  go_wp2_with fail
  refine HTH.out.mono ?_
  rintro e w2 ⟨rfl, hb2⟩
  have HB1 := Hid.mk' hb2
  clear hb2 HTH
  go_wp2_with fail
  refine (HWE.out w2 HB1.out).mono ?_
  rintro e w3 ⟨rfl, hw3⟩
  rw [hw3]
  clear hw3 HWE
  go_wp2_with fail
  go_ret
  exact ⟨rfl, HB1.out⟩
set_option maxRecDepth 100000 in
set_option maxHeartbeats 8000000 in
theorem Rma_ok (a : Nat → Addr) (ad : Option Addr) (n cap : Nat) (z : Nat → Int) (w : World) (hE : Errs w a) (h : NumsAt w (.slice ad n cap) n z) (h0 : weightsErr z n = 0) :
    Calls Tryz.prog 5 #[.slice ad n cap] w fun e w' => e = .returned (.bool true) ∧ Below w.heap.size w w' := by
  have HTH := Hid.mk' (dice_any a w hE)
  obtain ⟨h16, hok⟩ := weightsErr_ok h0
  have hp := hok.pos
  have hl := hok.le
  obtain ⟨S, hS⟩ : ∃ S : Nat, sumN z n = (S : Int) := ⟨(sumN z n).toNat, by omega⟩
  have hqd : decide ((16 : Int) < (n : Int)) = false := decide_eq_false (by omega)
  have HWE := Hid.mk' (fun (W : World) (hb : Below w.heap.size w W) => WeightsError_any (.slice ad n cap) n z W (h.later hb) (by omega))
  rw [h0] at HWE
  have HIN := Hid.mk' (fun (W : World) (hb : Below w.heap.size w W) => ints_any (.slice ad n cap) n z W (h.later hb) (by omega))
  have hS0 : 1 ≤ S := by omega
  have hS4 : S ≤ 4096 := by omega
  have HEN : Hid (∀ W v, Below w.heap.size w W → NumsAt W v n z → Calls Tryz.prog 17 #[v] W fun e w' => (∃ base dn va vn vc, e = .returned (.tuple #[.agg #[.int .i64 dn, .slice va vn vc], .nilIface]) ∧ LogBy base S (fun x => sumN (entV z S x) n) w' dn (.slice va vn vc)) ∧ Below W.heap.size W w') := fun W v hb hv => by
    obtain ⟨b, o, c, rfl, hr⟩ := nums_row hv hok.posN
    refine (Entropy_ok a b o c n S z W (hE.below hb) hr h0 hS (fun i hi => (hok.lt hi).1) h16 hS0 hS4 hok.posN).mono ?_
    rintro e w' ⟨dn, u, rfl, hu, hb'⟩
    obtain ⟨va, vn, vc, rfl⟩ := (hu.lv hS0 (by omega) (ent_primOR hok (by omega) ⟨hS0, hS4⟩)).form
    exact ⟨⟨_, dn, va, vn, vc, rfl, hu⟩, hb'⟩
  have HLV := Hid.mk' (fun (W : World) (base : Nat) (dn : Int) (v : Value) (hu : LogBy base S (fun x => sumN (entV z S x) n) W dn v) => hu.lv hS0 (by omega) (ent_primOR hok (by omega) ⟨hS0, hS4⟩))
  have HGU := Hid.mk' (fun (W : World) (v : Value) (hb : Below w.heap.size w W) (hv : NumsAt W v n z) => Guesses_ok a v n S z W (hE.below hb) hv hS h0)
  have HGR := Hid.mk' (fun (W : World) (hb : Below w.heap.size w W) (base : Nat) (dn : Int) (v : Value) hu => Grains_ent (base := base) (w := W) (dn := dn) (v := v) a (hE.below hb) hok h16 hS hu)
  have HCD := Hid.mk' (fun (W : World) (hb : Below w.heap.size w W) => coded_errV a 2 (by decide) W (hE.below hb))
  have hEV : errV a 2 = .iface 183 (.pointer (some (a 1))) := rfl
  rw [hEV] at HCD
  obtain ⟨hg1, hg2, hg3⟩ := gueZ_A hok h16 hS
  have hgc : 0 < Nat.gcd (gueZ z n) S := Nat.gcd_pos_of_pos_right _ hS0
  have hT := (Nat.mul_div_cancel' (Nat.gcd_dvd_left (gueZ z n) S)).symm
  have hSg := (Nat.mul_div_cancel' (Nat.gcd_dvd_right (gueZ z n) S)).symm
  have hp1 : gueZ z n / Nat.gcd (gueZ z n) S ≤ gueZ z n := Nat.div_le_self _ _
  have hp2 : S / Nat.gcd (gueZ z n) S ≤ S := Nat.div_le_self _ _
  have hp3 : 0 < S / Nat.gcd (gueZ z n) S := Nat.div_pos (Nat.gcd_le_right _ hS0) hgc
  have hp4 : S / Nat.gcd (gueZ z n) S ≤ gueZ z n / Nat.gcd (gueZ z n) S := Nat.div_le_div_right (by omega)
  have HEND : Hid (∀ (hgr : 4 ^ S * prdOR z n ≤ S ^ S), ∃ u : Nat, 1 ≤ u ∧ u ≤ 1000000 ∧ ((u : Nat) : Int) = 4 * (((gueZ z n / Nat.gcd (gueZ z n) S : Nat) : Int) - ((S / Nat.gcd (gueZ z n) S : Nat) : Int)) ∧
      ∀ (W : World) (d1 d2 : Int) (v1 v2 : Value), Below w.heap.size w W → LV W 1 (fun x => multI x u - multI x (S / Nat.gcd (gueZ z n) S)) 40 d1 v1 → LV W S (fun x => sumN (entV z S x) n) 4096 d2 v2 → Calls Tryz.prog 18 #[.agg #[.int .i64 d1, v1], .agg #[.int .i64 d2, v2]] W fun e w' => (∃ z : Int, 0 ≤ z ∧ e = .returned (.int .i64 z)) ∧ Below W.heap.size W w') := fun hgr => by
    obtain ⟨m1, m2⟩ := massey_w hok h16 hS hgr
    have hA0 : 0 < gueA z n := by omega
    have e1 : 4 * gueA z n = Nat.gcd (gueZ z n) S * (4 * (gueZ z n / Nat.gcd (gueZ z n) S - S / Nat.gcd (gueZ z n) S)) := by
      have : gueA z n = Nat.gcd (gueZ z n) S * (gueZ z n / Nat.gcd (gueZ z n) S - S / Nat.gcd (gueZ z n) S) := by
        rw [Nat.mul_sub, ← hT, ← hSg]; omega
      rw [Nat.mul_left_comm, ← this]
    have h9 : 0 < gueZ z n / Nat.gcd (gueZ z n) S - S / Nat.gcd (gueZ z n) S := Nat.pos_of_ne_zero fun e => by rw [e] at e1; omega
    have h8 : gueZ z n / Nat.gcd (gueZ z n) S - S / Nat.gcd (gueZ z n) S ≤ gueA z n := by
      have h7 : 1 * (4 * (gueZ z n / Nat.gcd (gueZ z n) S - S / Nat.gcd (gueZ z n) S)) ≤ Nat.gcd (gueZ z n) S * (4 * (gueZ z n / Nat.gcd (gueZ z n) S - S / Nat.gcd (gueZ z n) S)) := Nat.mul_le_mul_right _ hgc
      omega
    refine ⟨4 * (gueZ z n / Nat.gcd (gueZ z n) S - S / Nat.gcd (gueZ z n) S), by omega, by omega, by omega, fun W d1 d2 v1 v2 hb h1 h2 => ?_⟩
    exact sgn_ma a (hE.below hb) hok hS m2 hA0 e1 hSg h1 h2
  have hTb : gueZ z n ≤ 70000 := by omega
  have HUV : Hid (gueV (gueZ z n) S = .agg #[.int .i64 ((gueZ z n / Nat.gcd (gueZ z n) S : Nat) : Int), .int .i64 ((S / Nat.gcd (gueZ z n) S : Nat) : Int)]) := rfl
  rw [HUV.out] at HGU
  clear hE h hok h0 hp hl hS hg1 hg2 hg3 hgc hT hSg hEV HUV
  generalize gueZ z n / Nat.gcd (gueZ z n) S = p at *
  generalize S / Nat.gcd (gueZ z n) S = q at *
  generalize gueZ z n = T at *
  go_enter Tryz.func5, Tryz.ntmps5
  go_wp2_with fail
  refine HTH.out.mono ?_
  rintro e w2 ⟨rfl, hb2⟩
  have HB1 := Hid.mk' hb2
  clear hb2 HTH
  go_wp2_with fail
  refine (HWE.out w2 HB1.out).mono ?_
  rintro e w3 ⟨rfl, hw3⟩
  rw [hw3]
  clear hw3 HWE
  go_wp2_with fail
  refine (HIN.out w2 HB1.out).mono ?_
  rintro e w5 ⟨v5, rfl, hv5, hb5⟩
  have HB5 := Hid.mk' (below_chain HB1.out hb5)
  have HD5 := Hid.mk' (HEN.out w5 v5 HB5.out hv5)
  clear hv5 hb5
  go_wp2_with fail
  refine HD5.out.mono ?_
  rintro e w6 ⟨⟨base, dc, ca, cn, cc, rfl, hlc⟩, hb6⟩
  have hk6 := below_chain (below_chain HB5.out hb6) (new_belowL w6 (.cells #[.int .i64 dc, .slice ca cn cc] 27))
  have HB6 := Hid.mk' hk6
  have HLC := Hid.mk' (hlc.later (new_belowL w6 (.cells #[.int .i64 dc, .slice ca cn cc] 27)))
  have HXC := Hid.mk' (LgB.fresh w6 dc (.slice ca cn cc))
  clear hlc hb6 hk6 HD5 HB5
  go_upto_region 5 with fail
  generalize w6.alloc (.cells #[.int .i64 dc, .slice ca cn cc] 27) = W6 at *
  generalize w6.heap.size = B6 at *
  go_wp2_with fail
  refine (HIN.out W6 HB6.out).mono ?_
  rintro e w7 ⟨v7, rfl, hv7, hb7⟩
  have HB7 := Hid.mk' (below_chain HB6.out hb7)
  have HD7 := Hid.mk' (HGU.out w7 v7 HB7.out hv7)
  have HQ7 := Hid.mk' hb7
  clear hv7 hb7
  go_wp2_with fail
  refine HD7.out.mono ?_
  rintro e w8 ⟨rfl, hb8⟩
  have hk8 := below_chain (below_chain HQ7.out hb8) (new_belowL w8 (.cells #[.int .i64 (p : Int), .int .i64 (q : Int)] 38))
  have HB8 := Hid.mk' (below_chain HB6.out hk8)
  have HXF := Hid.mk' (FrM.fresh w8 (p : Int) (q : Int))
  have HLC := Hid.mk' (HLC.out.later hk8)
  have HXC := Hid.mk' (HXC.out.later hk8)
  clear hb8 hk8 HD7 HQ7 HB7 HB6
  go_upto_region 6 with fail
  generalize w8.alloc (.cells #[.int .i64 (p : Int), .int .i64 (q : Int)] 38) = W8 at *
  generalize w8.heap.size = B8 at *
  obtain ⟨x0, x1⟩ := HXC.out
  go_wp2_with fail
  refine (HGR.out W8 HB8.out _ _ _ HLC.out).mono ?_
  rintro e w9 ⟨hor, hb9⟩
  have HB9 := Hid.mk' (below_chain HB8.out hb9)
  have HLC := Hid.mk' (HLC.out.later hb9)
  have HXC := Hid.mk' (HXC.out.later hb9)
  have HXF := Hid.mk' (HXF.out.later hb9)
  clear hb9 x0 x1
  rcases hor with ⟨k, rfl, hgr⟩ | rfl
  · by_cases hk : k < 64
    · have hkd : decide (k < 64) = true := decide_eq_true hk
      clear hgr hk
      go_wp2_with fail
      go_ret
      exact ⟨rfl, HB9.out⟩
    · obtain ⟨u, hu1, hu2, hu3, hsg⟩ := HEND.out (hgr (by omega))
      have HSG := Hid.mk' hsg
      have HOF := Hid.mk' (fun (W : World) => Of_any u q W hu1 hu2 hp3 (by omega))
      rw [hu3] at HOF
      have hkd : decide (k < 64) = false := decide_eq_false hk
      obtain ⟨y0, y1⟩ := HXF.out
      have HU3 := Hid.mk' hu3
      have HUB : Hid (1 ≤ u ∧ u ≤ 1000000 ∧ 1 ≤ q ∧ q ≤ 1000000) := ⟨hu1, hu2, hp3, by omega⟩
      clear hgr hk hsg hu3 hu1 hu2
      go_wp2_with fail
      refine (HOF.out w9).mono ?_
      rintro e wa ⟨uu, t, rfl, ht, hi, hba⟩
      obtain ⟨uv, hueq, hlu⟩ := Tells.lv (p := u) (q := q) (e := .returned (.tuple #[.agg #[.int .i64 1, uu], .nilIface])) (w' := wa) ⟨uu, t, rfl, ht, hi⟩ HUB.out.1 HUB.out.2.1 HUB.out.2.2.1 HUB.out.2.2.2
      obtain rfl : uu = uv := by simpa using hueq
      obtain ⟨ua, un, uc, rfl⟩ := hlu.form
      have hka := below_chain hba (new_belowL wa (.cells #[.int .i64 1, .slice ua un uc] 27))
      have HBa := Hid.mk' (below_chain HB9.out hka)
      have HLU := Hid.mk' (hlu.later (new_belowL wa (.cells #[.int .i64 1, .slice ua un uc] 27)))
      have HXU := Hid.mk' (LgB.fresh wa 1 (.slice ua un uc))
      have HLC := Hid.mk' (HLV.out _ _ _ _ (HLC.out.later hka))
      have HXC := Hid.mk' (HXC.out.later hka)
      clear hueq hlu ht hi hba hka y0 y1
      go_upto_region 12 with fail
      generalize wa.alloc (.cells #[.int .i64 1, .slice ua un uc] 27) = WA at *
      generalize wa.heap.size = BA at *
      obtain ⟨x0, x1⟩ := HXU.out
      obtain ⟨y0, y1⟩ := HXC.out
      go_wp2_with fail
      refine (HSG.out WA _ _ _ _ HBa.out HLU.out HLC.out).mono ?_
      rintro e wb ⟨⟨s1, hs1, rfl⟩, hbb⟩
      have HBb := Hid.mk' (below_chain HBa.out hbb)
      have hn1 : decide (0 ≤ s1) = true := decide_eq_true hs1
      clear x0 x1 y0 y1 hbb hs1
      go_wp2_with fail
      go_ret
      exact ⟨rfl, HBb.out⟩
  · go_wp2_with fail
    refine (HCD.out w9 HB9.out).mono ?_
    rintro e wa ⟨rfl, hba⟩
    have HBa := Hid.mk' (below_chain HB9.out hba)
    clear hba
    go_wp2_with fail
    go_ret
    exact ⟨rfl, HBa.out⟩
theorem RenyiMassey_all (a : Nat → Addr) (ad : Option Addr) (n cap : Nat) (z : Nat → Int) (w : World) (hE : Errs w a) (h : NumsAt w (.slice ad n cap) n z) (hm : n ≤ maxLen) :
    Calls Tryz.prog 5 #[.slice ad n cap] w fun e w' => e = .returned (.bool true) ∧ Below w.heap.size w w' := by
  by_cases hq : 16 < n
  · exact Rma_few a ad n cap w hE hm hq
  · by_cases h0 : weightsErr z n = 0
    · exact Rma_ok a ad n cap z w hE h h0
    · exact Rma_bad a ad n cap z w hE h (by omega) h0
end Go.Proofs.YtklhfagcembigaaGreatDoor

/- What the rows' condition on package variables gives a walk: eight different sentinels with their texts, and the handle of the type error. -/
namespace Go.Proofs.YtklhfagcembigaaGreatDoor
open Go.ChangeShapes Go.WideShapes Go.RowKit

theorem Tryz.own : ownKnob Tryz.prog.godebug = none := by kernel_rfl
theorem Tryz.et : Tryz.prog.globalNamed "errors.errorType" = some 8 := by kernel_rfl
theorem Tryz.rt : (Tryz.prog.cutTypes.find? (·.1 == "internal/reflectlite.rtype")).map (·.2) = some 159 := by kernel_rfl
theorem Tryz.oneRow : ((List.range 215).filter fun t => Tryz.prog.rowNamed t [101, 114, 114, 111, 114]) = [29] := by kernel_rfl
theorem Tryz.size : Tryz.prog.types.size = 215 := by kernel_rfl
theorem Tryz.star : ("*" ++ "errors.errorString" : String) = "*errors.errorString" := by decide
theorem Tryz.rowE (u : TypeId) (h : Tryz.prog.typeName? 3 u = some "*errors.errorString") : u = 183 :=
  typeName_ptr_named (nm := "errors.errorString") (by rw [Tryz.star]; kernel_rfl) (by kernel_rfl) (by decide) u (by rw [Tryz.star]; exact h)
theorem Tryz.cellsE : Tryz.prog.cellsOf 203 = 1 := by kernel_rfl
theorem Tryz.cellsS : Tryz.prog.cellsOf 9 = 1 := by kernel_rfl
theorem Tryz.g0 : Tryz.prog.globalNamed "demon/api.ErrText" = some 2 := by kernel_rfl
theorem Tryz.g1 : Tryz.prog.globalNamed "demon/api.ErrBound" = some 0 := by kernel_rfl
theorem Tryz.g2 : Tryz.prog.globalNamed "demon/api.ErrShape" = some 1 := by kernel_rfl
theorem Tryz.g3 : Tryz.prog.globalNamed "demon/api.ErrZero" = some 3 := by kernel_rfl
theorem Tryz.g4 : Tryz.prog.globalNamed "demon/api.ErrName" = some 4 := by kernel_rfl
theorem Tryz.g5 : Tryz.prog.globalNamed "demon/api.ErrNone" = some 5 := by kernel_rfl
theorem Tryz.g6 : Tryz.prog.globalNamed "demon/api.ErrOrder" = some 6 := by kernel_rfl
theorem Tryz.g7 : Tryz.prog.globalNamed "demon/api.ErrKind" = some 7 := by kernel_rfl

/-- Any number of listed sentinels of one type: each one's pointer, text and row; no two are one. -/
theorem laid_list {P : Program} {W : World} {nm : String} {ti tp te ts : TypeId} {ms : Array (String × TypeId)} {f : Field}
    (hi : P.underlying ti = some (.interface ms)) (hrow : ∀ u, P.typeName? 3 u = some nm → u = tp)
    (hp : P.underlying tp = some (.pointer te)) (he : P.underlying te = some (.struct #[f])) (hft : f.type = ts) (hfo : f.offset = 0) (hs : P.underlying ts = some .string) (hc : P.cellsOf te = 1) (hcs : P.cellsOf ts = 1) :
    ∀ (L : List (String × List UInt8)) (ps : List MemPlace), (∀ x, x ∈ L → ∃ g, P.globalNamed x.1 = some g ∧ (P.globals[g]?).map (·.type) = some ti) →
      DataW.LaidVars P W (L.map fun x => (x.1, .iface nm (.ptr (.agg [.lit (.string x.2)])))) ps → ps.Nodup →
      (∀ b off, MemPlace.cell b off ∈ ps → (∃ c t, W.heap[b]? = some (.cells c t (0, 0))) ∧ ∀ u v, W.cell? ⟨b, off, none⟩ = some (.iface u v) → Value.okWide P W .any 0 u v) →
      ∃ a : Nat → Addr, (∀ i x, L[i]? = some x → W.var? P x.1 = some #[.iface tp (.pointer (some (a i)))] ∧ (∃ s, W.cell? (a i) = some (.string s) ∧ s.data.toList = x.2) ∧
          (∃ c t, W.heap[(a i).block]? = some (.cells c t (0, 0))) ∧ MemPlace.cell (a i).block (a i).off ∈ ps) ∧
        ∀ i j, i < L.length → j < L.length → i ≠ j → a i ≠ a j := by
  intro L
  induction L with
  | nil => intro ps _ _ _ _; exact ⟨fun _ => default, fun i x h => by simp at h, fun i j h => by simp at h⟩
  | cons x r ih =>
    intro ps hgs hv hnd hrows
    obtain ⟨n, text⟩ := x
    obtain ⟨g0, t0, cs0, f0, p0, q0, hg0, ht0, hv0, hd0, hvr, e0⟩ := hv
    obtain ⟨g, hg, ht⟩ := hgs (n, text) (List.mem_cons_self ..)
    obtain rfl := Option.some.inj (hg.symm.trans hg0)
    obtain rfl := Option.some.inj (ht.symm.trans ht0)
    subst e0
    obtain ⟨l0⟩ := cs0
    have ok0 : ∀ u v, l0 = [.iface u v] → Value.okWide P W .any 0 u v := fun u v e => by
      subst e
      exact (hrows g 0 (by simp [MemPlace.row])).2 u v (by simpa using World.var?_cell hg0 hv0 0)
    obtain ⟨a0, s0, rfl, hc0, hs0, hz0, rfl⟩ := errorString_of_trod hi hrow hp he hft hfo hs hc hcs hd0 ok0
    obtain ⟨c0, tt0, hb0⟩ := (hrows a0.block a0.off (by simp [MemPlace.row])).1
    have hnq : q0.Nodup := List.Nodup.sublist (List.sublist_append_right _ _) hnd
    obtain ⟨a', ha', hne'⟩ := ih q0 (fun x hx => hgs x (List.mem_cons_of_mem _ hx)) hvr hnq (fun b off hm => hrows b off (List.mem_append_right _ hm))
    have hnot : MemPlace.cell a0.block a0.off ∉ q0 := by
      intro hm
      have := (List.nodup_append.1 hnd).2.2
      exact this (.cell a0.block a0.off) (by simp [MemPlace.row]) (.cell a0.block a0.off) hm rfl
    refine ⟨fun i => match i with | 0 => a0 | k + 1 => a' k, ?_, ?_⟩
    · intro i x hx
      cases i with
      | zero =>
        simp only [List.getElem?_cons_zero, Option.some.injEq] at hx
        subst hx
        exact ⟨hv0, ⟨s0, hc0, hs0⟩, ⟨c0, tt0, hb0⟩, by simp [MemPlace.row]⟩
      | succ k =>
        simp only [List.getElem?_cons_succ] at hx
        obtain ⟨h1, h2, h3, h4⟩ := ha' k x hx
        exact ⟨h1, h2, h3, List.mem_append_right _ h4⟩
    · have far : ∀ k, k < r.length → a0 ≠ a' k := fun k hk e => by
        obtain ⟨_, _, _, h4⟩ := ha' k r[k] (by simp [hk])
        rw [← e] at h4
        exact hnot h4
      intro i j hi' hj' hij
      cases i with
      | zero =>
        cases j with
        | zero => exact absurd rfl hij
        | succ k => exact far k (by simpa using hj')
      | succ m =>
        cases j with
        | zero => exact (far m (by simpa using hi')).symm
        | succ k => exact hne' m k (by simpa using hi') (by simpa using hj') (by omega)

/-- The names and texts, in the rows' order. -/
def eightNames : List (String × List UInt8) := [("demon/api.ErrText", [100, 101, 109, 111, 110, 58, 32, 116, 101, 120, 116]), ("demon/api.ErrBound", [100, 101, 109, 111, 110, 58, 32, 98, 111, 117, 110, 100]), ("demon/api.ErrShape", [100, 101, 109, 111, 110, 58, 32, 115, 104, 97, 112, 101]), ("demon/api.ErrZero", [100, 101, 109, 111, 110, 58, 32, 122, 101, 114, 111]), ("demon/api.ErrName", [100, 101, 109, 111, 110, 58, 32, 110, 97, 109, 101]), ("demon/api.ErrNone", [100, 101, 109, 111, 110, 58, 32, 110, 111, 110, 101]), ("demon/api.ErrOrder", [100, 101, 109, 111, 110, 58, 32, 111, 114, 100, 101, 114]), ("demon/api.ErrKind", [100, 101, 109, 111, 110, 58, 32, 107, 105, 110, 100])]
def laidAll : List (String × DataW Unit) := [("errors.errorType", Rows.laid_errors_errorType), ("demon/api.ErrText", Rows.laid_demon_api_ErrText), ("demon/api.ErrBound", Rows.laid_demon_api_ErrBound), ("demon/api.ErrShape", Rows.laid_demon_api_ErrShape), ("demon/api.ErrZero", Rows.laid_demon_api_ErrZero), ("demon/api.ErrName", Rows.laid_demon_api_ErrName), ("demon/api.ErrNone", Rows.laid_demon_api_ErrNone), ("demon/api.ErrOrder", Rows.laid_demon_api_ErrOrder), ("demon/api.ErrKind", Rows.laid_demon_api_ErrKind)]
theorem laidAll_parts (W : World) : laidMetH Tryz.prog laidAll W = (laidMet Tryz.prog (eightNames.map fun x => (x.1, .iface "*errors.errorString" (.ptr (.agg [.lit (.string x.2)])))) W ∧ handlesMet Tryz.prog [("errors.errorType", Rows.laid_errors_errorType)] W) := by kernel_rfl

theorem var_at {W : World} {n : String} {g : Nat} {v : Value} (hg : Tryz.prog.globalNamed n = some g) (h : W.var? Tryz.prog n = some #[v]) : W.cell? ⟨g, 0, none⟩ = some v := by
  simpa using World.var?_cell hg h 0

theorem errs_of_laid {W : World} (h : laidMetH Tryz.prog laidAll W) : ∃ a : Nat → Addr, Errs W a ∧ ∀ i x, eightNames[i]? = some x → ∃ s, W.cell? (a i) = some (.string s) ∧ s.data.toList = x.2 := by
  rw [laidAll_parts] at h
  obtain ⟨⟨ps, hv, hnd, hrows⟩, hh⟩ := h
  obtain ⟨name, u, ty, e1, e2, e3, e4, e5⟩ := hh _ (List.mem_singleton.2 rfl)
  have en : name = [101, 114, 114, 111, 114] := (Option.some.inj e1).symm
  subst en
  obtain rfl := Option.some.inj (Tryz.rt.symm.trans e2)
  have hm : ty ∈ (List.range 215).filter fun t => Tryz.prog.rowNamed t [101, 114, 114, 111, 114] := List.mem_filter.2 ⟨List.mem_range.2 (by rw [← Tryz.size]; exact e3), e4⟩
  rw [Tryz.oneRow] at hm
  obtain rfl := List.mem_singleton.1 hm
  have hth : typeHandle Tryz.prog 29 = .pointer (some ⟨9, 29, none⟩) := by kernel_rfl
  rw [hth] at e5
  obtain ⟨a, ha, hne⟩ := laid_list Tryz.underlying29 Tryz.rowE Tryz.underlying183 Tryz.underlying203 rfl rfl Tryz.underlying9 Tryz.cellsE Tryz.cellsS eightNames ps
    (fun x hx => by
      simp only [eightNames, List.mem_cons, List.not_mem_nil, or_false] at hx
      rcases hx with rfl | rfl | rfl | rfl | rfl | rfl | rfl | rfl
      · exact ⟨_, Tryz.g0, by kernel_rfl⟩
      · exact ⟨_, Tryz.g1, by kernel_rfl⟩
      · exact ⟨_, Tryz.g2, by kernel_rfl⟩
      · exact ⟨_, Tryz.g3, by kernel_rfl⟩
      · exact ⟨_, Tryz.g4, by kernel_rfl⟩
      · exact ⟨_, Tryz.g5, by kernel_rfl⟩
      · exact ⟨_, Tryz.g6, by kernel_rfl⟩
      · exact ⟨_, Tryz.g7, by kernel_rfl⟩) hv hnd hrows
  refine ⟨a, ⟨var_at Tryz.g0 (ha 0 _ rfl).1, var_at Tryz.g1 (ha 1 _ rfl).1, var_at Tryz.g2 (ha 2 _ rfl).1, var_at Tryz.g3 (ha 3 _ rfl).1, var_at Tryz.g4 (ha 4 _ rfl).1, var_at Tryz.g5 (ha 5 _ rfl).1, var_at Tryz.g6 (ha 6 _ rfl).1, var_at Tryz.g7 (ha 7 _ rfl).1, var_at Tryz.et e5, ?_, ?_⟩, fun i x hx => (ha i x hx).2.1⟩
  · intro i hi
    have hl : eightNames.length = 8 := rfl
    exact (ha i eightNames[i] (List.getElem?_eq_getElem (by omega))).2.2.1
  · intro i j hi hj hij
    exact hne i j hi hj hij

/-- The door's own heap meets the condition. -/
theorem door_met (os : Os) (args : Array Value) : laidMetH Tryz.prog laidAll ((World.doorLaid Tryz.prog 168 os).forCall (fun _ _ => 0) ⟨#[], args, []⟩).memory :=
  laidMetH_of_parts3 (fuel := 8) (laidMet_of_run' 8 (by kernel_rfl) (by kernel_rfl)) (by kernel_rfl) (by kernel_rfl)
end Go.Proofs.YtklhfagcembigaaGreatDoor

/- A parameter of type []int opened. -/
namespace Go.Proofs.YtklhfagcembigaaGreatDoor
open Go.ChangeShapes Go.WideShapes Go.ChangeAt Go.RowKit Go.Joins Go.Deep

theorem Tryz.laidOut : laidOutB Tryz.prog = true := by kernel_rfl
theorem Tryz.cellsInt : Tryz.prog.cellsOf 3 = 1 := by kernel_rfl
theorem Tryz.cellsInts : Tryz.prog.cellsOf 22 = 1 := by kernel_rfl

set_option maxRecDepth 100000 in
/-- What a parameter of type []int gives: its slice, its numbers. -/
theorem open_nums {H : Type} {enc : TypeId × Value → H} {W : World} {base : Nat} {v : Value} {d : DataW H} {p : List MemPlace} (hv : Value.okWide Tryz.prog W .any base 22 v)
    (h : DataW.Trod enc Tryz.prog W 0 (fun _ => true) true 22 v d p) :
    ∃ (ad : Option Addr) (n cap : Nat) (z : Nat → Int), v = .slice ad n cap ∧ n ≤ maxLen ∧ NumsAt W (.slice ad n cap) n z := by
  obtain ⟨ad, n, cap, rfl⟩ := okWide_slice Tryz.underlying22 hv
  obtain ⟨fuel, hf⟩ := h
  rcases open_ints Tryz.underlying22 Tryz.underlying3 Tryz.cellsInt hf with ⟨hc, _⟩ | ⟨a, len, cap', zs, hc, _, hl, hm, hz, _, hcell, _⟩
  · simp [Value.cells] at hc
    obtain ⟨rfl, rfl, rfl⟩ := hc
    exact ⟨none, 0, 0, fun _ => 0, rfl, Nat.zero_le _, Or.inl ⟨none, 0, rfl, rfl⟩⟩
  · simp [Value.cells] at hc
    obtain ⟨rfl, rfl, rfl⟩ := hc
    simp only [if_true] at hz
    rcases Nat.eq_zero_or_pos n with rfl | hpos
    · exact ⟨some a, 0, cap, fun _ => 0, rfl, Nat.zero_le _, Or.inl ⟨some a, cap, rfl, rfl⟩⟩
    · obtain ⟨b, o, spot⟩ := a
      have hspot : spot = none := by simpa [Addr.add] using World.cell?_spot (hcell 0 (by omega))
      subst hspot
      refine ⟨_, n, cap, fun i => zs.getD i 0, rfl, by omega, Or.inr ⟨b, o, cap, rfl, hpos, fun i hi => ?_⟩⟩
      have := hcell i (by omega)
      rw [Go.Proofs.YtklhfagcembigaaGreatDoor.add_plain] at this
      exact this
end Go.Proofs.YtklhfagcembigaaGreatDoor
