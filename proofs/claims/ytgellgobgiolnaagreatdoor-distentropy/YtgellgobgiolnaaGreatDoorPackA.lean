/- The document's digits, power, Sides, TooGreat and SignOf. -/
import Derived.Test.YtgellgobgiolnaaGreatDoorBigMul
import Derived.Test.YtgellgobgiolnaaGreatDoorValidWalk
import Derived.Laws.MathBits
import Derived.Test.YtgellgobgiolnaaGreatDoorGList
import Derived.Test.YtgellgobgiolnaaGreatDoorPutF
import Derived.Test.YtgellgobgiolnaaGreatDoorWeights
namespace Go.Proofs.YtgellgobgiolnaaGreatDoor
open Go.RowKit

theorem bitLen_half {n : Nat} (h : 0 < n) : bitLen n = bitLen (n / 2) + 1 := by
  rcases Nat.lt_or_ge n 2 with h1 | h1
  · obtain rfl : n = 1 := by omega
    decide
  · have := bitLen_shift n 1 (by simp; omega)
    simp at this
    omega
theorem bitLen_zero : bitLen 0 = 0 := by simp [bitLen]
theorem bitLen_million {n : Nat} (h : n ≤ 1000000) : bitLen n ≤ 20 := by
  unfold bitLen
  split
  · omega
  · rename_i h0
    have := (Nat.log2_lt h0).2 (show n < 2 ^ 20 by omega)
    omega
theorem bitLen_pos {n : Nat} (h : 0 < n) : 0 < bitLen n := by
  rw [bitLen_half h]; omega

theorem pow_half (n k : Nat) (h : ¬ k % 2 = 1) : n ^ (k / 2) * n ^ (k / 2) = n ^ k := by
  rw [← Nat.pow_add]; congr 1; omega
theorem pow_half_odd (n k : Nat) (h : k % 2 = 1) : n ^ (k / 2) * n ^ (k / 2) * n = n ^ k := by
  rw [← Nat.pow_add, ← Nat.pow_succ]; congr 1; omega

/-- Sizes times bits, of the first k terms. -/
def cost (p c : Nat → Int) : Nat → Nat
  | 0 => 0
  | k + 1 => cost p c k + (c k).natAbs * bitLen (p k).toNat
def Bounded (n : Nat) (p c : Nat → Int) : Prop := ∀ i, i < n → 2 ≤ p i ∧ p i ≤ 1000000 ∧ -1099511627776 ≤ c i ∧ c i ≤ 1099511627776 ∧ c i ≠ 0
theorem OkTo.bounded {n : Nat} {p c : Nat → Int} (h : OkTo p c n) : Bounded n p c := fun i hi => ⟨(h i hi).2.2.2.2.2.1, (h i hi).2.1, (h i hi).2.2.2.1, (h i hi).2.2.2.2.1, (h i hi).2.2.1⟩
theorem LogAt.cellsAt {w : World} {ad : Option Addr} {n cap : Nat} {p c : Nat → Int} (h : LogAt w (.slice ad n cap) n p c) {k : Nat} (hk : k < n) : ∃ b o, ad = some ⟨b, o, none⟩ ∧ w.cell? ⟨b, o + k * 2, none⟩ = some (.int .i64 (p k)) ∧ w.cell? ⟨b, o + k * 2 + 1, none⟩ = some (.int .i64 (c k)) := by
  rcases h with ⟨_, _, _, rfl⟩ | ⟨b, o, _, h1, _, h3⟩
  · omega
  · simp only [Value.slice.injEq] at h1
    exact ⟨b, o, h1.1, h3 k hk⟩
theorem cost_mono (p c : Nat → Int) {j k : Nat} (h : j ≤ k) : cost p c j ≤ cost p c k := by
  induction k with
  | zero => obtain rfl : j = 0 := by omega
            exact Nat.le_refl _
  | succ k ih =>
    rcases Nat.lt_or_ge k j with h' | h'
    · obtain rfl : j = k + 1 := by omega
      exact Nat.le_refl _
    · have := ih h'
      show _ ≤ cost p c k + _
      omega

theorem quo_nat (left b : Nat) (hl : left ≤ 40000) : wrap64 ((left : Int) / (b : Int)) = ((left / b : Nat) : Int) := by
  have h0 : (left : Int) / (b : Int) = ((left / b : Nat) : Int) := by simp
  have h1 : left / b ≤ left := Nat.div_le_self _ _
  rw [h0]
  generalize left / b = q at h1
  rw [w64 _ (by omega)]
theorem too_more {left b m : Nat} {x : Int} (hx : x = (m : Int)) (hb : 0 < b) (hl : left ≤ 40000) (h : left < m * b) : wrap64 ((left : Int) / (b : Int)) < x := by
  rw [quo_nat left b hl, hx]
  have := (Nat.div_lt_iff_lt_mul hb).2 h
  omega
theorem too_less {left b m : Nat} {x : Int} (hx : x = (m : Int)) (hb : 0 < b) (hl : left ≤ 40000) (h : m * b ≤ left) : x ≤ wrap64 ((left : Int) / (b : Int)) := by
  rw [quo_nat left b hl, hx]
  have := (Nat.le_div_iff_mul_le hb).2 h
  omega
theorem too_prod {b m : Nat} {x : Int} (hx : x = (m : Int)) : x * (b : Int) = ((m * b : Nat) : Int) := by rw [hx]; simp

/-- The products of powers. -/
def sideUp (p c : Nat → Int) (t : Nat) : Nat → Nat
  | 0 => 1
  | k + 1 => if 0 < c k then sideUp p c t k * (p k).toNat ^ ((c k).natAbs * t) else sideUp p c t k
def sideDown (p c : Nat → Int) (t : Nat) : Nat → Nat
  | 0 => 1
  | k + 1 => if 0 < c k then sideDown p c t k else sideDown p c t k * (p k).toNat ^ ((c k).natAbs * t)
theorem sideUp_pos {p c : Nat → Int} {t k : Nat} (h : 0 < c k) : sideUp p c t (k + 1) = sideUp p c t k * (p k).toNat ^ ((c k).natAbs * t) := by
  show (if _ then _ else _) = _
  rw [if_pos h]
theorem sideUp_neg {p c : Nat → Int} {t k : Nat} (h : ¬ 0 < c k) : sideUp p c t (k + 1) = sideUp p c t k := by
  show (if _ then _ else _) = _
  rw [if_neg h]
theorem sideDown_pos {p c : Nat → Int} {t k : Nat} (h : 0 < c k) : sideDown p c t (k + 1) = sideDown p c t k := by
  show (if _ then _ else _) = _
  rw [if_pos h]
theorem sideDown_neg {p c : Nat → Int} {t k : Nat} (h : ¬ 0 < c k) : sideDown p c t (k + 1) = sideDown p c t k * (p k).toNat ^ ((c k).natAbs * t) := by
  show (if _ then _ else _) = _
  rw [if_neg h]
theorem pow_bits (q m t : Nat) : q ^ (m * t) ≤ 2 ^ (t * (m * bitLen q)) := by
  have h1 : q ≤ 2 ^ bitLen q := Nat.le_of_lt (bitLen_spec q).1
  have h2 := Nat.pow_le_pow_left h1 (m * t)
  rw [← Nat.pow_mul] at h2
  rw [show t * (m * bitLen q) = bitLen q * (m * t) by grind]
  exact h2
theorem sides_le (p c : Nat → Int) (t : Nat) : ∀ k, sideUp p c t k ≤ 2 ^ (t * cost p c k) ∧ sideDown p c t k ≤ 2 ^ (t * cost p c k)
  | 0 => by simp [sideUp, sideDown, cost]
  | k + 1 => by
    have ih := sides_le p c t k
    have hp := pow_bits (p k).toNat (c k).natAbs t
    have e : 2 ^ (t * cost p c (k + 1)) = 2 ^ (t * cost p c k) * 2 ^ (t * ((c k).natAbs * bitLen (p k).toNat)) := by
      rw [← Nat.pow_add]; congr 1; show t * (cost p c k + _) = _; rw [Nat.mul_add]
    rw [e]
    have h1 : 1 ≤ 2 ^ (t * ((c k).natAbs * bitLen (p k).toNat)) := Nat.one_le_two_pow
    by_cases hc : 0 < c k
    · rw [sideUp_pos hc, sideDown_pos hc]
      exact ⟨Nat.mul_le_mul ih.1 hp, by have := Nat.mul_le_mul ih.2 h1; rwa [Nat.mul_one] at this⟩
    · rw [sideUp_neg hc, sideDown_neg hc]
      exact ⟨by have := Nat.mul_le_mul ih.1 h1; rwa [Nat.mul_one] at this, Nat.mul_le_mul ih.2 hp⟩
theorem cost_lt {p c : Nat → Int} {t k n E : Nat} (hk : k ≤ n) (h : 2 ^ (t * cost p c n) < 1000000 ^ E) : 2 ^ (t * cost p c k) < 1000000 ^ E :=
  Nat.lt_of_le_of_lt (Nat.pow_le_pow_right (by decide) (Nat.mul_le_mul_left _ (cost_mono p c hk))) h
theorem term_lt {p c : Nat → Int} {t k n E : Nat} (hk : k < n) (h : 2 ^ (t * cost p c n) < 1000000 ^ E) : (p k).toNat ^ ((c k).natAbs * t) < 1000000 ^ E := by
  refine Nat.lt_of_le_of_lt (Nat.le_trans (pow_bits _ _ _) ?_) (cost_lt (show k + 1 ≤ n by omega) h)
  refine Nat.pow_le_pow_right (by decide) (Nat.mul_le_mul_left _ ?_)
  show _ ≤ cost p c k + _
  omega
theorem size_le_cost {p c : Nat → Int} {k n : Nat} (hk : k < n) (hb : Bounded n p c) : (c k).natAbs ≤ cost p c n := by
  have h1 := cost_mono p c (show k + 1 ≤ n by omega)
  have h2 : 0 < bitLen (p k).toNat := bitLen_pos (by have := (hb k hk).1; omega)
  have h3 : (c k).natAbs * 1 ≤ (c k).natAbs * bitLen (p k).toNat := Nat.mul_le_mul_left _ h2
  have h4 : cost p c (k + 1) = cost p c k + (c k).natAbs * bitLen (p k).toNat := rfl
  omega

end Go.Proofs.YtgellgobgiolnaaGreatDoor

/- (sum).putTerms. -/
namespace Go.Proofs.YtgellgobgiolnaaGreatDoor
open Go.RowKit Go.Maps

theorem map_no_cell {w : World} {b nn o : Nat} {D : DataW Unit} {k : TypeId} {R : Value → Option (DataW Unit × List MemPlace)} (h : w.ownsMap Tryz.prog k R b nn D) : w.cell? ⟨b, o, none⟩ = none := by
  obtain ⟨es, clock, hm, _⟩ := h
  simp [World.cell?, hm]
theorem atL_join : ∀ (l : List (Int × Int)) (e : Int × Int) (x : Int), (∀ f ∈ l, f.1 ≠ e.1) → atL (l ++ [e]) x = atL l x + if e.1 = x then e.2 else 0
  | [], e, x, _ => by simp [atL]
  | y :: r, e, x, h => by
    have ih := atL_join r e x (fun f hf => h f (List.mem_cons_of_mem _ hf))
    simp only [List.cons_append, atL]
    by_cases hy : y.1 = x
    · rw [if_pos hy, if_pos hy, if_neg (fun he => h y (List.mem_cons_self ..) (hy.trans he.symm))]; omega
    · rw [if_neg hy, if_neg hy]; exact ih
theorem take_before {t : List (Int × Int)} (hr : Rising t) {k : Nat} (hk : k < t.length) : ∀ f ∈ t.take k, f.1 ≠ (t.getD k (0, 0)).1 := fun f hf => by
  have h := hr.sublist (List.take_sublist (k + 1) t)
  rw [take_join hk] at h
  have := (List.pairwise_append.1 h).2.2 f hf (t.getD k (0, 0)) (by simp)
  omega
theorem atL_take {t : List (Int × Int)} (hr : Rising t) {k : Nat} (hk : k < t.length) (x : Int) : atL (t.take (k + 1)) x = atL (t.take k) x + if pOf t k = x then cOf t k else 0 := by
  rw [take_join hk, atL_join _ _ _ (take_before hr hk)]
  rfl
theorem atL_take_none {t : List (Int × Int)} (hr : Rising t) {k : Nat} (hk : k < t.length) : atL (t.take k) (pOf t k) = 0 := atL_none (take_before hr hk)
theorem atL_bound {t : List (Int × Int)} {B : Int} (hB : 0 ≤ B) (h : ∀ e ∈ t, -B ≤ e.2 ∧ e.2 ≤ B) (x : Int) : -B ≤ atL t x ∧ atL t x ≤ B := by
  by_cases h0 : atL t x = 0
  · rw [h0]; omega
  · exact h _ (atL_some h0)

/-- What putTerms keeps: k terms are put. -/
structure InTerms (w wr : World) (b : Nat) (m : Int) (l0 t : List (Int × Int)) (nn0 : Nat) (l : List (Int × Int)) (k : Nat) : Prop where
  own : wr.ownsMap Tryz.prog 3 (plainElem (H := Unit) Tryz.prog 3) b (nn0 + k) (mapOf l)
  rise : Rising l
  val : ∀ x, atL l x = atL l0 x + atL (t.take k) x * m
  keys : ∀ e ∈ l, 2 ≤ e.1 ∧ e.1 ≤ 1000000
  len : l.length ≤ l0.length + k
  grow : w.grownBy wr (some b)
  box : wr.cell? ⟨w.heap.size, 1, none⟩ = some (.map (some b))

theorem InTerms.put {w wr w1 : World} {b : Nat} {m : Int} {l0 t l : List (Int × Int)} {nn0 k : Nat} {X : Obj} (h : InTerms w wr b m l0 t nn0 l k) (hb : b < w.heap.size) (ht : Rising t) (hk : k < t.length) (hp : 2 ≤ pOf t k ∧ pOf t k ≤ 1000000)
    (ho : w1.ownsMap Tryz.prog 3 (plainElem (H := Unit) Tryz.prog 3) b (nn0 + k + 1) ((mapOf l).put (.int .i64 (pOf t k)) (.lit (.int .i64 (atL l (pOf t k) + cOf t k * m))))) (hg : (wr.alloc X).grownBy w1 (some b)) :
    InTerms w w1 b m l0 t nn0 (putL l (pOf t k) (atL l (pOf t k) + cOf t k * m)) (k + 1) := by
  have hgg : w.grownBy (wr.alloc X) (some b) := ⟨h.grow.os, h.grow.tape, h.grow.output, Nat.le_trans h.grow.size (by simp), fun j hj hn => (Below.heap_alloc _ _ j (Nat.lt_of_lt_of_le hj h.grow.size)).trans (h.grow.block j hj hn)⟩
  refine ⟨by rw [put_map] at ho; rw [← Nat.add_assoc]; exact ho, rising_put h.rise _ _, fun x => ?_, fun e he => ?_, ?_, grown_two hgg hg, cell_beside hg (by rw [World.cell?_alloc_lt _ _ ⟨w.heap.size, 1, none⟩ (cell_lt h.box)]; exact h.box) (by omega)⟩
  · rw [atL_put h.rise, atL_take ht hk, Int.add_mul]
    by_cases hx : x = pOf t k
    · rw [if_pos hx, if_pos hx.symm, h.val, hx]; omega
    · rw [if_neg hx, if_neg (fun e => hx e.symm), h.val, Int.zero_mul]; omega
  · rcases mem_put.1 he with rfl | ⟨he, _⟩
    · exact hp
    · exact h.keys e he
  · have h1 := length_put l (pOf t k) (atL l (pOf t k) + cOf t k * m)
    have h2 := h.len
    omega

theorem prod_bd {x m : Int} (hx : -1099511627776 ≤ x ∧ x ≤ 1099511627776) (hm : 0 ≤ m ∧ m ≤ 1000000) : -1099511627776000000 ≤ x * m ∧ x * m ≤ 1099511627776000000 := by
  obtain ⟨a, rfl⟩ := Int.eq_ofNat_of_zero_le hm.1
  have h1 : x * (a : Int) ≤ 1099511627776 * (a : Int) := Int.mul_le_mul_of_nonneg_right hx.2 (by omega)
  have h2 : -1099511627776 * (a : Int) ≤ x * (a : Int) := Int.mul_le_mul_of_nonneg_right hx.1 (by omega)
  omega

end Go.Proofs.YtgellgobgiolnaaGreatDoor

/- dist.putEntropy: the entropy of weights put into a sum. -/
namespace Go.Proofs.YtgellgobgiolnaaGreatDoor
open Go.RowKit Go.Maps

/-- What the i-th weight puts: its logarithm's part of a prime. -/
def entV (z : Nat → Int) (N : Nat) (x : Int) (i : Nat) : Int := z i * multI x N - z i * multI x (z i).toNat
/-- A function that puts into the sum at b. -/
def putV (den : Int) (b : Nat) : Value := .func (.func 62) #[.agg #[.int .i64 den, .map (some b)]] #[]

theorem multI_small (x : Int) {n : Nat} (h6 : n ≤ 1000000) : 0 ≤ multI x n ∧ multI x n ≤ 19 := by
  refine ⟨multI_nonneg x n, ?_⟩
  rcases Nat.eq_zero_or_pos n with rfl | h
  · simp [multI, mult, multF]
  · exact multI_le x h h6
theorem mul_weight {t m : Int} (ht : -4096 ≤ t ∧ t ≤ 4096) (hm : 0 ≤ m ∧ m ≤ 19) : -77824 ≤ t * m ∧ t * m ≤ 77824 := by
  obtain ⟨k, rfl⟩ := Int.eq_ofNat_of_zero_le hm.1
  have hk : k ≤ 19 := by omega
  rcases k with _ | _ | _ | _ | _ | _ | _ | _ | _ | _ | _ | _ | _ | _ | _ | _ | _ | _ | _ | _ | k <;> omega
theorem entV_le {z : Nat → Int} {N i : Nat} (x : Int) (hz : 0 ≤ z i ∧ z i ≤ 4096) (hN : N ≤ 4096) : -200000 ≤ entV z N x i ∧ entV z N x i ≤ 200000 := by
  unfold entV
  have h1 := mul_weight (t := z i) (by omega) (multI_small x (n := N) (by omega))
  have h2 := mul_weight (t := z i) (by omega) (multI_small x (n := (z i).toNat) (by omega))
  omega
theorem sumN_bound {f : Nat → Int} {B : Int} : ∀ {n : Nat}, (∀ i, i < n → -B ≤ f i ∧ f i ≤ B) → -((n : Int) * B) ≤ sumN f n ∧ sumN f n ≤ (n : Int) * B
  | 0, _ => by simp [sumN]
  | n + 1, h => by
    have ih := sumN_bound (f := f) (B := B) (n := n) (fun i hi => h i (by omega))
    have h1 := h n (by omega)
    simp only [sumN]
    have : ((n + 1 : Nat) : Int) * B = (n : Int) * B + B := by rw [Int.natCast_add, Int.add_mul]; simp
    rw [this]
    omega
/-- A list's cells lie where no map does. -/
theorem RowAt.beside {w w' : World} {b o n mb nn : Nat} {z : Nat → Int} {D : DataW Unit} {k : TypeId} {R : Value → Option (DataW Unit × List MemPlace)} (h : RowAt w b o n z) (hm : w.ownsMap Tryz.prog k R mb nn D) (hg : w.grownBy w' (some mb)) : RowAt w' b o n z := fun i hi => by
  have h1 := h i hi
  refine cell_beside hg h1 ?_
  rintro rfl
  rw [map_no_cell hm] at h1
  cases h1

set_option maxRecDepth 100000 in
set_option maxHeartbeats 2000000 in
theorem putEntropy_some (den : Int) (mb nn0 b o cap n : Nat) (z : Nat → Int) (l0 : List (Int × Int)) (w : World) (hown : w.ownsMap Tryz.prog 3 (plainElem (H := Unit) Tryz.prog 3) mb nn0 (mapOf l0)) (hr : Rising l0) (hk : ∀ e ∈ l0, 2 ≤ e.1 ∧ e.1 ≤ 1000000)
    (hb : ∀ x, -1000000000000 ≤ atL l0 x ∧ atL l0 x ≤ 1000000000000) (hnn : nn0 ≤ 100000) (h : RowAt w b o n z) (hz : ∀ i, i < n → 0 ≤ z i) (hs : sumN z n ≤ 4096) (hn : n ≤ 256) :
    Calls Tryz.prog 35 #[.slice (some ⟨b, o, none⟩) n cap, putV den mb] w fun e w' => e = .returned (.tuple #[]) ∧ ∃ l nn, Puts w w' mb (fun x => sumN (entV z (sumN z n).toNat x) n) (2 * n) l0 nn0 l nn := by
  have hle : ∀ k, k ≤ n → 0 ≤ sumN z k ∧ sumN z k ≤ 4096 := fun k hk => ⟨sumN_nonneg (fun i hi => hz i (by omega)), Int.le_trans (sumN_mono hz hk) hs⟩
  have hzi : ∀ i, i < n → 0 ≤ z i ∧ z i ≤ 4096 := fun i hi => ⟨hz i hi, Int.le_trans (sumN_ge hz hi) hs⟩
  have ht := total_some b o cap n z w h (fun k hk => by have := hle k hk; omega) (fun i hi => by have := hzi i hi; omega) (by omega)
  obtain ⟨N, hN⟩ := Int.eq_ofNat_of_zero_le (hle n (Nat.le_refl _)).1
  have hN6 : N ≤ 4096 := by have := (hle n (Nat.le_refl _)).2; omega
  rw [hN] at ht ⊢
  have HP0 : Hid (Puts w w mb (fun x => sumN (entV z N x) 0) (2 * 0) l0 nn0 l0 nn0) := ⟨hown, hr, fun x => by simp [sumN], hk, by omega, by omega, grown_refl _ _⟩
  have HROW := Hid.mk' (fun (wr : World) (hg : w.grownBy wr (some mb)) => h.beside hown hg)
  have HZI := Hid.mk' hzi
  have HB := Hid.mk' hb
  have HNP : Hid (∀ i, i < n → z i ≠ 0 → 1 ≤ N) := fun i hi h0 => by have h1 := sumN_ge hz hi; have h2 := hz i hi; omega
  simp only [Int.toNat_natCast]
  clear hown hr hk hb h hz hle hzi
  unfold putV
  go_enter Tryz.func35, Tryz.ntmps35
  go_wp2_with fail
  refine ht.mono ?_
  clear ht
  rintro e w1 ⟨rfl, hw1⟩
  rw [hw1]
  clear hw1
  go_wp2_with fail
  go_loopw [11] (fun i wr => ∃ (k nn : Nat) (l : List (Int × Int)), k ≤ n ∧ i = .int .i64 k ∧ Hid (Puts w wr mb (fun x => sumN (entV z N x) k) (2 * k) l0 nn0 l nn)) (fun i _ => n - (intOf i).toNat)
  case atStart => exact ⟨0, nn0, l0, Nat.zero_le _, rfl, HP0⟩
  case round =>
    clear HP0
    obtain ⟨k, nn, l, hk, rfl, HP⟩ := hrel
    rcases Nat.lt_or_ge k n with h1 | h1
    · have hc := HROW.out _ HP.out.grow k h1
      have hkn : (k : Int) < (n : Int) := by omega
      have hzk := HZI.out k h1
      have HV : Hid (∀ x, sumN (entV z N x) (k + 1) = sumN (entV z N x) k + (z k * multI x N + -(z k) * multI x (z k).toNat)) := fun x => by
        show sumN (entV z N x) k + entV z N x k = _
        unfold entV
        rw [Int.neg_mul]; omega
      have HBD : Hid (∀ x, -1000100000000 ≤ atL l x ∧ atL l x ≤ 1000100000000) := fun x => by
        rw [HP.out.val]
        have h2 := HB.out x
        have h3 := sumN_bound (f := entV z N x) (B := 200000) (n := k) (fun i hi => entV_le x (HZI.out i (by omega)) hN6)
        have : (k : Int) * 200000 ≤ 51200000 := by omega
        omega
      have HNK := Hid.mk' (HNP.out k h1)
      obtain ⟨y, hy⟩ := Int.eq_ofNat_of_zero_le hzk.1
      rw [hy] at hc hzk HV HNK
      simp only [Int.toNat_natCast] at HV
      have hy6 : y ≤ 4096 := by have := hzk.2; omega
      have hnn1 : nn ≤ 200000 := by have := HP.out.cnt; omega
      have HP1 := Hid.mk' (Put_by den (y : Int) mb N nn l wr HP.out.own HP.out.rise HP.out.keys (fun x => by have := HBD.out x; omega) (by omega) (fun h => HNK.out h) (by omega) (by omega))
      clear hy hzk
      go_wp2_with fail
      refine HP1.out.mono ?_
      rintro e w2 ⟨rfl, l2, nn2, hp2⟩
      have hnn2 : nn2 ≤ 200020 := by have := hp2.cnt; omega
      have HP2 := Hid.mk' (Put_by den (-(y : Int)) mb y nn2 l2 w2 hp2.own hp2.rise hp2.keys (fun x => by rw [hp2.val]; have h2 := HBD.out x; have h3 := mul_weight (t := (y : Int)) (by omega) (multI_small x (n := N) (by omega)); omega) (by omega) (fun h => by omega) (by omega) (by omega))
      have HQ2 := Hid.mk' hp2
      clear hp2 HP1
      go_wp2_with fail
      refine HP2.out.mono ?_
      rintro e w3 ⟨rfl, l3, nn3, hp3⟩
      have HQ3 := Hid.mk' ((HP.out.trans (HQ2.out.trans hp3)).congr (d := 2 * (k + 1)) (by omega) (g := fun x => sumN (entV z N x) (k + 1)) (fun x => (HV.out x).symm))
      clear hp3 HP2
      go_wp2_with fail
      exact ⟨⟨k + 1, nn3, l3, h1, by go_num, HQ3⟩, by simp [intOf]; omega⟩
    · obtain rfl : k = n := by omega
      go_wp2_with fail
      go_end0
      exact ⟨rfl, l, nn, HP.out⟩
end Go.Proofs.YtgellgobgiolnaaGreatDoor
